/- The contracts of the library that are used, at this program. -/
import Derived.RangeFuncCalls
import Derived.RangeFuncNested
import Derived.RangeFuncBound
import Derived.RangeFuncLeaves
import Derived.Shelf.Abstract
import Derived.Shelf.RegionOpen
import Derived.WalkKit
import Derived.OwnWalkIn
import Derived.TacticsInMore
import Derived.LoopNIn
import Derived.LoopIn
import Derived.Lib.OthersKept
import Derived.Test.YtgnnhenbmnopaaaKa
import Derived.Test.YtgnnhenbmnopaaaProg
import Derived.Shelf.Strings.BuilderK
import Derived.Shelf.Strings.Repeat
import Derived.KernelRfl
set_option linter.all false
set_option linter.unusedSimpArgs false
set_option linter.unnecessarySimpa false
set_option linter.unusedVariables false
set_option linter.unusedSectionVars false
namespace Go.Proofs
open Go.RowKit Go.Shelf Go.Aw
attribute [local go_sem] Oper.semAt_some
/-- The text of a word. -/
def Try.txt (w : List Nat) : ByteArray := ⟨(w.map fun d => UInt8.ofNat (48 + d)).toArray⟩
theorem Try.txt_size (w : List Nat) : (Try.txt w).size = w.length := by simp [Try.txt, ByteArray.size]
theorem Try.txt_get {w : List Nat} (hw : Dig w) (i : Nat) (h : i < (Try.txt w).size) : ((Try.txt w)[i]'h).toNat = 48 + w[i]'(by rwa [Try.txt_size] at h) := by
  have hi : i < w.length := by rwa [Try.txt_size] at h
  have : (Try.txt w)[i]'h = UInt8.ofNat (48 + w[i]'hi) := by
    show (Try.txt w).data[i] = _
    simp [Try.txt]
  rw [this]
  have := hw (w[i]'hi) (List.getElem_mem hi)
  simp [UInt8.toNat_ofNat']
  omega
theorem Try.w64 {n : Int} (h : -9223372036854775808 ≤ n) (h2 : n ≤ 9223372036854775807) : wrap64 n = n := by unfold wrap64; omega
/-- No row of bytes. -/
def Try.NR (W : World) (k : Nat) : Prop := ∀ c fz, W.heap[k]? ≠ some (.cells c 5 fz)
def Try.plainO : Obj → Bool
  | .cells _ t _ => !(Nat.beq t 5)
  | _ => true
theorem Try.NR.of {W : World} {k : Nat} {o : Obj} (h : W.heap[k]? = some o) (ho : Try.plainO o = true) : Try.NR W k := by
  intro c fz e
  rw [h] at e
  cases e
  simp [Try.plainO] at ho
theorem Try.NR.same {A B : World} {k : Nat} (h : Try.NR A k) (e : B.heap[k]? = A.heap[k]?) : Try.NR B k := by intro c fz; rw [e]; exact h c fz
theorem Try.NR.alloc {A : World} {k : Nat} (h : Try.NR A k) {o : Obj} (ho : Try.plainO o = true) : Try.NR (A.alloc o) k := by
  rcases Nat.lt_trichotomy k A.heap.size with c | c | c
  · exact h.same (Below.heap_alloc _ _ _ c)
  · subst c; exact .of (World.alloc_heap_new A o) ho
  · intro x fz e
    have := (Array.getElem?_eq_some_iff.1 e).1
    simp at this; omega
theorem Try.NR.setCell {A : World} {k : Nat} (h : Try.NR A k) (p : Addr) (v : Value) : Try.NR (A.setCell p v) k := by
  by_cases c : k = p.block
  · intro x fz e
    subst c
    have hlt : p.block < A.heap.size := by
      have := (Array.getElem?_eq_some_iff.1 e).1
      simpa [World.setCell] using this
    have hk : A.heap[p.block]? = some A.heap[p.block] := Array.getElem?_eq_getElem hlt
    simp only [World.setCell, Array.getElem?_modify, if_true, hk, Option.map_some, Option.some.injEq] at e
    cases ho : A.heap[p.block] with
    | cells a b d => rw [ho] at e hk; simp at e; exact h a d (by rw [hk, e.2.1])
    | _ => rw [ho] at e; cases e
  · exact h.same (Below.heap_setCell _ _ _ _ c)
/-- What the iterator may turn: its two blocks. -/
structure Try.Turn (b : Nat) (A B : World) : Prop where
  os : B.os = A.os
  tape : B.tape = A.tape
  output : B.output = A.output
  size : A.heap.size ≤ B.heap.size
  block : ∀ k, k < A.heap.size → k ≠ b → k ≠ b + 1 → B.heap[k]? = A.heap[k]?
  kind : ∀ k, Try.NR A k → Try.NR B k
theorem Try.Turn.refl (b : Nat) (A : World) : Try.Turn b A A := ⟨rfl, rfl, rfl, Nat.le_refl _, fun _ _ _ _ => rfl, fun _ h => h⟩
theorem Try.Turn.trans {b : Nat} {A B C : World} (h : Try.Turn b A B) (k : Try.Turn b B C) : Try.Turn b A C :=
  ⟨k.os.trans h.os, k.tape.trans h.tape, k.output.trans h.output, Nat.le_trans h.size k.size, fun i hi h1 h2 => (k.block i (Nat.lt_of_lt_of_le hi h.size) h1 h2).trans (h.block i hi h1 h2), fun i x => k.kind i (h.kind i x)⟩
theorem Try.Turn.setCell {b : Nat} {A B : World} (h : Try.Turn b A B) {p : Addr} (hp : p.block = b) (v : Value) : Try.Turn b A (B.setCell p v) :=
  h.trans ⟨rfl, rfl, rfl, by simp [World.setCell], fun k _ h1 _ => Below.heap_setCell _ _ _ _ (by rw [hp]; exact h1), fun _ h => h.setCell _ _⟩
theorem Try.Turn.alloc {b : Nat} {A B : World} (h : Try.Turn b A B) (o : Obj) (ho : Try.plainO o = true) : Try.Turn b A (B.alloc o) :=
  h.trans ⟨rfl, rfl, rfl, by simp, fun k hk _ _ => Below.heap_alloc _ _ _ hk, fun _ h => h.alloc ho⟩
theorem Try.Turn.iterAt {b : Nat} {A B : World} (h : Try.Turn b A B) (s : ByteArray) (pos : Nat) : Try.Turn b A (B.iterAt (b + 1) s pos) :=
  h.trans ⟨rfl, rfl, rfl, by rw [Lib.iterAt_size]; exact Nat.le_refl _, fun k _ _ h2 => Lib.iterAt_other _ _ _ _ _ h2, fun k hn => by
    by_cases c : k = b + 1
    · subst c
      intro x fz e
      have hlt := (Array.getElem?_eq_some_iff.1 e).1
      rw [Lib.iterAt_size] at hlt
      simp [World.iterAt, hlt] at e
    · exact hn.same (Lib.iterAt_other _ _ _ _ _ c)⟩
theorem Try.Turn.drew {b : Nat} {A B : World} (h : Try.Turn b A B) : Try.Turn b A B.drew := ⟨h.os, h.tape, h.output, h.size, h.block, h.kind⟩
abbrev Try.pr (p : Nat × Nat) : Value := .agg #[.int .i64 p.1, .int .i64 p.2]
/-- What has come and what comes of a word, read up to a place. -/
def Try.st (w : List Nat) (pos : Nat) (pre : List (Nat × Nat)) (k d : Nat) : Prop :=
  (k = 0 ∧ d = 0 ∧ pos = 0 ∧ pre = []) ∨ (1 ≤ k ∧ k ≤ pos ∧ d ∈ w ∧ pre ++ runsFrom k d (w.drop pos) = runs w)
theorem Try.iter_new (w : World) (s : ByteArray) : (w.iter s 0).heap[w.heap.size]? = some (.stringIter s 0) := World.iter_heap w s 0
set_option maxRecDepth 100000 in
set_option maxHeartbeats 1000000 in
theorem Try.seq52 (F : Fence) (n : Nat) (h52 : F.fn 52) (hro : F.round = none) (hn : 1 ≤ n) (l q : Nat) (ds : List Nat) (hd : Dig ds) (hlen : ds.length < 1099511627776) (J Jx : List (Nat × Nat) → World → Prop)
    (W : World) (hJ : ∀ pre A B, J pre A → Try.Turn W.heap.size A B → J pre B)
    (hY : ∀ pre x W1, J pre W1 → W.heap.size + 2 ≤ W1.heap.size → pre ++ [x] <+: runs ds → YieldAt F (n - 1) Try.prog l #[Try.pr x] W1 fun e W' =>
      (e = .returned (.bool true) ∧ J (pre ++ [x]) W' ∧ W1.heap.size ≤ W'.heap.size ∧ W'.heap[W.heap.size]? = W1.heap[W.heap.size]? ∧ W'.heap[W.heap.size + 1]? = W1.heap[W.heap.size + 1]?) ∨ (e = .returned (.bool false) ∧ Jx (pre ++ [x]) W'))
    (hq : W.cell? ⟨q, 0, none⟩ = some (.string (Try.txt ds))) (h0 : J [] W) :
    CallsIn F n Try.prog 52 #[.func (.yield l) #[] #[], .pointer (some ⟨q, 0, none⟩)] W fun e W' => (∃ v, e = .returned v) ∧
      (J (runs ds) W' ∨ ∃ pre, pre <+: runs ds ∧ Jx pre W') := by
  have hqb : q < W.heap.size := World.block_lt_of_cell? W ⟨q, 0, none⟩ hq
  refine callsIn_of_wp Try.func52 rfl h52 ?_ hro
  simp only [Try.ntmps52, List.size_toArray, List.length_cons, List.length_nil, Nat.reduceAdd, Nat.reduceSub, Array.replicate_succ, Array.replicate_zero, List.push_toArray, List.append_toArray, List.nil_append, List.cons_append]
  gi_wp2
  gi_loopw [] (fun wr => ∃ (pos k d : Nat) (pre : List (Nat × Nat)), wr.heap[W.heap.size]? = some (.cells #[.int .i64 k, .int .i64 d] 52) ∧ wr.heap[W.heap.size + 1]? = some (.stringIter (Try.txt ds) pos) ∧ J pre wr ∧ pos ≤ ds.length ∧ Try.st ds pos pre k d)
    (fun wr => ds.length - wr.iterPos (W.heap.size + 1))
  case atStart =>
    have T0 : Try.Turn W.heap.size W ((W.alloc (Obj.cells #[Value.int IntKind.i64 0, Value.int IntKind.i64 0] 52)).iter (Try.txt ds) 0) := ((Try.Turn.refl _ W).alloc _ rfl).alloc _ rfl
    refine ⟨0, 0, 0, [], ?_, ?_, hJ _ _ _ h0 T0, Nat.zero_le _, .inl ⟨rfl, rfl, rfl, rfl⟩⟩
    · have := (Below.heap_alloc (W.alloc (Obj.cells #[Value.int IntKind.i64 0, Value.int IntKind.i64 0] 52)) (.stringIter (Try.txt ds) 0) W.heap.size (by simp)).trans (World.alloc_heap_new W _)
      exact this
    · have := World.iter_heap (W.alloc (Obj.cells #[Value.int IntKind.i64 0, Value.int IntKind.i64 0] 52)) (Try.txt ds) 0
      simpa using this
  case round =>
    obtain ⟨pos, k, d, pre, hc, hit, hj, hp, hst⟩ := hrel
    have hsz : W.heap.size + 1 < wr.heap.size := (Array.getElem?_eq_some_iff.1 hit).1
    by_cases hps : pos < ds.length
    · have hps' : pos < (Try.txt ds).size := by rw [Try.txt_size]; exact hps
      have hx9 := hd (ds[pos]) (List.getElem_mem hps)
      have hxx := Try.txt_get hd pos hps'
      obtain ⟨x, hx⟩ : ∃ x, ds[pos] = x := ⟨_, rfl⟩
      rw [hx] at hx9 hxx
      obtain ⟨W2, hW2⟩ : ∃ W2, wr.iterAt (W.heap.size + 1) (Try.txt ds) (pos + 1) = W2 := ⟨_, rfl⟩
      have hnx : ∀ ty, (Instr.next (.pointer (some ⟨W.heap.size + 1, 0, none⟩)) true ty).run Try.prog wr = .ok (.tuple #[.bool true, .int .i64 pos, .int .i32 ((48 + x : Nat) : Int)]) W2 := fun ty => by
        have := Lib.run_next_ascii_at (P := Try.prog) wr (W.heap.size + 1) (Try.txt ds) pos ty hit hps' (by omega)
        rw [hW2, hxx] at this
        exact this
      have hit2 : W2.heap[W.heap.size + 1]? = some (.stringIter (Try.txt ds) (pos + 1)) := by rw [← hW2]; exact Lib.iterAt_heap wr _ _ _ _ hit
      have hc2 : W2.heap[W.heap.size]? = some (.cells #[.int .i64 k, .int .i64 d] 52) := by rw [← hW2]; exact (Lib.iterAt_other _ _ _ _ _ (by omega)).trans hc
      have hj2 : J pre W2 := hJ _ _ _ hj (by rw [← hW2]; exact (Try.Turn.refl _ _).iterAt _ _)
      have hs2 : W2.heap.size = wr.heap.size := by rw [← hW2]; exact Lib.iterAt_size ..
      have c0 : W2.cell? ⟨W.heap.size, 0, none⟩ = some (.int .i64 k) := by rw [Lib.cell_of_heap hc2]; rfl
      have c1 : W2.cell? ⟨W.heap.size, 1, none⟩ = some (.int .i64 d) := by rw [Lib.cell_of_heap hc2]; rfl
      have f0 : W2.frozen? ⟨W.heap.size, 0, none⟩ = false := Lib.frozen_of_heap hc2 0
      have f1 : W2.frozen? ⟨W.heap.size, 1, none⟩ = false := Lib.frozen_of_heap hc2 1
      clear hW2 hxx
      have hdrop : ds.drop pos = x :: ds.drop (pos + 1) := by rw [← hx]; exact (List.drop_eq_getElem_cons hps)
      have hmem : x ∈ ds := by rw [← hx]; exact List.getElem_mem hps
      have hip : wr.iterPos (W.heap.size + 1) = pos := by simp only [World.iterPos, hit]
      -- what the three ways end in
      have fin : ∀ (W3 : World) (k' d' : Nat) (pre' : List (Nat × Nat)), W3.heap[W.heap.size]? = some (.cells #[.int .i64 k', .int .i64 d'] 52) → W3.heap[W.heap.size + 1]? = some (.stringIter (Try.txt ds) (pos + 1)) → J pre' W3 → Try.st ds (pos + 1) pre' k' d' →
          (∃ (pos k d : Nat) (pre : List (Nat × Nat)), W3.heap[W.heap.size]? = some (.cells #[.int .i64 k, .int .i64 d] 52) ∧ W3.heap[W.heap.size + 1]? = some (.stringIter (Try.txt ds) pos) ∧ J pre W3 ∧ pos ≤ ds.length ∧ Try.st ds pos pre k d) ∧ ds.length - W3.iterPos (W.heap.size + 1) < ds.length - wr.iterPos (W.heap.size + 1) := by
        intro W3 k' d' pre' h1 h2 h3 h4
        refine ⟨⟨pos + 1, k', d', pre', h1, h2, h3, by omega, h4⟩, ?_⟩
        have : W3.iterPos (W.heap.size + 1) = pos + 1 := by simp only [World.iterPos, h2]
        rw [this, hip]; omega
      have hsame : ∀ (W3 : World) (v : Value) (cs : Array Value), W3.heap[W.heap.size]? = some (.cells cs 52) → ∀ i, (W3.setCell ⟨W.heap.size, i, none⟩ v).heap[W.heap.size]? = some (.cells (cs.setIfInBounds i v) 52) := fun W3 v cs h i => Go.heap_setCell_same W3 W.heap.size i cs 52 v h
      have hother : ∀ (W3 : World) (v : Value) (i : Nat), (W3.setCell ⟨W.heap.size, i, none⟩ v).heap[W.heap.size + 1]? = W3.heap[W.heap.size + 1]? := fun W3 v i => Below.heap_setCell _ _ _ _ (by simp)
      have hjs : ∀ pre (W3 : World) (v : Value) (i : Nat), J pre W3 → J pre (W3.setCell ⟨W.heap.size, i, none⟩ v) := fun pre W3 v i h => hJ _ _ _ h ((Try.Turn.refl W.heap.size W3).setCell (p := ⟨W.heap.size, i, none⟩) rfl v)
      have hlast : ∀ (W3 : World) (k d : Nat), W3.heap[W.heap.size]? = some (.cells #[.int .i64 k, .int .i64 d] 52) → ((W3.setCell ⟨W.heap.size, 0, none⟩ (.int .i64 1)).setCell ⟨W.heap.size, 1, none⟩ (.int .i64 (48 + x - 48))).heap[W.heap.size]? = some (.cells #[.int .i64 (1 : Nat), .int .i64 x] 52) := by
        intro W3 k d h
        rw [hsame _ _ _ (hsame _ _ _ h 0) 1, show (48 + (x : Int) - 48) = x by omega]; rfl
      by_cases hxd : x = d
      · -- one digit more of the run
        rcases hst with ⟨_, hd0, _⟩ | ⟨hk1, hkp, hdm, hpre⟩
        · omega
        have hcmp : ((48 + (x : Int) - 48) == (d : Int)) = true := by rw [beq_iff_eq]; omega
        have hk : (k : Int) ≤ 1099511627776 := by omega
        gi_wp2
        all_goals (first | (exfalso; simp_all; done) | skip)
        refine fin _ (k + 1) d pre ?_ ((hother _ _ _).trans hit2) (hjs _ _ _ _ hj2) (.inr ⟨by omega, by omega, hdm, ?_⟩)
        · rw [hsame _ _ _ hc2]; rfl
        · rw [hdrop, hxd] at hpre
          rw [← hpre]; simp [runsFrom]
      · have hcmp : ((48 + (x : Int) - 48) == (d : Int)) = false := by rw [beq_eq_false_iff_ne]; omega
        rcases hst with ⟨hk0, hd0, hp0, hpre0⟩ | ⟨hk1, hkp, hdm, hpre⟩
        · subst hk0
          have hd00 : d = 0 := hd0
          gi_wp2
          refine ⟨fun _ h => (by cases h), ?_⟩
          gi_wp2
          refine fin _ 1 x [] (hlast _ _ _ hc2) ((hother _ _ _).trans ((hother _ _ _).trans hit2)) (hjs _ _ _ _ (hjs _ _ _ _ (by rw [← hpre0]; exact hj2))) (.inr ⟨by omega, by omega, hmem, ?_⟩)
          have : ds = x :: ds.drop (pos + 1) := by rw [← hdrop, hp0]; rfl
          rw [List.nil_append]
          conv => rhs; rw [this]
          rfl
        · have hpp : pre ++ [(k, d)] ++ runsFrom 1 x (ds.drop (pos + 1)) = runs ds := by rw [← hpre, hdrop]; simp [runsFrom, hxd]
          obtain ⟨fn, tmps, assign, body, hy, hR⟩ := hY pre (k, d) W2 hj2 (by omega) ⟨_, hpp⟩
          dsimp only [Try.pr] at hy
          have hk : ((k : Int) > 0) := by omega
          gi_wp2
          refine hR.mono ?_
          rintro e W4 (⟨rfl, hj4, hs4, hb4, hb5⟩ | ⟨rfl, hjx⟩)
          · have hc4 := hb4.trans hc2
            have hit4 := hb5.trans hit2
            have d0 : W4.cell? ⟨W.heap.size, 0, none⟩ = some (.int .i64 k) := by rw [Lib.cell_of_heap hc4]; rfl
            have d1 : W4.cell? ⟨W.heap.size, 1, none⟩ = some (.int .i64 d) := by rw [Lib.cell_of_heap hc4]; rfl
            have e0 : W4.frozen? ⟨W.heap.size, 0, none⟩ = false := Lib.frozen_of_heap hc4 0
            have e1 : W4.frozen? ⟨W.heap.size, 1, none⟩ = false := Lib.frozen_of_heap hc4 1
            gi_wp2
            exact fin _ 1 x (pre ++ [(k, d)]) (hlast _ _ _ hc4) ((hother _ _ _).trans ((hother _ _ _).trans hit4)) (hjs _ _ _ _ (hjs _ _ _ _ hj4)) (.inr ⟨by omega, by omega, hmem, hpp⟩)
          · gi_wp2
            refine bodyPost_ret (results_none rfl _ _ _) rfl ?_
            exact ⟨⟨_, rfl⟩, .inr ⟨_, ⟨_, hpp⟩, hjx⟩⟩
    · have hps' : ¬ pos < (Try.txt ds).size := by rw [Try.txt_size]; exact hps
      have hpe : pos = ds.length := by omega
      have hnx : ∀ ty, (Instr.next (.pointer (some ⟨W.heap.size + 1, 0, none⟩)) true ty).run Try.prog wr = _ := fun ty => Lib.run_next_end_at wr (W.heap.size + 1) (Try.txt ds) pos ty hit hps'
      have c0 : wr.cell? ⟨W.heap.size, 0, none⟩ = some (.int .i64 k) := by rw [Lib.cell_of_heap hc]; rfl
      have c1 : wr.cell? ⟨W.heap.size, 1, none⟩ = some (.int .i64 d) := by rw [Lib.cell_of_heap hc]; rfl
      rcases hst with ⟨hk0, hd0, hp0, hpre0⟩ | ⟨hk1, hkp, hdm, hpre⟩
      · subst hk0
        have hd00 : d = 0 := hd0
        have hnil : ds = [] := List.eq_nil_of_length_eq_zero (by omega)
        gi_wp2
        go_end0
        refine ⟨⟨_, rfl⟩, .inl ?_⟩
        rw [hpre0] at hj
        rw [hnil]
        exact hj
      · have hpp : pre ++ [(k, d)] = runs ds := by rw [← hpre, hpe, List.drop_length]; rfl
        obtain ⟨fn, tmps, assign, body, hy, hR⟩ := hY pre (k, d) wr hj (by omega) ⟨[], by rw [List.append_nil]; exact hpp⟩
        dsimp only [Try.pr] at hy
        have hk : ((k : Int) > 0) := by omega
        gi_wp2
        refine hR.mono ?_
        rintro e W4 (⟨rfl, hj4, hs4, hb4, hb5⟩ | ⟨rfl, hjx⟩)
        · gi_wp2
          go_end0
          rw [hpp] at hj4
          exact ⟨⟨_, rfl⟩, .inl hj4⟩
        · gi_wp2
          go_end0
          exact ⟨⟨_, rfl⟩, .inr ⟨_, ⟨[], by rw [List.append_nil]; exact hpp⟩, hjx⟩⟩
end Go.Proofs
namespace Go.Proofs
open Go.RowKit Go.Shelf Go.Aw
attribute [local go_sem] Oper.semAt_some
/-- What the loop and the iterator may turn: four blocks. -/
structure Try.Turn4 (m : Nat) (A B : World) : Prop where
  os : B.os = A.os
  tape : B.tape = A.tape
  output : B.output = A.output
  size : A.heap.size ≤ B.heap.size
  block : ∀ k, k < A.heap.size → k < m ∨ m + 4 ≤ k → B.heap[k]? = A.heap[k]?
  kind : ∀ k, Try.NR A k → Try.NR B k
theorem Try.Turn.four {m b : Nat} {A B : World} (h : Try.Turn b A B) (e : b = m + 2) : Try.Turn4 m A B :=
  ⟨h.os, h.tape, h.output, h.size, fun k hk c => h.block k hk (by omega) (by omega), h.kind⟩
theorem Try.Turn4.put (m : Nat) (A : World) {l : Nat} (o : Obj) (ho : Try.plainO o = true) (h : m ≤ l) (h2 : l < m + 4) : Try.Turn4 m A (A.putObj l o) :=
  ⟨rfl, rfl, rfl, by simp, fun k _ c => World.putObj_heap_other (by omega), fun k hn => by
    by_cases c : k = l
    · subst c
      intro x fz e
      have hlt := (Array.getElem?_eq_some_iff.1 e).1
      rw [World.putObj_heap_same (by simpa using hlt)] at e
      cases e
      simp [Try.plainO] at ho
    · exact hn.same (World.putObj_heap_other c)⟩
theorem Try.Turn4.alloc (m : Nat) (A : World) (o : Obj) (ho : Try.plainO o = true) : Try.Turn4 m A (A.alloc o) :=
  ⟨rfl, rfl, rfl, by simp, fun k hk _ => Below.heap_alloc _ _ _ hk, fun _ h => h.alloc ho⟩
theorem Try.Turn4.refl (m : Nat) (A : World) : Try.Turn4 m A A := ⟨rfl, rfl, rfl, Nat.le_refl _, fun _ _ _ => rfl, fun _ h => h⟩
theorem Try.Turn4.trans {m : Nat} {A B C : World} (h : Try.Turn4 m A B) (k : Try.Turn4 m B C) : Try.Turn4 m A C :=
  ⟨k.os.trans h.os, k.tape.trans h.tape, k.output.trans h.output, Nat.le_trans h.size k.size, fun i hi c => (k.block i (Nat.lt_of_lt_of_le hi h.size) c).trans (h.block i hi c), fun i x => k.kind i (h.kind i x)⟩
theorem Try.Turn4.below {m : Nat} {A B : World} (h : Try.Turn4 m A B) (hm : m ≤ A.heap.size) : Below m A B := ⟨h.os, h.tape, h.output, h.size, fun k hk => h.block k (by omega) (.inl hk)⟩
/-- What a round must leave alone. -/
structure Try.Keep4 (m : Nat) (A B : World) : Prop where
  size : A.heap.size ≤ B.heap.size
  block : ∀ k, m ≤ k → k < m + 4 → B.heap[k]? = A.heap[k]?
theorem Try.Keep4.refl (m : Nat) (A : World) : Try.Keep4 m A A := ⟨Nat.le_refl _, fun _ _ _ => rfl⟩
theorem Try.Keep4.trans {m : Nat} {A B C : World} (h : Try.Keep4 m A B) (k : Try.Keep4 m B C) : Try.Keep4 m A C := ⟨Nat.le_trans h.size k.size, fun i a b => (k.block i a b).trans (h.block i a b)⟩
theorem Try.Keep4.alloc {m : Nat} {A B : World} (h : Try.Keep4 m A B) (hm : m + 4 ≤ A.heap.size) (o : Obj) : Try.Keep4 m A (B.alloc o) :=
  h.trans ⟨by simp, fun k _ hk => Below.heap_alloc _ _ _ (by have := h.size; omega)⟩
theorem Try.Keep4.setCell {m : Nat} {A B : World} (h : Try.Keep4 m A B) {p : Addr} (hp : p.block < m ∨ m + 4 ≤ p.block) (v : Value) : Try.Keep4 m A (B.setCell p v) :=
  h.trans ⟨by simp [World.setCell], fun k _ hk => Below.heap_setCell _ _ _ _ (by omega)⟩
/-- How a round may end. -/
def Try.post4 (m : Nat) (I Ix : List (Nat × Nat) → World → Prop) (xs : List (Nat × Nat)) (W : World) : Exit → Act → World → Prop
  | .normal, _, W' => Try.Keep4 m W W' ∧ I xs W'
  | .ret, _, W' => Try.Keep4 m W W' ∧ Ix xs W'
  | _, _, _ => False
theorem Try.enters52 : ∀ args w, (callFunc 52 args).run Try.prog w = .ok (.enter 52 args) w := enters_of Try.func52 (by kernel_rfl) rfl
/-- A loop over the runs of a word. -/
theorem Try.range52 {F : Fence} {n : Nat} {g : Operand} {p : Tmp} {assign body : Code} {Q : Exit → Act → World → Prop} {a : Act} {w : World} (hro : F.round = none) (h1 : 2 ≤ n) (h52 : F.fn 52) (q : Nat) (ds : List Nat) (hd : Dig ds) (hlen : ds.length < 1099511627776)
    (hg : a.eval g = .func (.func 52) #[] #[.pointer (some ⟨q, 0, none⟩)]) (hq : w.cell? ⟨q, 0, none⟩ = some (.string (Try.txt ds)))
    (I Ix : List (Nat × Nat) → World → Prop) (As : List (Nat × Nat) → Nat × Nat → Act → World → Prop)
    (hI : ∀ pre A B, I pre A → Try.Turn4 w.heap.size A B → I pre B) (hIx : ∀ pre A B, Ix pre A → Try.Turn4 w.heap.size A B → Ix pre B)
    (hAs : ∀ pre x a' A B, As pre x a' A → Try.Turn4 w.heap.size A B → As pre x a' B) (h0 : I [] w)
    (hassign : ∀ (l : Nat) (pre : List (Nat × Nat)) (x : Nat × Nat) (W : World) (K : Act → World → Prop), I pre W → w.heap.size + 4 ≤ W.heap.size → (∀ a' W', As pre x a' W' → Try.Keep4 w.heap.size W W' → K a' W') →
      assign.wpIn (F.inRound l) (n - 1 - 1) Try.prog (Exit.then K (fun _ _ _ => False)) { tmps := a.tmps.setIfInBounds p (Try.pr x), defers := [] } W)
    (hbody : ∀ (l : Nat) (pre : List (Nat × Nat)) (x : Nat × Nat) (a' : Act) (W : World), As pre x a' W → w.heap.size + 4 ≤ W.heap.size → pre ++ [x] <+: runs ds → body.wpIn (F.inRound l) (n - 1 - 1) Try.prog (Try.post4 w.heap.size I Ix (pre ++ [x]) W) a' W)
    (hdone : ∀ W, I (runs ds) W → W.heap[w.heap.size]? = some (.deferred (some [])) → Q .normal { a with defers := { target := .collected w.heap.size, args := #[] } :: a.defers } W)
    (hstop : ∀ pre W, pre <+: runs ds → Ix pre W → W.heap[w.heap.size]? = some (.deferred (some [])) → Code.ret.wpIn F n Try.prog Q { a with defers := { target := .collected w.heap.size, args := #[] } :: a.defers } W) :
    (Code.rangeFunc g #[p] assign body).wpIn F n Try.prog Q a w := by
  refine wpIn_rangeFunc ?_
  intro fn hfn
  rw [hro]
  obtain ⟨rec, hrec⟩ : ∃ rec : LoopState → Option Code → Loop, rec = fun st pe => { state := st, pending := pe, fn, tmps := a.tmps, params := #[p], assign, body, defers := w.heap.size } := ⟨_, rfl⟩
  obtain ⟨W1, hW1⟩ : ∃ W1, (w.alloc (.deferred (some []))).alloc (.loop (rec .ready none)) = W1 := ⟨_, rfl⟩
  have hs1 : W1.heap.size = w.heap.size + 2 := by rw [← hW1]; simp
  have hL1 : W1.heap[w.heap.size + 1]? = some (.loop (rec .ready none)) := by
    rw [← hW1]; have := World.alloc_heap_new (w.alloc (.deferred (some []))) (.loop (rec .ready none)); rwa [World.size_alloc] at this
  have hK1 : W1.heap[w.heap.size]? = some (.deferred (some [])) := by
    rw [← hW1]; exact (Below.heap_alloc _ _ _ (by simp)).trans (World.alloc_heap_new w _)
  have hI1 : I [] W1 := hI _ _ _ h0 (by rw [← hW1]; exact (Try.Turn4.alloc _ _ _ rfl).trans (Try.Turn4.alloc _ _ _ rfl))
  have hq1 : W1.cell? ⟨q, 0, none⟩ = some (.string (Try.txt ds)) := by
    have hlt : q < w.heap.size := World.block_lt_of_cell? w ⟨q, 0, none⟩ hq
    rw [← hW1]; exact (World.cell?_of_block ((Below.heap_alloc _ _ _ (by simp; omega)).trans (Below.heap_alloc _ _ _ hlt))).trans hq
  refine ⟨w.heap.size + 1, [{ target := .collected w.heap.size, args := #[] }], W1, { target := .fn (.func 52) #[.pointer (some ⟨q, 0, none⟩)], args := #[.func (.yield (w.heap.size + 1)) #[] #[]] }, W1, 52, #[.func (.yield (w.heap.size + 1)) #[] #[], .pointer (some ⟨q, 0, none⟩)], W1, ?_, ?_, ?_, ?_, fun _ => by omega, ?_⟩
  · rw [← hW1, hrec]; exact run_enterLoop_outer _ _ _ _ _
  · simp only [resolve, hg]
    simp [go_sem]
  · intro f' hf'; simp [Target.leads] at hf'; subst hf'; exact h52
  · simp [invoke, go_sem, Try.enters52]
  · have hl0 : ∀ (A B : World) (o : Obj) (k : Nat), k < w.heap.size + 2 → A.heap[k]? = some o → Try.Turn W1.heap.size A B → B.heap[k]? = some o := fun A B o k hk ho hT => (hT.block k (Array.getElem?_eq_some_iff.1 ho).1 (by omega) (by omega)).trans ho
    refine (Try.seq52 F (n - 1) h52 hro (by omega) (w.heap.size + 1) q ds hd hlen
      (fun pre W => I pre W ∧ W.heap[w.heap.size + 1]? = some (.loop (rec .ready none)) ∧ W.heap[w.heap.size]? = some (.deferred (some [])))
      (fun pre W => Ix pre W ∧ W.heap[w.heap.size + 1]? = some (.loop (rec .done (some .ret))) ∧ W.heap[w.heap.size]? = some (.deferred (some [])))
      W1 (fun pre A B hs hT => ⟨hI _ _ _ hs.1 (hT.four hs1), hl0 _ _ _ _ (by omega) hs.2.1 hT, hl0 _ _ _ _ (by omega) hs.2.2 hT⟩) ?_ hq1 ⟨hI1, hL1, hK1⟩).mono ?_
    · rintro pre x W ⟨hi, hl, hk⟩ hsz hpre
      have hy := run_yield (P := Try.prog) (args := #[Try.pr x]) hl (by rw [hrec]; rfl)
      rw [hrec] at hy
      refine ⟨fn, _, assign, body, hy, roundIn_of_wpIn hfn ?_⟩
      simp only [List.zip_toArray, List.zip_cons_cons, List.zip_nil_right, List.foldl_cons, List.foldl_nil, List.foldl_toArray']
      refine hassign _ pre x W _ hi (by omega) ?_
      intro a' W' has hkp
      have hl' : W'.heap[w.heap.size + 1]? = some (.loop (rec .ready none)) := (hkp.block _ (by omega) (by omega)).trans hl
      have hk' : W'.heap[w.heap.size]? = some (.deferred (some [])) := (hkp.block _ (by omega) (by omega)).trans hk
      refine ⟨_, run_beginRound hl' (by rw [hrec]), ?_⟩
      have hlt : w.heap.size + 1 < W'.heap.size := (Array.getElem?_eq_some_iff.1 hl').1
      have hl2 : (W'.putObj (w.heap.size + 1) (.loop { rec .ready none with state := .busy })).heap[w.heap.size + 1]? = some (.loop { rec .ready none with state := .busy }) := World.putObj_heap_same hlt
      have hk2 : (W'.putObj (w.heap.size + 1) (.loop { rec .ready none with state := .busy })).heap[w.heap.size]? = some (.deferred (some [])) := (World.putObj_heap_other (by omega)).trans hk'
      refine wpIn_mono (hbody _ pre x a' _ (hAs _ _ _ _ _ has (Try.Turn4.put _ _ _ rfl (by omega) (by omega))) (by simp; have := hkp.size; omega) hpre) ?_
      have fin : ∀ (jump : Option Code) (W3 : World), Try.Keep4 w.heap.size (W'.putObj (w.heap.size + 1) (.loop { rec .ready none with state := .busy })) W3 →
          (Instr.endRound (w.heap.size + 1) jump).run Try.prog W3 = .ok (.bool jump.isNone) (W3.putObj (w.heap.size + 1) (.loop (rec (if jump.isNone then .ready else .done) jump))) ∧
          (W3.putObj (w.heap.size + 1) (.loop (rec (if jump.isNone then .ready else .done) jump))).heap[w.heap.size + 1]? = some (.loop (rec (if jump.isNone then .ready else .done) jump)) ∧
          (W3.putObj (w.heap.size + 1) (.loop (rec (if jump.isNone then .ready else .done) jump))).heap[w.heap.size]? = some (.deferred (some [])) ∧ W.heap.size ≤ (W3.putObj (w.heap.size + 1) (.loop (rec (if jump.isNone then .ready else .done) jump))).heap.size ∧
          ∀ k, w.heap.size + 2 ≤ k → k < w.heap.size + 4 → (W3.putObj (w.heap.size + 1) (.loop (rec (if jump.isNone then .ready else .done) jump))).heap[k]? = W.heap[k]? := fun jump W3 hk3 => by
        have hl3 := (hk3.block _ (by omega) (by omega)).trans hl2
        have := run_endRound (P := Try.prog) jump hl3
        rw [hrec] at this ⊢
        refine ⟨this, World.putObj_heap_same (Array.getElem?_eq_some_iff.1 hl3).1, (World.putObj_heap_other (by omega)).trans ((hk3.block _ (by omega) (by omega)).trans hk2), ?_, fun k c1 c2 => (World.putObj_heap_other (by omega)).trans ((hk3.block _ (by omega) (by omega)).trans ((World.putObj_heap_other (by omega)).trans (hkp.block _ (by omega) (by omega))))⟩
        have h1 := hk3.size
        have h2 := hkp.size
        simp at h1 ⊢
        omega
      rintro e a3 W3 hp
      cases e with
      | normal =>
        obtain ⟨hk3, hi3⟩ := hp
        obtain ⟨hr, hl4, hk4, hz4, hb4⟩ := fin none W3 hk3
        exact ⟨_, _, hr, .inl ⟨rfl, ⟨hI _ _ _ hi3 (Try.Turn4.put _ _ _ rfl (by omega) (by omega)), hl4, hk4⟩, hz4, hb4 _ (by omega) (by omega), hb4 _ (by omega) (by omega)⟩⟩
      | ret =>
        obtain ⟨hk3, hi3⟩ := hp
        obtain ⟨hr, hl4, hk4, _⟩ := fin (some .ret) W3 hk3
        exact ⟨_, _, hr, .inr ⟨rfl, hIx _ _ _ hi3 (Try.Turn4.put _ _ _ rfl (by omega) (by omega)), hl4, hk4⟩⟩
      | exit id => exact hp.elim
      | goto t => exact hp.elim
      | panic ch => exact hp.elim
      | outgrown => exact hp.elim
    · rintro e W2 ⟨⟨v, rfl⟩, (⟨hi, hl, hk⟩ | ⟨pre, hSp, hi, hl, hk⟩)⟩
      · exact ⟨none, _, by have := run_endLoop (P := Try.prog) hl (by rw [hrec]; simp); rw [hrec] at this; exact this, hdone _ (hI _ _ _ hi (Try.Turn4.put _ _ _ rfl (by omega) (by omega))) ((World.putObj_heap_other (by omega)).trans hk)⟩
      · exact ⟨some .ret, _, by have := run_endLoop (P := Try.prog) hl (by rw [hrec]; simp); rw [hrec] at this; exact this, hstop pre _ hSp (hIx _ _ _ hi (Try.Turn4.put _ _ _ rfl (by omega) (by omega))) ((World.putObj_heap_other (by omega)).trans hk)⟩
end Go.Proofs
set_option maxRecDepth 100000
namespace Go.Proofs
open Go.Shelf Go.RowKit
def Try.lays169_ren : Go.Shelf.Ren := ⟨fun | 169 => 55 | n => n, fun | 70 => 62 | 9 => 9 | 0 => 0 | 72 => 65 | 37 => 63 | 127 => 79 | 3 => 3 | 5 => 5 | n => n, fun | n => n⟩
theorem Try.lays169 : Go.Proofs.Lays.n169 Try.prog Try.lays169_ren := {
  mixed := by kernel_rfl
  f169 := Try.func55.trans (congrArg some (by kernel_rfl))
  t0 := Try.underlying0
  a0 := Try.isAgg0
  z0 := Try.sizeOf0
  v0 := Try.zeroValue0
  t3 := Try.underlying3
  a3 := Try.isAgg3
  z3 := Try.sizeOf3
  v3 := Try.zeroValue3
  t9 := Try.underlying9
  a9 := Try.isAgg9
  z9 := Try.sizeOf9
  v9 := Try.zeroValue9
  t37 := Try.underlying63
  a37 := Try.isAgg63
  z37 := Try.sizeOf63
  v37 := Try.zeroValue63
  t70 := Try.underlying62
  a70 := Try.isAgg62
  z70 := Try.sizeOf62
  v70 := Try.zeroValue62
  t72 := Try.underlying65
  a72 := Try.isAgg65
  z72 := Try.sizeOf65
  v72 := Try.zeroValue65
  t127 := Try.underlying79
  a127 := Try.isAgg79
  z127 := Try.sizeOf79
  v127 := Try.zeroValue79 }
theorem Try.Builder_Extra_169 : Builder.Extra Try.prog Try.lays169_ren := {
  sizeBuilder := by kernel_rfl
  liesBuilder := by kernel_rfl
  t5 := Try.underlying5
  a5 := Try.isAgg5
  z5 := Try.sizeOf5
  v5 := Try.zeroValue5
  infoByte := by kernel_rfl
  cellsByte := by kernel_rfl
  sizeByte := by kernel_rfl
  neB5 := by decide }
theorem Try.Builder_String_any_k (B b : Nat) (l : List UInt8) (w : World) (h : Lib.IsBuilderF 65 5 B b (Lib.byteCells l) w) (hBw : B ≤ w.heap.size) :
    Calls Try.prog 55 #[.pointer (some ⟨b, 0, none⟩)] w fun e w' => e = .returned (.string ⟨l.toArray⟩) ∧ (Lib.IsBuilderF 65 5 B b (Lib.byteCells l) w' ∧ Below B w w' ∧ Lib.OthersKept 5 (some b) w w') := Any.Builder_String_any_k Try.lays169 Try.Builder_Extra_169 B b l w h hBw
def Try.lays105_ren : Go.Shelf.Ren := ⟨fun | 105 => 54 | 212 => 59 | 99 => 60 | 165 => 61 | 166 => 53 | 170 => 62 | 169 => 55 | 263 => 64 | 264 => 65 | 206 => 66 | 240 => 58 | 241 => 67 | 276 => 63 | 277 => 68 | n => n, fun | 9 => 9 | 3 => 3 | 4 => 4 | 20 => 20 | 0 => 0 | 46 => 74 | 109 => 75 | 5 => 5 | 72 => 65 | 76 => 68 | 51 => 82 | 146 => 83 | 53 => 85 | 148 => 86 | 70 => 62 | 37 => 63 | 75 => 67 | 127 => 79 | 164 => 80 | 80 => 71 | n => n, fun | n => n⟩
theorem Try.lays105 : Go.Proofs.Lays.n105 Try.prog Try.lays105_ren := {
  mixed := by kernel_rfl
  f99 := Try.func60.trans (congrArg some (by kernel_rfl))
  f105 := Try.func54.trans (congrArg some (by kernel_rfl))
  f165 := Try.func61.trans (congrArg some (by kernel_rfl))
  f166 := Try.func53.trans (congrArg some (by kernel_rfl))
  f169 := Try.func55.trans (congrArg some (by kernel_rfl))
  f170 := Try.func62.trans (congrArg some (by kernel_rfl))
  f206 := Try.func66.trans (congrArg some (by kernel_rfl))
  f212 := Try.func59.trans (congrArg some (by kernel_rfl))
  f240 := Try.func58.trans (congrArg some (by kernel_rfl))
  f241 := Try.func67.trans (congrArg some (by kernel_rfl))
  f263 := Try.func64.trans (congrArg some (by kernel_rfl))
  f264 := Try.func65.trans (congrArg some (by kernel_rfl))
  f276 := Try.func63.trans (congrArg some (by kernel_rfl))
  f277 := Try.func68.trans (congrArg some (by kernel_rfl))
  t0 := Try.underlying0
  a0 := Try.isAgg0
  z0 := Try.sizeOf0
  v0 := Try.zeroValue0
  t3 := Try.underlying3
  a3 := Try.isAgg3
  z3 := Try.sizeOf3
  v3 := Try.zeroValue3
  t4 := Try.underlying4
  a4 := Try.isAgg4
  z4 := Try.sizeOf4
  v4 := Try.zeroValue4
  t5 := Try.underlying5
  a5 := Try.isAgg5
  z5 := Try.sizeOf5
  v5 := Try.zeroValue5
  t9 := Try.underlying9
  a9 := Try.isAgg9
  z9 := Try.sizeOf9
  v9 := Try.zeroValue9
  t20 := Try.underlying20
  a20 := Try.isAgg20
  z20 := Try.sizeOf20
  v20 := Try.zeroValue20
  t37 := Try.underlying63
  a37 := Try.isAgg63
  z37 := Try.sizeOf63
  v37 := Try.zeroValue63
  t46 := Try.underlying74
  a46 := Try.isAgg74
  z46 := Try.sizeOf74
  v46 := Try.zeroValue74
  t51 := Try.underlying82
  a51 := Try.isAgg82
  z51 := Try.sizeOf82
  v51 := Try.zeroValue82
  t53 := Try.underlying85
  a53 := Try.isAgg85
  z53 := Try.sizeOf85
  v53 := Try.zeroValue85
  t70 := Try.underlying62
  a70 := Try.isAgg62
  z70 := Try.sizeOf62
  v70 := Try.zeroValue62
  t72 := Try.underlying65
  a72 := Try.isAgg65
  z72 := Try.sizeOf65
  v72 := Try.zeroValue65
  t75 := Try.underlying67
  a75 := Try.isAgg67
  z75 := Try.sizeOf67
  v75 := Try.zeroValue67
  t76 := Try.underlying68
  a76 := Try.isAgg68
  z76 := Try.sizeOf68
  v76 := Try.zeroValue68
  t109 := Try.underlying75
  a109 := Try.isAgg75
  z109 := Try.sizeOf75
  v109 := Try.zeroValue75
  t127 := Try.underlying79
  a127 := Try.isAgg79
  z127 := Try.sizeOf79
  v127 := Try.zeroValue79
  t146 := Try.underlying83
  a146 := Try.isAgg83
  z146 := Try.sizeOf83
  v146 := Try.zeroValue83
  t148 := Try.underlying86
  a148 := Try.isAgg86
  z148 := Try.sizeOf86
  v148 := Try.zeroValue86
  t164 := Try.underlying80
  a164 := Try.isAgg80
  z164 := Try.sizeOf80
  v164 := Try.zeroValue80 }
theorem Try.Builder_Extra_105 : Builder.Extra Try.prog Try.lays105_ren := {
  sizeBuilder := by kernel_rfl
  liesBuilder := by kernel_rfl
  t5 := Try.underlying5
  a5 := Try.isAgg5
  z5 := Try.sizeOf5
  v5 := Try.zeroValue5
  infoByte := by kernel_rfl
  cellsByte := by kernel_rfl
  sizeByte := by kernel_rfl
  neB5 := by decide }
theorem Try.strings_Repeat (s : ByteArray) (c : Nat) (w : World) (hc : c ≤ 9223372036854775807) (hlen : s.size * c ≤ 140737488355328) :
    Calls Try.prog 54 #[.string s, .int .i64 c] w fun e w' => e = .returned (.string ⟨(Lib.repeatL s.data.toList c).toArray⟩) ∧ Below w.heap.size w w' := Any.strings_Repeat Try.lays105 Try.Builder_Extra_105 s c w hc hlen
def Try.wren : Go.Shelf.Ren := ⟨fun | 167 => 56 | 105 => 54 | 212 => 59 | 99 => 60 | 165 => 61 | 166 => 53 | 170 => 62 | 169 => 55 | 263 => 64 | 264 => 65 | 206 => 66 | 240 => 58 | 241 => 67 | 276 => 63 | 277 => 68 | n => n, fun | 9 => 9 | 3 => 3 | 4 => 4 | 20 => 20 | 0 => 0 | 46 => 74 | 109 => 75 | 5 => 5 | 72 => 65 | 76 => 68 | 51 => 82 | 146 => 83 | 53 => 85 | 148 => 86 | 70 => 62 | 37 => 63 | 75 => 67 | 127 => 79 | 164 => 80 | 80 => 71 | n => n, fun | n => n⟩
theorem Try.wlays : Go.Proofs.Lays.n167 Try.prog Try.wren := {
  mixed := by kernel_rfl
  f167 := Try.func56.trans (congrArg some (by kernel_rfl))
  f240 := Try.func58.trans (congrArg some (by kernel_rfl))
  f276 := Try.func63.trans (congrArg some (by kernel_rfl))
  t0 := Try.underlying0
  a0 := Try.isAgg0
  z0 := Try.sizeOf0
  v0 := Try.zeroValue0
  t4 := Try.underlying4
  a4 := Try.isAgg4
  z4 := Try.sizeOf4
  v4 := Try.zeroValue4
  t5 := Try.underlying5
  a5 := Try.isAgg5
  z5 := Try.sizeOf5
  v5 := Try.zeroValue5
  t9 := Try.underlying9
  a9 := Try.isAgg9
  z9 := Try.sizeOf9
  v9 := Try.zeroValue9
  t20 := Try.underlying20
  a20 := Try.isAgg20
  z20 := Try.sizeOf20
  v20 := Try.zeroValue20
  t37 := Try.underlying63
  a37 := Try.isAgg63
  z37 := Try.sizeOf63
  v37 := Try.zeroValue63
  t70 := Try.underlying62
  a70 := Try.isAgg62
  z70 := Try.sizeOf62
  v70 := Try.zeroValue62
  t72 := Try.underlying65
  a72 := Try.isAgg65
  z72 := Try.sizeOf65
  v72 := Try.zeroValue65
  t75 := Try.underlying67
  a75 := Try.isAgg67
  z75 := Try.sizeOf67
  v75 := Try.zeroValue67
  t164 := Try.underlying80
  a164 := Try.isAgg80
  z164 := Try.sizeOf80
  v164 := Try.zeroValue80 }
theorem Try.wextra : Builder.Extra Try.prog Try.wren := {
  sizeBuilder := by kernel_rfl
  liesBuilder := by kernel_rfl
  t5 := Try.underlying5
  a5 := Try.isAgg5
  z5 := Try.sizeOf5
  v5 := Try.zeroValue5
  infoByte := by kernel_rfl
  cellsByte := by kernel_rfl
  sizeByte := by kernel_rfl
  neB5 := by decide }
theorem Try.writeByte (B b : Nat) (bs : List Value) (c : Int) (w : World) (h : Lib.IsBuilderF 65 5 B b bs w) (hlen : bs.length + 1 ≤ 140737488355328) (hBw : B ≤ w.heap.size) :
    Calls Try.prog 56 #[.pointer (some ⟨b, 0, none⟩), .int .u8 c] w fun e w' => e = .returned .nilIface ∧ (Lib.BuilderAtF 65 5 B b (.pointer (some ⟨b, 0, none⟩)) (bs ++ [.int .u8 c]) w' ∧ Below B w w' ∧ Lib.OthersKept 5 (some b) w w') := Any.Builder_WriteByte_k Try.wlays Try.wextra B b bs c w h hlen hBw
theorem Try.writeString (B b : Nat) (bs : List Value) (s : ByteArray) (w : World) (h : Lib.IsBuilderF 65 5 B b bs w) (hlen : bs.length + s.size ≤ 140737488355328) (hBw : B ≤ w.heap.size) :
    Calls Try.prog 53 #[.pointer (some ⟨b, 0, none⟩), .string s] w fun e w' => e = .returned (.tuple #[.int .i64 s.size, .nilIface]) ∧ (Lib.BuilderAtF 65 5 B b (.pointer (some ⟨b, 0, none⟩)) (bs ++ Lib.strCells s) w' ∧ Below B w w' ∧ Lib.OthersKept 5 (some b) w w') := Any.Builder_WriteString_k { Try.lays105 with } Try.Builder_Extra_105 B b bs s w h hlen hBw
end Go.Proofs
namespace Go.Proofs
open Go.RowKit Go.Shelf Go.Aw
attribute [local go_sem] Oper.semAt_some
/-- A word's bytes. -/
def Try.tx (w : List Nat) : List UInt8 := w.map fun d => UInt8.ofNat (48 + d)
theorem Try.txt_eq (w : List Nat) : Try.txt w = ⟨(Try.tx w).toArray⟩ := rfl
theorem Try.NR.row {W : World} {k : Nat} {cur : Array Value} {fz : Nat × Nat} (h : Try.NR W k) : W.heap[k]? ≠ some (.cells cur 5 fz) := h cur fz
theorem Try.builder_turn {B0 b m : Nat} {bs : List Value} {A B : World} (h : Lib.IsBuilderF 65 5 B0 b bs A) (hb : b < m) (hn : ∀ k, m ≤ k → k < m + 4 → Try.NR A k) (T : Try.Turn4 m A B) : Lib.IsBuilderF 65 5 B0 b bs B := by
  have key : ∀ p, Lib.BuilderAtF 65 5 B0 b p bs A → Lib.BuilderAtF 65 5 B0 b p bs B := by
    rintro p ⟨hB, v, hbk, hown, hne⟩
    have hlt : b < A.heap.size := (Array.getElem?_eq_some_iff.1 hbk).1
    refine ⟨hB, v, (T.block b hlt (.inl hb)).trans hbk, ⟨hown.1, ?_⟩, hne⟩
    rcases hown.2 with hn0 | ⟨g, cap, cur, fz, hv, hbg, hg, rest⟩
    · exact .inl hn0
    · refine .inr ⟨g, cap, cur, fz, hv, hbg, ?_, rest⟩
      have hgl : g < A.heap.size := (Array.getElem?_eq_some_iff.1 hg).1
      refine (T.block g hgl ?_).trans hg
      rcases Nat.lt_or_ge g m with c | c
      · exact .inl c
      · rcases Nat.lt_or_ge g (m + 4) with c2 | c2
        · exact absurd hg (hn g c c2 cur fz)
        · exact .inr c2
  exact h.elim (fun x => .inl (key _ x)) (fun x => .inr (key _ x))
/-- A block that is no row of bytes stands behind a write. -/
theorem Try.ok_keep {b : Nat} {A B : World} (h : Lib.OthersKept 5 (some b) A B) {k : Nat} (hk : k < A.heap.size) (hb : k ≠ b) (hn : Try.NR A k) : B.heap[k]? = A.heap[k]? := by
  have := h k A.heap[k] (Array.getElem?_eq_getElem hk) (by simpa using hb) (fun c fz e => hn c fz (by rw [Array.getElem?_eq_getElem hk, e]))
  rw [this, Array.getElem?_eq_getElem hk]
/-- What said answers. -/
def Try.saidV (ds : List Nat) : Value := .tuple #[.string (if Sayable ds then Try.txt (say ds) else ⟨#[]⟩), .int .i64 (if Sayable ds then 0 else 4)]
theorem Try.runsOf_in (s : ByteArray) (w : World) : Calls Try.prog 41 #[.string s] w fun e w' => e = .returned (.func (.func 52) #[] #[.pointer (some ⟨w.heap.size, 0, none⟩)]) ∧ w' = w.alloc (.cells #[.string s] 9) := by
  go_enter Try.func41, Try.ntmps41
  go_wp2
  go_ret
  exact ⟨rfl, rfl⟩
def Try.sI (w : World) (m : Nat) (pre : List (Nat × Nat)) (W : World) : Prop := Lib.IsBuilderF 65 5 w.heap.size (w.heap.size + 2) (Lib.byteCells (Try.tx (flat pre))) W ∧ (∀ p ∈ pre, p.1 ≤ 9) ∧ W.heap[w.heap.size]? = some (.cells #[.string ⟨#[]⟩] 9) ∧ W.heap[w.heap.size + 1]? = some (.cells #[.int .i64 0] 25) ∧ Below w.heap.size w W ∧ ∀ k, m ≤ k → k < m + 4 → Try.NR W k
def Try.sX (w : World) (pre : List (Nat × Nat)) (W : World) : Prop := (∃ p ∈ pre, 9 < p.1) ∧ W.heap[w.heap.size]? = some (.cells #[.string ⟨#[]⟩] 9) ∧ W.heap[w.heap.size + 1]? = some (.cells #[.int .i64 4] 25) ∧ Below w.heap.size w W
def Try.sA (ds : List Nat) (w : World) (m : Nat) (pre : List (Nat × Nat)) (x : Nat × Nat) (a' : Act) (W : World) : Prop := Try.sI w m pre W ∧ ∃ B, m + 4 ≤ B ∧ W.heap[B]? = some (.cells #[.int .i64 x.1, .int .i64 x.2] 52) ∧
  a' = { tmps := #[.string (Try.txt ds), undef, .pointer (some ⟨w.heap.size, 0, none⟩), .pointer (some ⟨w.heap.size + 1, 0, none⟩), .pointer (some ⟨w.heap.size + 1 + 1, 0, none⟩), .pointer (some ⟨B, 0, none⟩), .string (Try.txt ds), .func (.func 52) #[] #[.pointer (some ⟨w.heap.size + 1 + 1 + 1, 0, none⟩)], Try.pr x, undef, undef, undef, undef, undef, undef, undef, undef, undef, undef, undef, undef, undef, undef], defers := [] }
theorem Try.Turn4.at {B0 m : Nat} {A B : World} (T : Try.Turn4 m A B) (h : B0 ≤ m) (hA : B0 ≤ A.heap.size) : Below B0 A B := ⟨T.os, T.tape, T.output, T.size, fun k hk => T.block k (by omega) (.inl (by omega))⟩
theorem Try.sI.turn {w : World} {m : Nat} {pre : List (Nat × Nat)} {A B : World} (h : Try.sI w m pre A) (T : Try.Turn4 m A B) (hm : w.heap.size + 4 ≤ m) : Try.sI w m pre B := by
  obtain ⟨h1, h2, h3, h4, h5, h6⟩ := h
  exact ⟨Try.builder_turn h1 (by omega) h6 T, h2, (T.block _ (Array.getElem?_eq_some_iff.1 h3).1 (by omega)).trans h3, (T.block _ (Array.getElem?_eq_some_iff.1 h4).1 (by omega)).trans h4, h5.trans (T.at (by omega) h5.size), fun k a b => T.kind k (h6 k a b)⟩
theorem Try.cells_snoc (pre : List (Nat × Nat)) (x : Nat × Nat) (h1 : x.1 ≤ 9) (h2 : x.2 ≤ 9) : Lib.byteCells (Try.tx (flat (pre ++ [x]))) = Lib.byteCells (Try.tx (flat pre)) ++ [.int .u8 (48 + (x.1 : Int))] ++ [.int .u8 (48 + (x.2 : Int))] := by
  have a : ((48 + x.1) % 256 : Nat) = 48 + x.1 := Nat.mod_eq_of_lt (by omega)
  have b : ((48 + x.2) % 256 : Nat) = 48 + x.2 := Nat.mod_eq_of_lt (by omega)
  simp [flat, Try.tx, Lib.byteCells, UInt8.toNat_ofNat', a, b]
theorem Try.sI.keep {w : World} {m : Nat} {A B : World} (h : Lib.OthersKept 5 (some (w.heap.size + 2)) A B) (hm : w.heap.size + 4 ≤ m) (hA : m + 4 ≤ A.heap.size) (hs : A.heap.size ≤ B.heap.size) (hn : ∀ k, m ≤ k → k < m + 4 → Try.NR A k) : Try.Keep4 m A B ∧ ∀ k, m ≤ k → k < m + 4 → Try.NR B k :=
  have hk : ∀ k, m ≤ k → k < m + 4 → B.heap[k]? = A.heap[k]? := fun k a b => Try.ok_keep h (by omega) (by omega) (hn k a b)
  ⟨⟨hs, hk⟩, fun k a b => (hn k a b).same (hk k a b)⟩
theorem Try.res45 (tmps : Array Value) (b c : Nat) (u v : Value) (w : World) (h2 : tmps[2]?.getD undef = .pointer (some ⟨b, 0, none⟩)) (h3 : tmps[3]?.getD undef = .pointer (some ⟨c, 0, none⟩)) (hu : w.cell? ⟨b, 0, none⟩ = some u) (hv : w.cell? ⟨c, 0, none⟩ = some v) :
    (results Try.f45 tmps).run Try.prog w = .ok (.tuple #[u, v]) w := by
  simp [results, h2, h3, go_sem, hu, hv]
set_option maxRecDepth 100000 in
set_option maxHeartbeats 2000000 in
theorem Try.said_in (ds : List Nat) (hd : Dig ds) (hlen : ds.length < 1099511627776) (w : World) : Calls Try.prog 45 #[.string (Try.txt ds)] w fun e w' => e = .returned (Try.saidV ds) ∧ Below w.heap.size w w' := by
  refine (callsIn_wide (n := 3)).1 ?_
  have hro : Fence.wide.round = none := rfl
  refine callsIn_of_wp_marks Try.func45 rfl trivial ?_ hro
  simp only [Try.ntmps45, List.size_toArray, List.length_cons, List.length_nil, Nat.reduceAdd, Nat.reduceSub, Array.replicate_succ, Array.replicate_zero, List.push_toArray, List.append_toArray, List.nil_append, List.cons_append]
  gi_wp2_with (refine ⟨trivial, ?_⟩; gi_at_call 41; refine (callsIn_wide.2 (Try.runsOf_in _ _)).mono ?_; rintro e w' ⟨rfl, rfl⟩)
  obtain ⟨W0, hW0⟩ : ∃ W0, (((w.alloc (.cells #[.string ⟨#[]⟩] 9)).alloc (.cells #[.int .i64 0] 25)).alloc (.cells #[.pointer none, .slice none 0 0] 65)).alloc (.cells #[.string (Try.txt ds)] 9) = W0 := ⟨_, rfl⟩
  have hs0 : W0.heap.size = w.heap.size + 4 := by rw [← hW0]; simp
  have hq0 : W0.cell? ⟨w.heap.size + 3, 0, none⟩ = some (.string (Try.txt ds)) := by
    have := World.alloc_heap_new (((w.alloc (.cells #[.string ⟨#[]⟩] 9)).alloc (.cells #[.int .i64 0] 25)).alloc (.cells #[.pointer none, .slice none 0 0] 65)) (.cells #[.string (Try.txt ds)] 9)
    rw [hW0] at this
    simp only [World.size_alloc] at this
    rw [Lib.cell_of_heap this]; rfl
  have hr2 : W0.heap[w.heap.size]? = some (.cells #[.string ⟨#[]⟩] 9) := by
    rw [← hW0]; exact (Below.heap_alloc _ _ _ (by simp; omega)).trans ((Below.heap_alloc _ _ _ (by simp; omega)).trans ((Below.heap_alloc _ _ _ (by simp)).trans (World.alloc_heap_new w _)))
  have hr3 : W0.heap[w.heap.size + 1]? = some (.cells #[.int .i64 0] 25) := by
    rw [← hW0]
    refine (Below.heap_alloc _ _ _ (by simp)).trans ((Below.heap_alloc _ _ _ (by simp)).trans ?_)
    have := World.alloc_heap_new (w.alloc (.cells #[.string ⟨#[]⟩] 9)) (.cells #[.int .i64 0] 25)
    rwa [World.size_alloc] at this
  have hb0 : Below w.heap.size w W0 := by rw [← hW0]; exact ((((Below.refl _ w).alloc (Nat.le_refl _) _).alloc (by simp) _).alloc (by simp; omega) _).alloc (by simp; omega) _
  have hB0 : Lib.IsBuilderF 65 5 w.heap.size (w.heap.size + 2) (Lib.byteCells (Try.tx (flat []))) W0 := by
    refine .inl ⟨by omega, .slice none 0 0, ?_, World.ownsRowF_nil _ _ _ _, by simp [Value.ownBlock]⟩
    rw [← hW0]
    refine (Below.heap_alloc _ _ _ (by simp)).trans ?_
    have := World.alloc_heap_new ((w.alloc (.cells #[.string ⟨#[]⟩] 9)).alloc (.cells #[.int .i64 0] 25)) (.cells #[.pointer none, .slice none 0 0] 65)
    simpa using this
  rw [hW0]
  clear hW0
  refine Try.range52 hro (by omega) trivial (w.heap.size + 3) ds hd hlen rfl hq0
    (Try.sI w W0.heap.size)
    (Try.sX w)
    (Try.sA ds w W0.heap.size)
    ?hI ?hIx ?hAs ⟨hB0, by simp, hr2, hr3, hb0, fun k hk _ c fz e => by have := (Array.getElem?_eq_some_iff.1 e).1; omega⟩ ?assign ?body ?done ?stop
  all_goals have hs1 : w.heap.size + 4 ≤ W0.heap.size := by omega
  all_goals have hs2 : W0.heap.size ≤ w.heap.size + 4 := by omega
  all_goals clear hs0
  case hI => exact fun pre A B h T => h.turn T (by omega)
  case hIx =>
    rintro pre A B ⟨h1, h3, h4, h5⟩ T
    exact ⟨h1, (T.block _ (Array.getElem?_eq_some_iff.1 h3).1 (by omega)).trans h3, (T.block _ (Array.getElem?_eq_some_iff.1 h4).1 (by omega)).trans h4, h5.trans (T.at (by omega) h5.size)⟩
  case hAs =>
    rintro pre x a' A B ⟨h1, Bx, h2, h3, h4⟩ T
    exact ⟨h1.turn T (by omega), Bx, h2, (T.block _ (Array.getElem?_eq_some_iff.1 h3).1 (by omega)).trans h3, h4⟩
  case assign =>
    intro l pre x W K hi hsz hK
    gi_wp2
    have hnew := World.alloc_heap_new W (.cells #[.int .i64 x.1, .int .i64 x.2] 52)
    exact hK _ _ ⟨hi.turn (Try.Turn4.alloc _ _ _ rfl) (by omega), W.heap.size, hsz, hnew, rfl⟩ ((Try.Keep4.refl _ _).alloc hsz _)
  case body =>
    rintro l pre x a' W ⟨hi, Bx, hBx, hbx, rfl⟩ hsz hpre
    obtain ⟨h1, h2, h3, h4, h5, h6⟩ := hi
    have c0 : W.cell? ⟨Bx, 0, none⟩ = some (.int .i64 x.1) := by rw [Lib.cell_of_heap hbx]; rfl
    have c1 : W.cell? ⟨Bx, 1, none⟩ = some (.int .i64 x.2) := by rw [Lib.cell_of_heap hbx]; rfl
    by_cases hx9 : 9 < x.1
    · have hx : ((x.1 : Int) > 9) := by omega
      have r0 : W.cell? ⟨w.heap.size, 0, none⟩ = some (.string ⟨#[]⟩) := by rw [Lib.cell_of_heap h3]; rfl
      have r1 : W.cell? ⟨w.heap.size + 1, 0, none⟩ = some (.int .i64 0) := by rw [Lib.cell_of_heap h4]; rfl
      have f0 : W.frozen? ⟨w.heap.size, 0, none⟩ = false := Lib.frozen_of_heap h3 0
      have f1 : W.frozen? ⟨w.heap.size + 1, 0, none⟩ = false := Lib.frozen_of_heap h4 0
      gi_wp2
      refine ⟨((Try.Keep4.refl _ _).setCell (.inl (by show w.heap.size < _; omega)) _).setCell (.inl (by show w.heap.size + 1 < _; omega)) _, ⟨x, by simp, hx9⟩, ?_, ?_, (h5.setCell (p := ⟨w.heap.size, 0, none⟩) (Nat.le_refl _) _).setCell (p := ⟨w.heap.size + 1, 0, none⟩) (by simp) _⟩
      · exact (Below.heap_setCell _ _ _ _ (by simp)).trans (Go.heap_setCell_same _ _ _ _ _ _ h3)
      · exact Go.heap_setCell_same _ _ _ _ _ _ ((Below.heap_setCell _ _ _ _ (by simp)).trans h4)
    · have hx : ¬ ((x.1 : Int) > 9) := by omega
      have hxm : x ∈ runs ds := by obtain ⟨t, ht⟩ := hpre; rw [← ht]; simp
      have hx2 := runs_dig hd x hxm
      have hpl : pre.length + 1 ≤ ds.length := by
        have := runs_len ds
        obtain ⟨t, ht⟩ := hpre
        rw [← ht] at this
        simp at this; omega
      have hbl : (Lib.byteCells (Try.tx (flat pre))).length = 2 * pre.length := by rw [Lib.byteCells_length, Try.tx, List.length_map, flat_length]
      gi_wp2
      refine ⟨trivial, (CallsIn.inRound l (callsIn_wide.2 (Try.writeByte w.heap.size (w.heap.size + 2) _ _ W h1 (by rw [hbl]; omega) h5.size))).mono ?_⟩
      rintro e W1 ⟨rfl, b1, g1, k1⟩
      obtain ⟨q1, n1⟩ := Try.sI.keep k1 hs1 hsz g1.size h6
      have hbx1 : W1.heap[Bx]? = some (.cells #[.int .i64 x.1, .int .i64 x.2] 52) := k1 Bx _ hbx (by simp; omega) (by simp)
      have d1 : W1.cell? ⟨Bx, 1, none⟩ = some (.int .i64 x.2) := by rw [Lib.cell_of_heap hbx1]; rfl
      have hsz1 := g1.size
      gi_wp2
      refine ⟨trivial, (CallsIn.inRound l (callsIn_wide.2 (Try.writeByte w.heap.size (w.heap.size + 2) _ _ W1 (.inr b1) (by rw [List.length_append, hbl]; simp; omega) (by omega)))).mono ?_⟩
      rintro e W2 ⟨rfl, b2, g2, k2⟩
      obtain ⟨q2, n2⟩ := Try.sI.keep k2 hs1 (by omega) g2.size n1
      have k12 := k1.trans k2
      gi_wp2
      refine ⟨q1.trans q2, ⟨?_, ?_, ?_, ?_, (h5.trans g1).trans g2, n2⟩⟩
      · rw [Try.cells_snoc _ _ (by omega) hx2.2]; exact .inr b2
      · intro p hp
        rcases List.mem_append.1 hp with c | c
        · exact h2 p c
        · simp at c; subst c; omega
      · exact k12 _ _ h3 (by simp) (by simp)
      · exact k12 _ _ h4 (by simp) (by simp)
  case done =>
    rintro W ⟨h1, h2, h3, h4, h5, h6⟩ hK
    gi_wp2
    refine ⟨trivial, (callsIn_wide.2 (Try.Builder_String_any_k w.heap.size (w.heap.size + 2) (Try.tx (flat (runs ds))) W h1 h5.size)).mono ?_⟩
    rintro e W1 ⟨rfl, b1, g1, k1⟩
    have h31 := k1 _ _ h3 (by simp) (by simp)
    have h41 := k1 _ _ h4 (by simp) (by simp)
    have hK1 := k1 _ _ hK (by simp; omega) (by simp)
    have r0 : W1.cell? ⟨w.heap.size, 0, none⟩ = some (.string ⟨#[]⟩) := by rw [Lib.cell_of_heap h31]; rfl
    have r1 : W1.cell? ⟨w.heap.size + 1, 0, none⟩ = some (.int .i64 0) := by rw [Lib.cell_of_heap h41]; rfl
    have f0 : W1.frozen? ⟨w.heap.size, 0, none⟩ = false := Lib.frozen_of_heap h31 0
    have f1 : W1.frozen? ⟨w.heap.size + 1, 0, none⟩ = false := Lib.frozen_of_heap h41 0
    gi_wp2
    refine ⟨by simp, .inl ⟨_, _, rfl, run_takeDeferred (by rw [Below.heap_setCell _ _ _ _ (by simp; omega), Below.heap_setCell _ _ _ _ (by simp; omega)]; exact hK1), ?_⟩⟩
    have hsy : Sayable ds := h2
    have e2 : (((W1.setCell ⟨w.heap.size, 0, none⟩ (.string ⟨(Try.tx (flat (runs ds))).toArray⟩)).setCell ⟨w.heap.size + 1, 0, none⟩ (.int .i64 0)).putObj W0.heap.size (.deferred none)).heap[w.heap.size]? = some (.cells #[.string ⟨(Try.tx (flat (runs ds))).toArray⟩] 9) :=
      (World.putObj_heap_other (by omega)).trans ((Below.heap_setCell _ _ _ _ (by simp)).trans (Go.heap_setCell_same _ _ _ _ _ _ h31))
    have e3 : (((W1.setCell ⟨w.heap.size, 0, none⟩ (.string ⟨(Try.tx (flat (runs ds))).toArray⟩)).setCell ⟨w.heap.size + 1, 0, none⟩ (.int .i64 0)).putObj W0.heap.size (.deferred none)).heap[w.heap.size + 1]? = some (.cells #[.int .i64 0] 25) :=
      (World.putObj_heap_other (by omega)).trans (Go.heap_setCell_same _ _ _ _ _ _ ((Below.heap_setCell _ _ _ _ (by simp)).trans h41))
    refine ⟨_, Try.res45 _ w.heap.size (w.heap.size + 1) _ _ _ rfl rfl (by rw [Lib.cell_of_heap e2]; rfl) (by rw [Lib.cell_of_heap e3]; rfl), ?_, ?_⟩
    · simp only [Try.saidV, if_pos hsy]; rfl
    · refine (((h5.trans g1).setCell (p := ⟨w.heap.size, 0, none⟩) (Nat.le_refl _) (.string ⟨(Try.tx (flat (runs ds))).toArray⟩)).setCell (p := ⟨w.heap.size + 1, 0, none⟩) (by simp) (.int .i64 0)).trans ?_
      exact ⟨rfl, rfl, rfl, by simp, fun k hk => World.putObj_heap_other (by omega)⟩
  case stop =>
    rintro pre W hpre ⟨h1, h3, h4, h5⟩ hK
    gi_wp2
    refine ⟨by simp, .inl ⟨_, _, rfl, run_takeDeferred hK, ?_⟩⟩
    have hsn : ¬ Sayable ds := by
      obtain ⟨p, hp, h9⟩ := h1
      obtain ⟨t, ht⟩ := hpre
      intro hs
      have := hs p (by rw [← ht]; exact List.mem_append_left _ hp)
      omega
    have e2 : (W.putObj W0.heap.size (.deferred none)).heap[w.heap.size]? = some (.cells #[.string ⟨#[]⟩] 9) := (World.putObj_heap_other (by omega)).trans h3
    have e3 : (W.putObj W0.heap.size (.deferred none)).heap[w.heap.size + 1]? = some (.cells #[.int .i64 4] 25) := (World.putObj_heap_other (by omega)).trans h4
    refine ⟨_, Try.res45 _ w.heap.size (w.heap.size + 1) _ _ _ rfl rfl (by rw [Lib.cell_of_heap e2]; rfl) (by rw [Lib.cell_of_heap e3]; rfl), ?_, ?_⟩
    · simp only [Try.saidV, if_neg hsn]; rfl
    · exact h5.trans ⟨rfl, rfl, rfl, by simp, fun k hk => World.putObj_heap_other (by omega)⟩
end Go.Proofs
namespace Go.Proofs
open Go.RowKit Go.Shelf Go.Aw
theorem Try.builder_below {B0 b : Nat} {bs : List Value} {A B : World} (h : Lib.IsBuilderF 65 5 B0 b bs A) (T : Below A.heap.size A B) : Lib.IsBuilderF 65 5 B0 b bs B := by
  have key : ∀ p, Lib.BuilderAtF 65 5 B0 b p bs A → Lib.BuilderAtF 65 5 B0 b p bs B := by
    rintro p ⟨hB, v, hbk, hown, hne⟩
    refine ⟨hB, v, (T.block b (Array.getElem?_eq_some_iff.1 hbk).1).trans hbk, ⟨hown.1, ?_⟩, hne⟩
    rcases hown.2 with hn0 | ⟨g, cap, cur, fz, hv, hbg, hg, rest⟩
    · exact .inl hn0
    · exact .inr ⟨g, cap, cur, fz, hv, hbg, (T.block g (Array.getElem?_eq_some_iff.1 hg).1).trans hg, rest⟩
  exact h.elim (fun x => .inl (key _ x)) (fun x => .inr (key _ x))
theorem Try.rep_txt (d : Nat) : ∀ (k : Nat), Lib.repeatL (Try.txt [d]).data.toList k = Try.tx (List.replicate k d)
  | 0 => rfl
  | k + 1 => by
    rw [Lib.repeatL, Try.rep_txt d k]
    rfl
theorem spell_len (L : List (Nat × Nat)) (h : ∀ p ∈ L, p.1 ≤ 1000) : (spell L).length ≤ 1000 * L.length := by
  induction L with
  | nil => simp [spell]
  | cons p L ih =>
    have h1 := h p (List.mem_cons_self ..)
    have h2 := ih (fun q hq => h q (List.mem_cons_of_mem _ hq))
    rw [show spell (p :: L) = List.replicate p.1 p.2 ++ spell L from rfl, List.length_append, List.length_replicate, List.length_cons]
    omega
theorem Try.enc (d : Nat) (h : d ≤ 9) : Utf8.encode (48 + (d : Int)) = Try.txt [d] := by
  have : ∀ d : Fin 10, Utf8.encode ((48 + d.1 : Nat) : Int) = Try.txt [d.1] := by decide
  have e := this ⟨d, by omega⟩
  have e2 : (((48 + d : Nat) : Int)) = 48 + (d : Int) := by omega
  rw [← e2]
  exact e
set_option maxRecDepth 100000 in
set_option maxHeartbeats 2000000 in
theorem Try.written_in (L : List (Nat × Nat)) (hL : ∀ p ∈ L, p.1 ≤ 1000 ∧ p.2 ≤ 9) (hn : L.length ≤ 1000000) (b off c : Nat) (w : World)
    (hc : ∀ (i : Nat) (h : i < L.length), w.cell? ⟨b, off + i * 2, none⟩ = some (.int .i64 L[i].1) ∧ w.cell? ⟨b, off + i * 2 + 1, none⟩ = some (.int .i64 L[i].2)) :
    Calls Try.prog 43 #[.slice (some ⟨b, off, none⟩) L.length c] w fun e w' => e = .returned (.string (Try.txt (spell L))) ∧ Below w.heap.size w w' := by
  go_enter Try.func43, Try.ntmps43
  go_wp2
  go_loopw [8] (fun p wr => ∃ (i : Nat), p = .int .i64 i ∧ i ≤ L.length ∧ Lib.IsBuilderF 65 5 w.heap.size w.heap.size (Lib.byteCells (Try.tx (spell (L.take i)))) wr ∧ Below w.heap.size w wr) (fun p wr => L.length - (intOf p).toNat)
  case atStart =>
    exact ⟨0, rfl, Nat.zero_le _, .inl ⟨Nat.le_refl _, .slice none 0 0, World.alloc_heap_new w _, World.ownsRowF_nil _ _ _ _, by simp [Value.ownBlock]⟩, (Below.refl _ w).alloc (Nat.le_refl _) _⟩
  case round =>
    obtain ⟨i, rfl, hi, hB, hbw⟩ := hrel
    by_cases hp : i < L.length
    · obtain ⟨d0, d1⟩ := hc i hp
      have hbl : b < w.heap.size := World.block_lt_of_cell? w _ d0
      have c0 := (hbw.cell (p := ⟨b, off + i * 2, none⟩) hbl).trans d0
      have c1 := (hbw.cell (p := ⟨b, off + i * 2 + 1, none⟩) hbl).trans d1
      have hL9 : ∀ p ∈ L, p.1 ≤ 1000 := fun p hp => (hL p hp).1
      obtain ⟨hA, hB9⟩ := hL L[i] (List.getElem_mem hp)
      obtain ⟨x, hx⟩ : ∃ x, L[i] = x := ⟨_, rfl⟩
      rw [hx] at c0 c1 hA hB9
      have henc := Try.enc x.2 hB9
      have hT : ∀ W, Calls Try.prog 54 #[.string (Try.txt [x.2]), .int .i64 x.1] W fun e w' => e = .returned (.string (Try.txt (List.replicate x.1 x.2))) ∧ Below W.heap.size W w' := fun W => by
        have := Try.strings_Repeat (Try.txt [x.2]) x.1 W (by omega) (by rw [Try.txt_size]; simp; omega)
        rw [Try.rep_txt] at this
        exact this
      have HX : Hid (L[i] = x) := hx
      clear hx d0 d1 hc hL
      have hsl : (spell (L.take i)).length ≤ 1000 * i := by
        have := spell_len (L.take i) (fun p hp => hL9 p (List.mem_of_mem_take hp))
        rw [List.length_take] at this
        have e : min i L.length = i := by omega
        rwa [e] at this
      clear hL9
      go_wp2_with (go_at_call 54; refine (hT _).mono ?_; rintro e w1 ⟨rfl, b1⟩)
      have hB1 : Lib.IsBuilderF 65 5 w.heap.size w.heap.size (Lib.byteCells (Try.tx (spell (L.take i)))) w1 := Try.builder_below (hB.alloc _) b1
      have hbw1 : Below w.heap.size w w1 := (hbw.alloc hbw.size _).trans (b1.mono (by have := hbw.size; simp; omega))
      have hS := Try.writeString w.heap.size w.heap.size _ (Try.txt (List.replicate x.1 x.2)) w1 hB1 (by rw [Lib.byteCells_length, Try.tx, List.length_map, Try.txt_size, List.length_replicate]; omega) hbw1.size
      refine hS.mono ?_
      rintro e w2 ⟨rfl, b2, g2, k2⟩
      go_wp2
      have ht : L.take (i + 1) = L.take i ++ [x] := by rw [List.take_add_one, List.getElem?_eq_getElem hp, HX.out]; rfl
      refine ⟨⟨i + 1, rfl, hp, .inr ?_, hbw1.trans g2⟩, ?_⟩
      · have e : Lib.byteCells (Try.tx (spell (L.take (i + 1)))) = Lib.byteCells (Try.tx (spell (L.take i))) ++ Lib.strCells (Try.txt (List.replicate x.1 x.2)) := by
          rw [ht, Lib.strCells_eq, show (Try.txt (List.replicate x.1 x.2)).data.toList = Try.tx (List.replicate x.1 x.2) from rfl, ← Lib.byteCells_append]
          simp [spell, Try.tx]
        rw [e]; exact b2
      · simp [intOf]; omega
    · have hie : i = L.length := by omega
      subst hie
      rw [List.take_length] at hB
      go_wp2_with (go_at_call 55; refine (Try.Builder_String_any_k w.heap.size w.heap.size (Try.tx (spell L)) wr hB hbw.size).mono ?_; rintro e w2 ⟨rfl, b2, g2, k2⟩)
      go_ret
      exact ⟨rfl, hbw.trans g2⟩
set_option maxRecDepth 100000 in
set_option maxHeartbeats 2000000 in
theorem Try.written_nil (p : Option Addr) (c : Nat) (w : World) : Calls Try.prog 43 #[.slice p 0 c] w fun e w' => e = .returned (.string ⟨#[]⟩) ∧ Below w.heap.size w w' := by
  go_enter Try.func43, Try.ntmps43
  go_wp2
  go_loopw [8] (fun p wr => p = .int .i64 0 ∧ Lib.IsBuilderF 65 5 w.heap.size w.heap.size (Lib.byteCells []) wr ∧ Below w.heap.size w wr) (fun p wr => 0)
  case atStart =>
    exact ⟨rfl, .inl ⟨Nat.le_refl _, .slice none 0 0, World.alloc_heap_new w _, World.ownsRowF_nil _ _ _ _, by simp [Value.ownBlock]⟩, (Below.refl _ w).alloc (Nat.le_refl _) _⟩
  case round =>
    obtain ⟨rfl, hB, hbw⟩ := hrel
    go_wp2_with (go_at_call 55; refine (Try.Builder_String_any_k w.heap.size w.heap.size [] wr hB hbw.size).mono ?_; rintro e w2 ⟨rfl, b2, g2, k2⟩)
    go_ret
    exact ⟨rfl, hbw.trans g2⟩
end Go.Proofs
