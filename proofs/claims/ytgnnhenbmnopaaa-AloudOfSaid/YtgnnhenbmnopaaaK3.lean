import Derived.Test.YtgnnhenbmnopaaaK1
import Derived.Test.YtgnnhenbmnopaaaK2
import Derived.Maps.AppendAt
set_option linter.all false
set_option linter.unusedSimpArgs false
set_option linter.unnecessarySimpa false
set_option linter.unusedVariables false
set_option linter.unusedSectionVars false
namespace Go.Proofs
open Go.RowKit Go.Shelf Go.Aw Go.Proofs.Ytgnnhenbmnopaaa
attribute [local go_sem] Oper.semAt_some
theorem Try.txt_digs {s : ByteArray} (h : allD s = true) : Try.txt (digs s) = s := by
  have : ((digs s).map fun d => UInt8.ofNat (48 + d)) = s.data.toList := by
    unfold digs
    rw [List.map_map]
    conv => rhs; rw [← List.map_id s.data.toList]
    refine List.map_congr_left fun b hb => ?_
    unfold allD at h
    rw [List.all_eq_true] at h
    have := h b hb
    simp at this
    show UInt8.ofNat (48 + (b.toNat - 48)) = b
    rw [show 48 + (b.toNat - 48) = b.toNat by omega]
    simp
  unfold Try.txt
  rw [this]
/-- The longest run. -/
def mxR : List (Nat × Nat) → Nat
  | [] => 0
  | p :: l => max p.1 (mxR l)
theorem mxR_snoc (l : List (Nat × Nat)) (p : Nat × Nat) : mxR (l ++ [p]) = max (mxR l) p.1 := by
  induction l with
  | nil => simp [mxR]
  | cons q l ih => simp only [List.cons_append, mxR, ih]; omega
def Try.longV (s : ByteArray) : Value := if werr s = 0 then .tuple #[.int .i64 (mxR (runs (digs s))), .int .i64 0] else .tuple #[.int .i64 0, .int .i64 (werr s)]
theorem werr_zero {s : ByteArray} (h : werr s = 0) : s.size ≤ 200 ∧ s.size ≠ 0 ∧ allD s = true := by
  unfold werr at h
  split at h
  · cases h
  · split at h
    · rename_i a b; exact ⟨by omega, b.1, b.2⟩
    · cases h
def Try.mI (w w1 : World) (pre : List (Nat × Nat)) (W : World) : Prop := W.heap[w1.heap.size]? = some (.cells #[.int .i64 (mxR pre)] 3) ∧ Below w.heap.size w W
def Try.mA (ds : List Nat) (w w1 : World) (m : Nat) (pre : List (Nat × Nat)) (x : Nat × Nat) (a' : Act) (W : World) : Prop := Try.mI w w1 pre W ∧ ∃ B, m + 4 ≤ B ∧ W.heap[B]? = some (.cells #[.int .i64 x.1, .int .i64 x.2] 52) ∧
  a' = { tmps := #[.string (Try.txt ds), undef, .int .i64 0, .int .i64 0, .int .i64 0, .pointer (some ⟨w1.heap.size, 0, none⟩), .pointer (some ⟨B, 0, none⟩), .string (Try.txt ds), .int .i64 0, .int .i64 0, .bool false, undef, .string (Try.txt ds), .func (.func 52) #[] #[.pointer (some ⟨w1.heap.size + 1, 0, none⟩)], Try.pr x, undef, undef, undef, undef, undef], defers := [] }
theorem Try.mI.turn {w w1 : World} {m : Nat} {pre : List (Nat × Nat)} {A B : World} (h : Try.mI w w1 pre A) (T : Try.Turn4 m A B) (hm : w1.heap.size + 2 ≤ m) (hb : w.heap.size ≤ w1.heap.size) : Try.mI w w1 pre B := by
  obtain ⟨h3, h5⟩ := h
  exact ⟨(T.block _ (Array.getElem?_eq_some_iff.1 h3).1 (by omega)).trans h3, h5.trans (T.at (by omega) h5.size)⟩
set_option maxRecDepth 100000 in
set_option maxHeartbeats 2000000 in
theorem Try.longest_in (s : ByteArray) (w : World) : Calls Try.prog 23 #[.string s] w fun e w' => e = .returned (Try.longV s) ∧ Below w.heap.size w w' := by
  refine (callsIn_wide (n := 3)).1 ?_
  have hro : Fence.wide.round = none := rfl
  refine callsIn_of_wp_marks Try.func23 rfl trivial ?_ hro
  simp only [Try.ntmps23, List.size_toArray, List.length_cons, List.length_nil, Nat.reduceAdd, Nat.reduceSub, Array.replicate_succ, Array.replicate_zero, List.push_toArray, List.append_toArray, List.nil_append, List.cons_append]
  by_cases hz : werr s = 0
  · have hw40 := fun w => wordErr_calls s w
    rw [hz] at hw40
    obtain ⟨hs1, hs2, hs3⟩ := werr_zero hz
    have hs := Try.txt_digs hs3
    have hd := digs_dig hs3
    have hlen : (digs s).length ≤ 200 := by rw [digs_len]; exact hs1
    unfold Try.longV
    rw [if_pos hz]
    generalize hds : digs s = ds at *
    subst hs
    clear hz hs1 hs2 hs3 hds
    gi_wp2_with (refine ⟨trivial, ?_⟩; gi_at_call 40; refine (callsIn_wide.2 (hw40 _)).mono ?_; rintro e w1 ⟨rfl, b1⟩)
    gi_wp2_with (refine ⟨trivial, ?_⟩; gi_at_call 41; refine (callsIn_wide.2 (Try.runsOf_in _ _)).mono ?_; rintro e w' ⟨rfl, rfl⟩)
    obtain ⟨W0, hW0⟩ : ∃ W0, (w1.alloc (.cells #[.int .i64 0] 3)).alloc (.cells #[.string (Try.txt ds)] 9) = W0 := ⟨_, rfl⟩
    have hs0 : W0.heap.size = w1.heap.size + 2 := by rw [← hW0]; simp
    have hq0 : W0.cell? ⟨w1.heap.size + 1, 0, none⟩ = some (.string (Try.txt ds)) := by
      have := World.alloc_heap_new (w1.alloc (.cells #[.int .i64 0] 3)) (.cells #[.string (Try.txt ds)] 9)
      rw [hW0] at this
      simp only [World.size_alloc] at this
      rw [Lib.cell_of_heap this]; rfl
    have hr2 : W0.heap[w1.heap.size]? = some (.cells #[.int .i64 ((mxR [] : Nat) : Int)] 3) := by
      rw [← hW0]; exact (Below.heap_alloc _ _ _ (by simp)).trans (World.alloc_heap_new w1 _)
    have hb0 : Below w.heap.size w W0 := by rw [← hW0]; exact (b1.alloc b1.size _).alloc (by have := b1.size; simp; omega) _
    have hb1 := b1.size
    rw [hW0]
    clear hW0
    refine Try.range52 hro (by omega) trivial (w1.heap.size + 1) ds hd (by omega) rfl hq0 (Try.mI w w1) (fun _ _ => False) (Try.mA ds w w1 W0.heap.size) ?hI ?hIx ?hAs ⟨hr2, hb0⟩ ?assign ?body ?done ?stop
    all_goals have hs1 : w1.heap.size + 2 ≤ W0.heap.size := by omega
    all_goals have hs2 : W0.heap.size ≤ w1.heap.size + 2 := by omega
    all_goals clear hs0
    case hI => exact fun pre A B h T => h.turn T hs1 hb1
    case hIx => exact fun _ _ _ h _ => h.elim
    case hAs =>
      rintro pre x a' A B ⟨h1, Bx, h2, h3, h4⟩ T
      exact ⟨h1.turn T hs1 hb1, Bx, h2, (T.block _ (Array.getElem?_eq_some_iff.1 h3).1 (by omega)).trans h3, h4⟩
    case assign =>
      intro l pre x W K hi hsz hK
      gi_wp2
      have hnew := World.alloc_heap_new W (.cells #[.int .i64 x.1, .int .i64 x.2] 52)
      exact hK _ _ ⟨hi.turn (Try.Turn4.alloc _ _ _ rfl) hs1 hb1, W.heap.size, hsz, hnew, rfl⟩ ((Try.Keep4.refl _ _).alloc hsz _)
    case body =>
      rintro l pre x a' W ⟨⟨h3, h5⟩, Bx, hBx, hbx, rfl⟩ hsz hpre
      have c0 : W.cell? ⟨Bx, 0, none⟩ = some (.int .i64 x.1) := by rw [Lib.cell_of_heap hbx]; rfl
      have r0 : W.cell? ⟨w1.heap.size, 0, none⟩ = some (.int .i64 (mxR pre)) := by rw [Lib.cell_of_heap h3]; rfl
      have f0 : W.frozen? ⟨w1.heap.size, 0, none⟩ = false := Lib.frozen_of_heap h3 0
      gi_wp2
      have hm : ((mxR (pre ++ [x]) : Nat) : Int) = max (mxR pre : Int) x.1 := by rw [mxR_snoc]; omega
      refine ⟨(Try.Keep4.refl _ _).setCell (.inl (by show w1.heap.size < _; omega)) _, ?_, h5.setCell (p := ⟨w1.heap.size, 0, none⟩) hb1 _⟩
      rw [hm]
      exact Go.heap_setCell_same _ _ _ _ _ _ h3
    case done =>
      rintro W ⟨h3, h5⟩ hK
      have r0 : W.cell? ⟨w1.heap.size, 0, none⟩ = some (.int .i64 (mxR (runs ds))) := by rw [Lib.cell_of_heap h3]; rfl
      gi_wp2
      refine ⟨by simp, .inl ⟨_, _, rfl, run_takeDeferred hK, ?_⟩⟩
      refine ⟨_, results_tmp2 rfl _ _ _, rfl, h5.trans ⟨rfl, rfl, rfl, by simp, fun k hk => World.putObj_heap_other (by omega)⟩⟩
    case stop => exact fun _ _ _ h _ => h.elim
  · have hw40 := fun w => wordErr_calls s w
    have hne : ((werr s != 0) = true) := by simpa using hz
    gi_wp2_with (refine ⟨trivial, ?_⟩; gi_at_call 40; refine (callsIn_wide.2 (hw40 _)).mono ?_; rintro e w1 ⟨rfl, b1⟩)
    exact ⟨_, results_tmp2 rfl _ _ _, by simp only [Try.longV, if_neg hz]; rfl, b1⟩
end Go.Proofs
namespace Go.Proofs
open Go.RowKit Go.Shelf Go.Aw Go.Proofs.Ytgnnhenbmnopaaa
attribute [local go_sem] Oper.semAt_some
def cellsP (l : List (Nat × Nat)) : List Value := l.flatMap fun p => [.int .i64 p.1, .int .i64 p.2]
theorem cellsP_len (l : List (Nat × Nat)) : (cellsP l).length = l.length * 2 := by
  induction l with
  | nil => rfl
  | cons p l ih => simp only [cellsP] at ih; simp [cellsP, ih]; omega
theorem cellsP_snoc (l : List (Nat × Nat)) (p : Nat × Nat) : cellsP (l ++ [p]) = cellsP l ++ [.int .i64 p.1, .int .i64 p.2] := by simp [cellsP]
theorem Try.info52 : (Try.prog.info? 52).map (fun i => (i.zero, i.size, i.bytes)) = some (some (.agg #[.int .i64 0, .int .i64 0]), 2, 16) := by kernel_rfl
def Try.runsR (s : ByteArray) (w : World) (e : Ending) (w' : World) : Prop :=
  if werr s = 0 then (∃ v, e = .returned (.tuple #[v, .int .i64 0]) ∧ w'.ownsRow w.heap.size 52 2 v (runs (digs s)).length (cellsP (runs (digs s)))) ∧ Below w.heap.size w w'
  else e = .returned (.tuple #[.slice none 0 0, .int .i64 (werr s)]) ∧ Below w.heap.size w w'
theorem two_new (W : World) (x y : Value) (t : TypeId) : ∀ j u, [x, y][j]? = some u → (W.alloc (.cells #[x, y] t)).cell? ((⟨W.heap.size, 0, none⟩ : Addr).add j) = some u := by
  intro j u hj
  match j, hj with
  | 0, hj => simp at hj; subst hj; simp [Addr.add]
  | 1, hj => simp at hj; subst hj; simp [Addr.add]
def Try.nI (w w1 : World) (pre : List (Nat × Nat)) (W : World) : Prop := (∃ v, W.heap[w1.heap.size]? = some (.cells #[v] 27) ∧ v.oneCell' = true ∧ W.ownsRow (w1.heap.size + 6) 52 2 v pre.length (cellsP pre)) ∧ Below w.heap.size w W
def Try.nA (ds : List Nat) (w w1 : World) (m : Nat) (pre : List (Nat × Nat)) (x : Nat × Nat) (a' : Act) (W : World) : Prop := Try.nI w w1 pre W ∧ ∃ B, m + 4 ≤ B ∧ W.heap[B]? = some (.cells #[.int .i64 x.1, .int .i64 x.2] 52) ∧
  a' = { tmps := #[.string (Try.txt ds), undef, .slice none 0 0, .int .i64 0, .int .i64 0, .pointer (some ⟨w1.heap.size, 0, none⟩), .pointer (some ⟨B, 0, none⟩), .string (Try.txt ds), .int .i64 0, .int .i64 0, .bool false, undef, .string (Try.txt ds), .func (.func 52) #[] #[.pointer (some ⟨w1.heap.size + 1, 0, none⟩)], Try.pr x, undef, undef, undef, undef, undef], defers := [] }
theorem Try.nI.turn {w w1 : World} {m : Nat} {pre : List (Nat × Nat)} {A B : World} (h : Try.nI w w1 pre A) (T : Try.Turn4 m A B) (hm : w1.heap.size + 2 ≤ m) (hm2 : m ≤ w1.heap.size + 2) (hb : w.heap.size ≤ w1.heap.size) : Try.nI w w1 pre B := by
  obtain ⟨⟨v, h3, h4, hrow⟩, h5⟩ := h
  refine ⟨⟨v, (T.block _ (Array.getElem?_eq_some_iff.1 h3).1 (by omega)).trans h3, h4, ⟨hrow.1, ?_⟩⟩, h5.trans (T.at (by omega) h5.size)⟩
  rcases hrow.2 with hn | ⟨g, cap, cur, hv, hbg, hg, rest⟩
  · exact .inl hn
  · exact .inr ⟨g, cap, cur, hv, hbg, (T.block g (Array.getElem?_eq_some_iff.1 hg).1 (by omega)).trans hg, rest⟩
set_option maxRecDepth 100000 in
set_option maxHeartbeats 2000000 in
theorem Try.runs_in (s : ByteArray) (w : World) : Calls Try.prog 20 #[.string s] w fun e w' => Try.runsR s w e w' := by
  refine (callsIn_wide (n := 3)).1 ?_
  have hro : Fence.wide.round = none := rfl
  refine callsIn_of_wp_marks Try.func20 rfl trivial ?_ hro
  simp only [Try.ntmps20, List.size_toArray, List.length_cons, List.length_nil, Nat.reduceAdd, Nat.reduceSub, Array.replicate_succ, Array.replicate_zero, List.push_toArray, List.append_toArray, List.nil_append, List.cons_append]
  by_cases hz : werr s = 0
  · have hw40 := fun w => wordErr_calls s w
    rw [hz] at hw40
    obtain ⟨hs1, hs2, hs3⟩ := werr_zero hz
    have hs := Try.txt_digs hs3
    have hd := digs_dig hs3
    have hlen : (digs s).length ≤ 200 := by rw [digs_len]; exact hs1
    unfold Try.runsR
    simp only [if_pos hz]
    generalize hds : digs s = ds at *
    subst hs
    clear hz hs1 hs2 hs3 hds
    gi_wp2_with (refine ⟨trivial, ?_⟩; gi_at_call 40; refine (callsIn_wide.2 (hw40 _)).mono ?_; rintro e w1 ⟨rfl, b1⟩)
    gi_wp2_with (refine ⟨trivial, ?_⟩; gi_at_call 41; refine (callsIn_wide.2 (Try.runsOf_in _ _)).mono ?_; rintro e w' ⟨rfl, rfl⟩)
    obtain ⟨W0, hW0⟩ : ∃ W0, (w1.alloc (.cells #[.slice none 0 0] 27)).alloc (.cells #[.string (Try.txt ds)] 9) = W0 := ⟨_, rfl⟩
    have hs0 : W0.heap.size = w1.heap.size + 2 := by rw [← hW0]; simp
    have hq0 : W0.cell? ⟨w1.heap.size + 1, 0, none⟩ = some (.string (Try.txt ds)) := by
      have := World.alloc_heap_new (w1.alloc (.cells #[.slice none 0 0] 27)) (.cells #[.string (Try.txt ds)] 9)
      rw [hW0] at this
      simp only [World.size_alloc] at this
      rw [Lib.cell_of_heap this]; rfl
    have hr2 : W0.heap[w1.heap.size]? = some (.cells #[.slice none 0 0] 27) := by
      rw [← hW0]; exact (Below.heap_alloc _ _ _ (by simp)).trans (World.alloc_heap_new w1 _)
    have hb0 : Below w.heap.size w W0 := by rw [← hW0]; exact (b1.alloc b1.size _).alloc (by have := b1.size; simp; omega) _
    have hb1 := b1.size
    rw [hW0]
    clear hW0
    refine Try.range52 hro (by omega) trivial (w1.heap.size + 1) ds hd (by omega) rfl hq0 (Try.nI w w1) (fun _ _ => False) (Try.nA ds w w1 W0.heap.size) ?hI ?hIx ?hAs ⟨⟨_, hr2, rfl, World.ownsRow_nil _ _ _ _⟩, hb0⟩ ?assign ?body ?done ?stop
    all_goals have hs1 : w1.heap.size + 2 ≤ W0.heap.size := by omega
    all_goals have hs2 : W0.heap.size ≤ w1.heap.size + 2 := by omega
    all_goals clear hs0
    case hI => exact fun pre A B h T => h.turn T hs1 hs2 hb1
    case hIx => exact fun _ _ _ h _ => h.elim
    case hAs =>
      rintro pre x a' A B ⟨h1, Bx, h2, h3, h4⟩ T
      exact ⟨h1.turn T hs1 hs2 hb1, Bx, h2, (T.block _ (Array.getElem?_eq_some_iff.1 h3).1 (by omega)).trans h3, h4⟩
    case assign =>
      intro l pre x W K hi hsz hK
      gi_wp2
      have hnew := World.alloc_heap_new W (.cells #[.int .i64 x.1, .int .i64 x.2] 52)
      exact hK _ _ ⟨hi.turn (Try.Turn4.alloc _ _ _ rfl) hs1 hs2 hb1, W.heap.size, hsz, hnew, rfl⟩ ((Try.Keep4.refl _ _).alloc hsz _)
    case body =>
      rintro l pre x a' W ⟨⟨⟨v, h3, h4, hrow⟩, h5⟩, Bx, hBx, hbx, rfl⟩ hsz hpre
      have c0 : W.cell? ⟨Bx, 0, none⟩ = some (.int .i64 x.1) := by rw [Lib.cell_of_heap hbx]; rfl
      have c1 : W.cell? ⟨Bx, 1, none⟩ = some (.int .i64 x.2) := by rw [Lib.cell_of_heap hbx]; rfl
      have r0 : W.cell? ⟨w1.heap.size, 0, none⟩ = some v := by rw [Lib.cell_of_heap h3]; rfl
      have f0 : W.frozen? ⟨w1.heap.size, 0, none⟩ = false := Lib.frozen_of_heap h3 0
      have hpl : pre.length + 1 ≤ ds.length := by
        have := runs_len ds
        obtain ⟨t, ht⟩ := hpre
        rw [← ht] at this
        simp at this; omega
      obtain ⟨i0, hi, hz0, hz1, hz2⟩ := info_parts Try.info52
      gi_wp2_with (gi_at_builtin; refine wpListIn_append_own _ rfl _ _ 27 rfl (w1.heap.size + 6) 52 i0 (.agg #[.int .i64 0, .int .i64 0]) 2 16 Try.underlying27 hi hz0 hz1 hz2 rfl (by decide) _ _ _ rfl (hrow.alloc _) ⟨W.heap.size, 0, none⟩ 1 1 [.int .i64 x.1, .int .i64 x.2] rfl rfl (two_new _ _ _ _) (by simp [Value.oneCell']) (by unfold maxLen; omega) (by omega) (by simp; omega) ?_; intro v' w2 hown' hgrow _; obtain ⟨g', cap', rfl⟩ := ownsRow_succ hown'; have hk0 : w2.heap[w1.heap.size]? = some (.cells #[v] 27) := (hgrow.block _ (by simp; omega) (fun e => by have := (hrow.lt _ e.symm).1; omega)).trans ((Below.heap_alloc _ _ _ (by omega)).trans h3); have q0 : w2.cell? ⟨w1.heap.size, 0, none⟩ = some v := (by rw [Lib.cell_of_heap hk0]; rfl); have q1 : w2.frozen? ⟨w1.heap.size, 0, none⟩ = false := Lib.frozen_of_heap hk0 0)
      have hsz2 : W.heap.size + 1 ≤ w2.heap.size := by have := hgrow.size; simpa using this
      have hrl : ∀ k, v.ownBlock = some k → w1.heap.size + 6 ≤ k := fun k e => (hrow.lt k e).1
      refine ⟨⟨by simp [World.setCell]; omega, fun k k1 k2 => (Below.heap_setCell _ _ _ _ (by simp; omega)).trans ((hgrow.block k (by simp; omega) (fun e => by have := hrl k e.symm; omega)).trans (Below.heap_alloc _ _ _ (by omega)))⟩, ⟨_, Go.heap_setCell_same _ _ _ _ _ _ hk0, rfl, ?_⟩, ?_⟩
      · rw [cellsP_snoc, List.length_append]
        refine ⟨hown'.1, ?_⟩
        rcases hown'.2 with hn | ⟨g, cap, cur, hv, hbg, hg, rest⟩
        · exact .inl hn
        · exact .inr ⟨g, cap, cur, hv, hbg, (Below.heap_setCell _ _ _ _ (by simp; omega)).trans hg, rest⟩
      · exact ((h5.alloc h5.size _).grown hgrow (by have := h5.size; simp; omega) (fun k e => by have := hrl k e; omega)).setCell (p := ⟨w1.heap.size, 0, none⟩) hb1 _
    case done =>
      rintro W ⟨⟨v, h3, h4, hrow⟩, h5⟩ hK
      have r0 : W.cell? ⟨w1.heap.size, 0, none⟩ = some v := by rw [Lib.cell_of_heap h3]; rfl
      gi_wp2
      refine ⟨by simp, .inl ⟨_, _, rfl, run_takeDeferred hK, ?_⟩⟩
      refine ⟨_, results_tmp2 rfl _ _ _, ⟨v, rfl, ?_⟩, h5.trans ⟨rfl, rfl, rfl, by simp, fun k hk => World.putObj_heap_other (by omega)⟩⟩
      refine ⟨hrow.1, ?_⟩
      rcases hrow.2 with hn | ⟨g, cap, cur, hv, hbg, hg, rest⟩
      · exact .inl hn
      · exact .inr ⟨g, cap, cur, hv, by omega, (World.putObj_heap_other (by omega)).trans hg, rest⟩
    case stop => exact fun _ _ _ h _ => h.elim
  · have hw40 := fun w => wordErr_calls s w
    have hne : ((werr s != 0) = true) := by simpa using hz
    gi_wp2_with (refine ⟨trivial, ?_⟩; gi_at_call 40; refine (callsIn_wide.2 (hw40 _)).mono ?_; rintro e w1 ⟨rfl, b1⟩)
    refine ⟨_, results_tmp2 rfl _ _ _, ?_⟩
    show Try.runsR s w _ _
    unfold Try.runsR
    rw [if_neg hz]
    exact ⟨rfl, b1⟩
end Go.Proofs
