import Derived.Test.YteeelcmnlomgmaaDtO
import Derived.ChangeSlices
import Derived.ChangeShapes
import Derived.WideShapes
import Derived.ProofKit
import Derived.Test.YteeelcmnlomgmaaJ4
set_option linter.all false
set_option linter.unusedSimpArgs false
set_option linter.unnecessarySimpa false
set_option linter.unusedVariables false
set_option linter.unusedSectionVars false
set_option linter.unusedSectionVars false
set_option linter.unusedVariables false
namespace Go.Ds
open Go.ChangeShapes Go.WideShapes

/-! ## A list of integers that came in -/

/-! ## Parts of slices -/
/-- A capacity that is known, or that of an appended row. -/
def CapOk (s : Value) : Prop := ∀ a n c, s = .slice (some a) n c → c = OPEN + 1 ∨ (n ≤ c ∧ c < OPEN)
theorem CapOk.nil : CapOk (.slice none 0 0) := fun a n c h => by cases h
theorem CapOk.known {a : Option Addr} {n c : Nat} (h : n ≤ c) (h2 : c < OPEN) : CapOk (.slice a n c) := fun a' n' c' e => by cases e; exact .inr ⟨h, h2⟩
theorem Own.capOk {g : GH} {s : Value} {vs : List Value} {t : TypeId} {base : Nat} (h : Own g s vs t base) : CapOk s := by
  rcases h with ⟨rfl, _⟩ | ⟨j, fam, rfl, _⟩
  · exact .nil
  · intro a n c e
    cases e
    exact .inl rfl
theorem SlR.sub {g : GH} {s : Value} {vs : List Value} (h : SlR g s vs) (hc : CapOk s) {l m : Nat} {lo hi : Option Value} (hlo : lowF lo = some l) (hhi : highF vs.length hi = some m) (hl : l ≤ m) (hm : m ≤ vs.length) :
    ∃ u, slcLF 1 s lo hi = some u ∧ SlR g u ((vs.drop l).take (m - l)) ∧ CapOk u := by
  rcases h with ⟨rfl, rfl⟩ | ⟨j, off, cap, ob, rfl, h2, h3, h4, h5, h6⟩
  · simp only [List.length_nil, Nat.le_zero] at hm
    subst hm
    have : l = 0 := by omega
    subst this
    refine ⟨.slice none 0 0, ?_, .inl ⟨rfl, by simp⟩, .nil⟩
    simp only [List.length_nil] at hhi
    simp only [slcLF, hlo, hhi]
  · have hlen : ((vs.drop l).take (m - l)).length = m - l := by rw [List.length_take, List.length_drop]; omega
    have hjunk : (ob.kind = 1 ∨ (ob.kind = 4 ∧ ((vs.drop l).take (m - l)).any isJ = false)) := by
      rcases h4 with h | ⟨h, k⟩
      · exact .inl h
      · refine .inr ⟨h, ?_⟩
        rw [List.any_eq_false] at k ⊢
        exact fun x hx => k x (List.mem_of_mem_drop (List.mem_of_mem_take hx))
    have hcut : (ob.cells.drop (off + l)).take (m - l) = (vs.drop l).take (m - l) := by
      conv => rhs; rw [← h6]
      rw [List.drop_take, List.take_take, List.drop_drop]
      congr 1
      omega
    have add1 : (⟨j, off, none⟩ : Addr).add (l * 1) = ⟨j, off + l, none⟩ := by
      rw [Nat.mul_one]
      unfold Addr.add
      split
      · rename_i h; congr 1; omega
      · rfl
    simp only [slcLF, hlo, hhi, add1]
    rcases hc _ _ _ rfl with rfl | ⟨k1, k2⟩
    · rw [show Nat.beq (OPEN + 1) (OPEN + 1) = true from Nat.beq_refl _, cond_true, show (Nat.ble l m && Nat.ble m vs.length) = true from by simp [hl, hm], cond_true]
      refine ⟨_, rfl, .inr ⟨j, off + l, OPEN + 1, ob, by rw [hlen], h2, h3, hjunk, by omega, by rw [hlen]; exact hcut⟩, fun a n c e => by cases e; exact .inl rfl⟩
    · rw [show Nat.beq cap (OPEN + 1) = false from Bool.eq_false_iff.2 (fun h => by have := Nat.eq_of_beq_eq_true h; omega), cond_false, show (Nat.blt cap OPEN && Nat.ble l m && Nat.ble m cap) = true from by simp [k2, hl]; omega, cond_true]
      refine ⟨_, rfl, ?_, fun a n c e => by cases e; exact .inr ⟨by omega, by omega⟩⟩
      cases hb : Nat.beq cap l with
      | true =>
        have := Nat.eq_of_beq_eq_true hb
        exact .inr ⟨j, off, cap - l, ob, by rw [hlen]; rfl, h2, h3, hjunk, by omega, by rw [hlen, show m - l = 0 by omega]; simp⟩
      | false => exact .inr ⟨j, off + l, cap - l, ob, by rw [hlen]; rfl, h2, h3, hjunk, by omega, by rw [hlen]; exact hcut⟩
theorem SlR.pre {g : GH} {s : Value} {vs : List Value} (h : SlR g s vs) (hc : CapOk s) {k : Nat} {x : Int} (hx : x = k) (hk : k ≤ vs.length) :
    ∃ u, slcLF 1 s none (some (.int .i64 x)) = some u ∧ SlR g u (vs.take k) ∧ CapOk u := by
  subst hx
  obtain ⟨u, h1, h2, h3⟩ := h.sub hc (lo := none) (hi := some (.int .i64 (k : Int))) rfl rfl (Nat.zero_le _) hk
  exact ⟨u, h1, by simpa using h2, h3⟩
theorem SlR.suf {g : GH} {s : Value} {vs : List Value} (h : SlR g s vs) (hc : CapOk s) {k : Nat} {x : Int} (hx : x = k) (hk : k ≤ vs.length) :
    ∃ u, slcLF 1 s (some (.int .i64 x)) none = some u ∧ SlR g u (vs.drop k) ∧ CapOk u := by
  subst hx
  obtain ⟨u, h1, h2, h3⟩ := h.sub hc (lo := some (.int .i64 (k : Int))) (hi := none) rfl rfl hk (Nat.le_refl _)
  refine ⟨u, h1, ?_, h3⟩
  rw [List.take_of_length_le (by simp)] at h2
  exact h2
/-- What came in has a capacity that is known. -/
theorem seen_cap {φ : Phi} {u v : Value} (h : VRel φ u v) (hu : ∀ a n c, u = .slice (some a) n c → c < OPEN) : CapOk u := by
  intro a n c e
  have hlt := hu a n c e
  subst e
  cases h with
  | slc a e off l c h hc hl => exact .inr ⟨hl, hc⟩
  | sopen a e off off' l c sz h hl hr => omega
  | sdead a a' => exact .inr ⟨Nat.le_refl _, by unfold OPEN; omega⟩

/-- What is read of a slice of one-celled elements that came in. -/
theorem seen_oneC {w : World} {a : Addr} {len cap : Nat} {vs : List Value} (hlen : vs.length = len) (hcap : len ≤ cap) (hmax : (cap : Int) ≤ IntKind.i64.max) (hs : a.spot = none) {c : Array Value} {row : TypeId} {fr : Nat × Nat} (hc : w.heap[a.block]? = some (.cells c row fr))
    (hv : ∀ (i : Nat) v, vs[i]? = some v → w.cell? (a.add i) = some v ∧ plainC v = true ∧ isJ v = false) :
    ∃ (u : Value) (rows : List (List Value)) (bs : List Nat), SeenIn w rows bs ∧ VRel (seenPhi bs) u (.slice (some a) len cap) ∧ SlR (seenG rows) u vs ∧ rows.length = 1 ∧ CapOk u := by
  obtain ⟨blk, off, spot⟩ := a
  simp only at hs hc
  subst hs
  refine ⟨.slice (some ⟨0, off, none⟩) len cap, [List.replicate off junkV ++ vs], [blk], ⟨rfl, ?_, ?_⟩, ?_, ?_, rfl, .known hcap (by
    have : cap ≤ 9223372036854775807 := by
      have h : IntKind.i64.max = 9223372036854775807 := rfl
      rw [h] at hmax; omega
    unfold OPEN; omega)⟩
  · intro i j b hi hj
    match i, j with
    | 0, 0 => rfl
    | 0, j + 1 => simp at hj
    | i + 1, _ => simp at hi
  · intro i r b hr hb
    match i with
    | i + 1 => simp at hr
    | 0 =>
      simp at hr hb
      subst hr; subst hb
      refine ⟨(Array.getElem?_eq_some_iff.1 hc).1, c, row, fr, hc, fun k v hk => ?_⟩
      by_cases c1 : k < off
      · rw [List.getElem?_append_left (by simpa using c1)] at hk
        rw [List.getElem?_replicate, if_pos c1] at hk
        simp at hk; subst hk
        exact .inl rfl
      · rw [List.getElem?_append_right (by simpa using c1), List.length_replicate] at hk
        obtain ⟨h1, h2, _⟩ := hv _ _ hk
        refine .inr ⟨?_, h2⟩
        unfold World.cell? at h1
        have hb : ((⟨blk, off, none⟩ : Addr).add (k - off)) = ⟨blk, k, none⟩ := by
          unfold Addr.add
          split
          · rename_i h; congr 1; omega
          · simp only; congr 1; omega
        rw [hb, hc] at h1
        simpa using h1
  · exact .slc 0 ⟨blk, 0⟩ off len cap rfl (by
      have : cap ≤ 9223372036854775807 := by
        have h : IntKind.i64.max = 9223372036854775807 := rfl
        rw [h] at hmax; omega
      unfold OPEN; omega) hcap
  · subst hlen
    refine .inr ⟨0, off, cap, seenOb (List.replicate off junkV ++ vs), rfl, by rw [seen_next]; exact Nat.one_pos, seen_get _ rfl, .inr ⟨rfl, ?_⟩, by simp [seenOb], by simp [seenOb]⟩
    rw [List.any_eq_false]
    intro x hx
    obtain ⟨i, hi⟩ := List.getElem?_of_mem hx
    rw [(hv i x hi).2.2]; simp
/-- A list of integers that came in, as it is read. -/
theorem seen_intsC {H : Type} {enc : TypeId × Value → H} {P : Program} {w : World} {r : Reach} {b0 base : Nat} {spare : Nat → Bool} {held : Bool} {t e : TypeId} {k : IntKind} {v : Value} {d : DataW H} {p : List MemPlace} (ht : P.underlying t = some (.slice e)) (he : P.underlying e = some (.int k)) (hc : P.cellsOf e = 1)
    (hv : Value.okWide P w r b0 t v) (h : DataW.Trod enc P w base spare held t v d p) :
    ∃ (zs : List Int) (u : Value) (rows : List (List Value)) (bs : List Nat), SeenIn w rows bs ∧ VRel (seenPhi bs) u v ∧ SlR (seenG rows) u (zs.map (Value.int k)) ∧ rows.length ≤ 1 ∧ zs.length ≤ 9223372036854775807 ∧ (∀ n ∈ zs, (Lit.int k n).wf = true) ∧ CapOk u := by
  obtain ⟨fuel, hf⟩ := h
  have hcells : v.cells.toList = [v] := by
    unfold Value.okWide at hv
    simp only [ht] at hv
    unfold Cell.okWide at hv
    simp only [ht] at hv
    unfold Cell.ok at hv
    cases v <;> first | rfl | (simp only [ht] at hv)
  rcases open_ints ht he hc hf with ⟨h1, _⟩ | ⟨a, len, cap, zs, h1, _, hl, _, hz, _, hcell, hw⟩
  · rw [hcells] at h1
    simp only [List.cons.injEq, and_true] at h1
    subst h1
    exact ⟨[], .slice none 0 0, [], [], ⟨rfl, fun i j b h => by simp at h, fun i r b h => by simp at h⟩, .snil, SlR.nil, by simp, by simp, by simp, .nil⟩
  · rw [hcells] at h1
    simp only [List.cons.injEq, and_true] at h1
    subst h1
    obtain ⟨q1, q2, q3, c, row, fr, q4⟩ := slice_has ht hv
    have hlz : len ≤ zs.length := by rw [hz]; split <;> omega
    have hlt : (zs.take len).length = len := by rw [List.length_take]; omega
    obtain ⟨u, rows, bs, s1, s2, s3, s4, s5⟩ := seen_oneC (vs := (zs.take len).map (Value.int k)) (by rw [List.length_map, hlt]) q1 q2 q3 q4 (fun i v hi => by
      rw [List.getElem?_map, List.getElem?_take] at hi
      split at hi
      · rename_i hil
        have hzi := List.getElem?_eq_getElem (show i < zs.length by omega)
        rw [hzi] at hi
        simp only [Option.map_some, Option.some.injEq] at hi
        subst hi
        refine ⟨?_, rfl, rfl⟩
        rw [hcell i (by omega)]
        simp [hzi]
      · simp at hi)
    refine ⟨zs.take len, u, rows, bs, s1, s2, s3, by omega, ?_, fun n hn => hw n (List.mem_of_mem_take hn), s5⟩
    rw [hlt]
    have h : IntKind.i64.max = 9223372036854775807 := rfl
    rw [h] at q2; omega
end Go.Ds
set_option maxRecDepth 100000
set_option maxHeartbeats 8000000
set_option linter.unusedSimpArgs false
set_option linter.unusedVariables false
namespace Go.Proofs.Yteeelcmnlomgmaa
open Go.Ds
/-! ## The least and the greatest number, and where they stand -/
def lowN (L : List Int) : Nat → Nat
  | 0 => 0
  | i + 1 => if L.getD i 0 < L.getD (lowN L i) 0 then i else lowN L i
def highN (L : List Int) : Nat → Nat
  | 0 => 0
  | i + 1 => if L.getD (highN L i) 0 < L.getD i 0 then i else highN L i
theorem lowN_lt (L : List Int) : ∀ i, 0 < i → lowN L i < i
  | 0, h => by omega
  | i + 1, _ => by
    simp only [lowN]
    split
    · omega
    · by_cases c : i = 0
      · subst c; simp [lowN]
      · have := lowN_lt L i (by omega); omega
theorem highN_lt (L : List Int) : ∀ i, 0 < i → highN L i < i
  | 0, h => by omega
  | i + 1, _ => by
    simp only [highN]
    split
    · omega
    · by_cases c : i = 0
      · subst c; simp [highN]
      · have := highN_lt L i (by omega); omega
theorem nodup_get {L : List Int} (h : L.Nodup) {i j : Nat} (hi : i < L.length) (hj : j < L.length) (e : L.getD i 0 = L.getD j 0) : i = j := by
  rw [List.getD_eq_getElem?_getD, List.getD_eq_getElem?_getD, List.getElem?_eq_getElem hi, List.getElem?_eq_getElem hj] at e
  have e : L[i] = L[j] := by simpa using e
  rcases Nat.lt_trichotomy i j with c | c | c
  · exact absurd e (List.pairwise_iff_getElem.1 h i j hi hj c)
  · exact c
  · exact absurd e.symm (List.pairwise_iff_getElem.1 h j i hj hi c)
theorem mn_ints (a b : Int) : mnF (.int .i64 a) (.int .i64 b) = some (.int .i64 (if b < a then b else a)) := by
  simp only [mnF, lt_i]
  by_cases c : b < a
  · simp [c, kindEq]
  · simp [c, kindEq]
theorem mx_ints (a b : Int) : mxF (.int .i64 a) (.int .i64 b) = some (.int .i64 (if a < b then b else a)) := by
  simp only [mxF, lt_i]
  by_cases c : a < b
  · simp [c, kindEq]
  · simp [c, kindEq]
theorem min_rets {X : Caller} (hX : Xok X) (L : List Int) (hL : L.length ≤ 1000) (h1 : 1 ≤ L.length) (s : Value) (g : GH) (hs : SlR g s (ints L)) :
    Rets Try.prog X 67 [s] g (fun v g' lo => g.next ≤ lo ∧ v = .int .i64 (L.getD (lowN L L.length) 0)) := by
  refine Rets.run hX.pres p67 (hX.free 67 (by decide) _ _) rfl fun ho => ?_
  have hl := hs.len
  rw [ints_len] at hl
  obtain ⟨p0, hp01, hp02⟩ := hs.at (ints_get (D := L) (i := 0) h1)
  have hp01 := hp01 (0 : Int) rfl
  have hz : lowN L 1 = 0 := by simp [lowN]
  simp +decide (disch := first | assumption | (apply GH.ok_push; assumption) | exact cellV_int _ _ | exact cellV_bool _ | omega) only [go_sem, ↓reduceIte, Nat.reduceEqDiff, Nat.reduceAdd, Int.reduceToNat, hl, hp01, hp02]
  refine Wk.loops (fun m e g' lo => g.next ≤ lo ∧ g' = g ∧ ∃ i : Nat, i + m = L.length ∧ 1 ≤ i ∧ (ev e (.s 0) = s ∧ ev e (.s 3) = .int .i64 (L.getD (lowN L i) 0) ∧ ev e (.s 4) = .int .i64 i))
    (fun e g' lo => g.next ≤ lo ∧ ev e (.s 3) = .int .i64 (L.getD (lowN L L.length) 0)) (n := L.length - 1) ?_ ?_ ?_
  · exact ⟨Nat.le_refl _, rfl, 1, by omega, Nat.le_refl _, (by simp +decide (disch := first | assumption | (apply GH.ok_push; assumption) | exact cellV_int _ _ | exact cellV_bool _ | omega) only [go_sem, ↓reduceIte, Nat.reduceEqDiff, Nat.reduceAdd, Int.reduceToNat, hz]; first | done | exact rfl)⟩
  · rintro e g' lo hog - ⟨hlo, h3⟩
    simp +decide (disch := first | assumption | (apply GH.ok_push; assumption) | exact cellV_int _ _ | exact cellV_bool _ | omega) only [go_sem, ↓reduceIte, Nat.reduceEqDiff, Nat.reduceAdd, Int.reduceToNat, h3]
    intro hx0
    exact ⟨hlo, rfl⟩
  · rintro m e g' lo ho' hl' ih out ⟨hlo, rfl, i, hi, hi1, he⟩
    by_cases c : i < L.length
    · obtain ⟨p, hp1, hp2⟩ := hs.at (ints_get (D := L) (i := i) c)
      have hp1 := hp1 (i : Int) rfl
      have hmn := mn_ints (L.getD (lowN L i) 0) (L.getD i 0)
      by_cases d : L.getD i 0 < L.getD (lowN L i) 0
      · have hn : lowN L (i + 1) = i := if_pos d
        rw [if_pos d] at hmn
        simp +decide (disch := first | assumption | (apply GH.ok_push; assumption) | exact cellV_int _ _ | exact cellV_bool _ | omega) only [go_sem, ↓reduceIte, Nat.reduceEqDiff, Nat.reduceAdd, Int.reduceToNat, he, hl, hp1, hp2, hmn]
        exact ih (m - 1) _ _ _ (by omega) ⟨hlo, rfl, i + 1, by omega, by omega, by rw [hn]; exact (by simp +decide (disch := first | assumption | (apply GH.ok_push; assumption) | exact cellV_int _ _ | exact cellV_bool _ | omega) only [go_sem, ↓reduceIte, Nat.reduceEqDiff, Nat.reduceAdd, Int.reduceToNat, he]; first | done | exact rfl)⟩
      · have hn : lowN L (i + 1) = lowN L i := if_neg d
        rw [if_neg d] at hmn
        simp +decide (disch := first | assumption | (apply GH.ok_push; assumption) | exact cellV_int _ _ | exact cellV_bool _ | omega) only [go_sem, ↓reduceIte, Nat.reduceEqDiff, Nat.reduceAdd, Int.reduceToNat, he, hl, hp1, hp2, hmn]
        exact ih (m - 1) _ _ _ (by omega) ⟨hlo, rfl, i + 1, by omega, by omega, by rw [hn]; exact (by simp +decide (disch := first | assumption | (apply GH.ok_push; assumption) | exact cellV_int _ _ | exact cellV_bool _ | omega) only [go_sem, ↓reduceIte, Nat.reduceEqDiff, Nat.reduceAdd, Int.reduceToNat, he]; first | done | exact rfl)⟩
    · simp +decide (disch := first | assumption | (apply GH.ok_push; assumption) | exact cellV_int _ _ | exact cellV_bool _ | omega) only [go_sem, ↓reduceIte, Nat.reduceEqDiff, Nat.reduceAdd, Int.reduceToNat, he, hl]
      have : i = L.length := by omega
      subst this
      exact out _ _ _ ⟨hlo, (by simp +decide (disch := first | assumption | (apply GH.ok_push; assumption) | exact cellV_int _ _ | exact cellV_bool _ | omega) only [go_sem, ↓reduceIte, Nat.reduceEqDiff, Nat.reduceAdd, Int.reduceToNat, he]; first | done | exact rfl)⟩
theorem max_rets {X : Caller} (hX : Xok X) (L : List Int) (hL : L.length ≤ 1000) (h1 : 1 ≤ L.length) (s : Value) (g : GH) (hs : SlR g s (ints L)) :
    Rets Try.prog X 68 [s] g (fun v g' lo => g.next ≤ lo ∧ v = .int .i64 (L.getD (highN L L.length) 0)) := by
  refine Rets.run hX.pres p68 (hX.free 68 (by decide) _ _) rfl fun ho => ?_
  have hl := hs.len
  rw [ints_len] at hl
  obtain ⟨p0, hp01, hp02⟩ := hs.at (ints_get (D := L) (i := 0) h1)
  have hp01 := hp01 (0 : Int) rfl
  have hz : highN L 1 = 0 := by simp [highN]
  simp +decide (disch := first | assumption | (apply GH.ok_push; assumption) | exact cellV_int _ _ | exact cellV_bool _ | omega) only [go_sem, ↓reduceIte, Nat.reduceEqDiff, Nat.reduceAdd, Int.reduceToNat, hl, hp01, hp02]
  refine Wk.loops (fun m e g' lo => g.next ≤ lo ∧ g' = g ∧ ∃ i : Nat, i + m = L.length ∧ 1 ≤ i ∧ (ev e (.s 0) = s ∧ ev e (.s 3) = .int .i64 (L.getD (highN L i) 0) ∧ ev e (.s 4) = .int .i64 i))
    (fun e g' lo => g.next ≤ lo ∧ ev e (.s 3) = .int .i64 (L.getD (highN L L.length) 0)) (n := L.length - 1) ?_ ?_ ?_
  · exact ⟨Nat.le_refl _, rfl, 1, by omega, Nat.le_refl _, (by simp +decide (disch := first | assumption | (apply GH.ok_push; assumption) | exact cellV_int _ _ | exact cellV_bool _ | omega) only [go_sem, ↓reduceIte, Nat.reduceEqDiff, Nat.reduceAdd, Int.reduceToNat, hz]; first | done | exact rfl)⟩
  · rintro e g' lo hog - ⟨hlo, h3⟩
    simp +decide (disch := first | assumption | (apply GH.ok_push; assumption) | exact cellV_int _ _ | exact cellV_bool _ | omega) only [go_sem, ↓reduceIte, Nat.reduceEqDiff, Nat.reduceAdd, Int.reduceToNat, h3]
    intro hx0
    exact ⟨hlo, rfl⟩
  · rintro m e g' lo ho' hl' ih out ⟨hlo, rfl, i, hi, hi1, he⟩
    by_cases c : i < L.length
    · obtain ⟨p, hp1, hp2⟩ := hs.at (ints_get (D := L) (i := i) c)
      have hp1 := hp1 (i : Int) rfl
      have hmn := mx_ints (L.getD (highN L i) 0) (L.getD i 0)
      by_cases d : L.getD (highN L i) 0 < L.getD i 0
      · have hn : highN L (i + 1) = i := if_pos d
        rw [if_pos d] at hmn
        simp +decide (disch := first | assumption | (apply GH.ok_push; assumption) | exact cellV_int _ _ | exact cellV_bool _ | omega) only [go_sem, ↓reduceIte, Nat.reduceEqDiff, Nat.reduceAdd, Int.reduceToNat, he, hl, hp1, hp2, hmn]
        exact ih (m - 1) _ _ _ (by omega) ⟨hlo, rfl, i + 1, by omega, by omega, by rw [hn]; exact (by simp +decide (disch := first | assumption | (apply GH.ok_push; assumption) | exact cellV_int _ _ | exact cellV_bool _ | omega) only [go_sem, ↓reduceIte, Nat.reduceEqDiff, Nat.reduceAdd, Int.reduceToNat, he]; first | done | exact rfl)⟩
      · have hn : highN L (i + 1) = highN L i := if_neg d
        rw [if_neg d] at hmn
        simp +decide (disch := first | assumption | (apply GH.ok_push; assumption) | exact cellV_int _ _ | exact cellV_bool _ | omega) only [go_sem, ↓reduceIte, Nat.reduceEqDiff, Nat.reduceAdd, Int.reduceToNat, he, hl, hp1, hp2, hmn]
        exact ih (m - 1) _ _ _ (by omega) ⟨hlo, rfl, i + 1, by omega, by omega, by rw [hn]; exact (by simp +decide (disch := first | assumption | (apply GH.ok_push; assumption) | exact cellV_int _ _ | exact cellV_bool _ | omega) only [go_sem, ↓reduceIte, Nat.reduceEqDiff, Nat.reduceAdd, Int.reduceToNat, he]; first | done | exact rfl)⟩
    · simp +decide (disch := first | assumption | (apply GH.ok_push; assumption) | exact cellV_int _ _ | exact cellV_bool _ | omega) only [go_sem, ↓reduceIte, Nat.reduceEqDiff, Nat.reduceAdd, Int.reduceToNat, he, hl]
      have : i = L.length := by omega
      subst this
      exact out _ _ _ ⟨hlo, (by simp +decide (disch := first | assumption | (apply GH.ok_push; assumption) | exact cellV_int _ _ | exact cellV_bool _ | omega) only [go_sem, ↓reduceIte, Nat.reduceEqDiff, Nat.reduceAdd, Int.reduceToNat, he]; first | done | exact rfl)⟩
/-- Where a number stands that no number before it is. -/
theorem index_rets {X : Caller} (hX : Xok X) (L : List Int) (hL : L.length ≤ 1000) (k : Nat) (hk : k < L.length) (x : Int) (hx : L.getD k 0 = x) (hf : ∀ j, j < k → L.getD j 0 ≠ x) (s : Value) (g : GH) (hs : SlR g s (ints L)) :
    Rets Try.prog X 56 [s, .int .i64 x] g (fun v g' lo => g.next ≤ lo ∧ v = .int .i64 k) := by
  refine Rets.run hX.pres p56 (hX.free 56 (by decide) _ _) rfl fun ho => ?_
  have hl := hs.len
  rw [ints_len] at hl
  simp +decide (disch := first | assumption | (apply GH.ok_push; assumption) | exact cellV_int _ _ | exact cellV_bool _ | omega) only [go_sem, ↓reduceIte, Nat.reduceEqDiff, Nat.reduceAdd, Int.reduceToNat, hl]
  refine Wk.loops (fun m e g' lo => g.next ≤ lo ∧ g' = g ∧ ∃ i : Nat, i + m = k ∧ (ev e (.s 0) = s ∧ ev e (.s 1) = .int .i64 x ∧ ev e (.s 7) = .int .i64 L.length ∧ ev e (.s 8) = .int .i64 i))
    (fun e g' lo => False) (n := k) ?_ ?_ ?_
  · exact ⟨Nat.le_refl _, rfl, 0, by omega, (by simp +decide (disch := first | assumption | (apply GH.ok_push; assumption) | exact cellV_int _ _ | exact cellV_bool _ | omega) only [go_sem, ↓reduceIte, Nat.reduceEqDiff, Nat.reduceAdd, Int.reduceToNat, hl]; first | done | exact rfl)⟩
  · rintro e g' lo hog - h
    exact h.elim
  · rintro m e g' lo ho' hl' ih out ⟨hlo, rfl, i, hi, he⟩
    obtain ⟨p, hp1, hp2⟩ := hs.at (ints_get (D := L) (i := i) (by omega))
    have hp1 := hp1 (i : Int) rfl
    by_cases c : i = k
    · subst c
      rw [hx] at hp2
      simp +decide (disch := first | assumption | (apply GH.ok_push; assumption) | exact cellV_int _ _ | exact cellV_bool _ | omega) only [go_sem, ↓reduceIte, Nat.reduceEqDiff, Nat.reduceAdd, Int.reduceToNat, he, hl, hp1, hp2]
      intro hx0
      exact ⟨hlo, rfl⟩
    · have hne := hf i (by omega)
      have hne2 : ¬ x = L.getD i 0 := fun h => hne h.symm
      simp +decide (disch := first | assumption | (apply GH.ok_push; assumption) | exact cellV_int _ _ | exact cellV_bool _ | omega) only [go_sem, ↓reduceIte, Nat.reduceEqDiff, Nat.reduceAdd, Int.reduceToNat, he, hl, hp1, hp2, hne2]
      exact ih (m - 1) _ _ _ (by omega) ⟨hlo, rfl, i + 1, by omega, (by simp +decide (disch := first | assumption | (apply GH.ok_push; assumption) | exact cellV_int _ _ | exact cellV_bool _ | omega) only [go_sem, ↓reduceIte, Nat.reduceEqDiff, Nat.reduceAdd, Int.reduceToNat, he]; first | done | exact rfl)⟩
end Go.Proofs.Yteeelcmnlomgmaa
