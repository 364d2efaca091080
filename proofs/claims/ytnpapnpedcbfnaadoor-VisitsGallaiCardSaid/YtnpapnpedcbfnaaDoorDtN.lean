import Derived.Test.YtnpapnpedcbfnaaDoorDtM
import Derived.ChangeSlices
import Derived.ChangeShapes
import Derived.WideShapes
import Derived.ProofKit
set_option linter.all false
set_option linter.unusedSimpArgs false
set_option linter.unnecessarySimpa false
set_option linter.unusedVariables false
set_option linter.unusedSectionVars false
set_option linter.unusedSectionVars false
set_option linter.unusedVariables false
namespace Go.Ds
open Go.ChangeShapes Go.WideShapes

/-! ## A list of integers that came in -/
theorem cells_of_shape {w : World} {b : Nat} {x : TypeId × Nat} (h : w.shape? b = some x) : ∃ c fr, w.heap[b]? = some (.cells c x.1 fr) := by
  unfold World.shape? at h
  split at h
  · rename_i c elem fr hc
    simp only [Option.some.injEq] at h
    subst h
    exact ⟨c, fr, hc⟩
  · cases h
theorem slice_has {P : Program} {w : World} {r : Reach} {base : Nat} {t e : TypeId} {a : Addr} {len cap : Nat} (ht : P.underlying t = some (.slice e)) (h : Value.okWide P w r base t (.slice (some a) len cap)) : len ≤ cap ∧ (cap : Int) ≤ IntKind.i64.max ∧ a.spot = none ∧ ∃ c row fr, w.heap[a.block]? = some (.cells c row fr) := by
  unfold Value.okWide at h
  simp only [ht] at h
  unfold Cell.okWide at h
  simp only [ht] at h
  unfold Cell.ok at h
  simp only [ht] at h
  obtain ⟨h1, h2, _, h3, row, cells, h4, _⟩ := h
  obtain ⟨c, fr, hc⟩ := cells_of_shape h4
  exact ⟨h1, h2, h3, c, _, fr, hc⟩
/-- What is read of a slice of one-celled elements that came in. -/
theorem seen_one {w : World} {a : Addr} {len cap : Nat} {vs : List Value} (hlen : vs.length = len) (hcap : len ≤ cap) (hmax : (cap : Int) ≤ IntKind.i64.max) (hs : a.spot = none) {c : Array Value} {row : TypeId} {fr : Nat × Nat} (hc : w.heap[a.block]? = some (.cells c row fr))
    (hv : ∀ (i : Nat) v, vs[i]? = some v → w.cell? (a.add i) = some v ∧ plainC v = true ∧ isJ v = false) :
    ∃ (u : Value) (rows : List (List Value)) (bs : List Nat), SeenIn w rows bs ∧ VRel (seenPhi bs) u (.slice (some a) len cap) ∧ SlR (seenG rows) u vs ∧ rows.length = 1 := by
  obtain ⟨blk, off, spot⟩ := a
  simp only at hs hc
  subst hs
  refine ⟨.slice (some ⟨0, off, none⟩) len cap, [List.replicate off junkV ++ vs], [blk], ⟨rfl, ?_, ?_⟩, ?_, ?_, rfl⟩
  · intro i j b hi hj
    match i, j with
    | 0, 0 => rfl
    | 0, j + 1 => simp at hj
    | i + 1, _ => simp at hi
  · intro i r b hr hb
    match i with
    | i + 1 => simp at hr
    | 0 =>
      simp at hr hb
      subst hr; subst hb
      refine ⟨(Array.getElem?_eq_some_iff.1 hc).1, c, row, fr, hc, fun k v hk => ?_⟩
      by_cases c1 : k < off
      · rw [List.getElem?_append_left (by simpa using c1)] at hk
        rw [List.getElem?_replicate, if_pos c1] at hk
        simp at hk; subst hk
        exact .inl rfl
      · rw [List.getElem?_append_right (by simpa using c1), List.length_replicate] at hk
        obtain ⟨h1, h2, _⟩ := hv _ _ hk
        refine .inr ⟨?_, h2⟩
        unfold World.cell? at h1
        have hb : ((⟨blk, off, none⟩ : Addr).add (k - off)) = ⟨blk, k, none⟩ := by
          unfold Addr.add
          split
          · rename_i h; congr 1; omega
          · simp only; congr 1; omega
        rw [hb, hc] at h1
        simpa using h1
  · exact .slc 0 ⟨blk, 0⟩ off len cap rfl (by
      have : cap ≤ 9223372036854775807 := by
        have h : IntKind.i64.max = 9223372036854775807 := rfl
        rw [h] at hmax; omega
      unfold OPEN; omega) hcap
  · subst hlen
    refine .inr ⟨0, off, cap, seenOb (List.replicate off junkV ++ vs), rfl, by rw [seen_next]; exact Nat.one_pos, seen_get _ rfl, .inr ⟨rfl, ?_⟩, by simp [seenOb], by simp [seenOb]⟩
    rw [List.any_eq_false]
    intro x hx
    obtain ⟨i, hi⟩ := List.getElem?_of_mem hx
    rw [(hv i x hi).2.2]; simp
/-- A list of integers that came in, as it is read. -/
theorem seen_ints {H : Type} {enc : TypeId × Value → H} {P : Program} {w : World} {r : Reach} {b0 base : Nat} {spare : Nat → Bool} {held : Bool} {t e : TypeId} {k : IntKind} {v : Value} {d : DataW H} {p : List MemPlace} (ht : P.underlying t = some (.slice e)) (he : P.underlying e = some (.int k)) (hc : P.cellsOf e = 1)
    (hv : Value.okWide P w r b0 t v) (h : DataW.Trod enc P w base spare held t v d p) :
    ∃ (zs : List Int) (u : Value) (rows : List (List Value)) (bs : List Nat), SeenIn w rows bs ∧ VRel (seenPhi bs) u v ∧ SlR (seenG rows) u (zs.map (Value.int k)) ∧ rows.length ≤ 1 ∧ zs.length ≤ 9223372036854775807 ∧ ∀ n ∈ zs, (Lit.int k n).wf = true := by
  obtain ⟨fuel, hf⟩ := h
  have hcells : v.cells.toList = [v] := by
    unfold Value.okWide at hv
    simp only [ht] at hv
    unfold Cell.okWide at hv
    simp only [ht] at hv
    unfold Cell.ok at hv
    cases v <;> first | rfl | (simp only [ht] at hv)
  rcases open_ints ht he hc hf with ⟨h1, _⟩ | ⟨a, len, cap, zs, h1, _, hl, _, hz, _, hcell, hw⟩
  · rw [hcells] at h1
    simp only [List.cons.injEq, and_true] at h1
    subst h1
    exact ⟨[], .slice none 0 0, [], [], ⟨rfl, fun i j b h => by simp at h, fun i r b h => by simp at h⟩, .snil, SlR.nil, by simp, by simp, by simp⟩
  · rw [hcells] at h1
    simp only [List.cons.injEq, and_true] at h1
    subst h1
    obtain ⟨q1, q2, q3, c, row, fr, q4⟩ := slice_has ht hv
    have hlz : len ≤ zs.length := by rw [hz]; split <;> omega
    have hlt : (zs.take len).length = len := by rw [List.length_take]; omega
    obtain ⟨u, rows, bs, s1, s2, s3, s4⟩ := seen_one (vs := (zs.take len).map (Value.int k)) (by rw [List.length_map, hlt]) q1 q2 q3 q4 (fun i v hi => by
      rw [List.getElem?_map, List.getElem?_take] at hi
      split at hi
      · rename_i hil
        have hzi := List.getElem?_eq_getElem (show i < zs.length by omega)
        rw [hzi] at hi
        simp only [Option.map_some, Option.some.injEq] at hi
        subst hi
        refine ⟨?_, rfl, rfl⟩
        rw [hcell i (by omega)]
        simp [hzi]
      · simp at hi)
    refine ⟨zs.take len, u, rows, bs, s1, s2, s3, by omega, ?_, fun n hn => hw n (List.mem_of_mem_take hn)⟩
    rw [hlt]
    have h : IntKind.i64.max = 9223372036854775807 := rfl
    rw [h] at q2; omega
end Go.Ds
