import Derived.Test.YtnpapnpedcbfnaaDoorRows
import Derived.Test.YtnpapnpedcbfnaaDoorKr
import Derived.Test.YtnpapnpedcbfnaaDoorJ2
import Derived.Deep.SlicePairs
import Derived.WalkKit
import Derived.ProofKit
import Derived.LaidMore
import Derived.Lib.LaidTab
import Derived.OpenShut
import Derived.Stop.Joined
import Derived.ChangeOld
import Derived.Below
set_option linter.all false
set_option linter.unusedSimpArgs false
set_option linter.unnecessarySimpa false
set_option linter.unusedVariables false
set_option linter.unusedSectionVars false
namespace Go.Proofs.YtnpapnpedcbfnaaDoor
open Go.ChangeShapes Go.WideShapes Go.ChangeAt Go.RowKit
set_option linter.unusedVariables false
set_option maxRecDepth 100000
theorem bounds_u16 {n : Int} (h : (Lit.int .u16 n).wf = true) : 0 ≤ n ∧ n ≤ 65535 := by
  simp [Lit.wf, IntKind.min, IntKind.max, IntKind.signed, IntKind.bits] at h
  omega
theorem ownNone : ownKnob Tryd.prog.godebug = none := by kernel_rfl
/-! ## The tables, as the row lists them -/
def laid2 : List (String × DataW Unit) := [("math/bits.deBruijn32tab", Rows.laid_math_bits_deBruijn32tab), ("math/bits.deBruijn64tab", Rows.laid_math_bits_deBruijn64tab)]
def tab64 : List Int := [0, 1, 56, 2, 57, 49, 28, 3, 61, 58, 42, 50, 38, 29, 17, 4, 62, 47, 59, 36, 45, 43, 51, 22, 53, 39, 33, 30, 24, 18, 12, 5, 63, 55, 48, 27, 60, 41, 37, 16, 46, 35, 44, 21, 52, 32, 23, 11, 54, 26, 40, 15, 34, 20, 31, 10, 25, 14, 19, 9, 13, 8, 7, 6]
theorem tab64_is : (Rows.laid_math_bits_deBruijn64tab : DataW Unit) = Lib.tabData .u8 tab64 := rfl
theorem door_met (os : Os) (args : Array Value) : laidMetH Tryd.prog laid2 ((World.doorLaid Tryd.prog 400 os).forCall (fun _ _ => 0) ⟨#[], args, []⟩).memory :=
  laidMetH_of_parts3 (fuel := 8) (laidMet_of_run' 8 (by kernel_rfl) (by kernel_rfl)) (by kernel_rfl) (by kernel_rfl)
theorem of_laid {W : World} (h : laidMetH Tryd.prog laid2 W) : TabW W := by
  rw [MakeChecks.laidMetH_plain _ _ _ (by kernel_rfl)] at h
  obtain ⟨ps, ⟨g0, t0, cs0, f0, p0, q0, hg0, ht0, hv0, hd0, ⟨g1, t1, cs1, f1, p1, q1, hg1, ht1, hv1, hd1, _, _⟩, _⟩, _, _⟩ := h
  obtain rfl := Option.some.inj ((show Tryd.prog.globalNamed "math/bits.deBruijn64tab" = some 1 by kernel_rfl).symm.trans hg1)
  obtain rfl := Option.some.inj ((show (Tryd.prog.globals[1]?).map (·.type) = some 92 by kernel_rfl).symm.trans ht1)
  rw [tab64_is] at hd1
  have hc := Lib.cells_of_tab (n := 64) (e := 5) (by kernel_rfl) (by kernel_rfl) (by kernel_rfl) (by kernel_rfl) hd1
  have at_ : ∀ i, W.cell? ⟨1, i, none⟩ = (tab64.map fun z => Value.int .u8 z)[i]? := by
    intro i
    rw [World.var?_cell hg1 hv1 i, ← hc]
    simp
  intro k hk
  rw [at_]
  obtain rfl | rfl | rfl | rfl | rfl | rfl | rfl | rfl | rfl | rfl : k = 0 ∨ k = 1 ∨ k = 2 ∨ k = 3 ∨ k = 4 ∨ k = 5 ∨ k = 6 ∨ k = 7 ∨ k = 8 ∨ k = 9 := by omega
  all_goals rfl
/-! ## The heap of what came in, beside the table -/
open Go.Ds in
def lst (B : List Nat) : List Nat := B.filter fun b => !(b == 1)
open Go.Ds in
theorem once_lst (B : List Nat) : once (1 :: lst B) = 1 :: once (lst B) := by
  have : 1 ∉ once (lst B) := by
    rw [once_mem]
    unfold lst
    simp
  show (if 1 ∈ once (lst B) then _ else _) = _
  rw [if_neg this]
theorem mem_lst {B : List Nat} {b : Nat} (h : b ∈ B) : b ∈ 1 :: lst B := by
  by_cases c : b = 1
  · rw [c]; exact List.mem_cons_self
  · refine List.mem_cons_of_mem _ ?_
    unfold lst
    simp [h, c]
open Go.Ds in
/-- The rows, the table's first. -/
theorem tab_rows {w : World} (hw : TabW w) {B : List Nat} (hB : ∀ b ∈ B, ∃ c t fr, w.heap[b]? = some (.cells c t fr)) :
    ∃ (r : List Value) (rows : List (List Value)) (bs : List Nat), once (1 :: lst B) = 1 :: bs ∧ rowsAt w (once (1 :: lst B)) = r :: rows ∧ SeenR w (r :: rows) (1 :: bs) ∧ HasTab (Ds.seenP r 1 rows) := by
  obtain ⟨_, c, t, fr, hc, _⟩ := cell_has (hw 0 (by decide))
  have g : ∀ (k : Nat) v, w.cell? ⟨1, k, none⟩ = some v → c[k]? = some v := by
    intro k v hk
    unfold World.cell? at hk
    rw [hc] at hk
    simpa using hk
  have hs := seen_world (w := w) (l := 1 :: lst B) fun b hb => by
    rcases List.mem_cons.1 hb with rfl | hb
    · exact ⟨c, t, fr, hc⟩
    · unfold lst at hb
      exact hB b (List.mem_filter.1 hb).1
  refine ⟨_, _, _, once_lst B, by rw [once_lst]; rfl, by rw [once_lst] at hs; exact hs, by rw [seenP_next]; omega, ?_⟩
  rw [seenP_zero]
  have hr : Ds.rowAt w (1 :: once (lst B)) 1 = c.toList.map (absV (1 :: once (lst B))) := by
    unfold Ds.rowAt
    rw [hc]
  rw [hr]
  show (Nat.beq 4 4 && Nat.beq (1 + 1) 2 && _) = true
  rw [Bool.and_eq_true]
  refine ⟨rfl, List.all_eq_true.2 ?_⟩
  intro k hk
  have hk := List.mem_range.1 hk
  have h1 := g _ _ (hw k hk)
  have h2 : (c.toList.map (absV (1 :: once (lst B))))[tzIx k]? = some (.int .u8 (k : Nat)) := by
    rw [List.getElem?_map]
    simp only [Array.getElem?_toList, h1]
    rw [Option.map_some, absV]
    · rfl
    · intro a l c h; cases h
  rw [h2]
  show Nat.beq k k = true
  simp
open Go.Ds Go.Deep
theorem cellsI_plain (L : List (Int × Int)) : ∀ v ∈ cellsI L, ∃ n : Int, v = .int .i64 n := by
  intro v hv
  simp only [cellsI, List.mem_flatMap] at hv
  obtain ⟨p, _, hv⟩ := hv
  simp at hv
  rcases hv with e | e <;> exact ⟨_, e⟩
/-- A slice of pairs that came in. -/
def ArgP (w : World) (v : Value) (L : List (Int × Int)) : Prop :=
  (v = .slice none 0 0 ∧ L = []) ∨ ∃ (b off cap : Nat) (c : Array Value) (t : TypeId) (fr : Nat × Nat), v = .slice (some ⟨b, off, none⟩) L.length cap ∧ L.length ≤ cap ∧ cap ≤ maxLen ∧ w.heap[b]? = some (.cells c t fr) ∧ ∀ (j : Nat) x, (cellsI L)[j]? = some x → w.cell? ((⟨b, off, none⟩ : Addr).add j) = some x
theorem open_argP {H : Type} {enc : TypeId × Value → H} {P : Program} {w : World} {r : Reach} {b0 base : Nat} {spare : Nat → Bool} {held : Bool} {t e : TypeId} {f0 f1 : Field} {v : Value} {d : DataW H} {p : List MemPlace} (ht : P.underlying t = some (.slice e))
    (he : P.underlying e = some (.struct #[f0, f1])) (hc : P.cellsOf e = 2) (h0 : f0.offset = 0) (h1 : f1.offset = 1) (c0 : P.cellsOf f0.type = 1) (c1 : P.cellsOf f1.type = 1) (i0 : P.underlying f0.type = some (.int .i64)) (i1 : P.underlying f1.type = some (.int .i64))
    (hv : Value.okWide P w r b0 t v) (h : DataW.Trod enc P w base spare held t v d p) : ∃ L, ArgP w v L ∧ ∀ q ∈ L, (Lit.int .i64 q.1).wf = true ∧ (Lit.int .i64 q.2).wf = true := by
  obtain ⟨fuel, hf⟩ := h
  have hcells : v.cells.toList = [v] := by
    unfold Value.okWide at hv
    simp only [ht] at hv
    unfold Cell.okWide at hv
    simp only [ht] at hv
    unfold Cell.ok at hv
    cases v <;> first | rfl | (simp only [ht] at hv)
  rcases open_slice_pairs ht he hc h0 h1 c0 c1 hf with ⟨g1, _⟩ | ⟨a, len, cap, m, n, V0, V1, D0, D1, P0, P1, g1, _, hl, hm, hmm, _, hi⟩
  · rw [hcells] at g1
    simp only [List.cons.injEq, and_true] at g1
    exact ⟨[], .inl ⟨g1, rfl⟩, by simp⟩
  · rw [hcells] at g1
    simp only [List.cons.injEq, and_true] at g1
    subst g1
    obtain ⟨q1, q2, q3, c, row, fr, q4⟩ := slice_has ht hv
    have hlm : len ≤ m := by rw [hmm]; split <;> omega
    obtain ⟨L, hL, hx⟩ := list_of (Q := fun i (y : Int × Int) => w.cell? (a.add (i * 2)) = some (.int .i64 y.1) ∧ w.cell? (a.add (i * 2 + 1)) = some (.int .i64 y.2) ∧ (Lit.int .i64 y.1).wf = true ∧ (Lit.int .i64 y.2).wf = true) len (fun i hil => by
      obtain ⟨k1, k2, k3, k4⟩ := hi i (by omega)
      obtain ⟨n0, e0, _, w0⟩ := DataW.trod_int i0 k3
      obtain ⟨n1, e1, _, w1⟩ := DataW.trod_int i1 k4
      simp only [List.cons.injEq, and_true] at e0 e1
      exact ⟨(n0, n1), by rw [k1, e0], by rw [k2, e1], w0, w1⟩)
    obtain ⟨blk, off, spot⟩ := a
    simp only at q3 q4
    subst q3
    refine ⟨L, .inr ⟨blk, off, cap, c, row, fr, by rw [hL], by omega, hm, q4, fun j x hj => ?_⟩, fun q hq => ?_⟩
    · have hjl : j < L.length * 2 := by
        rw [← cellsI_len]
        exact (List.getElem?_eq_some_iff.1 hj).1
      have hk : j / 2 < L.length := by omega
      obtain ⟨u1, u2, _⟩ := hx (j / 2) _ (List.getElem?_eq_getElem hk)
      obtain ⟨y1, y2⟩ := cellsI_get L (j / 2) hk
      rcases (show j = j / 2 * 2 ∨ j = j / 2 * 2 + 1 by omega) with e | e
      · rw [e] at hj ⊢
        rw [y1] at hj
        cases hj
        exact u1
      · rw [e] at hj ⊢
        rw [y2] at hj
        cases hj
        exact u2
    · obtain ⟨i, hi2⟩ := List.getElem?_of_mem hq
      exact (hx i q hi2).2.2
theorem ArgP.has {w : World} {v : Value} {L : List (Int × Int)} (h : ArgP w v L) : ∀ b ∈ blocks1 v, ∃ c t fr, w.heap[b]? = some (.cells c t fr) := by
  intro b hb
  rcases h with ⟨rfl, _⟩ | ⟨b', off, cap, c, t, fr, rfl, h1, h2, h3, h4⟩
  · simp [blocks1] at hb
  · simp only [blocks1, List.mem_singleton] at hb
    subst hb
    exact ⟨c, t, fr, h3⟩
/-- What is read of a slice of pairs. -/
theorem ArgP.seen {w : World} {v : Value} {L : List (Int × Int)} (h : ArgP w v L) {l : List Nat} (h0 : l ≠ []) (hl : ∀ b ∈ blocks1 v, b ∈ l) :
    VRel (seenPhi (once l)) (absV (once l) v) v ∧ SlQ (seenG (rowsAt w (once l))) (absV (once l) v) 2 L.length (cellsI L) := by
  rcases h with ⟨rfl, rfl⟩ | ⟨b, off, cap, c, t, fr, rfl, h1, h2, h3, h4⟩
  · have e : absV (once l) (.slice none 0 0) = .slice none 0 0 := by
      rw [absV]
      · rfl
      · intro a l c h; cases h
    rw [e]
    exact ⟨.snil, by simp [cellsI], .inl ⟨rfl, _, _, rfl⟩⟩
  · by_cases c0 : cap = 0
    · subst c0
      obtain rfl : L = [] := List.eq_nil_of_length_eq_zero (by omega)
      have e : absV (once l) (.slice (some ⟨b, off, none⟩) 0 0) = .slice (some ⟨0, 0, none⟩) 0 0 := by rw [absV, if_pos ⟨rfl, rfl⟩]
      show VRel _ (absV (once l) (.slice (some ⟨b, off, none⟩) 0 0)) _ ∧ SlQ _ (absV (once l) (.slice (some ⟨b, off, none⟩) 0 0)) 2 0 _
      rw [e]
      exact ⟨.sdead _ _, by simp [cellsI], .inl ⟨rfl, _, _, rfl⟩⟩
    have hm : b ∈ once l := once_mem.2 (hl b (by simp [blocks1]))
    have ho : cap < OPEN := by
      have : maxLen = 9223372036854775807 := rfl
      unfold OPEN; omega
    have e : absV (once l) (.slice (some ⟨b, off, none⟩) L.length cap) = .slice (some ⟨(once l).idxOf b, off, none⟩) L.length cap := by
      rw [absV, if_neg (by omega), if_pos ⟨rfl, hm, h1, ho⟩]
    rw [e]
    refine ⟨.slc _ ⟨b, 0⟩ off L.length cap (seenPhi_idx hm) ho h1, cellsI_len L, ?_⟩
    by_cases hL : L = []
    · subst hL
      exact .inl ⟨rfl, _, _, rfl⟩
    have hlt := List.idxOf_lt_length_of_mem hm
    have hrow : (rowsAt w (once l))[(once l).idxOf b]? = some (c.toList.map (absV (once l))) := by
      unfold rowsAt
      rw [List.getElem?_map, List.getElem?_eq_getElem hlt, List.getElem_idxOf hlt]
      simp only [Option.map_some, Ds.rowAt, h3]
    have hget : ∀ i, i < (cellsI L).length → (c.toList.map (absV (once l)))[off + i]? = (cellsI L)[i]? := by
      intro i hi
      have hv := List.getElem?_eq_getElem hi
      obtain ⟨n, hn⟩ := cellsI_plain L _ (List.getElem_mem hi)
      have h5 := h4 i _ hv
      rw [addr_add] at h5
      unfold World.cell? at h5
      rw [h3] at h5
      have h5 : c[off + i]? = some (cellsI L)[i] := by simpa using h5
      rw [hv, List.getElem?_map]
      simp only [Array.getElem?_toList, h5]
      rw [Option.map_some, hn, absV]
      · rfl
      · intro a l c h; cases h
    have hp : 0 < (cellsI L).length := by rw [cellsI_len]; have := List.length_pos_iff.2 hL; omega
    have hfit : off + (cellsI L).length ≤ (c.toList.map (absV (once l))).length := by
      have := hget ((cellsI L).length - 1) (by omega)
      rw [List.getElem?_eq_getElem (show (cellsI L).length - 1 < (cellsI L).length by omega)] at this
      have := (List.getElem?_eq_some_iff.1 this).1
      omega
    refine .inr ⟨(once l).idxOf b, off, cap, seenOb (c.toList.map (absV (once l))), rfl, by rw [seen_next]; simp only [rowsAt, List.length_map]; exact hlt, seen_get _ hrow, .inr ⟨rfl, ?_⟩, hfit, ?_⟩
    · rw [List.any_eq_false]
      intro x hx
      obtain ⟨n, hn⟩ := cellsI_plain L x hx
      rw [hn]; simp [isJ]
    · show ((c.toList.map (absV (once l))).drop off).take (cellsI L).length = cellsI L
      apply List.ext_getElem?
      intro i
      by_cases hi : i < (cellsI L).length
      · rw [List.getElem?_take, if_pos hi, List.getElem?_drop]
        exact hget i hi
      · rw [List.getElem?_take, if_neg hi, List.getElem?_eq_none (by omega)]
theorem seenP_slq {r : List Value} {blk : Nat} {rows : List (List Value)} {s : Value} {sz m : Nat} {vs : List Value} (h : SlQ (seenG (r :: rows)) s sz m vs) : SlQ (Ds.seenP r blk rows) s sz m vs := by
  obtain ⟨h0, h | ⟨j, off, cap, ob, h1, h2, h3, h4, h5, h6⟩⟩ := h
  · exact ⟨h0, .inl h⟩
  · refine ⟨h0, .inr ?_⟩
    by_cases c : j = 0
    · subst c
      rw [seen_get (r :: rows) (i := 0) rfl] at h3
      subst h3
      refine ⟨0, off, cap, _, h1, h2, seenP_zero r blk rows, ?_, h5, h6⟩
      rcases h4 with h4 | ⟨_, h4⟩
      · exact absurd h4 (by show ¬ 4 = 1; decide)
      · exact .inr ⟨rfl, h4⟩
    · exact ⟨j, off, cap, ob, h1, h2, by rw [seenP_get r blk rows c]; exact h3, h4, h5, h6⟩
end Go.Proofs.YtnpapnpedcbfnaaDoor
