import Derived.Test.YtngmaccaldhjcaaDoorRows
import Derived.Test.YtngmaccaldhjcaaDoorJ1
import Derived.WalkKit
import Derived.ProofKit
import Derived.LaidMore
import Derived.Lib.LaidTab
import Derived.OpenShut
import Derived.Stop.Joined
import Derived.ChangeOld
import Derived.Below
set_option linter.all false
set_option linter.unusedSimpArgs false
set_option linter.unnecessarySimpa false
set_option linter.unusedVariables false
set_option linter.unusedSectionVars false
namespace Go.Proofs.YtngmaccaldhjcaaDoor
open Go.ChangeShapes Go.WideShapes Go.ChangeAt Go.RowKit
set_option linter.unusedVariables false
set_option maxRecDepth 100000
theorem ownNone : ownKnob Tryd.prog.godebug = none := by kernel_rfl
theorem laidOut : laidOutB Tryd.prog = true := by kernel_rfl
theorem cells3 : Tryd.prog.cellsOf 3 = 1 := by kernel_rfl
theorem cells23 : Tryd.prog.cellsOf 23 = 1 := by kernel_rfl
theorem cells25 : Tryd.prog.cellsOf 25 = 2 := by kernel_rfl
/-! ## The tables, as the row lists them -/
def laid2 : List (String × DataW Unit) := [("math/bits.deBruijn32tab", Rows.laid_math_bits_deBruijn32tab), ("math/bits.deBruijn64tab", Rows.laid_math_bits_deBruijn64tab)]
def tab64 : List Int := [0, 1, 56, 2, 57, 49, 28, 3, 61, 58, 42, 50, 38, 29, 17, 4, 62, 47, 59, 36, 45, 43, 51, 22, 53, 39, 33, 30, 24, 18, 12, 5, 63, 55, 48, 27, 60, 41, 37, 16, 46, 35, 44, 21, 52, 32, 23, 11, 54, 26, 40, 15, 34, 20, 31, 10, 25, 14, 19, 9, 13, 8, 7, 6]
theorem tab64_is : (Rows.laid_math_bits_deBruijn64tab : DataW Unit) = Lib.tabData .u8 tab64 := rfl
theorem door_met (os : Os) (args : Array Value) : laidMetH Tryd.prog laid2 ((World.doorLaid Tryd.prog 400 os).forCall (fun _ _ => 0) ⟨#[], args, []⟩).memory :=
  laidMetH_of_parts3 (fuel := 8) (laidMet_of_run' 8 (by kernel_rfl) (by kernel_rfl)) (by kernel_rfl) (by kernel_rfl)
theorem of_laid {W : World} (h : laidMetH Tryd.prog laid2 W) : TabW W := by
  rw [MakeChecks.laidMetH_plain _ _ _ (by kernel_rfl)] at h
  obtain ⟨ps, ⟨g0, t0, cs0, f0, p0, q0, hg0, ht0, hv0, hd0, ⟨g1, t1, cs1, f1, p1, q1, hg1, ht1, hv1, hd1, _, _⟩, _⟩, _, _⟩ := h
  obtain rfl := Option.some.inj ((show Tryd.prog.globalNamed "math/bits.deBruijn64tab" = some 1 by kernel_rfl).symm.trans hg1)
  obtain rfl := Option.some.inj ((show (Tryd.prog.globals[1]?).map (·.type) = some 111 by kernel_rfl).symm.trans ht1)
  rw [tab64_is] at hd1
  have hc := Lib.cells_of_tab (n := 64) (e := 5) (by kernel_rfl) (by kernel_rfl) (by kernel_rfl) (by kernel_rfl) hd1
  have at_ : ∀ i, W.cell? ⟨1, i, none⟩ = (tab64.map fun z => Value.int .u8 z)[i]? := by
    intro i
    rw [World.var?_cell hg1 hv1 i, ← hc]
    simp
  exact ⟨at_ 0, at_ 1, at_ 3⟩
/-! ## A mixture that came in -/
open Go.Ds in
theorem open_parts {H : Type} {enc : TypeId × Value → H} {w : World} {r : Reach} {b0 base : Nat} {held : Bool} {v : Value} {d : DataW H} {p : List MemPlace} (hv : Value.okWide Tryd.prog w r b0 25 v) (h : DataW.Trod enc Tryd.prog w base (fun _ => true) held 25 v d p) :
    ∃ (c : Value) (n : Int) (zs : List Int), v = .agg #[c, .int .i64 n] ∧ InnerOk w .i64 c zs ∧ (Lit.int .i64 n).wf = true := by
  obtain ⟨cs, rfl, hsz, _⟩ : ∃ cs, v = .agg cs ∧ cs.size = Tryd.prog.cellsOf 25 ∧ Row.okWide Tryd.prog w r b0 25 cs := by
    simpa [Value.okWide, Tryd.underlying25] using hv
  rw [cells25] at hsz
  obtain ⟨l⟩ := cs
  obtain ⟨c0, c1, rfl⟩ : ∃ c0 c1, l = [c0, c1] := by
    match l, hsz with
    | [a, b], _ => exact ⟨a, b, rfl⟩
  obtain ⟨fuel, hf⟩ := h
  obtain ⟨y0, y1, m, hx, hl, h0, h1⟩ := trod_struct2 Tryd.underlying25 hf
  have e0 : Tryd.prog.cellsOf 23 = 1 := cells23
  have e1 : Tryd.prog.cellsOf 3 = 1 := cells3
  have h0' : DataW.trod enc Tryd.prog w base (fun _ => true) held m 23 [c0] = some y0 := by
    rw [e0] at h0
    exact h0
  have h1' : DataW.trod enc Tryd.prog w base (fun _ => true) held m 3 [c1] = some y1 := by
    rw [e1] at h1
    exact h1
  obtain ⟨zs, z1, _, _⟩ := open_inner (e := 3) (k := .i64) (by kernel_rfl) (by kernel_rfl) cells3 h0'
  obtain ⟨n, q1, _, q2⟩ := DataW.trod_int Tryd.underlying3 h1'
  simp at q1
  subst q1
  exact ⟨c0, n, zs, rfl, z1, q2⟩
/-! ## The heap of what came in, beside the table -/
open Go.Ds in
def lst (B : List Nat) : List Nat := B.filter fun b => !(b == 1)
open Go.Ds in
theorem once_lst (B : List Nat) : once (1 :: lst B) = 1 :: once (lst B) := by
  have : 1 ∉ once (lst B) := by
    rw [once_mem]
    unfold lst
    simp
  show (if 1 ∈ once (lst B) then _ else _) = _
  rw [if_neg this]
theorem mem_lst {B : List Nat} {b : Nat} (h : b ∈ B) : b ∈ 1 :: lst B := by
  by_cases c : b = 1
  · rw [c]; exact List.mem_cons_self
  · refine List.mem_cons_of_mem _ ?_
    unfold lst
    simp [h, c]
open Go.Ds in
/-- The rows, the table's first. -/
theorem tab_rows {w : World} (hw : TabW w) {B : List Nat} (hB : ∀ b ∈ B, ∃ c t fr, w.heap[b]? = some (.cells c t fr)) :
    ∃ (r : List Value) (rows : List (List Value)) (bs : List Nat), once (1 :: lst B) = 1 :: bs ∧ rowsAt w (once (1 :: lst B)) = r :: rows ∧ SeenR w (r :: rows) (1 :: bs) ∧ HasTab (Ds.seenP r 1 rows) := by
  obtain ⟨h0, h1, h2⟩ := hw
  obtain ⟨_, c, t, fr, hc, _⟩ := cell_has h0
  have g : ∀ (k : Nat) v, w.cell? ⟨1, k, none⟩ = some v → c[k]? = some v := by
    intro k v hk
    unfold World.cell? at hk
    rw [hc] at hk
    simpa using hk
  have hs := seen_world (w := w) (l := 1 :: lst B) fun b hb => by
    rcases List.mem_cons.1 hb with rfl | hb
    · exact ⟨c, t, fr, hc⟩
    · unfold lst at hb
      exact hB b (List.mem_filter.1 hb).1
  refine ⟨_, _, _, once_lst B, by rw [once_lst]; rfl, by rw [once_lst] at hs; exact hs, by rw [seenP_next]; omega, ?_⟩
  rw [seenP_zero]
  have hr : Ds.rowAt w (1 :: once (lst B)) 1 = c.toList.map (absV (1 :: once (lst B))) := by
    unfold Ds.rowAt
    rw [hc]
  rw [hr]
  have l0 := g 0 _ h0
  have l1 := g 1 _ h1
  have l3 := g 3 _ h2
  obtain ⟨cl⟩ := c
  simp only [List.getElem?_toArray] at l0 l1 l3
  match cl, l0, l1, l3 with
  | a :: b :: e :: f :: cl, l0, l1, l3 =>
    simp only [List.getElem?_cons_zero, List.getElem?_cons_succ, Option.some.injEq] at l0 l1 l3
    subst l0; subst l1; subst l3
    rfl
end Go.Proofs.YtngmaccaldhjcaaDoor
