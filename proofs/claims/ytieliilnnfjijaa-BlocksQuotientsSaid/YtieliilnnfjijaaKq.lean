/- slices.SortFunc with the program's closure, at every length, by the library's contract. -/
import Derived.Test.YtieliilnnfjijaaRows
import Derived.Shelf.SlSortCmp.NoneTotal
import Derived.Shelf.SlicesG.Cmp
import Derived.Ground.SlsfProg
import Derived.Ground.SlgcProg
import Derived.Lib.SortBridge
import Derived.WalkKit
import Derived.KernelRfl
set_option linter.all false
set_option linter.unusedSimpArgs false
set_option linter.unnecessarySimpa false
set_option linter.unusedVariables false
set_option linter.unusedSectionVars false
set_option maxRecDepth 100000
namespace Go.Proofs
open Go.Shelf
def Try.sortL_ren : Go.Shelf.Ren := ⟨fun | 6 => 78 | 15 => 83 | 14 => 82 | 28 => 93 | 29 => 94 | 20 => 85 | 21 => 86 | 22 => 87 | 23 => 88 | 24 => 89 | 25 => 90 | 26 => 91 | 27 => 92 | 46 => 95 | 47 => 96 | 48 => 97 | 49 => 98 | 50 => 99 | 57 => 100 | n => n, fun | 22 => 22 | 24 => 3 | 25 => 58 | 3 => 3 | 39 => 74 | 0 => 0 | 53 => 84 | 55 => 86 | 4 => 4 | 46 => 77 | 45 => 76 | 50 => 81 | 5 => 5 | 9 => 9 | 66 => 87 | 70 => 91 | 76 => 93 | 77 => 94 | n => n, fun | n => n⟩
theorem Try.sortL : Go.Proofs.SlLaysF.n6 Try.prog Try.sortL_ren := {
  mixed := by kernel_rfl
  f6 := ⟨Try.f78.name, by decide, Try.func78.trans (congrArg some (by kernel_rfl))⟩
  f14 := ⟨Try.f82.name, by decide, Try.func82.trans (congrArg some (by kernel_rfl))⟩
  f15 := Try.func83.trans (congrArg some (by kernel_rfl))
  f20 := ⟨Try.f85.name, by decide, Try.func85.trans (congrArg some (by kernel_rfl))⟩
  f21 := ⟨Try.f86.name, by decide, Try.func86.trans (congrArg some (by kernel_rfl))⟩
  f22 := ⟨Try.f87.name, by decide, Try.func87.trans (congrArg some (by kernel_rfl))⟩
  f23 := ⟨Try.f88.name, by decide, Try.func88.trans (congrArg some (by kernel_rfl))⟩
  f24 := ⟨Try.f89.name, by decide, Try.func89.trans (congrArg some (by kernel_rfl))⟩
  f25 := ⟨Try.f90.name, by decide, Try.func90.trans (congrArg some (by kernel_rfl))⟩
  f26 := ⟨Try.f91.name, by decide, Try.func91.trans (congrArg some (by kernel_rfl))⟩
  f27 := ⟨Try.f92.name, by decide, Try.func92.trans (congrArg some (by kernel_rfl))⟩
  f28 := Try.func93.trans (congrArg some (by kernel_rfl))
  f29 := Try.func94.trans (congrArg some (by kernel_rfl))
  f46 := ⟨Try.f95.name, by decide, Try.func95.trans (congrArg some (by kernel_rfl))⟩
  f47 := Try.func96.trans (congrArg some (by kernel_rfl))
  f48 := Try.func97.trans (congrArg some (by kernel_rfl))
  f49 := ⟨Try.f98.name, by decide, Try.func98.trans (congrArg some (by kernel_rfl))⟩
  f50 := ⟨Try.f99.name, by decide, Try.func99.trans (congrArg some (by kernel_rfl))⟩
  f57 := ⟨Try.f100.name, by decide, Try.func100.trans (congrArg some (by kernel_rfl))⟩
  t0 := Try.underlying0
  a0 := Try.isAgg0
  z0 := Try.sizeOf0
  v0 := Try.zeroValue0
  t3 := Try.underlying3
  a3 := Try.isAgg3
  z3 := Try.sizeOf3
  v3 := Try.zeroValue3
  t4 := Try.underlying4
  a4 := Try.isAgg4
  z4 := Try.sizeOf4
  v4 := Try.zeroValue4
  t5 := Try.underlying5
  a5 := Try.isAgg5
  z5 := Try.sizeOf5
  v5 := Try.zeroValue5
  t9 := Try.underlying9
  a9 := Try.isAgg9
  z9 := Try.sizeOf9
  v9 := Try.zeroValue9
  t22 := Try.underlying22
  a22 := Try.isAgg22
  z22 := Try.sizeOf22
  v22 := Try.zeroValue22
  a24 := Try.isAgg3
  z24 := Try.sizeOf3
  t25 := Try.underlying58
  a25 := Try.isAgg58
  z25 := Try.sizeOf58
  v25 := Try.zeroValue58
  t39 := Try.underlying74
  a39 := Try.isAgg74
  z39 := Try.sizeOf74
  v39 := Try.zeroValue74
  t45 := Try.underlying76
  a45 := Try.isAgg76
  z45 := Try.sizeOf76
  v45 := Try.zeroValue76
  t46 := Try.underlying77
  a46 := Try.isAgg77
  z46 := Try.sizeOf77
  v46 := Try.zeroValue77
  t50 := Try.underlying81
  a50 := Try.isAgg81
  z50 := Try.sizeOf81
  v50 := Try.zeroValue81
  t53 := Try.underlying84
  a53 := Try.isAgg84
  z53 := Try.sizeOf84
  v53 := Try.zeroValue84
  t55 := Try.underlying86
  a55 := Try.isAgg86
  z55 := Try.sizeOf86
  v55 := Try.zeroValue86
  t66 := Try.underlying87
  a66 := Try.isAgg87
  z66 := Try.sizeOf87
  v66 := Try.zeroValue87
  t70 := Try.underlying91
  a70 := Try.isAgg91
  z70 := Try.sizeOf91
  v70 := Try.zeroValue91
  t76 := Try.underlying93
  a76 := Try.isAgg93
  z76 := Try.sizeOf93
  v76 := Try.zeroValue93
  t77 := Try.underlying94
  a77 := Try.isAgg94
  z77 := Try.sizeOf94
  v77 := Try.zeroValue94 }
def Try.cmpL_ren : Go.Shelf.Ren := ⟨fun | 5 => 80 | 7 => 84 | n => n, fun | 22 => 3 | 3 => 3 | 4 => 4 | n => n, fun | n => n⟩
theorem Try.cmpL : Go.Proofs.SlLaysC2.n5 Try.prog Try.cmpL_ren := {
  mixed := by kernel_rfl
  f5 := ⟨Try.f80.name, by decide, Try.func80.trans (congrArg some (by kernel_rfl))⟩
  f7 := ⟨Try.f84.name, by decide, Try.func84.trans (congrArg some (by kernel_rfl))⟩
  t3 := Try.underlying3
  a3 := Try.isAgg3
  z3 := Try.sizeOf3
  v3 := Try.zeroValue3
  t4 := Try.underlying4
  a4 := Try.isAgg4
  z4 := Try.sizeOf4
  v4 := Try.zeroValue4
  t22 := Try.underlying3
  a22 := Try.isAgg3
  z22 := Try.sizeOf3
  v22 := Try.zeroValue3 }
end Go.Proofs
namespace Go.Proofs.Ytieliilnnfjijaa
open Go.Shelf Go.RowKit Go.Lib Go.Sort
/-- How the closure compares. -/
def cfDown (x y : Int) : Int := Lib.compareInt y x
theorem lt_down (x y : Int) : ltOf cfDown x y = decide (y < x) := by
  unfold ltOf cfDown Lib.compareInt
  rcases Int.lt_trichotomy y x with h | h | h
  · simp [h]
  · subst h; simp
  · have h1 : ¬ y < x := by omega
    simp [h, h1]
theorem swo_down : SWO (ltOf cfDown) :=
  ⟨fun x => by rw [lt_down]; simp, fun x y z h1 h2 => by rw [lt_down] at *; simp at *; omega, fun x y z h1 h2 => by rw [lt_down] at *; simp at *; omega⟩
theorem tot_down (x y : Int) (h1 : ltOf cfDown x y = false) (h2 : ltOf cfDown y x = false) : x = y := by
  rw [lt_down, decide_eq_false_iff_not] at h1 h2
  omega
theorem not_down : (fun x y : Int => !ltOf cfDown y x) = fun x y => decide (y ≤ x) := by
  funext x y
  rw [lt_down]
  by_cases h : y ≤ x
  · rw [decide_eq_true h, decide_eq_false (by omega)]; rfl
  · rw [decide_eq_false h, decide_eq_true (by omega)]; rfl
set_option maxHeartbeats 2000000 in
theorem closure79 (x y : Int) (W : World) : Calls Try.prog 79 #[.int .i64 x, .int .i64 y] W fun e w' => e = .returned (.int .i64 (cfDown x y)) ∧ ∃ q, w' = W.drewN q := by
  have hc := AnyG.cmp_Compare_int Try.cmpL y x W
  change Calls Try.prog 80 _ _ _ at hc
  unfold cfDown
  generalize Lib.compareInt y x = r at hc ⊢
  go_enter Try.func79, Try.ntmps79
  go_wp2_with (go_at_call 80; refine hc.mono ?_; rintro e w' ⟨rfl, rfl⟩)
  go_ret
  exact ⟨rfl, 0, rfl⟩
set_option maxHeartbeats 2000000 in
theorem sortFunc_some (blk off c : Nat) (d : Array Int) (hn : d.size < 4611686018427387904) (w : World) (hH : Holds (Value.int .i64) w blk off d) (hb : blk < w.heap.size) :
    Calls Try.prog 78 #[.slice (some ⟨blk, off, none⟩) d.size c, .func (.func 79) #[] #[]] w fun e w' =>
      e = .returned (.tuple #[]) ∧ ∃ n os, w' = grow (putRow (Value.int .i64) (Sort.ahead w n) blk off (d.toList.mergeSort fun x y => decide (y ≤ x)).toArray) os := by
  have eg : ∀ args w, (callFunc 79 args).run Try.prog w = .ok (.enter 79 args) w := enters_of Try.func79 (by kernel_rfl) rfl
  have hr : CmpReads Try.prog 79 #[] (Value.int .i64) cfDown blk off d.size w := fun _ _ _ _ x y => closure79 x y _
  have hS := Any.slices_SortFunc_total Try.sortL (Value.int .i64) (fun _ => rfl) cfDown swo_down 79 #[] blk off c d w eg hr.lays hH hb hn tot_down
  rw [not_down] at hS
  exact hS
set_option maxHeartbeats 2000000 in
theorem sortFunc_none (p : Option Addr) (c : Nat) (fv : Value) (w : World) : Calls Try.prog 78 #[.slice p 0 c, fv] w fun e w' => e = .returned (.tuple #[]) ∧ w' = w := by
  have hS := AnyF.slices_SortFunc_none (P := Try.prog) (ρ := Try.sortL_ren) { Try.sortL with } p c fv w
  exact hS
theorem sortFunc_cells (b off c : Nat) (L : List Int) (w : World) (hn : L.length < 1000000) (hH : Holds (Value.int .i64) w b off L.toArray) (hb : b < w.heap.size) :
    Calls Try.prog 78 #[.slice (some ⟨b, off, none⟩) L.length c, .func (.func 79) #[] #[]] w fun e w' => e = .returned (.tuple #[]) ∧ ∃ q os, w' = grow ((w.drewN q).setCells b off ((L.mergeSort fun x y => decide (y ≤ x)).map (Value.int .i64))) os := by
  have h := sortFunc_some b off c L.toArray (by simp; omega) w hH hb
  have hs : L.toArray.size = L.length := by simp
  rw [hs] at h
  exact h.mono fun e w' ⟨he, q, os, hw⟩ => ⟨he, q, os, by rw [hw]; exact Lib.sorted_world _ w b off q _ _ os hH (by simp)⟩
end Go.Proofs.Ytieliilnnfjijaa
