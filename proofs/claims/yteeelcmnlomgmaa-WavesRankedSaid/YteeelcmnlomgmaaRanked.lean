/- Ranked (promises P5.10, P5.2, P5.3): for every list of numbers and every three numbers, the law WavesRanked of clochelaw05 returns true and changes nothing; no condition. -/
import Derived.Test.YteeelcmnlomgmaaJ1
import Derived.Test.YteeelcmnlomgmaaJA
set_option linter.all false
set_option linter.unusedSimpArgs false
set_option linter.unnecessarySimpa false
set_option linter.unusedVariables false
set_option linter.unusedSectionVars false
namespace Go.Proofs.Yteeelcmnlomgmaa
open Go.ChangeShapes Go.WideShapes Go.ChangeAt Go.RowKit
set_option linter.unusedVariables false
set_option maxRecDepth 100000
open Go.Ds in
theorem wavesRanked_calls (i1 : Int) (hi1 : 0 ≤ i1 ∧ i1 < 256) (i2 : Int) (hi2 : 0 ≤ i2 ∧ i2 < 4294967296) (i3 : Int) (hi3 : 0 ≤ i3 ∧ i3 < 4294967296) (zs : List Int) {u v : Value} {rows : List (List Value)} {bs : List Nat} {w : World} (hs : SeenIn w rows bs) (hu : VRel (seenPhi bs) u v) (hr : SlR (seenG rows) u (ints zs)) :
    Calls Try.prog 12 #[v, .int .u8 i1, .int .u32 i2, .int .u32 i3] w fun e w' => e = .returned (.bool true) ∧ RowKit.Below w.heap.size w w' :=
  have inst : Inhabited Bound := ⟨⟨0⟩⟩
  Rets.seen X1_orac mixedO (args := [u, .int .u8 i1, .int .u32 i2, .int .u32 i3]) hs (LRel.cons hu (LRel.cons (VRel.plainC rfl) (LRel.cons (VRel.plainC rfl) (LRel.cons (VRel.plainC rfl) LRel.nil)))) (fun h => X1_free (by decide) _ h) rfl
    ((rankedLaw_rets X1_ok zs i1 hi1.1 hi1.2 i2 hi2.1 hi2.2 i3 hi3.1 hi3.2 u (seenG rows) hr).mono fun v g' lo _ ⟨h1, h2⟩ => ⟨by rw [← seen_next rows]; exact h1, h2⟩)
namespace wavesRanked
set_option maxRecDepth 100000 in
theorem lifted (os : Os) (started : os.Started) (H : Type) (enc : TypeId × Value → H) :
    ReturnsInHanded {} Try.checked os 12 .any (Rows.wavesRankedSpec.pre6 enc Try.prog Try.f12 Rows.wavesRankedRow.domain false) (Rows.wavesRankedSpec.post enc Try.prog Try.f12 false true false false) := by
  refine returnsInHanded_of_change (C := Try.checked) ownNone started (by kernel_rfl) Try.func12
    (ChangeSpec.witness6 (enc := enc) (C := Try.checked) false ⟨#[], #[.slice none 0 0, .int .u8 0, .int .u32 0, .int .u32 0], []⟩ 8 (by kernel_rfl) (by kernel_rfl) (by kernel_rfl) (by kernel_rfl)) ?_
  intro W base args ds gs before hval0 hW hcnd _
  have hval : ∀ (j : Nat) t v, Try.f12.params[j]? = some t → args[j]? = some v → Value.okWide Try.prog W .any base t v := hval0
  have hW' := hW
  obtain ⟨p, q, hA0, hV, rfl, hfz, hnd⟩ := hW
  have hA : DataW.TrodAll enc Try.prog W 0 (fun _ => true) true Try.f12.params.toList args.toList ds p := hA0
  rw [Try.params12] at hA hval
  obtain ⟨v0, vs0, d0, ds0, p0, q0, hargs, rfl, rfl, h0, r0⟩ := trodAll_cons hA
  obtain ⟨v1, vs1, d1, ds1, p1, q1, rfl, rfl, rfl, h1, r1⟩ := trodAll_cons r0
  obtain ⟨v2, vs2, d2, ds2, p2, q2, rfl, rfl, rfl, h2, r2⟩ := trodAll_cons r1
  obtain ⟨v3, vs3, d3, ds3, p3, q3, rfl, rfl, rfl, h3, r3⟩ := trodAll_cons r2
  obtain ⟨rfl, rfl, rfl⟩ := trodAll_nil r3
  obtain rfl : args = #[v0, v1, v2, v3] := by cases args; simp_all
  obtain ⟨rfl, rfl⟩ := trodVars_none hV
  have k0 := h0
  have lt0 : ∀ x ∈ p0, x.block < W.heap.size := by obtain ⟨m, hm⟩ := k0; exact DataW.trod_lt m _ _ _ hm
  have k1 := h1
  have lt1 : ∀ x ∈ p1, x.block < W.heap.size := by obtain ⟨m, hm⟩ := k1; exact DataW.trod_lt m _ _ _ hm
  have k2 := h2
  have lt2 : ∀ x ∈ p2, x.block < W.heap.size := by obtain ⟨m, hm⟩ := k2; exact DataW.trod_lt m _ _ _ hm
  have k3 := h3
  have lt3 : ∀ x ∈ p3, x.block < W.heap.size := by obtain ⟨m, hm⟩ := k3; exact DataW.trod_lt m _ _ _ hm
  obtain ⟨zs, u, rows, bs, s1, s2, s3, s4, s5, s6⟩ := Ds.seen_ints (e := 3) (k := .i64) (by kernel_rfl) Try.underlying3 cells3 (hval 0 _ v0 rfl rfl) h0
  obtain ⟨i1, rfl, rfl, rfl, wi1⟩ := open_int Try.underlying5 (hval 1 5 v1 rfl rfl) h1
  have bd1 := bounds_u8 wi1
  obtain ⟨i2, rfl, rfl, rfl, wi2⟩ := open_int Try.underlying47 (hval 2 47 v2 rfl rfl) h2
  have bd2 := bounds_u32 wi2
  obtain ⟨i3, rfl, rfl, rfl, wi3⟩ := open_int Try.underlying47 (hval 3 47 v3 rfl rfl) h3
  have bd3 := bounds_u32 wi3
  clear hA0 hval0
  refine (wavesRanked_calls i1 (by omega) i2 (by omega) i3 (by omega) zs s1 s2 s3).mono fun e W' ⟨he, bel⟩ => ?_
  subst he
  exact ⟨_, rfl, _, _, _, [], _, [], hW', trodAll_mk1 (shut_bool Try.underlying4 _), (trodAll_cons_mk (Below.trod laidOut (by kernel_rfl) (of_decide_eq_true (by kernel_rfl)) k0 bel lt0) (trodAll_cons_mk (Below.trod laidOut (by kernel_rfl) (of_decide_eq_true (by kernel_rfl)) k1 bel lt1) (trodAll_cons_mk (Below.trod laidOut (by kernel_rfl) (of_decide_eq_true (by kernel_rfl)) k2 bel lt2) (trodAll_cons_mk (Below.trod laidOut (by kernel_rfl) (of_decide_eq_true (by kernel_rfl)) k3 bel lt3) trodAll_mk0)))), rfl, bel.frame _, fun h => by cases h⟩
theorem over : Rows.wavesRankedRow.holds Try.pinned (OpenSpec.ofChange Rows.wavesRankedSpec) :=
  OpenClaim.holds_of_wide 12 Try.f12 rfl rfl rfl rfl rfl rfl rfl ⟨rfl, rfl, rfl, rfl, rfl⟩ rfl rfl rfl rfl rfl (by kernel_rfl) Try.func12 (by kernel_rfl)
    (of_decide_eq_true (by kernel_rfl)) (by unfold Func.isWrapper; first | (rw [if_pos (by decide +kernel)]; kernel_rfl) | (rw [if_neg (by decide +kernel)]; exact ⟨rfl, rfl⟩))
    (fun os started H enc _ => lifted os started H enc)
/-- The statement. -/
theorem proved : Rows.WavesRankedSaid := over
#print axioms proved
end wavesRanked
end Go.Proofs.Yteeelcmnlomgmaa
