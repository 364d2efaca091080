/- law Tutte -/
import Derived.Test.YtnpapnpedcbfnaaDoorKp
import Derived.Test.YtnpapnpedcbfnaaDoorTie
import Derived.Test.YtnpapnpedcbfnaaDoorCards
import Derived.SevenTiedAt
import Derived.Test.YtnpapnpedcbfnaaDoorJ3
set_option linter.all false
set_option linter.unusedSimpArgs false
set_option linter.unnecessarySimpa false
set_option linter.unusedVariables false
set_option linter.unusedSectionVars false
namespace Go.Proofs.YtnpapnpedcbfnaaDoor
open Go.ChangeShapes Go.WideShapes Go.ChangeAt Go.RowKit
set_option linter.unusedVariables false
set_option maxRecDepth 100000
open Go.Ds in
theorem visitsTutte_calls {w : World} (hw : TabW w) {v0 : Value} {z0 : List Int} (a0 : Arg1 w .i64 v0 z0) (i1 : Int) (h1 : 0 ≤ i1 ∧ i1 < 65536) {v2 : Value} {z2 : List (Int × Int)} (a2 : ArgP w v2 z2) :
    Calls Tryd.prog 8 #[v0, .int .u16 i1, v2] w fun e w' => e = .returned (.bool true) ∧ RowKit.Below w.heap.size w w' := by
  have inst : Inhabited Bound := ⟨⟨0⟩⟩
  obtain ⟨r, rows, bs, q1, q2, q3, q4⟩ := tab_rows hw (B := (blocks1 v0 ++ (blocks1 v2))) (fun b hb => (List.mem_append.1 hb).elim (fun hb => a0.has b hb) fun hb => a2.has b hb)
  obtain ⟨r0, u0⟩ := a0.seen (l := 1 :: lst (blocks1 v0 ++ (blocks1 v2))) (fun b hb => mem_lst (List.mem_append.2 (.inl hb)))
  obtain ⟨r2, u2⟩ := a2.seen (l := 1 :: lst (blocks1 v0 ++ (blocks1 v2))) (by simp) (fun b hb => mem_lst (List.mem_append.2 (.inr (hb))))
  first | rw [q2, q1] at r0 | rw [q2] at r0 | rw [q1] at r0
  first | rw [q2, q1] at u0 | rw [q2] at u0 | rw [q1] at u0
  first | rw [q2, q1] at r2 | rw [q2] at r2 | rw [q1] at r2
  first | rw [q2, q1] at u2 | rw [q2] at u2 | rw [q1] at u2
  exact Rets.seenP XA_orac mixedO (args := [absV (1 :: bs) v0, .int .u16 i1, absV (1 :: bs) v2]) q3 (LRel.cons r0 (LRel.cons (VRel.plainC rfl) (LRel.cons r2 LRel.nil))) (fun h => XA_free (by decide) _ h) rfl
    ((tutteLaw_rets XA_ok z0 _ _ _ h1.1 h1.2 z2 _ q4 (seenP_slr u0) (seenP_slq u2)).mono fun v g' lo _ ⟨h1, h2⟩ => ⟨by rw [seenP_next] at h1; exact h1, h2⟩)
namespace visitsTutte
set_option maxRecDepth 100000 in
theorem lifted (os : Os) (started : os.Started) (H : Type) (enc : TypeId × Value → H) :
    ReturnsInHanded {} Tryd.checked os 8 .any (fun w args => (Rows.visitsTutteSpec.pre enc Tryd.prog Tryd.f8 [] false w args ∧ laidMetH Tryd.prog laid2 w) ∧ sizedMet enc Tryd.prog Tryd.f8 (OpenSpec.ofChange Rows.visitsTutteSpec) false w args)
      (Rows.visitsTutteSpec.post enc Tryd.prog Tryd.f8 false true false false) := by
  refine returnsInHanded_of_change_and (C := Tryd.checked) (X := fun w _ => laidMetH Tryd.prog laid2 w) (fun _ _ _ hh h => h.of_heap hh) ownNone started (by kernel_rfl) Tryd.func8
    (ChangeSpec.witness_shaped (enc := enc) (C := Tryd.checked) (os := os) (X := fun w _ => laidMetH Tryd.prog laid2 w) false (World.doorLaid Tryd.prog 400 os) #[.slice none 0 0, .int .u16 0, .slice none 0 0] 8 rfl (World.shaped_of_RefB (by kernel_rfl) (by kernel_rfl)) (by kernel_rfl) (by kernel_rfl) (by kernel_rfl) (door_met os _)) ?_
  intro W base args ds gs before hval0 hW _ _ hL _
  have hTab := of_laid hL
  have hval : ∀ (j : Nat) t v, Tryd.f8.params[j]? = some t → args[j]? = some v → Value.okWide Tryd.prog W .any base t v := hval0
  have hW' := hW
  obtain ⟨p, q, hA0, hV, rfl, hfz, hnd⟩ := hW
  have hA : DataW.TrodAll enc Tryd.prog W 0 (fun _ => true) true Tryd.f8.params.toList args.toList ds p := hA0
  rw [Tryd.params8] at hA hval
  obtain ⟨v0, vs0, d0, ds0, p0, q0, hargs, rfl, rfl, h0, r0⟩ := trodAll_cons hA
  obtain ⟨v1, vs1, d1, ds1, p1, q1, rfl, rfl, rfl, h1, r1⟩ := trodAll_cons r0
  obtain ⟨v2, vs2, d2, ds2, p2, q2, rfl, rfl, rfl, h2, r2⟩ := trodAll_cons r1
  obtain ⟨rfl, rfl, rfl⟩ := trodAll_nil r2
  obtain rfl : args = #[v0, v1, v2] := by cases args; simp_all
  obtain ⟨rfl, rfl⟩ := trodVars_none hV
  have k0 := h0
  have lt0 : ∀ x ∈ p0, x.block < W.heap.size := by obtain ⟨m, hm⟩ := k0; exact DataW.trod_lt m _ _ _ hm
  have k1 := h1
  have lt1 : ∀ x ∈ p1, x.block < W.heap.size := by obtain ⟨m, hm⟩ := k1; exact DataW.trod_lt m _ _ _ hm
  have k2 := h2
  have lt2 : ∀ x ∈ p2, x.block < W.heap.size := by obtain ⟨m, hm⟩ := k2; exact DataW.trod_lt m _ _ _ hm
  obtain ⟨z0, a0, _, _⟩ := Ds.open_arg1 (e := 3) (k := .i64) (by kernel_rfl) Tryd.underlying3 cells3 (hval 0 _ v0 rfl rfl) h0
  obtain ⟨i1, rfl, rfl, rfl, wi1⟩ := open_int Tryd.underlying47 (hval 1 47 v1 rfl rfl) h1
  have bd1 := bounds_u16 wi1
  obtain ⟨z2, a2, _⟩ := open_argP (e := 56) Tryd.underlying23 Tryd.underlying56 (by kernel_rfl) rfl rfl cells3 cells3 Tryd.underlying3 Tryd.underlying3 (hval 2 _ v2 rfl rfl) h2
  clear hA0 hval0
  refine (visitsTutte_calls hTab a0 i1 (by omega) a2).mono fun e W' ⟨he, bel⟩ => ?_
  subst he
  exact ⟨_, rfl, _, _, _, [], _, [], hW', trodAll_mk1 (shut_bool Tryd.underlying4 _), (trodAll_cons_mk (Below.trod laidOut (by kernel_rfl) (of_decide_eq_true (by kernel_rfl)) k0 bel lt0) (trodAll_cons_mk (Below.trod laidOut (by kernel_rfl) (of_decide_eq_true (by kernel_rfl)) k1 bel lt1) (trodAll_cons_mk (Below.trod laidOut (by kernel_rfl) (of_decide_eq_true (by kernel_rfl)) k2 bel lt2) trodAll_mk0))), rfl, bel.frame _, fun h => by cases h⟩
theorem over : Rows.visitsTutteRow.holds Tryd.pinned (OpenSpec.ofChange Rows.visitsTutteSpec) :=
  OpenClaim.holds_of_wide 8 Tryd.f8 rfl rfl rfl rfl rfl rfl rfl ⟨rfl, rfl, rfl, rfl, rfl⟩ rfl rfl rfl rfl rfl (by kernel_rfl) Tryd.func8 (by kernel_rfl)
    (of_decide_eq_true (by kernel_rfl)) (by unfold Func.isWrapper; first | (rw [if_pos (by decide +kernel)]; kernel_rfl) | (rw [if_neg (by decide +kernel)]; exact ⟨rfl, rfl⟩))
    (fun os started H enc _ => lifted os started H enc)
/-- The statement: the tied card. -/
theorem proved : Rows.VisitsTutteCardSaid :=
  Claim7.holds_tied_plain_at .later [] [.data, .data] true (true, "79ad39d67d18c8632c1a105e46a781c62b6635ea59e5ddeb7a74010d676d35b1") false
    over (fun _ h => by cases h) (by kernel_rfl) (fun _ h => by cases h) visitsTutte_row_tie rfl ⟨rfl, rfl⟩ (by kernel_rfl) rfl
    (fun f fn hf hfn => by
      obtain rfl : f = 8 := Option.some.inj ((show Tryd.prog.funcNamed "cloche/clochelaw03.VisitsTutte" = some 8 by kernel_rfl).symm.trans hf) |>.symm
      obtain rfl : fn = Tryd.f8 := (Option.some.inj (Tryd.func8.symm.trans hfn)).symm
      exact ⟨by kernel_rfl, fun j t ht => by
        rw [Tryd.params8] at ht
        have hm : t ∈ [22, 47, 23] := by simpa using Array.mem_of_getElem? ht
        have hall : ([22, 47, 23].all fun u => !Tryd.prog.wantsStandIn u) = true := by kernel_rfl
        exact (show Tryd.prog.wantsStandIn t = false by simpa using List.all_eq_true.1 hall t hm)⟩)
    (by kernel_rfl)
#print axioms proved
end visitsTutte
end Go.Proofs.YtnpapnpedcbfnaaDoor
