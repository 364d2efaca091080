/- law Gallai -/
import Derived.Test.YtnpapnpedcbfnaaDoorKp
import Derived.Test.YtnpapnpedcbfnaaDoorTie
import Derived.Test.YtnpapnpedcbfnaaDoorCards
import Derived.SevenTiedAt
import Derived.Test.YtnpapnpedcbfnaaDoorJ3
set_option linter.all false
set_option linter.unusedSimpArgs false
set_option linter.unnecessarySimpa false
set_option linter.unusedVariables false
set_option linter.unusedSectionVars false
namespace Go.Proofs.YtnpapnpedcbfnaaDoor
open Go.ChangeShapes Go.WideShapes Go.ChangeAt Go.RowKit
set_option linter.unusedVariables false
set_option maxRecDepth 100000
open Go.Ds in
theorem visitsGallai_calls {w : World} (hw : TabW w) {v0 : Value} {z0 : List Int} (a0 : Arg1 w .i64 v0 z0) :
    Calls Tryd.prog 11 #[v0] w fun e w' => e = .returned (.bool true) ∧ RowKit.Below w.heap.size w w' := by
  have inst : Inhabited Bound := ⟨⟨0⟩⟩
  obtain ⟨r, rows, bs, q1, q2, q3, q4⟩ := tab_rows hw (B := (blocks1 v0)) (fun b hb => a0.has b hb)
  obtain ⟨r0, u0⟩ := a0.seen (l := 1 :: lst (blocks1 v0)) (fun b hb => mem_lst (hb))
  first | rw [q2, q1] at r0 | rw [q2] at r0 | rw [q1] at r0
  first | rw [q2, q1] at u0 | rw [q2] at u0 | rw [q1] at u0
  exact Rets.seenP XA_orac mixedO (args := [absV (1 :: bs) v0]) q3 (LRel.cons r0 LRel.nil) (fun h => XA_free (by decide) _ h) rfl
    ((gallaiLaw_rets XA_ok z0 _ _ q4 (seenP_slr u0)).mono fun v g' lo _ ⟨h1, h2⟩ => ⟨by rw [seenP_next] at h1; exact h1, h2⟩)
namespace visitsGallai
set_option maxRecDepth 100000 in
theorem lifted (os : Os) (started : os.Started) (H : Type) (enc : TypeId × Value → H) :
    ReturnsInHanded {} Tryd.checked os 11 .any (fun w args => (Rows.visitsGallaiSpec.pre enc Tryd.prog Tryd.f11 [] false w args ∧ laidMetH Tryd.prog laid2 w) ∧ sizedMet enc Tryd.prog Tryd.f11 (OpenSpec.ofChange Rows.visitsGallaiSpec) false w args)
      (Rows.visitsGallaiSpec.post enc Tryd.prog Tryd.f11 false true false false) := by
  refine returnsInHanded_of_change_and (C := Tryd.checked) (X := fun w _ => laidMetH Tryd.prog laid2 w) (fun _ _ _ hh h => h.of_heap hh) ownNone started (by kernel_rfl) Tryd.func11
    (ChangeSpec.witness_shaped (enc := enc) (C := Tryd.checked) (os := os) (X := fun w _ => laidMetH Tryd.prog laid2 w) false (World.doorLaid Tryd.prog 400 os) #[.slice none 0 0] 8 rfl (World.shaped_of_RefB (by kernel_rfl) (by kernel_rfl)) (by kernel_rfl) (by kernel_rfl) (by kernel_rfl) (door_met os _)) ?_
  intro W base args ds gs before hval0 hW _ _ hL _
  have hTab := of_laid hL
  have hval : ∀ (j : Nat) t v, Tryd.f11.params[j]? = some t → args[j]? = some v → Value.okWide Tryd.prog W .any base t v := hval0
  have hW' := hW
  obtain ⟨p, q, hA0, hV, rfl, hfz, hnd⟩ := hW
  have hA : DataW.TrodAll enc Tryd.prog W 0 (fun _ => true) true Tryd.f11.params.toList args.toList ds p := hA0
  rw [Tryd.params11] at hA hval
  obtain ⟨v0, vs0, d0, ds0, p0, q0, hargs, rfl, rfl, h0, r0⟩ := trodAll_cons hA
  obtain ⟨rfl, rfl, rfl⟩ := trodAll_nil r0
  obtain rfl : args = #[v0] := by cases args; simp_all
  obtain ⟨rfl, rfl⟩ := trodVars_none hV
  have k0 := h0
  have lt0 : ∀ x ∈ p0, x.block < W.heap.size := by obtain ⟨m, hm⟩ := k0; exact DataW.trod_lt m _ _ _ hm
  obtain ⟨z0, a0, _, _⟩ := Ds.open_arg1 (e := 3) (k := .i64) (by kernel_rfl) Tryd.underlying3 cells3 (hval 0 _ v0 rfl rfl) h0
  clear hA0 hval0
  refine (visitsGallai_calls hTab a0).mono fun e W' ⟨he, bel⟩ => ?_
  subst he
  exact ⟨_, rfl, _, _, _, [], _, [], hW', trodAll_mk1 (shut_bool Tryd.underlying4 _), (trodAll_cons_mk (Below.trod laidOut (by kernel_rfl) (of_decide_eq_true (by kernel_rfl)) k0 bel lt0) trodAll_mk0), rfl, bel.frame _, fun h => by cases h⟩
theorem over : Rows.visitsGallaiRow.holds Tryd.pinned (OpenSpec.ofChange Rows.visitsGallaiSpec) :=
  OpenClaim.holds_of_wide 11 Tryd.f11 rfl rfl rfl rfl rfl rfl rfl ⟨rfl, rfl, rfl, rfl, rfl⟩ rfl rfl rfl rfl rfl (by kernel_rfl) Tryd.func11 (by kernel_rfl)
    (of_decide_eq_true (by kernel_rfl)) (by unfold Func.isWrapper; first | (rw [if_pos (by decide +kernel)]; kernel_rfl) | (rw [if_neg (by decide +kernel)]; exact ⟨rfl, rfl⟩))
    (fun os started H enc _ => lifted os started H enc)
/-- The statement: the tied card. -/
theorem proved : Rows.VisitsGallaiCardSaid :=
  Claim7.holds_tied_plain_at .later [] [.data, .data] true (true, "79ad39d67d18c8632c1a105e46a781c62b6635ea59e5ddeb7a74010d676d35b1") false
    over (fun _ h => by cases h) (by kernel_rfl) (fun _ h => by cases h) visitsGallai_row_tie rfl ⟨rfl, rfl⟩ (by kernel_rfl) rfl
    (fun f fn hf hfn => by
      obtain rfl : f = 11 := Option.some.inj ((show Tryd.prog.funcNamed "cloche/clochelaw03.VisitsGallai" = some 11 by kernel_rfl).symm.trans hf) |>.symm
      obtain rfl : fn = Tryd.f11 := (Option.some.inj (Tryd.func11.symm.trans hfn)).symm
      exact ⟨by kernel_rfl, fun j t ht => by
        rw [Tryd.params11] at ht
        have hm : t ∈ [22] := by simpa using Array.mem_of_getElem? ht
        have hall : ([22].all fun u => !Tryd.prog.wantsStandIn u) = true := by kernel_rfl
        exact (show Tryd.prog.wantsStandIn t = false by simpa using List.all_eq_true.1 hall t hm)⟩)
    (by kernel_rfl)
#print axioms proved
end visitsGallai
end Go.Proofs.YtnpapnpedcbfnaaDoor
