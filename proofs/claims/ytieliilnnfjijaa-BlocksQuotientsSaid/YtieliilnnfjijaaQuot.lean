/- Quotients (promises P4.3, P4.4): for all lists of numbers, numbers and lists of lists of numbers, the law BlocksQuotients of clochelaw04 returns true and changes nothing; no condition. -/
import Derived.Test.YtieliilnnfjijaaKp
import Derived.Test.YtieliilnnfjijaaDtO
import Derived.Test.YtieliilnnfjijaaKE
set_option linter.all false
set_option linter.unusedSimpArgs false
set_option linter.unnecessarySimpa false
set_option linter.unusedVariables false
set_option linter.unusedSectionVars false
namespace Go.Proofs.Ytieliilnnfjijaa
open Go.ChangeShapes Go.WideShapes Go.ChangeAt Go.RowKit
set_option linter.unusedVariables false
set_option maxRecDepth 100000
open Go.Ds in
theorem blocksQuotients_calls (i1 : Int) {zs ys : List Int} {L : List (Value × List Int)} {v0 v2 v3 : Value} {w : World} (a0 : Arg1 w .i64 v0 zs) (a2 : Arg1 w .i64 v2 ys) (a3 : Arg2 w .i64 v3 L) :
    Calls Try.prog 5 #[v0, .int .i64 i1, v2, v3] w fun e w' => e = .returned (.bool true) ∧ RowKit.Below w.heap.size w w' := by
  have inst : Inhabited Bound := ⟨⟨0⟩⟩
  have hs := seen_world (w := w) (l := blocks1 v0 ++ (blocks1 v2 ++ blocks2 v3 L)) fun b hb => (List.mem_append.1 hb).elim (a0.has b) fun hb => (List.mem_append.1 hb).elim (a2.has b) (a3.has b)
  obtain ⟨r0, s0⟩ := a0.seen (l := blocks1 v0 ++ (blocks1 v2 ++ blocks2 v3 L)) fun b hb => List.mem_append.2 (.inl hb)
  obtain ⟨r2, s2⟩ := a2.seen (l := blocks1 v0 ++ (blocks1 v2 ++ blocks2 v3 L)) fun b hb => List.mem_append.2 (.inr (List.mem_append.2 (.inl hb)))
  obtain ⟨r3, us, u1, u2, u3⟩ := a3.seen (l := blocks1 v0 ++ (blocks1 v2 ++ blocks2 v3 L)) fun b hb => List.mem_append.2 (.inr (List.mem_append.2 (.inr hb)))
  obtain ⟨l, hl⟩ : ∃ l, blocks1 v0 ++ (blocks1 v2 ++ blocks2 v3 L) = l := ⟨_, rfl⟩
  rw [hl] at hs r0 s0 r2 s2 r3 u1 u3
  exact Rets.seenR X0_orac mixedO (args := [absV (once l) v0, .int .i64 i1, absV (once l) v2, absV (once l) v3]) hs (LRel.cons r0 (LRel.cons (VRel.plainC rfl) (LRel.cons r2 (LRel.cons r3 LRel.nil)))) (fun h => X0_free (by decide) _ h) rfl
    ((quotientsLaw_rets X0_ok zs i1 ys (L.map (·.2)) _ _ _ (seenG (rowsAt w (once l))) s0 s2 ⟨us, u1, u2, u3⟩).mono fun v g' lo _ ⟨h1, h2⟩ => ⟨by rw [← seen_next (rowsAt w (once l))]; exact h1, h2⟩)
namespace blocksQuotients
set_option maxRecDepth 100000 in
theorem lifted (os : Os) (started : os.Started) (H : Type) (enc : TypeId × Value → H) :
    ReturnsInHanded {} Try.checked os 5 .any (Rows.blocksQuotientsSpec.pre6 enc Try.prog Try.f5 Rows.blocksQuotientsRow.domain false) (Rows.blocksQuotientsSpec.post enc Try.prog Try.f5 false true false false) := by
  refine returnsInHanded_of_change (C := Try.checked) ownNone started (by kernel_rfl) Try.func5
    (ChangeSpec.witness6 (enc := enc) (C := Try.checked) false ⟨#[], #[.slice none 0 0, .int .i64 0, .slice none 0 0, .slice none 0 0], []⟩ 8 (by kernel_rfl) (by kernel_rfl) (by kernel_rfl) (by kernel_rfl)) ?_
  intro W base args ds gs before hval0 hW hcnd _
  have hval : ∀ (j : Nat) t v, Try.f5.params[j]? = some t → args[j]? = some v → Value.okWide Try.prog W .any base t v := hval0
  have hW' := hW
  obtain ⟨p, q, hA0, hV, rfl, hfz, hnd⟩ := hW
  have hA : DataW.TrodAll enc Try.prog W 0 (fun _ => true) true Try.f5.params.toList args.toList ds p := hA0
  rw [Try.params5] at hA hval
  obtain ⟨v0, vs0, d0, ds0, p0, q0, hargs, rfl, rfl, h0, r0⟩ := trodAll_cons hA
  obtain ⟨v1, vs1, d1, ds1, p1, q1, rfl, rfl, rfl, h1, r1⟩ := trodAll_cons r0
  obtain ⟨v2, vs2, d2, ds2, p2, q2, rfl, rfl, rfl, h2, r2⟩ := trodAll_cons r1
  obtain ⟨v3, vs3, d3, ds3, p3, q3, rfl, rfl, rfl, h3, r3⟩ := trodAll_cons r2
  obtain ⟨rfl, rfl, rfl⟩ := trodAll_nil r3
  obtain rfl : args = #[v0, v1, v2, v3] := by cases args; simp_all
  obtain ⟨rfl, rfl⟩ := trodVars_none hV
  have k0 := h0
  have lt0 : ∀ x ∈ p0, x.block < W.heap.size := by obtain ⟨m, hm⟩ := k0; exact DataW.trod_lt m _ _ _ hm
  have k1 := h1
  have lt1 : ∀ x ∈ p1, x.block < W.heap.size := by obtain ⟨m, hm⟩ := k1; exact DataW.trod_lt m _ _ _ hm
  have k2 := h2
  have lt2 : ∀ x ∈ p2, x.block < W.heap.size := by obtain ⟨m, hm⟩ := k2; exact DataW.trod_lt m _ _ _ hm
  have k3 := h3
  have lt3 : ∀ x ∈ p3, x.block < W.heap.size := by obtain ⟨m, hm⟩ := k3; exact DataW.trod_lt m _ _ _ hm
  obtain ⟨zs, a0, _, _⟩ := Ds.open_arg1 (e := 3) (k := .i64) (by kernel_rfl) Try.underlying3 cells3 (hval 0 _ v0 rfl rfl) h0
  obtain ⟨i1, rfl, rfl, rfl, wi1⟩ := open_int Try.underlying3 (hval 1 3 v1 rfl rfl) h1
  obtain ⟨ys, a2, _, _⟩ := Ds.open_arg1 (e := 3) (k := .i64) (by kernel_rfl) Try.underlying3 cells3 (hval 2 _ v2 rfl rfl) h2
  obtain ⟨L, a3, _, _⟩ := Ds.open_arg2 (e2 := 22) (e := 3) (k := .i64) (by kernel_rfl) (by kernel_rfl) Try.underlying3 cells3 (by kernel_rfl) (hval 3 _ v3 rfl rfl) h3
  clear hA0 hval0
  refine (blocksQuotients_calls i1 a0 a2 a3).mono fun e W' ⟨he, bel⟩ => ?_
  subst he
  exact ⟨_, rfl, _, _, _, [], _, [], hW', trodAll_mk1 (shut_bool Try.underlying4 _), (trodAll_cons_mk (Below.trod laidOut (by kernel_rfl) (of_decide_eq_true (by kernel_rfl)) k0 bel lt0) (trodAll_cons_mk (Below.trod laidOut (by kernel_rfl) (of_decide_eq_true (by kernel_rfl)) k1 bel lt1) (trodAll_cons_mk (Below.trod laidOut (by kernel_rfl) (of_decide_eq_true (by kernel_rfl)) k2 bel lt2) (trodAll_cons_mk (Below.trod laidOut (by kernel_rfl) (of_decide_eq_true (by kernel_rfl)) k3 bel lt3) trodAll_mk0)))), rfl, bel.frame _, fun h => by cases h⟩
theorem over : Rows.blocksQuotientsRow.holds Try.pinned (OpenSpec.ofChange Rows.blocksQuotientsSpec) :=
  OpenClaim.holds_of_wide 5 Try.f5 rfl rfl rfl rfl rfl rfl rfl ⟨rfl, rfl, rfl, rfl, rfl⟩ rfl rfl rfl rfl rfl (by kernel_rfl) Try.func5 (by kernel_rfl)
    (of_decide_eq_true (by kernel_rfl)) (by unfold Func.isWrapper; first | (rw [if_pos (by decide +kernel)]; kernel_rfl) | (rw [if_neg (by decide +kernel)]; exact ⟨rfl, rfl⟩))
    (fun os started H enc _ => lifted os started H enc)
/-- The statement. -/
theorem proved : Rows.BlocksQuotientsSaid := over
#print axioms proved
end blocksQuotients
end Go.Proofs.Ytieliilnnfjijaa
