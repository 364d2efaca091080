/- x lasts if Limit of x and every other y has no error; it has none exactly if x gains more than y against x, or as much, and more against y; it is below 1 exactly if y gains more against y. -/
import Derived.Test.YtngmaccaldhjcaaDoorKp
import Derived.Test.YtngmaccaldhjcaaDoorTie
import Derived.Test.YtngmaccaldhjcaaDoorCards
import Derived.SevenTiedAt
import Derived.Test.YtngmaccaldhjcaaDoorJ6
set_option linter.all false
set_option linter.unusedSimpArgs false
set_option linter.unnecessarySimpa false
set_option linter.unusedVariables false
set_option linter.unusedSectionVars false
namespace Go.Proofs.YtngmaccaldhjcaaDoor
open Go.ChangeShapes Go.WideShapes Go.ChangeAt Go.RowKit
set_option linter.unusedVariables false
set_option maxRecDepth 100000
open Go.Ds in
theorem fitsOthers_calls {w : World} (hw : TabW w) {v0 : Value} {L0 : List (Value × List Int)} (a0 : Arg2 w .i64 v0 L0) {c1 : Value} {n1 : Int} {z1 : List Int} (a1 : InnerOk w .i64 c1 z1) {c2 : Value} {n2 : Int} {z2 : List Int} (a2 : InnerOk w .i64 c2 z2) :
    Calls Tryd.prog 11 #[v0, .agg #[c1, .int .i64 n1], .agg #[c2, .int .i64 n2]] w fun e w' => e = .returned (.bool true) ∧ RowKit.Below w.heap.size w w' := by
  have inst : Inhabited Bound := ⟨⟨0⟩⟩
  obtain ⟨r, rows, bs, q1, q2, q3, q4⟩ := tab_rows hw (B := (blocks2 v0 L0 ++ (blocksIn c1 ++ (blocksIn c2)))) (fun b hb => (List.mem_append.1 hb).elim (fun hb => a0.has b hb) fun hb => (List.mem_append.1 hb).elim (fun hb => inner_has a1 b hb) fun hb => inner_has a2 b hb)
  obtain ⟨r0, us0, u0, p0, w0⟩ := a0.seen (l := 1 :: lst (blocks2 v0 L0 ++ (blocksIn c1 ++ (blocksIn c2)))) (fun b hb => mem_lst (List.mem_append.2 (.inl hb)))
  obtain ⟨r1, u1⟩ := inner_seen a1 (l := 1 :: lst (blocks2 v0 L0 ++ (blocksIn c1 ++ (blocksIn c2)))) (by simp) (fun b hb => mem_lst (List.mem_append.2 (.inr (List.mem_append.2 (.inl hb)))))
  obtain ⟨r2, u2⟩ := inner_seen a2 (l := 1 :: lst (blocks2 v0 L0 ++ (blocksIn c1 ++ (blocksIn c2)))) (by simp) (fun b hb => mem_lst (List.mem_append.2 (.inr (List.mem_append.2 (.inr (hb))))))
  first | rw [q2, q1] at r0 | rw [q2] at r0 | rw [q1] at r0
  first | rw [q2, q1] at u0 | rw [q2] at u0 | rw [q1] at u0
  first | rw [q2, q1] at w0 | rw [q2] at w0 | rw [q1] at w0
  first | rw [q2, q1] at r1 | rw [q2] at r1 | rw [q1] at r1
  first | rw [q2, q1] at u1 | rw [q2] at u1 | rw [q1] at u1
  first | rw [q2, q1] at r2 | rw [q2] at r2 | rw [q1] at r2
  first | rw [q2, q1] at u2 | rw [q2] at u2 | rw [q1] at u2
  exact Rets.seenP X0_orac mixedO (args := [absV (1 :: bs) v0, .agg #[absV (1 :: bs) c1, .int .i64 n1], .agg #[absV (1 :: bs) c2, .int .i64 n2]]) q3 (LRel.cons r0 (LRel.cons (LRel.agg (a := #[_, _]) (a' := #[_, _]) (LRel.cons (absV_good r1) (LRel.cons (VRel.plainC rfl) LRel.nil))) (LRel.cons (LRel.agg (a := #[_, _]) (a' := #[_, _]) (LRel.cons (absV_good r2) (LRel.cons (VRel.plainC rfl) LRel.nil))) LRel.nil))) (fun h => X0_free (by decide) _ h) rfl
    ((othersLaw_rets X0_ok (L0.map (·.2)) z1 n1 z2 n2 _ _ _ _ q4 ⟨us0, seenP_slr u0, p0, fun i x zs hx hz => seenP_slr (w0 i x zs hx hz)⟩ (seenP_slr u1) (seenP_slr u2)).mono fun v g' lo _ ⟨h1, h2⟩ => ⟨by rw [seenP_next] at h1; exact h1, h2⟩)
namespace fitsOthers
set_option maxRecDepth 100000 in
theorem lifted (os : Os) (started : os.Started) (H : Type) (enc : TypeId × Value → H) :
    ReturnsInHanded {} Tryd.checked os 11 .any (fun w args => (Rows.fitsOthersSpec.pre enc Tryd.prog Tryd.f11 [] false w args ∧ laidMetH Tryd.prog laid2 w) ∧ sizedMet enc Tryd.prog Tryd.f11 (OpenSpec.ofChange Rows.fitsOthersSpec) false w args)
      (Rows.fitsOthersSpec.post enc Tryd.prog Tryd.f11 false true false false) := by
  refine returnsInHanded_of_change_and (C := Tryd.checked) (X := fun w _ => laidMetH Tryd.prog laid2 w) (fun _ _ _ hh h => h.of_heap hh) ownNone started (by kernel_rfl) Tryd.func11
    (ChangeSpec.witness_shaped (enc := enc) (C := Tryd.checked) (os := os) (X := fun w _ => laidMetH Tryd.prog laid2 w) false (World.doorLaid Tryd.prog 400 os) #[.slice none 0 0, .agg #[.slice none 0 0, .int .i64 0], .agg #[.slice none 0 0, .int .i64 0]] 8 rfl (World.shaped_of_RefB (by kernel_rfl) (by kernel_rfl)) (by kernel_rfl) (by kernel_rfl) (by kernel_rfl) (door_met os _)) ?_
  intro W base args ds gs before hval0 hW _ _ hL _
  have hTab := of_laid hL
  have hval : ∀ (j : Nat) t v, Tryd.f11.params[j]? = some t → args[j]? = some v → Value.okWide Tryd.prog W .any base t v := hval0
  have hW' := hW
  obtain ⟨p, q, hA0, hV, rfl, hfz, hnd⟩ := hW
  have hA : DataW.TrodAll enc Tryd.prog W 0 (fun _ => true) true Tryd.f11.params.toList args.toList ds p := hA0
  rw [Tryd.params11] at hA hval
  obtain ⟨v0, vs0, d0, ds0, p0, q0, hargs, rfl, rfl, h0, r0⟩ := trodAll_cons hA
  obtain ⟨v1, vs1, d1, ds1, p1, q1, rfl, rfl, rfl, h1, r1⟩ := trodAll_cons r0
  obtain ⟨v2, vs2, d2, ds2, p2, q2, rfl, rfl, rfl, h2, r2⟩ := trodAll_cons r1
  obtain ⟨rfl, rfl, rfl⟩ := trodAll_nil r2
  obtain rfl : args = #[v0, v1, v2] := by cases args; simp_all
  obtain ⟨rfl, rfl⟩ := trodVars_none hV
  have k0 := h0
  have lt0 : ∀ x ∈ p0, x.block < W.heap.size := by obtain ⟨m, hm⟩ := k0; exact DataW.trod_lt m _ _ _ hm
  have k1 := h1
  have lt1 : ∀ x ∈ p1, x.block < W.heap.size := by obtain ⟨m, hm⟩ := k1; exact DataW.trod_lt m _ _ _ hm
  have k2 := h2
  have lt2 : ∀ x ∈ p2, x.block < W.heap.size := by obtain ⟨m, hm⟩ := k2; exact DataW.trod_lt m _ _ _ hm
  obtain ⟨L0, a0, _, _⟩ := Ds.open_arg2 (e2 := 23) (e := 3) (k := .i64) (by kernel_rfl) (by kernel_rfl) Tryd.underlying3 cells3 cells23 (hval 0 _ v0 rfl rfl) h0
  obtain ⟨c1, n1, z1, rfl, a1, _⟩ := open_parts (hval 1 25 v1 rfl rfl) h1
  obtain ⟨c2, n2, z2, rfl, a2, _⟩ := open_parts (hval 2 25 v2 rfl rfl) h2
  clear hA0 hval0
  refine (fitsOthers_calls hTab a0 a1 a2).mono fun e W' ⟨he, bel⟩ => ?_
  subst he
  exact ⟨_, rfl, _, _, _, [], _, [], hW', trodAll_mk1 (shut_bool Tryd.underlying4 _), (trodAll_cons_mk (Below.trod laidOut (by kernel_rfl) (of_decide_eq_true (by kernel_rfl)) k0 bel lt0) (trodAll_cons_mk (Below.trod laidOut (by kernel_rfl) (of_decide_eq_true (by kernel_rfl)) k1 bel lt1) (trodAll_cons_mk (Below.trod laidOut (by kernel_rfl) (of_decide_eq_true (by kernel_rfl)) k2 bel lt2) trodAll_mk0))), rfl, bel.frame _, fun h => by cases h⟩
theorem over : Rows.fitsOthersRow.holds Tryd.pinned (OpenSpec.ofChange Rows.fitsOthersSpec) :=
  OpenClaim.holds_of_wide 11 Tryd.f11 rfl rfl rfl rfl rfl rfl rfl ⟨rfl, rfl, rfl, rfl, rfl⟩ rfl rfl rfl rfl rfl (by kernel_rfl) Tryd.func11 (by kernel_rfl)
    (of_decide_eq_true (by kernel_rfl)) (by unfold Func.isWrapper; first | (rw [if_pos (by decide +kernel)]; kernel_rfl) | (rw [if_neg (by decide +kernel)]; exact ⟨rfl, rfl⟩))
    (fun os started H enc _ => lifted os started H enc)
/-- The statement: the tied card. -/
theorem proved : Rows.FitsOthersCardSaid :=
  Claim7.holds_tied_plain_at .later [] [.data, .data] true (true, "75be6b8a0160bc6dc50e80f3e2eb776b556dbdc2a1f63662a9c8369ed8ec9dbf") false
    over (fun _ h => by cases h) (by kernel_rfl) (fun _ h => by cases h) fitsOthers_row_tie rfl ⟨rfl, rfl⟩ (by kernel_rfl) rfl
    (fun f fn hf hfn => by
      obtain rfl : f = 11 := Option.some.inj ((show Tryd.prog.funcNamed "cloche/clochelaw06.FitsOthers" = some 11 by kernel_rfl).symm.trans hf) |>.symm
      obtain rfl : fn = Tryd.f11 := (Option.some.inj (Tryd.func11.symm.trans hfn)).symm
      exact ⟨by kernel_rfl, fun j t ht => by
        rw [Tryd.params11] at ht
        have hm : t ∈ [22, 25, 25] := by simpa using Array.mem_of_getElem? ht
        have hall : ([22, 25, 25].all fun u => !Tryd.prog.wantsStandIn u) = true := by kernel_rfl
        exact (show Tryd.prog.wantsStandIn t = false by simpa using List.all_eq_true.1 hall t hm)⟩)
    (by kernel_rfl)
#print axioms proved
end fitsOthers
end Go.Proofs.YtngmaccaldhjcaaDoor
