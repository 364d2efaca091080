import Derived.Test.YtgnnhenbmnopaaaK3
import Derived.Test.YtgnnhenbmnopaaaK1
import Derived.Test.YtgnnhenbmnopaaaDtH
import Derived.Test.YtgnnhenbmnopaaaDsZd
import Derived.Laws.Externs
import Derived.KernelRfl
set_option linter.all false
set_option linter.unusedSimpArgs false
set_option linter.unnecessarySimpa false
set_option linter.unusedVariables false
set_option linter.unusedSectionVars false
set_option maxRecDepth 100000
set_option maxHeartbeats 4000000
set_option linter.unusedSimpArgs false
set_option linter.unusedVariables false
namespace Go.Proofs.Ytgnnhenbmnopaaa
open Go.Ds Go.Aw Go.RowKit
/-- Cells as pairs of numbers. -/
def pairsV : List Value → Option (List (Nat × Nat))
  | [] => some []
  | v :: l => match v with
    | .int .i64 (.ofNat a) => match l with
      | [] => none
      | u :: l => match u with
        | .int .i64 (.ofNat b) => (pairsV l).map ((a, b) :: ·)
        | _ => none
    | _ => none
theorem pairsV_some : ∀ {n : Nat} {vs : List Value} {L : List (Nat × Nat)}, vs.length ≤ n → pairsV vs = some L → vs = cellsP L := by
  intro n
  induction n with
  | zero =>
    intro vs L hn h
    cases vs with
    | nil => unfold pairsV at h; cases h; rfl
    | cons v l => simp at hn
  | succ n ih =>
    intro vs L hn h
    match vs, h with
    | [], h => unfold pairsV at h; cases h; rfl
    | v :: l, h =>
      unfold pairsV at h
      split at h
      · cases l with
        | nil => cases h
        | cons u l =>
          dsimp only at h
          split at h
          · rw [Option.map_eq_some_iff] at h
            obtain ⟨M, h1, rfl⟩ := h
            have := ih (by simp at hn; omega) h1
            rw [this]; rfl
          · cases h
      · cases h
theorem cellsP_get : ∀ (L : List (Nat × Nat)) (i : Nat) (h : i < L.length), (cellsP L)[i * 2]? = some (.int .i64 L[i].1) ∧ (cellsP L)[i * 2 + 1]? = some (.int .i64 L[i].2)
  | [], i, h => by simp at h
  | p :: L, 0, h => by simp [cellsP]
  | p :: L, i + 1, h => by
    have := cellsP_get L i (by simpa using h)
    have e : cellsP (p :: L) = .int .i64 p.1 :: .int .i64 p.2 :: cellsP L := by simp [cellsP]
    rw [e, show (i + 1) * 2 = i * 2 + 1 + 1 by omega]
    simpa using this
theorem cellsP_plain (L : List (Nat × Nat)) : ∀ v ∈ cellsP L, ∃ n : Nat, v = .int .i64 n := by
  intro v hv
  simp only [cellsP, List.mem_flatMap] at hv
  obtain ⟨p, _, hv⟩ := hv
  simp at hv
  rcases hv with e | e <;> exact ⟨_, e⟩
theorem runs_nil {w : List Nat} (h : runs w = []) : w = [] := by
  cases w with
  | nil => rfl
  | cons x l => exact absurd h (runsFrom_ne 1 x l)
/-- The pairs that a slice holds. -/
def rowP (h : AH) (x : Value) : Option (List (Nat × Nat)) :=
  match x with
  | .slice a n c => match n with
    | 0 => some []
    | n + 1 => match a with
      | some ⟨j, off, none⟩ => match readN h ⟨j, off, none⟩ ((n + 1) * 2) with
        | some vs => pairsV vs
        | none => none
      | _ => none
  | _ => none
def smallP (L : List (Nat × Nat)) : Bool := Nat.ble L.length 1000000 && L.all fun p => Nat.ble p.1 1000 && Nat.ble p.2 9
def X1 : Caller := fun f args h =>
  bif Nat.beq f 45 then (match args with
    | [.string s] => bif allD s && Nat.blt s.size 1099511627776 then some (Try.saidV (digs s), h) else none
    | _ => none)
  else bif Nat.beq f 43 then (match args with
    | [x] => match rowP h x with
      | some L => bif smallP L then some (.string (Try.txt (spell L)), h) else none
      | none => none
    | _ => none)
  else bif Nat.beq f 23 then (match args with
    | [.string s] => some (Try.longV s, h)
    | _ => none)
  else none
theorem upon_calls {P : Program} {f : FuncId} {fn : Func} (hf : P.funcs[f]? = some fn) (hnm : (fn.name == "runtime.NumGoroutine") = false) (hbd : fn.body.isNone = false) {args' : Array Value} {w : World} {R : Ending → World → Prop} (h : Calls P f args' w R)
    {o : Oper} {a : Act} {K : Act → World → Prop} {Q : Exit → Act → World → Prop} (hK : ∀ e w', R e w' → ∃ v, e = .returned v ∧ K (a.put o.dst v) w') : o.upon P a K Q ((callFunc f args').run P w) := by
  have hn' : ¬ fn.name = "runtime.NumGoroutine" := by simpa using hnm
  have hb' : ¬ fn.body = none := by intro e; rw [e] at hbd; cases hbd
  have hcall : (callFunc f args').run P w = .ok (.enter f args') w := by simp [callFunc, hf, hn', hb']
  rw [hcall, Oper.upon_enter]
  refine Calls.mono h fun e w' hr => ?_
  obtain ⟨v, rfl, hk⟩ := hK e w' hr
  exact hk
variable [Inhabited Bound]
theorem one_arg {φ : Phi} {x : Value} {args' : Array Value} (hl : LRel φ [x] args'.toList) : ∃ x', args' = #[x'] ∧ VRel φ x x' := by
  have h3 := hl.1
  match hq : args'.toList, h3 with
  | [y], _ =>
    rw [hq] at hl
    exact ⟨y, by rw [← Array.toArray_toList (xs := args'), hq], hl.2 0 x y rfl rfl⟩
theorem str_arg {φ : Phi} {s : ByteArray} {args' : Array Value} (hl : LRel φ [.string s] args'.toList) : args' = #[.string s] := by
  obtain ⟨x', rfl, h⟩ := one_arg hl
  cases h
  rfl
theorem X1_sound (B : Nat) : CallSound Try.prog B X1 := by
  intro f args h v h' hr φ w args' E hl o a K Q hK
  unfold X1 at hr
  cases c45 : Nat.beq f 45 with
  | true =>
    rw [c45] at hr
    simp only [cond_true] at hr
    have hf := beq_eq c45
    subst hf
    split at hr
    · rename_i s
      obtain ⟨h1, hr⟩ := bif_some hr
      simp only [Option.some.injEq, Prod.mk.injEq] at hr
      obtain ⟨rfl, rfl⟩ := hr
      simp only [Bool.and_eq_true] at h1
      rw [str_arg hl]
      have hc := Try.said_in (digs s) (digs_dig h1.1) (by rw [digs_len]; exact blt_lt h1.2) w
      rw [Try.txt_digs h1.1] at hc
      refine upon_calls Try.func45 (by kernel_rfl) (by kernel_rfl) hc fun e w' ⟨g1, g2⟩ => ⟨_, g1, ?_⟩
      obtain ⟨E1, X⟩ := E.grown g2
      exact hK φ _ w' (VRel.plainC rfl) E1 X
    · cases hr
  | false =>
    rw [c45] at hr
    simp only [cond_false] at hr
    cases c43 : Nat.beq f 43 with
    | true =>
      rw [c43] at hr
      simp only [cond_true] at hr
      have hf := beq_eq c43
      subst hf
      split at hr
      · rename_i x
        obtain ⟨x', rfl, hx⟩ := one_arg hl
        split at hr
        · rename_i L hL
          obtain ⟨h1, hr⟩ := bif_some hr
          simp only [Option.some.injEq, Prod.mk.injEq] at hr
          obtain ⟨rfl, rfl⟩ := hr
          have fin : Calls Try.prog 43 #[x'] w (fun e w' => e = .returned (.string (Try.txt (spell L))) ∧ Below w.heap.size w w') → o.upon Try.prog a K Q ((callFunc 43 #[x']).run Try.prog w) := fun hc => by
            refine upon_calls Try.func43 (by kernel_rfl) (by kernel_rfl) hc fun e w' ⟨g1, g2⟩ => ⟨_, g1, ?_⟩
            obtain ⟨E1, X⟩ := E.grown g2
            exact hK φ _ w' (VRel.plainC rfl) E1 X
          refine fin ?_
          unfold rowP at hL
          split at hL
          · rename_i n c
            split at hL
            · simp only [Option.some.injEq] at hL
              subst hL
              have : ∃ p c, x' = .slice p 0 c := by cases hx <;> exact ⟨_, _, rfl⟩
              obtain ⟨p, c, rfl⟩ := this
              exact Try.written_nil p c w
            · rename_i n
              split at hL
              · rename_i j off
                split at hL
                · rename_i vs hvs
                  have hex : ∃ e c', φ j = some e ∧ x' = .slice (some ⟨e.blk, off, none⟩) (n + 1) c' := by
                    cases hx with
                    | slc a e off l c hφ hc hl' => exact ⟨e, _, hφ, rfl⟩
                    | sopen a e off off' l c sz hφ hlc hr =>
                      rcases hr with ⟨h1, _⟩ | ⟨h1, _⟩
                      · cases h1
                      · subst h1; exact ⟨e, _, hφ, rfl⟩
                  obtain ⟨e, c', he, rfl⟩ := hex
                  obtain ⟨l', r1, r2, r3⟩ := readN_rel E he hvs
                  have hvL := pairsV_some (Nat.le_refl _) hL
                  subst hvL
                  have hl' : l' = cellsP L := plainL_inv r1 (by
                    simp only [cellsP, List.all_flatMap]
                    simp [plainV])
                  subst hl'
                  rw [cellsP_len] at r2
                  have hLn : L.length = n + 1 := by omega
                  unfold smallP at h1
                  simp only [Bool.and_eq_true, List.all_eq_true] at h1
                  rw [← hLn]
                  refine Try.written_in L (fun p hp => ⟨ble_le (h1.2 p hp).1, ble_le (h1.2 p hp).2⟩) (ble_le h1.1) e.blk off c' w fun i hi => ?_
                  obtain ⟨q1, q2⟩ := cellsP_get L i hi
                  exact ⟨r3 _ _ q1, r3 _ _ q2⟩
                · cases hL
              · cases hL
          · cases hL
        · cases hr
      · cases hr
    | false =>
      rw [c43] at hr
      simp only [cond_false] at hr
      cases c23 : Nat.beq f 23 with
      | true =>
        rw [c23] at hr
        simp only [cond_true] at hr
        have hf := beq_eq c23
        subst hf
        split at hr
        · rename_i s
          simp only [Option.some.injEq, Prod.mk.injEq] at hr
          obtain ⟨rfl, rfl⟩ := hr
          rw [str_arg hl]
          refine upon_calls Try.func23 (by kernel_rfl) (by kernel_rfl) (Try.longest_in s w) fun e w' ⟨g1, g2⟩ => ⟨_, g1, ?_⟩
          obtain ⟨E1, X⟩ := E.grown g2
          exact hK φ _ w' (VRel.plainC (by unfold Try.longV; split <;> rfl)) E1 X
        · cases hr
      | false =>
        rw [c23] at hr
        cases hr
theorem X1_pres : CallPres X1 := by
  intro f args h v h' hr hl
  unfold X1 at hr
  cases c45 : Nat.beq f 45 with
  | true =>
    rw [c45] at hr
    simp only [cond_true] at hr
    split at hr
    · obtain ⟨_, hr⟩ := bif_some hr
      simp only [Option.some.injEq, Prod.mk.injEq] at hr
      obtain ⟨_, rfl⟩ := hr
      exact Pres.refl hl
    · cases hr
  | false =>
    rw [c45] at hr
    simp only [cond_false] at hr
    cases c43 : Nat.beq f 43 with
    | true =>
      rw [c43] at hr
      simp only [cond_true] at hr
      split at hr
      · split at hr
        · obtain ⟨_, hr⟩ := bif_some hr
          simp only [Option.some.injEq, Prod.mk.injEq] at hr
          obtain ⟨_, rfl⟩ := hr
          exact Pres.refl hl
        · cases hr
      · cases hr
    | false =>
      rw [c43] at hr
      simp only [cond_false] at hr
      cases c23 : Nat.beq f 23 with
      | true =>
        rw [c23] at hr
        simp only [cond_true] at hr
        split at hr
        · simp only [Option.some.injEq, Prod.mk.injEq] at hr
          obtain ⟨_, rfl⟩ := hr
          exact Pres.refl hl
        · cases hr
      | false =>
        rw [c23] at hr
        cases hr
theorem X1_orac : Orac Try.prog X1 := ⟨fun B => X1_sound B, X1_pres⟩
end Go.Proofs.Ytgnnhenbmnopaaa
namespace Go.Proofs.Ytgnnhenbmnopaaa
open Go.Ds
@[reducible] def bigRoom : Inhabited Bound := ⟨⟨1000000000⟩⟩
theorem alive_ev : isTrue (@evK bigRoom Try.prog X1 100000 50 17 [] AH.zero) = true := by kernel_rfl
set_option maxRecDepth 100000 in
theorem alive_calls (w : World) : Calls Try.prog 17 #[] w fun e w' => e = .returned (.bool true) ∧ RowKit.Below w.heap.size w w' :=
  @call_of_true bigRoom Try.prog X1 (@X1_orac bigRoom) mixedO 100000 49 17 rfl alive_ev w
end Go.Proofs.Ytgnnhenbmnopaaa
set_option maxRecDepth 100000
set_option maxHeartbeats 4000000
set_option linter.unusedSimpArgs false
set_option linter.unusedVariables false
namespace Go.Proofs.Ytgnnhenbmnopaaa
open Go.Ds Go.Aw
structure Xok (X : Caller) : Prop extends Xfr X where
  alive : ∀ g : GH, Rets Try.prog X 17 [] g (fun v g' lo => g.next ≤ lo ∧ v = .bool true ∧ g' = g)
  said : ∀ (ds : List Nat) (hd : Dig ds) (hl : ds.length < 1099511627776) (g : GH), Rets Try.prog X 45 [.string (Try.txt ds)] g (fun v g' lo => g.next ≤ lo ∧ v = Try.saidV ds ∧ g' = g)
  long : ∀ (s : ByteArray) (g : GH), Rets Try.prog X 23 [.string s] g (fun v g' lo => g.next ≤ lo ∧ v = Try.longV s ∧ g' = g)
  written : ∀ (L : List (Nat × Nat)) (x : Value) (g : GH), SlQ g x 2 L.length (cellsP L) → smallP L = true → Rets Try.prog X 43 [x] g (fun v g' lo => g.next ≤ lo ∧ v = .string (Try.txt (spell L)) ∧ g' = g)
/-- The call that is known: the closed example. -/
def knownK (f : FuncId) (args : List Value) : Option Value :=
  if f = 17 then (match args with
    | [] => some (.bool true)
    | _ => none)
  else none
theorem knownK_sound : ∀ f args v, knownK f args = some v → Known Try.prog f args v := by
  have inst : Inhabited Bound := ⟨⟨0⟩⟩
  intro f args v h
  unfold knownK at h
  split at h
  · rename_i hf
    subst hf
    split at h
    · simp only [Option.some.injEq] at h
      subst h
      exact Known.of_calls Try.func17 (by kernel_rfl) (by kernel_rfl) alive_calls
    · cases h
  · cases h
def X0 : Caller := fun f a h => match knownX knownK f a h with
  | some r => some r
  | none => X1 f a h
theorem X0_orac (i : Inhabited Bound) : @Orac i Try.prog X0 where
  sound := fun B f args h v h' hr => by
    unfold X0 at hr
    split at hr
    · rename_i r e
      exact (@knownX_orac i Try.prog knownK knownK_sound).sound B f args h v h' (e.trans hr)
    · exact X1_orac.sound B f args h v h' hr
  pres := fun f args h v h' hr => by
    unfold X0 at hr
    split at hr
    · rename_i r e
      exact (@knownX_orac i Try.prog knownK knownK_sound).pres f args h v h' (e.trans hr)
    · exact (@X1_orac i).pres f args h v h' hr
theorem known_free {f : FuncId} (h2 : f ≠ 17) (l : List Value) (h : AH) : knownX knownK f l h = none := by
  unfold knownX knownK
  rw [if_neg h2]
  cases l.all plainV <;> rfl
theorem X0_free {f : FuncId} (hf : isKn f = false) (l : List Value) (h : AH) : X0 f l h = none := by
  unfold isKn at hf
  simp only [Bool.or_eq_false_iff] at hf
  have h17 : f ≠ 17 := by
    intro e
    subst e
    cases hf.1.1.1
  unfold X0
  rw [known_free h17]
  unfold X1
  rw [hf.1.1.2, hf.2, hf.1.2]
  rfl
theorem Rets.orac {P : Program} {X : Caller} {f : FuncId} {args : List Value} {g : GH} {v : Value} {Q : Value → GH → Nat → Prop} (h : X f args (g.at g.next) = some (v, g.at g.next)) (hq : Q v g g.next) : Rets P X f args g Q := by
  unfold Rets
  intro _
  refine ⟨v, g, g.next, ⟨bnd 0, 1, 0, ?_⟩, ⟨Nat.le_refl _, rfl, Nat.le_refl _, fun _ _ _ => rfl, fun _ _ _ => rfl⟩, hq⟩
  simp only [evF, h]
theorem X0_is {f : FuncId} (h2 : f ≠ 17) (l : List Value) (h : AH) : X0 f l h = X1 f l h := by
  unfold X0
  rw [known_free h2]
theorem txt_allD {ds : List Nat} (h : Dig ds) : allD (Try.txt ds) = true := by
  rw [allD_get]
  intro i hi
  have hi' : i < ds.length := by rwa [Try.txt_size] at hi
  rw [Try.txt_get h i hi]
  have := h (ds[i]) (List.getElem_mem hi')
  omega
theorem digs_txt {ds : List Nat} (h : Dig ds) : digs (Try.txt ds) = ds := by
  unfold digs
  show ((ds.map fun d => UInt8.ofNat (48 + d)).toArray.toList.map fun b => b.toNat - 48) = ds
  rw [List.map_map]
  conv => rhs; rw [← List.map_id ds]
  refine List.map_congr_left fun d hd => ?_
  have := h d hd
  show (UInt8.ofNat (48 + d)).toNat - 48 = d
  have e : (48 + d) % 256 = 48 + d := Nat.mod_eq_of_lt (by omega)
  simp [UInt8.toNat_ofNat', e]
theorem pairsV_cells : ∀ (L : List (Nat × Nat)), pairsV (cellsP L) = some L
  | [] => rfl
  | p :: L => by
    have e : cellsP (p :: L) = .int .i64 p.1 :: .int .i64 p.2 :: cellsP L := by simp [cellsP]
    rw [e]
    show (pairsV (cellsP L)).map ((p.1, p.2) :: ·) = _
    rw [pairsV_cells L]; rfl
theorem X0_ok : Xok X0 where
  pres := fun i => (X0_orac i).pres
  free := fun f hf l h => X0_free hf l h
  alive := fun g => Rets.orac rfl ⟨Nat.le_refl _, rfl, rfl⟩
  said := fun ds hd hl g => by
    refine Rets.orac ?_ ⟨Nat.le_refl _, rfl, rfl⟩
    rw [X0_is (by decide)]
    show (bif allD (Try.txt ds) && Nat.blt (Try.txt ds).size 1099511627776 then some (Try.saidV (digs (Try.txt ds)), g.at g.next) else none) = _
    rw [txt_allD hd, Try.txt_size, show Nat.blt ds.length 1099511627776 = true from Nat.blt_eq ▸ hl, digs_txt hd]
    rfl
  long := fun s g => Rets.orac (by rw [X0_is (by decide)]; rfl) ⟨Nat.le_refl _, rfl, rfl⟩
  written := fun L x g hs hL => by
    refine Rets.orac ?_ ⟨Nat.le_refl _, rfl, rfl⟩
    rw [X0_is (by decide)]
    have hr : rowP (g.at g.next) x = some L := by
      rcases hs with ⟨h0, ⟨h1, p, c, rfl⟩ | ⟨j, off, cap, ob, rfl, h2, h3, h4, h5, h6⟩⟩
      · have := List.eq_nil_of_length_eq_zero h1
        subst this
        rfl
      · cases hl : L.length with
        | zero =>
          have := List.eq_nil_of_length_eq_zero hl
          subst this
          rfl
        | succ n =>
          have := SlR.readN (j := j) (off := off) (cap := cap) (lo := g.next) (vs := cellsP L) h3 h4 h5 h6 (i := 0) (n := (n + 1) * 2) (by rw [h0, hl]; omega)
          rw [Nat.add_zero, List.drop_zero, List.take_of_length_le (by rw [h0, hl]; omega)] at this
          unfold rowP
          simp only [this]
          exact pairsV_cells L
    show (match rowP (g.at g.next) x with
      | some L => bif smallP L then some ((Value.string (Try.txt (spell L)), g.at g.next) : Value × AH) else none
      | none => none) = _
    rw [hr]
    simp only [hL, cond_true]
end Go.Proofs.Ytgnnhenbmnopaaa
