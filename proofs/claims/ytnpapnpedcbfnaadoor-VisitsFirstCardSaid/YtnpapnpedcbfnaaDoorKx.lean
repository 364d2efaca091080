import Derived.Test.YtnpapnpedcbfnaaDoorKr
import Derived.Test.YtnpapnpedcbfnaaDoorJ1
set_option linter.all false
set_option linter.unusedSimpArgs false
set_option linter.unnecessarySimpa false
set_option linter.unusedVariables false
set_option linter.unusedSectionVars false
set_option maxRecDepth 100000
set_option maxHeartbeats 4000000
set_option linter.unusedSimpArgs false
set_option linter.unusedVariables false
namespace Go.Proofs.YtnpapnpedcbfnaaDoor
open Go.Ds Go.Vs
/-! ## Calls that read a row -/
def intsOf : List Value → Option (List Int)
  | [] => some []
  | v :: l => match v with
    | .int .i64 n => (intsOf l).map (n :: ·)
    | _ => none
theorem intsOf_ints : ∀ L : List Int, intsOf (ints L) = some L
  | [] => rfl
  | n :: L => by
    show (intsOf (ints L)).map (n :: ·) = _
    rw [intsOf_ints L]; rfl
theorem ints_of : ∀ {vs : List Value} {L : List Int}, intsOf vs = some L → vs = ints L
  | [], L, h => by cases h; rfl
  | v :: vs, L, h => by
    unfold intsOf at h
    split at h
    · rename_i n
      obtain ⟨L', h1, rfl⟩ := Option.map_eq_some_iff.1 h
      rw [ints_of h1]; rfl
    · cases h
def rdI (h : AH) (s : Value) : Option (List Int) :=
  match s with
  | .slice (some ⟨j, off, none⟩) (n + 1) _ => bif Nat.blt j h.next && (Nat.beq (h.get j).kind 1 || Nat.beq (h.get j).kind 4) && Nat.ble (n + 1) 40 then
      match intsOf (((h.get j).cells.drop off).take (n + 1)) with
      | some L => bif Nat.beq L.length (n + 1) then some L else none
      | none => none
    else none
  | _ => none
theorem rdI_in [Inhabited Bound] {φ : Phi} {h : AH} {B : Nat} {w : World} {s s' : Value} {L : List Int} (E : Emb φ h B w) (hv : VRel φ s s') (hr : rdI h s = some L) : InW w s' L ∧ L.length ≤ 40 := by
  unfold rdI at hr
  split at hr
  case h_2 => cases hr
  rename_i j off n cap
  obtain ⟨h1, h2⟩ := bif_some hr
  split at h2
  case h_2 => cases h2
  rename_i L' hL'
  obtain ⟨h3, h4⟩ := bif_some h2
  cases h4
  have hlen : L.length = n + 1 := Nat.eq_of_beq_eq_true h3
  simp only [Bool.and_eq_true, Bool.or_eq_true] at h1
  obtain ⟨⟨h5, h6⟩, h7⟩ := h1
  have hj : j < h.next := by rw [blt_d] at h5; simpa using h5
  have h7 : n + 1 ≤ 40 := Nat.le_of_ble_eq_true h7
  have hcells := ints_of hL'
  have hcell : ∀ i, i < n + 1 → (h.get j).cells[off + i]? = some (.int .i64 (L.getD i 0)) := fun i hi => by
    have h8 := ints_get (D := L) (i := i) (by omega)
    rw [← hcells, List.getElem?_take, if_pos hi, List.getElem?_drop] at h8
    exact h8
  have hk0 : (h.get j).kind ≠ 0 := by
    rcases h6 with h6 | h6 <;> rw [Nat.eq_of_beq_eq_true h6] <;> decide
  obtain ⟨e, he, hob⟩ := E.obj j hj hk0
  have hc : ∃ c t fr, w.heap[e.blk]? = some (.cells c t fr) ∧ ∀ i, i < n + 1 → c[off + i]? = some (.int .i64 (L.getD i 0)) := by
    have fin : ∀ {v' : Value} {i : Nat}, VRel φ (.int .i64 (L.getD i 0)) v' → v' = .int .i64 (L.getD i 0) := fun hv => by cases hv; rfl
    rcases hob with ⟨_, hc⟩ | ⟨hk, _⟩ | ⟨hk, _⟩ | ⟨_, _, c, t, fr, hb, hc⟩
    · obtain ⟨c, fr, hb, _, _, _, hc⟩ := hc.ex
      refine ⟨c, _, fr, hb, fun i hi => ?_⟩
      obtain ⟨v', h8, h9⟩ := hc _ _ (hcell i hi)
      rw [h8, fin h9]
    · exfalso; rcases h6 with h6 | h6 <;> have := Nat.eq_of_beq_eq_true h6 <;> omega
    · exfalso; rcases h6 with h6 | h6 <;> have := Nat.eq_of_beq_eq_true h6 <;> omega
    · refine ⟨c, t, fr, hb, fun i hi => ?_⟩
      rcases hc _ _ (hcell i hi) with h8 | ⟨v', h8, h9⟩
      · cases h8
      · rw [h8, fin h9]
  obtain ⟨c, t, fr, hb, hc⟩ := hc
  have hne : L ≠ [] := by rintro rfl; simp at hlen
  have key : ∀ c2 : Nat, n + 1 ≤ c2 → s' = .slice (some ⟨e.blk, off, none⟩) (n + 1) c2 → InW w s' L := fun c2 hc2 hs' =>
    ⟨hne, e.blk, off, c2, by rw [hs', hlen], by omega, fun i hi => by
      unfold World.cell?
      rw [hb]
      simpa using hc i (by omega)⟩
  refine ⟨?_, by omega⟩
  obtain ⟨m, hm⟩ : ∃ m, m = n + 1 := ⟨_, rfl⟩
  obtain ⟨q, hq⟩ : ∃ q : Value, q = .slice (some ⟨j, off, none⟩) (n + 1) cap := ⟨_, rfl⟩
  rw [← hq] at hv
  cases hv with
  | slc a e2 off2 l c2 h hc2 hl2 =>
    cases hq
    rw [he] at h
    cases h
    exact key _ hl2 rfl
  | sopen a e2 off2 off' l c2 sz h hl2 hr2 =>
    cases hq
    rw [he] at h
    cases h
    rcases hr2 with ⟨h0, _⟩ | ⟨rfl, _⟩
    · cases h0
    · exact key _ hl2 rfl
  | _ => cases hq
theorem rdI_of {g : GH} {s : Value} {L : List Int} (hne : L ≠ []) (hl : L.length ≤ 40) (hs : SlR g s (ints L)) (lo : Nat) : rdI (g.at lo) s = some L := by
  rcases hs with ⟨h1, h2⟩ | ⟨j, off, cap, ob, h1, h2, h3, h4, h5, h6⟩
  · exact absurd (by simpa [ints] using h2) hne
  · obtain ⟨n, hn⟩ : ∃ n, L.length = n + 1 := ⟨L.length - 1, by have := List.length_pos_iff.2 hne; omega⟩
    have e1 : (g.at lo).get j = ob := by rw [GH.get_at]; exact h3
    have e2 : Nat.blt j (g.at lo).next = true := Nat.blt_eq ▸ h2
    have e3 : (Nat.beq ob.kind 1 || Nat.beq ob.kind 4) = true := by
      rcases h4 with h | ⟨h, _⟩ <;> rw [h] <;> rfl
    have e4 : Nat.ble (n + 1) 40 = true := by rw [ble_d, decide_eq_true (by omega)]
    rw [ints_len, hn] at h1 h6
    subst h1
    unfold rdI
    simp only [e1, e2, e3, e4, Bool.and_self, cond_true, h6, intsOf_ints]
    rw [show Nat.beq L.length (n + 1) = true by rw [hn]; simp]
    rfl
/-! ## The known calls -/
def lowB (x : Nat) : Nat := match (List.range 10).find? (fun k => bitB x k) with
  | some k => k
  | none => 0
theorem lowB_eq {x : Nat} (h1 : 1 ≤ x) (h2 : x < 1024) : lowB x = low x := by
  unfold lowB
  cases h : (List.range 10).find? (fun k => bitB x k) with
  | some k =>
    have := List.find?_some h
    exact (low_of this).symm
  | none =>
    have h3 := List.all_eq_true.1 tz_all x (List.mem_range.2 h2)
    have h0 : Nat.beq x 0 = false := by
      cases h : Nat.beq x 0 with
      | false => rfl
      | true => have := Nat.eq_of_beq_eq_true h; omega
    rw [h0, Bool.false_or, List.any_eq_true] at h3
    obtain ⟨k, hk, h4⟩ := h3
    rw [Bool.and_eq_true] at h4
    exact absurd h4.1 (List.find?_eq_none.1 h k hk)
def knK (f : FuncId) (args : List Value) (h : AH) : Option Value :=
  if f = 67 then (match args with
    | [.int .u64 (.ofNat x)] => bif Nat.ble 1 x && Nat.blt x 1024 && (Nat.blt 0 h.next && tabOk (h.get 0)) then some (.int .i64 (.ofNat (lowB x))) else none
    | _ => none)
  else if f = 29 then (match args with
    | [s, .int .i64 v, .int .i64 l] => (rdI h s).map fun L => winsV L v l
    | _ => none)
  else if f = 31 then (match args with
    | [s, .int .i64 v, .int .i64 l] => (rdI h s).map fun L => mvV L v l
    | _ => none)
  else if f = 27 then (match args with
    | [s] => (rdI h s).map stV
    | _ => none)
  else none
theorem tabOk_world [Inhabited Bound] {φ : Phi} {h : AH} {B : Nat} {w : World} (E : Emb φ h B w) (h0 : 0 < h.next) (ht : tabOk (h.get 0) = true) : TabW w := by
  generalize hob : h.get 0 = ob at ht
  obtain ⟨kd, cells, el, fam, sl, es, cl, st, po⟩ := ob
  unfold tabOk at ht
  simp only [Bool.and_eq_true] at ht
  obtain ⟨⟨hk, hp⟩, ht⟩ := ht
  intro k hk10
  have hc := List.all_eq_true.1 ht k (List.mem_range.2 hk10)
  split at hc
  · rename_i v hv
    have k4 : (h.get 0).kind = 4 := by rw [hob]; exact Nat.eq_of_beq_eq_true hk
    have p2 : (h.get 0).pos = 1 + 1 := by rw [hob]; exact Nat.eq_of_beq_eq_true hp
    have hu : v = .int .u8 k := by
      unfold isU8 at hc
      split at hc
      · rw [Nat.eq_of_beq_eq_true hc]; rfl
      · cases hc
    subst hu
    exact E.tab h0 k4 p2 (k := tzIx k) (by rw [hob]; exact hv) rfl rfl
  · cases hc
theorem lrel3 [Inhabited Bound] {φ : Phi} {s : Value} {v l : Int} {args' : Array Value} (h : LRel φ [s, .int .i64 v, .int .i64 l] args'.toList) : ∃ s', VRel φ s s' ∧ args' = #[s', .int .i64 v, .int .i64 l] := by
  obtain ⟨s', l1, e1, h1, h2⟩ := h.cons_inv
  obtain ⟨v', l2, e2, h3, h4⟩ := h2.cons_inv
  obtain ⟨l', l3, e3, h5, h6⟩ := h4.cons_inv
  have e4 := h6.nil_inv
  have e5 := plainC_inv h3 rfl
  have e6 := plainC_inv h5 rfl
  refine ⟨s', h1, ?_⟩
  rw [e4] at e3
  rw [e3] at e2
  rw [e2, e5, e6] at e1
  cases args'
  simpa using e1
theorem lrel1 [Inhabited Bound] {φ : Phi} {s : Value} {args' : Array Value} (h : LRel φ [s] args'.toList) : ∃ s', VRel φ s s' ∧ args' = #[s'] := by
  obtain ⟨s', l1, e1, h1, h2⟩ := h.cons_inv
  rw [h2.nil_inv] at e1
  refine ⟨s', h1, ?_⟩
  cases args'
  simpa using e1
theorem enter_of {f : FuncId} {fn : Func} (hf : Tryd.prog.funcs[f]? = some fn) (hn : (fn.name == "runtime.NumGoroutine") = false) (hb : fn.body.isNone = false) (args : Array Value) (w : World) : (callFunc f args).run Tryd.prog w = .ok (.enter f args) w := by
  have hn' : ¬ fn.name = "runtime.NumGoroutine" := by simpa using hn
  have hb' : ¬ fn.body = none := by intro e; rw [e] at hb; cases hb
  simp [callFunc, hf, hn', hb']
theorem plain_wins (L : List Int) (v l : Int) : plainC (winsV L v l) = true := by
  unfold winsV; split <;> rfl
theorem plain_mv (L : List Int) (v l : Int) : plainC (mvV L v l) = true := by
  unfold mvV; split
  · split <;> rfl
  · rfl
theorem plain_st (L : List Int) : plainC (stV L) = true := by
  unfold stV; split <;> rfl
def X0 : Caller := fun f args h => match knK f args h with
  | some v => some (v, h)
  | none => none
theorem knK_sound [Inhabited Bound] {φ : Phi} {h : AH} {B : Nat} {w : World} {f : FuncId} {args : List Value} {args' : Array Value} {v : Value} (E : Emb φ h B w) (hl : LRel φ args args'.toList) (hr : knK f args h = some v) :
    plainC v = true ∧ (callFunc f args').run Tryd.prog w = .ok (.enter f args') w ∧ Calls Tryd.prog f args' w fun e w' => e = .returned v ∧ RowKit.Below w.heap.size w w' := by
  unfold knK at hr
  split at hr
  · rename_i hf
    subst hf
    split at hr
    case h_2 => cases hr
    rename_i x
    obtain ⟨h1, h2⟩ := bif_some hr
    cases h2
    simp only [Bool.and_eq_true] at h1
    obtain ⟨⟨h1, h2⟩, h3, h4⟩ := h1
    have : args'.toList = [.int .u64 (x : Int)] := plainL_inv hl rfl
    have ha : args' = #[.int .u64 (x : Int)] := by cases args'; simp_all
    subst ha
    have h1 := Nat.le_of_ble_eq_true h1
    have h2 : x < 1024 := by rw [blt_d] at h2; simpa using h2
    have hlb := lowB_eq h1 h2
    rw [hlb]
    exact ⟨rfl, enter_of Tryd.func67 (by kernel_rfl) (by kernel_rfl) _ _, tz_calls x h1 h2 w (tabOk_world E (by rw [blt_d] at h3; simpa using h3) h4)⟩
  split at hr
  · rename_i hf
    subst hf
    split at hr
    case h_2 => cases hr
    rename_i s v0 l0
    obtain ⟨L, h1, rfl⟩ := Option.map_eq_some_iff.1 hr
    obtain ⟨s', hs, ha⟩ := lrel3 hl
    subst ha
    obtain ⟨h2, h3⟩ := rdI_in E hs h1
    exact ⟨plain_wins _ _ _, enter_of Tryd.func29 (by kernel_rfl) (by kernel_rfl) _ _, wins_in w s' L h2 h3 v0 l0⟩
  split at hr
  · rename_i hf
    subst hf
    split at hr
    case h_2 => cases hr
    rename_i s v0 l0
    obtain ⟨L, h1, rfl⟩ := Option.map_eq_some_iff.1 hr
    obtain ⟨s', hs, ha⟩ := lrel3 hl
    subst ha
    obtain ⟨h2, h3⟩ := rdI_in E hs h1
    exact ⟨plain_mv _ _ _, enter_of Tryd.func31 (by kernel_rfl) (by kernel_rfl) _ _, move_in w s' L h2 h3 v0 l0⟩
  split at hr
  · rename_i hf
    subst hf
    split at hr
    case h_2 => cases hr
    rename_i s
    obtain ⟨L, h1, rfl⟩ := Option.map_eq_some_iff.1 hr
    obtain ⟨s', hs, ha⟩ := lrel1 hl
    subst ha
    obtain ⟨h2, h3⟩ := rdI_in E hs h1
    exact ⟨plain_st _, enter_of Tryd.func27 (by kernel_rfl) (by kernel_rfl) _ _, starts_in w s' L h2 h3⟩
  cases hr
theorem X0_orac (i : Inhabited Bound) : @Orac i Tryd.prog X0 where
  sound := fun B f args h v h' hr φ w args' M hl o a K Q hK => by
    unfold X0 at hr
    split at hr
    case h_2 => cases hr
    rename_i v' hv'
    cases hr
    obtain ⟨h1, h2, h3⟩ := knK_sound M hl hv'
    rw [h2, Oper.upon_enter]
    refine Calls.mono h3 fun e w' ⟨e1, e2⟩ => ?_
    subst e1
    obtain ⟨g1, g2⟩ := M.grown e2
    exact hK φ v w' (VRel.plainC h1) g1 g2
  pres := fun f args h v h' hr hl => by
    unfold X0 at hr
    split at hr
    case h_2 => cases hr
    cases hr
    exact Pres.refl hl
end Go.Proofs.YtnpapnpedcbfnaaDoor
set_option maxRecDepth 100000
set_option maxHeartbeats 4000000
set_option linter.unusedSimpArgs false
set_option linter.unusedVariables false
namespace Go.Proofs.YtnpapnpedcbfnaaDoor
open Go.Ds Go.Vs
/-! ## alive -/
def tabN (k : Nat) : Value := match (List.range 10).find? (fun i => Nat.beq (tzIx i) k) with
  | some i => .int .u8 (.ofNat i)
  | none => junkV
def tabCells : List Value := (List.range 64).map tabN
@[reducible] def bigRoom : Inhabited Bound := ⟨⟨1000000000⟩⟩
theorem alive_ev : isTrueL 1 (@evK bigRoom Tryd.prog X0 100000 50 16 [] ((seenP tabCells 1 []).at 1)) = true := by kernel_rfl
theorem TabW.tabIn {w : World} (h : TabW w) : TabIn w 1 tabCells := by
  obtain ⟨_, c, t, fr, hc, _⟩ := cell_has (h 0 (by decide))
  have g : ∀ (k : Nat) v, w.cell? ⟨1, k, none⟩ = some v → c[k]? = some v := by
    intro k v hk
    unfold World.cell? at hk
    rw [hc] at hk
    simpa using hk
  refine ⟨c, t, fr, hc, fun k v hk => ?_⟩
  unfold tabCells at hk
  rw [List.getElem?_map, Option.map_eq_some_iff] at hk
  obtain ⟨k', hk', rfl⟩ := hk
  have hkk : k' = k := by
    have := (List.getElem?_eq_some_iff.1 hk').2
    simpa using this.symm
  subst hkk
  unfold tabN
  cases hf : (List.range 10).find? (fun i => Nat.beq (tzIx i) k') with
  | none => exact .inl rfl
  | some i =>
    have h1 := List.find?_some hf
    have h2 := List.mem_range.1 (List.mem_of_find?_eq_some hf)
    have h3 := Nat.eq_of_beq_eq_true h1
    exact .inr ⟨g k' _ (by rw [← h3]; exact h i h2), rfl⟩
theorem alive_calls (w : World) (hw : TabW w) : Calls Tryd.prog 16 #[] w fun e w' => e = .returned (.bool true) ∧ RowKit.Below w.heap.size w w' :=
  @call_of_tab bigRoom Tryd.prog X0 (X0_orac bigRoom) Tryd.mixed 100000 49 16 tabCells 1 (by decide) (by kernel_rfl) alive_ev w hw.tabIn
/-! ## All known calls -/
def knA (f : FuncId) (args : List Value) (h : AH) : Option Value :=
  if f = 16 then (match args with
    | [] => bif Nat.blt 0 h.next && tabOk (h.get 0) then some (.bool true) else none
    | _ => none)
  else knK f args h
def XA : Caller := fun f args h => match knA f args h with
  | some v => some (v, h)
  | none => none
theorem knA_sound [Inhabited Bound] {φ : Phi} {h : AH} {B : Nat} {w : World} {f : FuncId} {args : List Value} {args' : Array Value} {v : Value} (E : Emb φ h B w) (hl : LRel φ args args'.toList) (hr : knA f args h = some v) :
    plainC v = true ∧ (callFunc f args').run Tryd.prog w = .ok (.enter f args') w ∧ Calls Tryd.prog f args' w fun e w' => e = .returned v ∧ RowKit.Below w.heap.size w w' := by
  unfold knA at hr
  split at hr
  · rename_i hf
    subst hf
    split at hr
    case h_2 => cases hr
    obtain ⟨h1, h2⟩ := bif_some hr
    cases h2
    simp only [Bool.and_eq_true] at h1
    have ha : args' = #[] := by
      have := hl.nil_inv
      cases args'; simp_all
    subst ha
    exact ⟨rfl, enter_of Tryd.func16 (by kernel_rfl) (by kernel_rfl) _ _, alive_calls w (tabOk_world E (by have := h1.1; rw [blt_d] at this; simpa using this) h1.2)⟩
  · exact knK_sound E hl hr
theorem X0_orac' (i : Inhabited Bound) : @Orac i Tryd.prog XA where
  sound := fun B f args h v h' hr φ w args' M hl o a K Q hK => by
    unfold XA at hr
    split at hr
    case h_2 => cases hr
    rename_i v' hv'
    cases hr
    obtain ⟨h1, h2, h3⟩ := knA_sound M hl hv'
    rw [h2, Oper.upon_enter]
    refine Calls.mono h3 fun e w' ⟨e1, e2⟩ => ?_
    subst e1
    obtain ⟨g1, g2⟩ := M.grown e2
    exact hK φ v w' (VRel.plainC h1) g1 g2
  pres := fun f args h v h' hr hl => by
    unfold XA at hr
    split at hr
    case h_2 => cases hr
    cases hr
    exact Pres.refl hl
theorem XA_orac (i : Inhabited Bound) : @Orac i Tryd.prog XA := X0_orac' i
theorem XA_free {f : FuncId} (h2 : f ≠ 67 ∧ f ≠ 27 ∧ f ≠ 29 ∧ f ≠ 31 ∧ f ≠ 16) (l : List Value) (h : AH) : XA f l h = none := by
  unfold XA knA knK
  rw [if_neg h2.2.2.2.2, if_neg h2.1, if_neg h2.2.2.1, if_neg h2.2.2.2.1, if_neg h2.2.1]
theorem Rets.XA {f : FuncId} {args : List Value} {g : GH} {v : Value} {Q : Value → GH → Nat → Prop} (h : knA f args (g.at g.next) = some v) (hq : Q v g g.next) : Rets Tryd.prog XA f args g Q := by
  unfold Rets
  intro _
  refine ⟨v, g, g.next, ⟨bnd 0, 1, 0, ?_⟩, ⟨Nat.le_refl _, rfl, Nat.le_refl _, fun _ _ _ => rfl, fun _ _ _ => rfl⟩, hq⟩
  have : Go.Proofs.YtnpapnpedcbfnaaDoor.XA f args (g.at g.next) = some (v, g.at g.next) := by
    unfold Go.Proofs.YtnpapnpedcbfnaaDoor.XA
    rw [h]
  simp only [evF, this]
theorem XA_ok : Xok XA where
  pres := fun i => (XA_orac i).pres
  free := fun f h l h2 => XA_free h l h2
  alive := fun g hT => Rets.XA (by
    have e3 : Nat.blt 0 (g.at g.next).next = true := Nat.blt_eq ▸ hT.1
    have e4 : tabOk ((g.at g.next).get 0) = true := by rw [GH.get_at]; exact hT.2
    show (bif Nat.blt 0 (g.at g.next).next && tabOk ((g.at g.next).get 0) then some (Value.bool true) else none) = _
    rw [e3, e4]
    rfl) ⟨Nat.le_refl _, rfl⟩
  tz := fun g x hT h1 h2 => Rets.XA (by
    have hlb := lowB_eq h1 h2
    have e1 : Nat.ble 1 x = true := by rw [ble_d, decide_eq_true h1]
    have e2 : Nat.blt x 1024 = true := by rw [blt_d, decide_eq_true h2]
    have e3 : Nat.blt 0 (g.at g.next).next = true := Nat.blt_eq ▸ hT.1
    have e4 : tabOk ((g.at g.next).get 0) = true := by rw [GH.get_at]; exact hT.2
    show (bif Nat.ble 1 x && Nat.blt x 1024 && (Nat.blt 0 (g.at g.next).next && tabOk ((g.at g.next).get 0)) then _ else none) = _
    rw [e1, e2, e3, e4, ← hlb]
    rfl) ⟨Nat.le_refl _, rfl⟩
  wins := fun g s L v l h0 hl hs => Rets.XA (by
    show (rdI (g.at g.next) s).map _ = _
    rw [rdI_of h0 hl hs]; rfl) ⟨Nat.le_refl _, rfl⟩
  move := fun g s L v l h0 hl hs => Rets.XA (by
    show (rdI (g.at g.next) s).map _ = _
    rw [rdI_of h0 hl hs]; rfl) ⟨Nat.le_refl _, rfl⟩
  starts := fun g s L h0 hl hs => Rets.XA (by
    show (rdI (g.at g.next) s).map _ = _
    rw [rdI_of h0 hl hs]; rfl) ⟨Nat.le_refl _, rfl⟩
end Go.Proofs.YtnpapnpedcbfnaaDoor
