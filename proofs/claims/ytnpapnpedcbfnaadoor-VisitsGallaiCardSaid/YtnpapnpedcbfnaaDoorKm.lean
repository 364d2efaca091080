import Derived.Test.YtnpapnpedcbfnaaDoorProg
import Derived.WalkKit
import Derived.KernelRfl
import Derived.Maps.OwnSet
import Derived.DeepKeys4
import Derived.StillTailTactics
import Derived.Test.YtnpapnpedcbfnaaDoorVm
import Derived.Maps.AppendAt
import Derived.Deep.AppendLies
import Derived.RegionTactic
import Derived.Deep.QuietTactic
import Derived.BigQuiet
import Derived.Carry
set_option linter.all false
set_option linter.unusedSimpArgs false
set_option linter.unnecessarySimpa false
set_option linter.unusedVariables false
set_option linter.unusedSectionVars false
set_option maxRecDepth 100000
set_option linter.unusedVariables false
namespace Go.Proofs.YtnpapnpedcbfnaaDoor
open Go.RowKit Go.Maps
/-! ## The map of what was won -/
theorem laidOut : laidOutB Tryd.prog = true := by kernel_rfl
theorem law70 : Keyed Tryd.prog 70 := Keyed.of_law (deep_law_laid laidOut (m := 3) (by decide) (of_decide_eq_true (by kernel_rfl)) (by kernel_rfl) (by rw [Tryd.underlying70]))
theorem keyT70 : Tryd.prog.keyType 70 = true := by kernel_rfl
theorem cells70 : Tryd.prog.cellsOf 70 = 2 := by kernel_rfl
theorem cells3 : Tryd.prog.cellsOf 3 = 1 := by kernel_rfl
theorem wide70 (a b : Int) (ha : (Lit.int .i64 a).wf = true) (hb : (Lit.int .i64 b).wf = true) : keyOf Tryd.prog 70 (.agg #[.int .i64 a, .int .i64 b]) = some (.string (keyBytes [.int .i64 a, .int .i64 b])) := by
  unfold keyOf
  rw [Tryd.underlying70]
  have h0 : 0 < Tryd.prog.types.size := of_decide_eq_true (by kernel_rfl)
  have hl : ∃ m, Tryd.prog.types.size = m + 1 := ⟨Tryd.prog.types.size - 1, by omega⟩
  obtain ⟨m, hm⟩ := hl
  simp only [keyT70, hm, Bool.true_and]
  have hf : Value.formed Tryd.prog 70 (.agg #[.int .i64 a, .int .i64 b]) = true := by simp [Value.formed, Tryd.underlying70, cells70]
  rw [if_pos hf]
  simp [Program.keyLits, Tryd.underlying70, Tryd.underlying3, cells70, cells3, Value.cells, ha, hb]
end Go.Proofs.YtnpapnpedcbfnaaDoor
set_option maxRecDepth 100000
set_option linter.unusedVariables false
namespace Go.Proofs.YtnpapnpedcbfnaaDoor
open Go.RowKit Go.Maps Go.Vs
theorem has_in (x k : Nat) (hx : x < 1024) (hk : k < 10) (w : World) : Calls Tryd.prog 45 #[.int .i64 (x : Int), .int .i64 (k : Int)] w fun e w' => e = .returned (.bool (x.testBit k)) ∧ w' = w := by
  go_enter Tryd.func45, Tryd.ntmps45
  go_wp2
  go_ret
  refine ⟨?_, rfl⟩
  show Ending.returned (.bool (bits BinOp.and IntKind.i64 (↑x / 2 ^ k) 1 == 1)) = _
  rw [hasb_eq (by omega)]
theorem with_in (x k : Nat) (hx : x < 1024) (hk : k < 10) (w : World) : Calls Tryd.prog 53 #[.int .i64 (x : Int), .int .i64 (k : Int)] w fun e w' => e = .returned (.int .i64 ((x ||| 2 ^ k : Nat) : Int)) ∧ w' = w := by
  have h2 := two_lt (k := k) (by omega)
  go_enter Tryd.func53, Tryd.ntmps53
  go_wp2
  go_ret
  refine ⟨?_, rfl⟩
  show Ending.returned (.int .i64 (bits BinOp.or IntKind.i64 (↑x) (wrap64 (2 ^ k)))) = _
  rw [wrap_two (by omega), kbits_or (by omega) (by omega)]
end Go.Proofs.YtnpapnpedcbfnaaDoor
set_option maxRecDepth 100000
set_option linter.unusedVariables false
namespace Go.Proofs.YtnpapnpedcbfnaaDoor
open Go.RowKit Go.Maps Go.Vs
attribute [local go_sem] Oper.semAt_some
abbrev kyL (v l : Nat) : Lit := .string (keyBytes [.int .i64 v, .int .i64 l])
abbrev posV (v l : Nat) : Value := .agg #[.int .i64 v, .int .i64 l]
abbrev gmV (b off n cap B : Nat) : Value := .agg #[.slice (some ⟨b, off, none⟩) n cap, .map (some B)]
theorem wfN {a : Nat} (h : a < 1024) : (Lit.int .i64 (a : Int)).wf = true := WalkArith.wf_i64 (by omega)
theorem ky_of (v l : Nat) (hv : v < 1024) (hl : l < 1024) : keyOf Tryd.prog 70 (posV v l) = some (kyL v l) := wide70 _ _ (wfN hv) (wfN hl)
theorem ky_inj {v l v' l' : Nat} (hv : v < 1024) (hl : l < 1024) (hv' : v' < 1024) (hl' : l' < 1024) (h : kyL v l = kyL v' l') : v = v' ∧ l = l' := by
  have h1 := ky_of v l hv hl
  rw [h] at h1
  have := law70.inj h1 (ky_of v' l' hv' hl')
  simp only [posV, Value.agg.injEq, List.toArray_eq_iff, Value.int.injEq, Array.mk.injEq, List.cons.injEq] at this
  omega
theorem plainElem_bool_inv {H : Type} {P : Program} {e : TypeId} (he : P.underlying e = some .bool) {v : Value} {z : DataW H × List MemPlace} (h : plainElem P e v = some z) : ∃ c, v = .bool c ∧ z = (.lit (.bool c), []) := by
  unfold plainElem at h
  rw [he] at h
  cases v <;> simp at h
  subst h
  exact ⟨_, rfl, rfl⟩
/-- What is kept is right. -/
def Memo (A : Nat → Nat) (n : Nat) (D : DataW Unit) : Prop := IsMap D ∧ ∀ v l, v < 1024 → l < 1024 → Maps.has D (kyL v l) = true → D.atKey (kyL v l) (.lit (.bool false)) = .lit (.bool (won A n v l))
theorem Memo.start (A : Nat → Nat) (n : Nat) : Memo A n (.map []) := ⟨⟨_, rfl⟩, fun v l _ _ h => by simp [Maps.has] at h⟩
theorem Memo.put {A : Nat → Nat} {n : Nat} {D : DataW Unit} (h : Memo A n D) {v l : Nat} (hv : v < 1024) (hl : l < 1024) : Memo A n (D.put (kyL v l) (.lit (.bool (won A n v l)))) := by
  refine ⟨h.1.put _ _, fun v' l' hv' hl' hh => ?_⟩
  by_cases c : kyL v' l' = kyL v l
  · obtain ⟨rfl, rfl⟩ := ky_inj hv' hl' hv hl c
    exact atKey_put_same h.1 (law70.key (ky_of _ _ hv hl)) _ _
  · rw [has_put_other c] at hh
    rw [atKey_put_other c]
    exact h.2 v' l' hv' hl' hh
theorem zero4 (w : World) : (zeroValue 4).run Tryd.prog w = .ok (.bool false) w := by kernel_rfl
def ShopW (w : World) (b off n : Nat) (A : Nat → Nat) : Prop := ∀ i, i < n → w.cell? ⟨b, off + i, none⟩ = some (.int .i64 (A i : Nat))
def InvM (A : Nat → Nat) (n : Nat) (w : World) (B k : Nat) : Prop := ∃ D : DataW Unit, w.ownsMap Tryd.prog 70 (plainElem Tryd.prog 4) B k D ∧ Memo A n D
theorem InvM.mono {A : Nat → Nat} {n : Nat} {w : World} {B k k' : Nat} (h : InvM A n w B k) (hk : k ≤ k') : InvM A n w B k' := by
  obtain ⟨D, h1, h2⟩ := h
  exact ⟨D, h1.mono hk, h2⟩
theorem ShopW.grown {w w' : World} {b off n B : Nat} {A : Nat → Nat} (h : ShopW w b off n A) (hg : w.grownBy w' (some B)) (hb : b ≠ B) : ShopW w' b off n A := fun i hi => hg.cell (h i hi) (by simpa using hb)
theorem ShopW.alloc {w : World} {b off n : Nat} {A : Nat → Nat} (h : ShopW w b off n A) (o : Obj) : ShopW (w.alloc o) b off n A := fun i hi => (World.grownBy_alloc w o none).cell (h i hi) (by simp)
/-- What move hands back. -/
def moveV (A : Nat → Nat) (n v l : Nat) : Value := .tuple #[.int .i64 (((Go.Vs.move A n v l).getD 0 : Nat) : Int), .bool (Go.Vs.move A n v l).isSome]
def WinsAt (A : Nat → Nat) (n f : Nat) : Prop := ∀ (w : World) (b off cap B v l k : Nat), un n v < f → v < 2 ^ n → l < n → ShopW w b off n A → b ≠ B → InvM A n w B k → k + 11 ^ f < 4611686018427387904 →
  Calls Tryd.prog 55 #[gmV b off n cap B, posV v l] w fun e w' => e = .returned (.bool (won A n v l)) ∧ InvM A n w' B (k + 11 ^ f) ∧ w.grownBy w' (some B)
def MoveAt (A : Nat → Nat) (n f : Nat) : Prop := ∀ (w : World) (b off cap B v l k : Nat), un n v ≤ f → v < 2 ^ n → l < n → ShopW w b off n A → b ≠ B → InvM A n w B k → k + 10 * 11 ^ f < 4611686018427387904 →
  Calls Tryd.prog 59 #[gmV b off n cap B, posV v l] w fun e w' => e = .returned (moveV A n v l) ∧ InvM A n w' B (k + 10 * 11 ^ f) ∧ w.grownBy w' (some B)
theorem heap_new (w : World) (o : Obj) : (w.alloc o).heap[w.heap.size]? = some o := (MapKept.heap_alloc w _).1
theorem cell_heap {w : World} {b : Nat} {cs : Array Value} {T : TypeId} {fr : Nat × Nat} (hb : w.heap[b]? = some (.cells cs T fr)) (j : Nat) : w.cell? ⟨b, j, none⟩ = cs[j]? := by simp [World.cell?, hb]
theorem box2 (w : World) (x y a b : Value) (s t : TypeId) : ((w.alloc (.cells #[x, y] s)).alloc (.cells #[a, b] t)).cell? ⟨w.heap.size, 0, none⟩ = some x ∧ ((w.alloc (.cells #[x, y] s)).alloc (.cells #[a, b] t)).cell? ⟨w.heap.size, 1, none⟩ = some y ∧
    ((w.alloc (.cells #[x, y] s)).alloc (.cells #[a, b] t)).cell? ⟨w.heap.size + 1, 0, none⟩ = some a ∧ ((w.alloc (.cells #[x, y] s)).alloc (.cells #[a, b] t)).cell? ⟨w.heap.size + 1, 1, none⟩ = some b := by
  have h1 : ((w.alloc (.cells #[x, y] s)).alloc (.cells #[a, b] t)).heap[w.heap.size]? = some (.cells #[x, y] s) := (Below.heap_alloc _ _ _ (by simp)).trans (heap_new w _)
  have h2 : ((w.alloc (.cells #[x, y] s)).alloc (.cells #[a, b] t)).heap[w.heap.size + 1]? = some (.cells #[a, b] t) := by
    have := heap_new (w.alloc (.cells #[x, y] s)) (.cells #[a, b] t)
    rwa [World.size_alloc] at this
  refine ⟨?_, ?_, ?_, ?_⟩
  · rw [cell_heap h1]; rfl
  · rw [cell_heap h1]; rfl
  · rw [cell_heap h2]; rfl
  · rw [cell_heap h2]; rfl
theorem two_le {n : Nat} (h : n ≤ 10) : 2 ^ n ≤ 1024 := Nat.pow_le_pow_right (by decide) h
set_option maxHeartbeats 2000000 in
theorem wins_step {A : Nat → Nat} {n f : Nat} (hn : n ≤ 10) (hm : MoveAt A n f) : WinsAt A n (f + 1) := by
  intro w b off cap B v l k hu hv hl hS hb hI hk
  have h2 := two_le hn
  have hp : 0 < 11 ^ f := Nat.pow_pos (by decide)
  rw [Nat.pow_succ] at hk ⊢
  obtain ⟨D, hown, hmemo⟩ := hI
  go_enter Tryd.func55, Tryd.ntmps55
  cases hh : Maps.has D (kyL v l) with
  | true =>
    have hat := hmemo.2 v l (by omega) (by omega) hh
    go_wp2_with (at_lookup; refine wpList_lookup_own_ok _ rfl _ _ 64 rfl 70 4 law70 Tryd.underlying64 (plainElem Tryd.prog 4) (zero4 _) (.lit (.bool false)) [] (plainElem_bool Tryd.underlying4 false) B k D rfl ((hown.alloc _).alloc _) _ _ rfl (ky_of v l (by omega) (by omega)) ?_; intro u ps hu; obtain ⟨c, rfl, hc⟩ := plainElem_bool_inv Tryd.underlying4 hu; rw [hat] at hc; obtain rfl : won A n v l = c := by (simp at hc; exact hc.1))
    go_ret
    exact ⟨rfl, ⟨D, ((hown.alloc _).alloc _).mono (by omega), hmemo⟩, (World.grownBy_alloc _ _ _).trans (World.grownBy_alloc _ _ _)⟩
  | false =>
    have hmv := fun w => hm w b off cap B v l k (by omega) hv hl
    have hwm := won_move A n v l
    rw [hwm]
    unfold moveV at hmv
    generalize (Go.Vs.move A n v l).isSome = wn at *
    generalize (((Go.Vs.move A n v l).getD 0 : Nat) : Int) = ht at *
    have hlt := hown.lt
    obtain ⟨b0, b1, b2, b3⟩ := box2 w (.slice (some ⟨b, off, none⟩) n cap) (.map (some B)) (.int .i64 v) (.int .i64 l) 66 70
    go_wp2_with (first | (at_lookup; refine wpList_lookup_own_ok _ rfl _ _ 64 rfl 70 4 law70 Tryd.underlying64 (plainElem Tryd.prog 4) (zero4 _) (.lit (.bool false)) [] (plainElem_bool Tryd.underlying4 false) B k D rfl ((hown.alloc _).alloc _) _ _ rfl (ky_of v l (by omega) (by omega)) ?_; intro u ps hu; obtain ⟨c, rfl, hc⟩ := plainElem_bool_inv Tryd.underlying4 hu; rw [hh]) | (go_at_call 59; refine (hmv _ ((hS.alloc _).alloc _) hb ⟨D, (hown.alloc _).alloc _, hmemo⟩ (by omega)).mono ?_; rintro e w1 ⟨rfl, ⟨D1, hown1, hmemo1⟩, hg1⟩; have c0 := hg1.cell b0 (by simp; omega); have c1 := hg1.cell b1 (by simp; omega); have c2 := hg1.cell b2 (by simp; omega); have c3 := hg1.cell b3 (by simp; omega)) | (at_mapUpdate; refine wpList_mapUpdate_own _ rfl _ _ _ 64 rfl 70 4 law70 Tryd.underlying64 _ B _ D1 rfl hown1 (by unfold maxLen; omega) _ _ _ rfl rfl (ky_of v l (by omega) (by omega)) (.lit (.bool wn)) [] (plainElem_bool Tryd.underlying4 wn) ?_; intro w2 hown2 hg2))
    have hput1 := hmemo1.put (v := v) (l := l) (by omega) (by omega)
    rw [hwm] at hput1
    go_ret
    exact ⟨rfl, ⟨_, hown2.mono (by omega), hput1⟩, (((World.grownBy_alloc _ _ _).trans (World.grownBy_alloc _ _ _)).trans hg1).trans hg2⟩
end Go.Proofs.YtnpapnpedcbfnaaDoor
set_option maxRecDepth 100000
set_option linter.unusedVariables false
namespace Go.Proofs.YtnpapnpedcbfnaaDoor
open Go.RowKit Go.Maps Go.Vs
attribute [local go_sem] Oper.semAt_some
theorem wpStill_mono {P : Program} {ops : Array Oper} {w : World} {Q Q1 : Act → Prop} (h : ∀ a, Q a → Q1 a) : ∀ (l : List Oper) (a : Act), wpStill P ops w Q l a → wpStill P ops w Q1 l a
  | [], a, hh => h a hh
  | o :: l, a, hh => by
    unfold wpStill at hh ⊢
    split
    · rename_i c
      rw [if_pos c] at hh
      exact Oper.still_mono (fun a' => wpStill_mono h l a') hh
    · rename_i c
      rw [if_neg c] at hh
      exact wpStill_mono h l _ hh
theorem wpStill_run {P : Program} {ops : Array Oper} {w : World} {Q : Act → Prop} {l : List Oper} {a : Act} (h : ∃ X, wpStill P ops w (fun a' => a' = X) l a ∧ Q X) : wpStill P ops w Q l a := by
  obtain ⟨X, h1, h2⟩ := h
  exact wpStill_mono (fun a' e => by rw [e]; exact h2) l a h1
theorem Tryd.mixed : Tryd.prog.follows .mixedOrders = true := by kernel_rfl
set_option maxHeartbeats 4000000 in
theorem move_step {A : Nat → Nat} {n f : Nat} (hn : n ≤ 10) (hA : ∀ i, i < n → A i < 2 ^ n) (hw : WinsAt A n f) : MoveAt A n f := by
  intro w b off cap B v l k hu hv hl hS hb hI hk
  have h2 := two_le hn
  have hp : 0 < 11 ^ f := Nat.pow_pos (by decide)
  have hAl := hA l hl
  obtain ⟨D, hown, hmemo⟩ := hI
  have hlt := hown.lt
  obtain ⟨b0, b1, b2, b3⟩ := box2 w (.slice (some ⟨b, off, none⟩) n cap) (.map (some B)) (.int .i64 v) (.int .i64 l) 66 70
  have hcl := ((hS.alloc (.cells #[.slice (some ⟨b, off, none⟩) n cap, .map (some B)] 66)).alloc (.cells #[.int .i64 v, .int .i64 l] 70)) l hl
  have hlI : (l : Int) < n := by omega
  go_enter Tryd.func59, Tryd.ntmps59
  go_wp2
  have hg0 : w.grownBy ((w.alloc (.cells #[.slice (some ⟨b, off, none⟩) n cap, .map (some B)] 66)).alloc (.cells #[.int .i64 v, .int .i64 l] 70)) (some B) := (World.grownBy_alloc _ _ _).trans (World.grownBy_alloc _ _ _)
  have hS0 : ShopW ((w.alloc (.cells #[.slice (some ⟨b, off, none⟩) n cap, .map (some B)] 66)).alloc (.cells #[.int .i64 v, .int .i64 l] 70)) b off n A := (hS.alloc _).alloc _
  have hown0 : ((w.alloc (.cells #[.slice (some ⟨b, off, none⟩) n cap, .map (some B)] 66)).alloc (.cells #[.int .i64 v, .int .i64 l] 70)).ownsMap Tryd.prog 70 (plainElem Tryd.prog 4) B k D := (hown.alloc _).alloc _
  generalize ((w.alloc (.cells #[.slice (some ⟨b, off, none⟩) n cap, .map (some B)] 66)).alloc (.cells #[.int .i64 v, .int .i64 l] 70)) = W0 at *
  have hif : (if l = 0 then (⟨b, off, none⟩ : Addr) else ⟨b, off + l, none⟩) = ⟨b, off + l, none⟩ := by
    split
    · rename_i c; rw [c]; rfl
    · rfl
  go_quiet (fail)
  rw [kbits_andn (by omega) (by omega)]
  have hop : andn (A l) v ≤ A l := andn_le _ _
  have hobit : ∀ j, j < n → (andn (A l) v).testBit j = ((A l).testBit j && !v.testBit j) := fun j hj => andn_bit (by omega) (by omega)
  generalize andn (A l) v = op at *
  clear hcl hif hS
  have hS1 : ShopW (W0.drewN nq) b off n A := hS0
  have hown1 : (W0.drewN nq).ownsMap Tryd.prog 70 (plainElem Tryd.prog 4) B k D := hown0
  have hg1 : w.grownBy (W0.drewN nq) (some B) := ⟨hg0.os, hg0.tape, hg0.output, hg0.size, hg0.block⟩
  have c0 : (W0.drewN nq).cell? ⟨w.heap.size, 0, none⟩ = some (.slice (some ⟨b, off, none⟩) n cap) := b0
  have c1 : (W0.drewN nq).cell? ⟨w.heap.size, 1, none⟩ = some (.map (some B)) := b1
  have c2 : (W0.drewN nq).cell? ⟨w.heap.size + 1, 0, none⟩ = some (.int .i64 v) := b2
  have c3 : (W0.drewN nq).cell? ⟨w.heap.size + 1, 1, none⟩ = some (.int .i64 l) := b3
  generalize (W0.drewN nq) = W1 at *
  clear b0 b1 b2 b3 hS0 hown0 hg0 hown
  go_wp2
  go_loopw [20] (fun i wr => ∃ j : Nat, j ≤ n ∧ i = .int .i64 j ∧ (∀ j', j' < j → good A n v l j' = false) ∧ InvM A n wr B (k + j * 11 ^ f) ∧ W1.grownBy wr (some B)) (fun i _ => n - (intOf i).toNat)
  case atStart => exact ⟨0, by omega, rfl, fun j' h => by omega, ⟨D, by simpa using hown1, hmemo⟩, World.grownBy.refl _ _⟩
  case round =>
    obtain ⟨j, hj, rfl, hno, ⟨Dj, hownj, hmemoj⟩, hgj⟩ := hrel
    have hlt1 : B ≠ w.heap.size ∧ B ≠ w.heap.size + 1 := by omega
    have d0 := hgj.cell c0 (by simp; omega)
    have d1 := hgj.cell c1 (by simp; omega)
    have d2 := hgj.cell c2 (by simp; omega)
    have d3 := hgj.cell c3 (by simp; omega)
    have hSj := hS1.grown hgj hb
    by_cases cj : j < n
    · have cj' : (j : Int) < n := by omega
      have hjb := hobit j cj
      have hcall := has_in op j (by omega) (by omega)
      have hwith := with_in v j (by omega) (by omega)
      have e0 : wr.drew.cell? ⟨w.heap.size, 0, none⟩ = some (.slice (some ⟨b, off, none⟩) n cap) := d0
      have e1 : wr.drew.cell? ⟨w.heap.size, 1, none⟩ = some (.map (some B)) := d1
      have e2 : wr.drew.cell? ⟨w.heap.size + 1, 0, none⟩ = some (.int .i64 v) := d2
      have e3 : wr.drew.cell? ⟨w.heap.size + 1, 1, none⟩ = some (.int .i64 l) := d3
      have hS2 : ShopW wr.drew b off n A := hSj
      have hown2 : wr.drew.ownsMap Tryd.prog 70 (plainElem Tryd.prog 4) B (k + j * 11 ^ f) Dj := hownj
      have hg2 : W1.grownBy wr.drew (some B) := ⟨hgj.os, hgj.tape, hgj.output, hgj.size, hgj.block⟩
      go_wp2
      refine wp_region_still_tail 11 Tryd.mixed (by kernel_rfl) ?_
      change wpStill _ _ wr.drew (fun a' => wpList _ _ _ _ a' wr.drew) _ _
      generalize wr.drew = W2 at *
      clear d0 d1 d2 d3 hSj hownj hgj
      simp only [List.take_succ_cons, List.take_zero, List.drop_succ_cons, List.drop_zero]
      cases cb : op.testBit j with
      | false =>
        rw [cb] at hcall
        refine wpStill_run ?_
        apply Exists.intro
        refine ⟨?_, ?_⟩
        · skip
          iterate 2 still_step
          still_call (hcall W2)
          iterate 8 still_step
          exact wpStill_nil rfl
        show wpList _ _ _ _ _ W2
        go_wp2
        have hgd : good A n v l j = false := by unfold good; rw [← hjb, cb]; rfl
        refine ⟨⟨j + 1, by omega, rfl, fun j' hj' => ?_, ⟨Dj, hown2.mono (by rw [Nat.succ_mul]; omega), hmemoj⟩, hg2⟩, by simp [intOf]; omega⟩
        rcases Nat.lt_succ_iff_lt_or_eq.1 hj' with c | c
        · exact hno j' c
        · rw [c]; exact hgd
      | true =>
        rw [cb] at hcall
        refine wpStill_run ?_
        apply Exists.intro
        refine ⟨?_, ?_⟩
        · skip
          iterate 2 still_step
          still_call (hcall W2)
          iterate 5 still_step
          still_call (hwith W2)
          iterate 2 still_step
          exact wpStill_nil rfl
        show wpList _ _ _ _ _ W2
        have hjb2 : (A l).testBit j = true ∧ v.testBit j = false := by
          rw [cb] at hjb
          have := hjb.symm
          simpa using this
        have hun := un_pos cj hjb2.2
        have hor := or_lt hv cj
        have hjP : (j + 1) * 11 ^ f ≤ 10 * 11 ^ f := Nat.mul_le_mul_right _ (by omega)
        rw [Nat.succ_mul] at hjP
        have hwc := hw W2 b off cap B (v ||| 2 ^ j) j (k + j * 11 ^ f) (by omega) hor cj hS2 hb ⟨Dj, hown2, hmemoj⟩ (by omega)
        cases cw : won A n (v ||| 2 ^ j) j with
        | true =>
          rw [cw] at hwc
          go_wp2_with (go_at_call 55; refine hwc.mono ?_; rintro e w3 ⟨rfl, hI3, hg3⟩)
          have hgd : good A n v l j = false := by unfold good; rw [cw]; simp
          refine ⟨⟨j + 1, by omega, rfl, fun j' hj' => ?_, hI3.mono (by rw [Nat.succ_mul]; omega), hg2.trans hg3⟩, by simp [intOf]; omega⟩
          rcases Nat.lt_succ_iff_lt_or_eq.1 hj' with c | c
          · exact hno j' c
          · rw [c]; exact hgd
        | false =>
          rw [cw] at hwc
          go_wp2_with (go_at_call 55; refine hwc.mono ?_; rintro e w3 ⟨rfl, hI3, hg3⟩)
          have hgd : good A n v l j = true := by unfold good; rw [cw, hjb2.1, hjb2.2]; rfl
          have hmv := move_found cj hno hgd
          refine bodyPost_ret (results_tmp2 rfl _ _ _) rfl ?_
          refine ⟨?_, hI3.mono (by omega), (hg1.trans hg2).trans hg3⟩
          unfold moveV
          rw [hmv]
          rfl
    · have cj' : ¬ (j : Int) < n := by omega
      go_wp2
      have hnn : j = n := by omega
      subst hnn
      have hmv := move_none hno
      have hjP : j * 11 ^ f ≤ 10 * 11 ^ f := Nat.mul_le_mul_right _ (by omega)
      refine bodyPost_ret (results_tmp2 rfl _ _ _) rfl ?_
      refine ⟨?_, ⟨Dj, hownj.mono (by omega), hmemoj⟩, hg1.trans hgj⟩
      unfold moveV
      rw [hmv]
      rfl
end Go.Proofs.YtnpapnpedcbfnaaDoor
set_option linter.unusedVariables false
namespace Go.Proofs.YtnpapnpedcbfnaaDoor
open Go.RowKit Go.Maps Go.Vs
theorem wins_all {A : Nat → Nat} {n : Nat} (hn : n ≤ 10) (hA : ∀ i, i < n → A i < 2 ^ n) : ∀ f, WinsAt A n f
  | 0 => fun w b off cap B v l k hu => by omega
  | f + 1 => wins_step hn (move_step hn hA (wins_all hn hA f))
theorem move_all {A : Nat → Nat} {n : Nat} (hn : n ≤ 10) (hA : ∀ i, i < n → A i < 2 ^ n) (f : Nat) : MoveAt A n f := move_step hn hA (wins_all hn hA f)
theorem un_le (n v : Nat) : un n v ≤ n := by
  unfold un
  have := List.countP_le_length (p := fun k => !v.testBit k) (l := List.range n)
  simpa using this
end Go.Proofs.YtnpapnpedcbfnaaDoor
set_option maxRecDepth 100000
set_option linter.unusedVariables false
namespace Go.Proofs.YtnpapnpedcbfnaaDoor
open Go.RowKit Go.Maps Go.Vs
attribute [local go_sem] Oper.semAt_some
theorem setCell_other (w : World) (p : Addr) (v : Value) (k : Nat) (h : k ≠ p.block) : (w.setCell p v).heap[k]? = w.heap[k]? := Below.heap_setCell _ _ _ _ h
theorem newGame_in (b off n c : Nat) (w : World) : Calls Tryd.prog 54 #[.slice (some ⟨b, off, none⟩) n c] w fun e w' => (∃ B, e = .returned (gmV b off n c B) ∧ w'.ownsMap Tryd.prog 70 (plainElem (H := Unit) Tryd.prog 4) B 0 (.map []) ∧ w.heap.size ≤ B ∧ B < w'.heap.size) ∧ Below w.heap.size w w' := by
  have hmm := @run_makeMap Tryd.prog
  have hb : Below w.heap.size w ((w.alloc (Obj.cells #[Value.slice (some ⟨b, off, none⟩) n c, Value.map (some (w.heap.size + 1))] 66)).alloc (Obj.map #[] 0)) := ((Below.refl _ w).alloc (Nat.le_refl _) _).alloc (by simp) _
  have hown : ((w.alloc (Obj.cells #[Value.slice (some ⟨b, off, none⟩) n c, Value.map (some (w.heap.size + 1))] 66)).alloc (Obj.map #[] 0)).ownsMap Tryd.prog 70 (plainElem (H := Unit) Tryd.prog 4) (w.heap.size + 1) 0 (.map []) := by
    have := World.ownsMap_made (H := Unit) (w.alloc (Obj.cells #[Value.slice (some ⟨b, off, none⟩) n c, Value.map (some (w.heap.size + 1))] 66)) Tryd.prog 70 (plainElem Tryd.prog 4)
    rwa [World.size_alloc] at this
  have hc : ((w.alloc (Obj.cells #[Value.slice (some ⟨b, off, none⟩) n c, Value.map (some (w.heap.size + 1))] 66)).alloc (Obj.map #[] 0)).heap[w.heap.size]? = some (.cells #[Value.slice (some ⟨b, off, none⟩) n c, Value.map (some (w.heap.size + 1))] 66) := (Below.heap_alloc _ _ _ (by simp)).trans (heap_new w _)
  have hs : ((w.alloc (Obj.cells #[Value.slice (some ⟨b, off, none⟩) n c, Value.map (some (w.heap.size + 1))] 66)).alloc (Obj.map #[] 0)).heap.size = w.heap.size + 2 := by simp
  go_enter Tryd.func54, Tryd.ntmps54
  go_wp2
  generalize ((w.alloc (Obj.cells #[Value.slice (some ⟨b, off, none⟩) n c, Value.map (some (w.heap.size + 1))] 66)).alloc (Obj.map #[] 0)) = W at *
  have c0 : W.cell? ⟨w.heap.size, 0, none⟩ = some (Value.slice (some ⟨b, off, none⟩) n c) := by rw [cell_heap hc]; rfl
  have c1 : W.cell? ⟨w.heap.size, 1, none⟩ = some (Value.map (some (w.heap.size + 1))) := by rw [cell_heap hc]; rfl
  refine bodyPost_ret (v := gmV b off n c (w.heap.size + 1)) ?_ rfl ?_
  · simp [results, Tryd.results54, go_sem, c0, c1]
  · exact ⟨⟨_, rfl, hown, by omega, by omega⟩, hb⟩
end Go.Proofs.YtnpapnpedcbfnaaDoor
