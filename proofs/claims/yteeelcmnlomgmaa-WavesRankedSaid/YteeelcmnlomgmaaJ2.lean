import Derived.Test.YteeelcmnlomgmaaJ1
set_option linter.all false
set_option linter.unusedSimpArgs false
set_option linter.unnecessarySimpa false
set_option linter.unusedVariables false
set_option linter.unusedSectionVars false
set_option maxRecDepth 100000
set_option maxHeartbeats 8000000
set_option linter.unusedSimpArgs false
set_option linter.unusedVariables false
namespace Go.Proofs.Yteeelcmnlomgmaa
open Go.Ds
/-! ## Values of closed calls -/
def zig (k : Nat) : Nat := [1, 1, 1, 2, 5, 16, 61, 272, 1385, 7936, 50521].getD k 0
def triNext (l : List Nat) : List Nat := (l.reverse.foldl (fun (a : List Nat) x => a ++ [a.getLastD 0 + x]) [0])
def triRow : Nat → List Nat
  | 0 => [1]
  | n + 1 => triNext (triRow n)
def frm (n k : Nat) : Nat := (triRow n).getD k 0 - (triRow n).getD (k - 1) 0
def isTup (x : Nat) : Option (Value × AH) → Bool
  | some (.tuple ⟨[.int .i64 a, .int .i64 b]⟩, _) => (match a with | .ofNat a => Nat.beq a x | _ => false) && (match b with | .ofNat b => Nat.beq b 0 | _ => false)
  | _ => false
theorem isTup_some {x : Nat} {r : Option (Value × AH)} (h : isTup x r = true) : ∃ h', r = some (.tuple #[.int .i64 x, .int .i64 0], h') := by
  unfold isTup at h
  split at h
  · rename_i a b h'
    simp only [Bool.and_eq_true] at h
    obtain ⟨h1, h2⟩ := h
    split at h1
    · split at h2
      · rw [Nat.eq_of_beq_eq_true h1, Nat.eq_of_beq_eq_true h2]
        exact ⟨h', rfl⟩
      · cases h2
    · cases h1
  · cases h
noncomputable def runK (f : FuncId) (args : List Value) : Option (Value × AH) := @evK bigRoom Try.prog (knownX noneX) 100000 50 f args AH.zero
theorem runK_calls {f : FuncId} {args : List Value} {x : Nat} (ha : args.all plainC = true) (h : isTup x (runK f args) = true) (w : World) :
    Calls Try.prog f args.toArray w fun e w' => e = .returned (.tuple #[.int .i64 x, .int .i64 0]) ∧ RowKit.Below w.heap.size w w' := by
  obtain ⟨h', hr⟩ := isTup_some h
  unfold runK at hr
  rw [@evK_eq bigRoom] at hr
  refine @call_of_ev bigRoom Try.prog (knownX noneX) (@knownX_orac bigRoom Try.prog noneX noneX_sound) Try.mixed 100000 49 f args ha _ h' ?_ hr rfl w
  unfold knownX noneX
  cases args.all plainV <;> rfl
end Go.Proofs.Yteeelcmnlomgmaa
set_option maxRecDepth 100000
set_option maxHeartbeats 8000000
set_option linter.unusedSimpArgs false
set_option linter.unusedVariables false
namespace Go.Proofs.Yteeelcmnlomgmaa
open Go.Ds
theorem count_ev : (List.range 11).all (fun k => isTup (zig k) (runK 24 [.int .i64 (.ofNat k)])) = true := by kernel_rfl
end Go.Proofs.Yteeelcmnlomgmaa
set_option maxRecDepth 100000
set_option maxHeartbeats 8000000
set_option linter.unusedSimpArgs false
set_option linter.unusedVariables false
namespace Go.Proofs.Yteeelcmnlomgmaa
open Go.Ds
theorem andre_ev : (List.range 11).all (fun k => isTup (zig k) (runK 28 [.int .i64 (.ofNat k)])) = true := by kernel_rfl
theorem refAndre_ev : (List.range 11).all (fun k => isTup (zig k) (runK 29 [.int .i64 (.ofNat k)])) = true := by kernel_rfl
end Go.Proofs.Yteeelcmnlomgmaa
set_option maxRecDepth 100000
set_option maxHeartbeats 8000000
set_option linter.unusedSimpArgs false
set_option linter.unusedVariables false
namespace Go.Proofs.Yteeelcmnlomgmaa
open Go.Ds
theorem from_ev10 : (List.range 10).all (fun k => isTup (frm 10 (k + 1)) (runK 26 [.int .i64 10, .int .i64 (.ofNat (k + 1))])) = true := by kernel_rfl
end Go.Proofs.Yteeelcmnlomgmaa
set_option maxRecDepth 100000
set_option maxHeartbeats 8000000
set_option linter.unusedSimpArgs false
set_option linter.unusedVariables false
namespace Go.Proofs.Yteeelcmnlomgmaa
open Go.Ds
theorem from_ev9 : (List.range 9).all (fun k => isTup (frm 9 (k + 1)) (runK 26 [.int .i64 9, .int .i64 (.ofNat (k + 1))])) = true := by kernel_rfl
theorem from_ev8 : (List.range 8).all (fun k => isTup (frm 8 (k + 1)) (runK 26 [.int .i64 8, .int .i64 (.ofNat (k + 1))])) = true := by kernel_rfl
end Go.Proofs.Yteeelcmnlomgmaa
set_option maxRecDepth 100000
set_option maxHeartbeats 8000000
set_option linter.unusedSimpArgs false
set_option linter.unusedVariables false
namespace Go.Proofs.Yteeelcmnlomgmaa
open Go.Ds
theorem from_ev1 : (List.range 1).all (fun k => isTup (frm 1 (k + 1)) (runK 26 [.int .i64 1, .int .i64 (.ofNat (k + 1))])) = true := by kernel_rfl
theorem from_ev2 : (List.range 2).all (fun k => isTup (frm 2 (k + 1)) (runK 26 [.int .i64 2, .int .i64 (.ofNat (k + 1))])) = true := by kernel_rfl
theorem from_ev3 : (List.range 3).all (fun k => isTup (frm 3 (k + 1)) (runK 26 [.int .i64 3, .int .i64 (.ofNat (k + 1))])) = true := by kernel_rfl
theorem from_ev4 : (List.range 4).all (fun k => isTup (frm 4 (k + 1)) (runK 26 [.int .i64 4, .int .i64 (.ofNat (k + 1))])) = true := by kernel_rfl
theorem from_ev5 : (List.range 5).all (fun k => isTup (frm 5 (k + 1)) (runK 26 [.int .i64 5, .int .i64 (.ofNat (k + 1))])) = true := by kernel_rfl
theorem from_ev6 : (List.range 6).all (fun k => isTup (frm 6 (k + 1)) (runK 26 [.int .i64 6, .int .i64 (.ofNat (k + 1))])) = true := by kernel_rfl
theorem from_ev7 : (List.range 7).all (fun k => isTup (frm 7 (k + 1)) (runK 26 [.int .i64 7, .int .i64 (.ofNat (k + 1))])) = true := by kernel_rfl
end Go.Proofs.Yteeelcmnlomgmaa
set_option maxRecDepth 100000
set_option maxHeartbeats 8000000
set_option linter.unusedSimpArgs false
set_option linter.unusedVariables false
namespace Go.Proofs.Yteeelcmnlomgmaa
open Go.Ds
/-! ## The oracle that knows the closed values -/
def tupV (x : Nat) : Value := .tuple #[.int .i64 x, .int .i64 0]
def knownC (f : FuncId) : List Value → Option Value
  | [.int .i64 n] => if 0 ≤ n ∧ n ≤ 10 then some (tupV (zig n.toNat)) else none
  | _ => none
def knownF : List Value → Option Value
  | [.int .i64 n, .int .i64 k] => if 1 ≤ n ∧ n ≤ 10 ∧ 1 ≤ k ∧ k ≤ n then some (tupV (frm n.toNat k.toNat)) else none
  | _ => none
def knownK1 (f : FuncId) (args : List Value) : Option Value :=
  if f = 14 then (match args with
    | [] => some (.bool true)
    | _ => none)
  else if f = 24 then knownC f args
  else if f = 28 then knownC f args
  else if f = 29 then knownC f args
  else if f = 26 then knownF args
  else none
theorem all_at {n : Nat} {p : Nat → Bool} (h : (List.range n).all p = true) {k : Nat} (hk : k < n) : p k = true := by
  rw [List.all_eq_true] at h
  exact h k (List.mem_range.2 hk)
theorem knownC_some {f : FuncId} {args : List Value} {v : Value} (h : knownC f args = some v) : ∃ k : Nat, k ≤ 10 ∧ args = [.int .i64 (.ofNat k)] ∧ v = tupV (zig k) := by
  unfold knownC at h
  split at h
  · rename_i n
    split at h
    · rename_i hc
      cases h
      refine ⟨n.toNat, by omega, ?_, rfl⟩
      rw [show Int.ofNat n.toNat = n from Int.toNat_of_nonneg hc.1]
    · cases h
  · cases h
theorem from_ev {n k : Nat} (hn : 1 ≤ n ∧ n ≤ 10) (hk : 1 ≤ k ∧ k ≤ n) : isTup (frm n k) (runK 26 [.int .i64 (.ofNat n), .int .i64 (.ofNat k)]) = true := by
  obtain ⟨j, rfl⟩ : ∃ j, k = j + 1 := ⟨k - 1, by omega⟩
  obtain rfl | rfl | rfl | rfl | rfl | rfl | rfl | rfl | rfl | rfl : n = 1 ∨ n = 2 ∨ n = 3 ∨ n = 4 ∨ n = 5 ∨ n = 6 ∨ n = 7 ∨ n = 8 ∨ n = 9 ∨ n = 10 := by omega
  · exact all_at from_ev1 (by omega)
  · exact all_at from_ev2 (by omega)
  · exact all_at from_ev3 (by omega)
  · exact all_at from_ev4 (by omega)
  · exact all_at from_ev5 (by omega)
  · exact all_at from_ev6 (by omega)
  · exact all_at from_ev7 (by omega)
  · exact all_at from_ev8 (by omega)
  · exact all_at from_ev9 (by omega)
  · exact all_at from_ev10 (by omega)
theorem knownF_some {args : List Value} {v : Value} (h : knownF args = some v) : ∃ n k : Nat, (1 ≤ n ∧ n ≤ 10) ∧ (1 ≤ k ∧ k ≤ n) ∧ args = [.int .i64 (.ofNat n), .int .i64 (.ofNat k)] ∧ v = tupV (frm n k) := by
  unfold knownF at h
  split at h
  · rename_i n k
    split at h
    · rename_i hc
      cases h
      refine ⟨n.toNat, k.toNat, by omega, by omega, ?_, rfl⟩
      rw [show Int.ofNat n.toNat = n from Int.toNat_of_nonneg (by omega), show Int.ofNat k.toNat = k from Int.toNat_of_nonneg (by omega)]
    · cases h
  · cases h
theorem knownK1_sound : ∀ f args v, knownK1 f args = some v → Known Try.prog f args v := by
  have inst : Inhabited Bound := ⟨⟨0⟩⟩
  intro f args v h
  unfold knownK1 at h
  split at h
  · rename_i hf
    subst hf
    split at h
    · cases h
      exact Known.of_calls Try.func14 (by kernel_rfl) (by kernel_rfl) alive_calls
    · cases h
  · split at h
    · rename_i hf
      subst hf
      obtain ⟨k, hk, rfl, rfl⟩ := knownC_some h
      exact Known.of_calls Try.func24 (by kernel_rfl) (by kernel_rfl) (runK_calls rfl (all_at count_ev (show k < 11 by omega)))
    · split at h
      · rename_i hf
        subst hf
        obtain ⟨k, hk, rfl, rfl⟩ := knownC_some h
        exact Known.of_calls Try.func28 (by kernel_rfl) (by kernel_rfl) (runK_calls rfl (all_at andre_ev (show k < 11 by omega)))
      · split at h
        · rename_i hf
          subst hf
          obtain ⟨k, hk, rfl, rfl⟩ := knownC_some h
          exact Known.of_calls Try.func29 (by kernel_rfl) (by kernel_rfl) (runK_calls rfl (all_at refAndre_ev (show k < 11 by omega)))
        · split at h
          · rename_i hf
            subst hf
            obtain ⟨n, k, hn, hk, rfl, rfl⟩ := knownF_some h
            exact Known.of_calls Try.func26 (by kernel_rfl) (by kernel_rfl) (runK_calls rfl (from_ev hn hk))
          · cases h
def X1 : Caller := knownX knownK1
theorem X1_orac (i : Inhabited Bound) : @Orac i Try.prog X1 := @knownX_orac i Try.prog knownK1 knownK1_sound
theorem X1_none {f : FuncId} {l : List Value} (hk : knownK1 f l = none) (h : AH) : X1 f l h = none := by
  unfold X1 knownX
  rw [hk]
  cases l.all plainV <;> rfl
theorem X1_free {f : FuncId} (hf : f ≠ 14 ∧ f ≠ 24 ∧ f ≠ 26 ∧ f ≠ 28 ∧ f ≠ 29) (l : List Value) (h : AH) : X1 f l h = none := by
  refine X1_none ?_ h
  unfold knownK1
  rw [if_neg hf.1, if_neg hf.2.1, if_neg hf.2.2.2.1, if_neg hf.2.2.2.2, if_neg hf.2.2.1]
structure Xok1 (X : Caller) : Prop extends Xok X where
  count : ∀ k : Nat, k ≤ 10 → ∀ g : GH, Rets Try.prog X 24 [.int .i64 (k : Int)] g (fun v g' lo => g.next ≤ lo ∧ v = .tuple #[.int .i64 (zig k : Nat), .int .i64 0])
  andre : ∀ k : Nat, k ≤ 10 → ∀ g : GH, Rets Try.prog X 28 [.int .i64 (k : Int)] g (fun v g' lo => g.next ≤ lo ∧ v = .tuple #[.int .i64 (zig k : Nat), .int .i64 0])
  refAndre : ∀ k : Nat, k ≤ 10 → ∀ g : GH, Rets Try.prog X 29 [.int .i64 (k : Int)] g (fun v g' lo => g.next ≤ lo ∧ v = .tuple #[.int .i64 (zig k : Nat), .int .i64 0])
  frm : ∀ n k : Nat, (1 ≤ n ∧ n ≤ 10) → (1 ≤ k ∧ k ≤ n) → ∀ g : GH, Rets Try.prog X 26 [.int .i64 (n : Int), .int .i64 (k : Int)] g (fun v g' lo => g.next ≤ lo ∧ v = .tuple #[.int .i64 (frm n k : Nat), .int .i64 0])
  none24 : ∀ n : Int, n < 0 ∨ 10 < n → ∀ h, X 24 [.int .i64 n] h = none
  none28 : ∀ n : Int, n < 0 ∨ 10 < n → ∀ h, X 28 [.int .i64 n] h = none
  none29 : ∀ n : Int, n < 0 ∨ 10 < n → ∀ h, X 29 [.int .i64 n] h = none
  none26 : ∀ n k : Int, (n < 1 ∨ 10 < n ∨ k < 1 ∨ n < k) → ∀ h, X 26 [.int .i64 n, .int .i64 k] h = none
theorem knownC_at (f : FuncId) {k : Nat} (hk : k ≤ 10) : knownC f [.int .i64 (k : Int)] = some (tupV (zig k)) := by
  unfold knownC
  simp only
  rw [if_pos (by omega)]; rfl
theorem knownC_out (f : FuncId) {n : Int} (hn : n < 0 ∨ 10 < n) : knownC f [.int .i64 n] = none := by
  unfold knownC
  simp only
  rw [if_neg (by omega)]
theorem knownF_at {n k : Nat} (hn : 1 ≤ n ∧ n ≤ 10) (hk : 1 ≤ k ∧ k ≤ n) : knownF [.int .i64 (n : Int), .int .i64 (k : Int)] = some (tupV (frm n k)) := by
  unfold knownF
  simp only
  rw [if_pos (by omega)]; rfl
theorem knownF_out {n k : Int} (hn : n < 1 ∨ 10 < n ∨ k < 1 ∨ n < k) : knownF [.int .i64 n, .int .i64 k] = none := by
  unfold knownF
  simp only
  rw [if_neg (by omega)]
theorem X1_ok : Xok1 X1 where
  pres := fun i => (X1_orac i).pres
  free := fun f h l h2 => X1_free h l h2
  alive := fun g => Rets.known rfl (v := .bool true) rfl rfl ⟨Nat.le_refl _, rfl⟩
  count := fun k hk g => Rets.known rfl (v := tupV (zig k)) (knownC_at 24 hk) rfl ⟨Nat.le_refl _, rfl⟩
  andre := fun k hk g => Rets.known rfl (v := tupV (zig k)) (knownC_at 28 hk) rfl ⟨Nat.le_refl _, rfl⟩
  refAndre := fun k hk g => Rets.known rfl (v := tupV (zig k)) (knownC_at 29 hk) rfl ⟨Nat.le_refl _, rfl⟩
  frm := fun n k hn hk g => Rets.known rfl (v := tupV (frm n k)) (knownF_at hn hk) rfl ⟨Nat.le_refl _, rfl⟩
  none24 := fun n hn h => X1_none (f := 24) (l := [.int .i64 n]) (knownC_out 24 hn) h
  none28 := fun n hn h => X1_none (f := 28) (l := [.int .i64 n]) (knownC_out 28 hn) h
  none29 := fun n hn h => X1_none (f := 29) (l := [.int .i64 n]) (knownC_out 29 hn) h
  none26 := fun n k hn h => X1_none (f := 26) (l := [.int .i64 n, .int .i64 k]) (knownF_out hn) h
end Go.Proofs.Yteeelcmnlomgmaa
