import Derived.Test.YtngmaccaldhjcaaDoorDtC
set_option linter.all false
set_option linter.unusedSimpArgs false
set_option linter.unnecessarySimpa false
set_option linter.unusedVariables false
set_option linter.unusedSectionVars false
set_option linter.unusedSectionVars false
set_option linter.unusedVariables false
namespace Go.Ds
section
variable {P : Program} {X : Caller} {Q : Out → Env → GH → Nat → Prop} {gd : Option (P3 × Bool)} {dd : Option P3} {l : List PI} {k : Nat} {sp : List (Nat × (Nat × Nat))} {wr : List Nat} {ks : List Fr} {e : Env} {g : GH} {lo : Nat}
theorem GR.mkslice {t : TypeId} {b : Nat} {zero : List Value} {x y : PO} {n c : Nat} (hg : wantF e gd = some true) (hx : asNat (ev e x) = some n) (hy : asNat (ev e y) = some c) (hn : n ≤ c) (hc : c * (b + 1) ≤ 1073741824)
    (h : GR P X Q l (Nat.succ k) ((k, (g.next, Nat.succ g.next)) :: sp) wr ks (putE e dd (.slice (some ⟨g.next, 0, none⟩) n c)) (g.push (cellsOb (repeatN zero c) t)) lo) :
    GR P X Q (⟨gd, dd, none, some (.mkslice t b zero x y), []⟩ :: l) k sp wr ks e g lo := by
  refine GR.more (g' := g.push (cellsOb (repeatN zero c) t)) hg (Hp.mk (bnd (g.next + 1)) fun call => ?_) rfl (Nat.le_succ _) h
  simp only [runH, mksliceF, hx, hy]
  rw [show Nat.ble n c = true by rw [ble_d]; simpa using hn, show Nat.ble (c * Nat.succ b) 1073741824 = true by rw [ble_d]; simpa using hc]
  simp only [Bool.and_self, cond_true]
  exact pushF_big (h := g.at g.next)
theorem iaddrS_at {j n c m : Nat} {x : Int} (hx : x = m) (hm : m < n) : iaddrSF 1 (.slice (some ⟨j, 0, none⟩) n c) (.int .i64 x) = some (.pointer (some ⟨j, m, none⟩)) := by
  subst hx
  simp only [iaddrSF, asNat_nat]
  rw [show Nat.blt m n = true from Nat.blt_eq ▸ hm]
  simp only [cond_true, Addr.add, Nat.mul_one, Nat.zero_add]
  by_cases c : m = 0
  · subst c; rfl
  · simp [c]
theorem splice_set : ∀ (i : Nat) (l : List Value) (v : Value), i < l.length → splice i l [v] = l.set i v
  | 0, [], v, h => by simp at h
  | 0, x :: l, v, _ => by simp [splice, lenN, dropN]
  | i + 1, [], v, h => by simp at h
  | i + 1, x :: l, v, h => by simp only [splice, List.set_cons_succ]; rw [splice_set i l v (by simpa using h)]
theorem repeatN_replicate (v : Value) : ∀ n, repeatN [v] n = List.replicate n v
  | 0 => rfl
  | n + 1 => by simp only [repeatN, repeatN_replicate v n]; rfl

end
end Go.Ds
