import Derived.Test.YtnpapnpedcbfnaaDoorJ2
import Derived.Test.YtnpapnpedcbfnaaDoorVm
import Derived.Test.YtnpapnpedcbfnaaDoorJ1
import Derived.Test.YtnpapnpedcbfnaaDoorKc
import Derived.Test.YtnpapnpedcbfnaaDoorDtO
set_option linter.all false
set_option linter.unusedSimpArgs false
set_option linter.unnecessarySimpa false
set_option linter.unusedVariables false
set_option linter.unusedSectionVars false
set_option linter.unusedVariables false
namespace Go.Proofs.YtnpapnpedcbfnaaDoor
open Go.Vs
/-! ## Pairs that are a matching -/
theorem scan_mat {L : List Int} : ∀ (P : List (Int × Int)) (last : Int) (tk s : Nat), -1 ≤ last → (∀ j, s.testBit j = (decide (j < L.length) && decide (last < (j : Int)) && !tk.testBit j)) → scanM L P last tk = true → ∃ Q, P = toI Q ∧ mat (setF L) s Q = true
  | [], last, tk, s, _, _, _ => ⟨[], rfl, rfl⟩
  | (x, y) :: P, last, tk, s, hl, hs, h => by
    have h : (goodP L last tk x y && scanM L P x (tk ||| 2 ^ x.toNat ||| 2 ^ y.toNat)) = true := h
    rw [Bool.and_eq_true] at h
    obtain ⟨h1, h2⟩ := h
    unfold goodP at h1
    simp only [Bool.and_eq_true, decide_eq_true_eq, Bool.not_eq_true'] at h1
    obtain ⟨⟨⟨⟨⟨q1, q2⟩, q3⟩, q4⟩, q5⟩, q6⟩ := h1
    obtain ⟨a, rfl⟩ : ∃ a : Nat, x = a := ⟨x.toNat, by omega⟩
    obtain ⟨b, rfl⟩ : ∃ b : Nat, y = b := ⟨y.toNat, by omega⟩
    simp only [Int.toNat_natCast] at q4 q5 q6 h2
    obtain ⟨Q, hQ, hm⟩ := scan_mat P a (tk ||| 2 ^ a ||| 2 ^ b) (del (up s a) b) (by omega) (fun j => by
      rw [del_bit, up_bit, hs, Nat.testBit_or, Nat.testBit_or]
      by_cases c1 : j < L.length
      · by_cases c2 : a < j
        · have e1 : (2 ^ a).testBit j = false := Nat.testBit_two_pow_of_ne (by omega)
          rw [decide_eq_true c1, decide_eq_true (p := last < (j : Int)) (by omega), decide_eq_true c2, decide_eq_true (p := (a : Int) < j) (by omega), e1]
          by_cases c3 : j = b
          · subst c3; rw [Nat.testBit_two_pow_self]; simp
          · rw [Nat.testBit_two_pow_of_ne (Ne.symm c3)]; simp [c3]
        · rw [decide_eq_false c2, decide_eq_false (p := (a : Int) < j) (by omega)]; simp
      · rw [decide_eq_false c1]; simp) h2
    refine ⟨(a, b) :: Q, by rw [hQ]; rfl, mat_mk (by omega) ?_ ?_ q4 hm⟩
    · rw [hs, q5, decide_eq_true (p := a < L.length) (by omega), decide_eq_true (p := last < (a : Int)) (by omega)]; rfl
    · rw [hs, q6, decide_eq_true (p := b < L.length) (by omega), decide_eq_true (p := last < (b : Int)) (by omega)]; rfl
theorem matI_mat {L : List Int} {P : List (Int × Int)} (h : matI L P = true) : ∃ Q, P = toI Q ∧ mat (setF L) (allN L.length) Q = true :=
  scan_mat P (-1) 0 (allN L.length) (by omega) (fun j => by
    rw [all_bit, decide_eq_true (p := (-1 : Int) < (j : Int)) (by omega)]
    simp) h
theorem all_lt (n : Nat) : allN n < 2 ^ n := by unfold allN; have := Nat.two_pow_pos n; omega
end Go.Proofs.YtnpapnpedcbfnaaDoor
set_option linter.unusedVariables false
namespace Go.Proofs.YtnpapnpedcbfnaaDoor
open Go.Vs
/-! ## How many members -/
def pc (n : Nat) (p : Nat → Bool) : Nat := (List.range n).countP p
theorem pc_more {p q : Nat → Bool} {n k : Nat} (hk : k < n) (hq : q k = true) (hp : p k = false) (h : ∀ j, p j = true → q j = true) : pc n p + 1 ≤ pc n q := by
  have h1 := countP_one (p := fun j => p j || decide (j = k)) (q := p) (k := k) (by simp) hp (fun j hj => by simp [hj]) n hk
  have h2 : (List.range n).countP (fun j => p j || decide (j = k)) ≤ (List.range n).countP q := by
    refine List.countP_mono_left fun j hj hh => ?_
    rw [Bool.or_eq_true, decide_eq_true_eq] at hh
    rcases hh with hh | hh
    · exact h j hh
    · rw [hh]; exact hq
  unfold pc
  omega
theorem pc_le {p q : Nat → Bool} {n : Nat} (h : ∀ j, j < n → p j = true → q j = true) : pc n p ≤ pc n q :=
  List.countP_mono_left fun j hj hh => h j (List.mem_range.1 hj) hh
theorem pc_or (n s k : Nat) : pc n (s ||| 2 ^ k).testBit ≤ pc n s.testBit + 1 := by
  by_cases c : k < n ∧ s.testBit k = false
  · have := countP_one (p := (s ||| 2 ^ k).testBit) (q := s.testBit) (k := k) (by rw [Nat.testBit_or, Nat.testBit_two_pow_self]; simp) c.2 (fun j hj => by rw [Nat.testBit_or, Nat.testBit_two_pow_of_ne (Ne.symm hj), Bool.or_false]) n c.1
    unfold pc
    omega
  · have : pc n (s ||| 2 ^ k).testBit ≤ pc n s.testBit := pc_le fun j hj hh => by
      rw [Nat.testBit_or, Bool.or_eq_true] at hh
      rcases hh with hh | hh
      · exact hh
      · by_cases cj : j = k
        · subst cj
          cases h : s.testBit j with
          | true => rfl
          | false => exact absurd ⟨hj, h⟩ c
        · rw [Nat.testBit_two_pow_of_ne (Ne.symm cj)] at hh; cases hh
    omega
def sz (s : Nat) : Nat := if h : s = 0 then 0 else s % 2 + sz (s / 2)
termination_by s
decreasing_by omega
theorem sz_pc : ∀ n s, s < 2 ^ n → sz s = pc n s.testBit
  | 0, s, h => by
    obtain rfl : s = 0 := by simpa using h
    unfold sz; rfl
  | n + 1, s, h => by
    have h2 : s / 2 < 2 ^ n := by rw [Nat.pow_succ] at h; omega
    have ih := sz_pc n (s / 2) h2
    have e : pc (n + 1) s.testBit = s % 2 + pc n (s / 2).testBit := by
      unfold pc
      rw [List.range_succ_eq_map, List.countP_cons, List.countP_map]
      have e1 : s.testBit ∘ Nat.succ = (s / 2).testBit := by
        funext j
        show s.testBit (j + 1) = _
        rw [Nat.testBit_succ]
      rw [e1, Nat.testBit_zero]
      by_cases c : s % 2 = 1
      · simp [c]; omega
      · simp [c]; omega
    unfold sz
    split
    · rename_i h0
      subst h0
      rw [e]
      have : sz 0 = 0 := by unfold sz; rfl
      rw [← ih, Nat.zero_div, this]
    · rw [e, ih]
/-! ## Covers -/
def covB (A : Nat → Nat) (S i : Nat) : Bool := S.testBit i || decide (andn (A i) S = 0)
theorem cov_adj {A : Nat → Nat} {n S a b : Nat} (hn : n ≤ 10) (hS : S < 2 ^ n) (hA : A a < 2 ^ n) (h : covB A S a = true) (hab : (A a).testBit b = true) : S.testBit a = true ∨ S.testBit b = true := by
  unfold covB at h
  rw [Bool.or_eq_true, decide_eq_true_eq] at h
  rcases h with h | h
  · exact .inl h
  · have hb := bit_lt hA hab
    have h2 : 2 ^ n ≤ 1024 := Nat.pow_le_pow_right (by decide) hn
    have := andn_bit (a := A a) (b := S) (k := b) (by omega) (by omega)
    rw [h, Nat.zero_testBit, hab, Bool.true_and] at this
    right
    simpa using this.symm
theorem cov_le {A : Nat → Nat} {n S : Nat} (hn : n ≤ 10) (hS : S < 2 ^ n) (hA : ∀ i, i < n → A i < 2 ^ n) (h : ∀ i, i < n → covB A S i = true) : ∀ (P : List (Nat × Nat)) (t : Nat), t < 2 ^ n → mat A t P = true → P.length ≤ pc n (fun j => S.testBit j && t.testBit j)
  | [], t, _, _ => Nat.zero_le _
  | (a, b) :: P, t, ht, hm => by
    obtain ⟨h1, h2, h3, h4, h5⟩ := mat_cons hm
    have ha := bit_lt ht h2
    have hb := bit_lt ht h3
    have hlt : del (up t a) b < 2 ^ n := by
      apply Nat.lt_pow_two_of_testBit
      intro j hj
      rw [del_bit, up_bit]
      have := Nat.testBit_lt_two_pow (Nat.lt_of_lt_of_le ht (Nat.pow_le_pow_right (by decide) hj))
      rw [this]; rfl
    have ih := cov_le hn hS hA h P (del (up t a) b) hlt h5
    have key : ∀ k, k < n → S.testBit k = true → t.testBit k = true → (del (up t a) b).testBit k = false → P.length + 1 ≤ pc n (fun j => S.testBit j && t.testBit j) := fun k hk q1 q2 q3 => by
      have := pc_more (p := fun j => S.testBit j && (del (up t a) b).testBit j) (q := fun j => S.testBit j && t.testBit j) (n := n) hk (by simp [q1, q2]) (by simp [q3]) (fun j hj => by
        rw [Bool.and_eq_true, del_bit, up_bit, Bool.and_eq_true, Bool.and_eq_true] at hj
        rw [hj.1, hj.2.1.1]; rfl)
      omega
    rw [List.length_cons]
    rcases cov_adj hn hS (hA a ha) (h a ha) h4 with q | q
    · exact key a ha q h2 (by rw [del_bit, up_bit]; simp)
    · exact key b hb q h3 (by rw [del_bit]; simp)
theorem cov_lrg {A : Nat → Nat} {n S : Nat} (hn : n ≤ 10) (hS : S < 2 ^ n) (hA : ∀ i, i < n → A i < 2 ^ n) (h : ∀ i, i < n → covB A S i = true) : (lrg A n (allN n)).length ≤ sz S := by
  have h1 := cov_le hn hS hA h _ (allN n) (all_lt n) (lrg_mat A n (allN n))
  rw [sz_pc n S hS]
  refine Nat.le_trans h1 (pc_le fun j hj hh => ?_)
  rw [Bool.and_eq_true] at hh
  exact hh.1
/-! ## What pairs have -/
theorem tkn_pc (n : Nat) : ∀ (P : List (Int × Int)) (tk : Nat), pc n (tkn P tk).testBit ≤ pc n tk.testBit + 2 * P.length
  | [], tk => by show pc n tk.testBit ≤ _; omega
  | (a, b) :: P, tk => by
    have h1 := tkn_pc n P (tk ||| 2 ^ a.toNat ||| 2 ^ b.toNat)
    have h2 := pc_or n tk a.toNat
    have h3 := pc_or n (tk ||| 2 ^ a.toNat) b.toNat
    show pc n (tkn P (tk ||| 2 ^ a.toNat ||| 2 ^ b.toNat)).testBit ≤ _
    rw [List.length_cons]
    omega
theorem mat_mem {A : Nat → Nat} : ∀ (Q : List (Nat × Nat)) {s : Nat}, mat A s Q = true → ∀ q ∈ Q, s.testBit q.1 = true ∧ s.testBit q.2 = true
  | [], _, _, q, h => by cases h
  | (a, b) :: Q, s, hm, q, h => by
    obtain ⟨h1, h2, h3, h4, h5⟩ := mat_cons hm
    rcases List.mem_cons.1 h with rfl | h
    · exact ⟨h2, h3⟩
    · obtain ⟨q1, q2⟩ := mat_mem Q h5 q h
      rw [del_bit, up_bit, Bool.and_eq_true, Bool.and_eq_true] at q1 q2
      exact ⟨q1.1.1, q2.1.1⟩
theorem tkn_lt (n : Nat) : ∀ (Q : List (Nat × Nat)) (tk : Nat), tk < 2 ^ n → (∀ q ∈ Q, q.1 < n ∧ q.2 < n) → tkn (toI Q) tk < 2 ^ n
  | [], tk, h, _ => h
  | (a, b) :: Q, tk, h, hq => by
    have h1 := hq (a, b) (by simp)
    exact tkn_lt n Q _ (or_lt (or_lt h h1.1) h1.2) fun q hm => hq q (List.mem_cons_of_mem _ hm)
theorem tkn_sz {n : Nat} {Q : List (Nat × Nat)} (hq : ∀ q ∈ Q, q.1 < n ∧ q.2 < n) : sz (tkn (toI Q) 0) ≤ 2 * Q.length := by
  rw [sz_pc n _ (tkn_lt n Q 0 (Nat.two_pow_pos n) hq)]
  have := tkn_pc n (toI Q) 0
  have h0 : pc n (0 : Nat).testBit = 0 := by
    unfold pc
    rw [List.countP_eq_zero]
    intro j _
    simp
  have e : (toI Q).length = Q.length := by simp [toI]
  omega
end Go.Proofs.YtnpapnpedcbfnaaDoor
set_option maxRecDepth 100000
set_option maxHeartbeats 4000000
set_option linter.unusedSimpArgs false
set_option linter.unusedVariables false
namespace Go.Proofs.YtnpapnpedcbfnaaDoor
open Go.Ds Go.Vs
theorem size_rets {X : Caller} (hX : Xfr X) (S : Nat) (hS : S < 1024) (g : GH) : Rets Tryd.prog X 41 [.int .i64 (S : Int)] g (fun v g' lo => g.next ≤ lo ∧ v = .int .i64 (sz S : Nat)) := by
  refine Rets.run hX.pres p41 (hX.free 41 (by decide) _ _) rfl fun ho => ?_
  simp +decide (disch := first | assumption | exact cellV_int _ _ | exact cellV_bool _ | omega | (simp only [GH.pn, GH.sn] <;> omega) | (with_reducible ((repeat (first | apply GH.ok_push | apply GH.ok_set)); assumption)) | ((try simp only [GH.push_hid, GH.set_hid]); first | assumption | (refine GH.vis ?_ ?_ <;> first | assumption | ((try simp only [GH.pn, GH.sn]) <;> omega)))) only [go_sem, ↓reduceIte, Nat.reduceEqDiff, Nat.reduceAdd, Int.reduceToNat, Int.reduceAdd, Int.reduceNeg, Int.reduceSub, Int.reduceMul, Int.reduceLT, Int.reduceLE, Int.reduceEq, ↓GH.gp_eq, ↓GH.gp_ne, ↓GH.gs_eq, ↓GH.gs_ne, GH.push_next, GH.set_next]
  refine Wk.loops (fun m e g' lo => g' = g ∧ g.next ≤ lo ∧ ∃ acc : Nat, m < 1024 ∧ acc + m ≤ S ∧ acc + sz m = sz S ∧ (ev e (.s 0) = .int .i64 (m : Nat) ∧ ev e (.s 3) = .int .i64 (acc : Nat)))
    (fun e g' lo => g' = g ∧ g.next ≤ lo ∧ ev e (.s 3) = .int .i64 (sz S : Nat)) (n := S) ?_ ?_ ?_
  · exact ⟨rfl, Nat.le_refl _, 0, hS, by omega, by omega, (by simp +decide (disch := first | assumption | (apply GH.ok_push; assumption) | exact cellV_int _ _ | exact cellV_bool _ | omega) only [go_sem, ↓reduceIte, Nat.reduceEqDiff, Nat.reduceAdd, Int.reduceToNat]; first | done | exact rfl)⟩
  · rintro e g' lo - - ⟨rfl, hlo, he⟩
    simp +decide (disch := first | assumption | exact cellV_int _ _ | exact cellV_bool _ | omega | (simp only [GH.pn, GH.sn] <;> omega) | (with_reducible ((repeat (first | apply GH.ok_push | apply GH.ok_set)); assumption)) | ((try simp only [GH.push_hid, GH.set_hid]); first | assumption | (refine GH.vis ?_ ?_ <;> first | assumption | ((try simp only [GH.pn, GH.sn]) <;> omega)))) only [go_sem, ↓reduceIte, Nat.reduceEqDiff, Nat.reduceAdd, Int.reduceToNat, Int.reduceAdd, Int.reduceNeg, Int.reduceSub, Int.reduceMul, Int.reduceLT, Int.reduceLE, Int.reduceEq, ↓GH.gp_eq, ↓GH.gp_ne, ↓GH.gs_eq, ↓GH.gs_ne, GH.push_next, GH.set_next, he]
    intro hx0
    exact ⟨hlo, rfl⟩
  · rintro m e g' lo ho' hl' ih out ⟨rfl, hlo, acc, hm, hle, hsz, he⟩
    have hu := sz.eq_def m
    by_cases c : m = 0
    · subst c
      simp +decide (disch := first | assumption | exact cellV_int _ _ | exact cellV_bool _ | omega | (simp only [GH.pn, GH.sn] <;> omega) | (with_reducible ((repeat (first | apply GH.ok_push | apply GH.ok_set)); assumption)) | ((try simp only [GH.push_hid, GH.set_hid]); first | assumption | (refine GH.vis ?_ ?_ <;> first | assumption | ((try simp only [GH.pn, GH.sn]) <;> omega)))) only [go_sem, ↓reduceIte, Nat.reduceEqDiff, Nat.reduceAdd, Int.reduceToNat, Int.reduceAdd, Int.reduceNeg, Int.reduceSub, Int.reduceMul, Int.reduceLT, Int.reduceLE, Int.reduceEq, ↓GH.gp_eq, ↓GH.gp_ne, ↓GH.gs_eq, ↓GH.gs_ne, GH.push_next, GH.set_next, he]
      rw [dif_pos rfl] at hu
      refine out _ _ _ ⟨rfl, hlo, ?_⟩
      rw [← hsz, hu, Nat.add_zero]
      exact (by simp +decide (disch := first | assumption | (apply GH.ok_push; assumption) | exact cellV_int _ _ | exact cellV_bool _ | omega) only [go_sem, ↓reduceIte, Nat.reduceEqDiff, Nat.reduceAdd, Int.reduceToNat, he]; first | done | exact rfl)
    · have c' : (0 : Int) < m := by omega
      have r1 : ((m : Int)).tmod 2 = ((m % 2 : Nat) : Int) := rfl
      have r2 : ((m : Int)).tdiv 2 = ((m / 2 : Nat) : Int) := rfl
      rw [dif_neg c] at hu
      simp +decide (disch := first | assumption | exact cellV_int _ _ | exact cellV_bool _ | omega | (simp only [GH.pn, GH.sn] <;> omega) | (with_reducible ((repeat (first | apply GH.ok_push | apply GH.ok_set)); assumption)) | ((try simp only [GH.push_hid, GH.set_hid]); first | assumption | (refine GH.vis ?_ ?_ <;> first | assumption | ((try simp only [GH.pn, GH.sn]) <;> omega)))) only [go_sem, ↓reduceIte, Nat.reduceEqDiff, Nat.reduceAdd, Int.reduceToNat, Int.reduceAdd, Int.reduceNeg, Int.reduceSub, Int.reduceMul, Int.reduceLT, Int.reduceLE, Int.reduceEq, ↓GH.gp_eq, ↓GH.gp_ne, ↓GH.gs_eq, ↓GH.gs_ne, GH.push_next, GH.set_next, he, c', r1, r2]
      exact ih (m / 2) _ _ _ (by omega) ⟨rfl, hlo, acc + m % 2, by omega, by omega, by omega, (by simp +decide (disch := first | assumption | (apply GH.ok_push; assumption) | exact cellV_int _ _ | exact cellV_bool _ | omega) only [go_sem, ↓reduceIte, Nat.reduceEqDiff, Nat.reduceAdd, Int.reduceToNat, he]; first | done | exact rfl)⟩
end Go.Proofs.YtnpapnpedcbfnaaDoor
set_option maxRecDepth 100000
set_option maxHeartbeats 4000000
set_option linter.unusedSimpArgs false
set_option linter.unusedVariables false
namespace Go.Proofs.YtnpapnpedcbfnaaDoor
open Go.Ds Go.Vs
theorem ex20 (a b : Value) : extF (.tuple #[a, b]) 0 = some a := Eq.trans rfl rfl
theorem ex21 (a b : Value) : extF (.tuple #[a, b]) 1 = some b := Eq.trans rfl rfl
theorem remN (x k : Nat) : ((x : Int) / 2 ^ k).tmod 2 = b01 (x.testBit k) := by
  have := rem_fact (x := (x : Int)) (by omega) k
  rw [bitI_nat] at this
  exact this
/-- Two lists with the same numbers. -/
theorem sameR_rets {X : Caller} (hX : Xfr X) (D : List Int) (hD : D.length < 1000000) (s t : Value) (g : GH) (hs : SlR g s (ints D)) (ht : SlR g t (ints D)) :
    Rets Tryd.prog X 24 [s, t] g (fun v g' lo => g.next ≤ lo ∧ v = .bool true) := by
  have hl := hs.len
  have hl2 := ht.len
  rw [ints_len] at hl hl2
  refine Rets.run hX.pres p24 (hX.free 24 (by decide) _ _) rfl fun ho => ?_
  simp +decide (disch := first | assumption | exact cellV_int _ _ | exact cellV_bool _ | omega | (simp only [GH.pn, GH.sn] <;> omega) | (with_reducible ((repeat (first | apply GH.ok_push | apply GH.ok_set)); assumption)) | ((try simp only [GH.push_hid, GH.set_hid]); first | assumption | (refine GH.vis ?_ ?_ <;> first | assumption | ((try simp only [GH.pn, GH.sn]) <;> omega)))) only [go_sem, ↓reduceIte, Nat.reduceEqDiff, Nat.reduceAdd, Int.reduceToNat, Int.reduceAdd, Int.reduceNeg, Int.reduceSub, Int.reduceMul, Int.reduceLT, Int.reduceLE, Int.reduceEq, ↓GH.gp_eq, ↓GH.gp_ne, ↓GH.gs_eq, ↓GH.gs_ne, GH.push_next, GH.set_next, hl, hl2]
  refine Wk.loops (fun m e g' lo => g' = g ∧ g.next ≤ lo ∧ ∃ i : Nat, i + m = D.length ∧ (ev e (.s 0) = s ∧ ev e (.s 1) = t ∧ ev e (.s 5) = .int .i64 (i : Nat)))
    (fun e g' lo => g.next ≤ lo) (n := D.length) ?_ ?_ ?_
  · exact ⟨rfl, by omega, 0, by omega, (by simp +decide (disch := first | assumption | (apply GH.ok_push; assumption) | exact cellV_int _ _ | exact cellV_bool _ | omega) only [go_sem, ↓reduceIte, Nat.reduceEqDiff, Nat.reduceAdd, Int.reduceToNat]; first | done | exact rfl)⟩
  · rintro e g' lo - - hlo
    simp +decide (disch := first | assumption | exact cellV_int _ _ | exact cellV_bool _ | omega | (simp only [GH.pn, GH.sn] <;> omega) | (with_reducible ((repeat (first | apply GH.ok_push | apply GH.ok_set)); assumption)) | ((try simp only [GH.push_hid, GH.set_hid]); first | assumption | (refine GH.vis ?_ ?_ <;> first | assumption | ((try simp only [GH.pn, GH.sn]) <;> omega)))) only [go_sem, ↓reduceIte, Nat.reduceEqDiff, Nat.reduceAdd, Int.reduceToNat, Int.reduceAdd, Int.reduceNeg, Int.reduceSub, Int.reduceMul, Int.reduceLT, Int.reduceLE, Int.reduceEq, ↓GH.gp_eq, ↓GH.gp_ne, ↓GH.gs_eq, ↓GH.gs_ne, GH.push_next, GH.set_next]
    intro hx0
    exact ⟨hlo, rfl⟩
  · rintro m e g' lo ho' hl' ih out ⟨rfl, hlo, i, hi, he⟩
    by_cases ci : i < D.length
    case neg =>
      have ci' : ¬ (i : Int) < D.length := by omega
      simp +decide (disch := first | assumption | exact cellV_int _ _ | exact cellV_bool _ | omega | (simp only [GH.pn, GH.sn] <;> omega) | (with_reducible ((repeat (first | apply GH.ok_push | apply GH.ok_set)); assumption)) | ((try simp only [GH.push_hid, GH.set_hid]); first | assumption | (refine GH.vis ?_ ?_ <;> first | assumption | ((try simp only [GH.pn, GH.sn]) <;> omega)))) only [go_sem, ↓reduceIte, Nat.reduceEqDiff, Nat.reduceAdd, Int.reduceToNat, Int.reduceAdd, Int.reduceNeg, Int.reduceSub, Int.reduceMul, Int.reduceLT, Int.reduceLE, Int.reduceEq, ↓GH.gp_eq, ↓GH.gp_ne, ↓GH.gs_eq, ↓GH.gs_ne, GH.push_next, GH.set_next, he, hl, ci']
      exact out _ _ _ hlo
    have ci' : (i : Int) < D.length := by omega
    obtain ⟨j, a, hj, hp1, hp2⟩ := hs.ptr (ints_get (D := D) (i := i) ci)
    have hp1 := hp1 (i : Int) rfl
    obtain ⟨j2, a2, hj2, hq1, hq2⟩ := ht.ptr (ints_get (D := D) (i := i) ci)
    have hq1 := hq1 (i : Int) rfl
    generalize D.getD i 0 = x at *
    simp +decide (disch := first | assumption | exact cellV_int _ _ | exact cellV_bool _ | omega | (simp only [GH.pn, GH.sn] <;> omega) | (with_reducible ((repeat (first | apply GH.ok_push | apply GH.ok_set)); assumption)) | ((try simp only [GH.push_hid, GH.set_hid]); first | assumption | (refine GH.vis ?_ ?_ <;> first | assumption | ((try simp only [GH.pn, GH.sn]) <;> omega)))) only [go_sem, ↓reduceIte, Nat.reduceEqDiff, Nat.reduceAdd, Int.reduceToNat, Int.reduceAdd, Int.reduceNeg, Int.reduceSub, Int.reduceMul, Int.reduceLT, Int.reduceLE, Int.reduceEq, ↓GH.gp_eq, ↓GH.gp_ne, ↓GH.gs_eq, ↓GH.gs_ne, GH.push_next, GH.set_next, he, hl, ci', hp1, hp2, hq1, hq2]
    exact ih (m - 1) _ _ _ (by omega) ⟨rfl, hlo, i + 1, by omega, (by simp +decide (disch := first | assumption | (apply GH.ok_push; assumption) | exact cellV_int _ _ | exact cellV_bool _ | omega) only [go_sem, ↓reduceIte, Nat.reduceEqDiff, Nat.reduceAdd, Int.reduceToNat, he]; first | done | exact rfl)⟩
end Go.Proofs.YtnpapnpedcbfnaaDoor
set_option linter.unusedVariables false
namespace Go.Vs
/-! ## What is reached, and parts -/
inductive Rch (A : Nat → Nat) (F h : Nat) : Nat → Prop
  | base : Rch A F h h
  | step {i k : Nat} : Rch A F h i → (A i).testBit k = true → F.testBit k = true → Rch A F h k
theorem Rch.trans {A : Nat → Nat} {F h i k : Nat} (a : Rch A F h i) (b : Rch A F i k) : Rch A F h k := by
  induction b with
  | base => exact a
  | step _ h1 h2 ih => exact .step ih h1 h2
theorem Rch.free {A : Nat → Nat} {F h k : Nat} (hh : F.testBit h = true) (a : Rch A F h k) : F.testBit k = true := by
  cases a with
  | base => exact hh
  | step _ _ h2 => exact h2
/-- Each goes with the other. -/
structure Shp (A : Nat → Nat) (n : Nat) : Prop where
  lt : ∀ i, i < n → A i < 2 ^ n
  sym : ∀ i k, i < n → k < n → (A i).testBit k = (A k).testBit i
theorem Rch.lt {A : Nat → Nat} {n F h k : Nat} (hF : F < 2 ^ n) (hh : h < n) (a : Rch A F h k) : k < n := by
  cases a with
  | base => exact hh
  | step _ _ h2 => exact bit_lt hF h2
theorem Rch.symm {A : Nat → Nat} {n F h k : Nat} (hA : Shp A n) (hF : F < 2 ^ n) (hh : F.testBit h = true) (a : Rch A F h k) : Rch A F k h := by
  induction a with
  | base => exact .base
  | @step i k h1 h2 h3 ih =>
    refine Rch.trans (.step .base ?_ (h1.free hh)) ih
    rw [hA.sym k i (bit_lt hF h3) (bit_lt hF (h1.free hh))]
    exact h2
/-- One round: the first hats' others are put in. -/
def grow (A : Nat → Nat) (F p : Nat) : Nat → Nat
  | 0 => p
  | i + 1 => if p.testBit i = true then grow A F p i ||| (A i &&& F) else grow A F p i
theorem grow_bit (A : Nat → Nat) (F p k : Nat) : ∀ n, (grow A F p n).testBit k = true ↔ p.testBit k = true ∨ ∃ i, i < n ∧ p.testBit i = true ∧ (A i).testBit k = true ∧ F.testBit k = true
  | 0 => ⟨.inl, fun h => by
      rcases h with h | ⟨i, h, _⟩
      · exact h
      · exact absurd h (Nat.not_lt_zero _)⟩
  | n + 1 => by
    have ih := grow_bit A F p k n
    unfold grow
    split
    · rename_i c
      rw [Nat.testBit_or, Bool.or_eq_true, ih, Nat.testBit_and, Bool.and_eq_true]
      constructor
      · rintro ((h | ⟨i, h1, h2⟩) | ⟨h1, h2⟩)
        · exact .inl h
        · exact .inr ⟨i, by omega, h2⟩
        · exact .inr ⟨n, by omega, c, h1, h2⟩
      · rintro (h | ⟨i, h1, h2, h3, h4⟩)
        · exact .inl (.inl h)
        · by_cases e : i = n
          · subst e; exact .inr ⟨h3, h4⟩
          · exact .inl (.inr ⟨i, by omega, h2, h3, h4⟩)
    · rename_i c
      rw [ih]
      constructor
      · rintro (h | ⟨i, h1, h2⟩)
        · exact .inl h
        · exact .inr ⟨i, by omega, h2⟩
      · rintro (h | ⟨i, h1, h2, h3⟩)
        · exact .inl h
        · by_cases e : i = n
          · subst e; exact absurd h2 c
          · exact .inr ⟨i, by omega, h2, h3⟩
theorem grow_lt {A : Nat → Nat} {F p n : Nat} (hF : F < 2 ^ n) (hp : p < 2 ^ n) (i : Nat) : grow A F p i < 2 ^ n := by
  induction i with
  | zero => exact hp
  | succ i ih =>
    unfold grow
    split
    · exact Nat.or_lt_two_pow ih (Nat.lt_of_le_of_lt Nat.and_le_right hF)
    · exact ih
theorem grow_le (A : Nat → Nat) (F p i : Nat) : p ≤ grow A F p i := by
  induction i with
  | zero => exact Nat.le_refl _
  | succ i ih =>
    unfold grow
    split
    · exact Nat.le_trans ih Nat.left_le_or
    · exact ih
def clo (A : Nat → Nat) (F n : Nat) : Nat → Nat → Nat
  | 0, p => p
  | f + 1, p => if grow A F p n = p then p else clo A F n f (grow A F p n)
def comp (A : Nat → Nat) (F n h : Nat) : Nat := clo A F n (2 ^ n) (2 ^ h)
theorem clo_stop {A : Nat → Nat} {F n p : Nat} (h : grow A F p n = p) (f : Nat) : clo A F n f p = p := by
  cases f with
  | zero => rfl
  | succ f => unfold clo; rw [if_pos h]
theorem clo_go {A : Nat → Nat} {F n p f : Nat} (h : grow A F p n ≠ p) : clo A F n (f + 1) p = clo A F n f (grow A F p n) := by
  rw [clo, if_neg h]
theorem clo_all {A : Nat → Nat} {F n h : Nat} (hF : F < 2 ^ n) : ∀ (f p : Nat), p < 2 ^ n → 2 ^ n ≤ p + f → (∀ k, p.testBit k = true → Rch A F h k) →
    clo A F n f p < 2 ^ n ∧ grow A F (clo A F n f p) n = clo A F n f p ∧ (∀ k, p.testBit k = true → (clo A F n f p).testBit k = true) ∧ (∀ k, (clo A F n f p).testBit k = true → Rch A F h k)
  | 0, p, h1, h2, h3 => by omega
  | f + 1, p, h1, h2, h3 => by
    by_cases c : grow A F p n = p
    · rw [clo_stop c]
      exact ⟨h1, c, fun _ h => h, h3⟩
    · rw [clo_go c]
      have h4 := grow_le A F p n
      obtain ⟨a1, a2, a3, a4⟩ := clo_all (h := h) hF f (grow A F p n) (grow_lt hF h1 n) (by omega) (fun k hk => by
        rcases (grow_bit A F p k n).1 hk with h | ⟨i, _, h5, h6, h7⟩
        · exact h3 k h
        · exact .step (h3 i h5) h6 h7)
      exact ⟨a1, a2, fun k hk => a3 k ((grow_bit A F p k n).2 (.inl hk)), a4⟩
theorem comp_lt {A : Nat → Nat} {F n h : Nat} (hF : F < 2 ^ n) (hh : h < n) : comp A F n h < 2 ^ n :=
  (clo_all (h := h) hF (2 ^ n) (2 ^ h) (Nat.pow_lt_pow_right (by decide) hh) (Nat.le_add_left _ _) (fun k hk => by
    by_cases e : k = h
    · subst e; exact .base
    · rw [Nat.testBit_two_pow_of_ne (Ne.symm e)] at hk; cases hk)).1
theorem comp_bit {A : Nat → Nat} {F n h : Nat} (hF : F < 2 ^ n) (hh : h < n) (k : Nat) : (comp A F n h).testBit k = true ↔ Rch A F h k := by
  obtain ⟨a1, a2, a3, a4⟩ := clo_all (A := A) (h := h) hF (2 ^ n) (2 ^ h) (Nat.pow_lt_pow_right (by decide) hh) (Nat.le_add_left _ _) (fun k hk => by
    by_cases e : k = h
    · subst e; exact .base
    · rw [Nat.testBit_two_pow_of_ne (Ne.symm e)] at hk; cases hk)
  refine ⟨a4 k, fun r => ?_⟩
  induction r with
  | base => exact a3 h Nat.testBit_two_pow_self
  | @step i k h1 h2 h3 ih =>
    show (clo A F n (2 ^ n) (2 ^ h)).testBit k = true
    rw [← a2]
    exact (grow_bit _ _ _ _ _).2 (.inr ⟨i, h1.lt hF hh, ih, h2, h3⟩)
theorem bit_ext {a b : Nat} (h : ∀ k, a.testBit k = true ↔ b.testBit k = true) : a = b :=
  Nat.eq_of_testBit_eq fun k => Bool.eq_iff_iff.2 (h k)
theorem comp_same {A : Nat → Nat} {F n h k : Nat} (hA : Shp A n) (hF : F < 2 ^ n) (hh : F.testBit h = true) (r : Rch A F h k) : comp A F n k = comp A F n h := by
  have h1 := bit_lt hF hh
  have h2 := r.lt hF h1
  refine bit_ext fun j => ?_
  rw [comp_bit hF h2, comp_bit hF h1]
  exact ⟨fun s => r.trans s, fun s => (r.symm hA hF hh).trans s⟩
theorem comp_cut {A : Nat → Nat} {F F' n h : Nat} (hF : F < 2 ^ n) (hF' : F' < 2 ^ n) (hh : h < n) (h1 : ∀ k, F'.testBit k = true → F.testBit k = true) (h2 : ∀ k, Rch A F h k → F.testBit k = true → F'.testBit k = true) : comp A F' n h = comp A F n h := by
  refine bit_ext fun j => ?_
  rw [comp_bit hF hh, comp_bit hF' hh]
  constructor
  · intro r
    induction r with
    | base => exact .base
    | step _ a b ih => exact .step ih a (h1 _ b)
  · intro r
    induction r with
    | base => exact .base
    | step r0 a b ih => exact .step ih a (h2 _ (.step r0 a b) b)
/-- The least hat of the part that a hat is in. -/
def lst (A : Nat → Nat) (F n h : Nat) : Nat := low (comp A F n h)
theorem comp_ne {A : Nat → Nat} {F n h : Nat} (hF : F < 2 ^ n) (hh : h < n) : comp A F n h ≠ 0 := by
  intro e
  have := (comp_bit (A := A) hF hh h).2 .base
  rw [e] at this
  simp at this
theorem lst_le {A : Nat → Nat} {F n h : Nat} (hF : F < 2 ^ n) (hh : h < n) : lst A F n h ≤ h := low_le ((comp_bit hF hh h).2 .base)
theorem lst_in {A : Nat → Nat} {F n h : Nat} (hF : F < 2 ^ n) (hh : h < n) : Rch A F h (lst A F n h) := (comp_bit hF hh _).1 (low_bit (comp_ne hF hh))
theorem lst_least {A : Nat → Nat} {F n h k : Nat} (hF : F < 2 ^ n) (hh : h < n) (r : Rch A F h k) : lst A F n h ≤ k := low_le ((comp_bit hF hh _).2 r)
theorem lst_same {A : Nat → Nat} {F n h k : Nat} (hA : Shp A n) (hF : F < 2 ^ n) (hh : F.testBit h = true) (r : Rch A F h k) : lst A F n k = lst A F n h := by
  unfold lst
  rw [comp_same hA hF hh r]
/-- The parts whose least hats are among the first ones. -/
def ptsL (A : Nat → Nat) (F n : Nat) : Nat → List Nat
  | 0 => []
  | i + 1 => if F.testBit i = true ∧ lst A F n i = i then ptsL A F n i ++ [comp A F n i] else ptsL A F n i
/-- The hats whose parts come later. -/
def frL (A : Nat → Nat) (F n : Nat) : Nat → Nat
  | 0 => F
  | i + 1 => if (frL A F n i).testBit i = true then andn (frL A F n i) (comp A F n i) else frL A F n i
theorem frL_le (A : Nat → Nat) (F n : Nat) : ∀ i, frL A F n i ≤ F
  | 0 => Nat.le_refl _
  | i + 1 => by
    unfold frL
    split
    · exact Nat.le_trans (andn_le _ _) (frL_le A F n i)
    · exact frL_le A F n i
theorem frL_bit {A : Nat → Nat} {F n : Nat} (hA : Shp A n) (hn : n ≤ 10) (hF : F < 2 ^ n) : ∀ i, i ≤ n → ∀ k, k < n → ((frL A F n i).testBit k = true ↔ F.testBit k = true ∧ i ≤ lst A F n k)
  | 0, _, k, _ => by unfold frL; simp
  | i + 1, hi, k, hk => by
    have ih := frL_bit hA hn hF i (by omega)
    have i1 := ih i (by omega)
    have ik := ih k hk
    have h64 : comp A F n i < 18446744073709551616 := Nat.lt_of_lt_of_le (comp_lt hF (by omega)) (Nat.le_trans (Nat.pow_le_pow_right (by decide) hn) (by decide))
    have e2 := lst_le (A := A) hF (show i < n by omega)
    have key : F.testBit k = true → lst A F n k = i → Rch A F i k ∧ F.testBit i = true := fun hk1 e => by
      have r := lst_in (A := A) hF hk
      rw [e] at r
      exact ⟨r.symm hA hF hk1, r.free hk1⟩
    unfold frL
    split
    · rename_i c
      obtain ⟨c1, c2⟩ := i1.1 c
      rw [andn_bit h64 (by omega), Bool.and_eq_true, ik]
      constructor
      · rintro ⟨⟨h1, h2⟩, h3⟩
        refine ⟨h1, ?_⟩
        rcases Nat.lt_or_ge i (lst A F n k) with h4 | h4
        · exact h4
        · obtain ⟨k1, k2⟩ := key h1 (by omega)
          rw [(comp_bit hF (by omega) k).2 k1] at h3
          cases h3
      · rintro ⟨h1, h2⟩
        refine ⟨⟨h1, by omega⟩, ?_⟩
        cases h5 : (comp A F n i).testBit k with
        | false => rfl
        | true =>
          exfalso
          have r := (comp_bit hF (by omega) k).1 h5
          have := lst_same hA hF c1 r
          omega
    · rename_i c
      rw [ik]
      constructor
      · rintro ⟨h1, h2⟩
        refine ⟨h1, ?_⟩
        rcases Nat.lt_or_ge i (lst A F n k) with h4 | h4
        · exact h4
        · exfalso
          obtain ⟨k1, k2⟩ := key h1 (by omega)
          have := lst_same hA hF k2 k1
          exact c (i1.2 ⟨k2, by omega⟩)
      · rintro ⟨h1, h2⟩
        exact ⟨h1, by omega⟩
/-- Whether a part begins here. -/
theorem frL_at {A : Nat → Nat} {F n i : Nat} (hA : Shp A n) (hn : n ≤ 10) (hF : F < 2 ^ n) (hi : i < n) : (frL A F n i).testBit i = true ↔ F.testBit i = true ∧ lst A F n i = i := by
  rw [frL_bit hA hn hF i (by omega) i hi]
  have := lst_le (A := A) hF hi
  exact ⟨fun ⟨a, b⟩ => ⟨a, by omega⟩, fun ⟨a, b⟩ => ⟨a, by omega⟩⟩
theorem frL_lt {A : Nat → Nat} {F n : Nat} (hF : F < 2 ^ n) (i : Nat) : frL A F n i < 2 ^ n := Nat.lt_of_le_of_lt (frL_le A F n i) hF
theorem comp_fr {A : Nat → Nat} {F n i : Nat} (hA : Shp A n) (hn : n ≤ 10) (hF : F < 2 ^ n) (hi : i < n) (h : (frL A F n i).testBit i = true) : comp A (frL A F n i) n i = comp A F n i := by
  obtain ⟨h1, h2⟩ := (frL_at hA hn hF hi).1 h
  refine comp_cut hF (frL_lt hF i) hi (fun k hk => ((frL_bit hA hn hF i (by omega) k (bit_lt (frL_lt hF i) hk)).1 hk).1) (fun k r hk => ?_)
  refine (frL_bit hA hn hF i (by omega) k (bit_lt hF hk)).2 ⟨hk, ?_⟩
  have := lst_same hA hF h1 r
  omega
end Go.Vs
set_option linter.unusedVariables false
namespace Go.Vs
/-! ## Labels -/
structure Edge (A : Nat → Nat) (F i k : Nat) : Prop where
  a : F.testBit i = true
  b : F.testBit k = true
  e : (A i).testBit k = true
structure Lab (A : Nat → Nat) (F n : Nat) (t : Nat → Nat) (i k : Nat) : Prop where
  le : ∀ x, x < n → t x ≤ x
  to : ∀ x, x < n → Rch A F x (t x)
  free : ∀ x, x < n → t x ≠ x → F.testBit x = true
  done : ∀ i' k', i' < n → k' < n → (i' < i ∨ i' = i ∧ k' < k) → Edge A F i' k' → t i' = t k'
/-- Two labels are made one. -/
def mrg (t : Nat → Nat) (a b : Nat) (x : Nat) : Nat := if t x = max a b then min a b else t x
theorem Lab.start {A : Nat → Nat} {F n : Nat} : Lab A F n (fun x => x) 0 0 :=
  ⟨fun x _ => Nat.le_refl _, fun x _ => .base, fun x _ h => absurd rfl h, fun i' k' _ _ h => by omega⟩
theorem Lab.row {A : Nat → Nat} {F n i : Nat} {t : Nat → Nat} (h : Lab A F n t i n) : Lab A F n t (i + 1) 0 :=
  ⟨h.le, h.to, h.free, fun i' k' h1 h2 h3 e => h.done i' k' h1 h2 (by omega) e⟩
theorem Lab.skip {A : Nat → Nat} {F n i k : Nat} {t : Nat → Nat} (h : Lab A F n t i k) (c : ¬ Edge A F i k) : Lab A F n t i (k + 1) :=
  ⟨h.le, h.to, h.free, fun i' k' h1 h2 h3 e => by
    by_cases d : i' = i ∧ k' = k
    · obtain ⟨rfl, rfl⟩ := d
      exact absurd e c
    · exact h.done i' k' h1 h2 (by omega) e⟩
theorem Lab.join {A : Nat → Nat} {F n i k : Nat} {t : Nat → Nat} (hA : Shp A n) (hF : F < 2 ^ n) (h : Lab A F n t i k) (c : Edge A F i k) : Lab A F n (mrg t (t i) (t k)) i (k + 1) := by
  have hi := bit_lt hF c.a
  have hk := bit_lt hF c.b
  have ri := h.to i hi
  have rk := h.to k hk
  have ki : Rch A F k i := (Rch.step .base c.e c.b).symm hA hF c.a
  have ik : Rch A F i k := .step .base c.e c.b
  have ab : Rch A F (t i) (t k) := ((ri.symm hA hF c.a).trans ik).trans rk
  have ba : Rch A F (t k) (t i) := ((rk.symm hA hF c.b).trans ki).trans ri
  have mm : Rch A F (max (t i) (t k)) (min (t i) (t k)) ∧ F.testBit (max (t i) (t k)) = true := by
    rcases Nat.le_total (t i) (t k) with q | q
    · rw [Nat.max_eq_right q, Nat.min_eq_left q]; exact ⟨ba, rk.free c.b⟩
    · rw [Nat.max_eq_left q, Nat.min_eq_right q]; exact ⟨ab, ri.free c.a⟩
  refine ⟨fun x hx => ?_, fun x hx => ?_, fun x hx hne => ?_, fun i' k' h1 h2 h3 e => ?_⟩
  · unfold mrg
    have := h.le x hx
    split <;> omega
  · unfold mrg
    split
    · rename_i q
      have := h.to x hx
      rw [q] at this
      exact this.trans mm.1
    · exact h.to x hx
  · by_cases d : t x = x
    · unfold mrg at hne
      split at hne
      · rename_i q
        rw [d] at q
        rw [q]
        exact mm.2
      · exact absurd d hne
    · exact h.free x hx d
  · by_cases d : i' = i ∧ k' = k
    · obtain ⟨rfl, rfl⟩ := d
      unfold mrg
      rcases Nat.le_total (t i') (t k') with q | q
      · rw [Nat.max_eq_right q, Nat.min_eq_left q, if_pos rfl]
        split <;> omega
      · rw [Nat.max_eq_left q, Nat.min_eq_right q, if_pos rfl]
        split <;> omega
    · unfold mrg
      rw [h.done i' k' h1 h2 (by omega) e]
/-- In the end the label is the least hat of the part. -/
theorem Lab.is {A : Nat → Nat} {F n : Nat} {t : Nat → Nat} (hA : Shp A n) (hF : F < 2 ^ n) (h : Lab A F n t n 0) {x : Nat} (hx : F.testBit x = true) : t x = lst A F n x := by
  have hn := bit_lt hF hx
  have same : ∀ y, Rch A F x y → t y = t x := fun y r => by
    induction r with
    | base => rfl
    | @step i k h1 h2 h3 ih => rw [← ih]; exact (h.done i k (h1.lt hF hn) (bit_lt hF h3) (.inl (h1.lt hF hn)) ⟨h1.free hx, h3, h2⟩).symm
  have r := lst_in (A := A) hF hn
  have h1 := same _ r
  have h2 := h.le _ (r.lt hF hn)
  have h3 := lst_least hF hn (h.to x hn)
  omega
/-- The hats of which something is true. -/
def bitsF (p : Nat → Bool) : Nat → Nat
  | 0 => 0
  | k + 1 => if p k = true then bitsF p k ||| 2 ^ k else bitsF p k
theorem bitsF_bit (p : Nat → Bool) (j : Nat) : ∀ n, (bitsF p n).testBit j = true ↔ j < n ∧ p j = true
  | 0 => by unfold bitsF; simp
  | n + 1 => by
    have ih := bitsF_bit p j n
    unfold bitsF
    split
    · rename_i c
      rw [Nat.testBit_or, Bool.or_eq_true, ih]
      by_cases e : j = n
      · subst e
        rw [Nat.testBit_two_pow_self]
        simp [c]
      · rw [Nat.testBit_two_pow_of_ne (Ne.symm e)]
        constructor
        · rintro (⟨a, b⟩ | a)
          · exact ⟨by omega, b⟩
          · cases a
        · rintro ⟨a, b⟩
          exact .inl ⟨by omega, b⟩
    · rename_i c
      rw [ih]
      constructor
      · rintro ⟨a, b⟩; exact ⟨by omega, b⟩
      · rintro ⟨a, b⟩
        refine ⟨?_, b⟩
        by_cases e : j = n
        · subst e; exact absurd b c
        · omega
theorem bitsF_lt (p : Nat → Bool) (n : Nat) : bitsF p n < 2 ^ n := by
  apply Nat.lt_pow_two_of_testBit
  intro i hi
  cases h : (bitsF p n).testBit i with
  | false => rfl
  | true => have := ((bitsF_bit p i n).1 h).1; omega
theorem or_add {x k : Nat} (h : x < 2 ^ k) : x ||| 2 ^ k = x + 2 ^ k := by
  have := Nat.two_pow_add_eq_or_of_lt h 1
  rw [Nat.mul_one] at this
  rw [Nat.or_comm, ← this, Nat.add_comm]
/-- The part that begins with a hat, if there is one. -/
theorem part_is {A : Nat → Nat} {F n : Nat} {t : Nat → Nat} (hA : Shp A n) (hF : F < 2 ^ n) (h : Lab A F n t n 0) {i : Nat} (hi : i < n) :
    bitsF (fun k => decide (t k = i) && F.testBit k) n = if F.testBit i = true ∧ lst A F n i = i then comp A F n i else 0 := by
  refine bit_ext fun k => ?_
  rw [bitsF_bit, Bool.and_eq_true, decide_eq_true_eq]
  split
  · rename_i c
    rw [comp_bit hF hi]
    constructor
    · rintro ⟨h1, h2, h3⟩
      rw [h.is hA hF h3] at h2
      have r := lst_in (A := A) hF h1
      rw [h2] at r
      exact r.symm hA hF h3
    · intro r
      have h3 := r.free c.1
      refine ⟨bit_lt hF h3, ?_, h3⟩
      rw [h.is hA hF h3, lst_same hA hF c.1 r]
      exact c.2
  · rename_i c
    simp only [Nat.zero_testBit, Bool.false_eq_true, iff_false]
    rintro ⟨h1, h2, h3⟩
    rw [h.is hA hF h3] at h2
    have r := lst_in (A := A) hF h1
    rw [h2] at r
    have r2 := r.symm hA hF h3
    exact c ⟨r.free h3, (lst_same hA hF h3 r).trans h2⟩
end Go.Vs
set_option maxRecDepth 100000
set_option maxHeartbeats 4000000
set_option linter.unusedSimpArgs false
set_option linter.unusedVariables false
namespace Go.Proofs.YtnpapnpedcbfnaaDoor
open Go.Ds Go.Vs
/-! ## How many hats a set has -/
theorem wrap_u {a : Nat} (ha : a < 18446744073709551616) : IntKind.u64.wrap (a : Int) = (a : Int) := by
  simp [IntKind.wrap, IntKind.bits, IntKind.signed]
  omega
theorem wr_u {a : Nat} (ha : a < 18446744073709551616) : wrapF .u64 (a : Int) = (a : Int) := by
  show (bif Nat.blt a 18446744073709551616 then _ else _) = _
  rw [blt_d, decide_eq_true ha]; rfl
theorem shr_u (a k : Nat) (hk : k ≤ 60) : intB .shr .u64 (a : Int) (k : Int) = some (.int .u64 ((a / 2 ^ k : Nat) : Int)) := by
  rw [ib_shr (by omega)]
  have h := shr_fact (a : Int) k hk
  show some (Value.int .u64 (Int.fdiv _ (Int.ofNat (Nat.pow 2 (min (k : Int).toNat 64))))) = _
  rw [h]
  simp
theorem and_u {a b : Nat} (hb : b < 9223372036854775808) : intB .and .u64 (a : Int) (b : Int) = some (.int .u64 ((a &&& b : Nat) : Int)) ∨ ¬ a < 18446744073709551616 := by
  by_cases ha : a < 18446744073709551616
  · left
    rw [ib_and]
    have e1 : (BitVec.ofInt IntKind.u64.bits (a : Int)).toNat = a := by
      show (BitVec.ofInt 64 (a : Int)).toNat = a
      rw [BitVec.toNat_ofInt]; omega
    have e2 : (BitVec.ofInt IntKind.u64.bits (b : Int)).toNat = b := by
      show (BitVec.ofInt 64 (b : Int)).toNat = b
      rw [BitVec.toNat_ofInt]; omega
    rw [BitVec.toNat_and, e1, e2, wrap_u (Nat.lt_of_le_of_lt Nat.and_le_left ha)]
  · exact .inr ha
theorem and_u' {a b : Nat} (ha : a < 9223372036854775808) (hb : b < 9223372036854775808) : intB .and .u64 (a : Int) (b : Int) = some (.int .u64 ((a &&& b : Nat) : Int)) := by
  rcases and_u (a := a) hb with h | h
  · exact h
  · omega
theorem add_u {a b : Nat} (h : a + b < 9223372036854775808) : intB .add .u64 (a : Int) (b : Int) = some (.int .u64 ((a + b : Nat) : Int)) := by
  rw [ib_add]
  have : (a : Int) + (b : Int) = ((a + b : Nat) : Int) := by omega
  rw [this, wr_u (by omega)]
def oc1 (x : Nat) : Nat := (x / 2 ^ 1 &&& 6148914691236517205) + (x &&& 6148914691236517205)
def oc2 (x : Nat) : Nat := (x / 2 ^ 2 &&& 3689348814741910323) + (x &&& 3689348814741910323)
def oc3 (x : Nat) : Nat := (x / 2 ^ 4 + x) &&& 1085102592571150095
def oc4 (x : Nat) : Nat := x + x / 2 ^ 8
def oc5 (x : Nat) : Nat := x + x / 2 ^ 16
def oc6 (x : Nat) : Nat := x + x / 2 ^ 32
theorem oc_all : (List.range 1024).all (fun x => Nat.beq (oc6 (oc5 (oc4 (oc3 (oc2 (oc1 x))))) &&& 127) (pc 10 x.testBit)) = true := by decide +kernel
theorem oc_is {x : Nat} (hx : x < 1024) : (oc6 (oc5 (oc4 (oc3 (oc2 (oc1 x))))) &&& 127) = sz x := by
  have h := Nat.eq_of_beq_eq_true (List.all_eq_true.1 oc_all x (List.mem_range.2 hx))
  rw [h, sz_pc 10 x hx]
theorem ones64_rets {X : Caller} (hX : Xfr X) (x : Nat) (hx : x < 1024) (g : GH) : Rets Tryd.prog X 86 [.int .u64 (x : Int)] g (fun v g' lo => g.next ≤ lo ∧ v = .int .i64 (sz x : Nat)) := by
  have L := @Nat.and_le_left
  rw [← oc_is hx]
  obtain ⟨x1, h1⟩ : ∃ y, oc1 x = y := ⟨_, rfl⟩
  obtain ⟨x2, h2⟩ : ∃ y, oc2 x1 = y := ⟨_, rfl⟩
  obtain ⟨x3, h3⟩ : ∃ y, oc3 x2 = y := ⟨_, rfl⟩
  obtain ⟨x4, h4⟩ : ∃ y, oc4 x3 = y := ⟨_, rfl⟩
  obtain ⟨x5, h5⟩ : ∃ y, oc5 x4 = y := ⟨_, rfl⟩
  obtain ⟨x6, h6⟩ : ∃ y, oc6 x5 = y := ⟨_, rfl⟩
  rw [h1, h2, h3, h4, h5, h6]
  have a1 : x / 2 ^ 1 ≤ x := Nat.div_le_self _ _
  have b1 := L (n := x / 2 ^ 1) (m := 6148914691236517205)
  have c1 := L (n := x) (m := 6148914691236517205)
  have d1 : x1 < 2048 := by rw [← h1]; unfold oc1; omega
  have a2 : x1 / 2 ^ 2 ≤ x1 := Nat.div_le_self _ _
  have b2 := L (n := x1 / 2 ^ 2) (m := 3689348814741910323)
  have c2 := L (n := x1) (m := 3689348814741910323)
  have d2 : x2 < 4096 := by rw [← h2]; unfold oc2; omega
  have a3 : x2 / 2 ^ 4 ≤ x2 := Nat.div_le_self _ _
  have b3 := L (n := x2 / 2 ^ 4 + x2) (m := 1085102592571150095)
  have d3 : x3 < 8192 := by rw [← h3]; unfold oc3; omega
  have a4 : x3 / 2 ^ 8 ≤ x3 := Nat.div_le_self _ _
  have d4 : x4 < 16384 := by rw [← h4]; unfold oc4; omega
  have a5 : x4 / 2 ^ 16 ≤ x4 := Nat.div_le_self _ _
  have d5 : x5 < 32768 := by rw [← h5]; unfold oc5; omega
  have a6 : x5 / 2 ^ 32 ≤ x5 := Nat.div_le_self _ _
  have d6 : x6 < 65536 := by rw [← h6]; unfold oc6; omega
  have q1 : intB .shr .u64 (x : Int) 1 = _ := shr_u x 1 (by omega)
  have q2 : intB .and .u64 ((x / 2 ^ 1 : Nat) : Int) 6148914691236517205 = _ := and_u' (a := x / 2 ^ 1) (b := 6148914691236517205) (by omega) (by omega)
  have q3 : intB .and .u64 (x : Int) 6148914691236517205 = _ := and_u' (a := x) (b := 6148914691236517205) (by omega) (by omega)
  have q4 : intB .add .u64 ((x / 2 ^ 1 &&& 6148914691236517205 : Nat) : Int) ((x &&& 6148914691236517205 : Nat) : Int) = some (.int .u64 (x1 : Int)) := by rw [add_u (by omega), ← h1]; rfl
  have r1 : intB .shr .u64 (x1 : Int) 2 = _ := shr_u x1 2 (by omega)
  have r2 : intB .and .u64 ((x1 / 2 ^ 2 : Nat) : Int) 3689348814741910323 = _ := and_u' (a := x1 / 2 ^ 2) (b := 3689348814741910323) (by omega) (by omega)
  have r3 : intB .and .u64 (x1 : Int) 3689348814741910323 = _ := and_u' (a := x1) (b := 3689348814741910323) (by omega) (by omega)
  have r4 : intB .add .u64 ((x1 / 2 ^ 2 &&& 3689348814741910323 : Nat) : Int) ((x1 &&& 3689348814741910323 : Nat) : Int) = some (.int .u64 (x2 : Int)) := by rw [add_u (by omega), ← h2]; rfl
  have s1 : intB .shr .u64 (x2 : Int) 4 = _ := shr_u x2 4 (by omega)
  have s2 : intB .add .u64 ((x2 / 2 ^ 4 : Nat) : Int) (x2 : Int) = _ := add_u (a := x2 / 2 ^ 4) (b := x2) (by omega)
  have s3 : intB .and .u64 ((x2 / 2 ^ 4 + x2 : Nat) : Int) 1085102592571150095 = some (.int .u64 (x3 : Int)) := by
    have := and_u' (a := x2 / 2 ^ 4 + x2) (b := 1085102592571150095) (by omega) (by omega)
    rw [← h3]; exact this
  have t1 : intB .shr .u64 (x3 : Int) 8 = _ := shr_u x3 8 (by omega)
  have t2 : intB .add .u64 (x3 : Int) ((x3 / 2 ^ 8 : Nat) : Int) = some (.int .u64 (x4 : Int)) := by rw [add_u (by omega), ← h4]; rfl
  have t3 : intB .shr .u64 (x4 : Int) 16 = _ := shr_u x4 16 (by omega)
  have t4 : intB .add .u64 (x4 : Int) ((x4 / 2 ^ 16 : Nat) : Int) = some (.int .u64 (x5 : Int)) := by rw [add_u (by omega), ← h5]; rfl
  have t5 : intB .shr .u64 (x5 : Int) 32 = _ := shr_u x5 32 (by omega)
  have t6 : intB .add .u64 (x5 : Int) ((x5 / 2 ^ 32 : Nat) : Int) = some (.int .u64 (x6 : Int)) := by rw [add_u (by omega), ← h6]; rfl
  have z1 : ((x / 2 ^ 1 &&& 6148914691236517205 : Nat) : Int) + ((x &&& 6148914691236517205 : Nat) : Int) = (x1 : Int) := by rw [← h1]; rfl
  have z2 : ((x1 / 2 ^ 2 &&& 3689348814741910323 : Nat) : Int) + ((x1 &&& 3689348814741910323 : Nat) : Int) = (x2 : Int) := by rw [← h2]; rfl
  have z3 : intB .and .u64 (((x2 / 2 ^ 4 : Nat) : Int) + (x2 : Int)) 1085102592571150095 = some (.int .u64 (x3 : Int)) := s3
  have z4 : (x3 : Int) + ((x3 / 2 ^ 8 : Nat) : Int) = (x4 : Int) := by rw [← h4]; rfl
  have z5 : (x4 : Int) + ((x4 / 2 ^ 16 : Nat) : Int) = (x5 : Int) := by rw [← h5]; rfl
  have z6 : (x5 : Int) + ((x5 / 2 ^ 32 : Nat) : Int) = (x6 : Int) := by rw [← h6]; rfl
  have u1 : convF .i64 (.int .u64 (x6 : Int)) = some (.int .i64 (x6 : Int)) := by
    show some (Value.int .i64 (wrapF .i64 (x6 : Int))) = _
    rw [wr64 (by omega) (by omega)]
  have u2 : intB .and .i64 (x6 : Int) 127 = some (.int .i64 ((x6 &&& 127 : Nat) : Int)) := and_i (a := x6) (b := 127) (by omega) (by omega)
  generalize x / 2 ^ 1 = y1 at *
  generalize y1 &&& 6148914691236517205 = y2 at *
  generalize x &&& 6148914691236517205 = y3 at *
  generalize x1 / 2 ^ 2 = y4 at *
  generalize y4 &&& 3689348814741910323 = y5 at *
  generalize x1 &&& 3689348814741910323 = y6 at *
  generalize x2 / 2 ^ 4 = y7 at *
  generalize x3 / 2 ^ 8 = y8 at *
  generalize x4 / 2 ^ 16 = y9 at *
  generalize x5 / 2 ^ 32 = y10 at *
  generalize x6 &&& 127 = y11 at *
  refine Rets.run hX.pres p86 (hX.free 86 (by decide) _ _) rfl fun ho => ?_
  simp +decide (disch := first | assumption | (apply GH.ok_push; assumption) | exact cellV_int _ _ | exact cellV_bool _ | omega) only [go_sem, ↓reduceIte, Nat.reduceEqDiff, Nat.reduceAdd, Int.reduceToNat, q1, q2, q3, q4, r1, r2, r3, r4, s1, s2, s3, t1, t2, t3, t4, t5, t6, u1, u2, z1, z2, z3, z4, z5, z6]
  intro hx0
  exact ⟨Nat.le_refl _, rfl⟩
theorem ones_rets {X : Caller} (hX : Xfr X) (x : Nat) (hx : x < 1024) (g : GH) : Rets Tryd.prog X 71 [.int .u64 (x : Int)] g (fun v g' lo => g.next ≤ lo ∧ v = .int .i64 (sz x : Nat)) := by
  refine Rets.run hX.pres p71 (hX.free 71 (by decide) _ _) rfl fun ho => ?_
  simp +decide (disch := first | assumption | (apply GH.ok_push; assumption) | exact cellV_int _ _ | exact cellV_bool _ | omega) only [go_sem, ↓reduceIte, Nat.reduceEqDiff, Nat.reduceAdd, Int.reduceToNat]
  refine CallD.calm (ones64_rets hX x hx g) ?_
  rintro v G hx1 rfl
  have hn := hx1.next
  simp +decide (disch := first | assumption | (apply GH.ok_push; assumption) | exact cellV_int _ _ | exact cellV_bool _ | omega) only [go_sem, ↓reduceIte, Nat.reduceEqDiff, Nat.reduceAdd, Int.reduceToNat]
  intro hx0
  exact ⟨by omega, rfl⟩
theorem count_rets {X : Caller} (hX : Xfr X) (x : Nat) (hx : x < 1024) (g : GH) : Rets Tryd.prog X 66 [.int .i64 (x : Int)] g (fun v g' lo => g.next ≤ lo ∧ v = .int .i64 (sz x : Nat)) := by
  have h1 := conv_u64 (i := x) (by omega)
  refine Rets.run hX.pres p66 (hX.free 66 (by decide) _ _) rfl fun ho => ?_
  simp +decide (disch := first | assumption | (apply GH.ok_push; assumption) | exact cellV_int _ _ | exact cellV_bool _ | omega) only [go_sem, ↓reduceIte, Nat.reduceEqDiff, Nat.reduceAdd, Int.reduceToNat, h1]
  refine CallD.calm (ones_rets hX x hx g) ?_
  rintro v G hx1 rfl
  have hn := hx1.next
  simp +decide (disch := first | assumption | (apply GH.ok_push; assumption) | exact cellV_int _ _ | exact cellV_bool _ | omega) only [go_sem, ↓reduceIte, Nat.reduceEqDiff, Nat.reduceAdd, Int.reduceToNat]
  intro hx0
  exact ⟨by omega, rfl⟩
end Go.Proofs.YtnpapnpedcbfnaaDoor
set_option maxRecDepth 100000
set_option maxHeartbeats 4000000
set_option linter.unusedSimpArgs false
set_option linter.unusedVariables false
namespace Go.Proofs.YtnpapnpedcbfnaaDoor
open Go.Ds Go.Vs
/-! ## Parts of a shop without a set -/
theorem shp_of {L : List Int} (h : shopB L = true) : Shp (setF L) L.length := by
  obtain ⟨hL1, hL10, hA⟩ := shop_ok h
  exact ⟨fun i hi => (hA i hi).2.1, fun i k hi hk => (hA i hi).2.2.2 k hk⟩
theorem reached_rets {X : Caller} (hX : Xfr X) (L : List Int) (hL : shopB L = true) (s : Value) (F h : Nat) (hF : F < 2 ^ L.length) (hh : h < L.length) (g : GH) (hs : SlR g s (ints L)) :
    Rets Tryd.prog X 68 [s, .int .i64 (F : Int), .int .i64 (h : Int)] g (fun v g' lo => g.next ≤ lo ∧ v = .int .i64 (comp (setF L) F L.length h : Nat)) := by
  obtain ⟨hL1, hL10, hA⟩ := shop_ok hL
  have hl := hs.len
  rw [ints_len] at hl
  have hN : 2 ^ L.length ≤ 1024 := Nat.pow_le_pow_right (by decide) hL10
  have hp0 : 2 ^ h < 2 ^ L.length := Nat.pow_lt_pow_right (by decide) hh
  have hcomp : comp (setF L) F L.length h = clo (setF L) F L.length (2 ^ L.length) (2 ^ h) := rfl
  have hgl := fun p (hp : p < 2 ^ L.length) i => grow_lt (A := setF L) hF hp i
  have hge := fun p => grow_le (setF L) F p L.length
  generalize comp (setF L) F L.length h = C at *
  obtain ⟨N, hNe⟩ : ∃ N, 2 ^ L.length = N := ⟨_, rfl⟩
  rw [hNe] at hN hp0 hcomp hgl hF
  have hA' : ∀ i, i < L.length → L.getD i 0 = (setF L i : Int) ∧ setF L i < N := fun i hi => ⟨(hA i hi).1, by rw [← hNe]; exact (hA i hi).2.1⟩
  refine Rets.run hX.pres p68 (hX.free 68 (by decide) _ _) rfl fun ho => ?_
  simp +decide (disch := first | assumption | exact cellV_int _ _ | exact cellV_bool _ | omega | (simp only [GH.pn, GH.sn] <;> omega) | (with_reducible ((repeat (first | apply GH.ok_push | apply GH.ok_set)); assumption)) | ((try simp only [GH.push_hid, GH.set_hid]); first | assumption | (refine GH.vis ?_ ?_ <;> first | assumption | ((try simp only [GH.pn, GH.sn]) <;> omega)))) only [go_sem, ↓reduceIte, Nat.reduceEqDiff, Nat.reduceAdd, Int.reduceToNat, Int.reduceAdd, Int.reduceNeg, Int.reduceSub, Int.reduceMul, Int.reduceLT, Int.reduceLE, Int.reduceEq, ↓GH.gp_eq, ↓GH.gp_ne, ↓GH.gs_eq, ↓GH.gs_ne, GH.push_next, GH.set_next]
  have hw := with_rets hX 0 h (by omega) (by omega) g
  rw [Nat.zero_or] at hw
  refine CallD.calm hw ?_
  rintro v g1 hx1 rfl
  have hn1 := hx1.next
  have hs1 := hs.ext hx1
  simp +decide (disch := first | assumption | exact cellV_int _ _ | exact cellV_bool _ | omega | (simp only [GH.pn, GH.sn] <;> omega) | (with_reducible ((repeat (first | apply GH.ok_push | apply GH.ok_set)); assumption)) | ((try simp only [GH.push_hid, GH.set_hid]); first | assumption | (refine GH.vis ?_ ?_ <;> first | assumption | ((try simp only [GH.pn, GH.sn]) <;> omega)))) only [go_sem, ↓reduceIte, Nat.reduceEqDiff, Nat.reduceAdd, Int.reduceToNat, Int.reduceAdd, Int.reduceNeg, Int.reduceSub, Int.reduceMul, Int.reduceLT, Int.reduceLE, Int.reduceEq, ↓GH.gp_eq, ↓GH.gp_ne, ↓GH.gs_eq, ↓GH.gs_ne, GH.push_next, GH.set_next]
  refine Wk.loops (fun m e g' lo => g.next ≤ lo ∧ Kept g1 g' ∧ ∃ p : Nat, p < N ∧ N ≤ p + m ∧ C = clo (setF L) F L.length m p ∧ (ev e (.s 0) = s ∧ ev e (.s 1) = .int .i64 (F : Int) ∧ ev e (.s 2) = .int .i64 (h : Int) ∧ ev e (.s 7) = .int .i64 (p : Int)))
    (fun e g' lo => False) (n := N) ?_ ?_ ?_
  · exact ⟨by omega, Kept.refl _, 2 ^ h, hp0, Nat.le_add_left _ _, hcomp, (by simp +decide (disch := first | assumption | (apply GH.ok_push; assumption) | exact cellV_int _ _ | exact cellV_bool _ | omega) only [go_sem, ↓reduceIte, Nat.reduceEqDiff, Nat.reduceAdd, Int.reduceToNat]; first | done | exact rfl)⟩
  · rintro e g' lo - - ⟨⟩
  · rintro m e g' lo ho' hl' ih out ⟨hlo, hk, p, hp, hpm, hC, he⟩
    have hkn := hk.next
    have hs' := hs1.kept hk
    simp +decide (disch := first | assumption | exact cellV_int _ _ | exact cellV_bool _ | omega | (simp only [GH.pn, GH.sn] <;> omega) | (with_reducible ((repeat (first | apply GH.ok_push | apply GH.ok_set)); assumption)) | ((try simp only [GH.push_hid, GH.set_hid]); first | assumption | (refine GH.vis ?_ ?_ <;> first | assumption | ((try simp only [GH.pn, GH.sn]) <;> omega)))) only [go_sem, ↓reduceIte, Nat.reduceEqDiff, Nat.reduceAdd, Int.reduceToNat, Int.reduceAdd, Int.reduceNeg, Int.reduceSub, Int.reduceMul, Int.reduceLT, Int.reduceLE, Int.reduceEq, ↓GH.gp_eq, ↓GH.gp_ne, ↓GH.gs_eq, ↓GH.gs_ne, GH.push_next, GH.set_next, he, hl]
    refine Wk.loops (fun m' e' g'' lo' => g.next ≤ lo' ∧ Kept g1 g'' ∧ ∃ i : Nat, i + m' = L.length ∧ (ev e' (.s 0) = s ∧ ev e' (.s 1) = .int .i64 (F : Int) ∧ ev e' (.s 2) = .int .i64 (h : Int) ∧ ev e' (.s 7) = .int .i64 (p : Int) ∧ ev e' (.s 14) = s ∧ ev e' (.s 15) = .int .i64 (L.length : Int) ∧ ev e' (.s 16) = .int .i64 (i : Int) ∧ ev e' (.s 8) = .int .i64 (grow (setF L) F p i : Nat)))
      (fun e' g'' lo' => g.next ≤ lo' ∧ Kept g1 g'' ∧ (ev e' (.s 0) = s ∧ ev e' (.s 1) = .int .i64 (F : Int) ∧ ev e' (.s 2) = .int .i64 (h : Int) ∧ ev e' (.s 7) = .int .i64 (p : Int) ∧ ev e' (.s 8) = .int .i64 (grow (setF L) F p L.length : Nat))) (n := L.length) ?_ ?_ ?_
    · exact ⟨hlo, hk, 0, by omega, (by simp +decide (disch := first | assumption | (apply GH.ok_push; assumption) | exact cellV_int _ _ | exact cellV_bool _ | omega) only [go_sem, ↓reduceIte, Nat.reduceEqDiff, Nat.reduceAdd, Int.reduceToNat, he, hl]; first | done | exact rfl)⟩
    · rintro e' g'' lo' hog hlg ⟨hlo', hk', he'⟩
      have hg1 := hge p
      have hg2 := hgl p hp L.length
      by_cases c : grow (setF L) F p L.length = p
      · rw [c] at he'
        simp +decide (disch := first | assumption | exact cellV_int _ _ | exact cellV_bool _ | omega | (simp only [GH.pn, GH.sn] <;> omega) | (with_reducible ((repeat (first | apply GH.ok_push | apply GH.ok_set)); assumption)) | ((try simp only [GH.push_hid, GH.set_hid]); first | assumption | (refine GH.vis ?_ ?_ <;> first | assumption | ((try simp only [GH.pn, GH.sn]) <;> omega)))) only [go_sem, ↓reduceIte, Nat.reduceEqDiff, Nat.reduceAdd, Int.reduceToNat, Int.reduceAdd, Int.reduceNeg, Int.reduceSub, Int.reduceMul, Int.reduceLT, Int.reduceLE, Int.reduceEq, ↓GH.gp_eq, ↓GH.gp_ne, ↓GH.gs_eq, ↓GH.gs_ne, GH.push_next, GH.set_next, he']
        intro hx0
        refine ⟨hlo', ?_⟩
        rw [hC, clo_stop c]
      · obtain ⟨m, rfl⟩ : ∃ m', m = m' + 1 := ⟨m - 1, by omega⟩
        rw [clo_go c] at hC
        have c' : ¬ ((grow (setF L) F p L.length : Nat) : Int) = (p : Int) := by omega
        generalize grow (setF L) F p L.length = P at *
        simp +decide (disch := first | assumption | exact cellV_int _ _ | exact cellV_bool _ | omega | (simp only [GH.pn, GH.sn] <;> omega) | (with_reducible ((repeat (first | apply GH.ok_push | apply GH.ok_set)); assumption)) | ((try simp only [GH.push_hid, GH.set_hid]); first | assumption | (refine GH.vis ?_ ?_ <;> first | assumption | ((try simp only [GH.pn, GH.sn]) <;> omega)))) only [go_sem, ↓reduceIte, Nat.reduceEqDiff, Nat.reduceAdd, Int.reduceToNat, Int.reduceAdd, Int.reduceNeg, Int.reduceSub, Int.reduceMul, Int.reduceLT, Int.reduceLE, Int.reduceEq, ↓GH.gp_eq, ↓GH.gp_ne, ↓GH.gs_eq, ↓GH.gs_ne, GH.push_next, GH.set_next, he', c']
        exact ih m _ _ _ (by omega) ⟨hlo', hk', P, hg2, by omega, hC, (by simp +decide (disch := first | assumption | (apply GH.ok_push; assumption) | exact cellV_int _ _ | exact cellV_bool _ | omega) only [go_sem, ↓reduceIte, Nat.reduceEqDiff, Nat.reduceAdd, Int.reduceToNat, he']; first | done | exact rfl)⟩
    · rintro m' e' g'' lo' ho'' hl'' ih' out' ⟨hlo', hk', i, hi, he'⟩
      have hkn' := hk'.next
      by_cases ci : i < L.length
      case neg =>
        have ci' : ¬ (i : Int) < L.length := by omega
        simp +decide (disch := first | assumption | exact cellV_int _ _ | exact cellV_bool _ | omega | (simp only [GH.pn, GH.sn] <;> omega) | (with_reducible ((repeat (first | apply GH.ok_push | apply GH.ok_set)); assumption)) | ((try simp only [GH.push_hid, GH.set_hid]); first | assumption | (refine GH.vis ?_ ?_ <;> first | assumption | ((try simp only [GH.pn, GH.sn]) <;> omega)))) only [go_sem, ↓reduceIte, Nat.reduceEqDiff, Nat.reduceAdd, Int.reduceToNat, Int.reduceAdd, Int.reduceNeg, Int.reduceSub, Int.reduceMul, Int.reduceLT, Int.reduceLE, Int.reduceEq, ↓GH.gp_eq, ↓GH.gp_ne, ↓GH.gs_eq, ↓GH.gs_ne, GH.push_next, GH.set_next, he', ci']
        have : i = L.length := by omega
        subst this
        exact out' _ _ _ ⟨hlo', hk', (by simp +decide (disch := first | assumption | (apply GH.ok_push; assumption) | exact cellV_int _ _ | exact cellV_bool _ | omega) only [go_sem, ↓reduceIte, Nat.reduceEqDiff, Nat.reduceAdd, Int.reduceToNat, he']; first | done | exact rfl)⟩
      have ci' : (i : Int) < L.length := by omega
      obtain ⟨j2, o2, hj2, hq1, hq2⟩ := (hs1.kept hk').ptr (ints_get (D := L) (i := i) ci)
      have hq1 := hq1 (i : Int) rfl
      have hAi := hA' i ci
      rw [hAi.1] at hq2
      have hgr : grow (setF L) F p (i + 1) = if p.testBit i = true then grow (setF L) F p i ||| (setF L i &&& F) else grow (setF L) F p i := rfl
      have hgi := hgl p hp i
      have hhas := has_rets hX (p : Int) i (by omega) g''
      rw [bitI_nat] at hhas
      generalize grow (setF L) F p i = w at *
      generalize setF L i = a at *
      have o1 := and_i (a := a) (b := F) (by omega) (by omega)
      have o2' := or_i (a := w) (b := a &&& F) (by omega) (and_lt' (by omega))
      simp +decide (disch := first | assumption | exact cellV_int _ _ | exact cellV_bool _ | omega | (simp only [GH.pn, GH.sn] <;> omega) | (with_reducible ((repeat (first | apply GH.ok_push | apply GH.ok_set)); assumption)) | ((try simp only [GH.push_hid, GH.set_hid]); first | assumption | (refine GH.vis ?_ ?_ <;> first | assumption | ((try simp only [GH.pn, GH.sn]) <;> omega)))) only [go_sem, ↓reduceIte, Nat.reduceEqDiff, Nat.reduceAdd, Int.reduceToNat, Int.reduceAdd, Int.reduceNeg, Int.reduceSub, Int.reduceMul, Int.reduceLT, Int.reduceLE, Int.reduceEq, ↓GH.gp_eq, ↓GH.gp_ne, ↓GH.gs_eq, ↓GH.gs_ne, GH.push_next, GH.set_next, he', ci', hq1, hq2]
      refine CallD.calm hhas ?_
      rintro v g3 hx3 rfl
      have hn3 := hx3.next
      have hk3 := hk'.ext hx3
      cases c : p.testBit i with
      | true =>
        rw [c, if_pos rfl] at hgr
        simp +decide (disch := first | assumption | exact cellV_int _ _ | exact cellV_bool _ | omega | (simp only [GH.pn, GH.sn] <;> omega) | (with_reducible ((repeat (first | apply GH.ok_push | apply GH.ok_set)); assumption)) | ((try simp only [GH.push_hid, GH.set_hid]); first | assumption | (refine GH.vis ?_ ?_ <;> first | assumption | ((try simp only [GH.pn, GH.sn]) <;> omega)))) only [go_sem, ↓reduceIte, Nat.reduceEqDiff, Nat.reduceAdd, Int.reduceToNat, Int.reduceAdd, Int.reduceNeg, Int.reduceSub, Int.reduceMul, Int.reduceLT, Int.reduceLE, Int.reduceEq, ↓GH.gp_eq, ↓GH.gp_ne, ↓GH.gs_eq, ↓GH.gs_ne, GH.push_next, GH.set_next, he', o1, o2']
        refine ih' (m' - 1) _ _ _ (by omega) ⟨hlo', hk3, i + 1, by omega, ?_⟩
        rw [hgr]
        exact (by simp +decide (disch := first | assumption | (apply GH.ok_push; assumption) | exact cellV_int _ _ | exact cellV_bool _ | omega) only [go_sem, ↓reduceIte, Nat.reduceEqDiff, Nat.reduceAdd, Int.reduceToNat, he']; first | done | exact rfl)
      | false =>
        rw [c, if_neg (by simp)] at hgr
        simp +decide (disch := first | assumption | exact cellV_int _ _ | exact cellV_bool _ | omega | (simp only [GH.pn, GH.sn] <;> omega) | (with_reducible ((repeat (first | apply GH.ok_push | apply GH.ok_set)); assumption)) | ((try simp only [GH.push_hid, GH.set_hid]); first | assumption | (refine GH.vis ?_ ?_ <;> first | assumption | ((try simp only [GH.pn, GH.sn]) <;> omega)))) only [go_sem, ↓reduceIte, Nat.reduceEqDiff, Nat.reduceAdd, Int.reduceToNat, Int.reduceAdd, Int.reduceNeg, Int.reduceSub, Int.reduceMul, Int.reduceLT, Int.reduceLE, Int.reduceEq, ↓GH.gp_eq, ↓GH.gp_ne, ↓GH.gs_eq, ↓GH.gs_ne, GH.push_next, GH.set_next, he']
        refine ih' (m' - 1) _ _ _ (by omega) ⟨hlo', hk3, i + 1, by omega, ?_⟩
        rw [hgr]
        exact (by simp +decide (disch := first | assumption | (apply GH.ok_push; assumption) | exact cellV_int _ _ | exact cellV_bool _ | omega) only [go_sem, ↓reduceIte, Nat.reduceEqDiff, Nat.reduceAdd, Int.reduceToNat, he']; first | done | exact rfl)
/-- The program's list. -/
def partsI (A : Nat → Nat) (F n i : Nat) : List Int := (ptsL A F n i).map fun x => ((x : Nat) : Int)
theorem ptsL_len (A : Nat → Nat) (F n : Nat) : ∀ i, (ptsL A F n i).length ≤ i
  | 0 => Nat.le_refl _
  | i + 1 => by
    have := ptsL_len A F n i
    unfold ptsL
    split
    · simp; omega
    · omega
theorem ptsL_lt {A : Nat → Nat} {F n : Nat} (hF : F < 2 ^ n) : ∀ i, i ≤ n → ∀ x ∈ ptsL A F n i, x < 2 ^ n
  | 0, _, x, h => by unfold ptsL at h; cases h
  | i + 1, hi, x, h => by
    unfold ptsL at h
    split at h
    · rcases List.mem_append.1 h with h | h
      · exact ptsL_lt hF i (by omega) x h
      · rw [List.mem_singleton] at h
        subst h
        exact comp_lt hF (by omega)
    · exact ptsL_lt hF i (by omega) x h
theorem parts_rets {X : Caller} (hX : Xfr X) (L : List Int) (hL : shopB L = true) (s : Value) (S F : Nat) (hS : S < 2 ^ L.length) (hFe : F = andn (allN L.length) S) (g : GH) (hs : SlR g s (ints L)) :
    Rets Tryd.prog X 61 [s, .int .i64 (S : Int)] g (fun v g' lo => g.next ≤ lo ∧ g'.ok ∧ Kept g g' ∧ OwnM g' v (ints (partsI (setF L) F L.length L.length)) 3 g.next) := by
  obtain ⟨hL1, hL10, hA⟩ := shop_ok hL
  have hA := shp_of hL
  have hl := hs.len
  rw [ints_len] at hl
  have hall : allN L.length < 2 ^ L.length := all_lt _
  have hF : F < 2 ^ L.length := by rw [hFe]; exact Nat.lt_of_le_of_lt (andn_le _ _) hall
  have hN : 2 ^ L.length ≤ 1024 := Nat.pow_le_pow_right (by decide) hL10
  have ha := allHats_rets hX L hL10 s g hs
  have hpos := Nat.two_pow_pos L.length
  have hea : (2 : Int) ^ L.length - 1 = ((allN L.length : Nat) : Int) := by
    unfold allN
    have e2 : ((2 ^ L.length : Nat) : Int) = 2 ^ L.length := by simp
    rw [← e2]
    omega
  rw [hea] at ha
  have o1 := andn_i (a := allN L.length) (b := S) (by omega) (by omega)
  rw [← hFe] at o1
  have hfl := fun i => frL_lt (A := setF L) hF i
  have hat := fun i (hi : i < L.length) => frL_at (i := i) hA hL10 hF hi
  have hfc := fun i (hi : i < L.length) => comp_fr (i := i) hA hL10 hF hi
  have hcl := fun i (hi : i < L.length) => comp_lt (A := setF L) hF hi
  refine Rets.run hX.pres p61 (hX.free 61 (by decide) _ _) rfl fun ho => ?_
  simp +decide (disch := first | assumption | exact cellV_int _ _ | exact cellV_bool _ | omega | (simp only [GH.pn, GH.sn] <;> omega) | (with_reducible ((repeat (first | apply GH.ok_push | apply GH.ok_set)); assumption)) | ((try simp only [GH.push_hid, GH.set_hid]); first | assumption | (refine GH.vis ?_ ?_ <;> first | assumption | ((try simp only [GH.pn, GH.sn]) <;> omega)))) only [go_sem, ↓reduceIte, Nat.reduceEqDiff, Nat.reduceAdd, Int.reduceToNat, Int.reduceAdd, Int.reduceNeg, Int.reduceSub, Int.reduceMul, Int.reduceLT, Int.reduceLE, Int.reduceEq, ↓GH.gp_eq, ↓GH.gp_ne, ↓GH.gs_eq, ↓GH.gs_ne, GH.push_next, GH.set_next]
  refine CallD.calm ha ?_
  rintro v g1 hx1 rfl
  have hn1 := hx1.next
  have hs1 := hs.ext hx1
  have hk1 : Kept g g1 := hx1.kept
  simp +decide (disch := first | assumption | exact cellV_int _ _ | exact cellV_bool _ | omega | (simp only [GH.pn, GH.sn] <;> omega) | (with_reducible ((repeat (first | apply GH.ok_push | apply GH.ok_set)); assumption)) | ((try simp only [GH.push_hid, GH.set_hid]); first | assumption | (refine GH.vis ?_ ?_ <;> first | assumption | ((try simp only [GH.pn, GH.sn]) <;> omega)))) only [go_sem, ↓reduceIte, Nat.reduceEqDiff, Nat.reduceAdd, Int.reduceToNat, Int.reduceAdd, Int.reduceNeg, Int.reduceSub, Int.reduceMul, Int.reduceLT, Int.reduceLE, Int.reduceEq, ↓GH.gp_eq, ↓GH.gp_ne, ↓GH.gs_eq, ↓GH.gs_ne, GH.push_next, GH.set_next, o1, hl]
  refine Wk.loops (fun m e g' lo => g.next ≤ lo ∧ Kept g g' ∧ ∃ (i : Nat) (o : Value), i + m = L.length ∧ (ev e (.s 0) = s ∧ ev e (.s 5) = o ∧ ev e (.s 6) = .int .i64 (frL (setF L) F L.length i : Nat) ∧ ev e (.s 14) = .int .i64 (L.length : Int) ∧ ev e (.s 15) = .int .i64 (i : Int)) ∧ OwnM g' o (ints (partsI (setF L) F L.length i)) 3 g.next)
    (fun e g' lo => g.next ≤ lo ∧ Kept g g' ∧ ∃ o, ev e (.s 5) = o ∧ OwnM g' o (ints (partsI (setF L) F L.length L.length)) 3 g.next) (n := L.length) ?_ ?_ ?_
  · exact ⟨by omega, hk1, 0, _, by omega, (by simp +decide (disch := first | assumption | (apply GH.ok_push; assumption) | exact cellV_int _ _ | exact cellV_bool _ | omega) only [go_sem, ↓reduceIte, Nat.reduceEqDiff, Nat.reduceAdd, Int.reduceToNat, hl]; first | done | exact rfl), OwnM.nil⟩
  · rintro e g' lo hog hlg ⟨hlo, hk, o, he, hown⟩
    simp +decide (disch := first | assumption | exact cellV_int _ _ | exact cellV_bool _ | omega | (simp only [GH.pn, GH.sn] <;> omega) | (with_reducible ((repeat (first | apply GH.ok_push | apply GH.ok_set)); assumption)) | ((try simp only [GH.push_hid, GH.set_hid]); first | assumption | (refine GH.vis ?_ ?_ <;> first | assumption | ((try simp only [GH.pn, GH.sn]) <;> omega)))) only [go_sem, ↓reduceIte, Nat.reduceEqDiff, Nat.reduceAdd, Int.reduceToNat, Int.reduceAdd, Int.reduceNeg, Int.reduceSub, Int.reduceMul, Int.reduceLT, Int.reduceLE, Int.reduceEq, ↓GH.gp_eq, ↓GH.gp_ne, ↓GH.gs_eq, ↓GH.gs_ne, GH.push_next, GH.set_next, he]
    intro hx0
    exact ⟨hlo, hog, hk, hown⟩
  · rintro m e g' lo ho' hl' ih out ⟨hlo, hk, i, o, him, he, hown⟩
    have hkn := hk.next
    by_cases ci : i < L.length
    case neg =>
      have ci' : ¬ (i : Int) < L.length := by omega
      simp +decide (disch := first | assumption | exact cellV_int _ _ | exact cellV_bool _ | omega | (simp only [GH.pn, GH.sn] <;> omega) | (with_reducible ((repeat (first | apply GH.ok_push | apply GH.ok_set)); assumption)) | ((try simp only [GH.push_hid, GH.set_hid]); first | assumption | (refine GH.vis ?_ ?_ <;> first | assumption | ((try simp only [GH.pn, GH.sn]) <;> omega)))) only [go_sem, ↓reduceIte, Nat.reduceEqDiff, Nat.reduceAdd, Int.reduceToNat, Int.reduceAdd, Int.reduceNeg, Int.reduceSub, Int.reduceMul, Int.reduceLT, Int.reduceLE, Int.reduceEq, ↓GH.gp_eq, ↓GH.gp_ne, ↓GH.gs_eq, ↓GH.gs_ne, GH.push_next, GH.set_next, he, ci']
      have : i = L.length := by omega
      subst this
      exact out _ _ _ ⟨hlo, hk, o, (by simp +decide (disch := first | assumption | (apply GH.ok_push; assumption) | exact cellV_int _ _ | exact cellV_bool _ | omega) only [go_sem, ↓reduceIte, Nat.reduceEqDiff, Nat.reduceAdd, Int.reduceToNat, he]; first | done | exact rfl), hown⟩
    have ci' : (i : Int) < L.length := by omega
    have hhas := has_rets hX (frL (setF L) F L.length i : Nat) i (by omega) g'
    rw [bitI_nat] at hhas
    have hfr : frL (setF L) F L.length (i + 1) = if (frL (setF L) F L.length i).testBit i = true then andn (frL (setF L) F L.length i) (comp (setF L) F L.length i) else frL (setF L) F L.length i := rfl
    have hpt : partsI (setF L) F L.length (i + 1) = if F.testBit i = true ∧ lst (setF L) F L.length i = i then partsI (setF L) F L.length i ++ [((comp (setF L) F L.length i : Nat) : Int)] else partsI (setF L) F L.length i := by
      unfold partsI
      show (if _ then _ else _ : List Nat).map _ = _
      split
      · rw [List.map_append]; rfl
      · rfl
    have h1 := hat i ci
    have h2 := hfc i ci
    have h3 := hfl i
    have h4 := hcl i ci
    have hpl : (partsI (setF L) F L.length i).length ≤ i := by unfold partsI; rw [List.length_map]; exact ptsL_len _ _ _ _
    have hkk := hk
    have hre := fun (G : GH) (hk : Kept g' G) => reached_rets hX L hL s (frL (setF L) F L.length i) i h3 ci G (hs.kept (hkk.trans hk))
    simp +decide (disch := first | assumption | exact cellV_int _ _ | exact cellV_bool _ | omega | (simp only [GH.pn, GH.sn] <;> omega) | (with_reducible ((repeat (first | apply GH.ok_push | apply GH.ok_set)); assumption)) | ((try simp only [GH.push_hid, GH.set_hid]); first | assumption | (refine GH.vis ?_ ?_ <;> first | assumption | ((try simp only [GH.pn, GH.sn]) <;> omega)))) only [go_sem, ↓reduceIte, Nat.reduceEqDiff, Nat.reduceAdd, Int.reduceToNat, Int.reduceAdd, Int.reduceNeg, Int.reduceSub, Int.reduceMul, Int.reduceLT, Int.reduceLE, Int.reduceEq, ↓GH.gp_eq, ↓GH.gp_ne, ↓GH.gs_eq, ↓GH.gs_ne, GH.push_next, GH.set_next, he, ci']
    refine CallD.calm hhas ?_
    rintro v g3 hx3 rfl
    have hn3 := hx3.next
    have hk3 : Kept g' g3 := hx3.kept
    have hok3 := hx3.ok ho'
    cases c : (frL (setF L) F L.length i).testBit i with
    | false =>
      rw [c, if_neg (by simp)] at hfr
      rw [if_neg (fun q => by rw [h1.2 q] at c; cases c)] at hpt
      simp +decide (disch := first | assumption | exact cellV_int _ _ | exact cellV_bool _ | omega | (simp only [GH.pn, GH.sn] <;> omega) | (with_reducible ((repeat (first | apply GH.ok_push | apply GH.ok_set)); assumption)) | ((try simp only [GH.push_hid, GH.set_hid]); first | assumption | (refine GH.vis ?_ ?_ <;> first | assumption | ((try simp only [GH.pn, GH.sn]) <;> omega)))) only [go_sem, ↓reduceIte, Nat.reduceEqDiff, Nat.reduceAdd, Int.reduceToNat, Int.reduceAdd, Int.reduceNeg, Int.reduceSub, Int.reduceMul, Int.reduceLT, Int.reduceLE, Int.reduceEq, ↓GH.gp_eq, ↓GH.gp_ne, ↓GH.gs_eq, ↓GH.gs_ne, GH.push_next, GH.set_next, he]
      refine ih (m - 1) _ _ _ (by omega) ⟨hlo, hk.trans hk3, i + 1, o, by omega, ?_, by rw [hpt]; exact hown.kept hk3⟩
      rw [hfr]
      exact (by simp +decide (disch := first | assumption | (apply GH.ok_push; assumption) | exact cellV_int _ _ | exact cellV_bool _ | omega) only [go_sem, ↓reduceIte, Nat.reduceEqDiff, Nat.reduceAdd, Int.reduceToNat, he]; first | done | exact rfl)
    | true =>
      rw [c, if_pos rfl] at hfr
      rw [if_pos (h1.1 c)] at hpt
      rw [h2 c] at hre
      generalize frL (setF L) F L.length i = fr at *
      generalize comp (setF L) F L.length i = C at *
      have o2 := andn_i (a := fr) (b := C) (by omega) (by omega)
      simp +decide (disch := first | assumption | exact cellV_int _ _ | exact cellV_bool _ | omega | (simp only [GH.pn, GH.sn] <;> omega) | (with_reducible ((repeat (first | apply GH.ok_push | apply GH.ok_set)); assumption)) | ((try simp only [GH.push_hid, GH.set_hid]); first | assumption | (refine GH.vis ?_ ?_ <;> first | assumption | ((try simp only [GH.pn, GH.sn]) <;> omega)))) only [go_sem, ↓reduceIte, Nat.reduceEqDiff, Nat.reduceAdd, Int.reduceToNat, Int.reduceAdd, Int.reduceNeg, Int.reduceSub, Int.reduceMul, Int.reduceLT, Int.reduceLE, Int.reduceEq, ↓GH.gp_eq, ↓GH.gp_ne, ↓GH.gs_eq, ↓GH.gs_ne, GH.push_next, GH.set_next, he]
      refine CallD.calm (hre g3 hk3) ?_
      rintro v g4 hx4 rfl
      have hn4 := hx4.next
      have hok4 := hx4.ok hok3
      have hk4 : Kept g' g4 := hk3.ext hx4
      have hkp := (hk.trans hk4).push hok4 (cellsOb [.int .i64 (C : Int)] 3)
      simp +decide (disch := first | assumption | exact cellV_int _ _ | exact cellV_bool _ | omega | (simp only [GH.pn, GH.sn] <;> omega) | (with_reducible ((repeat (first | apply GH.ok_push | apply GH.ok_set)); assumption)) | ((try simp only [GH.push_hid, GH.set_hid]); first | assumption | (refine GH.vis ?_ ?_ <;> first | assumption | ((try simp only [GH.pn, GH.sn]) <;> omega)))) only [go_sem, ↓reduceIte, Nat.reduceEqDiff, Nat.reduceAdd, Int.reduceToNat, Int.reduceAdd, Int.reduceNeg, Int.reduceSub, Int.reduceMul, Int.reduceLT, Int.reduceLE, Int.reduceEq, ↓GH.gp_eq, ↓GH.gp_ne, ↓GH.gs_eq, ↓GH.gs_ne, GH.push_next, GH.set_next, he, o2]
      refine AppD.ownM (lw := g.next) ((hown.kept hk4).kept ((Kept.refl g4).push hok4 _)) (SlR.one hok4 _ _) (by simp) rfl (by simp [ints_len]; omega) (by simp [GH.push]; omega) hlo (Nat.le_refl _) (GH.ok_push hok4) (fun s' g5 lo5 sp wr hgr hlo5 => ?_)
      have hk5 := hkp.grewM hgr (Nat.le_refl _)
      have hown5 := hgr.own
      simp +decide (disch := first | assumption | exact cellV_int _ _ | exact cellV_bool _ | omega | (simp only [GH.pn, GH.sn] <;> omega) | (with_reducible ((repeat (first | apply GH.ok_push | apply GH.ok_set)); assumption)) | ((try simp only [GH.push_hid, GH.set_hid]); first | assumption | (refine GH.vis ?_ ?_ <;> first | assumption | ((try simp only [GH.pn, GH.sn]) <;> omega)))) only [go_sem, ↓reduceIte, Nat.reduceEqDiff, Nat.reduceAdd, Int.reduceToNat, Int.reduceAdd, Int.reduceNeg, Int.reduceSub, Int.reduceMul, Int.reduceLT, Int.reduceLE, Int.reduceEq, ↓GH.gp_eq, ↓GH.gp_ne, ↓GH.gs_eq, ↓GH.gs_ne, GH.push_next, GH.set_next, he, o2]
      refine ih (m - 1) _ _ _ (by omega) ⟨hlo5, hk5, i + 1, s', by omega, ?_, ?_⟩
      · rw [hfr]
        exact (by simp +decide (disch := first | assumption | (apply GH.ok_push; assumption) | exact cellV_int _ _ | exact cellV_bool _ | omega) only [go_sem, ↓reduceIte, Nat.reduceEqDiff, Nat.reduceAdd, Int.reduceToNat, he, o2]; first | done | exact rfl)
      · rw [hpt, ints_app]
        exact hown5
end Go.Proofs.YtnpapnpedcbfnaaDoor
set_option maxRecDepth 100000
set_option maxHeartbeats 8000000
set_option linter.unusedSimpArgs false
set_option linter.unusedVariables false
namespace Go.Proofs.YtnpapnpedcbfnaaDoor
open Go.Ds Go.Vs
/-! ## Sorting a short row, ascending -/
def Srt (L : List Int) : Prop := ∀ p q, p < q → q < L.length → L.getD p 0 ≤ L.getD q 0
theorem getD_at {L : List Int} {i : Nat} (h : i < L.length) : L.getD i 0 = L[i] := by simp [h]
theorem Srt.pairwise {L : List Int} (h : Srt L) : L.Pairwise (· ≤ ·) := by
  rw [List.pairwise_iff_getElem]
  intro i j hi hj hij
  have := h i j hij hj
  rw [getD_at hi, getD_at hj] at this
  exact this
theorem Srt.unique {A B : List Int} (ha : Srt A) (hb : Srt B) (hp : A.Perm B) : A = B :=
  List.Perm.eq_of_pairwise (le := (· ≤ ·)) (fun a b _ _ h1 h2 => Int.le_antisymm h1 h2) ha.pairwise hb.pairwise hp
/-- The numbers at two places exchanged. -/
def swp (L : List Int) (i j : Nat) : List Int := (L.set i (L.getD j 0)).set j (L.getD i 0)
theorem swp_len (L : List Int) (i j : Nat) : (swp L i j).length = L.length := by simp [swp]
theorem getD_set' {L : List Int} {i k : Nat} {x : Int} (h : i < L.length) : (L.set i x).getD k 0 = if k = i then x else L.getD k 0 := by
  rw [List.getD_eq_getElem?_getD, List.getElem?_set, List.getD_eq_getElem?_getD]
  by_cases c : k = i
  · subst c; simp [h]
  · rw [if_neg (Ne.symm c), if_neg c]
theorem swp_get {L : List Int} {i j : Nat} (hi : i < L.length) (hj : j < L.length) (k : Nat) : (swp L i j).getD k 0 = if k = j then L.getD i 0 else if k = i then L.getD j 0 else L.getD k 0 := by
  rw [swp, getD_set' (by simpa using hj), getD_set' hi]
theorem swp_perm {L : List Int} {i j : Nat} (hi : i < L.length) (hj : j < L.length) (hne : i ≠ j) : (swp L i j).Perm L := by
  rw [List.perm_iff_count]
  intro a
  have hj' : j < (L.set i (L.getD j 0)).length := by simpa using hj
  rw [swp, List.count_set hj', List.count_set hi]
  have e1 : (L.set i (L.getD j 0))[j]'hj' = L[j] := by rw [List.getElem_set_ne hne]
  rw [e1, getD_at hi, getD_at hj]
  have c1 : L[i] ∈ L := List.getElem_mem hi
  have p1 : L[i] = a → 0 < List.count a L := fun h => List.count_pos_iff.2 (h ▸ c1)
  by_cases a1 : L[i] = a
  · have := p1 a1
    by_cases a2 : L[j] = a <;> simp [a1, a2] <;> omega
  · by_cases a2 : L[j] = a <;> simp [a1, a2]
theorem isNaN_rets {X : Caller} (hX : Xfr X) (x : Int) (g : GH) : Rets Tryd.prog X 92 [.int .i64 x] g (fun v g' lo => g.next ≤ lo ∧ v = .bool false) := by
  refine Rets.run hX.pres p92 (hX.free 92 (by decide) _ _) rfl fun ho => ?_
  simp +decide (disch := first | assumption | (apply GH.ok_push; assumption) | exact cellV_int _ _ | exact cellV_bool _ | omega) only [go_sem, ↓reduceIte, Nat.reduceEqDiff, Nat.reduceAdd, Int.reduceToNat, eq_self]
  intro hx
  exact ⟨Nat.le_refl _, rfl⟩
theorem cmpLess_rets {X : Caller} (hX : Xfr X) (x y : Int) (g : GH) : Rets Tryd.prog X 80 [.int .i64 x, .int .i64 y] g (fun v g' lo => g.next ≤ lo ∧ v = .bool (decide (x < y))) := by
  refine Rets.run hX.pres p80 (hX.free 80 (by decide) _ _) rfl fun ho => ?_
  simp +decide (disch := first | assumption | (apply GH.ok_push; assumption) | exact cellV_int _ _ | exact cellV_bool _ | omega) only [go_sem, ↓reduceIte, Nat.reduceEqDiff, Nat.reduceAdd, Int.reduceToNat]
  refine CallD.calm (isNaN_rets hX x g) ?_
  rintro v G hx rfl
  have hn := hx.next
  by_cases c : x < y
  · simp +decide (disch := first | assumption | (apply GH.ok_push; assumption) | exact cellV_int _ _ | exact cellV_bool _ | omega) only [go_sem, ↓reduceIte, Nat.reduceEqDiff, Nat.reduceAdd, Int.reduceToNat]
    intro hx0
    exact ⟨by omega, by first | rfl | simp [c]⟩
  · simp +decide (disch := first | assumption | (apply GH.ok_push; assumption) | exact cellV_int _ _ | exact cellV_bool _ | omega) only [go_sem, ↓reduceIte, Nat.reduceEqDiff, Nat.reduceAdd, Int.reduceToNat]
    intro hx0
    exact ⟨by omega, by first | rfl | simp [c]⟩
/-- A prefix is sorted but for one place. -/
def Ins (L : List Int) (i j : Nat) : Prop := ∀ p q, p < q → q ≤ i → q ≠ j → L.getD p 0 ≤ L.getD q 0
theorem Ins.done {L : List Int} {i j : Nat} (h : Ins L i j) (hj : j = 0 ∨ L.getD (j - 1) 0 ≤ L.getD j 0) : ∀ p q, p < q → q ≤ i → L.getD p 0 ≤ L.getD q 0 := by
  intro p q hpq hq
  by_cases c : q = j
  · subst c
    rcases hj with hj | hj
    · omega
    · by_cases c2 : p = q - 1
      · rw [c2]; exact hj
      · have := h p (q - 1) (by omega) (by omega) (by omega)
        omega
  · exact h p q hpq hq c
theorem Ins.step {L : List Int} {i j : Nat} (h : Ins L i j) (hj : 0 < j) (hji : j ≤ i) (hi : i < L.length) (hlt : L.getD j 0 < L.getD (j - 1) 0) : Ins (swp L j (j - 1)) i (j - 1) := by
  intro p q hpq hq hne
  have e := swp_get (L := L) (i := j) (j := j - 1) (by omega) (by omega)
  rw [e, e, if_neg hne]
  by_cases cq : q = j
  · rw [if_pos cq]
    by_cases cp : p = j - 1
    · rw [if_pos cp]; omega
    · rw [if_neg cp, if_neg (by omega)]
      exact h p (j - 1) (by omega) (by omega) (by omega)
  · rw [if_neg cq]
    by_cases cp : p = j - 1
    · rw [if_pos cp]
      exact h j q (by omega) hq cq
    · rw [if_neg cp]
      by_cases cp2 : p = j
      · rw [if_pos cp2]; exact h (j - 1) q (by omega) hq cq
      · rw [if_neg cp2]; exact h p q hpq hq cq
structure SortR (g : GH) (base lw : Nat) (t : TypeId) (s : Value) (L0 L : List Int) (g' : GH) (lo : Nat) : Prop where
  low : lw ≤ lo
  ok : g'.ok
  below : Below0 g g' base
  row : Row g' s (ints L) t base
  perm : L.Perm L0
theorem insort_rets {X : Caller} (hX : Xfr X) (L0 : List Int) (hn : L0.length < 1000000) (s : Value) (t : TypeId) (base lw : Nat) (g : GH) (hb : base ≤ g.next) (hlw : lw ≤ base) (hr : Row g s (ints L0) t base) :
    Rets Tryd.prog X 74 [s, .int .i64 0, .int .i64 L0.length] g (fun v g' lo => ∃ R, SortR g base lw t s L0 R g' lo ∧ Srt R) := by
  refine Rets.run hX.pres p74 (hX.free 74 (by decide) _ _) rfl fun ho => ?_
  simp +decide (disch := first | assumption | (apply GH.ok_push; assumption) | exact cellV_int _ _ | exact cellV_bool _ | omega) only [go_sem, ↓reduceIte, Nat.reduceEqDiff, Nat.reduceAdd, Int.reduceToNat]
  refine Wk.loops (fun m e g' lo => ∃ (L : List Int) (i : Nat), SortR g base lw t s L0 L g' lo ∧ i + m = max L0.length 1 ∧ 1 ≤ i ∧ (ev e (.s 0) = s ∧ ev e (.s 1) = .int .i64 0 ∧ ev e (.s 2) = .int .i64 L0.length ∧ ev e (.s 6) = .int .i64 i) ∧ ∀ p q, p < q → q < i → L.getD p 0 ≤ L.getD q 0)
    (fun e g' lo => ∃ L, SortR g base lw t s L0 L g' lo ∧ Srt L) (n := max L0.length 1 - 1) ?_ ?_ ?_
  · exact ⟨L0, 1, ⟨by omega, ho, Below0.refl _ _, hr, List.Perm.refl _⟩, by omega, Nat.le_refl _, (by simp +decide (disch := first | assumption | (apply GH.ok_push; assumption) | exact cellV_int _ _ | exact cellV_bool _ | omega) only [go_sem, ↓reduceIte, Nat.reduceEqDiff, Nat.reduceAdd, Int.reduceToNat]; first | done | exact rfl), fun p q h1 h2 => by omega⟩
  · rintro e g' lo - - ⟨L, hs, hr⟩
    simp +decide (disch := first | assumption | (apply GH.ok_push; assumption) | exact cellV_int _ _ | exact cellV_bool _ | omega) only [go_sem, ↓reduceIte, Nat.reduceEqDiff, Nat.reduceAdd, Int.reduceToNat]
    intro hx
    exact ⟨L, hs, hr⟩
  · rintro m e g' lo ho' hl' ih out ⟨L, i, hs, him, hi1, he, hsr⟩
    have hLl : L.length = L0.length := hs.perm.length_eq
    by_cases c : i < L0.length
    · simp +decide (disch := first | assumption | (apply GH.ok_push; assumption) | exact cellV_int _ _ | exact cellV_bool _ | omega) only [go_sem, ↓reduceIte, Nat.reduceEqDiff, Nat.reduceAdd, Int.reduceToNat, he]
      refine Wk.loops (fun m e g' lo => ∃ (L : List Int) (j : Nat), j = m ∧ SortR g base lw t s L0 L g' lo ∧ j ≤ i ∧ (ev e (.s 0) = s ∧ ev e (.s 1) = .int .i64 0 ∧ ev e (.s 2) = .int .i64 L0.length ∧ ev e (.s 6) = .int .i64 i ∧ ev e (.s 7) = .int .i64 j) ∧ Ins L i j)
        (fun e g' lo => ∃ (L : List Int), SortR g base lw t s L0 L g' lo ∧ (ev e (.s 0) = s ∧ ev e (.s 1) = .int .i64 0 ∧ ev e (.s 2) = .int .i64 L0.length ∧ ev e (.s 6) = .int .i64 i) ∧ ∀ p q, p < q → q ≤ i → L.getD p 0 ≤ L.getD q 0) (n := i) ?_ ?_ ?_
      · exact ⟨L, i, rfl, hs, Nat.le_refl _, (by simp +decide (disch := first | assumption | (apply GH.ok_push; assumption) | exact cellV_int _ _ | exact cellV_bool _ | omega) only [go_sem, ↓reduceIte, Nat.reduceEqDiff, Nat.reduceAdd, Int.reduceToNat, he]; first | done | exact rfl), fun p q h1 h2 h3 => hsr p q h1 (by omega)⟩
      · rintro e g' lo - - ⟨L, hs, he, hr⟩
        simp +decide (disch := first | assumption | (apply GH.ok_push; assumption) | exact cellV_int _ _ | exact cellV_bool _ | omega) only [go_sem, ↓reduceIte, Nat.reduceEqDiff, Nat.reduceAdd, Int.reduceToNat, he]
        exact ih (m - 1) _ _ _ (by omega) ⟨L, i + 1, hs, by omega, by omega, (by simp +decide (disch := first | assumption | (apply GH.ok_push; assumption) | exact cellV_int _ _ | exact cellV_bool _ | omega) only [go_sem, ↓reduceIte, Nat.reduceEqDiff, Nat.reduceAdd, Int.reduceToNat, he]; first | done | exact rfl), fun p q h1 h2 => hr p q h1 (by omega)⟩
      · rintro m2 e g' lo ho' hl' ih2 out2 ⟨L, j, rfl, hs, hji, he, hins⟩
        have hLl : L.length = L0.length := hs.perm.length_eq
        have hnx := hs.below.next
        by_cases cj : 0 < j
        · obtain ⟨j1, b1, x1, l1, a1⟩ := hs.row.at (ints_get (D := L) (i := j) (by omega))
          obtain ⟨j2, b2, x2, l2, a2⟩ := hs.row.at (ints_get (D := L) (i := j - 1) (by omega))
          have x1 := x1 (j : Int) rfl
          have x2 := x2 ((j : Int) - 1) (by omega)
          simp +decide (disch := first | assumption | (apply GH.ok_push; assumption) | exact cellV_int _ _ | exact cellV_bool _ | omega) only [go_sem, ↓reduceIte, Nat.reduceEqDiff, Nat.reduceAdd, Int.reduceToNat, he, x1, x2, l1, l2]
          refine CallD.calm (cmpLess_rets hX (L.getD j 0) (L.getD (j - 1) 0) g') ?_
          rintro v G hx rfl
          have hk : Kept g' G := hx.kept
          have hn1 := hk.next
          have hokG := hx.ok ho'
          have hlow := hs.low
          have hs : SortR g base lw t s L0 L G lo := ⟨by omega, hokG, hs.below.kept hk (by omega), hs.row.kept hk, hs.perm⟩
          by_cases d : L.getD j 0 < L.getD (j - 1) 0
          · rw [decide_eq_true d]
            obtain ⟨j1, b1, x1, l1, a1⟩ := hs.row.at (ints_get (D := L) (i := j) (by omega))
            obtain ⟨j2, b2, x2, l2, a2⟩ := hs.row.at (ints_get (D := L) (i := j - 1) (by omega))
            have x1 := x1 (j : Int) rfl
            have x2 := x2 ((j : Int) - 1) (by omega)
            simp +decide (disch := first | assumption | (apply GH.ok_push; assumption) | exact cellV_int _ _ | exact cellV_bool _ | omega) only [go_sem, ↓reduceIte, Nat.reduceEqDiff, Nat.reduceAdd, Int.reduceToNat, he, x1, x2, l1, l2]
            refine Row.put hs.row a1 (by rw [ints_len]; omega) (by simp +decide (disch := first | assumption | (apply GH.ok_push; assumption) | exact cellV_int _ _ | exact cellV_bool _ | omega) only [go_sem, ↓reduceIte, Nat.reduceEqDiff, Nat.reduceAdd, Int.reduceToNat, he, x1]; first | done | exact rfl) (by simp +decide (disch := first | assumption | (apply GH.ok_push; assumption) | exact cellV_int _ _ | exact cellV_bool _ | omega) only [go_sem, ↓reduceIte, Nat.reduceEqDiff, Nat.reduceAdd, Int.reduceToNat, he, l2]; first | done | exact rfl) rfl rfl hokG hs.low hlw ?_
            intro G2 lo4 wr2 hw2 hr2 hlo4
            rw [ints_set] at hr2
            have hl2 : (L.set j (L.getD (j - 1) 0)).length = L0.length := by simp [hLl]
            obtain ⟨j4, b4, x4, l4, a4⟩ := hr2.at (ints_get (D := L.set j (L.getD (j - 1) 0)) (i := j - 1) (by omega))
            have x4 := x4 ((j : Int) - 1) (by omega)
            simp +decide (disch := first | assumption | (apply GH.ok_push; assumption) | exact cellV_int _ _ | exact cellV_bool _ | omega) only [go_sem, ↓reduceIte, Nat.reduceEqDiff, Nat.reduceAdd, Int.reduceToNat, he, x4]
            refine Row.put hr2 a4 (by rw [ints_len]; omega) (by simp +decide (disch := first | assumption | (apply GH.ok_push; assumption) | exact cellV_int _ _ | exact cellV_bool _ | omega) only [go_sem, ↓reduceIte, Nat.reduceEqDiff, Nat.reduceAdd, Int.reduceToNat, he, x4]; first | done | exact rfl) (by simp +decide (disch := first | assumption | (apply GH.ok_push; assumption) | exact cellV_int _ _ | exact cellV_bool _ | omega) only [go_sem, ↓reduceIte, Nat.reduceEqDiff, Nat.reduceAdd, Int.reduceToNat, he, l1]; first | done | exact rfl) rfl rfl hw2.ok hlo4 hlw ?_
            intro G3 lo5 wr3 hw3 hr3 hlo5
            rw [ints_set] at hr3
            simp +decide (disch := first | assumption | (apply GH.ok_push; assumption) | exact cellV_int _ _ | exact cellV_bool _ | omega) only [go_sem, ↓reduceIte, Nat.reduceEqDiff, Nat.reduceAdd, Int.reduceToNat, he]
            refine ih2 (j - 1) _ _ _ (by omega) ⟨swp L j (j - 1), j - 1, rfl, ⟨hlo5, hw3.ok, (hs.below.write hw2).write hw3, hr3, (swp_perm (by omega) (by omega) (by omega)).trans hs.perm⟩, by omega, ?_, hins.step cj hji (by omega) d⟩
            simp +decide (disch := first | assumption | (apply GH.ok_push; assumption) | exact cellV_int _ _ | exact cellV_bool _ | omega) only [go_sem, ↓reduceIte, Nat.reduceEqDiff, Nat.reduceAdd, Int.reduceToNat, he]
            congr 1; omega
          · rw [decide_eq_false d]
            simp +decide (disch := first | assumption | (apply GH.ok_push; assumption) | exact cellV_int _ _ | exact cellV_bool _ | omega) only [go_sem, ↓reduceIte, Nat.reduceEqDiff, Nat.reduceAdd, Int.reduceToNat, he]
            exact out2 _ _ _ ⟨L, hs, (by simp +decide (disch := first | assumption | (apply GH.ok_push; assumption) | exact cellV_int _ _ | exact cellV_bool _ | omega) only [go_sem, ↓reduceIte, Nat.reduceEqDiff, Nat.reduceAdd, Int.reduceToNat, he]; first | done | exact rfl), hins.done (.inr (by omega))⟩
        · simp +decide (disch := first | assumption | (apply GH.ok_push; assumption) | exact cellV_int _ _ | exact cellV_bool _ | omega) only [go_sem, ↓reduceIte, Nat.reduceEqDiff, Nat.reduceAdd, Int.reduceToNat, he]
          exact out2 _ _ _ ⟨L, hs, (by simp +decide (disch := first | assumption | (apply GH.ok_push; assumption) | exact cellV_int _ _ | exact cellV_bool _ | omega) only [go_sem, ↓reduceIte, Nat.reduceEqDiff, Nat.reduceAdd, Int.reduceToNat, he]; first | done | exact rfl), hins.done (.inl (by omega))⟩
    · simp +decide (disch := first | assumption | (apply GH.ok_push; assumption) | exact cellV_int _ _ | exact cellV_bool _ | omega) only [go_sem, ↓reduceIte, Nat.reduceEqDiff, Nat.reduceAdd, Int.reduceToNat, he]
      exact out _ _ _ ⟨L, hs, fun p q h1 h2 => hsr p q h1 (by omega)⟩
/-- The number of bits of a short length. -/
abbrev lenTab : ByteArray := ⟨#[0, 1, 2, 2, 3, 3, 3, 3, 4, 4, 4, 4, 4, 4, 4, 4, 5, 5, 5, 5, 5, 5, 5, 5, 5, 5, 5, 5, 5, 5, 5, 5, 6, 6, 6, 6, 6, 6, 6, 6, 6, 6, 6, 6, 6, 6, 6, 6, 6, 6, 6, 6, 6, 6, 6, 6, 6, 6, 6, 6, 6, 6, 6, 6, 7, 7, 7, 7, 7, 7, 7, 7, 7, 7, 7, 7, 7, 7, 7, 7, 7, 7, 7, 7, 7, 7, 7, 7, 7, 7, 7, 7, 7, 7, 7, 7, 7, 7, 7, 7, 7, 7, 7, 7, 7, 7, 7, 7, 7, 7, 7, 7, 7, 7, 7, 7, 7, 7, 7, 7, 7, 7, 7, 7, 7, 7, 7, 7, 8, 8, 8, 8, 8, 8, 8, 8, 8, 8, 8, 8, 8, 8, 8, 8, 8, 8, 8, 8, 8, 8, 8, 8, 8, 8, 8, 8, 8, 8, 8, 8, 8, 8, 8, 8, 8, 8, 8, 8, 8, 8, 8, 8, 8, 8, 8, 8, 8, 8, 8, 8, 8, 8, 8, 8, 8, 8, 8, 8, 8, 8, 8, 8, 8, 8, 8, 8, 8, 8, 8, 8, 8, 8, 8, 8, 8, 8, 8, 8, 8, 8, 8, 8, 8, 8, 8, 8, 8, 8, 8, 8, 8, 8, 8, 8, 8, 8, 8, 8, 8, 8, 8, 8, 8, 8, 8, 8, 8, 8, 8, 8, 8, 8, 8, 8, 8, 8, 8, 8, 8, 8, 8, 8, 8, 8, 8, 8]⟩
def lnOk (n : Nat) : Bool := match idxSF (.string lenTab) (.int .u8 (n : Nat)) with
  | some (.int .u8 b) => decide (0 ≤ b) && decide (b ≤ 8)
  | _ => false
theorem ln_all : (List.range 256).all lnOk = true := by decide +kernel
theorem ln_at {n : Nat} (h : n < 256) : ∃ b : Int, idxSF (.string lenTab) (.int .u8 (n : Nat)) = some (.int .u8 b) ∧ 0 ≤ b ∧ b ≤ 8 := by
  have := List.all_eq_true.1 ln_all n (List.mem_range.2 h)
  unfold lnOk at this
  split at this
  · rename_i b hb
    simp only [Bool.and_eq_true, decide_eq_true_eq] at this
    exact ⟨b, hb, this.1, this.2⟩
  · cases this
theorem wrapU8 {n : Int} (h0 : 0 ≤ n) (h1 : n < 256) : wrapF .u8 n = n := by
  show IntKind.wrap .u8 n = n
  simp [IntKind.wrap, IntKind.bits, IntKind.signed]
  omega
theorem ln64_rets {X : Caller} (hX : Xfr X) (n : Nat) (hn : n < 256) (g : GH) : Rets Tryd.prog X 84 [.int .u64 n] g (fun v g' lo => g.next ≤ lo ∧ ∃ b : Int, v = .int .i64 b) := by
  refine Rets.run hX.pres p84 (hX.free 84 (by decide) _ _) rfl fun ho => ?_
  obtain ⟨b, hb, b0, b8⟩ := ln_at hn
  have h1 : convF .u8 (.int .u64 (n : Int)) = some (.int .u8 n) := by
    show some (Value.int .u8 (wrapF .u8 n)) = _
    rw [wrapU8 (by omega) (by omega)]
  have h2 : convF .i64 (.int .u8 b) = some (.int .i64 b) := by
    show some (Value.int .i64 (wrapF .i64 b)) = _
    rw [wr64 (by omega) (by omega)]
  simp +decide (disch := first | assumption | (apply GH.ok_push; assumption) | exact cellV_int _ _ | exact cellV_bool _ | omega) only [go_sem, ↓reduceIte, Nat.reduceEqDiff, Nat.reduceAdd, Int.reduceToNat, h1, h2, hb]
  intro hx
  exact ⟨Nat.le_refl _, _, rfl⟩
theorem ln_rets {X : Caller} (hX : Xfr X) (n : Nat) (hn : n < 256) (g : GH) : Rets Tryd.prog X 70 [.int .u64 n] g (fun v g' lo => g.next ≤ lo ∧ ∃ b : Int, v = .int .i64 b) := by
  refine Rets.run hX.pres p70 (hX.free 70 (by decide) _ _) rfl fun ho => ?_
  simp +decide (disch := first | assumption | (apply GH.ok_push; assumption) | exact cellV_int _ _ | exact cellV_bool _ | omega) only [go_sem, ↓reduceIte, Nat.reduceEqDiff, Nat.reduceAdd, Int.reduceToNat]
  refine CallD.calm (ln64_rets hX n hn g) ?_
  rintro v G hx ⟨b, rfl⟩
  simp +decide (disch := first | assumption | (apply GH.ok_push; assumption) | exact cellV_int _ _ | exact cellV_bool _ | omega) only [go_sem, ↓reduceIte, Nat.reduceEqDiff, Nat.reduceAdd, Int.reduceToNat]
  intro hx0
  exact ⟨Nat.le_refl _, _, rfl⟩
theorem pdq_rets {X : Caller} (hX : Xfr X) (L0 : List Int) (hn : L0.length ≤ 12) (b : Int) (s : Value) (t : TypeId) (base lw : Nat) (g : GH) (hb : base ≤ g.next) (hlw : lw ≤ base) (hr : Row g s (ints L0) t base) :
    Rets Tryd.prog X 69 [s, .int .i64 0, .int .i64 L0.length, .int .i64 b] g (fun v g' lo => ∃ R, SortR g base lw t s L0 R g' lo ∧ Srt R) := by
  refine Rets.run hX.pres p69 (hX.free 69 (by decide) _ _) rfl fun ho => ?_
  simp +decide (disch := first | assumption | (apply GH.ok_push; assumption) | exact cellV_int _ _ | exact cellV_bool _ | omega) only [go_sem, ↓reduceIte, Nat.reduceEqDiff, Nat.reduceAdd, Int.reduceToNat]
  refine Wk.once ?_
  simp +decide (disch := first | assumption | (apply GH.ok_push; assumption) | exact cellV_int _ _ | exact cellV_bool _ | omega) only [go_sem, ↓reduceIte, Nat.reduceEqDiff, Nat.reduceAdd, Int.reduceToNat]
  refine CallD.call (insort_rets hX L0 (by omega) s t base lw g hb hlw hr) ?_
  rintro v G lo hx ⟨R, h1, h2⟩
  simp +decide (disch := first | assumption | (apply GH.ok_push; assumption) | exact cellV_int _ _ | exact cellV_bool _ | omega) only [go_sem, ↓reduceIte, Nat.reduceEqDiff, Nat.reduceAdd, Int.reduceToNat]
  intro hx0
  exact ⟨R, ⟨by have := h1.low; omega, h1.ok, h1.below, h1.row, h1.perm⟩, h2⟩
theorem sort62_rets {X : Caller} (hX : Xfr X) (L0 : List Int) (hn : L0.length ≤ 12) (s : Value) (t : TypeId) (base lw : Nat) (g : GH) (hb : base ≤ g.next) (hlw : lw ≤ base) (hr : Row g s (ints L0) t base) :
    Rets Tryd.prog X 62 [s] g (fun v g' lo => ∃ R, SortR g base lw t s L0 R g' lo ∧ Srt R) := by
  refine Rets.run hX.pres p62 (hX.free 62 (by decide) _ _) rfl fun ho => ?_
  have hl := hr.len
  rw [ints_len] at hl
  have h1 : convF .u64 (.int .i64 (L0.length : Int)) = some (.int .u64 L0.length) := by
    show some (Value.int .u64 (wrapF .u64 (.ofNat L0.length))) = _
    have : wrapF .u64 (.ofNat L0.length) = .ofNat L0.length := by
      show (bif Nat.blt L0.length 18446744073709551616 then _ else _) = _
      rw [blt_d, decide_eq_true (by omega)]; rfl
    rw [this]; rfl
  simp +decide (disch := first | assumption | (apply GH.ok_push; assumption) | exact cellV_int _ _ | exact cellV_bool _ | omega) only [go_sem, ↓reduceIte, Nat.reduceEqDiff, Nat.reduceAdd, Int.reduceToNat, hl, h1]
  refine CallD.calm (ln_rets hX L0.length (by omega) g) ?_
  rintro v G hx ⟨b, rfl⟩
  have hn1 := hx.next
  simp +decide (disch := first | assumption | (apply GH.ok_push; assumption) | exact cellV_int _ _ | exact cellV_bool _ | omega) only [go_sem, ↓reduceIte, Nat.reduceEqDiff, Nat.reduceAdd, Int.reduceToNat]
  refine CallD.call (pdq_rets hX L0 hn b s t base lw G (by omega) hlw (hr.kept hx.kept)) ?_
  rintro v G2 lo hx2 ⟨R, h1, h2⟩
  simp +decide (disch := first | assumption | (apply GH.ok_push; assumption) | exact cellV_int _ _ | exact cellV_bool _ | omega) only [go_sem, ↓reduceIte, Nat.reduceEqDiff, Nat.reduceAdd, Int.reduceToNat]
  intro hx0
  exact ⟨R, ⟨by have := h1.low; omega, h1.ok, ⟨by have := h1.below.next; omega, fun j hj => (h1.below.gets j hj).trans (hx.gets j (by omega)), fun f hf => (h1.below.fams f hf).trans (hx.kept.fams f (by omega))⟩, h1.row, h1.perm⟩, h2⟩
end Go.Proofs.YtnpapnpedcbfnaaDoor
set_option maxRecDepth 100000
set_option maxHeartbeats 4000000
set_option linter.unusedSimpArgs false
set_option linter.unusedVariables false
namespace Go.Proofs.YtnpapnpedcbfnaaDoor
open Go.Ds Go.Vs
/-! ## Odd parts -/
def od (x : Int) : Nat := sz x.toNat % 2
def oddS (D : List Int) : Nat := (D.map od).sum
theorem oddS_take {D : List Int} {i : Nat} (h : i < D.length) : oddS (D.take (i + 1)) = oddS (D.take i) + od (D.getD i 0) := by
  have e : D.take (i + 1) = D.take i ++ [D.getD i 0] := by
    rw [getD_at h]; exact (List.take_append_getElem h).symm
  unfold oddS
  rw [e, List.map_append, List.sum_append]
  simp
theorem oddS_perm {A B : List Int} (h : A.Perm B) : oddS A = oddS B := by
  induction h with
  | nil => rfl
  | cons x _ ih => simp only [oddS, List.map_cons, List.sum_cons] at *; omega
  | swap x y l => simp only [oddS, List.map_cons, List.sum_cons]; omega
  | trans _ _ a b => exact a.trans b
theorem oddS_le (D : List Int) : oddS D ≤ D.length := by
  induction D with
  | nil => exact Nat.le_refl _
  | cons x D ih =>
    have : od x ≤ 1 := by unfold od; omega
    simp only [oddS, List.map_cons, List.sum_cons, List.length_cons] at *
    omega
/-- The parts of a shop without a set. -/
def partsOf (L : List Int) (S : Nat) : List Int := partsI (setF L) (andn (allN L.length) S) L.length L.length
theorem partsOf_len (L : List Int) (S : Nat) : (partsOf L S).length ≤ L.length := by
  unfold partsOf partsI
  rw [List.length_map]
  exact ptsL_len _ _ _ _
theorem partsOf_mem {L : List Int} {S : Nat} {x : Int} (h : x ∈ partsOf L S) : ∃ y : Nat, x = y ∧ y < 2 ^ L.length := by
  unfold partsOf partsI at h
  obtain ⟨y, h1, rfl⟩ := List.mem_map.1 h
  exact ⟨y, rfl, ptsL_lt (Nat.lt_of_le_of_lt (andn_le _ _) (all_lt _)) _ (Nat.le_refl _) y h1⟩
theorem getD_mem {D : List Int} {i : Nat} (h : i < D.length) : D.getD i 0 ∈ D := by rw [getD_at h]; exact List.getElem_mem h
theorem odd64_rets {X : Caller} (hX : Xfr X) (L : List Int) (hL : shopB L = true) (s : Value) (S : Nat) (hS : S < 2 ^ L.length) (g : GH) (hs : SlR g s (ints L)) :
    Rets Tryd.prog X 64 [s, .int .i64 (S : Int)] g (fun v g' lo => g.next ≤ lo ∧ v = .int .i64 (oddS (partsOf L S) : Nat)) := by
  obtain ⟨hL1, hL10, hA⟩ := shop_ok hL
  have hN : 2 ^ L.length ≤ 1024 := Nat.pow_le_pow_right (by decide) hL10
  have hpr := parts_rets hX L hL s S _ hS rfl g hs
  rw [show partsI (setF L) (andn (allN L.length) S) L.length L.length = partsOf L S from rfl] at hpr
  have hpl := partsOf_len L S
  have hmem := fun x => partsOf_mem (L := L) (S := S) (x := x)
  have hol := oddS_le (partsOf L S)
  generalize partsOf L S = D at *
  refine Rets.run hX.pres p64 (hX.free 64 (by decide) _ _) rfl fun ho => ?_
  simp +decide (disch := first | assumption | exact cellV_int _ _ | exact cellV_bool _ | omega | (simp only [GH.pn, GH.sn] <;> omega) | (with_reducible ((repeat (first | apply GH.ok_push | apply GH.ok_set)); assumption)) | ((try simp only [GH.push_hid, GH.set_hid]); first | assumption | (refine GH.vis ?_ ?_ <;> first | assumption | ((try simp only [GH.pn, GH.sn]) <;> omega)))) only [go_sem, ↓reduceIte, Nat.reduceEqDiff, Nat.reduceAdd, Int.reduceToNat, Int.reduceAdd, Int.reduceNeg, Int.reduceSub, Int.reduceMul, Int.reduceLT, Int.reduceLE, Int.reduceEq, ↓GH.gp_eq, ↓GH.gp_ne, ↓GH.gs_eq, ↓GH.gs_ne, GH.push_next, GH.set_next]
  refine CallD.calm hpr ?_
  rintro v g1 hx1 ⟨hok1, hk1, hown⟩
  have hn1 := hx1.next
  have hrd := hown.read
  have hl := hrd.len
  rw [ints_len] at hl
  simp +decide (disch := first | assumption | exact cellV_int _ _ | exact cellV_bool _ | omega | (simp only [GH.pn, GH.sn] <;> omega) | (with_reducible ((repeat (first | apply GH.ok_push | apply GH.ok_set)); assumption)) | ((try simp only [GH.push_hid, GH.set_hid]); first | assumption | (refine GH.vis ?_ ?_ <;> first | assumption | ((try simp only [GH.pn, GH.sn]) <;> omega)))) only [go_sem, ↓reduceIte, Nat.reduceEqDiff, Nat.reduceAdd, Int.reduceToNat, Int.reduceAdd, Int.reduceNeg, Int.reduceSub, Int.reduceMul, Int.reduceLT, Int.reduceLE, Int.reduceEq, ↓GH.gp_eq, ↓GH.gp_ne, ↓GH.gs_eq, ↓GH.gs_ne, GH.push_next, GH.set_next, hl]
  refine Wk.loops (fun m e g' lo => g.next ≤ lo ∧ Kept g1 g' ∧ ∃ i : Nat, i + m = D.length ∧ (ev e (.s 10) = v ∧ ev e (.s 11) = .int .i64 (D.length : Int) ∧ ev e (.s 12) = .int .i64 (i : Int) ∧ ev e (.s 5) = .int .i64 (oddS (D.take i) : Nat)))
    (fun e g' lo => g.next ≤ lo ∧ ev e (.s 5) = .int .i64 (oddS D : Nat)) (n := D.length) ?_ ?_ ?_
  · exact ⟨by omega, Kept.refl _, 0, by omega, (by simp +decide (disch := first | assumption | (apply GH.ok_push; assumption) | exact cellV_int _ _ | exact cellV_bool _ | omega) only [go_sem, ↓reduceIte, Nat.reduceEqDiff, Nat.reduceAdd, Int.reduceToNat, hl]; first | done | exact rfl)⟩
  · rintro e g' lo - - ⟨hlo, he⟩
    simp +decide (disch := first | assumption | exact cellV_int _ _ | exact cellV_bool _ | omega | (simp only [GH.pn, GH.sn] <;> omega) | (with_reducible ((repeat (first | apply GH.ok_push | apply GH.ok_set)); assumption)) | ((try simp only [GH.push_hid, GH.set_hid]); first | assumption | (refine GH.vis ?_ ?_ <;> first | assumption | ((try simp only [GH.pn, GH.sn]) <;> omega)))) only [go_sem, ↓reduceIte, Nat.reduceEqDiff, Nat.reduceAdd, Int.reduceToNat, Int.reduceAdd, Int.reduceNeg, Int.reduceSub, Int.reduceMul, Int.reduceLT, Int.reduceLE, Int.reduceEq, ↓GH.gp_eq, ↓GH.gp_ne, ↓GH.gs_eq, ↓GH.gs_ne, GH.push_next, GH.set_next, he]
    intro hx0
    exact ⟨hlo, rfl⟩
  · rintro m e g' lo ho' hl' ih out ⟨hlo, hk, i, him, he⟩
    have hkn := hk.next
    by_cases ci : i < D.length
    case neg =>
      have ci' : ¬ (i : Int) < D.length := by omega
      simp +decide (disch := first | assumption | exact cellV_int _ _ | exact cellV_bool _ | omega | (simp only [GH.pn, GH.sn] <;> omega) | (with_reducible ((repeat (first | apply GH.ok_push | apply GH.ok_set)); assumption)) | ((try simp only [GH.push_hid, GH.set_hid]); first | assumption | (refine GH.vis ?_ ?_ <;> first | assumption | ((try simp only [GH.pn, GH.sn]) <;> omega)))) only [go_sem, ↓reduceIte, Nat.reduceEqDiff, Nat.reduceAdd, Int.reduceToNat, Int.reduceAdd, Int.reduceNeg, Int.reduceSub, Int.reduceMul, Int.reduceLT, Int.reduceLE, Int.reduceEq, ↓GH.gp_eq, ↓GH.gp_ne, ↓GH.gs_eq, ↓GH.gs_ne, GH.push_next, GH.set_next, he, ci']
      have : i = D.length := by omega
      subst this
      rw [List.take_length] at he
      exact out _ _ _ ⟨hlo, (by simp +decide (disch := first | assumption | (apply GH.ok_push; assumption) | exact cellV_int _ _ | exact cellV_bool _ | omega) only [go_sem, ↓reduceIte, Nat.reduceEqDiff, Nat.reduceAdd, Int.reduceToNat, he]; first | done | exact rfl)⟩
    have ci' : (i : Int) < D.length := by omega
    obtain ⟨j2, o2, hj2, hq1, hq2⟩ := (hrd.kept hk).ptr (ints_get (D := D) (i := i) ci)
    have hq1 := hq1 (i : Int) rfl
    obtain ⟨y, hy, hyl⟩ := hmem _ (getD_mem ci)
    have hot := oddS_take ci
    have hle : oddS (D.take i) ≤ i := Nat.le_trans (oddS_le _) (by rw [List.length_take]; omega)
    rw [hy] at hq2
    have hody : od (D.getD i 0) = sz y % 2 := by rw [hy]; rfl
    rw [hody] at hot
    have hcnt := count_rets hX y (by omega) g'
    have r1 : ((sz y : Nat) : Int).tmod 2 = ((sz y % 2 : Nat) : Int) := rfl
    generalize sz y = z at *
    generalize oddS (D.take i) = w at *
    simp +decide (disch := first | assumption | exact cellV_int _ _ | exact cellV_bool _ | omega | (simp only [GH.pn, GH.sn] <;> omega) | (with_reducible ((repeat (first | apply GH.ok_push | apply GH.ok_set)); assumption)) | ((try simp only [GH.push_hid, GH.set_hid]); first | assumption | (refine GH.vis ?_ ?_ <;> first | assumption | ((try simp only [GH.pn, GH.sn]) <;> omega)))) only [go_sem, ↓reduceIte, Nat.reduceEqDiff, Nat.reduceAdd, Int.reduceToNat, Int.reduceAdd, Int.reduceNeg, Int.reduceSub, Int.reduceMul, Int.reduceLT, Int.reduceLE, Int.reduceEq, ↓GH.gp_eq, ↓GH.gp_ne, ↓GH.gs_eq, ↓GH.gs_ne, GH.push_next, GH.set_next, he, ci', hq1, hq2]
    refine CallD.calm hcnt ?_
    rintro u g3 hx3 rfl
    have hn3 := hx3.next
    have hk3 := hk.ext hx3
    simp +decide (disch := first | assumption | exact cellV_int _ _ | exact cellV_bool _ | omega | (simp only [GH.pn, GH.sn] <;> omega) | (with_reducible ((repeat (first | apply GH.ok_push | apply GH.ok_set)); assumption)) | ((try simp only [GH.push_hid, GH.set_hid]); first | assumption | (refine GH.vis ?_ ?_ <;> first | assumption | ((try simp only [GH.pn, GH.sn]) <;> omega)))) only [go_sem, ↓reduceIte, Nat.reduceEqDiff, Nat.reduceAdd, Int.reduceToNat, Int.reduceAdd, Int.reduceNeg, Int.reduceSub, Int.reduceMul, Int.reduceLT, Int.reduceLE, Int.reduceEq, ↓GH.gp_eq, ↓GH.gp_ne, ↓GH.gs_eq, ↓GH.gs_ne, GH.push_next, GH.set_next, he, r1]
    refine ih (m - 1) _ _ _ (by omega) ⟨hlo, hk3, i + 1, by omega, ?_⟩
    rw [hot]
    exact (by simp +decide (disch := first | assumption | (apply GH.ok_push; assumption) | exact cellV_int _ _ | exact cellV_bool _ | omega) only [go_sem, ↓reduceIte, Nat.reduceEqDiff, Nat.reduceAdd, Int.reduceToNat, he, r1]; first | done | exact rfl)
/-! ## Odd, Barrier, Parts of the program -/
def okS (L : List Int) (S : Int) : Bool := decide (0 ≤ S) && decide (S < 2 ^ L.length)
def odA (L : List Int) (S : Int) : Int := if shopB L && okS L S then (oddS (partsOf L S.toNat) : Nat) else 0
def odE (L : List Int) (S : Int) : Int := if shopB L && okS L S then 0 else 2
theorem okS_nat {L : List Int} {S : Int} (h : okS L S = true) : ∃ k : Nat, S = k ∧ k < 2 ^ L.length := by
  unfold okS at h
  simp only [Bool.and_eq_true, decide_eq_true_eq] at h
  refine ⟨S.toNat, by omega, ?_⟩
  have e2 : ((2 ^ L.length : Nat) : Int) = 2 ^ L.length := by simp
  rw [← e2] at h
  omega
theorem Odd_rets {X : Caller} (hX : Xfr X) (L : List Int) (hL : L.length ≤ 40) (s : Value) (S : Int) (g : GH) (hs : SlR g s (ints L)) :
    Rets Tryd.prog X 37 [s, .int .i64 S] g (fun v g' lo => g.next ≤ lo ∧ v = .tuple #[.int .i64 (odA L S), .int .i64 (odE L S)]) := by
  generalize hr : Value.tuple #[.int .i64 (odA L S), .int .i64 (odE L S)] = r
  unfold odA odE at hr
  refine Rets.run hX.pres p37 (hX.free 37 (by decide) _ _) rfl fun ho => ?_
  simp +decide (disch := first | assumption | exact cellV_int _ _ | exact cellV_bool _ | omega | (simp only [GH.pn, GH.sn] <;> omega) | (with_reducible ((repeat (first | apply GH.ok_push | apply GH.ok_set)); assumption)) | ((try simp only [GH.push_hid, GH.set_hid]); first | assumption | (refine GH.vis ?_ ?_ <;> first | assumption | ((try simp only [GH.pn, GH.sn]) <;> omega)))) only [go_sem, ↓reduceIte, Nat.reduceEqDiff, Nat.reduceAdd, Int.reduceToNat, Int.reduceAdd, Int.reduceNeg, Int.reduceSub, Int.reduceMul, Int.reduceLT, Int.reduceLE, Int.reduceEq, ↓GH.gp_eq, ↓GH.gp_ne, ↓GH.gs_eq, ↓GH.gs_ne, GH.push_next, GH.set_next]
  refine CallD.calm (IsShop_rets hX L hL s g hs) ?_
  rintro v g1 hx1 rfl
  have hn1 := hx1.next
  cases hz : shopB L with
  | false =>
    simp +decide (disch := first | assumption | exact cellV_int _ _ | exact cellV_bool _ | omega | (simp only [GH.pn, GH.sn] <;> omega) | (with_reducible ((repeat (first | apply GH.ok_push | apply GH.ok_set)); assumption)) | ((try simp only [GH.push_hid, GH.set_hid]); first | assumption | (refine GH.vis ?_ ?_ <;> first | assumption | ((try simp only [GH.pn, GH.sn]) <;> omega)))) only [go_sem, ↓reduceIte, Nat.reduceEqDiff, Nat.reduceAdd, Int.reduceToNat, Int.reduceAdd, Int.reduceNeg, Int.reduceSub, Int.reduceMul, Int.reduceLT, Int.reduceLE, Int.reduceEq, ↓GH.gp_eq, ↓GH.gp_ne, ↓GH.gs_eq, ↓GH.gs_ne, GH.push_next, GH.set_next]
    intro hx0
    exact ⟨by omega, by rw [← hr, hz]; rfl⟩
  | true =>
  obtain ⟨hL1, hL10, hA⟩ := shop_ok hz
  have hset := isSet_rets hX L hL10 S s g1 (hs.ext hx1)
  rw [show (decide (0 ≤ S) && decide (S < 2 ^ L.length)) = okS L S from rfl] at hset
  simp +decide (disch := first | assumption | exact cellV_int _ _ | exact cellV_bool _ | omega | (simp only [GH.pn, GH.sn] <;> omega) | (with_reducible ((repeat (first | apply GH.ok_push | apply GH.ok_set)); assumption)) | ((try simp only [GH.push_hid, GH.set_hid]); first | assumption | (refine GH.vis ?_ ?_ <;> first | assumption | ((try simp only [GH.pn, GH.sn]) <;> omega)))) only [go_sem, ↓reduceIte, Nat.reduceEqDiff, Nat.reduceAdd, Int.reduceToNat, Int.reduceAdd, Int.reduceNeg, Int.reduceSub, Int.reduceMul, Int.reduceLT, Int.reduceLE, Int.reduceEq, ↓GH.gp_eq, ↓GH.gp_ne, ↓GH.gs_eq, ↓GH.gs_ne, GH.push_next, GH.set_next]
  refine CallD.calm hset ?_
  rintro v g2 hx2 rfl
  have hn2 := hx2.next
  have hk2 := hx1.kept.ext hx2
  cases hk : okS L S with
  | false =>
    simp +decide (disch := first | assumption | exact cellV_int _ _ | exact cellV_bool _ | omega | (simp only [GH.pn, GH.sn] <;> omega) | (with_reducible ((repeat (first | apply GH.ok_push | apply GH.ok_set)); assumption)) | ((try simp only [GH.push_hid, GH.set_hid]); first | assumption | (refine GH.vis ?_ ?_ <;> first | assumption | ((try simp only [GH.pn, GH.sn]) <;> omega)))) only [go_sem, ↓reduceIte, Nat.reduceEqDiff, Nat.reduceAdd, Int.reduceToNat, Int.reduceAdd, Int.reduceNeg, Int.reduceSub, Int.reduceMul, Int.reduceLT, Int.reduceLE, Int.reduceEq, ↓GH.gp_eq, ↓GH.gp_ne, ↓GH.gs_eq, ↓GH.gs_ne, GH.push_next, GH.set_next]
    intro hx0
    exact ⟨by omega, by rw [← hr, hz, hk]; rfl⟩
  | true =>
  obtain ⟨k, rfl, hkl⟩ := okS_nat hk
  simp +decide (disch := first | assumption | exact cellV_int _ _ | exact cellV_bool _ | omega | (simp only [GH.pn, GH.sn] <;> omega) | (with_reducible ((repeat (first | apply GH.ok_push | apply GH.ok_set)); assumption)) | ((try simp only [GH.push_hid, GH.set_hid]); first | assumption | (refine GH.vis ?_ ?_ <;> first | assumption | ((try simp only [GH.pn, GH.sn]) <;> omega)))) only [go_sem, ↓reduceIte, Nat.reduceEqDiff, Nat.reduceAdd, Int.reduceToNat, Int.reduceAdd, Int.reduceNeg, Int.reduceSub, Int.reduceMul, Int.reduceLT, Int.reduceLE, Int.reduceEq, ↓GH.gp_eq, ↓GH.gp_ne, ↓GH.gs_eq, ↓GH.gs_ne, GH.push_next, GH.set_next]
  refine CallD.calm (odd64_rets hX L hz s k hkl g2 (hs.kept hk2)) ?_
  rintro v g3 hx3 rfl
  have hn3 := hx3.next
  simp +decide (disch := first | assumption | exact cellV_int _ _ | exact cellV_bool _ | omega | (simp only [GH.pn, GH.sn] <;> omega) | (with_reducible ((repeat (first | apply GH.ok_push | apply GH.ok_set)); assumption)) | ((try simp only [GH.push_hid, GH.set_hid]); first | assumption | (refine GH.vis ?_ ?_ <;> first | assumption | ((try simp only [GH.pn, GH.sn]) <;> omega)))) only [go_sem, ↓reduceIte, Nat.reduceEqDiff, Nat.reduceAdd, Int.reduceToNat, Int.reduceAdd, Int.reduceNeg, Int.reduceSub, Int.reduceMul, Int.reduceLT, Int.reduceLE, Int.reduceEq, ↓GH.gp_eq, ↓GH.gp_ne, ↓GH.gs_eq, ↓GH.gs_ne, GH.push_next, GH.set_next]
  intro hx0
  exact ⟨by omega, by rw [← hr, hz, hk]; rfl⟩
def moreF (L : List Int) (S : Nat) : Int := (oddS (partsOf L S) : Int) - (sz S : Int)
def barF (f : Nat → Int) : Nat → Nat × Int
  | 0 => (0, 0)
  | s + 1 => if (barF f s).2 < f s then (s, f s) else barF f s
def barI (L : List Int) : Nat × Int := if shopB L = true then barF (moreF L) (2 ^ L.length) else (0, 0)
def barE (L : List Int) : Int := if shopB L = true then 0 else 2
theorem sz_le {n x : Nat} (h : x < 2 ^ n) : sz x ≤ n := by
  rw [sz_pc n x h]
  have := List.countP_le_length (p := x.testBit) (l := List.range n)
  rwa [List.length_range] at this
theorem Barrier_rets {X : Caller} (hX : Xfr X) (L : List Int) (hL : L.length ≤ 40) (s : Value) (g : GH) (hs : SlR g s (ints L)) :
    Rets Tryd.prog X 39 [s] g (fun v g' lo => g.next ≤ lo ∧ v = .tuple #[.int .i64 ((barI L).1 : Nat), .int .i64 (barI L).2, .int .i64 (barE L)]) := by
  generalize hr : Value.tuple #[.int .i64 ((barI L).1 : Nat), .int .i64 (barI L).2, .int .i64 (barE L)] = r
  unfold barI barE at hr
  refine Rets.run hX.pres p39 (hX.free 39 (by decide) _ _) rfl fun ho => ?_
  simp +decide (disch := first | assumption | exact cellV_int _ _ | exact cellV_bool _ | omega | (simp only [GH.pn, GH.sn] <;> omega) | (with_reducible ((repeat (first | apply GH.ok_push | apply GH.ok_set)); assumption)) | ((try simp only [GH.push_hid, GH.set_hid]); first | assumption | (refine GH.vis ?_ ?_ <;> first | assumption | ((try simp only [GH.pn, GH.sn]) <;> omega)))) only [go_sem, ↓reduceIte, Nat.reduceEqDiff, Nat.reduceAdd, Int.reduceToNat, Int.reduceAdd, Int.reduceNeg, Int.reduceSub, Int.reduceMul, Int.reduceLT, Int.reduceLE, Int.reduceEq, ↓GH.gp_eq, ↓GH.gp_ne, ↓GH.gs_eq, ↓GH.gs_ne, GH.push_next, GH.set_next]
  refine CallD.calm (IsShop_rets hX L hL s g hs) ?_
  rintro v g1 hx1 rfl
  have hn1 := hx1.next
  cases hz : shopB L with
  | false =>
    simp +decide (disch := first | assumption | exact cellV_int _ _ | exact cellV_bool _ | omega | (simp only [GH.pn, GH.sn] <;> omega) | (with_reducible ((repeat (first | apply GH.ok_push | apply GH.ok_set)); assumption)) | ((try simp only [GH.push_hid, GH.set_hid]); first | assumption | (refine GH.vis ?_ ?_ <;> first | assumption | ((try simp only [GH.pn, GH.sn]) <;> omega)))) only [go_sem, ↓reduceIte, Nat.reduceEqDiff, Nat.reduceAdd, Int.reduceToNat, Int.reduceAdd, Int.reduceNeg, Int.reduceSub, Int.reduceMul, Int.reduceLT, Int.reduceLE, Int.reduceEq, ↓GH.gp_eq, ↓GH.gp_ne, ↓GH.gs_eq, ↓GH.gs_ne, GH.push_next, GH.set_next]
    intro hx0
    exact ⟨by omega, by rw [← hr, hz]; rfl⟩
  | true =>
  obtain ⟨hL1, hL10, hA⟩ := shop_ok hz
  rw [hz, if_pos rfl, if_pos rfl] at hr
  have ha := allHats_rets hX L hL10 s g1 (hs.ext hx1)
  have e2 : ((2 ^ L.length : Nat) : Int) = 2 ^ L.length := by simp
  rw [← e2] at ha
  have hN : 2 ^ L.length ≤ 1024 := Nat.pow_le_pow_right (by decide) hL10
  have hod := fun S (hS : S < 2 ^ L.length) G (hk : Kept g G) => odd64_rets hX L hz s S hS G (hs.kept hk)
  have hpl := fun S => Nat.le_trans (oddS_le (partsOf L S)) (partsOf_len L S)
  have hszl := fun S (hS : S < 2 ^ L.length) => sz_le hS
  have hmf : ∀ S, moreF L S = (oddS (partsOf L S) : Int) - (sz S : Int) := fun _ => rfl
  generalize moreF L = f at *
  generalize hN' : 2 ^ L.length = N at *
  simp +decide (disch := first | assumption | exact cellV_int _ _ | exact cellV_bool _ | omega | (simp only [GH.pn, GH.sn] <;> omega) | (with_reducible ((repeat (first | apply GH.ok_push | apply GH.ok_set)); assumption)) | ((try simp only [GH.push_hid, GH.set_hid]); first | assumption | (refine GH.vis ?_ ?_ <;> first | assumption | ((try simp only [GH.pn, GH.sn]) <;> omega)))) only [go_sem, ↓reduceIte, Nat.reduceEqDiff, Nat.reduceAdd, Int.reduceToNat, Int.reduceAdd, Int.reduceNeg, Int.reduceSub, Int.reduceMul, Int.reduceLT, Int.reduceLE, Int.reduceEq, ↓GH.gp_eq, ↓GH.gp_ne, ↓GH.gs_eq, ↓GH.gs_ne, GH.push_next, GH.set_next]
  refine CallD.calm ha ?_
  rintro v g2 hx2 rfl
  have hn2 := hx2.next
  have hk2 := hx1.kept.ext hx2
  have eN : (N : Int) - 1 + 1 = N := by omega
  simp +decide (disch := first | assumption | exact cellV_int _ _ | exact cellV_bool _ | omega | (simp only [GH.pn, GH.sn] <;> omega) | (with_reducible ((repeat (first | apply GH.ok_push | apply GH.ok_set)); assumption)) | ((try simp only [GH.push_hid, GH.set_hid]); first | assumption | (refine GH.vis ?_ ?_ <;> first | assumption | ((try simp only [GH.pn, GH.sn]) <;> omega)))) only [go_sem, ↓reduceIte, Nat.reduceEqDiff, Nat.reduceAdd, Int.reduceToNat, Int.reduceAdd, Int.reduceNeg, Int.reduceSub, Int.reduceMul, Int.reduceLT, Int.reduceLE, Int.reduceEq, ↓GH.gp_eq, ↓GH.gp_ne, ↓GH.gs_eq, ↓GH.gs_ne, GH.push_next, GH.set_next, eN]
  refine Wk.loops (fun m e g' lo => g.next ≤ lo ∧ Kept g g' ∧ ∃ S : Nat, S + m = N ∧ (ev e (.s 0) = s ∧ ev e (.s 14) = .int .i64 (N : Int) ∧ ev e (.s 15) = .int .i64 (S : Int) ∧ ev e (.s 5) = .int .i64 ((barF f S).1 : Nat) ∧ ev e (.s 6) = .int .i64 (barF f S).2))
    (fun e g' lo => g.next ≤ lo ∧ (ev e (.s 5) = .int .i64 ((barF f N).1 : Nat) ∧ ev e (.s 6) = .int .i64 (barF f N).2)) (n := N) ?_ ?_ ?_
  · refine ⟨by omega, hk2, 0, by omega, ?_⟩
    show _ ∧ _ ∧ _ ∧ _ = Value.int .i64 0 ∧ _ = Value.int .i64 0
    exact (by simp +decide (disch := first | assumption | (apply GH.ok_push; assumption) | exact cellV_int _ _ | exact cellV_bool _ | omega) only [go_sem, ↓reduceIte, Nat.reduceEqDiff, Nat.reduceAdd, Int.reduceToNat, eN]; first | done | exact rfl)
  · rintro e g' lo - - ⟨hlo, he⟩
    simp +decide (disch := first | assumption | exact cellV_int _ _ | exact cellV_bool _ | omega | (simp only [GH.pn, GH.sn] <;> omega) | (with_reducible ((repeat (first | apply GH.ok_push | apply GH.ok_set)); assumption)) | ((try simp only [GH.push_hid, GH.set_hid]); first | assumption | (refine GH.vis ?_ ?_ <;> first | assumption | ((try simp only [GH.pn, GH.sn]) <;> omega)))) only [go_sem, ↓reduceIte, Nat.reduceEqDiff, Nat.reduceAdd, Int.reduceToNat, Int.reduceAdd, Int.reduceNeg, Int.reduceSub, Int.reduceMul, Int.reduceLT, Int.reduceLE, Int.reduceEq, ↓GH.gp_eq, ↓GH.gp_ne, ↓GH.gs_eq, ↓GH.gs_ne, GH.push_next, GH.set_next, he]
    intro hx0
    exact ⟨hlo, hr⟩
  · rintro m e g' lo ho' hl' ih out ⟨hlo, hk, S, hSm, he⟩
    have hkn := hk.next
    by_cases ci : S < N
    case neg =>
      have ci' : ¬ (S : Int) < N := by omega
      simp +decide (disch := first | assumption | exact cellV_int _ _ | exact cellV_bool _ | omega | (simp only [GH.pn, GH.sn] <;> omega) | (with_reducible ((repeat (first | apply GH.ok_push | apply GH.ok_set)); assumption)) | ((try simp only [GH.push_hid, GH.set_hid]); first | assumption | (refine GH.vis ?_ ?_ <;> first | assumption | ((try simp only [GH.pn, GH.sn]) <;> omega)))) only [go_sem, ↓reduceIte, Nat.reduceEqDiff, Nat.reduceAdd, Int.reduceToNat, Int.reduceAdd, Int.reduceNeg, Int.reduceSub, Int.reduceMul, Int.reduceLT, Int.reduceLE, Int.reduceEq, ↓GH.gp_eq, ↓GH.gp_ne, ↓GH.gs_eq, ↓GH.gs_ne, GH.push_next, GH.set_next, he, ci']
      have : S = N := by omega
      subst this
      exact out _ _ _ ⟨hlo, (by simp +decide (disch := first | assumption | (apply GH.ok_push; assumption) | exact cellV_int _ _ | exact cellV_bool _ | omega) only [go_sem, ↓reduceIte, Nat.reduceEqDiff, Nat.reduceAdd, Int.reduceToNat, he]; first | done | exact rfl)⟩
    have ci' : (S : Int) < N := by omega
    have h1 := hod S ci g' hk
    have h2 := hpl S
    have h3 := hszl S ci
    have h4 := hmf S
    have h5 : barF f (S + 1) = if (barF f S).2 < f S then (S, f S) else barF f S := rfl
    have hcn := fun G => count_rets hX S (by omega) G
    generalize oddS (partsOf L S) = od at *
    generalize sz S = z at *
    generalize f S = fs at *
    generalize barF f S = b at *
    obtain ⟨b1, b2⟩ := b
    dsimp only at he h5
    simp +decide (disch := first | assumption | exact cellV_int _ _ | exact cellV_bool _ | omega | (simp only [GH.pn, GH.sn] <;> omega) | (with_reducible ((repeat (first | apply GH.ok_push | apply GH.ok_set)); assumption)) | ((try simp only [GH.push_hid, GH.set_hid]); first | assumption | (refine GH.vis ?_ ?_ <;> first | assumption | ((try simp only [GH.pn, GH.sn]) <;> omega)))) only [go_sem, ↓reduceIte, Nat.reduceEqDiff, Nat.reduceAdd, Int.reduceToNat, Int.reduceAdd, Int.reduceNeg, Int.reduceSub, Int.reduceMul, Int.reduceLT, Int.reduceLE, Int.reduceEq, ↓GH.gp_eq, ↓GH.gp_ne, ↓GH.gs_eq, ↓GH.gs_ne, GH.push_next, GH.set_next, he, ci']
    refine CallD.calm h1 ?_
    rintro v g3 hx3 rfl
    have hn3 := hx3.next
    have hk3 := hk.ext hx3
    simp +decide (disch := first | assumption | exact cellV_int _ _ | exact cellV_bool _ | omega | (simp only [GH.pn, GH.sn] <;> omega) | (with_reducible ((repeat (first | apply GH.ok_push | apply GH.ok_set)); assumption)) | ((try simp only [GH.push_hid, GH.set_hid]); first | assumption | (refine GH.vis ?_ ?_ <;> first | assumption | ((try simp only [GH.pn, GH.sn]) <;> omega)))) only [go_sem, ↓reduceIte, Nat.reduceEqDiff, Nat.reduceAdd, Int.reduceToNat, Int.reduceAdd, Int.reduceNeg, Int.reduceSub, Int.reduceMul, Int.reduceLT, Int.reduceLE, Int.reduceEq, ↓GH.gp_eq, ↓GH.gp_ne, ↓GH.gs_eq, ↓GH.gs_ne, GH.push_next, GH.set_next, he]
    refine CallD.calm (hcn g3) ?_
    rintro v g4 hx4 rfl
    have hn4 := hx4.next
    have hk4 := hk3.ext hx4
    have hsub : (od : Int) - (z : Int) = fs := h4.symm
    by_cases c : b2 < fs
    · rw [if_pos c] at h5
      simp +decide (disch := first | assumption | exact cellV_int _ _ | exact cellV_bool _ | omega | (simp only [GH.pn, GH.sn] <;> omega) | (with_reducible ((repeat (first | apply GH.ok_push | apply GH.ok_set)); assumption)) | ((try simp only [GH.push_hid, GH.set_hid]); first | assumption | (refine GH.vis ?_ ?_ <;> first | assumption | ((try simp only [GH.pn, GH.sn]) <;> omega)))) only [go_sem, ↓reduceIte, Nat.reduceEqDiff, Nat.reduceAdd, Int.reduceToNat, Int.reduceAdd, Int.reduceNeg, Int.reduceSub, Int.reduceMul, Int.reduceLT, Int.reduceLE, Int.reduceEq, ↓GH.gp_eq, ↓GH.gp_ne, ↓GH.gs_eq, ↓GH.gs_ne, GH.push_next, GH.set_next, he, hsub, c]
      refine ih (m - 1) _ _ _ (by omega) ⟨hlo, hk4, S + 1, by omega, ?_⟩
      rw [h5]
      exact (by simp +decide (disch := first | assumption | (apply GH.ok_push; assumption) | exact cellV_int _ _ | exact cellV_bool _ | omega) only [go_sem, ↓reduceIte, Nat.reduceEqDiff, Nat.reduceAdd, Int.reduceToNat, he]; first | done | exact rfl)
    · rw [if_neg c] at h5
      simp +decide (disch := first | assumption | exact cellV_int _ _ | exact cellV_bool _ | omega | (simp only [GH.pn, GH.sn] <;> omega) | (with_reducible ((repeat (first | apply GH.ok_push | apply GH.ok_set)); assumption)) | ((try simp only [GH.push_hid, GH.set_hid]); first | assumption | (refine GH.vis ?_ ?_ <;> first | assumption | ((try simp only [GH.pn, GH.sn]) <;> omega)))) only [go_sem, ↓reduceIte, Nat.reduceEqDiff, Nat.reduceAdd, Int.reduceToNat, Int.reduceAdd, Int.reduceNeg, Int.reduceSub, Int.reduceMul, Int.reduceLT, Int.reduceLE, Int.reduceEq, ↓GH.gp_eq, ↓GH.gp_ne, ↓GH.gs_eq, ↓GH.gs_ne, GH.push_next, GH.set_next, he, hsub, c]
      refine ih (m - 1) _ _ _ (by omega) ⟨hlo, hk4, S + 1, by omega, ?_⟩
      rw [h5]
      exact (by simp +decide (disch := first | assumption | (apply GH.ok_push; assumption) | exact cellV_int _ _ | exact cellV_bool _ | omega) only [go_sem, ↓reduceIte, Nat.reduceEqDiff, Nat.reduceAdd, Int.reduceToNat, he]; first | done | exact rfl)
/-- What Parts says. -/
structure PtOk (L : List Int) (S : Int) (R : List Int) (e : Int) : Prop where
  yes : (shopB L && okS L S) = true → e = 0 ∧ Srt R ∧ R.Perm (partsOf L S.toNat)
  no : (shopB L && okS L S) = false → e = 2 ∧ R = []
theorem PtOk.same {L : List Int} {S : Int} {R R' : List Int} {e e' : Int} (h : PtOk L S R e) (h' : PtOk L S R' e') : R = R' ∧ e = e' := by
  cases c : (shopB L && okS L S) with
  | true =>
    obtain ⟨a, b, d⟩ := h.yes c
    obtain ⟨a', b', d'⟩ := h'.yes c
    exact ⟨Srt.unique b b' (d.trans d'.symm), by omega⟩
  | false =>
    obtain ⟨a, b⟩ := h.no c
    obtain ⟨a', b'⟩ := h'.no c
    exact ⟨by rw [b, b'], by omega⟩
theorem PtOk.len {L : List Int} {S : Int} {R : List Int} {e : Int} (h : PtOk L S R e) (hL : L.length ≤ 40) : R.length ≤ 40 := by
  cases c : (shopB L && okS L S) with
  | true =>
    obtain ⟨a, b, d⟩ := h.yes c
    rw [d.length_eq]
    exact Nat.le_trans (partsOf_len _ _) hL
  | false =>
    obtain ⟨a, b⟩ := h.no c
    rw [b]; simp
theorem Parts_rets {X : Caller} (hX : Xfr X) (L : List Int) (hL : L.length ≤ 40) (s : Value) (S : Int) (g : GH) (hs : SlR g s (ints L)) :
    Rets Tryd.prog X 35 [s, .int .i64 S] g (fun v g' lo => g.next ≤ lo ∧ Kept g g' ∧ ∃ o R e, v = .tuple #[o, .int .i64 e] ∧ SlR g' o (ints R) ∧ PtOk L S R e) := by
  have hno : (shopB L && okS L S) = false → PtOk L S [] 2 := fun h => ⟨fun h' => absurd (h.symm.trans h') (by decide), fun _ => ⟨rfl, rfl⟩⟩
  refine Rets.run hX.pres p35 (hX.free 35 (by decide) _ _) rfl fun ho => ?_
  simp +decide (disch := first | assumption | exact cellV_int _ _ | exact cellV_bool _ | omega | (simp only [GH.pn, GH.sn] <;> omega) | (with_reducible ((repeat (first | apply GH.ok_push | apply GH.ok_set)); assumption)) | ((try simp only [GH.push_hid, GH.set_hid]); first | assumption | (refine GH.vis ?_ ?_ <;> first | assumption | ((try simp only [GH.pn, GH.sn]) <;> omega)))) only [go_sem, ↓reduceIte, Nat.reduceEqDiff, Nat.reduceAdd, Int.reduceToNat, Int.reduceAdd, Int.reduceNeg, Int.reduceSub, Int.reduceMul, Int.reduceLT, Int.reduceLE, Int.reduceEq, ↓GH.gp_eq, ↓GH.gp_ne, ↓GH.gs_eq, ↓GH.gs_ne, GH.push_next, GH.set_next]
  refine CallD.calm (IsShop_rets hX L hL s g hs) ?_
  rintro v g1 hx1 rfl
  have hn1 := hx1.next
  cases hz : shopB L with
  | false =>
    simp +decide (disch := first | assumption | exact cellV_int _ _ | exact cellV_bool _ | omega | (simp only [GH.pn, GH.sn] <;> omega) | (with_reducible ((repeat (first | apply GH.ok_push | apply GH.ok_set)); assumption)) | ((try simp only [GH.push_hid, GH.set_hid]); first | assumption | (refine GH.vis ?_ ?_ <;> first | assumption | ((try simp only [GH.pn, GH.sn]) <;> omega)))) only [go_sem, ↓reduceIte, Nat.reduceEqDiff, Nat.reduceAdd, Int.reduceToNat, Int.reduceAdd, Int.reduceNeg, Int.reduceSub, Int.reduceMul, Int.reduceLT, Int.reduceLE, Int.reduceEq, ↓GH.gp_eq, ↓GH.gp_ne, ↓GH.gs_eq, ↓GH.gs_ne, GH.push_next, GH.set_next]
    intro hx0
    exact ⟨by omega, hx1.kept, _, [], 2, rfl, .inl ⟨rfl, rfl⟩, hno (by rw [hz]; rfl)⟩
  | true =>
  obtain ⟨hL1, hL10, hA⟩ := shop_ok hz
  have hset := isSet_rets hX L hL10 S s g1 (hs.ext hx1)
  rw [show (decide (0 ≤ S) && decide (S < 2 ^ L.length)) = okS L S from rfl] at hset
  simp +decide (disch := first | assumption | exact cellV_int _ _ | exact cellV_bool _ | omega | (simp only [GH.pn, GH.sn] <;> omega) | (with_reducible ((repeat (first | apply GH.ok_push | apply GH.ok_set)); assumption)) | ((try simp only [GH.push_hid, GH.set_hid]); first | assumption | (refine GH.vis ?_ ?_ <;> first | assumption | ((try simp only [GH.pn, GH.sn]) <;> omega)))) only [go_sem, ↓reduceIte, Nat.reduceEqDiff, Nat.reduceAdd, Int.reduceToNat, Int.reduceAdd, Int.reduceNeg, Int.reduceSub, Int.reduceMul, Int.reduceLT, Int.reduceLE, Int.reduceEq, ↓GH.gp_eq, ↓GH.gp_ne, ↓GH.gs_eq, ↓GH.gs_ne, GH.push_next, GH.set_next]
  refine CallD.calm hset ?_
  rintro v g2 hx2 rfl
  have hn2 := hx2.next
  have hk2 := hx1.kept.ext hx2
  cases hk : okS L S with
  | false =>
    simp +decide (disch := first | assumption | exact cellV_int _ _ | exact cellV_bool _ | omega | (simp only [GH.pn, GH.sn] <;> omega) | (with_reducible ((repeat (first | apply GH.ok_push | apply GH.ok_set)); assumption)) | ((try simp only [GH.push_hid, GH.set_hid]); first | assumption | (refine GH.vis ?_ ?_ <;> first | assumption | ((try simp only [GH.pn, GH.sn]) <;> omega)))) only [go_sem, ↓reduceIte, Nat.reduceEqDiff, Nat.reduceAdd, Int.reduceToNat, Int.reduceAdd, Int.reduceNeg, Int.reduceSub, Int.reduceMul, Int.reduceLT, Int.reduceLE, Int.reduceEq, ↓GH.gp_eq, ↓GH.gp_ne, ↓GH.gs_eq, ↓GH.gs_ne, GH.push_next, GH.set_next]
    intro hx0
    exact ⟨by omega, hk2, _, [], 2, rfl, .inl ⟨rfl, rfl⟩, hno (by rw [hz, hk]; rfl)⟩
  | true =>
  obtain ⟨k, rfl, hkl⟩ := okS_nat hk
  have hpr := parts_rets hX L hz s k _ hkl rfl g2 (hs.kept hk2)
  rw [show partsI (setF L) (andn (allN L.length) k) L.length L.length = partsOf L k from rfl] at hpr
  have hpl := partsOf_len L k
  simp +decide (disch := first | assumption | exact cellV_int _ _ | exact cellV_bool _ | omega | (simp only [GH.pn, GH.sn] <;> omega) | (with_reducible ((repeat (first | apply GH.ok_push | apply GH.ok_set)); assumption)) | ((try simp only [GH.push_hid, GH.set_hid]); first | assumption | (refine GH.vis ?_ ?_ <;> first | assumption | ((try simp only [GH.pn, GH.sn]) <;> omega)))) only [go_sem, ↓reduceIte, Nat.reduceEqDiff, Nat.reduceAdd, Int.reduceToNat, Int.reduceAdd, Int.reduceNeg, Int.reduceSub, Int.reduceMul, Int.reduceLT, Int.reduceLE, Int.reduceEq, ↓GH.gp_eq, ↓GH.gp_ne, ↓GH.gs_eq, ↓GH.gs_ne, GH.push_next, GH.set_next]
  refine CallD.calm hpr ?_
  rintro o g3 hx3 ⟨hok3, hk3, hown⟩
  have hn3 := hx3.next
  have hk3' := hk2.trans hk3
  simp +decide (disch := first | assumption | exact cellV_int _ _ | exact cellV_bool _ | omega | (simp only [GH.pn, GH.sn] <;> omega) | (with_reducible ((repeat (first | apply GH.ok_push | apply GH.ok_set)); assumption)) | ((try simp only [GH.push_hid, GH.set_hid]); first | assumption | (refine GH.vis ?_ ?_ <;> first | assumption | ((try simp only [GH.pn, GH.sn]) <;> omega)))) only [go_sem, ↓reduceIte, Nat.reduceEqDiff, Nat.reduceAdd, Int.reduceToNat, Int.reduceAdd, Int.reduceNeg, Int.reduceSub, Int.reduceMul, Int.reduceLT, Int.reduceLE, Int.reduceEq, ↓GH.gp_eq, ↓GH.gp_ne, ↓GH.gs_eq, ↓GH.gs_ne, GH.push_next, GH.set_next]
  refine CallD.call (sort62_rets hX (partsOf L k) (by omega) o 3 g2.next g2.next g3 hk3.next (Nat.le_refl _) (.inr hown)) ?_
  rintro v G lo hx ⟨R, h1, h2⟩
  have hlow := h1.low
  have hkG : Kept g G := hk3'.after h1.below hk2.next
  simp +decide (disch := first | assumption | exact cellV_int _ _ | exact cellV_bool _ | omega | (simp only [GH.pn, GH.sn] <;> omega) | (with_reducible ((repeat (first | apply GH.ok_push | apply GH.ok_set)); assumption)) | ((try simp only [GH.push_hid, GH.set_hid]); first | assumption | (refine GH.vis ?_ ?_ <;> first | assumption | ((try simp only [GH.pn, GH.sn]) <;> omega)))) only [go_sem, ↓reduceIte, Nat.reduceEqDiff, Nat.reduceAdd, Int.reduceToNat, Int.reduceAdd, Int.reduceNeg, Int.reduceSub, Int.reduceMul, Int.reduceLT, Int.reduceLE, Int.reduceEq, ↓GH.gp_eq, ↓GH.gp_ne, ↓GH.gs_eq, ↓GH.gs_ne, GH.push_next, GH.set_next]
  intro hx0
  refine ⟨by omega, hkG, o, R, 0, rfl, h1.row.read, ⟨fun _ => ⟨rfl, h2, h1.perm⟩, fun h => by rw [hz, hk] at h; cases h⟩⟩
end Go.Proofs.YtnpapnpedcbfnaaDoor
set_option maxRecDepth 100000
set_option maxHeartbeats 4000000
set_option linter.unusedSimpArgs false
set_option linter.unusedVariables false
namespace Go.Proofs.YtnpapnpedcbfnaaDoor
open Go.Ds Go.Vs
/-! ## The parts of the reference: labels -/
structure LabR (g g' : GH) (J : Nat) (T : List Int) (n : Nat) (t : Nat → Nat) : Prop where
  kept : Kept g g'
  jn : J < g'.next
  get : g'.get J = cellsOb (ints T) 3
  len : T.length = n
  val : ∀ x, x < n → T.getD x 0 = ((t x : Nat) : Int)
  low : g.next ≤ J
theorem LabR.congr {g g' : GH} {J : Nat} {T : List Int} {n : Nat} {t t' : Nat → Nat} (h : LabR g g' J T n t) (e : ∀ x, x < n → t x = t' x) : LabR g g' J T n t' :=
  ⟨h.kept, h.jn, h.get, h.len, fun x hx => by rw [h.val x hx, e x hx], h.low⟩
theorem LabR.put {g g' : GH} {J : Nat} {T : List Int} {n : Nat} {t : Nat → Nat} (h : LabR g g' J T n t) (ok : g'.ok) {i v : Nat} (hi : i < n) (t' : Nat → Nat) (e : ∀ x, x < n → t' x = if x = i then v else t x) :
    LabR g (g'.set J (cellsOb (splice i (ints T) [.int .i64 (v : Int)]) 3)) J (T.set i (v : Int)) n t' := by
  have hw := Wrote.set (o := cellsOb (splice i (ints T) [.int .i64 (v : Int)]) 3) h.get Nat.one_ne_zero ok
  have hlen : (ints T).length = n := by rw [ints_len, h.len]
  refine ⟨hw.kept h.kept h.low, by rw [hw.next]; exact h.jn, hw.get.trans (congrArg (fun z => cellsOb z 3) (by rw [splice_set _ _ _ (by rw [hlen]; exact hi), ints_set])), by simp [h.len], fun x hx => ?_, h.low⟩
  rw [getD_set _ _ _ _ (by rw [h.len]; exact hi), e x hx]
  by_cases c : i = x
  · rw [if_pos c, if_pos c.symm]
  · rw [if_neg c, if_neg (Ne.symm c)]; exact h.val x hx
theorem mn_ints (a b : Int) : mnF (.int .i64 a) (.int .i64 b) = some (.int .i64 (if b < a then b else a)) := by
  simp only [mnF, lt_i]
  by_cases c : b < a
  · rw [decide_eq_true c, if_pos c]; rfl
  · rw [decide_eq_false c, if_neg c]; rfl
theorem mn_nat (a b : Nat) : mnF (.int .i64 (a : Int)) (.int .i64 (b : Int)) = some (.int .i64 ((min a b : Nat) : Int)) := by
  rw [mn_ints]
  congr 2
  by_cases c : (b : Int) < a
  · rw [if_pos c, Nat.min_eq_right (by omega)]
  · rw [if_neg c, Nat.min_eq_left (by omega)]
theorem mx_nat (a b : Nat) : mxF (.int .i64 (a : Int)) (.int .i64 (b : Int)) = some (.int .i64 ((max a b : Nat) : Int)) := by
  rw [mx_ints]
  congr 2
  by_cases c : (a : Int) < b
  · rw [if_pos c, Nat.max_eq_right (by omega)]
  · rw [if_neg c, Nat.max_eq_left (by omega)]
theorem partsI_succ (A : Nat → Nat) (F n i : Nat) : partsI A F n (i + 1) = if F.testBit i = true ∧ lst A F n i = i then partsI A F n i ++ [((comp A F n i : Nat) : Int)] else partsI A F n i := by
  unfold partsI
  show (if _ then _ else _ : List Nat).map _ = _
  split
  · rw [List.map_append]; rfl
  · rfl
theorem getD_app1 (A B : List Int) {k : Nat} (h : k < A.length) : (A ++ B).getD k 0 = A.getD k 0 := by
  rw [List.getD_eq_getElem?_getD, List.getD_eq_getElem?_getD, List.getElem?_append_left h]
theorem refParts_rets {X : Caller} (hX : Xfr X) (L : List Int) (hL : shopB L = true) (s : Value) (S : Nat) (hS : S < 2 ^ L.length) (g : GH) (hs : SlR g s (ints L)) :
    Rets Tryd.prog X 63 [s, .int .i64 (S : Int)] g (fun v g' lo => g.next ≤ lo ∧ g'.ok ∧ Kept g g' ∧ ∃ R, SlR g' v (ints R) ∧ Srt R ∧ R.Perm (partsOf L S)) := by
  obtain ⟨hL1, hL10, hA⟩ := shop_ok hL
  have hSh := shp_of hL
  have hl := hs.len
  rw [ints_len] at hl
  have hFe : andn (allN L.length) S < 2 ^ L.length := Nat.lt_of_le_of_lt (andn_le _ _) (all_lt _)
  have hN : 2 ^ L.length ≤ 1024 := Nat.pow_le_pow_right (by decide) hL10
  have hFb : ∀ k, k < L.length → (andn (allN L.length) S).testBit k = !S.testBit k := fun k hk => by
    rw [andn_bit (by omega) (by omega), all_bit, decide_eq_true hk, Bool.true_and]
  have hpo : partsOf L S = partsI (setF L) (andn (allN L.length) S) L.length L.length := rfl
  rw [hpo]
  have hpl := fun i => ptsL_len (setF L) (andn (allN L.length) S) L.length i
  have hcl := fun i (hi : i < L.length) => comp_lt (A := setF L) hFe hi
  have hcn := fun i (hi : i < L.length) => comp_ne (A := setF L) hFe hi
  generalize hF : andn (allN L.length) S = F at *
  refine Rets.run hX.pres p63 (hX.free 63 (by decide) _ _) rfl fun ho => ?_
  simp +decide (disch := first | assumption | exact cellV_int _ _ | exact cellV_bool _ | omega | (simp only [GH.pn, GH.sn] <;> omega) | (with_reducible ((repeat (first | apply GH.ok_push | apply GH.ok_set)); assumption)) | ((try simp only [GH.push_hid, GH.set_hid]); first | assumption | (refine GH.vis ?_ ?_ <;> first | assumption | ((try simp only [GH.pn, GH.sn]) <;> omega)))) only [go_sem, ↓reduceIte, Nat.reduceEqDiff, Nat.reduceAdd, Int.reduceToNat, Int.reduceAdd, Int.reduceNeg, Int.reduceSub, Int.reduceMul, Int.reduceLT, Int.reduceLE, Int.reduceEq, ↓GH.gp_eq, ↓GH.gp_ne, ↓GH.gs_eq, ↓GH.gs_ne, GH.push_next, GH.set_next, hl]
  refine Wk.mkslice (n := L.length) (c := L.length) (by simp +decide (disch := first | assumption | exact cellV_int _ _ | exact cellV_bool _ | omega | (simp only [GH.pn, GH.sn] <;> omega) | (with_reducible ((repeat (first | apply GH.ok_push | apply GH.ok_set)); assumption)) | ((try simp only [GH.push_hid, GH.set_hid]); first | assumption | (refine GH.vis ?_ ?_ <;> first | assumption | ((try simp only [GH.pn, GH.sn]) <;> omega)))) only [go_sem, ↓reduceIte, Nat.reduceEqDiff, Nat.reduceAdd, Int.reduceToNat, Int.reduceAdd, Int.reduceNeg, Int.reduceSub, Int.reduceMul, Int.reduceLT, Int.reduceLE, Int.reduceEq, ↓GH.gp_eq, ↓GH.gp_ne, ↓GH.gs_eq, ↓GH.gs_ne, GH.push_next, GH.set_next, hl]; first | done | exact rfl) (by simp +decide (disch := first | assumption | exact cellV_int _ _ | exact cellV_bool _ | omega | (simp only [GH.pn, GH.sn] <;> omega) | (with_reducible ((repeat (first | apply GH.ok_push | apply GH.ok_set)); assumption)) | ((try simp only [GH.push_hid, GH.set_hid]); first | assumption | (refine GH.vis ?_ ?_ <;> first | assumption | ((try simp only [GH.pn, GH.sn]) <;> omega)))) only [go_sem, ↓reduceIte, Nat.reduceEqDiff, Nat.reduceAdd, Int.reduceToNat, Int.reduceAdd, Int.reduceNeg, Int.reduceSub, Int.reduceMul, Int.reduceLT, Int.reduceLE, Int.reduceEq, ↓GH.gp_eq, ↓GH.gp_ne, ↓GH.gs_eq, ↓GH.gs_ne, GH.push_next, GH.set_next, hl]; first | done | exact rfl) (Nat.le_refl _) (by omega) ?_
  simp +decide (disch := first | assumption | exact cellV_int _ _ | exact cellV_bool _ | omega | (simp only [GH.pn, GH.sn] <;> omega) | (with_reducible ((repeat (first | apply GH.ok_push | apply GH.ok_set)); assumption)) | ((try simp only [GH.push_hid, GH.set_hid]); first | assumption | (refine GH.vis ?_ ?_ <;> first | assumption | ((try simp only [GH.pn, GH.sn]) <;> omega)))) only [go_sem, ↓reduceIte, Nat.reduceEqDiff, Nat.reduceAdd, Int.reduceToNat, Int.reduceAdd, Int.reduceNeg, Int.reduceSub, Int.reduceMul, Int.reduceLT, Int.reduceLE, Int.reduceEq, ↓GH.gp_eq, ↓GH.gp_ne, ↓GH.gs_eq, ↓GH.gs_ne, GH.push_next, GH.set_next, hl]
  obtain ⟨J, hJ⟩ : ∃ J, g.next = J := ⟨_, rfl⟩
  rw [hJ]
  refine Wk.loops (fun m e g' lo => g.next ≤ lo ∧ ∃ (i : Nat) (T : List Int), i + m = L.length ∧ (ev e (.s 0) = s ∧ ev e (.s 1) = .int .i64 (S : Int) ∧ ev e (.s 5) = .slice (some ⟨J, 0, none⟩) L.length L.length ∧ ev e (.s 6) = .int .i64 (i : Int)) ∧ LabR g g' J T L.length (fun x => if x < i then x else 0))
    (fun e g' lo => g.next ≤ lo ∧ ∃ (T : List Int), (ev e (.s 0) = s ∧ ev e (.s 1) = .int .i64 (S : Int) ∧ ev e (.s 5) = .slice (some ⟨J, 0, none⟩) L.length L.length) ∧ LabR g g' J T L.length (fun x => x)) (n := L.length) ?_ ?_ ?_
  · refine ⟨by omega, 0, List.replicate L.length 0, by omega, (by simp +decide (disch := first | assumption | (apply GH.ok_push; assumption) | exact cellV_int _ _ | exact cellV_bool _ | omega) only [go_sem, ↓reduceIte, Nat.reduceEqDiff, Nat.reduceAdd, Int.reduceToNat, hl]; first | done | exact rfl), (Kept.refl g).push ho _, by rw [← hJ]; exact Nat.lt_succ_self _, ?_, by simp, fun x hx => ?_, by omega⟩
    · rw [GH.get_push ho, if_pos hJ, repeatN_ints]
    · rw [List.getD_eq_getElem?_getD, List.getElem?_replicate, if_neg (Nat.not_lt_zero _)]; split <;> rfl
  · rintro e g' lo hog hlg ⟨hlo, T, he, hlab⟩
    simp +decide (disch := first | assumption | exact cellV_int _ _ | exact cellV_bool _ | omega | (simp only [GH.pn, GH.sn] <;> omega) | (with_reducible ((repeat (first | apply GH.ok_push | apply GH.ok_set)); assumption)) | ((try simp only [GH.push_hid, GH.set_hid]); first | assumption | (refine GH.vis ?_ ?_ <;> first | assumption | ((try simp only [GH.pn, GH.sn]) <;> omega)))) only [go_sem, ↓reduceIte, Nat.reduceEqDiff, Nat.reduceAdd, Int.reduceToNat, Int.reduceAdd, Int.reduceNeg, Int.reduceSub, Int.reduceMul, Int.reduceLT, Int.reduceLE, Int.reduceEq, ↓GH.gp_eq, ↓GH.gp_ne, ↓GH.gs_eq, ↓GH.gs_ne, GH.push_next, GH.set_next, he]
    refine Wk.loops (fun m e g' lo => g.next ≤ lo ∧ ∃ (i : Nat) (T : List Int) (t : Nat → Nat), i + m = L.length ∧ (ev e (.s 0) = s ∧ ev e (.s 1) = .int .i64 (S : Int) ∧ ev e (.s 5) = .slice (some ⟨J, 0, none⟩) L.length L.length ∧ ev e (.s 7) = .int .i64 (i : Int)) ∧ LabR g g' J T L.length t ∧ Lab (setF L) F L.length t i 0)
      (fun e g' lo => g.next ≤ lo ∧ ∃ (T : List Int) (t : Nat → Nat), (ev e (.s 0) = s ∧ ev e (.s 1) = .int .i64 (S : Int) ∧ ev e (.s 5) = .slice (some ⟨J, 0, none⟩) L.length L.length) ∧ LabR g g' J T L.length t ∧ Lab (setF L) F L.length t L.length 0) (n := L.length) ?_ ?_ ?_
    · exact ⟨hlo, 0, T, _, by omega, (by simp +decide (disch := first | assumption | (apply GH.ok_push; assumption) | exact cellV_int _ _ | exact cellV_bool _ | omega) only [go_sem, ↓reduceIte, Nat.reduceEqDiff, Nat.reduceAdd, Int.reduceToNat, he]; first | done | exact rfl), hlab, Lab.start⟩
    · clear hlab he hlo
      rintro e gL lo hoL hlL ⟨hlo, T, t, he, hlab, hfin⟩
      have hnL := hlab.kept.next
      have hjL := hlab.jn
      simp +decide (disch := first | assumption | exact cellV_int _ _ | exact cellV_bool _ | omega | (simp only [GH.pn, GH.sn] <;> omega) | (with_reducible ((repeat (first | apply GH.ok_push | apply GH.ok_set)); assumption)) | ((try simp only [GH.push_hid, GH.set_hid]); first | assumption | (refine GH.vis ?_ ?_ <;> first | assumption | ((try simp only [GH.pn, GH.sn]) <;> omega)))) only [go_sem, ↓reduceIte, Nat.reduceEqDiff, Nat.reduceAdd, Int.reduceToNat, Int.reduceAdd, Int.reduceNeg, Int.reduceSub, Int.reduceMul, Int.reduceLT, Int.reduceLE, Int.reduceEq, ↓GH.gp_eq, ↓GH.gp_ne, ↓GH.gs_eq, ↓GH.gs_ne, GH.push_next, GH.set_next, he]
      refine Wk.loops (fun m e g' lo => g.next ≤ lo ∧ Kept gL g' ∧ ∃ (i : Nat) (o : Value) (R : List Int), i + m = L.length ∧ (ev e (.s 0) = s ∧ ev e (.s 1) = .int .i64 (S : Int) ∧ ev e (.s 5) = .slice (some ⟨J, 0, none⟩) L.length L.length ∧ ev e (.s 12) = o ∧ ev e (.s 13) = .int .i64 (i : Int)) ∧ OwnM g' o (ints R) 3 gL.next ∧ R.Perm (partsI (setF L) F L.length i) ∧ Srt R)
        (fun e g' lo => g.next ≤ lo ∧ Kept gL g' ∧ ∃ (o : Value) (R : List Int), ev e (.s 12) = o ∧ OwnM g' o (ints R) 3 gL.next ∧ R.Perm (partsI (setF L) F L.length L.length) ∧ Srt R) (n := L.length) ?_ ?_ ?_
      · exact ⟨hlo, Kept.refl _, 0, _, [], by omega, (by simp +decide (disch := first | assumption | (apply GH.ok_push; assumption) | exact cellV_int _ _ | exact cellV_bool _ | omega) only [go_sem, ↓reduceIte, Nat.reduceEqDiff, Nat.reduceAdd, Int.reduceToNat, he]; first | done | exact rfl), OwnM.nil, List.Perm.refl _, fun p q _ h => absurd h (Nat.not_lt_zero _)⟩
      · clear he hlo
        rintro e g' lo hog hlg ⟨hlo, hk, o, R, he, hown, hp, hsr⟩
        simp +decide (disch := first | assumption | exact cellV_int _ _ | exact cellV_bool _ | omega | (simp only [GH.pn, GH.sn] <;> omega) | (with_reducible ((repeat (first | apply GH.ok_push | apply GH.ok_set)); assumption)) | ((try simp only [GH.push_hid, GH.set_hid]); first | assumption | (refine GH.vis ?_ ?_ <;> first | assumption | ((try simp only [GH.pn, GH.sn]) <;> omega)))) only [go_sem, ↓reduceIte, Nat.reduceEqDiff, Nat.reduceAdd, Int.reduceToNat, Int.reduceAdd, Int.reduceNeg, Int.reduceSub, Int.reduceMul, Int.reduceLT, Int.reduceLE, Int.reduceEq, ↓GH.gp_eq, ↓GH.gp_ne, ↓GH.gs_eq, ↓GH.gs_ne, GH.push_next, GH.set_next, he]
        intro hx0
        exact ⟨by omega, hog, hlab.kept.trans hk, R, hown.read, hsr, hp⟩
      · clear he hlo
        rintro m e g' lo ho' hl' ih out ⟨hlo, hk, i, o, R, him, he, hown, hp, hsr⟩
        have hkn := hk.next
        by_cases ci : i < L.length
        case neg =>
          have ci' : ¬ (i : Int) < L.length := by omega
          simp +decide (disch := first | assumption | exact cellV_int _ _ | exact cellV_bool _ | omega | (simp only [GH.pn, GH.sn] <;> omega) | (with_reducible ((repeat (first | apply GH.ok_push | apply GH.ok_set)); assumption)) | ((try simp only [GH.push_hid, GH.set_hid]); first | assumption | (refine GH.vis ?_ ?_ <;> first | assumption | ((try simp only [GH.pn, GH.sn]) <;> omega)))) only [go_sem, ↓reduceIte, Nat.reduceEqDiff, Nat.reduceAdd, Int.reduceToNat, Int.reduceAdd, Int.reduceNeg, Int.reduceSub, Int.reduceMul, Int.reduceLT, Int.reduceLE, Int.reduceEq, ↓GH.gp_eq, ↓GH.gp_ne, ↓GH.gs_eq, ↓GH.gs_ne, GH.push_next, GH.set_next, he, hl, ci']
          have : i = L.length := by omega
          subst this
          exact out _ _ _ ⟨hlo, hk, o, R, (by simp +decide (disch := first | assumption | (apply GH.ok_push; assumption) | exact cellV_int _ _ | exact cellV_bool _ | omega) only [go_sem, ↓reduceIte, Nat.reduceEqDiff, Nat.reduceAdd, Int.reduceToNat, he]; first | done | exact rfl), hown, hp, hsr⟩
        have ci' : (i : Int) < L.length := by omega
        have hget : g'.get J = cellsOb (ints T) 3 := (hk.gets J hjL).trans hlab.get
        have hlenT : (ints T).length = L.length := by rw [ints_len, hlab.len]
        have hjn : J < g'.next := by omega
        have hpar := part_is hSh hFe hfin ci
        have hps := partsI_succ (setF L) F L.length i
        have hci := hcl i ci
        have hcni := hcn i ci
        have hRl : R.length ≤ i := by
          have := hp.length_eq
          have h2 := hpl i
          unfold partsI at this
          rw [List.length_map] at this
          omega
        simp +decide (disch := first | assumption | exact cellV_int _ _ | exact cellV_bool _ | omega | (simp only [GH.pn, GH.sn] <;> omega) | (with_reducible ((repeat (first | apply GH.ok_push | apply GH.ok_set)); assumption)) | ((try simp only [GH.push_hid, GH.set_hid]); first | assumption | (refine GH.vis ?_ ?_ <;> first | assumption | ((try simp only [GH.pn, GH.sn]) <;> omega)))) only [go_sem, ↓reduceIte, Nat.reduceEqDiff, Nat.reduceAdd, Int.reduceToNat, Int.reduceAdd, Int.reduceNeg, Int.reduceSub, Int.reduceMul, Int.reduceLT, Int.reduceLE, Int.reduceEq, ↓GH.gp_eq, ↓GH.gp_ne, ↓GH.gs_eq, ↓GH.gs_ne, GH.push_next, GH.set_next, he, hl, ci']
        refine Wk.loops (fun m' e' g'' lo' => g'' = g' ∧ g.next ≤ lo' ∧ ∃ (k : Nat), k + m' = L.length ∧ (ev e' (.s 0) = s ∧ ev e' (.s 1) = .int .i64 (S : Int) ∧ ev e' (.s 5) = .slice (some ⟨J, 0, none⟩) L.length L.length ∧ ev e' (.s 12) = o ∧ ev e' (.s 13) = .int .i64 (i : Int) ∧ ev e' (.s 15) = .int .i64 (k : Int) ∧ ev e' (.s 14) = .int .i64 (bitsF (fun k => decide (t k = i) && F.testBit k) k : Nat)))
          (fun e' g'' lo' => g'' = g' ∧ g.next ≤ lo' ∧ (ev e' (.s 0) = s ∧ ev e' (.s 1) = .int .i64 (S : Int) ∧ ev e' (.s 5) = .slice (some ⟨J, 0, none⟩) L.length L.length ∧ ev e' (.s 12) = o ∧ ev e' (.s 13) = .int .i64 (i : Int) ∧ ev e' (.s 14) = .int .i64 (bitsF (fun k => decide (t k = i) && F.testBit k) L.length : Nat))) (n := L.length) ?_ ?_ ?_
        · refine ⟨rfl, hlo, 0, by omega, ?_⟩
          show _ ∧ _ ∧ _ ∧ _ ∧ _ ∧ _ ∧ _ = Value.int .i64 0
          exact (by simp +decide (disch := first | assumption | (apply GH.ok_push; assumption) | exact cellV_int _ _ | exact cellV_bool _ | omega) only [go_sem, ↓reduceIte, Nat.reduceEqDiff, Nat.reduceAdd, Int.reduceToNat, he]; first | done | exact rfl)
        · clear he hlo
          rintro e' g'' lo' - - ⟨rfl, hlo', he'⟩
          rw [hpar] at he'
          by_cases c : F.testBit i = true ∧ lst (setF L) F L.length i = i
          case neg =>
            rw [if_neg c] at he' hps
            simp +decide (disch := first | assumption | exact cellV_int _ _ | exact cellV_bool _ | omega | (simp only [GH.pn, GH.sn] <;> omega) | (with_reducible ((repeat (first | apply GH.ok_push | apply GH.ok_set)); assumption)) | ((try simp only [GH.push_hid, GH.set_hid]); first | assumption | (refine GH.vis ?_ ?_ <;> first | assumption | ((try simp only [GH.pn, GH.sn]) <;> omega)))) only [go_sem, ↓reduceIte, Nat.reduceEqDiff, Nat.reduceAdd, Int.reduceToNat, Int.reduceAdd, Int.reduceNeg, Int.reduceSub, Int.reduceMul, Int.reduceLT, Int.reduceLE, Int.reduceEq, ↓GH.gp_eq, ↓GH.gp_ne, ↓GH.gs_eq, ↓GH.gs_ne, GH.push_next, GH.set_next, he']
            exact ih (m - 1) _ _ _ (by omega) ⟨hlo', hk, i + 1, o, R, by omega, (by simp +decide (disch := first | assumption | (apply GH.ok_push; assumption) | exact cellV_int _ _ | exact cellV_bool _ | omega) only [go_sem, ↓reduceIte, Nat.reduceEqDiff, Nat.reduceAdd, Int.reduceToNat, he']; first | done | exact rfl), hown, by rw [hps]; exact hp, hsr⟩
          rw [if_pos c] at he' hps
          generalize comp (setF L) F L.length i = C at *
          have hC : (0 : Int) < (C : Int) := by omega
          have hkp := hk.push ho' (cellsOb [.int .i64 (C : Int)] 3)
          simp +decide (disch := first | assumption | exact cellV_int _ _ | exact cellV_bool _ | omega | (simp only [GH.pn, GH.sn] <;> omega) | (with_reducible ((repeat (first | apply GH.ok_push | apply GH.ok_set)); assumption)) | ((try simp only [GH.push_hid, GH.set_hid]); first | assumption | (refine GH.vis ?_ ?_ <;> first | assumption | ((try simp only [GH.pn, GH.sn]) <;> omega)))) only [go_sem, ↓reduceIte, Nat.reduceEqDiff, Nat.reduceAdd, Int.reduceToNat, Int.reduceAdd, Int.reduceNeg, Int.reduceSub, Int.reduceMul, Int.reduceLT, Int.reduceLE, Int.reduceEq, ↓GH.gp_eq, ↓GH.gp_ne, ↓GH.gs_eq, ↓GH.gs_ne, GH.push_next, GH.set_next, he', hC]
          refine AppD.ownM (lw := g.next) (hown.kept ((Kept.refl g'').push ho' _)) (SlR.one ho' _ _) (by simp) rfl (by simp [ints_len]; omega) (by simp [GH.push]; omega) (by omega) (by omega) (GH.ok_push ho') (fun s' g2 lo2 sp wr hgr hlo2 => ?_)
          have hk2 := hkp.grewM hgr (Nat.le_refl _)
          have hown2 := hgr.own
          rw [← show ints (R ++ [(C : Int)]) = ints R ++ [.int .i64 (C : Int)] from ints_app _ _] at hown2
          have hl2 := hown2.own.read.len
          obtain ⟨r, hr⟩ : ∃ r, R.length = r := ⟨_, rfl⟩
          rw [ints_len, List.length_append, hr] at hl2
          have hl2' : lenLF s' = some (.int .i64 ((r : Int) + 1)) := by rw [hl2]; simp
          have hrr : ((r : Int) + 1) - 1 = r := by omega
          have hperm : (R ++ [(C : Int)]).Perm (partsI (setF L) F L.length (i + 1)) := by rw [hps]; exact hp.append (List.Perm.refl _)
          have hins : Ins (R ++ [(C : Int)]) r r := fun p q h1 h2 h3 => by
            rw [getD_app1 R _ (by omega), getD_app1 R _ (by omega)]
            exact hsr p q h1 (by omega)
          have hlen2 : (R ++ [(C : Int)]).length = r + 1 := by simp [hr]
          have hok2 := hgr.ok
          simp +decide (disch := first | assumption | exact cellV_int _ _ | exact cellV_bool _ | omega | (simp only [GH.pn, GH.sn] <;> omega) | (with_reducible ((repeat (first | apply GH.ok_push | apply GH.ok_set)); assumption)) | ((try simp only [GH.push_hid, GH.set_hid]); first | assumption | (refine GH.vis ?_ ?_ <;> first | assumption | ((try simp only [GH.pn, GH.sn]) <;> omega)))) only [go_sem, ↓reduceIte, Nat.reduceEqDiff, Nat.reduceAdd, Int.reduceToNat, Int.reduceAdd, Int.reduceNeg, Int.reduceSub, Int.reduceMul, Int.reduceLT, Int.reduceLE, Int.reduceEq, ↓GH.gp_eq, ↓GH.gp_ne, ↓GH.gs_eq, ↓GH.gs_ne, GH.push_next, GH.set_next, he', hl2', hrr]
          refine Wk.loops (fun m e g3 lo3 => g.next ≤ lo3 ∧ Kept gL g3 ∧ ∃ (j : Nat) (R2 : List Int), j = m ∧ j ≤ r ∧ (ev e (.s 0) = s ∧ ev e (.s 1) = .int .i64 (S : Int) ∧ ev e (.s 5) = .slice (some ⟨J, 0, none⟩) L.length L.length ∧ ev e (.s 12) = s' ∧ ev e (.s 13) = .int .i64 (i : Int) ∧ ev e (.s 16) = .int .i64 (j : Int)) ∧ OwnM g3 s' (ints R2) 3 gL.next ∧ R2.Perm (R ++ [(C : Int)]) ∧ Ins R2 r j)
            (fun e g3 lo3 => g.next ≤ lo3 ∧ Kept gL g3 ∧ ∃ (R2 : List Int), (ev e (.s 0) = s ∧ ev e (.s 1) = .int .i64 (S : Int) ∧ ev e (.s 5) = .slice (some ⟨J, 0, none⟩) L.length L.length ∧ ev e (.s 12) = s' ∧ ev e (.s 13) = .int .i64 (i : Int)) ∧ OwnM g3 s' (ints R2) 3 gL.next ∧ R2.Perm (R ++ [(C : Int)]) ∧ Srt R2) (n := r) ?_ ?_ ?_
          · exact ⟨by omega, hk2, r, _, rfl, Nat.le_refl _, (by simp +decide (disch := first | assumption | (apply GH.ok_push; assumption) | exact cellV_int _ _ | exact cellV_bool _ | omega) only [go_sem, ↓reduceIte, Nat.reduceEqDiff, Nat.reduceAdd, Int.reduceToNat, he', hl2', hrr]; first | done | exact rfl), hown2, List.Perm.refl _, hins⟩
          · clear he'
            rintro e g3 lo3 - - ⟨hlo3, hk3, R2, he, hown3, hp3, hs3⟩
            simp +decide (disch := first | assumption | exact cellV_int _ _ | exact cellV_bool _ | omega | (simp only [GH.pn, GH.sn] <;> omega) | (with_reducible ((repeat (first | apply GH.ok_push | apply GH.ok_set)); assumption)) | ((try simp only [GH.push_hid, GH.set_hid]); first | assumption | (refine GH.vis ?_ ?_ <;> first | assumption | ((try simp only [GH.pn, GH.sn]) <;> omega)))) only [go_sem, ↓reduceIte, Nat.reduceEqDiff, Nat.reduceAdd, Int.reduceToNat, Int.reduceAdd, Int.reduceNeg, Int.reduceSub, Int.reduceMul, Int.reduceLT, Int.reduceLE, Int.reduceEq, ↓GH.gp_eq, ↓GH.gp_ne, ↓GH.gs_eq, ↓GH.gs_ne, GH.push_next, GH.set_next, he]
            exact ih (m - 1) _ _ _ (by omega) ⟨hlo3, hk3, i + 1, s', R2, by omega, (by simp +decide (disch := first | assumption | (apply GH.ok_push; assumption) | exact cellV_int _ _ | exact cellV_bool _ | omega) only [go_sem, ↓reduceIte, Nat.reduceEqDiff, Nat.reduceAdd, Int.reduceToNat, he]; first | done | exact rfl), hown3, hp3.trans hperm, hs3⟩
          · clear he'
            rintro m2 e g3 lo3 ho3 hl3 ih2 out2 ⟨hlo3, hk3, j, R2, rfl, hjr, he, hown3, hp3, hins3⟩
            have hRl2 : R2.length = r + 1 := by rw [hp3.length_eq, hlen2]
            have hdone : (j = 0 ∨ R2.getD (j - 1) 0 ≤ R2.getD j 0) → Srt R2 := fun h p q h1 h2 => hins3.done h p q h1 (by omega)
            by_cases cj : 0 < j
            · obtain ⟨j1, b1, x1, l1, a1⟩ := Row.at (.inr hown3) (ints_get (D := R2) (i := j) (by omega))
              obtain ⟨j2, b2, x2, l2, a2⟩ := Row.at (.inr hown3) (ints_get (D := R2) (i := j - 1) (by omega))
              have x1 := x1 (j : Int) rfl
              have x2 := x2 ((j : Int) - 1) (by omega)
              by_cases d : R2.getD j 0 < R2.getD (j - 1) 0
              · simp +decide (disch := first | assumption | (apply GH.ok_push; assumption) | exact cellV_int _ _ | exact cellV_bool _ | omega) only [go_sem, ↓reduceIte, Nat.reduceEqDiff, Nat.reduceAdd, Int.reduceToNat, he, x1, x2, l1, l2]
                refine OwnM.put hown3 a1 (by rw [ints_len]; omega) (by simp +decide (disch := first | assumption | (apply GH.ok_push; assumption) | exact cellV_int _ _ | exact cellV_bool _ | omega) only [go_sem, ↓reduceIte, Nat.reduceEqDiff, Nat.reduceAdd, Int.reduceToNat, he, x1]; first | done | exact rfl) (by simp +decide (disch := first | assumption | (apply GH.ok_push; assumption) | exact cellV_int _ _ | exact cellV_bool _ | omega) only [go_sem, ↓reduceIte, Nat.reduceEqDiff, Nat.reduceAdd, Int.reduceToNat, he, l2]; first | done | exact rfl) rfl rfl ho3 hlo3 (by omega) ?_
                intro G2 lo4 wr2 hw2 hr2 hlo4
                rw [ints_set] at hr2
                have hl4 : (R2.set j (R2.getD (j - 1) 0)).length = r + 1 := by simp [hRl2]
                obtain ⟨j4, b4, x4, l4, a4⟩ := Row.at (.inr hr2) (ints_get (D := R2.set j (R2.getD (j - 1) 0)) (i := j - 1) (by omega))
                have x4 := x4 ((j : Int) - 1) (by omega)
                simp +decide (disch := first | assumption | (apply GH.ok_push; assumption) | exact cellV_int _ _ | exact cellV_bool _ | omega) only [go_sem, ↓reduceIte, Nat.reduceEqDiff, Nat.reduceAdd, Int.reduceToNat, he, x4]
                refine OwnM.put hr2 a4 (by rw [ints_len]; omega) (by simp +decide (disch := first | assumption | (apply GH.ok_push; assumption) | exact cellV_int _ _ | exact cellV_bool _ | omega) only [go_sem, ↓reduceIte, Nat.reduceEqDiff, Nat.reduceAdd, Int.reduceToNat, he, x4]; first | done | exact rfl) (by simp +decide (disch := first | assumption | (apply GH.ok_push; assumption) | exact cellV_int _ _ | exact cellV_bool _ | omega) only [go_sem, ↓reduceIte, Nat.reduceEqDiff, Nat.reduceAdd, Int.reduceToNat, he, l1]; first | done | exact rfl) rfl rfl hw2.ok hlo4 (by omega) ?_
                intro G3 lo5 wr3 hw3 hr3 hlo5
                rw [ints_set] at hr3
                simp +decide (disch := first | assumption | (apply GH.ok_push; assumption) | exact cellV_int _ _ | exact cellV_bool _ | omega) only [go_sem, ↓reduceIte, Nat.reduceEqDiff, Nat.reduceAdd, Int.reduceToNat, he]
                refine ih2 (j - 1) _ _ _ (by omega) ⟨hlo5, (hk3.write hw2 (Nat.le_refl _)).write hw3 (Nat.le_refl _), j - 1, swp R2 j (j - 1), rfl, by omega, ?_, hr3, (swp_perm (by omega) (by omega) (by omega)).trans hp3, hins3.step cj hjr (by omega) d⟩
                simp +decide (disch := first | assumption | (apply GH.ok_push; assumption) | exact cellV_int _ _ | exact cellV_bool _ | omega) only [go_sem, ↓reduceIte, Nat.reduceEqDiff, Nat.reduceAdd, Int.reduceToNat, he]
                congr 1; omega
              · simp +decide (disch := first | assumption | (apply GH.ok_push; assumption) | exact cellV_int _ _ | exact cellV_bool _ | omega) only [go_sem, ↓reduceIte, Nat.reduceEqDiff, Nat.reduceAdd, Int.reduceToNat, he, x1, x2, l1, l2]
                exact out2 _ _ _ ⟨hlo3, hk3, R2, (by simp +decide (disch := first | assumption | (apply GH.ok_push; assumption) | exact cellV_int _ _ | exact cellV_bool _ | omega) only [go_sem, ↓reduceIte, Nat.reduceEqDiff, Nat.reduceAdd, Int.reduceToNat, he]; first | done | exact rfl), hown3, hp3, hdone (.inr (by omega))⟩
            · simp +decide (disch := first | assumption | (apply GH.ok_push; assumption) | exact cellV_int _ _ | exact cellV_bool _ | omega) only [go_sem, ↓reduceIte, Nat.reduceEqDiff, Nat.reduceAdd, Int.reduceToNat, he]
              exact out2 _ _ _ ⟨hlo3, hk3, R2, (by simp +decide (disch := first | assumption | (apply GH.ok_push; assumption) | exact cellV_int _ _ | exact cellV_bool _ | omega) only [go_sem, ↓reduceIte, Nat.reduceEqDiff, Nat.reduceAdd, Int.reduceToNat, he]; first | done | exact rfl), hown3, hp3, hdone (.inl (by omega))⟩
        · clear he hlo
          rintro m' e' g'' lo' - - ih' out' ⟨rfl, hlo', k, hkm, he'⟩
          by_cases ck : k < L.length
          case neg =>
            have ck' : ¬ (k : Int) < L.length := by omega
            simp +decide (disch := first | assumption | exact cellV_int _ _ | exact cellV_bool _ | omega | (simp only [GH.pn, GH.sn] <;> omega) | (with_reducible ((repeat (first | apply GH.ok_push | apply GH.ok_set)); assumption)) | ((try simp only [GH.push_hid, GH.set_hid]); first | assumption | (refine GH.vis ?_ ?_ <;> first | assumption | ((try simp only [GH.pn, GH.sn]) <;> omega)))) only [go_sem, ↓reduceIte, Nat.reduceEqDiff, Nat.reduceAdd, Int.reduceToNat, Int.reduceAdd, Int.reduceNeg, Int.reduceSub, Int.reduceMul, Int.reduceLT, Int.reduceLE, Int.reduceEq, ↓GH.gp_eq, ↓GH.gp_ne, ↓GH.gs_eq, ↓GH.gs_ne, GH.push_next, GH.set_next, he', hl, ck']
            have : k = L.length := by omega
            subst this
            exact out' _ _ _ ⟨rfl, hlo', (by simp +decide (disch := first | assumption | (apply GH.ok_push; assumption) | exact cellV_int _ _ | exact cellV_bool _ | omega) only [go_sem, ↓reduceIte, Nat.reduceEqDiff, Nat.reduceAdd, Int.reduceToNat, he']; first | done | exact rfl)⟩
          have ck' : (k : Int) < L.length := by omega
          have n2 : ¬ (k : Int) < 0 := by omega
          have q1 := shr_fact ((S : Nat) : Int) k (by omega)
          have q2 := remN S k
          have hpk := iaddrS_at (j := J) (n := L.length) (c := L.length) (m := k) (x := (k : Nat)) rfl ck
          have hck : (ints T)[k]? = some (.int .i64 (t k : Nat)) := by rw [ints_get (by rw [hlab.len]; exact ck), hlab.val k ck]
          have hbs : bitsF (fun k => decide (t k = i) && F.testBit k) (k + 1) = if (decide (t k = i) && F.testBit k) = true then bitsF (fun k => decide (t k = i) && F.testBit k) k ||| 2 ^ k else bitsF (fun k => decide (t k = i) && F.testBit k) k := rfl
          have hbl := bitsF_lt (fun k => decide (t k = i) && F.testBit k) k
          have u1 := shl_i (k := k) (by omega)
          have u2 := two_lt (k := k) (by omega)
          have hor := or_add hbl
          rw [hFb k ck] at hbs
          have u3 : 2 ^ k ≤ 2 ^ 10 := Nat.pow_le_pow_right (by decide) (by omega)
          by_cases d : t k = i
          · have d' : ((t k : Nat) : Int) = (i : Int) := by omega
            rw [decide_eq_true d, Bool.true_and] at hbs
            cases c : S.testBit k with
            | true =>
              rw [c] at q2 hbs
              have q2' : ((S : Int) / 2 ^ k).tmod 2 = 1 := q2
              rw [if_neg (by simp)] at hbs
              generalize t k = tk at *
              simp +decide (disch := first | assumption | exact cellV_int _ _ | exact cellV_bool _ | omega | (simp only [GH.pn, GH.sn] <;> omega) | (with_reducible ((repeat (first | apply GH.ok_push | apply GH.ok_set)); assumption)) | ((try simp only [GH.push_hid, GH.set_hid]); first | assumption | (refine GH.vis ?_ ?_ <;> first | assumption | ((try simp only [GH.pn, GH.sn]) <;> omega)))) only [go_sem, ↓reduceIte, Nat.reduceEqDiff, Nat.reduceAdd, Int.reduceToNat, Int.reduceAdd, Int.reduceNeg, Int.reduceSub, Int.reduceMul, Int.reduceLT, Int.reduceLE, Int.reduceEq, ↓GH.gp_eq, ↓GH.gp_ne, ↓GH.gs_eq, ↓GH.gs_ne, GH.push_next, GH.set_next, he', hl, ck', hpk, hget, hlenT, hck, d', ib_shr n2, q1, q2']
              refine ih' (m' - 1) _ _ _ (by omega) ⟨rfl, hlo', k + 1, by omega, ?_⟩
              rw [hbs]
              exact (by simp +decide (disch := first | assumption | (apply GH.ok_push; assumption) | exact cellV_int _ _ | exact cellV_bool _ | omega) only [go_sem, ↓reduceIte, Nat.reduceEqDiff, Nat.reduceAdd, Int.reduceToNat, he']; first | done | exact rfl)
            | false =>
              rw [c] at q2 hbs
              have q2' : ((S : Int) / 2 ^ k).tmod 2 = 0 := q2
              rw [if_pos (show (!false) = true from rfl), hor] at hbs
              generalize bitsF (fun k => decide (t k = i) && F.testBit k) k = w at *
              generalize t k = tk at *
              generalize 2 ^ k = tp at *
              simp +decide (disch := first | assumption | exact cellV_int _ _ | exact cellV_bool _ | omega | (simp only [GH.pn, GH.sn] <;> omega) | (with_reducible ((repeat (first | apply GH.ok_push | apply GH.ok_set)); assumption)) | ((try simp only [GH.push_hid, GH.set_hid]); first | assumption | (refine GH.vis ?_ ?_ <;> first | assumption | ((try simp only [GH.pn, GH.sn]) <;> omega)))) only [go_sem, ↓reduceIte, Nat.reduceEqDiff, Nat.reduceAdd, Int.reduceToNat, Int.reduceAdd, Int.reduceNeg, Int.reduceSub, Int.reduceMul, Int.reduceLT, Int.reduceLE, Int.reduceEq, ↓GH.gp_eq, ↓GH.gp_ne, ↓GH.gs_eq, ↓GH.gs_ne, GH.push_next, GH.set_next, he', hl, ck', hpk, hget, hlenT, hck, d', ib_shr n2, q1, q2', u1]
              refine ih' (m' - 1) _ _ _ (by omega) ⟨rfl, hlo', k + 1, by omega, ?_⟩
              rw [hbs]
              exact (by simp +decide (disch := first | assumption | (apply GH.ok_push; assumption) | exact cellV_int _ _ | exact cellV_bool _ | omega) only [go_sem, ↓reduceIte, Nat.reduceEqDiff, Nat.reduceAdd, Int.reduceToNat, he']; first | done | exact rfl)
          · have d' : ¬ ((t k : Nat) : Int) = (i : Int) := by omega
            rw [decide_eq_false d, if_neg (by simp)] at hbs
            generalize t k = tk at *
            simp +decide (disch := first | assumption | exact cellV_int _ _ | exact cellV_bool _ | omega | (simp only [GH.pn, GH.sn] <;> omega) | (with_reducible ((repeat (first | apply GH.ok_push | apply GH.ok_set)); assumption)) | ((try simp only [GH.push_hid, GH.set_hid]); first | assumption | (refine GH.vis ?_ ?_ <;> first | assumption | ((try simp only [GH.pn, GH.sn]) <;> omega)))) only [go_sem, ↓reduceIte, Nat.reduceEqDiff, Nat.reduceAdd, Int.reduceToNat, Int.reduceAdd, Int.reduceNeg, Int.reduceSub, Int.reduceMul, Int.reduceLT, Int.reduceLE, Int.reduceEq, ↓GH.gp_eq, ↓GH.gp_ne, ↓GH.gs_eq, ↓GH.gs_ne, GH.push_next, GH.set_next, he', hl, ck', hpk, hget, hlenT, hck, d']
            refine ih' (m' - 1) _ _ _ (by omega) ⟨rfl, hlo', k + 1, by omega, ?_⟩
            rw [hbs]
            exact (by simp +decide (disch := first | assumption | (apply GH.ok_push; assumption) | exact cellV_int _ _ | exact cellV_bool _ | omega) only [go_sem, ↓reduceIte, Nat.reduceEqDiff, Nat.reduceAdd, Int.reduceToNat, he']; first | done | exact rfl)
    · clear hlab he hlo
      rintro m e g' lo ho' hl' ih out ⟨hlo, i, T, t, him, he, hlab, hst⟩
      by_cases ci : i < L.length
      case neg =>
        have ci' : ¬ (i : Int) < L.length := by omega
        simp +decide (disch := first | assumption | exact cellV_int _ _ | exact cellV_bool _ | omega | (simp only [GH.pn, GH.sn] <;> omega) | (with_reducible ((repeat (first | apply GH.ok_push | apply GH.ok_set)); assumption)) | ((try simp only [GH.push_hid, GH.set_hid]); first | assumption | (refine GH.vis ?_ ?_ <;> first | assumption | ((try simp only [GH.pn, GH.sn]) <;> omega)))) only [go_sem, ↓reduceIte, Nat.reduceEqDiff, Nat.reduceAdd, Int.reduceToNat, Int.reduceAdd, Int.reduceNeg, Int.reduceSub, Int.reduceMul, Int.reduceLT, Int.reduceLE, Int.reduceEq, ↓GH.gp_eq, ↓GH.gp_ne, ↓GH.gs_eq, ↓GH.gs_ne, GH.push_next, GH.set_next, he, hl, ci']
        have : i = L.length := by omega
        subst this
        exact out _ _ _ ⟨hlo, T, t, (by simp +decide (disch := first | assumption | (apply GH.ok_push; assumption) | exact cellV_int _ _ | exact cellV_bool _ | omega) only [go_sem, ↓reduceIte, Nat.reduceEqDiff, Nat.reduceAdd, Int.reduceToNat, he]; first | done | exact rfl), hlab, hst⟩
      have ci' : (i : Int) < L.length := by omega
      simp +decide (disch := first | assumption | exact cellV_int _ _ | exact cellV_bool _ | omega | (simp only [GH.pn, GH.sn] <;> omega) | (with_reducible ((repeat (first | apply GH.ok_push | apply GH.ok_set)); assumption)) | ((try simp only [GH.push_hid, GH.set_hid]); first | assumption | (refine GH.vis ?_ ?_ <;> first | assumption | ((try simp only [GH.pn, GH.sn]) <;> omega)))) only [go_sem, ↓reduceIte, Nat.reduceEqDiff, Nat.reduceAdd, Int.reduceToNat, Int.reduceAdd, Int.reduceNeg, Int.reduceSub, Int.reduceMul, Int.reduceLT, Int.reduceLE, Int.reduceEq, ↓GH.gp_eq, ↓GH.gp_ne, ↓GH.gs_eq, ↓GH.gs_ne, GH.push_next, GH.set_next, he, hl, ci']
      refine Wk.loops (fun m' e g' lo => g.next ≤ lo ∧ ∃ (k : Nat) (T : List Int) (t : Nat → Nat), k + m' = L.length ∧ (ev e (.s 0) = s ∧ ev e (.s 1) = .int .i64 (S : Int) ∧ ev e (.s 5) = .slice (some ⟨J, 0, none⟩) L.length L.length ∧ ev e (.s 7) = .int .i64 (i : Int) ∧ ev e (.s 8) = .int .i64 (k : Int)) ∧ LabR g g' J T L.length t ∧ Lab (setF L) F L.length t i k)
        (fun e g' lo => g.next ≤ lo ∧ ∃ (T : List Int) (t : Nat → Nat), (ev e (.s 0) = s ∧ ev e (.s 1) = .int .i64 (S : Int) ∧ ev e (.s 5) = .slice (some ⟨J, 0, none⟩) L.length L.length ∧ ev e (.s 7) = .int .i64 (i : Int)) ∧ LabR g g' J T L.length t ∧ Lab (setF L) F L.length t i L.length) (n := L.length) ?_ ?_ ?_
      · exact ⟨hlo, 0, T, t, by omega, (by simp +decide (disch := first | assumption | (apply GH.ok_push; assumption) | exact cellV_int _ _ | exact cellV_bool _ | omega) only [go_sem, ↓reduceIte, Nat.reduceEqDiff, Nat.reduceAdd, Int.reduceToNat, he]; first | done | exact rfl), hlab, hst⟩
      · clear hlab he hlo hst
        rintro e g' lo hog hlg ⟨hlo, T, t, he, hlab, hst⟩
        simp +decide (disch := first | assumption | exact cellV_int _ _ | exact cellV_bool _ | omega | (simp only [GH.pn, GH.sn] <;> omega) | (with_reducible ((repeat (first | apply GH.ok_push | apply GH.ok_set)); assumption)) | ((try simp only [GH.push_hid, GH.set_hid]); first | assumption | (refine GH.vis ?_ ?_ <;> first | assumption | ((try simp only [GH.pn, GH.sn]) <;> omega)))) only [go_sem, ↓reduceIte, Nat.reduceEqDiff, Nat.reduceAdd, Int.reduceToNat, Int.reduceAdd, Int.reduceNeg, Int.reduceSub, Int.reduceMul, Int.reduceLT, Int.reduceLE, Int.reduceEq, ↓GH.gp_eq, ↓GH.gp_ne, ↓GH.gs_eq, ↓GH.gs_ne, GH.push_next, GH.set_next, he]
        exact ih (m - 1) _ _ _ (by omega) ⟨hlo, i + 1, T, t, by omega, (by simp +decide (disch := first | assumption | (apply GH.ok_push; assumption) | exact cellV_int _ _ | exact cellV_bool _ | omega) only [go_sem, ↓reduceIte, Nat.reduceEqDiff, Nat.reduceAdd, Int.reduceToNat, he]; first | done | exact rfl), hlab, hst.row⟩
      · clear hlab he hlo hst
        rintro m' e g' lo ho' hl' ih' out' ⟨hlo, k, T, t, hkm, he, hlab, hst⟩
        by_cases ck : k < L.length
        case neg =>
          have ck' : ¬ (k : Int) < L.length := by omega
          simp +decide (disch := first | assumption | exact cellV_int _ _ | exact cellV_bool _ | omega | (simp only [GH.pn, GH.sn] <;> omega) | (with_reducible ((repeat (first | apply GH.ok_push | apply GH.ok_set)); assumption)) | ((try simp only [GH.push_hid, GH.set_hid]); first | assumption | (refine GH.vis ?_ ?_ <;> first | assumption | ((try simp only [GH.pn, GH.sn]) <;> omega)))) only [go_sem, ↓reduceIte, Nat.reduceEqDiff, Nat.reduceAdd, Int.reduceToNat, Int.reduceAdd, Int.reduceNeg, Int.reduceSub, Int.reduceMul, Int.reduceLT, Int.reduceLE, Int.reduceEq, ↓GH.gp_eq, ↓GH.gp_ne, ↓GH.gs_eq, ↓GH.gs_ne, GH.push_next, GH.set_next, he, hl, ck']
          have : k = L.length := by omega
          subst this
          exact out' _ _ _ ⟨hlo, T, t, (by simp +decide (disch := first | assumption | (apply GH.ok_push; assumption) | exact cellV_int _ _ | exact cellV_bool _ | omega) only [go_sem, ↓reduceIte, Nat.reduceEqDiff, Nat.reduceAdd, Int.reduceToNat, he]; first | done | exact rfl), hlab, hst⟩
        have ck' : (k : Int) < L.length := by omega
        have n1 : ¬ (i : Int) < 0 := by omega
        have n2 : ¬ (k : Int) < 0 := by omega
        have r1 := shr_fact ((S : Nat) : Int) i (by omega)
        have r2 := remN S i
        have q1 := shr_fact ((S : Nat) : Int) k (by omega)
        have q2 := remN S k
        cases c1 : S.testBit i with
        | true =>
          rw [c1] at r2
          have r2' : ((S : Int) / 2 ^ i).tmod 2 = 1 := r2
          simp +decide (disch := first | assumption | exact cellV_int _ _ | exact cellV_bool _ | omega | (simp only [GH.pn, GH.sn] <;> omega) | (with_reducible ((repeat (first | apply GH.ok_push | apply GH.ok_set)); assumption)) | ((try simp only [GH.push_hid, GH.set_hid]); first | assumption | (refine GH.vis ?_ ?_ <;> first | assumption | ((try simp only [GH.pn, GH.sn]) <;> omega)))) only [go_sem, ↓reduceIte, Nat.reduceEqDiff, Nat.reduceAdd, Int.reduceToNat, Int.reduceAdd, Int.reduceNeg, Int.reduceSub, Int.reduceMul, Int.reduceLT, Int.reduceLE, Int.reduceEq, ↓GH.gp_eq, ↓GH.gp_ne, ↓GH.gs_eq, ↓GH.gs_ne, GH.push_next, GH.set_next, he, hl, ck', ib_shr n1, r1, r2']
          exact ih' (m' - 1) _ _ _ (by omega) ⟨hlo, k + 1, T, t, by omega, (by simp +decide (disch := first | assumption | (apply GH.ok_push; assumption) | exact cellV_int _ _ | exact cellV_bool _ | omega) only [go_sem, ↓reduceIte, Nat.reduceEqDiff, Nat.reduceAdd, Int.reduceToNat, he]; first | done | exact rfl), hlab, hst.skip fun e => by have := e.a; rw [hFb i ci, c1] at this; cases this⟩
        | false =>
        rw [c1] at r2
        have r2' : ((S : Int) / 2 ^ i).tmod 2 = 0 := r2
        cases c2 : S.testBit k with
        | true =>
          rw [c2] at q2
          have q2' : ((S : Int) / 2 ^ k).tmod 2 = 1 := q2
          simp +decide (disch := first | assumption | exact cellV_int _ _ | exact cellV_bool _ | omega | (simp only [GH.pn, GH.sn] <;> omega) | (with_reducible ((repeat (first | apply GH.ok_push | apply GH.ok_set)); assumption)) | ((try simp only [GH.push_hid, GH.set_hid]); first | assumption | (refine GH.vis ?_ ?_ <;> first | assumption | ((try simp only [GH.pn, GH.sn]) <;> omega)))) only [go_sem, ↓reduceIte, Nat.reduceEqDiff, Nat.reduceAdd, Int.reduceToNat, Int.reduceAdd, Int.reduceNeg, Int.reduceSub, Int.reduceMul, Int.reduceLT, Int.reduceLE, Int.reduceEq, ↓GH.gp_eq, ↓GH.gp_ne, ↓GH.gs_eq, ↓GH.gs_ne, GH.push_next, GH.set_next, he, hl, ck', ib_shr n1, r1, r2', ib_shr n2, q1, q2']
          exact ih' (m' - 1) _ _ _ (by omega) ⟨hlo, k + 1, T, t, by omega, (by simp +decide (disch := first | assumption | (apply GH.ok_push; assumption) | exact cellV_int _ _ | exact cellV_bool _ | omega) only [go_sem, ↓reduceIte, Nat.reduceEqDiff, Nat.reduceAdd, Int.reduceToNat, he]; first | done | exact rfl), hlab, hst.skip fun e => by have := e.b; rw [hFb k ck, c2] at this; cases this⟩
        | false =>
        rw [c2] at q2
        have q2' : ((S : Int) / 2 ^ k).tmod 2 = 0 := q2
        obtain ⟨j2, o2, hj2, hq1, hq2⟩ := (hs.kept hlab.kept).ptr (ints_get (D := L) (i := i) ci)
        have hq1 := hq1 (i : Int) rfl
        rw [(hA i ci).1] at hq2
        have t1 := shr_fact ((setF L i : Nat) : Int) k (by omega)
        have t2 := remN (setF L i) k
        cases c3 : (setF L i).testBit k with
        | false =>
          rw [c3] at t2
          have t2' : (((setF L i : Nat) : Int) / 2 ^ k).tmod 2 = 0 := t2
          have hsk := hst.skip (fun e => by have := e.e; rw [c3] at this; cases this)
          generalize setF L i = a at *
          simp +decide (disch := first | assumption | exact cellV_int _ _ | exact cellV_bool _ | omega | (simp only [GH.pn, GH.sn] <;> omega) | (with_reducible ((repeat (first | apply GH.ok_push | apply GH.ok_set)); assumption)) | ((try simp only [GH.push_hid, GH.set_hid]); first | assumption | (refine GH.vis ?_ ?_ <;> first | assumption | ((try simp only [GH.pn, GH.sn]) <;> omega)))) only [go_sem, ↓reduceIte, Nat.reduceEqDiff, Nat.reduceAdd, Int.reduceToNat, Int.reduceAdd, Int.reduceNeg, Int.reduceSub, Int.reduceMul, Int.reduceLT, Int.reduceLE, Int.reduceEq, ↓GH.gp_eq, ↓GH.gp_ne, ↓GH.gs_eq, ↓GH.gs_ne, GH.push_next, GH.set_next, he, hl, ck', ib_shr n1, r1, r2', ib_shr n2, q1, q2', hq1, hq2, t1, t2']
          exact ih' (m' - 1) _ _ _ (by omega) ⟨hlo, k + 1, T, t, by omega, (by simp +decide (disch := first | assumption | (apply GH.ok_push; assumption) | exact cellV_int _ _ | exact cellV_bool _ | omega) only [go_sem, ↓reduceIte, Nat.reduceEqDiff, Nat.reduceAdd, Int.reduceToNat, he]; first | done | exact rfl), hlab, hsk⟩
        | true =>
        rw [c3] at t2
        have t2' : (((setF L i : Nat) : Int) / 2 ^ k).tmod 2 = 1 := t2
        have hed : Go.Vs.Edge (setF L) F i k := ⟨by rw [hFb i ci, c1]; rfl, by rw [hFb k ck, c2]; rfl, c3⟩
        have hjo := hst.join hSh hFe hed
        clear hst hed
        have hpi := iaddrS_at (j := J) (n := L.length) (c := L.length) (m := i) (x := (i : Nat)) rfl ci
        have hpk := iaddrS_at (j := J) (n := L.length) (c := L.length) (m := k) (x := (k : Nat)) rfl ck
        have hget := hlab.get
        have hlenT : (ints T).length = L.length := by rw [ints_len, hlab.len]
        have hjn := hlab.jn
        have hci : (ints T)[i]? = some (.int .i64 (t i : Nat)) := by rw [ints_get (by rw [hlab.len]; exact ci), hlab.val i ci]
        have hck : (ints T)[k]? = some (.int .i64 (t k : Nat)) := by rw [ints_get (by rw [hlab.len]; exact ck), hlab.val k ck]
        have hmn := mn_nat (t i) (t k)
        have hmx := mx_nat (t i) (t k)
        have hmr : ∀ y, mrg t (t i) (t k) y = if t y = max (t i) (t k) then min (t i) (t k) else t y := fun _ => rfl
        generalize mrg t (t i) (t k) = t' at *
        generalize min (t i) (t k) = mn at *
        generalize max (t i) (t k) = mx at *
        generalize t i = ti at *
        generalize t k = tk at *
        generalize setF L i = a at *
        simp +decide (disch := first | assumption | exact cellV_int _ _ | exact cellV_bool _ | omega | (simp only [GH.pn, GH.sn] <;> omega) | (with_reducible ((repeat (first | apply GH.ok_push | apply GH.ok_set)); assumption)) | ((try simp only [GH.push_hid, GH.set_hid]); first | assumption | (refine GH.vis ?_ ?_ <;> first | assumption | ((try simp only [GH.pn, GH.sn]) <;> omega)))) only [go_sem, ↓reduceIte, Nat.reduceEqDiff, Nat.reduceAdd, Int.reduceToNat, Int.reduceAdd, Int.reduceNeg, Int.reduceSub, Int.reduceMul, Int.reduceLT, Int.reduceLE, Int.reduceEq, ↓GH.gp_eq, ↓GH.gp_ne, ↓GH.gs_eq, ↓GH.gs_ne, GH.push_next, GH.set_next, he, hl, ck', ib_shr n1, r1, r2', ib_shr n2, q1, q2', hq1, hq2, t1, t2', hpi, hpk, hget, hci, hck, hmn, hmx]
        refine Wk.loops (fun m'' e g' lo => g.next ≤ lo ∧ ∃ (x : Nat) (T : List Int), x + m'' = L.length ∧ (ev e (.s 0) = s ∧ ev e (.s 1) = .int .i64 (S : Int) ∧ ev e (.s 5) = .slice (some ⟨J, 0, none⟩) L.length L.length ∧ ev e (.s 7) = .int .i64 (i : Int) ∧ ev e (.s 8) = .int .i64 (k : Int) ∧ ev e (.s 9) = .int .i64 (mn : Nat) ∧ ev e (.s 10) = .int .i64 (mx : Nat) ∧ ev e (.s 11) = .int .i64 (x : Int)) ∧ LabR g g' J T L.length (fun y => if y < x then t' y else t y))
          (fun e g' lo => g.next ≤ lo ∧ ∃ (T : List Int), (ev e (.s 0) = s ∧ ev e (.s 1) = .int .i64 (S : Int) ∧ ev e (.s 5) = .slice (some ⟨J, 0, none⟩) L.length L.length ∧ ev e (.s 7) = .int .i64 (i : Int) ∧ ev e (.s 8) = .int .i64 (k : Int)) ∧ LabR g g' J T L.length t') (n := L.length) ?_ ?_ ?_
        · exact ⟨hlo, 0, T, by omega, (by simp +decide (disch := first | assumption | (apply GH.ok_push; assumption) | exact cellV_int _ _ | exact cellV_bool _ | omega) only [go_sem, ↓reduceIte, Nat.reduceEqDiff, Nat.reduceAdd, Int.reduceToNat, he]; first | done | exact rfl), hlab.congr fun x hx => (if_neg (Nat.not_lt_zero _)).symm⟩
        · clear hlab he hlo hget hlenT hjn hci hck
          rintro e g' lo hog hlg ⟨hlo, T, he, hlab⟩
          simp +decide (disch := first | assumption | exact cellV_int _ _ | exact cellV_bool _ | omega | (simp only [GH.pn, GH.sn] <;> omega) | (with_reducible ((repeat (first | apply GH.ok_push | apply GH.ok_set)); assumption)) | ((try simp only [GH.push_hid, GH.set_hid]); first | assumption | (refine GH.vis ?_ ?_ <;> first | assumption | ((try simp only [GH.pn, GH.sn]) <;> omega)))) only [go_sem, ↓reduceIte, Nat.reduceEqDiff, Nat.reduceAdd, Int.reduceToNat, Int.reduceAdd, Int.reduceNeg, Int.reduceSub, Int.reduceMul, Int.reduceLT, Int.reduceLE, Int.reduceEq, ↓GH.gp_eq, ↓GH.gp_ne, ↓GH.gs_eq, ↓GH.gs_ne, GH.push_next, GH.set_next, he]
          exact ih' (m' - 1) _ _ _ (by omega) ⟨hlo, k + 1, T, t', by omega, (by simp +decide (disch := first | assumption | (apply GH.ok_push; assumption) | exact cellV_int _ _ | exact cellV_bool _ | omega) only [go_sem, ↓reduceIte, Nat.reduceEqDiff, Nat.reduceAdd, Int.reduceToNat, he]; first | done | exact rfl), hlab, hjo⟩
        · clear hlab he hlo hget hlenT hjn hci hck
          rintro m'' e g' lo ho' hl' ih'' out'' ⟨hlo, x, T, hxm, he, hlab⟩
          by_cases cx : x < L.length
          case neg =>
            have cx' : ¬ (x : Int) < L.length := by omega
            simp +decide (disch := first | assumption | exact cellV_int _ _ | exact cellV_bool _ | omega | (simp only [GH.pn, GH.sn] <;> omega) | (with_reducible ((repeat (first | apply GH.ok_push | apply GH.ok_set)); assumption)) | ((try simp only [GH.push_hid, GH.set_hid]); first | assumption | (refine GH.vis ?_ ?_ <;> first | assumption | ((try simp only [GH.pn, GH.sn]) <;> omega)))) only [go_sem, ↓reduceIte, Nat.reduceEqDiff, Nat.reduceAdd, Int.reduceToNat, Int.reduceAdd, Int.reduceNeg, Int.reduceSub, Int.reduceMul, Int.reduceLT, Int.reduceLE, Int.reduceEq, ↓GH.gp_eq, ↓GH.gp_ne, ↓GH.gs_eq, ↓GH.gs_ne, GH.push_next, GH.set_next, he, hl, cx']
            have : x = L.length := by omega
            subst this
            exact out'' _ _ _ ⟨hlo, T, (by simp +decide (disch := first | assumption | (apply GH.ok_push; assumption) | exact cellV_int _ _ | exact cellV_bool _ | omega) only [go_sem, ↓reduceIte, Nat.reduceEqDiff, Nat.reduceAdd, Int.reduceToNat, he]; first | done | exact rfl), hlab.congr fun x hx => if_pos hx⟩
          have cx' : (x : Int) < L.length := by omega
          have hpx := iaddrS_at (j := J) (n := L.length) (c := L.length) (m := x) (x := (x : Nat)) rfl cx
          have hget := hlab.get
          have hlenT : (ints T).length = L.length := by rw [ints_len, hlab.len]
          have hjn := hlab.jn
          have hcx : (ints T)[x]? = some (.int .i64 (t x : Nat)) := by rw [ints_get (by rw [hlab.len]; exact cx), hlab.val x cx, if_neg (Nat.lt_irrefl _)]
          have hmx' := hmr x
          by_cases d : t x = mx
          · have d' : ((t x : Nat) : Int) = (mx : Int) := by omega
            rw [if_pos d] at hmx'
            have hp := hlab.put ho' cx (v := mn) (fun y => if y < x + 1 then t' y else t y) fun y hy => by
              by_cases c : y = x
              · subst c; rw [if_pos (Nat.lt_succ_self _), if_pos rfl, hmx']
              · rw [if_neg c]
                by_cases d : y < x
                · rw [if_pos d, if_pos (by omega)]
                · rw [if_neg d, if_neg (by omega)]
            generalize t x = tx at *
            simp +decide (disch := first | assumption | exact cellV_int _ _ | exact cellV_bool _ | omega | (simp only [GH.pn, GH.sn] <;> omega) | (with_reducible ((repeat (first | apply GH.ok_push | apply GH.ok_set)); assumption)) | ((try simp only [GH.push_hid, GH.set_hid]); first | assumption | (refine GH.vis ?_ ?_ <;> first | assumption | ((try simp only [GH.pn, GH.sn]) <;> omega)))) only [go_sem, ↓reduceIte, Nat.reduceEqDiff, Nat.reduceAdd, Int.reduceToNat, Int.reduceAdd, Int.reduceNeg, Int.reduceSub, Int.reduceMul, Int.reduceLT, Int.reduceLE, Int.reduceEq, ↓GH.gp_eq, ↓GH.gp_ne, ↓GH.gs_eq, ↓GH.gs_ne, GH.push_next, GH.set_next, he, hl, cx', hpx, hget, hlenT, hcx, d']
            exact ih'' (m'' - 1) _ _ _ (by omega) ⟨by have := hlab.low; omega, x + 1, _, by omega, (by simp +decide (disch := first | assumption | (apply GH.ok_push; assumption) | exact cellV_int _ _ | exact cellV_bool _ | omega) only [go_sem, ↓reduceIte, Nat.reduceEqDiff, Nat.reduceAdd, Int.reduceToNat, he]; first | done | exact rfl), hp⟩
          · have d' : ¬ ((t x : Nat) : Int) = (mx : Int) := by omega
            rw [if_neg d] at hmx'
            have hp := hlab.congr (t' := fun y => if y < x + 1 then t' y else t y) fun y hy => by
              by_cases c : y = x
              · subst c; rw [if_pos (Nat.lt_succ_self _), if_neg (Nat.lt_irrefl _), hmx']
              · by_cases d : y < x
                · rw [if_pos d, if_pos (by omega)]
                · rw [if_neg d, if_neg (by omega)]
            generalize t x = tx at *
            simp +decide (disch := first | assumption | exact cellV_int _ _ | exact cellV_bool _ | omega | (simp only [GH.pn, GH.sn] <;> omega) | (with_reducible ((repeat (first | apply GH.ok_push | apply GH.ok_set)); assumption)) | ((try simp only [GH.push_hid, GH.set_hid]); first | assumption | (refine GH.vis ?_ ?_ <;> first | assumption | ((try simp only [GH.pn, GH.sn]) <;> omega)))) only [go_sem, ↓reduceIte, Nat.reduceEqDiff, Nat.reduceAdd, Int.reduceToNat, Int.reduceAdd, Int.reduceNeg, Int.reduceSub, Int.reduceMul, Int.reduceLT, Int.reduceLE, Int.reduceEq, ↓GH.gp_eq, ↓GH.gp_ne, ↓GH.gs_eq, ↓GH.gs_ne, GH.push_next, GH.set_next, he, hl, cx', hpx, hget, hlenT, hcx, d']
            exact ih'' (m'' - 1) _ _ _ (by omega) ⟨hlo, x + 1, T, by omega, (by simp +decide (disch := first | assumption | (apply GH.ok_push; assumption) | exact cellV_int _ _ | exact cellV_bool _ | omega) only [go_sem, ↓reduceIte, Nat.reduceEqDiff, Nat.reduceAdd, Int.reduceToNat, he]; first | done | exact rfl), hp⟩
  · rintro m e g' lo ho' hl' ih out ⟨hlo, i, T, him, he, hlab⟩
    by_cases ci : i < L.length
    case neg =>
      have ci' : ¬ (i : Int) < L.length := by omega
      simp +decide (disch := first | assumption | exact cellV_int _ _ | exact cellV_bool _ | omega | (simp only [GH.pn, GH.sn] <;> omega) | (with_reducible ((repeat (first | apply GH.ok_push | apply GH.ok_set)); assumption)) | ((try simp only [GH.push_hid, GH.set_hid]); first | assumption | (refine GH.vis ?_ ?_ <;> first | assumption | ((try simp only [GH.pn, GH.sn]) <;> omega)))) only [go_sem, ↓reduceIte, Nat.reduceEqDiff, Nat.reduceAdd, Int.reduceToNat, Int.reduceAdd, Int.reduceNeg, Int.reduceSub, Int.reduceMul, Int.reduceLT, Int.reduceLE, Int.reduceEq, ↓GH.gp_eq, ↓GH.gp_ne, ↓GH.gs_eq, ↓GH.gs_ne, GH.push_next, GH.set_next, he, hl, ci']
      have : i = L.length := by omega
      subst this
      exact out _ _ _ ⟨hlo, T, (by simp +decide (disch := first | assumption | (apply GH.ok_push; assumption) | exact cellV_int _ _ | exact cellV_bool _ | omega) only [go_sem, ↓reduceIte, Nat.reduceEqDiff, Nat.reduceAdd, Int.reduceToNat, he]; first | done | exact rfl), hlab.congr fun x hx => if_pos hx⟩
    have ci' : (i : Int) < L.length := by omega
    have hpa := iaddrS_at (j := J) (n := L.length) (c := L.length) (m := i) (x := (i : Nat)) rfl ci
    have hget := hlab.get
    have hlenT : (ints T).length = L.length := by rw [ints_len, hlab.len]
    have hjn := hlab.jn
    simp +decide (disch := first | assumption | exact cellV_int _ _ | exact cellV_bool _ | omega | (simp only [GH.pn, GH.sn] <;> omega) | (with_reducible ((repeat (first | apply GH.ok_push | apply GH.ok_set)); assumption)) | ((try simp only [GH.push_hid, GH.set_hid]); first | assumption | (refine GH.vis ?_ ?_ <;> first | assumption | ((try simp only [GH.pn, GH.sn]) <;> omega)))) only [go_sem, ↓reduceIte, Nat.reduceEqDiff, Nat.reduceAdd, Int.reduceToNat, Int.reduceAdd, Int.reduceNeg, Int.reduceSub, Int.reduceMul, Int.reduceLT, Int.reduceLE, Int.reduceEq, ↓GH.gp_eq, ↓GH.gp_ne, ↓GH.gs_eq, ↓GH.gs_ne, GH.push_next, GH.set_next, he, hl, ci', hpa, hget, hlenT]
    refine ih (m - 1) _ _ _ (by omega) ⟨by omega, i + 1, _, by omega, (by simp +decide (disch := first | assumption | (apply GH.ok_push; assumption) | exact cellV_int _ _ | exact cellV_bool _ | omega) only [go_sem, ↓reduceIte, Nat.reduceEqDiff, Nat.reduceAdd, Int.reduceToNat, he]; first | done | exact rfl), hlab.put ho' ci _ fun x hx => ?_⟩
    by_cases c : x = i
    · subst c; rw [if_pos (Nat.lt_succ_self _), if_pos rfl]
    · rw [if_neg c]
      by_cases d : x < i
      · rw [if_pos d, if_pos (by omega)]
      · rw [if_neg d, if_neg (by omega)]
end Go.Proofs.YtnpapnpedcbfnaaDoor
set_option maxRecDepth 100000
set_option maxHeartbeats 4000000
set_option linter.unusedSimpArgs false
set_option linter.unusedVariables false
namespace Go.Proofs.YtnpapnpedcbfnaaDoor
open Go.Ds Go.Vs
/-! ## Odd, Parts, Barrier of the reference -/
theorem odd65_rets {X : Caller} (hX : Xfr X) (L : List Int) (hL : shopB L = true) (s : Value) (S : Nat) (hS : S < 2 ^ L.length) (g : GH) (hs : SlR g s (ints L)) :
    Rets Tryd.prog X 65 [s, .int .i64 (S : Int)] g (fun v g' lo => g.next ≤ lo ∧ v = .int .i64 (oddS (partsOf L S) : Nat)) := by
  obtain ⟨hL1, hL10, hA⟩ := shop_ok hL
  have hN : 2 ^ L.length ≤ 1024 := Nat.pow_le_pow_right (by decide) hL10
  have hpr := refParts_rets hX L hL s S hS g hs
  have hpl := partsOf_len L S
  have hmem := fun x => partsOf_mem (L := L) (S := S) (x := x)
  refine Rets.run hX.pres p65 (hX.free 65 (by decide) _ _) rfl fun ho => ?_
  simp +decide (disch := first | assumption | exact cellV_int _ _ | exact cellV_bool _ | omega | (simp only [GH.pn, GH.sn] <;> omega) | (with_reducible ((repeat (first | apply GH.ok_push | apply GH.ok_set)); assumption)) | ((try simp only [GH.push_hid, GH.set_hid]); first | assumption | (refine GH.vis ?_ ?_ <;> first | assumption | ((try simp only [GH.pn, GH.sn]) <;> omega)))) only [go_sem, ↓reduceIte, Nat.reduceEqDiff, Nat.reduceAdd, Int.reduceToNat, Int.reduceAdd, Int.reduceNeg, Int.reduceSub, Int.reduceMul, Int.reduceLT, Int.reduceLE, Int.reduceEq, ↓GH.gp_eq, ↓GH.gp_ne, ↓GH.gs_eq, ↓GH.gs_ne, GH.push_next, GH.set_next]
  refine CallD.calm hpr ?_
  rintro v g1 hx1 ⟨hok1, hk1, D, hrd, hsr, hp⟩
  have hn1 := hx1.next
  have hmem := fun x (h : x ∈ D) => hmem x (hp.mem_iff.1 h)
  rw [← oddS_perm hp]
  have hdl : D.length ≤ L.length := by rw [hp.length_eq]; exact hpl
  have hl := hrd.len
  rw [ints_len] at hl
  have hol := oddS_le D
  simp +decide (disch := first | assumption | exact cellV_int _ _ | exact cellV_bool _ | omega | (simp only [GH.pn, GH.sn] <;> omega) | (with_reducible ((repeat (first | apply GH.ok_push | apply GH.ok_set)); assumption)) | ((try simp only [GH.push_hid, GH.set_hid]); first | assumption | (refine GH.vis ?_ ?_ <;> first | assumption | ((try simp only [GH.pn, GH.sn]) <;> omega)))) only [go_sem, ↓reduceIte, Nat.reduceEqDiff, Nat.reduceAdd, Int.reduceToNat, Int.reduceAdd, Int.reduceNeg, Int.reduceSub, Int.reduceMul, Int.reduceLT, Int.reduceLE, Int.reduceEq, ↓GH.gp_eq, ↓GH.gp_ne, ↓GH.gs_eq, ↓GH.gs_ne, GH.push_next, GH.set_next, hl]
  refine Wk.loops (fun m e g' lo => g.next ≤ lo ∧ Kept g1 g' ∧ ∃ i : Nat, i + m = D.length ∧ (ev e (.s 5) = v ∧ ev e (.s 7) = .int .i64 (i : Int) ∧ ev e (.s 6) = .int .i64 (oddS (D.take i) : Nat)))
    (fun e g' lo => g.next ≤ lo ∧ ev e (.s 6) = .int .i64 (oddS D : Nat)) (n := D.length) ?_ ?_ ?_
  · exact ⟨by omega, Kept.refl _, 0, by omega, (by simp +decide (disch := first | assumption | (apply GH.ok_push; assumption) | exact cellV_int _ _ | exact cellV_bool _ | omega) only [go_sem, ↓reduceIte, Nat.reduceEqDiff, Nat.reduceAdd, Int.reduceToNat, hl]; first | done | exact rfl)⟩
  · rintro e g' lo - - ⟨hlo, he⟩
    simp +decide (disch := first | assumption | exact cellV_int _ _ | exact cellV_bool _ | omega | (simp only [GH.pn, GH.sn] <;> omega) | (with_reducible ((repeat (first | apply GH.ok_push | apply GH.ok_set)); assumption)) | ((try simp only [GH.push_hid, GH.set_hid]); first | assumption | (refine GH.vis ?_ ?_ <;> first | assumption | ((try simp only [GH.pn, GH.sn]) <;> omega)))) only [go_sem, ↓reduceIte, Nat.reduceEqDiff, Nat.reduceAdd, Int.reduceToNat, Int.reduceAdd, Int.reduceNeg, Int.reduceSub, Int.reduceMul, Int.reduceLT, Int.reduceLE, Int.reduceEq, ↓GH.gp_eq, ↓GH.gp_ne, ↓GH.gs_eq, ↓GH.gs_ne, GH.push_next, GH.set_next, he]
    intro hx0
    exact ⟨hlo, rfl⟩
  · rintro m e g' lo ho' hl' ih out ⟨hlo, hk, i, him, he⟩
    have hkn := hk.next
    by_cases ci : i < D.length
    case neg =>
      have ci' : ¬ (i : Int) < D.length := by omega
      simp +decide (disch := first | assumption | exact cellV_int _ _ | exact cellV_bool _ | omega | (simp only [GH.pn, GH.sn] <;> omega) | (with_reducible ((repeat (first | apply GH.ok_push | apply GH.ok_set)); assumption)) | ((try simp only [GH.push_hid, GH.set_hid]); first | assumption | (refine GH.vis ?_ ?_ <;> first | assumption | ((try simp only [GH.pn, GH.sn]) <;> omega)))) only [go_sem, ↓reduceIte, Nat.reduceEqDiff, Nat.reduceAdd, Int.reduceToNat, Int.reduceAdd, Int.reduceNeg, Int.reduceSub, Int.reduceMul, Int.reduceLT, Int.reduceLE, Int.reduceEq, ↓GH.gp_eq, ↓GH.gp_ne, ↓GH.gs_eq, ↓GH.gs_ne, GH.push_next, GH.set_next, he, hl, ci']
      have : i = D.length := by omega
      subst this
      rw [List.take_length] at he
      exact out _ _ _ ⟨hlo, (by simp +decide (disch := first | assumption | (apply GH.ok_push; assumption) | exact cellV_int _ _ | exact cellV_bool _ | omega) only [go_sem, ↓reduceIte, Nat.reduceEqDiff, Nat.reduceAdd, Int.reduceToNat, he]; first | done | exact rfl)⟩
    have ci' : (i : Int) < D.length := by omega
    obtain ⟨j2, o2, hj2, hq1, hq2⟩ := (hrd.kept hk).ptr (ints_get (D := D) (i := i) ci)
    have hq1 := hq1 (i : Int) rfl
    obtain ⟨y, hy, hyl⟩ := hmem _ (getD_mem ci)
    have hot := oddS_take ci
    have hle : oddS (D.take i) ≤ i := Nat.le_trans (oddS_le _) (by rw [List.length_take]; omega)
    rw [hy] at hq2
    have hody : od (D.getD i 0) = sz y % 2 := by rw [hy]; rfl
    rw [hody] at hot
    have hcnt := size_rets hX y (by omega) g'
    have r1 : ((sz y : Nat) : Int).tmod 2 = ((sz y % 2 : Nat) : Int) := rfl
    generalize sz y = z at *
    generalize oddS (D.take i) = w at *
    simp +decide (disch := first | assumption | exact cellV_int _ _ | exact cellV_bool _ | omega | (simp only [GH.pn, GH.sn] <;> omega) | (with_reducible ((repeat (first | apply GH.ok_push | apply GH.ok_set)); assumption)) | ((try simp only [GH.push_hid, GH.set_hid]); first | assumption | (refine GH.vis ?_ ?_ <;> first | assumption | ((try simp only [GH.pn, GH.sn]) <;> omega)))) only [go_sem, ↓reduceIte, Nat.reduceEqDiff, Nat.reduceAdd, Int.reduceToNat, Int.reduceAdd, Int.reduceNeg, Int.reduceSub, Int.reduceMul, Int.reduceLT, Int.reduceLE, Int.reduceEq, ↓GH.gp_eq, ↓GH.gp_ne, ↓GH.gs_eq, ↓GH.gs_ne, GH.push_next, GH.set_next, he, hl, ci', hq1, hq2]
    refine CallD.calm hcnt ?_
    rintro u g3 hx3 rfl
    have hn3 := hx3.next
    have hk3 := hk.ext hx3
    simp +decide (disch := first | assumption | exact cellV_int _ _ | exact cellV_bool _ | omega | (simp only [GH.pn, GH.sn] <;> omega) | (with_reducible ((repeat (first | apply GH.ok_push | apply GH.ok_set)); assumption)) | ((try simp only [GH.push_hid, GH.set_hid]); first | assumption | (refine GH.vis ?_ ?_ <;> first | assumption | ((try simp only [GH.pn, GH.sn]) <;> omega)))) only [go_sem, ↓reduceIte, Nat.reduceEqDiff, Nat.reduceAdd, Int.reduceToNat, Int.reduceAdd, Int.reduceNeg, Int.reduceSub, Int.reduceMul, Int.reduceLT, Int.reduceLE, Int.reduceEq, ↓GH.gp_eq, ↓GH.gp_ne, ↓GH.gs_eq, ↓GH.gs_ne, GH.push_next, GH.set_next, he, r1]
    refine ih (m - 1) _ _ _ (by omega) ⟨hlo, hk3, i + 1, by omega, ?_⟩
    rw [hot]
    exact (by simp +decide (disch := first | assumption | (apply GH.ok_push; assumption) | exact cellV_int _ _ | exact cellV_bool _ | omega) only [go_sem, ↓reduceIte, Nat.reduceEqDiff, Nat.reduceAdd, Int.reduceToNat, he, r1]; first | done | exact rfl)
theorem okS_cases (L : List Int) (S : Int) : (okS L S = true ∧ ¬ S < 0 ∧ S < 2 ^ L.length) ∨ (okS L S = false ∧ S < 0) ∨ (okS L S = false ∧ ¬ S < 0 ∧ ¬ S < 2 ^ L.length) := by
  unfold okS
  by_cases a : S < 0
  · exact .inr (.inl ⟨by rw [decide_eq_false (by omega)]; rfl, a⟩)
  · by_cases b : S < 2 ^ L.length
    · exact .inl ⟨by rw [decide_eq_true (by omega), decide_eq_true b]; rfl, a, b⟩
    · exact .inr (.inr ⟨by rw [decide_eq_false b, Bool.and_false], a, b⟩)
theorem refOdd_rets {X : Caller} (hX : Xfr X) (L : List Int) (hL : L.length ≤ 40) (s : Value) (S : Int) (g : GH) (hs : SlR g s (ints L)) :
    Rets Tryd.prog X 38 [s, .int .i64 S] g (fun v g' lo => g.next ≤ lo ∧ v = .tuple #[.int .i64 (odA L S), .int .i64 (odE L S)]) := by
  have hl := hs.len
  rw [ints_len] at hl
  have hish := refIsShop_rets hX L hL s g hs
  generalize hr : Value.tuple #[.int .i64 (odA L S), .int .i64 (odE L S)] = r
  unfold odA odE at hr
  refine Rets.run hX.pres p38 (hX.free 38 (by decide) _ _) rfl fun ho => ?_
  simp +decide (disch := first | assumption | exact cellV_int _ _ | exact cellV_bool _ | omega | (simp only [GH.pn, GH.sn] <;> omega) | (with_reducible ((repeat (first | apply GH.ok_push | apply GH.ok_set)); assumption)) | ((try simp only [GH.push_hid, GH.set_hid]); first | assumption | (refine GH.vis ?_ ?_ <;> first | assumption | ((try simp only [GH.pn, GH.sn]) <;> omega)))) only [go_sem, ↓reduceIte, Nat.reduceEqDiff, Nat.reduceAdd, Int.reduceToNat, Int.reduceAdd, Int.reduceNeg, Int.reduceSub, Int.reduceMul, Int.reduceLT, Int.reduceLE, Int.reduceEq, ↓GH.gp_eq, ↓GH.gp_ne, ↓GH.gs_eq, ↓GH.gs_ne, GH.push_next, GH.set_next]
  refine CallD.calm hish ?_
  rintro v g1 hx1 rfl
  have hn1 := hx1.next
  cases hz : shopB L with
  | false =>
    simp +decide (disch := first | assumption | exact cellV_int _ _ | exact cellV_bool _ | omega | (simp only [GH.pn, GH.sn] <;> omega) | (with_reducible ((repeat (first | apply GH.ok_push | apply GH.ok_set)); assumption)) | ((try simp only [GH.push_hid, GH.set_hid]); first | assumption | (refine GH.vis ?_ ?_ <;> first | assumption | ((try simp only [GH.pn, GH.sn]) <;> omega)))) only [go_sem, ↓reduceIte, Nat.reduceEqDiff, Nat.reduceAdd, Int.reduceToNat, Int.reduceAdd, Int.reduceNeg, Int.reduceSub, Int.reduceMul, Int.reduceLT, Int.reduceLE, Int.reduceEq, ↓GH.gp_eq, ↓GH.gp_ne, ↓GH.gs_eq, ↓GH.gs_ne, GH.push_next, GH.set_next]
    intro hx0
    exact ⟨by omega, by rw [← hr, hz]; rfl⟩
  | true =>
  obtain ⟨hL1, hL10, hA⟩ := shop_ok hz
  have hsh := shl_i (k := L.length) (by omega)
  have e2 : ((2 ^ L.length : Nat) : Int) = 2 ^ L.length := by simp
  have hoc := okS_cases L S
  rw [← e2] at hoc
  rcases hoc with ⟨hk, h1, h2⟩ | ⟨hk, h1⟩ | ⟨hk, h1, h2⟩
  · obtain ⟨k, rfl, hkl⟩ := okS_nat hk
    have hod := odd65_rets hX L hz s k hkl g1 (hs.ext hx1)
    have h3 : ¬ ((2 ^ L.length : Nat) : Int) ≤ (k : Int) := by omega
    generalize 2 ^ L.length = N at *
    simp +decide (disch := first | assumption | exact cellV_int _ _ | exact cellV_bool _ | omega | (simp only [GH.pn, GH.sn] <;> omega) | (with_reducible ((repeat (first | apply GH.ok_push | apply GH.ok_set)); assumption)) | ((try simp only [GH.push_hid, GH.set_hid]); first | assumption | (refine GH.vis ?_ ?_ <;> first | assumption | ((try simp only [GH.pn, GH.sn]) <;> omega)))) only [go_sem, ↓reduceIte, Nat.reduceEqDiff, Nat.reduceAdd, Int.reduceToNat, Int.reduceAdd, Int.reduceNeg, Int.reduceSub, Int.reduceMul, Int.reduceLT, Int.reduceLE, Int.reduceEq, ↓GH.gp_eq, ↓GH.gp_ne, ↓GH.gs_eq, ↓GH.gs_ne, GH.push_next, GH.set_next, hl, h1, hsh, h3]
    refine CallD.calm hod ?_
    rintro v g3 hx3 rfl
    have hn3 := hx3.next
    simp +decide (disch := first | assumption | exact cellV_int _ _ | exact cellV_bool _ | omega | (simp only [GH.pn, GH.sn] <;> omega) | (with_reducible ((repeat (first | apply GH.ok_push | apply GH.ok_set)); assumption)) | ((try simp only [GH.push_hid, GH.set_hid]); first | assumption | (refine GH.vis ?_ ?_ <;> first | assumption | ((try simp only [GH.pn, GH.sn]) <;> omega)))) only [go_sem, ↓reduceIte, Nat.reduceEqDiff, Nat.reduceAdd, Int.reduceToNat, Int.reduceAdd, Int.reduceNeg, Int.reduceSub, Int.reduceMul, Int.reduceLT, Int.reduceLE, Int.reduceEq, ↓GH.gp_eq, ↓GH.gp_ne, ↓GH.gs_eq, ↓GH.gs_ne, GH.push_next, GH.set_next]
    intro hx0
    exact ⟨by omega, by rw [← hr, hz, hk]; rfl⟩
  · simp +decide (disch := first | assumption | exact cellV_int _ _ | exact cellV_bool _ | omega | (simp only [GH.pn, GH.sn] <;> omega) | (with_reducible ((repeat (first | apply GH.ok_push | apply GH.ok_set)); assumption)) | ((try simp only [GH.push_hid, GH.set_hid]); first | assumption | (refine GH.vis ?_ ?_ <;> first | assumption | ((try simp only [GH.pn, GH.sn]) <;> omega)))) only [go_sem, ↓reduceIte, Nat.reduceEqDiff, Nat.reduceAdd, Int.reduceToNat, Int.reduceAdd, Int.reduceNeg, Int.reduceSub, Int.reduceMul, Int.reduceLT, Int.reduceLE, Int.reduceEq, ↓GH.gp_eq, ↓GH.gp_ne, ↓GH.gs_eq, ↓GH.gs_ne, GH.push_next, GH.set_next, hl, h1, hsh]
    intro hx0
    exact ⟨by omega, by rw [← hr, hz, hk]; rfl⟩
  · have h3 : ((2 ^ L.length : Nat) : Int) ≤ S := by omega
    generalize 2 ^ L.length = N at *
    simp +decide (disch := first | assumption | exact cellV_int _ _ | exact cellV_bool _ | omega | (simp only [GH.pn, GH.sn] <;> omega) | (with_reducible ((repeat (first | apply GH.ok_push | apply GH.ok_set)); assumption)) | ((try simp only [GH.push_hid, GH.set_hid]); first | assumption | (refine GH.vis ?_ ?_ <;> first | assumption | ((try simp only [GH.pn, GH.sn]) <;> omega)))) only [go_sem, ↓reduceIte, Nat.reduceEqDiff, Nat.reduceAdd, Int.reduceToNat, Int.reduceAdd, Int.reduceNeg, Int.reduceSub, Int.reduceMul, Int.reduceLT, Int.reduceLE, Int.reduceEq, ↓GH.gp_eq, ↓GH.gp_ne, ↓GH.gs_eq, ↓GH.gs_ne, GH.push_next, GH.set_next, hl, h1, hsh, h3]
    intro hx0
    exact ⟨by omega, by rw [← hr, hz, hk]; rfl⟩
theorem refParts36_rets {X : Caller} (hX : Xfr X) (L : List Int) (hL : L.length ≤ 40) (s : Value) (S : Int) (g : GH) (hs : SlR g s (ints L)) :
    Rets Tryd.prog X 36 [s, .int .i64 S] g (fun v g' lo => g.next ≤ lo ∧ Kept g g' ∧ ∃ o R e, v = .tuple #[o, .int .i64 e] ∧ SlR g' o (ints R) ∧ PtOk L S R e) := by
  have hl := hs.len
  rw [ints_len] at hl
  have hno : (shopB L && okS L S) = false → PtOk L S [] 2 := fun h => ⟨fun h' => absurd (h.symm.trans h') (by decide), fun _ => ⟨rfl, rfl⟩⟩
  have hish := refIsShop_rets hX L hL s g hs
  refine Rets.run hX.pres p36 (hX.free 36 (by decide) _ _) rfl fun ho => ?_
  simp +decide (disch := first | assumption | exact cellV_int _ _ | exact cellV_bool _ | omega | (simp only [GH.pn, GH.sn] <;> omega) | (with_reducible ((repeat (first | apply GH.ok_push | apply GH.ok_set)); assumption)) | ((try simp only [GH.push_hid, GH.set_hid]); first | assumption | (refine GH.vis ?_ ?_ <;> first | assumption | ((try simp only [GH.pn, GH.sn]) <;> omega)))) only [go_sem, ↓reduceIte, Nat.reduceEqDiff, Nat.reduceAdd, Int.reduceToNat, Int.reduceAdd, Int.reduceNeg, Int.reduceSub, Int.reduceMul, Int.reduceLT, Int.reduceLE, Int.reduceEq, ↓GH.gp_eq, ↓GH.gp_ne, ↓GH.gs_eq, ↓GH.gs_ne, GH.push_next, GH.set_next]
  refine CallD.calm hish ?_
  rintro v g1 hx1 rfl
  have hn1 := hx1.next
  cases hz : shopB L with
  | false =>
    simp +decide (disch := first | assumption | exact cellV_int _ _ | exact cellV_bool _ | omega | (simp only [GH.pn, GH.sn] <;> omega) | (with_reducible ((repeat (first | apply GH.ok_push | apply GH.ok_set)); assumption)) | ((try simp only [GH.push_hid, GH.set_hid]); first | assumption | (refine GH.vis ?_ ?_ <;> first | assumption | ((try simp only [GH.pn, GH.sn]) <;> omega)))) only [go_sem, ↓reduceIte, Nat.reduceEqDiff, Nat.reduceAdd, Int.reduceToNat, Int.reduceAdd, Int.reduceNeg, Int.reduceSub, Int.reduceMul, Int.reduceLT, Int.reduceLE, Int.reduceEq, ↓GH.gp_eq, ↓GH.gp_ne, ↓GH.gs_eq, ↓GH.gs_ne, GH.push_next, GH.set_next]
    intro hx0
    exact ⟨by omega, hx1.kept, _, [], 2, rfl, .inl ⟨rfl, rfl⟩, hno (by rw [hz]; rfl)⟩
  | true =>
  obtain ⟨hL1, hL10, hA⟩ := shop_ok hz
  have hsh := shl_i (k := L.length) (by omega)
  have e2 : ((2 ^ L.length : Nat) : Int) = 2 ^ L.length := by simp
  have hoc := okS_cases L S
  rw [← e2] at hoc
  rcases hoc with ⟨hk, h1, h2⟩ | ⟨hk, h1⟩ | ⟨hk, h1, h2⟩
  · obtain ⟨k, rfl, hkl⟩ := okS_nat hk
    have hod := refParts_rets hX L hz s k hkl g1 (hs.ext hx1)
    have h3 : ¬ ((2 ^ L.length : Nat) : Int) ≤ (k : Int) := by omega
    generalize 2 ^ L.length = N at *
    simp +decide (disch := first | assumption | exact cellV_int _ _ | exact cellV_bool _ | omega | (simp only [GH.pn, GH.sn] <;> omega) | (with_reducible ((repeat (first | apply GH.ok_push | apply GH.ok_set)); assumption)) | ((try simp only [GH.push_hid, GH.set_hid]); first | assumption | (refine GH.vis ?_ ?_ <;> first | assumption | ((try simp only [GH.pn, GH.sn]) <;> omega)))) only [go_sem, ↓reduceIte, Nat.reduceEqDiff, Nat.reduceAdd, Int.reduceToNat, Int.reduceAdd, Int.reduceNeg, Int.reduceSub, Int.reduceMul, Int.reduceLT, Int.reduceLE, Int.reduceEq, ↓GH.gp_eq, ↓GH.gp_ne, ↓GH.gs_eq, ↓GH.gs_ne, GH.push_next, GH.set_next, hl, h1, hsh, h3]
    refine CallD.calm hod ?_
    rintro v g3 hx3 ⟨hok3, hk3, R, hrd, hsr, hp⟩
    have hn3 := hx3.next
    simp +decide (disch := first | assumption | exact cellV_int _ _ | exact cellV_bool _ | omega | (simp only [GH.pn, GH.sn] <;> omega) | (with_reducible ((repeat (first | apply GH.ok_push | apply GH.ok_set)); assumption)) | ((try simp only [GH.push_hid, GH.set_hid]); first | assumption | (refine GH.vis ?_ ?_ <;> first | assumption | ((try simp only [GH.pn, GH.sn]) <;> omega)))) only [go_sem, ↓reduceIte, Nat.reduceEqDiff, Nat.reduceAdd, Int.reduceToNat, Int.reduceAdd, Int.reduceNeg, Int.reduceSub, Int.reduceMul, Int.reduceLT, Int.reduceLE, Int.reduceEq, ↓GH.gp_eq, ↓GH.gp_ne, ↓GH.gs_eq, ↓GH.gs_ne, GH.push_next, GH.set_next]
    intro hx0
    exact ⟨by omega, hx1.kept.trans hk3, v, R, 0, rfl, hrd, ⟨fun _ => ⟨rfl, hsr, hp⟩, fun h => by rw [hz, hk] at h; cases h⟩⟩
  · simp +decide (disch := first | assumption | exact cellV_int _ _ | exact cellV_bool _ | omega | (simp only [GH.pn, GH.sn] <;> omega) | (with_reducible ((repeat (first | apply GH.ok_push | apply GH.ok_set)); assumption)) | ((try simp only [GH.push_hid, GH.set_hid]); first | assumption | (refine GH.vis ?_ ?_ <;> first | assumption | ((try simp only [GH.pn, GH.sn]) <;> omega)))) only [go_sem, ↓reduceIte, Nat.reduceEqDiff, Nat.reduceAdd, Int.reduceToNat, Int.reduceAdd, Int.reduceNeg, Int.reduceSub, Int.reduceMul, Int.reduceLT, Int.reduceLE, Int.reduceEq, ↓GH.gp_eq, ↓GH.gp_ne, ↓GH.gs_eq, ↓GH.gs_ne, GH.push_next, GH.set_next, hl, h1, hsh]
    intro hx0
    exact ⟨by omega, hx1.kept, _, [], 2, rfl, .inl ⟨rfl, rfl⟩, hno (by rw [hz, hk]; rfl)⟩
  · have h3 : ((2 ^ L.length : Nat) : Int) ≤ S := by omega
    generalize 2 ^ L.length = N at *
    simp +decide (disch := first | assumption | exact cellV_int _ _ | exact cellV_bool _ | omega | (simp only [GH.pn, GH.sn] <;> omega) | (with_reducible ((repeat (first | apply GH.ok_push | apply GH.ok_set)); assumption)) | ((try simp only [GH.push_hid, GH.set_hid]); first | assumption | (refine GH.vis ?_ ?_ <;> first | assumption | ((try simp only [GH.pn, GH.sn]) <;> omega)))) only [go_sem, ↓reduceIte, Nat.reduceEqDiff, Nat.reduceAdd, Int.reduceToNat, Int.reduceAdd, Int.reduceNeg, Int.reduceSub, Int.reduceMul, Int.reduceLT, Int.reduceLE, Int.reduceEq, ↓GH.gp_eq, ↓GH.gp_ne, ↓GH.gs_eq, ↓GH.gs_ne, GH.push_next, GH.set_next, hl, h1, hsh, h3]
    intro hx0
    exact ⟨by omega, hx1.kept, _, [], 2, rfl, .inl ⟨rfl, rfl⟩, hno (by rw [hz, hk]; rfl)⟩
theorem barF_one {f : Nat → Int} (h : 0 ≤ f 0) : barF f 1 = (0, f 0) := by
  show (if (barF f 0).2 < f 0 then _ else _) = _
  by_cases c : (barF f 0).2 < f 0
  · rw [if_pos c]
  · rw [if_neg c]
    have : f 0 = 0 := by
      have : (barF f 0).2 = 0 := rfl
      omega
    rw [this]; rfl
theorem sz_zero : sz 0 = 0 := by rw [sz_pc 0 0 (by decide)]; rfl
theorem refBarrier_rets {X : Caller} (hX : Xfr X) (L : List Int) (hL : L.length ≤ 40) (s : Value) (g : GH) (hs : SlR g s (ints L)) :
    Rets Tryd.prog X 40 [s] g (fun v g' lo => g.next ≤ lo ∧ v = .tuple #[.int .i64 ((barI L).1 : Nat), .int .i64 (barI L).2, .int .i64 (barE L)]) := by
  have hl := hs.len
  rw [ints_len] at hl
  have hish := refIsShop_rets hX L hL s g hs
  generalize hr : Value.tuple #[.int .i64 ((barI L).1 : Nat), .int .i64 (barI L).2, .int .i64 (barE L)] = r
  unfold barI barE at hr
  refine Rets.run hX.pres p40 (hX.free 40 (by decide) _ _) rfl fun ho => ?_
  simp +decide (disch := first | assumption | exact cellV_int _ _ | exact cellV_bool _ | omega | (simp only [GH.pn, GH.sn] <;> omega) | (with_reducible ((repeat (first | apply GH.ok_push | apply GH.ok_set)); assumption)) | ((try simp only [GH.push_hid, GH.set_hid]); first | assumption | (refine GH.vis ?_ ?_ <;> first | assumption | ((try simp only [GH.pn, GH.sn]) <;> omega)))) only [go_sem, ↓reduceIte, Nat.reduceEqDiff, Nat.reduceAdd, Int.reduceToNat, Int.reduceAdd, Int.reduceNeg, Int.reduceSub, Int.reduceMul, Int.reduceLT, Int.reduceLE, Int.reduceEq, ↓GH.gp_eq, ↓GH.gp_ne, ↓GH.gs_eq, ↓GH.gs_ne, GH.push_next, GH.set_next]
  refine CallD.calm hish ?_
  rintro v g1 hx1 rfl
  have hn1 := hx1.next
  cases hz : shopB L with
  | false =>
    simp +decide (disch := first | assumption | exact cellV_int _ _ | exact cellV_bool _ | omega | (simp only [GH.pn, GH.sn] <;> omega) | (with_reducible ((repeat (first | apply GH.ok_push | apply GH.ok_set)); assumption)) | ((try simp only [GH.push_hid, GH.set_hid]); first | assumption | (refine GH.vis ?_ ?_ <;> first | assumption | ((try simp only [GH.pn, GH.sn]) <;> omega)))) only [go_sem, ↓reduceIte, Nat.reduceEqDiff, Nat.reduceAdd, Int.reduceToNat, Int.reduceAdd, Int.reduceNeg, Int.reduceSub, Int.reduceMul, Int.reduceLT, Int.reduceLE, Int.reduceEq, ↓GH.gp_eq, ↓GH.gp_ne, ↓GH.gs_eq, ↓GH.gs_ne, GH.push_next, GH.set_next]
    intro hx0
    exact ⟨by omega, by rw [← hr, hz]; rfl⟩
  | true =>
  obtain ⟨hL1, hL10, hA⟩ := shop_ok hz
  rw [hz, if_pos rfl, if_pos rfl] at hr
  have hN : 2 ^ L.length ≤ 1024 := Nat.pow_le_pow_right (by decide) hL10
  have hN1 := Nat.two_pow_pos L.length
  have hsh := shl_i (k := L.length) (by omega)
  have hod := fun S (hS : S < 2 ^ L.length) G (hk : Kept g G) => odd65_rets hX L hz s S hS G (hs.kept hk)
  have hpl := fun S => Nat.le_trans (oddS_le (partsOf L S)) (partsOf_len L S)
  have hszl := fun S (hS : S < 2 ^ L.length) => sz_le hS
  have hmf : ∀ S, moreF L S = (oddS (partsOf L S) : Int) - (sz S : Int) := fun _ => rfl
  have hf0 : moreF L 0 = (oddS (partsOf L 0) : Nat) := by rw [hmf, sz_zero]; simp
  have hb1 := barF_one (f := moreF L) (by rw [hf0]; omega)
  rw [hf0] at hb1
  have h0 := hod 0 hN1 g1 hx1.kept
  generalize moreF L = f at *
  generalize hN' : 2 ^ L.length = N at *
  simp +decide (disch := first | assumption | exact cellV_int _ _ | exact cellV_bool _ | omega | (simp only [GH.pn, GH.sn] <;> omega) | (with_reducible ((repeat (first | apply GH.ok_push | apply GH.ok_set)); assumption)) | ((try simp only [GH.push_hid, GH.set_hid]); first | assumption | (refine GH.vis ?_ ?_ <;> first | assumption | ((try simp only [GH.pn, GH.sn]) <;> omega)))) only [go_sem, ↓reduceIte, Nat.reduceEqDiff, Nat.reduceAdd, Int.reduceToNat, Int.reduceAdd, Int.reduceNeg, Int.reduceSub, Int.reduceMul, Int.reduceLT, Int.reduceLE, Int.reduceEq, ↓GH.gp_eq, ↓GH.gp_ne, ↓GH.gs_eq, ↓GH.gs_ne, GH.push_next, GH.set_next]
  refine CallD.calm h0 ?_
  rintro v g2 hx2 rfl
  have hn2 := hx2.next
  have hk2 := hx1.kept.ext hx2
  simp +decide (disch := first | assumption | exact cellV_int _ _ | exact cellV_bool _ | omega | (simp only [GH.pn, GH.sn] <;> omega) | (with_reducible ((repeat (first | apply GH.ok_push | apply GH.ok_set)); assumption)) | ((try simp only [GH.push_hid, GH.set_hid]); first | assumption | (refine GH.vis ?_ ?_ <;> first | assumption | ((try simp only [GH.pn, GH.sn]) <;> omega)))) only [go_sem, ↓reduceIte, Nat.reduceEqDiff, Nat.reduceAdd, Int.reduceToNat, Int.reduceAdd, Int.reduceNeg, Int.reduceSub, Int.reduceMul, Int.reduceLT, Int.reduceLE, Int.reduceEq, ↓GH.gp_eq, ↓GH.gp_ne, ↓GH.gs_eq, ↓GH.gs_ne, GH.push_next, GH.set_next]
  refine Wk.loops (fun m e g' lo => g.next ≤ lo ∧ Kept g g' ∧ ∃ S : Nat, S + m = N ∧ 1 ≤ S ∧ (ev e (.s 0) = s ∧ ev e (.s 7) = .int .i64 (S : Int) ∧ ev e (.s 5) = .int .i64 ((barF f S).1 : Nat) ∧ ev e (.s 6) = .int .i64 (barF f S).2))
    (fun e g' lo => g.next ≤ lo ∧ (ev e (.s 5) = .int .i64 ((barF f N).1 : Nat) ∧ ev e (.s 6) = .int .i64 (barF f N).2)) (n := N - 1) ?_ ?_ ?_
  · refine ⟨by omega, hk2, 1, by omega, by omega, ?_⟩
    rw [hb1]
    exact (by simp +decide (disch := first | assumption | (apply GH.ok_push; assumption) | exact cellV_int _ _ | exact cellV_bool _ | omega) only [go_sem, ↓reduceIte, Nat.reduceEqDiff, Nat.reduceAdd, Int.reduceToNat]; first | done | exact rfl)
  · rintro e g' lo - - ⟨hlo, he⟩
    simp +decide (disch := first | assumption | exact cellV_int _ _ | exact cellV_bool _ | omega | (simp only [GH.pn, GH.sn] <;> omega) | (with_reducible ((repeat (first | apply GH.ok_push | apply GH.ok_set)); assumption)) | ((try simp only [GH.push_hid, GH.set_hid]); first | assumption | (refine GH.vis ?_ ?_ <;> first | assumption | ((try simp only [GH.pn, GH.sn]) <;> omega)))) only [go_sem, ↓reduceIte, Nat.reduceEqDiff, Nat.reduceAdd, Int.reduceToNat, Int.reduceAdd, Int.reduceNeg, Int.reduceSub, Int.reduceMul, Int.reduceLT, Int.reduceLE, Int.reduceEq, ↓GH.gp_eq, ↓GH.gp_ne, ↓GH.gs_eq, ↓GH.gs_ne, GH.push_next, GH.set_next, he]
    intro hx0
    exact ⟨hlo, hr⟩
  · rintro m e g' lo ho' hl' ih out ⟨hlo, hk, S, hSm, hS1, he⟩
    have hkn := hk.next
    by_cases ci : S < N
    case neg =>
      have ci' : ¬ (S : Int) < N := by omega
      simp +decide (disch := first | assumption | exact cellV_int _ _ | exact cellV_bool _ | omega | (simp only [GH.pn, GH.sn] <;> omega) | (with_reducible ((repeat (first | apply GH.ok_push | apply GH.ok_set)); assumption)) | ((try simp only [GH.push_hid, GH.set_hid]); first | assumption | (refine GH.vis ?_ ?_ <;> first | assumption | ((try simp only [GH.pn, GH.sn]) <;> omega)))) only [go_sem, ↓reduceIte, Nat.reduceEqDiff, Nat.reduceAdd, Int.reduceToNat, Int.reduceAdd, Int.reduceNeg, Int.reduceSub, Int.reduceMul, Int.reduceLT, Int.reduceLE, Int.reduceEq, ↓GH.gp_eq, ↓GH.gp_ne, ↓GH.gs_eq, ↓GH.gs_ne, GH.push_next, GH.set_next, he, hl, hsh, ci']
      have : S = N := by omega
      subst this
      exact out _ _ _ ⟨hlo, (by simp +decide (disch := first | assumption | (apply GH.ok_push; assumption) | exact cellV_int _ _ | exact cellV_bool _ | omega) only [go_sem, ↓reduceIte, Nat.reduceEqDiff, Nat.reduceAdd, Int.reduceToNat, he]; first | done | exact rfl)⟩
    have ci' : (S : Int) < N := by omega
    have h1 := hod S ci g' hk
    have h2 := hpl S
    have h3 := hszl S ci
    have h4 := hmf S
    have h5 : barF f (S + 1) = if (barF f S).2 < f S then (S, f S) else barF f S := rfl
    have hcn := fun G => size_rets hX S (by omega) G
    generalize oddS (partsOf L S) = od at *
    generalize sz S = z at *
    generalize f S = fs at *
    generalize barF f S = b at *
    obtain ⟨b1, b2⟩ := b
    dsimp only at he h5
    simp +decide (disch := first | assumption | exact cellV_int _ _ | exact cellV_bool _ | omega | (simp only [GH.pn, GH.sn] <;> omega) | (with_reducible ((repeat (first | apply GH.ok_push | apply GH.ok_set)); assumption)) | ((try simp only [GH.push_hid, GH.set_hid]); first | assumption | (refine GH.vis ?_ ?_ <;> first | assumption | ((try simp only [GH.pn, GH.sn]) <;> omega)))) only [go_sem, ↓reduceIte, Nat.reduceEqDiff, Nat.reduceAdd, Int.reduceToNat, Int.reduceAdd, Int.reduceNeg, Int.reduceSub, Int.reduceMul, Int.reduceLT, Int.reduceLE, Int.reduceEq, ↓GH.gp_eq, ↓GH.gp_ne, ↓GH.gs_eq, ↓GH.gs_ne, GH.push_next, GH.set_next, he, hl, hsh, ci']
    refine CallD.calm h1 ?_
    rintro v g3 hx3 rfl
    have hn3 := hx3.next
    have hk3 := hk.ext hx3
    simp +decide (disch := first | assumption | exact cellV_int _ _ | exact cellV_bool _ | omega | (simp only [GH.pn, GH.sn] <;> omega) | (with_reducible ((repeat (first | apply GH.ok_push | apply GH.ok_set)); assumption)) | ((try simp only [GH.push_hid, GH.set_hid]); first | assumption | (refine GH.vis ?_ ?_ <;> first | assumption | ((try simp only [GH.pn, GH.sn]) <;> omega)))) only [go_sem, ↓reduceIte, Nat.reduceEqDiff, Nat.reduceAdd, Int.reduceToNat, Int.reduceAdd, Int.reduceNeg, Int.reduceSub, Int.reduceMul, Int.reduceLT, Int.reduceLE, Int.reduceEq, ↓GH.gp_eq, ↓GH.gp_ne, ↓GH.gs_eq, ↓GH.gs_ne, GH.push_next, GH.set_next, he]
    refine CallD.calm (hcn g3) ?_
    rintro v g4 hx4 rfl
    have hn4 := hx4.next
    have hk4 := hk3.ext hx4
    have hsub : (od : Int) - (z : Int) = fs := h4.symm
    by_cases c : b2 < fs
    · rw [if_pos c] at h5
      simp +decide (disch := first | assumption | exact cellV_int _ _ | exact cellV_bool _ | omega | (simp only [GH.pn, GH.sn] <;> omega) | (with_reducible ((repeat (first | apply GH.ok_push | apply GH.ok_set)); assumption)) | ((try simp only [GH.push_hid, GH.set_hid]); first | assumption | (refine GH.vis ?_ ?_ <;> first | assumption | ((try simp only [GH.pn, GH.sn]) <;> omega)))) only [go_sem, ↓reduceIte, Nat.reduceEqDiff, Nat.reduceAdd, Int.reduceToNat, Int.reduceAdd, Int.reduceNeg, Int.reduceSub, Int.reduceMul, Int.reduceLT, Int.reduceLE, Int.reduceEq, ↓GH.gp_eq, ↓GH.gp_ne, ↓GH.gs_eq, ↓GH.gs_ne, GH.push_next, GH.set_next, he, hsub, c]
      refine ih (m - 1) _ _ _ (by omega) ⟨hlo, hk4, S + 1, by omega, by omega, ?_⟩
      rw [h5]
      exact (by simp +decide (disch := first | assumption | (apply GH.ok_push; assumption) | exact cellV_int _ _ | exact cellV_bool _ | omega) only [go_sem, ↓reduceIte, Nat.reduceEqDiff, Nat.reduceAdd, Int.reduceToNat, he]; first | done | exact rfl)
    · rw [if_neg c] at h5
      simp +decide (disch := first | assumption | exact cellV_int _ _ | exact cellV_bool _ | omega | (simp only [GH.pn, GH.sn] <;> omega) | (with_reducible ((repeat (first | apply GH.ok_push | apply GH.ok_set)); assumption)) | ((try simp only [GH.push_hid, GH.set_hid]); first | assumption | (refine GH.vis ?_ ?_ <;> first | assumption | ((try simp only [GH.pn, GH.sn]) <;> omega)))) only [go_sem, ↓reduceIte, Nat.reduceEqDiff, Nat.reduceAdd, Int.reduceToNat, Int.reduceAdd, Int.reduceNeg, Int.reduceSub, Int.reduceMul, Int.reduceLT, Int.reduceLE, Int.reduceEq, ↓GH.gp_eq, ↓GH.gp_ne, ↓GH.gs_eq, ↓GH.gs_ne, GH.push_next, GH.set_next, he, hsub, c]
      refine ih (m - 1) _ _ _ (by omega) ⟨hlo, hk4, S + 1, by omega, by omega, ?_⟩
      rw [h5]
      exact (by simp +decide (disch := first | assumption | (apply GH.ok_push; assumption) | exact cellV_int _ _ | exact cellV_bool _ | omega) only [go_sem, ↓reduceIte, Nat.reduceEqDiff, Nat.reduceAdd, Int.reduceToNat, he]; first | done | exact rfl)
end Go.Proofs.YtnpapnpedcbfnaaDoor
set_option maxRecDepth 100000
set_option maxHeartbeats 4000000
set_option linter.unusedSimpArgs false
set_option linter.unusedVariables false
namespace Go.Proofs.YtnpapnpedcbfnaaDoor
open Go.Ds Go.Vs
theorem ex30 (a b c : Value) : extF (.tuple #[a, b, c]) 0 = some a := Eq.trans rfl rfl
theorem ex31 (a b c : Value) : extF (.tuple #[a, b, c]) 1 = some b := Eq.trans rfl rfl
theorem ex32 (a b c : Value) : extF (.tuple #[a, b, c]) 2 = some c := Eq.trans rfl rfl
/-! ## The law Parts -/
theorem partsLaw_rets {X : Caller} (hX : Xok X) (L : List Int) (s : Value) (S : Int) (g : GH) (hT : HasTab g) (hs : SlR g s (ints L)) :
    Rets Tryd.prog X 7 [s, .int .i64 S] g (fun u g' lo => g.next ≤ lo ∧ u = .bool true) := by
  have hl := hs.len
  rw [ints_len] at hl
  have hfew := fun g => few_rets hX.toXfr s (.slice none 0 0) _ 0 hl rfl g
  refine Rets.run hX.pres p7 (hX.free 7 (by decide) _ _) rfl fun ho => ?_
  simp +decide (disch := first | assumption | exact cellV_int _ _ | exact cellV_bool _ | omega | (simp only [GH.pn, GH.sn] <;> omega) | (with_reducible ((repeat (first | apply GH.ok_push | apply GH.ok_set)); assumption)) | ((try simp only [GH.push_hid, GH.set_hid]); first | assumption | (refine GH.vis ?_ ?_ <;> first | assumption | ((try simp only [GH.pn, GH.sn]) <;> omega)))) only [go_sem, ↓reduceIte, Nat.reduceEqDiff, Nat.reduceAdd, Int.reduceToNat, Int.reduceAdd, Int.reduceNeg, Int.reduceSub, Int.reduceMul, Int.reduceLT, Int.reduceLE, Int.reduceEq, ↓GH.gp_eq, ↓GH.gp_ne, ↓GH.gs_eq, ↓GH.gs_ne, GH.push_next, GH.set_next]
  refine CallD.calm (hfew g) ?_
  rintro u g1 hx1 rfl
  have hn1 := hx1.next
  have hT1 := hT.ext hx1
  cases hf : (decide (L.length ≤ 40) && decide (0 ≤ 40)) with
  | false =>
    simp +decide (disch := first | assumption | exact cellV_int _ _ | exact cellV_bool _ | omega | (simp only [GH.pn, GH.sn] <;> omega) | (with_reducible ((repeat (first | apply GH.ok_push | apply GH.ok_set)); assumption)) | ((try simp only [GH.push_hid, GH.set_hid]); first | assumption | (refine GH.vis ?_ ?_ <;> first | assumption | ((try simp only [GH.pn, GH.sn]) <;> omega)))) only [go_sem, ↓reduceIte, Nat.reduceEqDiff, Nat.reduceAdd, Int.reduceToNat, Int.reduceAdd, Int.reduceNeg, Int.reduceSub, Int.reduceMul, Int.reduceLT, Int.reduceLE, Int.reduceEq, ↓GH.gp_eq, ↓GH.gp_ne, ↓GH.gs_eq, ↓GH.gs_ne, GH.push_next, GH.set_next]
    refine CallD.calm (hX.alive g1 hT1) ?_
    rintro u g2 hx2 rfl
    have hn2 := hx2.next
    simp +decide (disch := first | assumption | exact cellV_int _ _ | exact cellV_bool _ | omega | (simp only [GH.pn, GH.sn] <;> omega) | (with_reducible ((repeat (first | apply GH.ok_push | apply GH.ok_set)); assumption)) | ((try simp only [GH.push_hid, GH.set_hid]); first | assumption | (refine GH.vis ?_ ?_ <;> first | assumption | ((try simp only [GH.pn, GH.sn]) <;> omega)))) only [go_sem, ↓reduceIte, Nat.reduceEqDiff, Nat.reduceAdd, Int.reduceToNat, Int.reduceAdd, Int.reduceNeg, Int.reduceSub, Int.reduceMul, Int.reduceLT, Int.reduceLE, Int.reduceEq, ↓GH.gp_eq, ↓GH.gp_ne, ↓GH.gs_eq, ↓GH.gs_ne, GH.push_next, GH.set_next]
    intro hx0
    exact ⟨by omega, rfl⟩
  | true =>
  rw [Bool.and_eq_true, decide_eq_true_eq, decide_eq_true_eq] at hf
  have w1 := fun (G : GH) (hk : Kept g G) => Parts_rets hX.toXfr L hf.1 s S G (hs.kept hk)
  have w2 := fun (G : GH) (hk : Kept g G) => refParts36_rets hX.toXfr L hf.1 s S G (hs.kept hk)
  have m1 := fun (G : GH) (hk : Kept g G) => Odd_rets hX.toXfr L hf.1 s S G (hs.kept hk)
  have m2 := fun (G : GH) (hk : Kept g G) => refOdd_rets hX.toXfr L hf.1 s S G (hs.kept hk)
  have n1 := fun (G : GH) (hk : Kept g G) => Barrier_rets hX.toXfr L hf.1 s G (hs.kept hk)
  have n2 := fun (G : GH) (hk : Kept g G) => refBarrier_rets hX.toXfr L hf.1 s G (hs.kept hk)
  generalize odA L S = oa at *
  generalize odE L S = oe at *
  generalize barE L = be at *
  generalize barI L = bi at *
  obtain ⟨b1, b2⟩ := bi
  dsimp only at n1 n2
  have hk1 : Kept g g1 := hx1.kept
  simp +decide (disch := first | assumption | exact cellV_int _ _ | exact cellV_bool _ | omega | (simp only [GH.pn, GH.sn] <;> omega) | (with_reducible ((repeat (first | apply GH.ok_push | apply GH.ok_set)); assumption)) | ((try simp only [GH.push_hid, GH.set_hid]); first | assumption | (refine GH.vis ?_ ?_ <;> first | assumption | ((try simp only [GH.pn, GH.sn]) <;> omega)))) only [go_sem, ↓reduceIte, Nat.reduceEqDiff, Nat.reduceAdd, Int.reduceToNat, Int.reduceAdd, Int.reduceNeg, Int.reduceSub, Int.reduceMul, Int.reduceLT, Int.reduceLE, Int.reduceEq, ↓GH.gp_eq, ↓GH.gp_ne, ↓GH.gs_eq, ↓GH.gs_ne, GH.push_next, GH.set_next]
  refine CallD.calm (w1 g1 hk1) ?_
  rintro u g2 hx2 ⟨hk2', o1, R, e1, rfl, ho1, hp1⟩
  have hn2 := hx2.next
  have hk2 : Kept g g2 := hk1.trans hk2'
  simp +decide (disch := first | assumption | exact cellV_int _ _ | exact cellV_bool _ | omega | (simp only [GH.pn, GH.sn] <;> omega) | (with_reducible ((repeat (first | apply GH.ok_push | apply GH.ok_set)); assumption)) | ((try simp only [GH.push_hid, GH.set_hid]); first | assumption | (refine GH.vis ?_ ?_ <;> first | assumption | ((try simp only [GH.pn, GH.sn]) <;> omega)))) only [go_sem, ↓reduceIte, Nat.reduceEqDiff, Nat.reduceAdd, Int.reduceToNat, Int.reduceAdd, Int.reduceNeg, Int.reduceSub, Int.reduceMul, Int.reduceLT, Int.reduceLE, Int.reduceEq, ↓GH.gp_eq, ↓GH.gp_ne, ↓GH.gs_eq, ↓GH.gs_ne, GH.push_next, GH.set_next, ex20, ex21]
  refine CallD.calm (w2 g2 hk2) ?_
  rintro u g3 hx3 ⟨hk3', o2, R', e2, rfl, ho2, hp2⟩
  have hn3 := hx3.next
  have hk3 : Kept g g3 := hk2.trans hk3'
  obtain ⟨rfl, rfl⟩ := hp1.same hp2
  have hRl := hp1.len hf.1
  simp +decide (disch := first | assumption | exact cellV_int _ _ | exact cellV_bool _ | omega | (simp only [GH.pn, GH.sn] <;> omega) | (with_reducible ((repeat (first | apply GH.ok_push | apply GH.ok_set)); assumption)) | ((try simp only [GH.push_hid, GH.set_hid]); first | assumption | (refine GH.vis ?_ ?_ <;> first | assumption | ((try simp only [GH.pn, GH.sn]) <;> omega)))) only [go_sem, ↓reduceIte, Nat.reduceEqDiff, Nat.reduceAdd, Int.reduceToNat, Int.reduceAdd, Int.reduceNeg, Int.reduceSub, Int.reduceMul, Int.reduceLT, Int.reduceLE, Int.reduceEq, ↓GH.gp_eq, ↓GH.gp_ne, ↓GH.gs_eq, ↓GH.gs_ne, GH.push_next, GH.set_next, ex20, ex21]
  refine CallD.calm (sameR_rets hX.toXfr R (by omega) o1 o2 g3 (ho1.kept hk3') ho2) ?_
  rintro u g4 hx4 rfl
  have hn4 := hx4.next
  have hk4 : Kept g g4 := hk3.ext hx4
  simp +decide (disch := first | assumption | exact cellV_int _ _ | exact cellV_bool _ | omega | (simp only [GH.pn, GH.sn] <;> omega) | (with_reducible ((repeat (first | apply GH.ok_push | apply GH.ok_set)); assumption)) | ((try simp only [GH.push_hid, GH.set_hid]); first | assumption | (refine GH.vis ?_ ?_ <;> first | assumption | ((try simp only [GH.pn, GH.sn]) <;> omega)))) only [go_sem, ↓reduceIte, Nat.reduceEqDiff, Nat.reduceAdd, Int.reduceToNat, Int.reduceAdd, Int.reduceNeg, Int.reduceSub, Int.reduceMul, Int.reduceLT, Int.reduceLE, Int.reduceEq, ↓GH.gp_eq, ↓GH.gp_ne, ↓GH.gs_eq, ↓GH.gs_ne, GH.push_next, GH.set_next]
  refine CallD.calm (m1 g4 hk4) ?_
  rintro u g5 hx5 rfl
  have hn5 := hx5.next
  have hk5 : Kept g g5 := hk4.ext hx5
  simp +decide (disch := first | assumption | exact cellV_int _ _ | exact cellV_bool _ | omega | (simp only [GH.pn, GH.sn] <;> omega) | (with_reducible ((repeat (first | apply GH.ok_push | apply GH.ok_set)); assumption)) | ((try simp only [GH.push_hid, GH.set_hid]); first | assumption | (refine GH.vis ?_ ?_ <;> first | assumption | ((try simp only [GH.pn, GH.sn]) <;> omega)))) only [go_sem, ↓reduceIte, Nat.reduceEqDiff, Nat.reduceAdd, Int.reduceToNat, Int.reduceAdd, Int.reduceNeg, Int.reduceSub, Int.reduceMul, Int.reduceLT, Int.reduceLE, Int.reduceEq, ↓GH.gp_eq, ↓GH.gp_ne, ↓GH.gs_eq, ↓GH.gs_ne, GH.push_next, GH.set_next, ex20, ex21]
  refine CallD.calm (m2 g5 hk5) ?_
  rintro u g6 hx6 rfl
  have hn6 := hx6.next
  have hk6 : Kept g g6 := hk5.ext hx6
  simp +decide (disch := first | assumption | exact cellV_int _ _ | exact cellV_bool _ | omega | (simp only [GH.pn, GH.sn] <;> omega) | (with_reducible ((repeat (first | apply GH.ok_push | apply GH.ok_set)); assumption)) | ((try simp only [GH.push_hid, GH.set_hid]); first | assumption | (refine GH.vis ?_ ?_ <;> first | assumption | ((try simp only [GH.pn, GH.sn]) <;> omega)))) only [go_sem, ↓reduceIte, Nat.reduceEqDiff, Nat.reduceAdd, Int.reduceToNat, Int.reduceAdd, Int.reduceNeg, Int.reduceSub, Int.reduceMul, Int.reduceLT, Int.reduceLE, Int.reduceEq, ↓GH.gp_eq, ↓GH.gp_ne, ↓GH.gs_eq, ↓GH.gs_ne, GH.push_next, GH.set_next, ex20, ex21]
  refine CallD.calm (n1 g6 hk6) ?_
  rintro u g7 hx7 rfl
  have hn7 := hx7.next
  have hk7 : Kept g g7 := hk6.ext hx7
  simp +decide (disch := first | assumption | exact cellV_int _ _ | exact cellV_bool _ | omega | (simp only [GH.pn, GH.sn] <;> omega) | (with_reducible ((repeat (first | apply GH.ok_push | apply GH.ok_set)); assumption)) | ((try simp only [GH.push_hid, GH.set_hid]); first | assumption | (refine GH.vis ?_ ?_ <;> first | assumption | ((try simp only [GH.pn, GH.sn]) <;> omega)))) only [go_sem, ↓reduceIte, Nat.reduceEqDiff, Nat.reduceAdd, Int.reduceToNat, Int.reduceAdd, Int.reduceNeg, Int.reduceSub, Int.reduceMul, Int.reduceLT, Int.reduceLE, Int.reduceEq, ↓GH.gp_eq, ↓GH.gp_ne, ↓GH.gs_eq, ↓GH.gs_ne, GH.push_next, GH.set_next, ex30, ex31, ex32]
  refine CallD.calm (n2 g7 hk7) ?_
  rintro u g8 hx8 rfl
  have hn8 := hx8.next
  have hk8 : Kept g g8 := hk7.ext hx8
  simp +decide (disch := first | assumption | exact cellV_int _ _ | exact cellV_bool _ | omega | (simp only [GH.pn, GH.sn] <;> omega) | (with_reducible ((repeat (first | apply GH.ok_push | apply GH.ok_set)); assumption)) | ((try simp only [GH.push_hid, GH.set_hid]); first | assumption | (refine GH.vis ?_ ?_ <;> first | assumption | ((try simp only [GH.pn, GH.sn]) <;> omega)))) only [go_sem, ↓reduceIte, Nat.reduceEqDiff, Nat.reduceAdd, Int.reduceToNat, Int.reduceAdd, Int.reduceNeg, Int.reduceSub, Int.reduceMul, Int.reduceLT, Int.reduceLE, Int.reduceEq, ↓GH.gp_eq, ↓GH.gp_ne, ↓GH.gs_eq, ↓GH.gs_ne, GH.push_next, GH.set_next, ex30, ex31, ex32]
  refine CallD.calm (hX.alive g8 (hT.kept hk8)) ?_
  rintro u g9 hx9 rfl
  have hn9 := hx9.next
  simp +decide (disch := first | assumption | exact cellV_int _ _ | exact cellV_bool _ | omega | (simp only [GH.pn, GH.sn] <;> omega) | (with_reducible ((repeat (first | apply GH.ok_push | apply GH.ok_set)); assumption)) | ((try simp only [GH.push_hid, GH.set_hid]); first | assumption | (refine GH.vis ?_ ?_ <;> first | assumption | ((try simp only [GH.pn, GH.sn]) <;> omega)))) only [go_sem, ↓reduceIte, Nat.reduceEqDiff, Nat.reduceAdd, Int.reduceToNat, Int.reduceAdd, Int.reduceNeg, Int.reduceSub, Int.reduceMul, Int.reduceLT, Int.reduceLE, Int.reduceEq, ↓GH.gp_eq, ↓GH.gp_ne, ↓GH.gs_eq, ↓GH.gs_ne, GH.push_next, GH.set_next]
  intro hx0
  exact ⟨by omega, rfl⟩
end Go.Proofs.YtnpapnpedcbfnaaDoor
