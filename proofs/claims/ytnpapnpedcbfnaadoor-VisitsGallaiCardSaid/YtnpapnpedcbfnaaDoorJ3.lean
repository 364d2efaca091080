import Derived.Test.YtnpapnpedcbfnaaDoorJ2
import Derived.Test.YtnpapnpedcbfnaaDoorJ1
import Derived.Test.YtnpapnpedcbfnaaDoorVm
import Derived.Test.YtnpapnpedcbfnaaDoorKc
import Derived.Test.YtnpapnpedcbfnaaDoorDtO
set_option linter.all false
set_option linter.unusedSimpArgs false
set_option linter.unnecessarySimpa false
set_option linter.unusedVariables false
set_option linter.unusedSectionVars false
set_option linter.unusedVariables false
namespace Go.Proofs.YtnpapnpedcbfnaaDoor
open Go.Vs
/-! ## Pairs that are a matching -/
theorem scan_mat {L : List Int} : ∀ (P : List (Int × Int)) (last : Int) (tk s : Nat), -1 ≤ last → (∀ j, s.testBit j = (decide (j < L.length) && decide (last < (j : Int)) && !tk.testBit j)) → scanM L P last tk = true → ∃ Q, P = toI Q ∧ mat (setF L) s Q = true
  | [], last, tk, s, _, _, _ => ⟨[], rfl, rfl⟩
  | (x, y) :: P, last, tk, s, hl, hs, h => by
    have h : (goodP L last tk x y && scanM L P x (tk ||| 2 ^ x.toNat ||| 2 ^ y.toNat)) = true := h
    rw [Bool.and_eq_true] at h
    obtain ⟨h1, h2⟩ := h
    unfold goodP at h1
    simp only [Bool.and_eq_true, decide_eq_true_eq, Bool.not_eq_true'] at h1
    obtain ⟨⟨⟨⟨⟨q1, q2⟩, q3⟩, q4⟩, q5⟩, q6⟩ := h1
    obtain ⟨a, rfl⟩ : ∃ a : Nat, x = a := ⟨x.toNat, by omega⟩
    obtain ⟨b, rfl⟩ : ∃ b : Nat, y = b := ⟨y.toNat, by omega⟩
    simp only [Int.toNat_natCast] at q4 q5 q6 h2
    obtain ⟨Q, hQ, hm⟩ := scan_mat P a (tk ||| 2 ^ a ||| 2 ^ b) (del (up s a) b) (by omega) (fun j => by
      rw [del_bit, up_bit, hs, Nat.testBit_or, Nat.testBit_or]
      by_cases c1 : j < L.length
      · by_cases c2 : a < j
        · have e1 : (2 ^ a).testBit j = false := Nat.testBit_two_pow_of_ne (by omega)
          rw [decide_eq_true c1, decide_eq_true (p := last < (j : Int)) (by omega), decide_eq_true c2, decide_eq_true (p := (a : Int) < j) (by omega), e1]
          by_cases c3 : j = b
          · subst c3; rw [Nat.testBit_two_pow_self]; simp
          · rw [Nat.testBit_two_pow_of_ne (Ne.symm c3)]; simp [c3]
        · rw [decide_eq_false c2, decide_eq_false (p := (a : Int) < j) (by omega)]; simp
      · rw [decide_eq_false c1]; simp) h2
    refine ⟨(a, b) :: Q, by rw [hQ]; rfl, mat_mk (by omega) ?_ ?_ q4 hm⟩
    · rw [hs, q5, decide_eq_true (p := a < L.length) (by omega), decide_eq_true (p := last < (a : Int)) (by omega)]; rfl
    · rw [hs, q6, decide_eq_true (p := b < L.length) (by omega), decide_eq_true (p := last < (b : Int)) (by omega)]; rfl
theorem matI_mat {L : List Int} {P : List (Int × Int)} (h : matI L P = true) : ∃ Q, P = toI Q ∧ mat (setF L) (allN L.length) Q = true :=
  scan_mat P (-1) 0 (allN L.length) (by omega) (fun j => by
    rw [all_bit, decide_eq_true (p := (-1 : Int) < (j : Int)) (by omega)]
    simp) h
theorem all_lt (n : Nat) : allN n < 2 ^ n := by unfold allN; have := Nat.two_pow_pos n; omega
end Go.Proofs.YtnpapnpedcbfnaaDoor
set_option linter.unusedVariables false
namespace Go.Proofs.YtnpapnpedcbfnaaDoor
open Go.Vs
/-! ## How many members -/
def pc (n : Nat) (p : Nat → Bool) : Nat := (List.range n).countP p
theorem pc_more {p q : Nat → Bool} {n k : Nat} (hk : k < n) (hq : q k = true) (hp : p k = false) (h : ∀ j, p j = true → q j = true) : pc n p + 1 ≤ pc n q := by
  have h1 := countP_one (p := fun j => p j || decide (j = k)) (q := p) (k := k) (by simp) hp (fun j hj => by simp [hj]) n hk
  have h2 : (List.range n).countP (fun j => p j || decide (j = k)) ≤ (List.range n).countP q := by
    refine List.countP_mono_left fun j hj hh => ?_
    rw [Bool.or_eq_true, decide_eq_true_eq] at hh
    rcases hh with hh | hh
    · exact h j hh
    · rw [hh]; exact hq
  unfold pc
  omega
theorem pc_le {p q : Nat → Bool} {n : Nat} (h : ∀ j, j < n → p j = true → q j = true) : pc n p ≤ pc n q :=
  List.countP_mono_left fun j hj hh => h j (List.mem_range.1 hj) hh
theorem pc_or (n s k : Nat) : pc n (s ||| 2 ^ k).testBit ≤ pc n s.testBit + 1 := by
  by_cases c : k < n ∧ s.testBit k = false
  · have := countP_one (p := (s ||| 2 ^ k).testBit) (q := s.testBit) (k := k) (by rw [Nat.testBit_or, Nat.testBit_two_pow_self]; simp) c.2 (fun j hj => by rw [Nat.testBit_or, Nat.testBit_two_pow_of_ne (Ne.symm hj), Bool.or_false]) n c.1
    unfold pc
    omega
  · have : pc n (s ||| 2 ^ k).testBit ≤ pc n s.testBit := pc_le fun j hj hh => by
      rw [Nat.testBit_or, Bool.or_eq_true] at hh
      rcases hh with hh | hh
      · exact hh
      · by_cases cj : j = k
        · subst cj
          cases h : s.testBit j with
          | true => rfl
          | false => exact absurd ⟨hj, h⟩ c
        · rw [Nat.testBit_two_pow_of_ne (Ne.symm cj)] at hh; cases hh
    omega
def sz (s : Nat) : Nat := if h : s = 0 then 0 else s % 2 + sz (s / 2)
termination_by s
decreasing_by omega
theorem sz_pc : ∀ n s, s < 2 ^ n → sz s = pc n s.testBit
  | 0, s, h => by
    obtain rfl : s = 0 := by simpa using h
    unfold sz; rfl
  | n + 1, s, h => by
    have h2 : s / 2 < 2 ^ n := by rw [Nat.pow_succ] at h; omega
    have ih := sz_pc n (s / 2) h2
    have e : pc (n + 1) s.testBit = s % 2 + pc n (s / 2).testBit := by
      unfold pc
      rw [List.range_succ_eq_map, List.countP_cons, List.countP_map]
      have e1 : s.testBit ∘ Nat.succ = (s / 2).testBit := by
        funext j
        show s.testBit (j + 1) = _
        rw [Nat.testBit_succ]
      rw [e1, Nat.testBit_zero]
      by_cases c : s % 2 = 1
      · simp [c]; omega
      · simp [c]; omega
    unfold sz
    split
    · rename_i h0
      subst h0
      rw [e]
      have : sz 0 = 0 := by unfold sz; rfl
      rw [← ih, Nat.zero_div, this]
    · rw [e, ih]
/-! ## Covers -/
def covB (A : Nat → Nat) (S i : Nat) : Bool := S.testBit i || decide (andn (A i) S = 0)
theorem cov_adj {A : Nat → Nat} {n S a b : Nat} (hn : n ≤ 10) (hS : S < 2 ^ n) (hA : A a < 2 ^ n) (h : covB A S a = true) (hab : (A a).testBit b = true) : S.testBit a = true ∨ S.testBit b = true := by
  unfold covB at h
  rw [Bool.or_eq_true, decide_eq_true_eq] at h
  rcases h with h | h
  · exact .inl h
  · have hb := bit_lt hA hab
    have h2 : 2 ^ n ≤ 1024 := Nat.pow_le_pow_right (by decide) hn
    have := andn_bit (a := A a) (b := S) (k := b) (by omega) (by omega)
    rw [h, Nat.zero_testBit, hab, Bool.true_and] at this
    right
    simpa using this.symm
theorem cov_le {A : Nat → Nat} {n S : Nat} (hn : n ≤ 10) (hS : S < 2 ^ n) (hA : ∀ i, i < n → A i < 2 ^ n) (h : ∀ i, i < n → covB A S i = true) : ∀ (P : List (Nat × Nat)) (t : Nat), t < 2 ^ n → mat A t P = true → P.length ≤ pc n (fun j => S.testBit j && t.testBit j)
  | [], t, _, _ => Nat.zero_le _
  | (a, b) :: P, t, ht, hm => by
    obtain ⟨h1, h2, h3, h4, h5⟩ := mat_cons hm
    have ha := bit_lt ht h2
    have hb := bit_lt ht h3
    have hlt : del (up t a) b < 2 ^ n := by
      apply Nat.lt_pow_two_of_testBit
      intro j hj
      rw [del_bit, up_bit]
      have := Nat.testBit_lt_two_pow (Nat.lt_of_lt_of_le ht (Nat.pow_le_pow_right (by decide) hj))
      rw [this]; rfl
    have ih := cov_le hn hS hA h P (del (up t a) b) hlt h5
    have key : ∀ k, k < n → S.testBit k = true → t.testBit k = true → (del (up t a) b).testBit k = false → P.length + 1 ≤ pc n (fun j => S.testBit j && t.testBit j) := fun k hk q1 q2 q3 => by
      have := pc_more (p := fun j => S.testBit j && (del (up t a) b).testBit j) (q := fun j => S.testBit j && t.testBit j) (n := n) hk (by simp [q1, q2]) (by simp [q3]) (fun j hj => by
        rw [Bool.and_eq_true, del_bit, up_bit, Bool.and_eq_true, Bool.and_eq_true] at hj
        rw [hj.1, hj.2.1.1]; rfl)
      omega
    rw [List.length_cons]
    rcases cov_adj hn hS (hA a ha) (h a ha) h4 with q | q
    · exact key a ha q h2 (by rw [del_bit, up_bit]; simp)
    · exact key b hb q h3 (by rw [del_bit]; simp)
theorem cov_lrg {A : Nat → Nat} {n S : Nat} (hn : n ≤ 10) (hS : S < 2 ^ n) (hA : ∀ i, i < n → A i < 2 ^ n) (h : ∀ i, i < n → covB A S i = true) : (lrg A n (allN n)).length ≤ sz S := by
  have h1 := cov_le hn hS hA h _ (allN n) (all_lt n) (lrg_mat A n (allN n))
  rw [sz_pc n S hS]
  refine Nat.le_trans h1 (pc_le fun j hj hh => ?_)
  rw [Bool.and_eq_true] at hh
  exact hh.1
/-! ## What pairs have -/
theorem tkn_pc (n : Nat) : ∀ (P : List (Int × Int)) (tk : Nat), pc n (tkn P tk).testBit ≤ pc n tk.testBit + 2 * P.length
  | [], tk => by show pc n tk.testBit ≤ _; omega
  | (a, b) :: P, tk => by
    have h1 := tkn_pc n P (tk ||| 2 ^ a.toNat ||| 2 ^ b.toNat)
    have h2 := pc_or n tk a.toNat
    have h3 := pc_or n (tk ||| 2 ^ a.toNat) b.toNat
    show pc n (tkn P (tk ||| 2 ^ a.toNat ||| 2 ^ b.toNat)).testBit ≤ _
    rw [List.length_cons]
    omega
theorem mat_mem {A : Nat → Nat} : ∀ (Q : List (Nat × Nat)) {s : Nat}, mat A s Q = true → ∀ q ∈ Q, s.testBit q.1 = true ∧ s.testBit q.2 = true
  | [], _, _, q, h => by cases h
  | (a, b) :: Q, s, hm, q, h => by
    obtain ⟨h1, h2, h3, h4, h5⟩ := mat_cons hm
    rcases List.mem_cons.1 h with rfl | h
    · exact ⟨h2, h3⟩
    · obtain ⟨q1, q2⟩ := mat_mem Q h5 q h
      rw [del_bit, up_bit, Bool.and_eq_true, Bool.and_eq_true] at q1 q2
      exact ⟨q1.1.1, q2.1.1⟩
theorem tkn_lt (n : Nat) : ∀ (Q : List (Nat × Nat)) (tk : Nat), tk < 2 ^ n → (∀ q ∈ Q, q.1 < n ∧ q.2 < n) → tkn (toI Q) tk < 2 ^ n
  | [], tk, h, _ => h
  | (a, b) :: Q, tk, h, hq => by
    have h1 := hq (a, b) (by simp)
    exact tkn_lt n Q _ (or_lt (or_lt h h1.1) h1.2) fun q hm => hq q (List.mem_cons_of_mem _ hm)
theorem tkn_sz {n : Nat} {Q : List (Nat × Nat)} (hq : ∀ q ∈ Q, q.1 < n ∧ q.2 < n) : sz (tkn (toI Q) 0) ≤ 2 * Q.length := by
  rw [sz_pc n _ (tkn_lt n Q 0 (Nat.two_pow_pos n) hq)]
  have := tkn_pc n (toI Q) 0
  have h0 : pc n (0 : Nat).testBit = 0 := by
    unfold pc
    rw [List.countP_eq_zero]
    intro j _
    simp
  have e : (toI Q).length = Q.length := by simp [toI]
  omega
end Go.Proofs.YtnpapnpedcbfnaaDoor
set_option linter.unusedVariables false
namespace Go.Proofs.YtnpapnpedcbfnaaDoor
open Go.Vs
/-! ## A hat less -/
theorem mat_del {A : Nat → Nat} (i : Nat) : ∀ (P : List (Nat × Nat)) (s : Nat), mat A s P = true → ∃ Q, mat A (del s i) Q = true ∧ P.length ≤ Q.length + 1
  | [], s, _ => ⟨[], rfl, by simp⟩
  | (a, b) :: P, s, hm => by
    obtain ⟨h1, h2, h3, h4, h5⟩ := mat_cons hm
    have hsub : ∀ j, (del (up s a) b).testBit j = true → j ≠ i → (del s i).testBit j = true := fun j hj hne => by
      rw [del_bit, up_bit, Bool.and_eq_true, Bool.and_eq_true] at hj
      rw [del_bit, hj.1.1]; simp [hne]
    by_cases ca : a = i
    · subst ca
      refine ⟨P, mat_mono P (fun j hj => hsub j hj ?_) h5, by simp⟩
      rintro rfl
      rw [del_bit, up_bit] at hj
      simp at hj
    by_cases cb : b = i
    · subst cb
      refine ⟨P, mat_mono P (fun j hj => hsub j hj ?_) h5, by simp⟩
      rintro rfl
      rw [del_bit] at hj
      simp at hj
    obtain ⟨Q, hq, hl⟩ := mat_del i P _ h5
    refine ⟨(a, b) :: Q, mat_mk h1 ?_ ?_ h4 (mat_mono Q (fun j hj => ?_) hq), by rw [List.length_cons, List.length_cons]; omega⟩
    · rw [del_bit, h2]; simp [ca]
    · rw [del_bit, h3]; simp [cb]
    · rw [del_bit, del_bit, up_bit] at hj
      rw [del_bit, up_bit, del_bit]
      simp only [Bool.and_eq_true] at hj ⊢
      exact ⟨⟨⟨hj.1.1.1, hj.2⟩, hj.1.1.2⟩, hj.1.2⟩
theorem best_del_le (A : Nat → Nat) (n i : Nat) {s : Nat} (hs : s < 2 ^ n) : best A n (del s i) ≤ best A n s := by
  rw [← lrg_len A n (del s i)]
  exact mat_le s hs _ (mat_mono _ (fun j hj => by rw [del_bit, Bool.and_eq_true] at hj; exact hj.1) (lrg_mat A n (del s i)))
theorem best_del_ge (A : Nat → Nat) (n i : Nat) {s : Nat} (hs : s < 2 ^ n) : best A n s ≤ best A n (del s i) + 1 := by
  obtain ⟨Q, hq, hl⟩ := mat_del i _ s (lrg_mat A n s)
  have := mat_le (n := n) (del s i) (del_lt hs) Q hq
  rw [lrg_len] at hl
  omega
/-! ## Renumbered without one hat -/
def dn (i k : Nat) : Nat := if k < i then k else k - 1
def upx (i k : Nat) : Nat := if k < i then k else k + 1
theorem upx_ne (i k : Nat) : upx i k ≠ i := by unfold upx; split <;> omega
theorem dn_upx (i k : Nat) : dn i (upx i k) = k := by
  unfold dn upx
  by_cases h1 : k < i
  · simp [h1]
  · have h2 : ¬ k + 1 < i := by omega
    simp [h1, h2]
theorem upx_dn {i k : Nat} (h : k ≠ i) : upx i (dn i k) = k := by
  unfold dn upx
  by_cases h1 : k < i
  · simp [h1]
  · have h2 : ¬ k - 1 < i := by omega
    rw [if_neg h1, if_neg h2]; omega
theorem dn_lt {i a b : Nat} (ha : a ≠ i) (hb : b ≠ i) (h : a < b) : dn i a < dn i b := by unfold dn; split <;> split <;> omega
theorem upx_lt {i a b : Nat} (h : a < b) : upx i a < upx i b := by unfold upx; split <;> split <;> omega
/-- The sets t and s are one, but for the numbers. -/
def Sq (i s t : Nat) : Prop := s.testBit i = false ∧ ∀ k, t.testBit k = s.testBit (upx i k)
theorem Sq.step {i s t a b : Nat} (h : Sq i s t) (ha : a ≠ i) (hb : b ≠ i) : Sq i (del (up s a) b) (del (up t (dn i a)) (dn i b)) := by
  refine ⟨by rw [del_bit, up_bit, h.1]; rfl, fun k => ?_⟩
  rw [del_bit, up_bit, del_bit, up_bit, h.2]
  have e1 : decide (dn i a < k) = decide (a < upx i k) := decide_eq_decide.2 (by
    unfold dn upx
    by_cases h1 : a < i <;> by_cases h2 : k < i <;> simp only [h1, h2, if_true, if_false] <;> omega)
  have e2 : decide (k = dn i b) = decide (upx i k = b) := decide_eq_decide.2 (by
    unfold dn upx
    by_cases h1 : b < i <;> by_cases h2 : k < i <;> simp only [h1, h2, if_true, if_false] <;> omega)
  rw [e1, e2]
theorem mat_down {A B : Nat → Nat} {i : Nat} (hAB : ∀ a, a ≠ i → ∀ b, b ≠ i → (A a).testBit b = (B (dn i a)).testBit (dn i b)) : ∀ (P : List (Nat × Nat)) (s t : Nat), Sq i s t → mat A s P = true → mat B t (P.map fun q => (dn i q.1, dn i q.2)) = true
  | [], _, _, _, _ => rfl
  | (a, b) :: P, s, t, hq, hm => by
    obtain ⟨h1, h2, h3, h4, h5⟩ := mat_cons hm
    have ha : a ≠ i := by rintro rfl; rw [hq.1] at h2; cases h2
    have hb : b ≠ i := by rintro rfl; rw [hq.1] at h3; cases h3
    exact mat_mk (dn_lt ha hb h1) (by rw [hq.2, upx_dn ha]; exact h2) (by rw [hq.2, upx_dn hb]; exact h3) (by rw [← hAB a ha b hb]; exact h4) (mat_down hAB P _ _ (hq.step ha hb) h5)
theorem mat_upx {A B : Nat → Nat} {i : Nat} (hAB : ∀ a, a ≠ i → ∀ b, b ≠ i → (A a).testBit b = (B (dn i a)).testBit (dn i b)) : ∀ (P : List (Nat × Nat)) (s t : Nat), Sq i s t → mat B t P = true → mat A s (P.map fun q => (upx i q.1, upx i q.2)) = true
  | [], _, _, _, _ => rfl
  | (a, b) :: P, s, t, hq, hm => by
    obtain ⟨h1, h2, h3, h4, h5⟩ := mat_cons hm
    have hst := hq.step (upx_ne i a) (upx_ne i b)
    rw [dn_upx, dn_upx] at hst
    refine mat_mk (upx_lt h1) (by rw [← hq.2]; exact h2) (by rw [← hq.2]; exact h3) ?_ (mat_upx hAB P _ _ hst h5)
    rw [hAB _ (upx_ne i a) _ (upx_ne i b), dn_upx, dn_upx]
    exact h4
theorem best_sq {A B : Nat → Nat} {i n m s t : Nat} (hAB : ∀ a, a ≠ i → ∀ b, b ≠ i → (A a).testBit b = (B (dn i a)).testBit (dn i b)) (hs : s < 2 ^ n) (ht : t < 2 ^ m) (hq : Sq i s t) : best A n s = best B m t := by
  have h1 := mat_le t ht _ (mat_down hAB _ s t hq (lrg_mat A n s))
  have h2 := mat_le s hs _ (mat_upx hAB _ s t hq (lrg_mat B m t))
  rw [List.length_map, lrg_len] at h1 h2
  omega
end Go.Proofs.YtnpapnpedcbfnaaDoor
set_option linter.unusedVariables false
namespace Go.Proofs.YtnpapnpedcbfnaaDoor
open Go.Vs
/-! ## A shop without one hat -/
def posF (i k : Nat) : Nat := if k ≤ i then k else k - 1
theorem pos_dn {i k : Nat} (h : k ≠ i) : posF i k = dn i k := by
  unfold posF dn
  by_cases c : k < i
  · rw [if_pos (by omega), if_pos c]
  · rw [if_neg (by omega), if_neg c]
theorem pos_at (i : Nat) : posF i (i + 1) = posF i i := by
  unfold posF
  rw [if_neg (by omega), if_pos (Nat.le_refl _)]; rfl
theorem pos_next {i k : Nat} (h : k ≠ i) : posF i (k + 1) = posF i k + 1 := by
  unfold posF
  by_cases c : k < i
  · rw [if_pos (by omega), if_pos (by omega)]
  · rw [if_neg (by omega), if_neg (by omega)]; omega
theorem pos_le (i k : Nat) : posF i k ≤ k := by
  unfold posF; split <;> omega
def sqF (x i : Nat) : Nat → Nat
  | 0 => 0
  | k + 1 => if k = i then sqF x i k else if x.testBit k = true then sqF x i k + 2 ^ posF i k else sqF x i k
theorem sqF_lt (x i : Nat) : ∀ k, sqF x i k < 2 ^ posF i k
  | 0 => by unfold sqF; exact Nat.two_pow_pos _
  | k + 1 => by
    have ih := sqF_lt x i k
    unfold sqF
    by_cases c : k = i
    · subst c; rw [if_pos rfl, pos_at]; exact ih
    · rw [if_neg c, pos_next c, Nat.pow_succ]
      split <;> omega
theorem sqF_bit (x i j : Nat) : ∀ k, (sqF x i k).testBit j = (decide (upx i j < k) && x.testBit (upx i j))
  | 0 => by unfold sqF; simp
  | k + 1 => by
    have ih := sqF_bit x i j k
    have hl := sqF_lt x i k
    have hu := upx_ne i j
    unfold sqF
    by_cases c : k = i
    · subst c
      rw [if_pos rfl, ih, show decide (upx k j < k + 1) = decide (upx k j < k) from decide_eq_decide.2 (by omega)]
    · rw [if_neg c]
      have hd : upx i (dn i k) = k := upx_dn c
      cases cb : x.testBit k with
      | true =>
        rw [if_pos rfl]
        have e := Nat.two_pow_add_eq_or_of_lt hl 1
        rw [Nat.mul_one] at e
        rw [Nat.add_comm, e, Nat.testBit_or, Nat.testBit_two_pow, ih, pos_dn c]
        by_cases cj : dn i k = j
        · rw [decide_eq_true cj, ← cj, hd, cb, decide_eq_true (Nat.lt_succ_self k)]; rfl
        · have : upx i j ≠ k := fun h => cj (by rw [← h, dn_upx])
          rw [decide_eq_false cj, Bool.false_or, show decide (upx i j < k + 1) = decide (upx i j < k) from decide_eq_decide.2 (by omega)]
      | false =>
        rw [if_neg (by simp), ih]
        by_cases cj : upx i j = k
        · rw [cj, cb, Bool.and_false, Bool.and_false]
        · rw [show decide (upx i j < k + 1) = decide (upx i j < k) from decide_eq_decide.2 (by omega)]
/-- The first rows of the shop without the hat i. -/
def sqT (L : List Int) (i m : Nat) : List Int := (List.range m).map fun a => (sqF (setF L (upx i a)) i L.length : Int)
theorem sqT_len (L : List Int) (i m : Nat) : (sqT L i m).length = m := by simp [sqT]
theorem sqT_next (L : List Int) {i k : Nat} (h : k ≠ i) : sqT L i (posF i (k + 1)) = sqT L i (posF i k) ++ [(sqF (setF L k) i L.length : Int)] := by
  rw [pos_next h, sqT, List.range_succ, List.map_append, List.map_singleton, pos_dn h, upx_dn h]
  rfl
theorem sqT_set (L : List Int) {i m a : Nat} (ha : a < m) : setF (sqT L i m) a = sqF (setF L (upx i a)) i L.length := by
  show (List.getD (sqT L i m) a 0).toNat = _
  simp [sqT, ha]
theorem sqT_out (L : List Int) {i m a : Nat} (ha : m ≤ a) : setF (sqT L i m) a = 0 := by
  unfold setF sqT
  simp [ha]
theorem setF_out (L : List Int) {a : Nat} (ha : L.length ≤ a) : setF L a = 0 := by
  unfold setF
  simp [ha]
theorem upx_bound {i n a : Nat} (hi : i < n) : upx i a < n ↔ a < n - 1 := by
  unfold upx; split <;> omega
theorem dn_bound {i n a : Nat} (hi : i < n) (ha : a ≠ i) : dn i a < n - 1 ↔ a < n := by
  unfold dn; split <;> omega
theorem sq_shop {L : List Int} (h : shopB L = true) {i : Nat} (hi : i < L.length) (h2 : 2 ≤ L.length) : shopB (sqT L i (L.length - 1)) = true := by
  obtain ⟨hL1, hL10, hA⟩ := shop_ok h
  have hrow : ∀ a, a < L.length - 1 → (sqT L i (L.length - 1)).getD a 0 = (sqF (setF L (upx i a)) i L.length : Int) := fun a ha => by
    unfold sqT; simp [ha]
  have hpos : posF i L.length = L.length - 1 := by unfold posF; rw [if_neg (by omega)]
  unfold shopB
  rw [sqT_len]
  simp only [Bool.and_eq_true, decide_eq_true_eq, List.all_eq_true, List.mem_range]
  refine ⟨⟨by omega, by omega⟩, fun a ha => ?_, fun a ha => ?_⟩
  · have hl := sqF_lt (setF L (upx i a)) i L.length
    rw [hpos] at hl
    have hua := (upx_bound (a := a) hi).2 ha
    unfold okI
    rw [sqT_len, hrow a ha, bitI_nat, sqF_bit, (hA _ hua).2.2.1, Bool.and_false]
    have e2 : ((2 ^ (L.length - 1) : Nat) : Int) = 2 ^ (L.length - 1) := by simp
    rw [decide_eq_true (by omega), ← e2, decide_eq_true (Int.ofNat_lt.2 hl)]
    rfl
  · unfold symI
    rw [sqT_len, List.all_eq_true]
    intro b hb
    rw [List.mem_range] at hb
    rw [hrow a ha, hrow b hb, bitI_nat, bitI_nat, sqF_bit, sqF_bit]
    have hua := (upx_bound (a := a) hi).2 ha
    have hub := (upx_bound (a := b) hi).2 hb
    rw [decide_eq_true hua, decide_eq_true hub, (hA _ hua).2.2.2 _ hub]
    simp
theorem sq_best {L : List Int} (h : shopB L = true) {i : Nat} (hi : i < L.length) (h2 : 2 ≤ L.length) : best (setF L) L.length (del (allN L.length) i) = best (setF (sqT L i (L.length - 1))) (L.length - 1) (allN (L.length - 1)) := by
  obtain ⟨hL1, hL10, hA⟩ := shop_ok h
  have hlt : ∀ m, allN m < 2 ^ m := fun m => by unfold allN; have := Nat.two_pow_pos m; omega
  refine best_sq (i := i) (fun a ha b hb => ?_) (del_lt (hlt _)) (hlt _) ⟨by rw [del_bit]; simp, fun k => ?_⟩
  · by_cases ca : a < L.length
    · rw [sqT_set L ((dn_bound hi ha).2 ca), upx_dn ha, sqF_bit, upx_dn hb]
      by_cases cb : b < L.length
      · rw [decide_eq_true cb, Bool.true_and]
      · rw [decide_eq_false cb, Bool.false_and]
        exact Nat.testBit_lt_two_pow (Nat.lt_of_lt_of_le (hA a ca).2.1 (Nat.pow_le_pow_right (by decide) (by omega)))
    · have hn := mt (dn_bound hi ha).1 ca
      rw [setF_out L (by omega), sqT_out L (by omega), Nat.zero_testBit, Nat.zero_testBit]
  · rw [all_bit, del_bit, all_bit]
    have h1 := upx_ne i k
    have h3 := upx_bound (a := k) hi
    by_cases c : k < L.length - 1
    · rw [decide_eq_true c, decide_eq_true (h3.2 c)]; simp [h1]
    · rw [decide_eq_false c, decide_eq_false (mt h3.1 c)]; rfl
/-! ## Which hats are needed -/
def needF (A : Nat → Nat) (n : Nat) : Nat → Nat
  | 0 => 0
  | i + 1 => if best A n (del (allN n) i) < best A n (allN n) then needF A n i ||| 2 ^ i else needF A n i
theorem needF_lt (A : Nat → Nat) (n : Nat) : ∀ i, needF A n i < 2 ^ i
  | 0 => by unfold needF; decide
  | i + 1 => by
    have ih := needF_lt A n i
    unfold needF
    have hp : 2 ^ (i + 1) = 2 ^ i + 2 ^ i := by rw [Nat.pow_succ]; omega
    split
    · exact Nat.or_lt_two_pow (by omega) (by have := Nat.two_pow_pos i; omega)
    · omega
theorem needF_bit (A : Nat → Nat) (n j : Nat) : ∀ i, (needF A n i).testBit j = (decide (j < i) && decide (best A n (del (allN n) j) < best A n (allN n)))
  | 0 => by unfold needF; simp
  | i + 1 => by
    have ih := needF_bit A n j i
    unfold needF
    by_cases c : best A n (del (allN n) i) < best A n (allN n)
    · rw [if_pos c, Nat.testBit_or, Nat.testBit_two_pow, ih]
      by_cases cj : i = j
      · subst cj; rw [decide_eq_true (Nat.lt_succ_self i), decide_eq_true c]; simp
      · rw [decide_eq_false cj, Bool.or_false, show decide (j < i + 1) = decide (j < i) from decide_eq_decide.2 (by omega)]
    · rw [if_neg c, ih]
      by_cases cj : i = j
      · subst cj; rw [decide_eq_false c]; simp
      · rw [show decide (j < i + 1) = decide (j < i) from decide_eq_decide.2 (by omega)]
end Go.Proofs.YtnpapnpedcbfnaaDoor
set_option linter.unusedVariables false
namespace Go.Vs
/-! ## A game on fewer hats -/
theorem won_iso {A B : Nat → Nat} {n m : Nat} {q : Nat → Bool} {rk : Nat → Nat} (h1 : ∀ k, k < n → q k = true → rk k < m) (h2 : ∀ k j, k < n → j < n → q k = true → q j = true → rk k = rk j → k = j)
    (h3 : ∀ k', k' < m → ∃ k, k < n ∧ q k = true ∧ rk k = k') (h4 : ∀ k j, k < n → j < n → q k = true → q j = true → (B (rk k)).testBit (rk j) = (A k).testBit j) :
    ∀ (u w l t : Nat), un n w = u → l < n → q l = true → (∀ j, j < n → q j = false → w.testBit j = true) → (∀ k, k < n → q k = true → t.testBit (rk k) = w.testBit k) → won A n w l = won B m t (rk l) := by
  intro u
  induction u using Nat.strongRecOn with
  | ind u ih =>
  intro w l t hu hl hql hw ht
  have key : ∀ k, k < n → q k = true → w.testBit k = false → won A n (w ||| 2 ^ k) k = won B m (t ||| 2 ^ rk k) (rk k) := fun k hk hq hb => by
    have hp := un_pos hk hb
    refine ih (un n (w ||| 2 ^ k)) (by omega) _ k _ rfl hk hq (fun j hj hqj => ?_) (fun j hj hqj => ?_)
    · rw [Nat.testBit_or, hw j hj hqj]; rfl
    · rw [Nat.testBit_or, Nat.testBit_or, ht j hj hqj, Nat.testBit_two_pow, Nat.testBit_two_pow]
      congr 1
      exact decide_eq_decide.2 ⟨fun h => h2 k j hk hj hq hqj h, fun h => by rw [h]⟩
  have hgood : ∀ k, k < n → q k = true → good A n w l k = good B m t (rk l) (rk k) := fun k hk hq => by
    unfold good
    rw [h4 l k hl hk hql hq, ht k hk hq]
    cases hb : w.testBit k with
    | true => simp
    | false => rw [key k hk hq hb]
  rw [won_eq, won_eq, Bool.eq_iff_iff, List.any_eq_true, List.any_eq_true]
  constructor
  · rintro ⟨k, hk, hg⟩
    have hk := List.mem_range.1 hk
    cases hq : q k with
    | true => exact ⟨rk k, List.mem_range.2 (h1 k hk hq), by rw [← hgood k hk hq]; exact hg⟩
    | false =>
      exfalso
      unfold good at hg
      rw [hw k hk hq] at hg
      simp at hg
  · rintro ⟨k', hk', hg⟩
    obtain ⟨k, hk, hq, rfl⟩ := h3 k' (List.mem_range.1 hk')
    exact ⟨k, List.mem_range.2 hk, by rw [hgood k hk hq]; exact hg⟩
/-! ## How many are kept below -/
def rkF (q : Nat → Bool) : Nat → Nat
  | 0 => 0
  | k + 1 => if q k = true then rkF q k + 1 else rkF q k
theorem rk_mono (q : Nat → Bool) {k j : Nat} (h : k ≤ j) : rkF q k ≤ rkF q j := by
  induction j with
  | zero => rw [show k = 0 by omega]; exact Nat.le_refl _
  | succ j ih =>
    by_cases c : k = j + 1
    · rw [c]; exact Nat.le_refl _
    · have := ih (by omega)
      show _ ≤ (if q j = true then rkF q j + 1 else rkF q j)
      split <;> omega
theorem rk_lt (q : Nat → Bool) {k j : Nat} (h : k < j) (hq : q k = true) : rkF q k < rkF q j := by
  have h1 := rk_mono q (show k + 1 ≤ j from h)
  have h2 : rkF q (k + 1) = rkF q k + 1 := by show (if q k = true then _ else _) = _; rw [if_pos hq]
  omega
theorem rk_inj (q : Nat → Bool) {k j : Nat} (hk : q k = true) (hj : q j = true) (h : rkF q k = rkF q j) : k = j := by
  rcases Nat.lt_trichotomy k j with c | c | c
  · have := rk_lt q c hk; omega
  · exact c
  · have := rk_lt q c hj; omega
theorem rk_onto (q : Nat → Bool) : ∀ n k', k' < rkF q n → ∃ k, k < n ∧ q k = true ∧ rkF q k = k'
  | 0, k', h => by simp [rkF] at h
  | n + 1, k', h => by
    unfold rkF at h
    by_cases c : k' < rkF q n
    · obtain ⟨k, h1, h2⟩ := rk_onto q n k' c
      exact ⟨k, by omega, h2⟩
    · cases hq : q n with
      | true => rw [if_pos hq] at h; exact ⟨n, by omega, hq, by omega⟩
      | false => rw [if_neg (by simp [hq])] at h; omega
theorem rk_le (q : Nat → Bool) : ∀ k, rkF q k ≤ k
  | 0 => Nat.le_refl _
  | k + 1 => by
    have := rk_le q k
    unfold rkF
    split <;> omega
/-- A row without those that are not kept. -/
def rowG (q : Nat → Bool) (x : Nat) : Nat → Nat
  | 0 => 0
  | k + 1 => if q k = true then (if x.testBit k = true then rowG q x k + 2 ^ rkF q k else rowG q x k) else rowG q x k
theorem rowG_lt (q : Nat → Bool) (x : Nat) : ∀ k, rowG q x k < 2 ^ rkF q k
  | 0 => by unfold rowG; exact Nat.two_pow_pos _
  | k + 1 => by
    have ih := rowG_lt q x k
    have e : rkF q (k + 1) = if q k = true then rkF q k + 1 else rkF q k := rfl
    rw [e]
    unfold rowG
    cases hq : q k with
    | false => rw [if_neg (by simp), if_neg (by simp)]; exact ih
    | true =>
      rw [if_pos rfl, if_pos rfl, Nat.pow_succ]
      split <;> omega
theorem rowG_bit (q : Nat → Bool) (x : Nat) {j : Nat} (hj : q j = true) : ∀ k, (rowG q x k).testBit (rkF q j) = (decide (j < k) && x.testBit j)
  | 0 => by unfold rowG; simp
  | k + 1 => by
    have ih := rowG_bit q x hj k
    have hl := rowG_lt q x k
    unfold rowG
    cases hq : q k with
    | false =>
      have : j ≠ k := by rintro rfl; rw [hq] at hj; cases hj
      rw [if_neg (by simp), ih, show decide (j < k + 1) = decide (j < k) from decide_eq_decide.2 (by omega)]
    | true =>
      rw [if_pos rfl]
      by_cases c : j = k
      · subst c
        cases hb : x.testBit j with
        | false => rw [if_neg (by simp), ih, hb]; simp
        | true =>
          rw [if_pos rfl]
          have e := Nat.two_pow_add_eq_or_of_lt hl 1
          rw [Nat.mul_one] at e
          rw [Nat.add_comm, e, Nat.testBit_or, Nat.testBit_two_pow]
          simp
      · have hne : ¬ rkF q k = rkF q j := fun h => c (rk_inj q hj hq h.symm)
        rw [show decide (j < k + 1) = decide (j < k) from decide_eq_decide.2 (by omega)]
        split
        · have e := Nat.two_pow_add_eq_or_of_lt hl 1
          rw [Nat.mul_one] at e
          rw [Nat.add_comm, e, Nat.testBit_or, Nat.testBit_two_pow, decide_eq_false hne, Bool.false_or, ih]
        · exact ih
end Go.Vs
namespace Go.Proofs.YtnpapnpedcbfnaaDoor
open Go.Vs
/-- The rows that are kept, of the first k. -/
def smT (q : Nat → Bool) (L : List Int) : Nat → List Int
  | 0 => []
  | k + 1 => if q k = true then smT q L k ++ [(rowG q (setF L k) L.length : Int)] else smT q L k
theorem smT_len (q : Nat → Bool) (L : List Int) : ∀ k, (smT q L k).length = rkF q k
  | 0 => rfl
  | k + 1 => by
    have ih := smT_len q L k
    have e : rkF q (k + 1) = if q k = true then rkF q k + 1 else rkF q k := rfl
    rw [e]
    unfold smT
    split
    · rw [List.length_append, ih]; rfl
    · exact ih
theorem smT_get (q : Nat → Bool) (L : List Int) {j : Nat} (hj : q j = true) : ∀ k, j < k → (smT q L k).getD (rkF q j) 0 = (rowG q (setF L j) L.length : Int)
  | 0, h => by omega
  | k + 1, h => by
    have hlen := smT_len q L k
    unfold smT
    by_cases c : j = k
    · subst c
      rw [if_pos hj, List.getD_eq_getElem?_getD, List.getElem?_append_right (by omega), hlen, Nat.sub_self]
      rfl
    · have hlt := rk_lt q (show j < k by omega) hj
      have ih := smT_get q L hj k (by omega)
      split
      · rw [List.getD_eq_getElem?_getD, List.getElem?_append_left (by omega), ← List.getD_eq_getElem?_getD]
        exact ih
      · exact ih
theorem smT_shop {q : Nat → Bool} {L : List Int} (h : shopB L = true) (h1 : 0 < rkF q L.length) : shopB (smT q L L.length) = true := by
  obtain ⟨hL1, hL10, hA⟩ := shop_ok h
  have hle := rk_le q L.length
  have hrow : ∀ a, a < rkF q L.length → ∃ k, k < L.length ∧ q k = true ∧ rkF q k = a ∧ (smT q L L.length).getD a 0 = (rowG q (setF L k) L.length : Int) := fun a ha => by
    obtain ⟨k, hk, hq, rfl⟩ := rk_onto q L.length a ha
    exact ⟨k, hk, hq, rfl, smT_get q L hq _ hk⟩
  unfold shopB
  rw [smT_len]
  simp only [Bool.and_eq_true, decide_eq_true_eq, List.all_eq_true, List.mem_range]
  refine ⟨⟨by omega, by omega⟩, fun a ha => ?_, fun a ha => ?_⟩
  · obtain ⟨k, hk, hq, rfl, hg⟩ := hrow a ha
    have hl := rowG_lt q (setF L k) L.length
    unfold okI
    rw [smT_len, hg, bitI_nat, rowG_bit q _ hq, (hA k hk).2.2.1, Bool.and_false]
    have e2 : ((2 ^ rkF q L.length : Nat) : Int) = 2 ^ rkF q L.length := by simp
    rw [decide_eq_true (by omega), ← e2, decide_eq_true (Int.ofNat_lt.2 hl)]
    rfl
  · obtain ⟨k, hk, hq, rfl, hg⟩ := hrow a ha
    unfold symI
    rw [smT_len, List.all_eq_true]
    intro b hb
    rw [List.mem_range] at hb
    obtain ⟨j, hj, hqj, rfl, hgj⟩ := hrow b hb
    rw [hg, hgj, bitI_nat, bitI_nat, rowG_bit q _ hqj, rowG_bit q _ hq, decide_eq_true hk, decide_eq_true hj, (hA k hk).2.2.2 j hj]
    simp
/-- The game beyond a set is the game on the others. -/
theorem won_less {q : Nat → Bool} {L : List Int} (w l t : Nat) (hl : l < L.length) (hql : q l = true) (hw : ∀ j, j < L.length → q j = false → w.testBit j = true) (ht : ∀ k, k < L.length → q k = true → t.testBit (rkF q k) = w.testBit k) :
    won (setF L) L.length w l = won (setF (smT q L L.length)) (rkF q L.length) t (rkF q l) := by
  refine won_iso (q := q) (rk := rkF q) (fun k hk hq => rk_lt q hk hq) (fun k j _ _ hk hj h => rk_inj q hk hj h) (rk_onto q L.length) (fun k j hk hj hq hqj => ?_) _ w l t rfl hl hql hw ht
  have hs : setF (smT q L L.length) (rkF q k) = rowG q (setF L k) L.length := by
    show (List.getD (smT q L L.length) (rkF q k) 0).toNat = _
    rw [smT_get q L hq _ hk]
    omega
  rw [hs, rowG_bit q _ hqj, decide_eq_true hj, Bool.true_and]
end Go.Proofs.YtnpapnpedcbfnaaDoor
set_option linter.unusedVariables false
namespace Go.Proofs.YtnpapnpedcbfnaaDoor
open Go.Vs
/-! ## The game is won by the hats that are needed -/
theorem mat_pair {A : Nat → Nat} (l : Nat) : ∀ (P : List (Nat × Nat)) (s : Nat), mat A s P = true → mat A (del s l) P = true ∨ ∃ k Q, s.testBit k = true ∧ k ≠ l ∧ s.testBit l = true ∧ ((A l).testBit k = true ∨ (A k).testBit l = true) ∧ mat A (del (del s l) k) Q = true ∧ P.length = Q.length + 1
  | [], s, _ => .inl rfl
  | (a, b) :: P, s, hm => by
    obtain ⟨h1, h2, h3, h4, h5⟩ := mat_cons hm
    have hsub : ∀ j, (del (up s a) b).testBit j = true → s.testBit j = true ∧ a < j ∧ j ≠ b := fun j hj => by
      rw [del_bit, up_bit, Bool.and_eq_true, Bool.and_eq_true] at hj
      exact ⟨hj.1.1, by simpa using hj.1.2, by simpa using hj.2⟩
    by_cases ca : a = l
    · subst ca
      refine .inr ⟨b, P, h3, by omega, h2, .inl h4, mat_mono P (fun j hj => ?_) h5, rfl⟩
      obtain ⟨q1, q2, q3⟩ := hsub j hj
      rw [del_bit, del_bit, q1]; simp [q3]; omega
    by_cases cb : b = l
    · subst cb
      refine .inr ⟨a, P, h2, ca, h3, .inr h4, mat_mono P (fun j hj => ?_) h5, rfl⟩
      obtain ⟨q1, q2, q3⟩ := hsub j hj
      rw [del_bit, del_bit, q1]; simp [q3]; omega
    rcases mat_pair l P _ h5 with h | ⟨k, Q, k1, k2, k3, k4, k5, k6⟩
    · refine .inl (mat_mk h1 (by rw [del_bit, h2]; simp [ca]) (by rw [del_bit, h3]; simp [cb]) h4 (mat_mono P (fun j hj => ?_) h))
      rw [del_bit, del_bit, up_bit] at hj
      rw [del_bit, up_bit, del_bit]
      simp only [Bool.and_eq_true] at hj ⊢
      exact ⟨⟨⟨hj.1.1.1, hj.2⟩, hj.1.1.2⟩, hj.1.2⟩
    · obtain ⟨q1, q2, q3⟩ := hsub k k1
      obtain ⟨p1, p2, p3⟩ := hsub l k3
      refine .inr ⟨k, (a, b) :: Q, q1, k2, p1, k4, mat_mk h1 ?_ ?_ h4 (mat_mono Q (fun j hj => ?_) k5), by simp [k6]⟩
      · rw [del_bit, del_bit, h2]; simp; omega
      · rw [del_bit, del_bit, h3]; simp; omega
      · rw [del_bit, del_bit, del_bit, up_bit] at hj
        rw [del_bit, up_bit, del_bit, del_bit]
        simp only [Bool.and_eq_true] at hj ⊢
        exact ⟨⟨⟨⟨hj.1.1.1.1, hj.1.2⟩, hj.2⟩, hj.1.1.1.2⟩, hj.1.1.2⟩
/-- A pair is put into a matching. -/
theorem mat_put {A : Nat → Nat} {x y : Nat} (hxy : x < y) (hA : (A x).testBit y = true) : ∀ (P : List (Nat × Nat)) (s : Nat), s.testBit x = true → s.testBit y = true → mat A (del (del s x) y) P = true → ∃ Q, mat A s Q = true ∧ Q.length = P.length + 1
  | [], s, hx, hy, _ => ⟨[(x, y)], mat_mk hxy hx hy hA rfl, rfl⟩
  | (a, b) :: P, s, hx, hy, hm => by
    obtain ⟨h1, h2, h3, h4, h5⟩ := mat_cons hm
    rw [del_bit, del_bit] at h2 h3
    simp only [Bool.and_eq_true, Bool.not_eq_true', decide_eq_false_iff_not] at h2 h3
    obtain ⟨⟨a1, a2⟩, a3⟩ := h2
    obtain ⟨⟨b1, b2⟩, b3⟩ := h3
    by_cases c : x < a
    · refine ⟨(x, y) :: (a, b) :: P, mat_mk hxy hx hy hA (mat_mk h1 ?_ ?_ h4 (mat_mono P (fun j hj => ?_) h5)), rfl⟩
      · rw [del_bit, up_bit, a1]; simp [c, a3]
      · rw [del_bit, up_bit, b1]; simp [b3]; omega
      · rw [del_bit, up_bit, del_bit, del_bit] at hj
        rw [del_bit, up_bit, del_bit, up_bit]
        simp only [Bool.and_eq_true, decide_eq_true_eq, Bool.not_eq_true', decide_eq_false_iff_not] at hj ⊢
        obtain ⟨⟨⟨⟨j1, j2⟩, j3⟩, j4⟩, j5⟩ := hj
        exact ⟨⟨⟨⟨j1, by omega⟩, j3⟩, j4⟩, j5⟩
    · have hax : a < x := by omega
      obtain ⟨Q, q1, q2⟩ := mat_put hxy hA P (del (up s a) b) (by rw [del_bit, up_bit, hx]; simp [hax]; omega) (by rw [del_bit, up_bit, hy]; simp; omega) (mat_mono P (fun j hj => by
        rw [del_bit, up_bit, del_bit, del_bit] at hj
        rw [del_bit, del_bit, del_bit, up_bit]
        simp only [Bool.and_eq_true] at hj ⊢
        exact ⟨⟨⟨⟨hj.1.1.1.1, hj.1.2⟩, hj.2⟩, hj.1.1.1.2⟩, hj.1.1.2⟩) h5)
      exact ⟨(a, b) :: Q, mat_mk h1 a1 b1 h4 q1, by simp [q2]⟩
/-- A shop: who goes with whom is said on both sides, and nobody goes with themselves. -/
structure Sym (A : Nat → Nat) (n : Nat) : Prop where
  sym : ∀ i k, i < n → k < n → (A i).testBit k = (A k).testBit i
  irr : ∀ i, i < n → (A i).testBit i = false
theorem best_pairs {A : Nat → Nat} {n : Nat} (hA : Sym A n) {s x y : Nat} (hs : s < 2 ^ n) (hx : s.testBit x = true) (hy : s.testBit y = true) (hxy : (A x).testBit y = true) : best A n (del (del s x) y) + 1 ≤ best A n s := by
  have hxn := bit_lt hs hx
  have hyn := bit_lt hs hy
  have hne : x ≠ y := by rintro rfl; rw [hA.irr x hxn] at hxy; cases hxy
  have hm := lrg_mat A n (del (del s x) y)
  have hlen := lrg_len A n (del (del s x) y)
  rcases Nat.lt_or_gt_of_ne hne with c | c
  · obtain ⟨Q, q1, q2⟩ := mat_put c hxy _ s hx hy hm
    have := mat_le s hs Q q1
    omega
  · have hd : del (del s x) y = del (del s y) x := by
      apply Nat.eq_of_testBit_eq
      intro j
      rw [del_bit, del_bit, del_bit, del_bit, Bool.and_assoc, Bool.and_comm (!decide (j = x)), ← Bool.and_assoc]
    rw [hd] at hm hlen ⊢
    obtain ⟨Q, q1, q2⟩ := mat_put c (by rw [hA.sym y x hyn hxn]; exact hxy) _ s hy hx hm
    have := mat_le s hs Q q1
    omega
theorem best_one {A : Nat → Nat} {n : Nat} (hA : Sym A n) {s l : Nat} (hs : s < 2 ^ n) (hl : s.testBit l = true) :
    best A n (del s l) < best A n s ↔ ∃ k, s.testBit k = true ∧ (A l).testBit k = true ∧ best A n (del (del s l) k) = best A n (del s l) := by
  have hln := bit_lt hs hl
  constructor
  · intro h
    have hm := lrg_mat A n s
    have hlen := lrg_len A n s
    rcases mat_pair l _ s hm with h1 | ⟨k, Q, k1, k2, k3, k4, k5, k6⟩
    · have := mat_le _ (del_lt hs) _ h1
      omega
    · have hkn := bit_lt hs k1
      have h2 := mat_le _ (del_lt (del_lt hs)) Q k5
      have h3 := best_del_le A n k (del_lt (k := l) hs)
      refine ⟨k, k1, ?_, by omega⟩
      rcases k4 with h | h
      · exact h
      · rw [hA.sym l k hln hkn]; exact h
  · rintro ⟨k, k1, k2, k3⟩
    have := best_pairs hA hs hl k1 k2
    omega
/-- The hats that are not visited, and the last one. -/
def free (n v : Nat) : Nat := andn (allN n) v
theorem free_bit {n v : Nat} (hn : n ≤ 10) (hv : v < 2 ^ n) (j : Nat) : (free n v).testBit j = (decide (j < n) && !v.testBit j) := by
  have hp : 2 ^ n ≤ 1024 := Nat.pow_le_pow_right (by decide) hn
  unfold free
  by_cases hk : j < 64
  · rw [andn_bit (by omega) hk, all_bit]
  · have h1 : andn (allN n) v < 2 ^ j := Nat.lt_of_le_of_lt (andn_le _ _) (Nat.lt_of_lt_of_le (all_lt n) (Nat.pow_le_pow_right (by decide) (by omega)))
    rw [Nat.testBit_lt_two_pow h1, decide_eq_false (by omega)]; rfl
theorem won_needed {A : Nat → Nat} {n : Nat} (hn : n ≤ 10) (hA : Sym A n) : ∀ (u v l s : Nat), un n v = u → v < 2 ^ n → l < n → v.testBit l = true → (∀ j, s.testBit j = (decide (j < n) && (!v.testBit j || decide (j = l)))) → won A n v l = decide (best A n (del s l) < best A n s) := by
  intro u
  induction u using Nat.strongRecOn with
  | ind u ih =>
  intro v l s hu hv hl hb hs
  have hsn : s < 2 ^ n := by
    apply Nat.lt_pow_two_of_testBit
    intro i hi
    rw [hs, decide_eq_false (by omega)]; rfl
  have hsl : s.testBit l = true := by rw [hs, decide_eq_true hl]; simp
  have hd : ∀ j, (del s l).testBit j = (decide (j < n) && !v.testBit j) := fun j => by
    rw [del_bit, hs]
    by_cases c : j = l
    · subst c; rw [hb]; simp
    · simp [c]
  have key : ∀ k, k < n → v.testBit k = false → won A n (v ||| 2 ^ k) k = decide (best A n (del (del s l) k) < best A n (del s l)) := fun k hk hvk => by
    refine ih _ (by have := un_pos hk hvk; omega) (v ||| 2 ^ k) k (del s l) rfl (or_lt hv hk) hk (by rw [Nat.testBit_or, Nat.testBit_two_pow]; simp) (fun j => ?_)
    rw [hd, Nat.testBit_or, Nat.testBit_two_pow]
    by_cases c : j = k
    · subst c; rw [hvk]; simp
    · have c' : ¬ k = j := fun h => c h.symm
      simp [c, c']
  rw [won_eq, Bool.eq_iff_iff, List.any_eq_true, decide_eq_true_eq, best_one hA hsn hsl]
  constructor
  · rintro ⟨k, hk, hg⟩
    have hk := List.mem_range.1 hk
    unfold good at hg
    rw [Bool.and_eq_true, Bool.and_eq_true, Bool.not_eq_true', Bool.not_eq_true'] at hg
    obtain ⟨⟨g1, g2⟩, g3⟩ := hg
    rw [key k hk g2, decide_eq_false_iff_not] at g3
    have := best_del_le A n k (del_lt (k := l) hsn)
    exact ⟨k, by rw [hs, decide_eq_true hk, g2]; rfl, g1, by omega⟩
  · rintro ⟨k, k1, k2, k3⟩
    have hk := bit_lt hsn k1
    have hkl : k ≠ l := by rintro rfl; rw [hA.irr k hk] at k2; cases k2
    have hvk : v.testBit k = false := by
      rw [hs, decide_eq_true hk, decide_eq_false hkl] at k1
      simpa using k1
    refine ⟨k, List.mem_range.2 hk, ?_⟩
    unfold good
    rw [k2, hvk, key k hk hvk, decide_eq_false (by omega)]
    rfl
end Go.Proofs.YtnpapnpedcbfnaaDoor
set_option maxRecDepth 100000
set_option maxHeartbeats 4000000
set_option linter.unusedSimpArgs false
set_option linter.unusedVariables false
namespace Go.Proofs.YtnpapnpedcbfnaaDoor
open Go.Ds Go.Vs
theorem size_rets {X : Caller} (hX : Xfr X) (S : Nat) (hS : S < 1024) (g : GH) : Rets Tryd.prog X 41 [.int .i64 (S : Int)] g (fun v g' lo => g.next ≤ lo ∧ v = .int .i64 (sz S : Nat)) := by
  refine Rets.run hX.pres p41 (hX.free 41 (by decide) _ _) rfl fun ho => ?_
  simp +decide (disch := first | assumption | exact cellV_int _ _ | exact cellV_bool _ | omega | (simp only [GH.pn, GH.sn] <;> omega) | (with_reducible ((repeat (first | apply GH.ok_push | apply GH.ok_set)); assumption)) | ((try simp only [GH.push_hid, GH.set_hid]); first | assumption | (refine GH.vis ?_ ?_ <;> first | assumption | ((try simp only [GH.pn, GH.sn]) <;> omega)))) only [go_sem, ↓reduceIte, Nat.reduceEqDiff, Nat.reduceAdd, Int.reduceToNat, Int.reduceAdd, Int.reduceNeg, Int.reduceSub, Int.reduceMul, Int.reduceLT, Int.reduceLE, Int.reduceEq, ↓GH.gp_eq, ↓GH.gp_ne, ↓GH.gs_eq, ↓GH.gs_ne, GH.push_next, GH.set_next]
  refine Wk.loops (fun m e g' lo => g' = g ∧ g.next ≤ lo ∧ ∃ acc : Nat, m < 1024 ∧ acc + m ≤ S ∧ acc + sz m = sz S ∧ (ev e (.s 0) = .int .i64 (m : Nat) ∧ ev e (.s 3) = .int .i64 (acc : Nat)))
    (fun e g' lo => g' = g ∧ g.next ≤ lo ∧ ev e (.s 3) = .int .i64 (sz S : Nat)) (n := S) ?_ ?_ ?_
  · exact ⟨rfl, Nat.le_refl _, 0, hS, by omega, by omega, (by simp +decide (disch := first | assumption | (apply GH.ok_push; assumption) | exact cellV_int _ _ | exact cellV_bool _ | omega) only [go_sem, ↓reduceIte, Nat.reduceEqDiff, Nat.reduceAdd, Int.reduceToNat]; first | done | exact rfl)⟩
  · rintro e g' lo - - ⟨rfl, hlo, he⟩
    simp +decide (disch := first | assumption | exact cellV_int _ _ | exact cellV_bool _ | omega | (simp only [GH.pn, GH.sn] <;> omega) | (with_reducible ((repeat (first | apply GH.ok_push | apply GH.ok_set)); assumption)) | ((try simp only [GH.push_hid, GH.set_hid]); first | assumption | (refine GH.vis ?_ ?_ <;> first | assumption | ((try simp only [GH.pn, GH.sn]) <;> omega)))) only [go_sem, ↓reduceIte, Nat.reduceEqDiff, Nat.reduceAdd, Int.reduceToNat, Int.reduceAdd, Int.reduceNeg, Int.reduceSub, Int.reduceMul, Int.reduceLT, Int.reduceLE, Int.reduceEq, ↓GH.gp_eq, ↓GH.gp_ne, ↓GH.gs_eq, ↓GH.gs_ne, GH.push_next, GH.set_next, he]
    intro hx0
    exact ⟨hlo, rfl⟩
  · rintro m e g' lo ho' hl' ih out ⟨rfl, hlo, acc, hm, hle, hsz, he⟩
    have hu := sz.eq_def m
    by_cases c : m = 0
    · subst c
      simp +decide (disch := first | assumption | exact cellV_int _ _ | exact cellV_bool _ | omega | (simp only [GH.pn, GH.sn] <;> omega) | (with_reducible ((repeat (first | apply GH.ok_push | apply GH.ok_set)); assumption)) | ((try simp only [GH.push_hid, GH.set_hid]); first | assumption | (refine GH.vis ?_ ?_ <;> first | assumption | ((try simp only [GH.pn, GH.sn]) <;> omega)))) only [go_sem, ↓reduceIte, Nat.reduceEqDiff, Nat.reduceAdd, Int.reduceToNat, Int.reduceAdd, Int.reduceNeg, Int.reduceSub, Int.reduceMul, Int.reduceLT, Int.reduceLE, Int.reduceEq, ↓GH.gp_eq, ↓GH.gp_ne, ↓GH.gs_eq, ↓GH.gs_ne, GH.push_next, GH.set_next, he]
      rw [dif_pos rfl] at hu
      refine out _ _ _ ⟨rfl, hlo, ?_⟩
      rw [← hsz, hu, Nat.add_zero]
      exact (by simp +decide (disch := first | assumption | (apply GH.ok_push; assumption) | exact cellV_int _ _ | exact cellV_bool _ | omega) only [go_sem, ↓reduceIte, Nat.reduceEqDiff, Nat.reduceAdd, Int.reduceToNat, he]; first | done | exact rfl)
    · have c' : (0 : Int) < m := by omega
      have r1 : ((m : Int)).tmod 2 = ((m % 2 : Nat) : Int) := rfl
      have r2 : ((m : Int)).tdiv 2 = ((m / 2 : Nat) : Int) := rfl
      rw [dif_neg c] at hu
      simp +decide (disch := first | assumption | exact cellV_int _ _ | exact cellV_bool _ | omega | (simp only [GH.pn, GH.sn] <;> omega) | (with_reducible ((repeat (first | apply GH.ok_push | apply GH.ok_set)); assumption)) | ((try simp only [GH.push_hid, GH.set_hid]); first | assumption | (refine GH.vis ?_ ?_ <;> first | assumption | ((try simp only [GH.pn, GH.sn]) <;> omega)))) only [go_sem, ↓reduceIte, Nat.reduceEqDiff, Nat.reduceAdd, Int.reduceToNat, Int.reduceAdd, Int.reduceNeg, Int.reduceSub, Int.reduceMul, Int.reduceLT, Int.reduceLE, Int.reduceEq, ↓GH.gp_eq, ↓GH.gp_ne, ↓GH.gs_eq, ↓GH.gs_ne, GH.push_next, GH.set_next, he, c', r1, r2]
      exact ih (m / 2) _ _ _ (by omega) ⟨rfl, hlo, acc + m % 2, by omega, by omega, by omega, (by simp +decide (disch := first | assumption | (apply GH.ok_push; assumption) | exact cellV_int _ _ | exact cellV_bool _ | omega) only [go_sem, ↓reduceIte, Nat.reduceEqDiff, Nat.reduceAdd, Int.reduceToNat, he]; first | done | exact rfl)⟩
end Go.Proofs.YtnpapnpedcbfnaaDoor
set_option maxRecDepth 100000
set_option maxHeartbeats 4000000
set_option linter.unusedSimpArgs false
set_option linter.unusedVariables false
namespace Go.Proofs.YtnpapnpedcbfnaaDoor
open Go.Ds Go.Vs
theorem ex20 (a b : Value) : extF (.tuple #[a, b]) 0 = some a := Eq.trans rfl rfl
theorem ex21 (a b : Value) : extF (.tuple #[a, b]) 1 = some b := Eq.trans rfl rfl
theorem remN (x k : Nat) : ((x : Int) / 2 ^ k).tmod 2 = b01 (x.testBit k) := by
  have := rem_fact (x := (x : Int)) (by omega) k
  rw [bitI_nat] at this
  exact this
/-- Two lists with the same numbers. -/
theorem sameR_rets {X : Caller} (hX : Xfr X) (D : List Int) (hD : D.length < 1000000) (s t : Value) (g : GH) (hs : SlR g s (ints D)) (ht : SlR g t (ints D)) :
    Rets Tryd.prog X 24 [s, t] g (fun v g' lo => g.next ≤ lo ∧ v = .bool true) := by
  have hl := hs.len
  have hl2 := ht.len
  rw [ints_len] at hl hl2
  refine Rets.run hX.pres p24 (hX.free 24 (by decide) _ _) rfl fun ho => ?_
  simp +decide (disch := first | assumption | exact cellV_int _ _ | exact cellV_bool _ | omega | (simp only [GH.pn, GH.sn] <;> omega) | (with_reducible ((repeat (first | apply GH.ok_push | apply GH.ok_set)); assumption)) | ((try simp only [GH.push_hid, GH.set_hid]); first | assumption | (refine GH.vis ?_ ?_ <;> first | assumption | ((try simp only [GH.pn, GH.sn]) <;> omega)))) only [go_sem, ↓reduceIte, Nat.reduceEqDiff, Nat.reduceAdd, Int.reduceToNat, Int.reduceAdd, Int.reduceNeg, Int.reduceSub, Int.reduceMul, Int.reduceLT, Int.reduceLE, Int.reduceEq, ↓GH.gp_eq, ↓GH.gp_ne, ↓GH.gs_eq, ↓GH.gs_ne, GH.push_next, GH.set_next, hl, hl2]
  refine Wk.loops (fun m e g' lo => g' = g ∧ g.next ≤ lo ∧ ∃ i : Nat, i + m = D.length ∧ (ev e (.s 0) = s ∧ ev e (.s 1) = t ∧ ev e (.s 5) = .int .i64 (i : Nat)))
    (fun e g' lo => g.next ≤ lo) (n := D.length) ?_ ?_ ?_
  · exact ⟨rfl, by omega, 0, by omega, (by simp +decide (disch := first | assumption | (apply GH.ok_push; assumption) | exact cellV_int _ _ | exact cellV_bool _ | omega) only [go_sem, ↓reduceIte, Nat.reduceEqDiff, Nat.reduceAdd, Int.reduceToNat]; first | done | exact rfl)⟩
  · rintro e g' lo - - hlo
    simp +decide (disch := first | assumption | exact cellV_int _ _ | exact cellV_bool _ | omega | (simp only [GH.pn, GH.sn] <;> omega) | (with_reducible ((repeat (first | apply GH.ok_push | apply GH.ok_set)); assumption)) | ((try simp only [GH.push_hid, GH.set_hid]); first | assumption | (refine GH.vis ?_ ?_ <;> first | assumption | ((try simp only [GH.pn, GH.sn]) <;> omega)))) only [go_sem, ↓reduceIte, Nat.reduceEqDiff, Nat.reduceAdd, Int.reduceToNat, Int.reduceAdd, Int.reduceNeg, Int.reduceSub, Int.reduceMul, Int.reduceLT, Int.reduceLE, Int.reduceEq, ↓GH.gp_eq, ↓GH.gp_ne, ↓GH.gs_eq, ↓GH.gs_ne, GH.push_next, GH.set_next]
    intro hx0
    exact ⟨hlo, rfl⟩
  · rintro m e g' lo ho' hl' ih out ⟨rfl, hlo, i, hi, he⟩
    by_cases ci : i < D.length
    case neg =>
      have ci' : ¬ (i : Int) < D.length := by omega
      simp +decide (disch := first | assumption | exact cellV_int _ _ | exact cellV_bool _ | omega | (simp only [GH.pn, GH.sn] <;> omega) | (with_reducible ((repeat (first | apply GH.ok_push | apply GH.ok_set)); assumption)) | ((try simp only [GH.push_hid, GH.set_hid]); first | assumption | (refine GH.vis ?_ ?_ <;> first | assumption | ((try simp only [GH.pn, GH.sn]) <;> omega)))) only [go_sem, ↓reduceIte, Nat.reduceEqDiff, Nat.reduceAdd, Int.reduceToNat, Int.reduceAdd, Int.reduceNeg, Int.reduceSub, Int.reduceMul, Int.reduceLT, Int.reduceLE, Int.reduceEq, ↓GH.gp_eq, ↓GH.gp_ne, ↓GH.gs_eq, ↓GH.gs_ne, GH.push_next, GH.set_next, he, hl, ci']
      exact out _ _ _ hlo
    have ci' : (i : Int) < D.length := by omega
    obtain ⟨j, a, hj, hp1, hp2⟩ := hs.ptr (ints_get (D := D) (i := i) ci)
    have hp1 := hp1 (i : Int) rfl
    obtain ⟨j2, a2, hj2, hq1, hq2⟩ := ht.ptr (ints_get (D := D) (i := i) ci)
    have hq1 := hq1 (i : Int) rfl
    generalize D.getD i 0 = x at *
    simp +decide (disch := first | assumption | exact cellV_int _ _ | exact cellV_bool _ | omega | (simp only [GH.pn, GH.sn] <;> omega) | (with_reducible ((repeat (first | apply GH.ok_push | apply GH.ok_set)); assumption)) | ((try simp only [GH.push_hid, GH.set_hid]); first | assumption | (refine GH.vis ?_ ?_ <;> first | assumption | ((try simp only [GH.pn, GH.sn]) <;> omega)))) only [go_sem, ↓reduceIte, Nat.reduceEqDiff, Nat.reduceAdd, Int.reduceToNat, Int.reduceAdd, Int.reduceNeg, Int.reduceSub, Int.reduceMul, Int.reduceLT, Int.reduceLE, Int.reduceEq, ↓GH.gp_eq, ↓GH.gp_ne, ↓GH.gs_eq, ↓GH.gs_ne, GH.push_next, GH.set_next, he, hl, ci', hp1, hp2, hq1, hq2]
    exact ih (m - 1) _ _ _ (by omega) ⟨rfl, hlo, i + 1, by omega, (by simp +decide (disch := first | assumption | (apply GH.ok_push; assumption) | exact cellV_int _ _ | exact cellV_bool _ | omega) only [go_sem, ↓reduceIte, Nat.reduceEqDiff, Nat.reduceAdd, Int.reduceToNat, he]; first | done | exact rfl)⟩
end Go.Proofs.YtnpapnpedcbfnaaDoor
set_option linter.unusedVariables false
namespace Go.Vs
/-! ## What is reached, and parts -/
inductive Rch (A : Nat → Nat) (F h : Nat) : Nat → Prop
  | base : Rch A F h h
  | step {i k : Nat} : Rch A F h i → (A i).testBit k = true → F.testBit k = true → Rch A F h k
theorem Rch.trans {A : Nat → Nat} {F h i k : Nat} (a : Rch A F h i) (b : Rch A F i k) : Rch A F h k := by
  induction b with
  | base => exact a
  | step _ h1 h2 ih => exact .step ih h1 h2
theorem Rch.free {A : Nat → Nat} {F h k : Nat} (hh : F.testBit h = true) (a : Rch A F h k) : F.testBit k = true := by
  cases a with
  | base => exact hh
  | step _ _ h2 => exact h2
/-- Each goes with the other. -/
structure Shp (A : Nat → Nat) (n : Nat) : Prop where
  lt : ∀ i, i < n → A i < 2 ^ n
  sym : ∀ i k, i < n → k < n → (A i).testBit k = (A k).testBit i
theorem Rch.lt {A : Nat → Nat} {n F h k : Nat} (hF : F < 2 ^ n) (hh : h < n) (a : Rch A F h k) : k < n := by
  cases a with
  | base => exact hh
  | step _ _ h2 => exact bit_lt hF h2
theorem Rch.symm {A : Nat → Nat} {n F h k : Nat} (hA : Shp A n) (hF : F < 2 ^ n) (hh : F.testBit h = true) (a : Rch A F h k) : Rch A F k h := by
  induction a with
  | base => exact .base
  | @step i k h1 h2 h3 ih =>
    refine Rch.trans (.step .base ?_ (h1.free hh)) ih
    rw [hA.sym k i (bit_lt hF h3) (bit_lt hF (h1.free hh))]
    exact h2
/-- One round: the first hats' others are put in. -/
def grow (A : Nat → Nat) (F p : Nat) : Nat → Nat
  | 0 => p
  | i + 1 => if p.testBit i = true then grow A F p i ||| (A i &&& F) else grow A F p i
theorem grow_bit (A : Nat → Nat) (F p k : Nat) : ∀ n, (grow A F p n).testBit k = true ↔ p.testBit k = true ∨ ∃ i, i < n ∧ p.testBit i = true ∧ (A i).testBit k = true ∧ F.testBit k = true
  | 0 => ⟨.inl, fun h => by
      rcases h with h | ⟨i, h, _⟩
      · exact h
      · exact absurd h (Nat.not_lt_zero _)⟩
  | n + 1 => by
    have ih := grow_bit A F p k n
    unfold grow
    split
    · rename_i c
      rw [Nat.testBit_or, Bool.or_eq_true, ih, Nat.testBit_and, Bool.and_eq_true]
      constructor
      · rintro ((h | ⟨i, h1, h2⟩) | ⟨h1, h2⟩)
        · exact .inl h
        · exact .inr ⟨i, by omega, h2⟩
        · exact .inr ⟨n, by omega, c, h1, h2⟩
      · rintro (h | ⟨i, h1, h2, h3, h4⟩)
        · exact .inl (.inl h)
        · by_cases e : i = n
          · subst e; exact .inr ⟨h3, h4⟩
          · exact .inl (.inr ⟨i, by omega, h2, h3, h4⟩)
    · rename_i c
      rw [ih]
      constructor
      · rintro (h | ⟨i, h1, h2⟩)
        · exact .inl h
        · exact .inr ⟨i, by omega, h2⟩
      · rintro (h | ⟨i, h1, h2, h3⟩)
        · exact .inl h
        · by_cases e : i = n
          · subst e; exact absurd h2 c
          · exact .inr ⟨i, by omega, h2, h3⟩
theorem grow_lt {A : Nat → Nat} {F p n : Nat} (hF : F < 2 ^ n) (hp : p < 2 ^ n) (i : Nat) : grow A F p i < 2 ^ n := by
  induction i with
  | zero => exact hp
  | succ i ih =>
    unfold grow
    split
    · exact Nat.or_lt_two_pow ih (Nat.lt_of_le_of_lt Nat.and_le_right hF)
    · exact ih
theorem grow_le (A : Nat → Nat) (F p i : Nat) : p ≤ grow A F p i := by
  induction i with
  | zero => exact Nat.le_refl _
  | succ i ih =>
    unfold grow
    split
    · exact Nat.le_trans ih Nat.left_le_or
    · exact ih
def clo (A : Nat → Nat) (F n : Nat) : Nat → Nat → Nat
  | 0, p => p
  | f + 1, p => if grow A F p n = p then p else clo A F n f (grow A F p n)
def comp (A : Nat → Nat) (F n h : Nat) : Nat := clo A F n (2 ^ n) (2 ^ h)
theorem clo_stop {A : Nat → Nat} {F n p : Nat} (h : grow A F p n = p) (f : Nat) : clo A F n f p = p := by
  cases f with
  | zero => rfl
  | succ f => unfold clo; rw [if_pos h]
theorem clo_go {A : Nat → Nat} {F n p f : Nat} (h : grow A F p n ≠ p) : clo A F n (f + 1) p = clo A F n f (grow A F p n) := by
  rw [clo, if_neg h]
theorem clo_all {A : Nat → Nat} {F n h : Nat} (hF : F < 2 ^ n) : ∀ (f p : Nat), p < 2 ^ n → 2 ^ n ≤ p + f → (∀ k, p.testBit k = true → Rch A F h k) →
    clo A F n f p < 2 ^ n ∧ grow A F (clo A F n f p) n = clo A F n f p ∧ (∀ k, p.testBit k = true → (clo A F n f p).testBit k = true) ∧ (∀ k, (clo A F n f p).testBit k = true → Rch A F h k)
  | 0, p, h1, h2, h3 => by omega
  | f + 1, p, h1, h2, h3 => by
    by_cases c : grow A F p n = p
    · rw [clo_stop c]
      exact ⟨h1, c, fun _ h => h, h3⟩
    · rw [clo_go c]
      have h4 := grow_le A F p n
      obtain ⟨a1, a2, a3, a4⟩ := clo_all (h := h) hF f (grow A F p n) (grow_lt hF h1 n) (by omega) (fun k hk => by
        rcases (grow_bit A F p k n).1 hk with h | ⟨i, _, h5, h6, h7⟩
        · exact h3 k h
        · exact .step (h3 i h5) h6 h7)
      exact ⟨a1, a2, fun k hk => a3 k ((grow_bit A F p k n).2 (.inl hk)), a4⟩
theorem comp_lt {A : Nat → Nat} {F n h : Nat} (hF : F < 2 ^ n) (hh : h < n) : comp A F n h < 2 ^ n :=
  (clo_all (h := h) hF (2 ^ n) (2 ^ h) (Nat.pow_lt_pow_right (by decide) hh) (Nat.le_add_left _ _) (fun k hk => by
    by_cases e : k = h
    · subst e; exact .base
    · rw [Nat.testBit_two_pow_of_ne (Ne.symm e)] at hk; cases hk)).1
theorem comp_bit {A : Nat → Nat} {F n h : Nat} (hF : F < 2 ^ n) (hh : h < n) (k : Nat) : (comp A F n h).testBit k = true ↔ Rch A F h k := by
  obtain ⟨a1, a2, a3, a4⟩ := clo_all (A := A) (h := h) hF (2 ^ n) (2 ^ h) (Nat.pow_lt_pow_right (by decide) hh) (Nat.le_add_left _ _) (fun k hk => by
    by_cases e : k = h
    · subst e; exact .base
    · rw [Nat.testBit_two_pow_of_ne (Ne.symm e)] at hk; cases hk)
  refine ⟨a4 k, fun r => ?_⟩
  induction r with
  | base => exact a3 h Nat.testBit_two_pow_self
  | @step i k h1 h2 h3 ih =>
    show (clo A F n (2 ^ n) (2 ^ h)).testBit k = true
    rw [← a2]
    exact (grow_bit _ _ _ _ _).2 (.inr ⟨i, h1.lt hF hh, ih, h2, h3⟩)
theorem bit_ext {a b : Nat} (h : ∀ k, a.testBit k = true ↔ b.testBit k = true) : a = b :=
  Nat.eq_of_testBit_eq fun k => Bool.eq_iff_iff.2 (h k)
theorem comp_same {A : Nat → Nat} {F n h k : Nat} (hA : Shp A n) (hF : F < 2 ^ n) (hh : F.testBit h = true) (r : Rch A F h k) : comp A F n k = comp A F n h := by
  have h1 := bit_lt hF hh
  have h2 := r.lt hF h1
  refine bit_ext fun j => ?_
  rw [comp_bit hF h2, comp_bit hF h1]
  exact ⟨fun s => r.trans s, fun s => (r.symm hA hF hh).trans s⟩
theorem comp_cut {A : Nat → Nat} {F F' n h : Nat} (hF : F < 2 ^ n) (hF' : F' < 2 ^ n) (hh : h < n) (h1 : ∀ k, F'.testBit k = true → F.testBit k = true) (h2 : ∀ k, Rch A F h k → F.testBit k = true → F'.testBit k = true) : comp A F' n h = comp A F n h := by
  refine bit_ext fun j => ?_
  rw [comp_bit hF hh, comp_bit hF' hh]
  constructor
  · intro r
    induction r with
    | base => exact .base
    | step _ a b ih => exact .step ih a (h1 _ b)
  · intro r
    induction r with
    | base => exact .base
    | step r0 a b ih => exact .step ih a (h2 _ (.step r0 a b) b)
/-- The least hat of the part that a hat is in. -/
def lst (A : Nat → Nat) (F n h : Nat) : Nat := low (comp A F n h)
theorem comp_ne {A : Nat → Nat} {F n h : Nat} (hF : F < 2 ^ n) (hh : h < n) : comp A F n h ≠ 0 := by
  intro e
  have := (comp_bit (A := A) hF hh h).2 .base
  rw [e] at this
  simp at this
theorem lst_le {A : Nat → Nat} {F n h : Nat} (hF : F < 2 ^ n) (hh : h < n) : lst A F n h ≤ h := low_le ((comp_bit hF hh h).2 .base)
theorem lst_in {A : Nat → Nat} {F n h : Nat} (hF : F < 2 ^ n) (hh : h < n) : Rch A F h (lst A F n h) := (comp_bit hF hh _).1 (low_bit (comp_ne hF hh))
theorem lst_least {A : Nat → Nat} {F n h k : Nat} (hF : F < 2 ^ n) (hh : h < n) (r : Rch A F h k) : lst A F n h ≤ k := low_le ((comp_bit hF hh _).2 r)
theorem lst_same {A : Nat → Nat} {F n h k : Nat} (hA : Shp A n) (hF : F < 2 ^ n) (hh : F.testBit h = true) (r : Rch A F h k) : lst A F n k = lst A F n h := by
  unfold lst
  rw [comp_same hA hF hh r]
/-- The parts whose least hats are among the first ones. -/
def ptsL (A : Nat → Nat) (F n : Nat) : Nat → List Nat
  | 0 => []
  | i + 1 => if F.testBit i = true ∧ lst A F n i = i then ptsL A F n i ++ [comp A F n i] else ptsL A F n i
/-- The hats whose parts come later. -/
def frL (A : Nat → Nat) (F n : Nat) : Nat → Nat
  | 0 => F
  | i + 1 => if (frL A F n i).testBit i = true then andn (frL A F n i) (comp A F n i) else frL A F n i
theorem frL_le (A : Nat → Nat) (F n : Nat) : ∀ i, frL A F n i ≤ F
  | 0 => Nat.le_refl _
  | i + 1 => by
    unfold frL
    split
    · exact Nat.le_trans (andn_le _ _) (frL_le A F n i)
    · exact frL_le A F n i
theorem frL_bit {A : Nat → Nat} {F n : Nat} (hA : Shp A n) (hn : n ≤ 10) (hF : F < 2 ^ n) : ∀ i, i ≤ n → ∀ k, k < n → ((frL A F n i).testBit k = true ↔ F.testBit k = true ∧ i ≤ lst A F n k)
  | 0, _, k, _ => by unfold frL; simp
  | i + 1, hi, k, hk => by
    have ih := frL_bit hA hn hF i (by omega)
    have i1 := ih i (by omega)
    have ik := ih k hk
    have h64 : comp A F n i < 18446744073709551616 := Nat.lt_of_lt_of_le (comp_lt hF (by omega)) (Nat.le_trans (Nat.pow_le_pow_right (by decide) hn) (by decide))
    have e2 := lst_le (A := A) hF (show i < n by omega)
    have key : F.testBit k = true → lst A F n k = i → Rch A F i k ∧ F.testBit i = true := fun hk1 e => by
      have r := lst_in (A := A) hF hk
      rw [e] at r
      exact ⟨r.symm hA hF hk1, r.free hk1⟩
    unfold frL
    split
    · rename_i c
      obtain ⟨c1, c2⟩ := i1.1 c
      rw [andn_bit h64 (by omega), Bool.and_eq_true, ik]
      constructor
      · rintro ⟨⟨h1, h2⟩, h3⟩
        refine ⟨h1, ?_⟩
        rcases Nat.lt_or_ge i (lst A F n k) with h4 | h4
        · exact h4
        · obtain ⟨k1, k2⟩ := key h1 (by omega)
          rw [(comp_bit hF (by omega) k).2 k1] at h3
          cases h3
      · rintro ⟨h1, h2⟩
        refine ⟨⟨h1, by omega⟩, ?_⟩
        cases h5 : (comp A F n i).testBit k with
        | false => rfl
        | true =>
          exfalso
          have r := (comp_bit hF (by omega) k).1 h5
          have := lst_same hA hF c1 r
          omega
    · rename_i c
      rw [ik]
      constructor
      · rintro ⟨h1, h2⟩
        refine ⟨h1, ?_⟩
        rcases Nat.lt_or_ge i (lst A F n k) with h4 | h4
        · exact h4
        · exfalso
          obtain ⟨k1, k2⟩ := key h1 (by omega)
          have := lst_same hA hF k2 k1
          exact c (i1.2 ⟨k2, by omega⟩)
      · rintro ⟨h1, h2⟩
        exact ⟨h1, by omega⟩
/-- Whether a part begins here. -/
theorem frL_at {A : Nat → Nat} {F n i : Nat} (hA : Shp A n) (hn : n ≤ 10) (hF : F < 2 ^ n) (hi : i < n) : (frL A F n i).testBit i = true ↔ F.testBit i = true ∧ lst A F n i = i := by
  rw [frL_bit hA hn hF i (by omega) i hi]
  have := lst_le (A := A) hF hi
  exact ⟨fun ⟨a, b⟩ => ⟨a, by omega⟩, fun ⟨a, b⟩ => ⟨a, by omega⟩⟩
theorem frL_lt {A : Nat → Nat} {F n : Nat} (hF : F < 2 ^ n) (i : Nat) : frL A F n i < 2 ^ n := Nat.lt_of_le_of_lt (frL_le A F n i) hF
theorem comp_fr {A : Nat → Nat} {F n i : Nat} (hA : Shp A n) (hn : n ≤ 10) (hF : F < 2 ^ n) (hi : i < n) (h : (frL A F n i).testBit i = true) : comp A (frL A F n i) n i = comp A F n i := by
  obtain ⟨h1, h2⟩ := (frL_at hA hn hF hi).1 h
  refine comp_cut hF (frL_lt hF i) hi (fun k hk => ((frL_bit hA hn hF i (by omega) k (bit_lt (frL_lt hF i) hk)).1 hk).1) (fun k r hk => ?_)
  refine (frL_bit hA hn hF i (by omega) k (bit_lt hF hk)).2 ⟨hk, ?_⟩
  have := lst_same hA hF h1 r
  omega
end Go.Vs
set_option linter.unusedVariables false
namespace Go.Vs
/-! ## Labels -/
structure Edge (A : Nat → Nat) (F i k : Nat) : Prop where
  a : F.testBit i = true
  b : F.testBit k = true
  e : (A i).testBit k = true
structure Lab (A : Nat → Nat) (F n : Nat) (t : Nat → Nat) (i k : Nat) : Prop where
  le : ∀ x, x < n → t x ≤ x
  to : ∀ x, x < n → Rch A F x (t x)
  free : ∀ x, x < n → t x ≠ x → F.testBit x = true
  done : ∀ i' k', i' < n → k' < n → (i' < i ∨ i' = i ∧ k' < k) → Edge A F i' k' → t i' = t k'
/-- Two labels are made one. -/
def mrg (t : Nat → Nat) (a b : Nat) (x : Nat) : Nat := if t x = max a b then min a b else t x
theorem Lab.start {A : Nat → Nat} {F n : Nat} : Lab A F n (fun x => x) 0 0 :=
  ⟨fun x _ => Nat.le_refl _, fun x _ => .base, fun x _ h => absurd rfl h, fun i' k' _ _ h => by omega⟩
theorem Lab.row {A : Nat → Nat} {F n i : Nat} {t : Nat → Nat} (h : Lab A F n t i n) : Lab A F n t (i + 1) 0 :=
  ⟨h.le, h.to, h.free, fun i' k' h1 h2 h3 e => h.done i' k' h1 h2 (by omega) e⟩
theorem Lab.skip {A : Nat → Nat} {F n i k : Nat} {t : Nat → Nat} (h : Lab A F n t i k) (c : ¬ Edge A F i k) : Lab A F n t i (k + 1) :=
  ⟨h.le, h.to, h.free, fun i' k' h1 h2 h3 e => by
    by_cases d : i' = i ∧ k' = k
    · obtain ⟨rfl, rfl⟩ := d
      exact absurd e c
    · exact h.done i' k' h1 h2 (by omega) e⟩
theorem Lab.join {A : Nat → Nat} {F n i k : Nat} {t : Nat → Nat} (hA : Shp A n) (hF : F < 2 ^ n) (h : Lab A F n t i k) (c : Edge A F i k) : Lab A F n (mrg t (t i) (t k)) i (k + 1) := by
  have hi := bit_lt hF c.a
  have hk := bit_lt hF c.b
  have ri := h.to i hi
  have rk := h.to k hk
  have ki : Rch A F k i := (Rch.step .base c.e c.b).symm hA hF c.a
  have ik : Rch A F i k := .step .base c.e c.b
  have ab : Rch A F (t i) (t k) := ((ri.symm hA hF c.a).trans ik).trans rk
  have ba : Rch A F (t k) (t i) := ((rk.symm hA hF c.b).trans ki).trans ri
  have mm : Rch A F (max (t i) (t k)) (min (t i) (t k)) ∧ F.testBit (max (t i) (t k)) = true := by
    rcases Nat.le_total (t i) (t k) with q | q
    · rw [Nat.max_eq_right q, Nat.min_eq_left q]; exact ⟨ba, rk.free c.b⟩
    · rw [Nat.max_eq_left q, Nat.min_eq_right q]; exact ⟨ab, ri.free c.a⟩
  refine ⟨fun x hx => ?_, fun x hx => ?_, fun x hx hne => ?_, fun i' k' h1 h2 h3 e => ?_⟩
  · unfold mrg
    have := h.le x hx
    split <;> omega
  · unfold mrg
    split
    · rename_i q
      have := h.to x hx
      rw [q] at this
      exact this.trans mm.1
    · exact h.to x hx
  · by_cases d : t x = x
    · unfold mrg at hne
      split at hne
      · rename_i q
        rw [d] at q
        rw [q]
        exact mm.2
      · exact absurd d hne
    · exact h.free x hx d
  · by_cases d : i' = i ∧ k' = k
    · obtain ⟨rfl, rfl⟩ := d
      unfold mrg
      rcases Nat.le_total (t i') (t k') with q | q
      · rw [Nat.max_eq_right q, Nat.min_eq_left q, if_pos rfl]
        split <;> omega
      · rw [Nat.max_eq_left q, Nat.min_eq_right q, if_pos rfl]
        split <;> omega
    · unfold mrg
      rw [h.done i' k' h1 h2 (by omega) e]
/-- In the end the label is the least hat of the part. -/
theorem Lab.is {A : Nat → Nat} {F n : Nat} {t : Nat → Nat} (hA : Shp A n) (hF : F < 2 ^ n) (h : Lab A F n t n 0) {x : Nat} (hx : F.testBit x = true) : t x = lst A F n x := by
  have hn := bit_lt hF hx
  have same : ∀ y, Rch A F x y → t y = t x := fun y r => by
    induction r with
    | base => rfl
    | @step i k h1 h2 h3 ih => rw [← ih]; exact (h.done i k (h1.lt hF hn) (bit_lt hF h3) (.inl (h1.lt hF hn)) ⟨h1.free hx, h3, h2⟩).symm
  have r := lst_in (A := A) hF hn
  have h1 := same _ r
  have h2 := h.le _ (r.lt hF hn)
  have h3 := lst_least hF hn (h.to x hn)
  omega
/-- The hats of which something is true. -/
def bitsF (p : Nat → Bool) : Nat → Nat
  | 0 => 0
  | k + 1 => if p k = true then bitsF p k ||| 2 ^ k else bitsF p k
theorem bitsF_bit (p : Nat → Bool) (j : Nat) : ∀ n, (bitsF p n).testBit j = true ↔ j < n ∧ p j = true
  | 0 => by unfold bitsF; simp
  | n + 1 => by
    have ih := bitsF_bit p j n
    unfold bitsF
    split
    · rename_i c
      rw [Nat.testBit_or, Bool.or_eq_true, ih]
      by_cases e : j = n
      · subst e
        rw [Nat.testBit_two_pow_self]
        simp [c]
      · rw [Nat.testBit_two_pow_of_ne (Ne.symm e)]
        constructor
        · rintro (⟨a, b⟩ | a)
          · exact ⟨by omega, b⟩
          · cases a
        · rintro ⟨a, b⟩
          exact .inl ⟨by omega, b⟩
    · rename_i c
      rw [ih]
      constructor
      · rintro ⟨a, b⟩; exact ⟨by omega, b⟩
      · rintro ⟨a, b⟩
        refine ⟨?_, b⟩
        by_cases e : j = n
        · subst e; exact absurd b c
        · omega
theorem bitsF_lt (p : Nat → Bool) (n : Nat) : bitsF p n < 2 ^ n := by
  apply Nat.lt_pow_two_of_testBit
  intro i hi
  cases h : (bitsF p n).testBit i with
  | false => rfl
  | true => have := ((bitsF_bit p i n).1 h).1; omega
theorem or_add {x k : Nat} (h : x < 2 ^ k) : x ||| 2 ^ k = x + 2 ^ k := by
  have := Nat.two_pow_add_eq_or_of_lt h 1
  rw [Nat.mul_one] at this
  rw [Nat.or_comm, ← this, Nat.add_comm]
/-- The part that begins with a hat, if there is one. -/
theorem part_is {A : Nat → Nat} {F n : Nat} {t : Nat → Nat} (hA : Shp A n) (hF : F < 2 ^ n) (h : Lab A F n t n 0) {i : Nat} (hi : i < n) :
    bitsF (fun k => decide (t k = i) && F.testBit k) n = if F.testBit i = true ∧ lst A F n i = i then comp A F n i else 0 := by
  refine bit_ext fun k => ?_
  rw [bitsF_bit, Bool.and_eq_true, decide_eq_true_eq]
  split
  · rename_i c
    rw [comp_bit hF hi]
    constructor
    · rintro ⟨h1, h2, h3⟩
      rw [h.is hA hF h3] at h2
      have r := lst_in (A := A) hF h1
      rw [h2] at r
      exact r.symm hA hF h3
    · intro r
      have h3 := r.free c.1
      refine ⟨bit_lt hF h3, ?_, h3⟩
      rw [h.is hA hF h3, lst_same hA hF c.1 r]
      exact c.2
  · rename_i c
    simp only [Nat.zero_testBit, Bool.false_eq_true, iff_false]
    rintro ⟨h1, h2, h3⟩
    rw [h.is hA hF h3] at h2
    have r := lst_in (A := A) hF h1
    rw [h2] at r
    have r2 := r.symm hA hF h3
    exact c ⟨r.free h3, (lst_same hA hF h3 r).trans h2⟩
end Go.Vs
set_option maxRecDepth 100000
set_option maxHeartbeats 4000000
set_option linter.unusedSimpArgs false
set_option linter.unusedVariables false
namespace Go.Proofs.YtnpapnpedcbfnaaDoor
open Go.Ds Go.Vs
/-! ## How many hats a set has -/
theorem wrap_u {a : Nat} (ha : a < 18446744073709551616) : IntKind.u64.wrap (a : Int) = (a : Int) := by
  simp [IntKind.wrap, IntKind.bits, IntKind.signed]
  omega
theorem wr_u {a : Nat} (ha : a < 18446744073709551616) : wrapF .u64 (a : Int) = (a : Int) := by
  show (bif Nat.blt a 18446744073709551616 then _ else _) = _
  rw [blt_d, decide_eq_true ha]; rfl
theorem shr_u (a k : Nat) (hk : k ≤ 60) : intB .shr .u64 (a : Int) (k : Int) = some (.int .u64 ((a / 2 ^ k : Nat) : Int)) := by
  rw [ib_shr (by omega)]
  have h := shr_fact (a : Int) k hk
  show some (Value.int .u64 (Int.fdiv _ (Int.ofNat (Nat.pow 2 (min (k : Int).toNat 64))))) = _
  rw [h]
  simp
theorem and_u {a b : Nat} (hb : b < 9223372036854775808) : intB .and .u64 (a : Int) (b : Int) = some (.int .u64 ((a &&& b : Nat) : Int)) ∨ ¬ a < 18446744073709551616 := by
  by_cases ha : a < 18446744073709551616
  · left
    rw [ib_and]
    have e1 : (BitVec.ofInt IntKind.u64.bits (a : Int)).toNat = a := by
      show (BitVec.ofInt 64 (a : Int)).toNat = a
      rw [BitVec.toNat_ofInt]; omega
    have e2 : (BitVec.ofInt IntKind.u64.bits (b : Int)).toNat = b := by
      show (BitVec.ofInt 64 (b : Int)).toNat = b
      rw [BitVec.toNat_ofInt]; omega
    rw [BitVec.toNat_and, e1, e2, wrap_u (Nat.lt_of_le_of_lt Nat.and_le_left ha)]
  · exact .inr ha
theorem and_u' {a b : Nat} (ha : a < 9223372036854775808) (hb : b < 9223372036854775808) : intB .and .u64 (a : Int) (b : Int) = some (.int .u64 ((a &&& b : Nat) : Int)) := by
  rcases and_u (a := a) hb with h | h
  · exact h
  · omega
theorem add_u {a b : Nat} (h : a + b < 9223372036854775808) : intB .add .u64 (a : Int) (b : Int) = some (.int .u64 ((a + b : Nat) : Int)) := by
  rw [ib_add]
  have : (a : Int) + (b : Int) = ((a + b : Nat) : Int) := by omega
  rw [this, wr_u (by omega)]
def oc1 (x : Nat) : Nat := (x / 2 ^ 1 &&& 6148914691236517205) + (x &&& 6148914691236517205)
def oc2 (x : Nat) : Nat := (x / 2 ^ 2 &&& 3689348814741910323) + (x &&& 3689348814741910323)
def oc3 (x : Nat) : Nat := (x / 2 ^ 4 + x) &&& 1085102592571150095
def oc4 (x : Nat) : Nat := x + x / 2 ^ 8
def oc5 (x : Nat) : Nat := x + x / 2 ^ 16
def oc6 (x : Nat) : Nat := x + x / 2 ^ 32
theorem oc_all : (List.range 1024).all (fun x => Nat.beq (oc6 (oc5 (oc4 (oc3 (oc2 (oc1 x))))) &&& 127) (pc 10 x.testBit)) = true := by decide +kernel
theorem oc_is {x : Nat} (hx : x < 1024) : (oc6 (oc5 (oc4 (oc3 (oc2 (oc1 x))))) &&& 127) = sz x := by
  have h := Nat.eq_of_beq_eq_true (List.all_eq_true.1 oc_all x (List.mem_range.2 hx))
  rw [h, sz_pc 10 x hx]
theorem ones64_rets {X : Caller} (hX : Xfr X) (x : Nat) (hx : x < 1024) (g : GH) : Rets Tryd.prog X 86 [.int .u64 (x : Int)] g (fun v g' lo => g.next ≤ lo ∧ v = .int .i64 (sz x : Nat)) := by
  have L := @Nat.and_le_left
  rw [← oc_is hx]
  obtain ⟨x1, h1⟩ : ∃ y, oc1 x = y := ⟨_, rfl⟩
  obtain ⟨x2, h2⟩ : ∃ y, oc2 x1 = y := ⟨_, rfl⟩
  obtain ⟨x3, h3⟩ : ∃ y, oc3 x2 = y := ⟨_, rfl⟩
  obtain ⟨x4, h4⟩ : ∃ y, oc4 x3 = y := ⟨_, rfl⟩
  obtain ⟨x5, h5⟩ : ∃ y, oc5 x4 = y := ⟨_, rfl⟩
  obtain ⟨x6, h6⟩ : ∃ y, oc6 x5 = y := ⟨_, rfl⟩
  rw [h1, h2, h3, h4, h5, h6]
  have a1 : x / 2 ^ 1 ≤ x := Nat.div_le_self _ _
  have b1 := L (n := x / 2 ^ 1) (m := 6148914691236517205)
  have c1 := L (n := x) (m := 6148914691236517205)
  have d1 : x1 < 2048 := by rw [← h1]; unfold oc1; omega
  have a2 : x1 / 2 ^ 2 ≤ x1 := Nat.div_le_self _ _
  have b2 := L (n := x1 / 2 ^ 2) (m := 3689348814741910323)
  have c2 := L (n := x1) (m := 3689348814741910323)
  have d2 : x2 < 4096 := by rw [← h2]; unfold oc2; omega
  have a3 : x2 / 2 ^ 4 ≤ x2 := Nat.div_le_self _ _
  have b3 := L (n := x2 / 2 ^ 4 + x2) (m := 1085102592571150095)
  have d3 : x3 < 8192 := by rw [← h3]; unfold oc3; omega
  have a4 : x3 / 2 ^ 8 ≤ x3 := Nat.div_le_self _ _
  have d4 : x4 < 16384 := by rw [← h4]; unfold oc4; omega
  have a5 : x4 / 2 ^ 16 ≤ x4 := Nat.div_le_self _ _
  have d5 : x5 < 32768 := by rw [← h5]; unfold oc5; omega
  have a6 : x5 / 2 ^ 32 ≤ x5 := Nat.div_le_self _ _
  have d6 : x6 < 65536 := by rw [← h6]; unfold oc6; omega
  have q1 : intB .shr .u64 (x : Int) 1 = _ := shr_u x 1 (by omega)
  have q2 : intB .and .u64 ((x / 2 ^ 1 : Nat) : Int) 6148914691236517205 = _ := and_u' (a := x / 2 ^ 1) (b := 6148914691236517205) (by omega) (by omega)
  have q3 : intB .and .u64 (x : Int) 6148914691236517205 = _ := and_u' (a := x) (b := 6148914691236517205) (by omega) (by omega)
  have q4 : intB .add .u64 ((x / 2 ^ 1 &&& 6148914691236517205 : Nat) : Int) ((x &&& 6148914691236517205 : Nat) : Int) = some (.int .u64 (x1 : Int)) := by rw [add_u (by omega), ← h1]; rfl
  have r1 : intB .shr .u64 (x1 : Int) 2 = _ := shr_u x1 2 (by omega)
  have r2 : intB .and .u64 ((x1 / 2 ^ 2 : Nat) : Int) 3689348814741910323 = _ := and_u' (a := x1 / 2 ^ 2) (b := 3689348814741910323) (by omega) (by omega)
  have r3 : intB .and .u64 (x1 : Int) 3689348814741910323 = _ := and_u' (a := x1) (b := 3689348814741910323) (by omega) (by omega)
  have r4 : intB .add .u64 ((x1 / 2 ^ 2 &&& 3689348814741910323 : Nat) : Int) ((x1 &&& 3689348814741910323 : Nat) : Int) = some (.int .u64 (x2 : Int)) := by rw [add_u (by omega), ← h2]; rfl
  have s1 : intB .shr .u64 (x2 : Int) 4 = _ := shr_u x2 4 (by omega)
  have s2 : intB .add .u64 ((x2 / 2 ^ 4 : Nat) : Int) (x2 : Int) = _ := add_u (a := x2 / 2 ^ 4) (b := x2) (by omega)
  have s3 : intB .and .u64 ((x2 / 2 ^ 4 + x2 : Nat) : Int) 1085102592571150095 = some (.int .u64 (x3 : Int)) := by
    have := and_u' (a := x2 / 2 ^ 4 + x2) (b := 1085102592571150095) (by omega) (by omega)
    rw [← h3]; exact this
  have t1 : intB .shr .u64 (x3 : Int) 8 = _ := shr_u x3 8 (by omega)
  have t2 : intB .add .u64 (x3 : Int) ((x3 / 2 ^ 8 : Nat) : Int) = some (.int .u64 (x4 : Int)) := by rw [add_u (by omega), ← h4]; rfl
  have t3 : intB .shr .u64 (x4 : Int) 16 = _ := shr_u x4 16 (by omega)
  have t4 : intB .add .u64 (x4 : Int) ((x4 / 2 ^ 16 : Nat) : Int) = some (.int .u64 (x5 : Int)) := by rw [add_u (by omega), ← h5]; rfl
  have t5 : intB .shr .u64 (x5 : Int) 32 = _ := shr_u x5 32 (by omega)
  have t6 : intB .add .u64 (x5 : Int) ((x5 / 2 ^ 32 : Nat) : Int) = some (.int .u64 (x6 : Int)) := by rw [add_u (by omega), ← h6]; rfl
  have z1 : ((x / 2 ^ 1 &&& 6148914691236517205 : Nat) : Int) + ((x &&& 6148914691236517205 : Nat) : Int) = (x1 : Int) := by rw [← h1]; rfl
  have z2 : ((x1 / 2 ^ 2 &&& 3689348814741910323 : Nat) : Int) + ((x1 &&& 3689348814741910323 : Nat) : Int) = (x2 : Int) := by rw [← h2]; rfl
  have z3 : intB .and .u64 (((x2 / 2 ^ 4 : Nat) : Int) + (x2 : Int)) 1085102592571150095 = some (.int .u64 (x3 : Int)) := s3
  have z4 : (x3 : Int) + ((x3 / 2 ^ 8 : Nat) : Int) = (x4 : Int) := by rw [← h4]; rfl
  have z5 : (x4 : Int) + ((x4 / 2 ^ 16 : Nat) : Int) = (x5 : Int) := by rw [← h5]; rfl
  have z6 : (x5 : Int) + ((x5 / 2 ^ 32 : Nat) : Int) = (x6 : Int) := by rw [← h6]; rfl
  have u1 : convF .i64 (.int .u64 (x6 : Int)) = some (.int .i64 (x6 : Int)) := by
    show some (Value.int .i64 (wrapF .i64 (x6 : Int))) = _
    rw [wr64 (by omega) (by omega)]
  have u2 : intB .and .i64 (x6 : Int) 127 = some (.int .i64 ((x6 &&& 127 : Nat) : Int)) := and_i (a := x6) (b := 127) (by omega) (by omega)
  generalize x / 2 ^ 1 = y1 at *
  generalize y1 &&& 6148914691236517205 = y2 at *
  generalize x &&& 6148914691236517205 = y3 at *
  generalize x1 / 2 ^ 2 = y4 at *
  generalize y4 &&& 3689348814741910323 = y5 at *
  generalize x1 &&& 3689348814741910323 = y6 at *
  generalize x2 / 2 ^ 4 = y7 at *
  generalize x3 / 2 ^ 8 = y8 at *
  generalize x4 / 2 ^ 16 = y9 at *
  generalize x5 / 2 ^ 32 = y10 at *
  generalize x6 &&& 127 = y11 at *
  refine Rets.run hX.pres p86 (hX.free 86 (by decide) _ _) rfl fun ho => ?_
  simp +decide (disch := first | assumption | (apply GH.ok_push; assumption) | exact cellV_int _ _ | exact cellV_bool _ | omega) only [go_sem, ↓reduceIte, Nat.reduceEqDiff, Nat.reduceAdd, Int.reduceToNat, q1, q2, q3, q4, r1, r2, r3, r4, s1, s2, s3, t1, t2, t3, t4, t5, t6, u1, u2, z1, z2, z3, z4, z5, z6]
  intro hx0
  exact ⟨Nat.le_refl _, rfl⟩
theorem ones_rets {X : Caller} (hX : Xfr X) (x : Nat) (hx : x < 1024) (g : GH) : Rets Tryd.prog X 71 [.int .u64 (x : Int)] g (fun v g' lo => g.next ≤ lo ∧ v = .int .i64 (sz x : Nat)) := by
  refine Rets.run hX.pres p71 (hX.free 71 (by decide) _ _) rfl fun ho => ?_
  simp +decide (disch := first | assumption | (apply GH.ok_push; assumption) | exact cellV_int _ _ | exact cellV_bool _ | omega) only [go_sem, ↓reduceIte, Nat.reduceEqDiff, Nat.reduceAdd, Int.reduceToNat]
  refine CallD.calm (ones64_rets hX x hx g) ?_
  rintro v G hx1 rfl
  have hn := hx1.next
  simp +decide (disch := first | assumption | (apply GH.ok_push; assumption) | exact cellV_int _ _ | exact cellV_bool _ | omega) only [go_sem, ↓reduceIte, Nat.reduceEqDiff, Nat.reduceAdd, Int.reduceToNat]
  intro hx0
  exact ⟨by omega, rfl⟩
theorem count_rets {X : Caller} (hX : Xfr X) (x : Nat) (hx : x < 1024) (g : GH) : Rets Tryd.prog X 66 [.int .i64 (x : Int)] g (fun v g' lo => g.next ≤ lo ∧ v = .int .i64 (sz x : Nat)) := by
  have h1 := conv_u64 (i := x) (by omega)
  refine Rets.run hX.pres p66 (hX.free 66 (by decide) _ _) rfl fun ho => ?_
  simp +decide (disch := first | assumption | (apply GH.ok_push; assumption) | exact cellV_int _ _ | exact cellV_bool _ | omega) only [go_sem, ↓reduceIte, Nat.reduceEqDiff, Nat.reduceAdd, Int.reduceToNat, h1]
  refine CallD.calm (ones_rets hX x hx g) ?_
  rintro v G hx1 rfl
  have hn := hx1.next
  simp +decide (disch := first | assumption | (apply GH.ok_push; assumption) | exact cellV_int _ _ | exact cellV_bool _ | omega) only [go_sem, ↓reduceIte, Nat.reduceEqDiff, Nat.reduceAdd, Int.reduceToNat]
  intro hx0
  exact ⟨by omega, rfl⟩
end Go.Proofs.YtnpapnpedcbfnaaDoor
set_option maxRecDepth 100000
set_option maxHeartbeats 4000000
set_option linter.unusedSimpArgs false
set_option linter.unusedVariables false
namespace Go.Proofs.YtnpapnpedcbfnaaDoor
open Go.Ds Go.Vs
/-! ## Parts of a shop without a set -/
theorem shp_of {L : List Int} (h : shopB L = true) : Shp (setF L) L.length := by
  obtain ⟨hL1, hL10, hA⟩ := shop_ok h
  exact ⟨fun i hi => (hA i hi).2.1, fun i k hi hk => (hA i hi).2.2.2 k hk⟩
theorem reached_rets {X : Caller} (hX : Xfr X) (L : List Int) (hL : shopB L = true) (s : Value) (F h : Nat) (hF : F < 2 ^ L.length) (hh : h < L.length) (g : GH) (hs : SlR g s (ints L)) :
    Rets Tryd.prog X 68 [s, .int .i64 (F : Int), .int .i64 (h : Int)] g (fun v g' lo => g.next ≤ lo ∧ v = .int .i64 (comp (setF L) F L.length h : Nat)) := by
  obtain ⟨hL1, hL10, hA⟩ := shop_ok hL
  have hl := hs.len
  rw [ints_len] at hl
  have hN : 2 ^ L.length ≤ 1024 := Nat.pow_le_pow_right (by decide) hL10
  have hp0 : 2 ^ h < 2 ^ L.length := Nat.pow_lt_pow_right (by decide) hh
  have hcomp : comp (setF L) F L.length h = clo (setF L) F L.length (2 ^ L.length) (2 ^ h) := rfl
  have hgl := fun p (hp : p < 2 ^ L.length) i => grow_lt (A := setF L) hF hp i
  have hge := fun p => grow_le (setF L) F p L.length
  generalize comp (setF L) F L.length h = C at *
  obtain ⟨N, hNe⟩ : ∃ N, 2 ^ L.length = N := ⟨_, rfl⟩
  rw [hNe] at hN hp0 hcomp hgl hF
  have hA' : ∀ i, i < L.length → L.getD i 0 = (setF L i : Int) ∧ setF L i < N := fun i hi => ⟨(hA i hi).1, by rw [← hNe]; exact (hA i hi).2.1⟩
  refine Rets.run hX.pres p68 (hX.free 68 (by decide) _ _) rfl fun ho => ?_
  simp +decide (disch := first | assumption | exact cellV_int _ _ | exact cellV_bool _ | omega | (simp only [GH.pn, GH.sn] <;> omega) | (with_reducible ((repeat (first | apply GH.ok_push | apply GH.ok_set)); assumption)) | ((try simp only [GH.push_hid, GH.set_hid]); first | assumption | (refine GH.vis ?_ ?_ <;> first | assumption | ((try simp only [GH.pn, GH.sn]) <;> omega)))) only [go_sem, ↓reduceIte, Nat.reduceEqDiff, Nat.reduceAdd, Int.reduceToNat, Int.reduceAdd, Int.reduceNeg, Int.reduceSub, Int.reduceMul, Int.reduceLT, Int.reduceLE, Int.reduceEq, ↓GH.gp_eq, ↓GH.gp_ne, ↓GH.gs_eq, ↓GH.gs_ne, GH.push_next, GH.set_next]
  have hw := with_rets hX 0 h (by omega) (by omega) g
  rw [Nat.zero_or] at hw
  refine CallD.calm hw ?_
  rintro v g1 hx1 rfl
  have hn1 := hx1.next
  have hs1 := hs.ext hx1
  simp +decide (disch := first | assumption | exact cellV_int _ _ | exact cellV_bool _ | omega | (simp only [GH.pn, GH.sn] <;> omega) | (with_reducible ((repeat (first | apply GH.ok_push | apply GH.ok_set)); assumption)) | ((try simp only [GH.push_hid, GH.set_hid]); first | assumption | (refine GH.vis ?_ ?_ <;> first | assumption | ((try simp only [GH.pn, GH.sn]) <;> omega)))) only [go_sem, ↓reduceIte, Nat.reduceEqDiff, Nat.reduceAdd, Int.reduceToNat, Int.reduceAdd, Int.reduceNeg, Int.reduceSub, Int.reduceMul, Int.reduceLT, Int.reduceLE, Int.reduceEq, ↓GH.gp_eq, ↓GH.gp_ne, ↓GH.gs_eq, ↓GH.gs_ne, GH.push_next, GH.set_next]
  refine Wk.loops (fun m e g' lo => g.next ≤ lo ∧ Kept g1 g' ∧ ∃ p : Nat, p < N ∧ N ≤ p + m ∧ C = clo (setF L) F L.length m p ∧ (ev e (.s 0) = s ∧ ev e (.s 1) = .int .i64 (F : Int) ∧ ev e (.s 2) = .int .i64 (h : Int) ∧ ev e (.s 7) = .int .i64 (p : Int)))
    (fun e g' lo => False) (n := N) ?_ ?_ ?_
  · exact ⟨by omega, Kept.refl _, 2 ^ h, hp0, Nat.le_add_left _ _, hcomp, (by simp +decide (disch := first | assumption | (apply GH.ok_push; assumption) | exact cellV_int _ _ | exact cellV_bool _ | omega) only [go_sem, ↓reduceIte, Nat.reduceEqDiff, Nat.reduceAdd, Int.reduceToNat]; first | done | exact rfl)⟩
  · rintro e g' lo - - ⟨⟩
  · rintro m e g' lo ho' hl' ih out ⟨hlo, hk, p, hp, hpm, hC, he⟩
    have hkn := hk.next
    have hs' := hs1.kept hk
    simp +decide (disch := first | assumption | exact cellV_int _ _ | exact cellV_bool _ | omega | (simp only [GH.pn, GH.sn] <;> omega) | (with_reducible ((repeat (first | apply GH.ok_push | apply GH.ok_set)); assumption)) | ((try simp only [GH.push_hid, GH.set_hid]); first | assumption | (refine GH.vis ?_ ?_ <;> first | assumption | ((try simp only [GH.pn, GH.sn]) <;> omega)))) only [go_sem, ↓reduceIte, Nat.reduceEqDiff, Nat.reduceAdd, Int.reduceToNat, Int.reduceAdd, Int.reduceNeg, Int.reduceSub, Int.reduceMul, Int.reduceLT, Int.reduceLE, Int.reduceEq, ↓GH.gp_eq, ↓GH.gp_ne, ↓GH.gs_eq, ↓GH.gs_ne, GH.push_next, GH.set_next, he, hl]
    refine Wk.loops (fun m' e' g'' lo' => g.next ≤ lo' ∧ Kept g1 g'' ∧ ∃ i : Nat, i + m' = L.length ∧ (ev e' (.s 0) = s ∧ ev e' (.s 1) = .int .i64 (F : Int) ∧ ev e' (.s 2) = .int .i64 (h : Int) ∧ ev e' (.s 7) = .int .i64 (p : Int) ∧ ev e' (.s 14) = s ∧ ev e' (.s 15) = .int .i64 (L.length : Int) ∧ ev e' (.s 16) = .int .i64 (i : Int) ∧ ev e' (.s 8) = .int .i64 (grow (setF L) F p i : Nat)))
      (fun e' g'' lo' => g.next ≤ lo' ∧ Kept g1 g'' ∧ (ev e' (.s 0) = s ∧ ev e' (.s 1) = .int .i64 (F : Int) ∧ ev e' (.s 2) = .int .i64 (h : Int) ∧ ev e' (.s 7) = .int .i64 (p : Int) ∧ ev e' (.s 8) = .int .i64 (grow (setF L) F p L.length : Nat))) (n := L.length) ?_ ?_ ?_
    · exact ⟨hlo, hk, 0, by omega, (by simp +decide (disch := first | assumption | (apply GH.ok_push; assumption) | exact cellV_int _ _ | exact cellV_bool _ | omega) only [go_sem, ↓reduceIte, Nat.reduceEqDiff, Nat.reduceAdd, Int.reduceToNat, he, hl]; first | done | exact rfl)⟩
    · rintro e' g'' lo' hog hlg ⟨hlo', hk', he'⟩
      have hg1 := hge p
      have hg2 := hgl p hp L.length
      by_cases c : grow (setF L) F p L.length = p
      · rw [c] at he'
        simp +decide (disch := first | assumption | exact cellV_int _ _ | exact cellV_bool _ | omega | (simp only [GH.pn, GH.sn] <;> omega) | (with_reducible ((repeat (first | apply GH.ok_push | apply GH.ok_set)); assumption)) | ((try simp only [GH.push_hid, GH.set_hid]); first | assumption | (refine GH.vis ?_ ?_ <;> first | assumption | ((try simp only [GH.pn, GH.sn]) <;> omega)))) only [go_sem, ↓reduceIte, Nat.reduceEqDiff, Nat.reduceAdd, Int.reduceToNat, Int.reduceAdd, Int.reduceNeg, Int.reduceSub, Int.reduceMul, Int.reduceLT, Int.reduceLE, Int.reduceEq, ↓GH.gp_eq, ↓GH.gp_ne, ↓GH.gs_eq, ↓GH.gs_ne, GH.push_next, GH.set_next, he']
        intro hx0
        refine ⟨hlo', ?_⟩
        rw [hC, clo_stop c]
      · obtain ⟨m, rfl⟩ : ∃ m', m = m' + 1 := ⟨m - 1, by omega⟩
        rw [clo_go c] at hC
        have c' : ¬ ((grow (setF L) F p L.length : Nat) : Int) = (p : Int) := by omega
        generalize grow (setF L) F p L.length = P at *
        simp +decide (disch := first | assumption | exact cellV_int _ _ | exact cellV_bool _ | omega | (simp only [GH.pn, GH.sn] <;> omega) | (with_reducible ((repeat (first | apply GH.ok_push | apply GH.ok_set)); assumption)) | ((try simp only [GH.push_hid, GH.set_hid]); first | assumption | (refine GH.vis ?_ ?_ <;> first | assumption | ((try simp only [GH.pn, GH.sn]) <;> omega)))) only [go_sem, ↓reduceIte, Nat.reduceEqDiff, Nat.reduceAdd, Int.reduceToNat, Int.reduceAdd, Int.reduceNeg, Int.reduceSub, Int.reduceMul, Int.reduceLT, Int.reduceLE, Int.reduceEq, ↓GH.gp_eq, ↓GH.gp_ne, ↓GH.gs_eq, ↓GH.gs_ne, GH.push_next, GH.set_next, he', c']
        exact ih m _ _ _ (by omega) ⟨hlo', hk', P, hg2, by omega, hC, (by simp +decide (disch := first | assumption | (apply GH.ok_push; assumption) | exact cellV_int _ _ | exact cellV_bool _ | omega) only [go_sem, ↓reduceIte, Nat.reduceEqDiff, Nat.reduceAdd, Int.reduceToNat, he']; first | done | exact rfl)⟩
    · rintro m' e' g'' lo' ho'' hl'' ih' out' ⟨hlo', hk', i, hi, he'⟩
      have hkn' := hk'.next
      by_cases ci : i < L.length
      case neg =>
        have ci' : ¬ (i : Int) < L.length := by omega
        simp +decide (disch := first | assumption | exact cellV_int _ _ | exact cellV_bool _ | omega | (simp only [GH.pn, GH.sn] <;> omega) | (with_reducible ((repeat (first | apply GH.ok_push | apply GH.ok_set)); assumption)) | ((try simp only [GH.push_hid, GH.set_hid]); first | assumption | (refine GH.vis ?_ ?_ <;> first | assumption | ((try simp only [GH.pn, GH.sn]) <;> omega)))) only [go_sem, ↓reduceIte, Nat.reduceEqDiff, Nat.reduceAdd, Int.reduceToNat, Int.reduceAdd, Int.reduceNeg, Int.reduceSub, Int.reduceMul, Int.reduceLT, Int.reduceLE, Int.reduceEq, ↓GH.gp_eq, ↓GH.gp_ne, ↓GH.gs_eq, ↓GH.gs_ne, GH.push_next, GH.set_next, he', ci']
        have : i = L.length := by omega
        subst this
        exact out' _ _ _ ⟨hlo', hk', (by simp +decide (disch := first | assumption | (apply GH.ok_push; assumption) | exact cellV_int _ _ | exact cellV_bool _ | omega) only [go_sem, ↓reduceIte, Nat.reduceEqDiff, Nat.reduceAdd, Int.reduceToNat, he']; first | done | exact rfl)⟩
      have ci' : (i : Int) < L.length := by omega
      obtain ⟨j2, o2, hj2, hq1, hq2⟩ := (hs1.kept hk').ptr (ints_get (D := L) (i := i) ci)
      have hq1 := hq1 (i : Int) rfl
      have hAi := hA' i ci
      rw [hAi.1] at hq2
      have hgr : grow (setF L) F p (i + 1) = if p.testBit i = true then grow (setF L) F p i ||| (setF L i &&& F) else grow (setF L) F p i := rfl
      have hgi := hgl p hp i
      have hhas := has_rets hX (p : Int) i (by omega) g''
      rw [bitI_nat] at hhas
      generalize grow (setF L) F p i = w at *
      generalize setF L i = a at *
      have o1 := and_i (a := a) (b := F) (by omega) (by omega)
      have o2' := or_i (a := w) (b := a &&& F) (by omega) (and_lt' (by omega))
      simp +decide (disch := first | assumption | exact cellV_int _ _ | exact cellV_bool _ | omega | (simp only [GH.pn, GH.sn] <;> omega) | (with_reducible ((repeat (first | apply GH.ok_push | apply GH.ok_set)); assumption)) | ((try simp only [GH.push_hid, GH.set_hid]); first | assumption | (refine GH.vis ?_ ?_ <;> first | assumption | ((try simp only [GH.pn, GH.sn]) <;> omega)))) only [go_sem, ↓reduceIte, Nat.reduceEqDiff, Nat.reduceAdd, Int.reduceToNat, Int.reduceAdd, Int.reduceNeg, Int.reduceSub, Int.reduceMul, Int.reduceLT, Int.reduceLE, Int.reduceEq, ↓GH.gp_eq, ↓GH.gp_ne, ↓GH.gs_eq, ↓GH.gs_ne, GH.push_next, GH.set_next, he', ci', hq1, hq2]
      refine CallD.calm hhas ?_
      rintro v g3 hx3 rfl
      have hn3 := hx3.next
      have hk3 := hk'.ext hx3
      cases c : p.testBit i with
      | true =>
        rw [c, if_pos rfl] at hgr
        simp +decide (disch := first | assumption | exact cellV_int _ _ | exact cellV_bool _ | omega | (simp only [GH.pn, GH.sn] <;> omega) | (with_reducible ((repeat (first | apply GH.ok_push | apply GH.ok_set)); assumption)) | ((try simp only [GH.push_hid, GH.set_hid]); first | assumption | (refine GH.vis ?_ ?_ <;> first | assumption | ((try simp only [GH.pn, GH.sn]) <;> omega)))) only [go_sem, ↓reduceIte, Nat.reduceEqDiff, Nat.reduceAdd, Int.reduceToNat, Int.reduceAdd, Int.reduceNeg, Int.reduceSub, Int.reduceMul, Int.reduceLT, Int.reduceLE, Int.reduceEq, ↓GH.gp_eq, ↓GH.gp_ne, ↓GH.gs_eq, ↓GH.gs_ne, GH.push_next, GH.set_next, he', o1, o2']
        refine ih' (m' - 1) _ _ _ (by omega) ⟨hlo', hk3, i + 1, by omega, ?_⟩
        rw [hgr]
        exact (by simp +decide (disch := first | assumption | (apply GH.ok_push; assumption) | exact cellV_int _ _ | exact cellV_bool _ | omega) only [go_sem, ↓reduceIte, Nat.reduceEqDiff, Nat.reduceAdd, Int.reduceToNat, he']; first | done | exact rfl)
      | false =>
        rw [c, if_neg (by simp)] at hgr
        simp +decide (disch := first | assumption | exact cellV_int _ _ | exact cellV_bool _ | omega | (simp only [GH.pn, GH.sn] <;> omega) | (with_reducible ((repeat (first | apply GH.ok_push | apply GH.ok_set)); assumption)) | ((try simp only [GH.push_hid, GH.set_hid]); first | assumption | (refine GH.vis ?_ ?_ <;> first | assumption | ((try simp only [GH.pn, GH.sn]) <;> omega)))) only [go_sem, ↓reduceIte, Nat.reduceEqDiff, Nat.reduceAdd, Int.reduceToNat, Int.reduceAdd, Int.reduceNeg, Int.reduceSub, Int.reduceMul, Int.reduceLT, Int.reduceLE, Int.reduceEq, ↓GH.gp_eq, ↓GH.gp_ne, ↓GH.gs_eq, ↓GH.gs_ne, GH.push_next, GH.set_next, he']
        refine ih' (m' - 1) _ _ _ (by omega) ⟨hlo', hk3, i + 1, by omega, ?_⟩
        rw [hgr]
        exact (by simp +decide (disch := first | assumption | (apply GH.ok_push; assumption) | exact cellV_int _ _ | exact cellV_bool _ | omega) only [go_sem, ↓reduceIte, Nat.reduceEqDiff, Nat.reduceAdd, Int.reduceToNat, he']; first | done | exact rfl)
/-- The program's list. -/
def partsI (A : Nat → Nat) (F n i : Nat) : List Int := (ptsL A F n i).map fun x => ((x : Nat) : Int)
theorem ptsL_len (A : Nat → Nat) (F n : Nat) : ∀ i, (ptsL A F n i).length ≤ i
  | 0 => Nat.le_refl _
  | i + 1 => by
    have := ptsL_len A F n i
    unfold ptsL
    split
    · simp; omega
    · omega
theorem ptsL_lt {A : Nat → Nat} {F n : Nat} (hF : F < 2 ^ n) : ∀ i, i ≤ n → ∀ x ∈ ptsL A F n i, x < 2 ^ n
  | 0, _, x, h => by unfold ptsL at h; cases h
  | i + 1, hi, x, h => by
    unfold ptsL at h
    split at h
    · rcases List.mem_append.1 h with h | h
      · exact ptsL_lt hF i (by omega) x h
      · rw [List.mem_singleton] at h
        subst h
        exact comp_lt hF (by omega)
    · exact ptsL_lt hF i (by omega) x h
theorem parts_rets {X : Caller} (hX : Xfr X) (L : List Int) (hL : shopB L = true) (s : Value) (S F : Nat) (hS : S < 2 ^ L.length) (hFe : F = andn (allN L.length) S) (g : GH) (hs : SlR g s (ints L)) :
    Rets Tryd.prog X 61 [s, .int .i64 (S : Int)] g (fun v g' lo => g.next ≤ lo ∧ g'.ok ∧ Kept g g' ∧ OwnM g' v (ints (partsI (setF L) F L.length L.length)) 3 g.next) := by
  obtain ⟨hL1, hL10, hA⟩ := shop_ok hL
  have hA := shp_of hL
  have hl := hs.len
  rw [ints_len] at hl
  have hall : allN L.length < 2 ^ L.length := all_lt _
  have hF : F < 2 ^ L.length := by rw [hFe]; exact Nat.lt_of_le_of_lt (andn_le _ _) hall
  have hN : 2 ^ L.length ≤ 1024 := Nat.pow_le_pow_right (by decide) hL10
  have ha := allHats_rets hX L hL10 s g hs
  have hpos := Nat.two_pow_pos L.length
  have hea : (2 : Int) ^ L.length - 1 = ((allN L.length : Nat) : Int) := by
    unfold allN
    have e2 : ((2 ^ L.length : Nat) : Int) = 2 ^ L.length := by simp
    rw [← e2]
    omega
  rw [hea] at ha
  have o1 := andn_i (a := allN L.length) (b := S) (by omega) (by omega)
  rw [← hFe] at o1
  have hfl := fun i => frL_lt (A := setF L) hF i
  have hat := fun i (hi : i < L.length) => frL_at (i := i) hA hL10 hF hi
  have hfc := fun i (hi : i < L.length) => comp_fr (i := i) hA hL10 hF hi
  have hcl := fun i (hi : i < L.length) => comp_lt (A := setF L) hF hi
  refine Rets.run hX.pres p61 (hX.free 61 (by decide) _ _) rfl fun ho => ?_
  simp +decide (disch := first | assumption | exact cellV_int _ _ | exact cellV_bool _ | omega | (simp only [GH.pn, GH.sn] <;> omega) | (with_reducible ((repeat (first | apply GH.ok_push | apply GH.ok_set)); assumption)) | ((try simp only [GH.push_hid, GH.set_hid]); first | assumption | (refine GH.vis ?_ ?_ <;> first | assumption | ((try simp only [GH.pn, GH.sn]) <;> omega)))) only [go_sem, ↓reduceIte, Nat.reduceEqDiff, Nat.reduceAdd, Int.reduceToNat, Int.reduceAdd, Int.reduceNeg, Int.reduceSub, Int.reduceMul, Int.reduceLT, Int.reduceLE, Int.reduceEq, ↓GH.gp_eq, ↓GH.gp_ne, ↓GH.gs_eq, ↓GH.gs_ne, GH.push_next, GH.set_next]
  refine CallD.calm ha ?_
  rintro v g1 hx1 rfl
  have hn1 := hx1.next
  have hs1 := hs.ext hx1
  have hk1 : Kept g g1 := hx1.kept
  simp +decide (disch := first | assumption | exact cellV_int _ _ | exact cellV_bool _ | omega | (simp only [GH.pn, GH.sn] <;> omega) | (with_reducible ((repeat (first | apply GH.ok_push | apply GH.ok_set)); assumption)) | ((try simp only [GH.push_hid, GH.set_hid]); first | assumption | (refine GH.vis ?_ ?_ <;> first | assumption | ((try simp only [GH.pn, GH.sn]) <;> omega)))) only [go_sem, ↓reduceIte, Nat.reduceEqDiff, Nat.reduceAdd, Int.reduceToNat, Int.reduceAdd, Int.reduceNeg, Int.reduceSub, Int.reduceMul, Int.reduceLT, Int.reduceLE, Int.reduceEq, ↓GH.gp_eq, ↓GH.gp_ne, ↓GH.gs_eq, ↓GH.gs_ne, GH.push_next, GH.set_next, o1, hl]
  refine Wk.loops (fun m e g' lo => g.next ≤ lo ∧ Kept g g' ∧ ∃ (i : Nat) (o : Value), i + m = L.length ∧ (ev e (.s 0) = s ∧ ev e (.s 5) = o ∧ ev e (.s 6) = .int .i64 (frL (setF L) F L.length i : Nat) ∧ ev e (.s 14) = .int .i64 (L.length : Int) ∧ ev e (.s 15) = .int .i64 (i : Int)) ∧ OwnM g' o (ints (partsI (setF L) F L.length i)) 3 g.next)
    (fun e g' lo => g.next ≤ lo ∧ Kept g g' ∧ ∃ o, ev e (.s 5) = o ∧ OwnM g' o (ints (partsI (setF L) F L.length L.length)) 3 g.next) (n := L.length) ?_ ?_ ?_
  · exact ⟨by omega, hk1, 0, _, by omega, (by simp +decide (disch := first | assumption | (apply GH.ok_push; assumption) | exact cellV_int _ _ | exact cellV_bool _ | omega) only [go_sem, ↓reduceIte, Nat.reduceEqDiff, Nat.reduceAdd, Int.reduceToNat, hl]; first | done | exact rfl), OwnM.nil⟩
  · rintro e g' lo hog hlg ⟨hlo, hk, o, he, hown⟩
    simp +decide (disch := first | assumption | exact cellV_int _ _ | exact cellV_bool _ | omega | (simp only [GH.pn, GH.sn] <;> omega) | (with_reducible ((repeat (first | apply GH.ok_push | apply GH.ok_set)); assumption)) | ((try simp only [GH.push_hid, GH.set_hid]); first | assumption | (refine GH.vis ?_ ?_ <;> first | assumption | ((try simp only [GH.pn, GH.sn]) <;> omega)))) only [go_sem, ↓reduceIte, Nat.reduceEqDiff, Nat.reduceAdd, Int.reduceToNat, Int.reduceAdd, Int.reduceNeg, Int.reduceSub, Int.reduceMul, Int.reduceLT, Int.reduceLE, Int.reduceEq, ↓GH.gp_eq, ↓GH.gp_ne, ↓GH.gs_eq, ↓GH.gs_ne, GH.push_next, GH.set_next, he]
    intro hx0
    exact ⟨hlo, hog, hk, hown⟩
  · rintro m e g' lo ho' hl' ih out ⟨hlo, hk, i, o, him, he, hown⟩
    have hkn := hk.next
    by_cases ci : i < L.length
    case neg =>
      have ci' : ¬ (i : Int) < L.length := by omega
      simp +decide (disch := first | assumption | exact cellV_int _ _ | exact cellV_bool _ | omega | (simp only [GH.pn, GH.sn] <;> omega) | (with_reducible ((repeat (first | apply GH.ok_push | apply GH.ok_set)); assumption)) | ((try simp only [GH.push_hid, GH.set_hid]); first | assumption | (refine GH.vis ?_ ?_ <;> first | assumption | ((try simp only [GH.pn, GH.sn]) <;> omega)))) only [go_sem, ↓reduceIte, Nat.reduceEqDiff, Nat.reduceAdd, Int.reduceToNat, Int.reduceAdd, Int.reduceNeg, Int.reduceSub, Int.reduceMul, Int.reduceLT, Int.reduceLE, Int.reduceEq, ↓GH.gp_eq, ↓GH.gp_ne, ↓GH.gs_eq, ↓GH.gs_ne, GH.push_next, GH.set_next, he, ci']
      have : i = L.length := by omega
      subst this
      exact out _ _ _ ⟨hlo, hk, o, (by simp +decide (disch := first | assumption | (apply GH.ok_push; assumption) | exact cellV_int _ _ | exact cellV_bool _ | omega) only [go_sem, ↓reduceIte, Nat.reduceEqDiff, Nat.reduceAdd, Int.reduceToNat, he]; first | done | exact rfl), hown⟩
    have ci' : (i : Int) < L.length := by omega
    have hhas := has_rets hX (frL (setF L) F L.length i : Nat) i (by omega) g'
    rw [bitI_nat] at hhas
    have hfr : frL (setF L) F L.length (i + 1) = if (frL (setF L) F L.length i).testBit i = true then andn (frL (setF L) F L.length i) (comp (setF L) F L.length i) else frL (setF L) F L.length i := rfl
    have hpt : partsI (setF L) F L.length (i + 1) = if F.testBit i = true ∧ lst (setF L) F L.length i = i then partsI (setF L) F L.length i ++ [((comp (setF L) F L.length i : Nat) : Int)] else partsI (setF L) F L.length i := by
      unfold partsI
      show (if _ then _ else _ : List Nat).map _ = _
      split
      · rw [List.map_append]; rfl
      · rfl
    have h1 := hat i ci
    have h2 := hfc i ci
    have h3 := hfl i
    have h4 := hcl i ci
    have hpl : (partsI (setF L) F L.length i).length ≤ i := by unfold partsI; rw [List.length_map]; exact ptsL_len _ _ _ _
    have hkk := hk
    have hre := fun (G : GH) (hk : Kept g' G) => reached_rets hX L hL s (frL (setF L) F L.length i) i h3 ci G (hs.kept (hkk.trans hk))
    simp +decide (disch := first | assumption | exact cellV_int _ _ | exact cellV_bool _ | omega | (simp only [GH.pn, GH.sn] <;> omega) | (with_reducible ((repeat (first | apply GH.ok_push | apply GH.ok_set)); assumption)) | ((try simp only [GH.push_hid, GH.set_hid]); first | assumption | (refine GH.vis ?_ ?_ <;> first | assumption | ((try simp only [GH.pn, GH.sn]) <;> omega)))) only [go_sem, ↓reduceIte, Nat.reduceEqDiff, Nat.reduceAdd, Int.reduceToNat, Int.reduceAdd, Int.reduceNeg, Int.reduceSub, Int.reduceMul, Int.reduceLT, Int.reduceLE, Int.reduceEq, ↓GH.gp_eq, ↓GH.gp_ne, ↓GH.gs_eq, ↓GH.gs_ne, GH.push_next, GH.set_next, he, ci']
    refine CallD.calm hhas ?_
    rintro v g3 hx3 rfl
    have hn3 := hx3.next
    have hk3 : Kept g' g3 := hx3.kept
    have hok3 := hx3.ok ho'
    cases c : (frL (setF L) F L.length i).testBit i with
    | false =>
      rw [c, if_neg (by simp)] at hfr
      rw [if_neg (fun q => by rw [h1.2 q] at c; cases c)] at hpt
      simp +decide (disch := first | assumption | exact cellV_int _ _ | exact cellV_bool _ | omega | (simp only [GH.pn, GH.sn] <;> omega) | (with_reducible ((repeat (first | apply GH.ok_push | apply GH.ok_set)); assumption)) | ((try simp only [GH.push_hid, GH.set_hid]); first | assumption | (refine GH.vis ?_ ?_ <;> first | assumption | ((try simp only [GH.pn, GH.sn]) <;> omega)))) only [go_sem, ↓reduceIte, Nat.reduceEqDiff, Nat.reduceAdd, Int.reduceToNat, Int.reduceAdd, Int.reduceNeg, Int.reduceSub, Int.reduceMul, Int.reduceLT, Int.reduceLE, Int.reduceEq, ↓GH.gp_eq, ↓GH.gp_ne, ↓GH.gs_eq, ↓GH.gs_ne, GH.push_next, GH.set_next, he]
      refine ih (m - 1) _ _ _ (by omega) ⟨hlo, hk.trans hk3, i + 1, o, by omega, ?_, by rw [hpt]; exact hown.kept hk3⟩
      rw [hfr]
      exact (by simp +decide (disch := first | assumption | (apply GH.ok_push; assumption) | exact cellV_int _ _ | exact cellV_bool _ | omega) only [go_sem, ↓reduceIte, Nat.reduceEqDiff, Nat.reduceAdd, Int.reduceToNat, he]; first | done | exact rfl)
    | true =>
      rw [c, if_pos rfl] at hfr
      rw [if_pos (h1.1 c)] at hpt
      rw [h2 c] at hre
      generalize frL (setF L) F L.length i = fr at *
      generalize comp (setF L) F L.length i = C at *
      have o2 := andn_i (a := fr) (b := C) (by omega) (by omega)
      simp +decide (disch := first | assumption | exact cellV_int _ _ | exact cellV_bool _ | omega | (simp only [GH.pn, GH.sn] <;> omega) | (with_reducible ((repeat (first | apply GH.ok_push | apply GH.ok_set)); assumption)) | ((try simp only [GH.push_hid, GH.set_hid]); first | assumption | (refine GH.vis ?_ ?_ <;> first | assumption | ((try simp only [GH.pn, GH.sn]) <;> omega)))) only [go_sem, ↓reduceIte, Nat.reduceEqDiff, Nat.reduceAdd, Int.reduceToNat, Int.reduceAdd, Int.reduceNeg, Int.reduceSub, Int.reduceMul, Int.reduceLT, Int.reduceLE, Int.reduceEq, ↓GH.gp_eq, ↓GH.gp_ne, ↓GH.gs_eq, ↓GH.gs_ne, GH.push_next, GH.set_next, he]
      refine CallD.calm (hre g3 hk3) ?_
      rintro v g4 hx4 rfl
      have hn4 := hx4.next
      have hok4 := hx4.ok hok3
      have hk4 : Kept g' g4 := hk3.ext hx4
      have hkp := (hk.trans hk4).push hok4 (cellsOb [.int .i64 (C : Int)] 3)
      simp +decide (disch := first | assumption | exact cellV_int _ _ | exact cellV_bool _ | omega | (simp only [GH.pn, GH.sn] <;> omega) | (with_reducible ((repeat (first | apply GH.ok_push | apply GH.ok_set)); assumption)) | ((try simp only [GH.push_hid, GH.set_hid]); first | assumption | (refine GH.vis ?_ ?_ <;> first | assumption | ((try simp only [GH.pn, GH.sn]) <;> omega)))) only [go_sem, ↓reduceIte, Nat.reduceEqDiff, Nat.reduceAdd, Int.reduceToNat, Int.reduceAdd, Int.reduceNeg, Int.reduceSub, Int.reduceMul, Int.reduceLT, Int.reduceLE, Int.reduceEq, ↓GH.gp_eq, ↓GH.gp_ne, ↓GH.gs_eq, ↓GH.gs_ne, GH.push_next, GH.set_next, he, o2]
      refine AppD.ownM (lw := g.next) ((hown.kept hk4).kept ((Kept.refl g4).push hok4 _)) (SlR.one hok4 _ _) (by simp) rfl (by simp [ints_len]; omega) (by simp [GH.push]; omega) hlo (Nat.le_refl _) (GH.ok_push hok4) (fun s' g5 lo5 sp wr hgr hlo5 => ?_)
      have hk5 := hkp.grewM hgr (Nat.le_refl _)
      have hown5 := hgr.own
      simp +decide (disch := first | assumption | exact cellV_int _ _ | exact cellV_bool _ | omega | (simp only [GH.pn, GH.sn] <;> omega) | (with_reducible ((repeat (first | apply GH.ok_push | apply GH.ok_set)); assumption)) | ((try simp only [GH.push_hid, GH.set_hid]); first | assumption | (refine GH.vis ?_ ?_ <;> first | assumption | ((try simp only [GH.pn, GH.sn]) <;> omega)))) only [go_sem, ↓reduceIte, Nat.reduceEqDiff, Nat.reduceAdd, Int.reduceToNat, Int.reduceAdd, Int.reduceNeg, Int.reduceSub, Int.reduceMul, Int.reduceLT, Int.reduceLE, Int.reduceEq, ↓GH.gp_eq, ↓GH.gp_ne, ↓GH.gs_eq, ↓GH.gs_ne, GH.push_next, GH.set_next, he, o2]
      refine ih (m - 1) _ _ _ (by omega) ⟨hlo5, hk5, i + 1, s', by omega, ?_, ?_⟩
      · rw [hfr]
        exact (by simp +decide (disch := first | assumption | (apply GH.ok_push; assumption) | exact cellV_int _ _ | exact cellV_bool _ | omega) only [go_sem, ↓reduceIte, Nat.reduceEqDiff, Nat.reduceAdd, Int.reduceToNat, he, o2]; first | done | exact rfl)
      · rw [hpt, ints_app]
        exact hown5
end Go.Proofs.YtnpapnpedcbfnaaDoor
set_option maxRecDepth 100000
set_option maxHeartbeats 8000000
set_option linter.unusedSimpArgs false
set_option linter.unusedVariables false
namespace Go.Proofs.YtnpapnpedcbfnaaDoor
open Go.Ds Go.Vs
/-! ## Sorting a short row, ascending -/
def Srt (L : List Int) : Prop := ∀ p q, p < q → q < L.length → L.getD p 0 ≤ L.getD q 0
theorem getD_at {L : List Int} {i : Nat} (h : i < L.length) : L.getD i 0 = L[i] := by simp [h]
theorem Srt.pairwise {L : List Int} (h : Srt L) : L.Pairwise (· ≤ ·) := by
  rw [List.pairwise_iff_getElem]
  intro i j hi hj hij
  have := h i j hij hj
  rw [getD_at hi, getD_at hj] at this
  exact this
theorem Srt.unique {A B : List Int} (ha : Srt A) (hb : Srt B) (hp : A.Perm B) : A = B :=
  List.Perm.eq_of_pairwise (le := (· ≤ ·)) (fun a b _ _ h1 h2 => Int.le_antisymm h1 h2) ha.pairwise hb.pairwise hp
/-- The numbers at two places exchanged. -/
def swp (L : List Int) (i j : Nat) : List Int := (L.set i (L.getD j 0)).set j (L.getD i 0)
theorem swp_len (L : List Int) (i j : Nat) : (swp L i j).length = L.length := by simp [swp]
theorem getD_set' {L : List Int} {i k : Nat} {x : Int} (h : i < L.length) : (L.set i x).getD k 0 = if k = i then x else L.getD k 0 := by
  rw [List.getD_eq_getElem?_getD, List.getElem?_set, List.getD_eq_getElem?_getD]
  by_cases c : k = i
  · subst c; simp [h]
  · rw [if_neg (Ne.symm c), if_neg c]
theorem swp_get {L : List Int} {i j : Nat} (hi : i < L.length) (hj : j < L.length) (k : Nat) : (swp L i j).getD k 0 = if k = j then L.getD i 0 else if k = i then L.getD j 0 else L.getD k 0 := by
  rw [swp, getD_set' (by simpa using hj), getD_set' hi]
theorem swp_perm {L : List Int} {i j : Nat} (hi : i < L.length) (hj : j < L.length) (hne : i ≠ j) : (swp L i j).Perm L := by
  rw [List.perm_iff_count]
  intro a
  have hj' : j < (L.set i (L.getD j 0)).length := by simpa using hj
  rw [swp, List.count_set hj', List.count_set hi]
  have e1 : (L.set i (L.getD j 0))[j]'hj' = L[j] := by rw [List.getElem_set_ne hne]
  rw [e1, getD_at hi, getD_at hj]
  have c1 : L[i] ∈ L := List.getElem_mem hi
  have p1 : L[i] = a → 0 < List.count a L := fun h => List.count_pos_iff.2 (h ▸ c1)
  by_cases a1 : L[i] = a
  · have := p1 a1
    by_cases a2 : L[j] = a <;> simp [a1, a2] <;> omega
  · by_cases a2 : L[j] = a <;> simp [a1, a2]
theorem isNaN_rets {X : Caller} (hX : Xfr X) (x : Int) (g : GH) : Rets Tryd.prog X 92 [.int .i64 x] g (fun v g' lo => g.next ≤ lo ∧ v = .bool false) := by
  refine Rets.run hX.pres p92 (hX.free 92 (by decide) _ _) rfl fun ho => ?_
  simp +decide (disch := first | assumption | (apply GH.ok_push; assumption) | exact cellV_int _ _ | exact cellV_bool _ | omega) only [go_sem, ↓reduceIte, Nat.reduceEqDiff, Nat.reduceAdd, Int.reduceToNat, eq_self]
  intro hx
  exact ⟨Nat.le_refl _, rfl⟩
theorem cmpLess_rets {X : Caller} (hX : Xfr X) (x y : Int) (g : GH) : Rets Tryd.prog X 80 [.int .i64 x, .int .i64 y] g (fun v g' lo => g.next ≤ lo ∧ v = .bool (decide (x < y))) := by
  refine Rets.run hX.pres p80 (hX.free 80 (by decide) _ _) rfl fun ho => ?_
  simp +decide (disch := first | assumption | (apply GH.ok_push; assumption) | exact cellV_int _ _ | exact cellV_bool _ | omega) only [go_sem, ↓reduceIte, Nat.reduceEqDiff, Nat.reduceAdd, Int.reduceToNat]
  refine CallD.calm (isNaN_rets hX x g) ?_
  rintro v G hx rfl
  have hn := hx.next
  by_cases c : x < y
  · simp +decide (disch := first | assumption | (apply GH.ok_push; assumption) | exact cellV_int _ _ | exact cellV_bool _ | omega) only [go_sem, ↓reduceIte, Nat.reduceEqDiff, Nat.reduceAdd, Int.reduceToNat]
    intro hx0
    exact ⟨by omega, by first | rfl | simp [c]⟩
  · simp +decide (disch := first | assumption | (apply GH.ok_push; assumption) | exact cellV_int _ _ | exact cellV_bool _ | omega) only [go_sem, ↓reduceIte, Nat.reduceEqDiff, Nat.reduceAdd, Int.reduceToNat]
    intro hx0
    exact ⟨by omega, by first | rfl | simp [c]⟩
/-- A prefix is sorted but for one place. -/
def Ins (L : List Int) (i j : Nat) : Prop := ∀ p q, p < q → q ≤ i → q ≠ j → L.getD p 0 ≤ L.getD q 0
theorem Ins.done {L : List Int} {i j : Nat} (h : Ins L i j) (hj : j = 0 ∨ L.getD (j - 1) 0 ≤ L.getD j 0) : ∀ p q, p < q → q ≤ i → L.getD p 0 ≤ L.getD q 0 := by
  intro p q hpq hq
  by_cases c : q = j
  · subst c
    rcases hj with hj | hj
    · omega
    · by_cases c2 : p = q - 1
      · rw [c2]; exact hj
      · have := h p (q - 1) (by omega) (by omega) (by omega)
        omega
  · exact h p q hpq hq c
theorem Ins.step {L : List Int} {i j : Nat} (h : Ins L i j) (hj : 0 < j) (hji : j ≤ i) (hi : i < L.length) (hlt : L.getD j 0 < L.getD (j - 1) 0) : Ins (swp L j (j - 1)) i (j - 1) := by
  intro p q hpq hq hne
  have e := swp_get (L := L) (i := j) (j := j - 1) (by omega) (by omega)
  rw [e, e, if_neg hne]
  by_cases cq : q = j
  · rw [if_pos cq]
    by_cases cp : p = j - 1
    · rw [if_pos cp]; omega
    · rw [if_neg cp, if_neg (by omega)]
      exact h p (j - 1) (by omega) (by omega) (by omega)
  · rw [if_neg cq]
    by_cases cp : p = j - 1
    · rw [if_pos cp]
      exact h j q (by omega) hq cq
    · rw [if_neg cp]
      by_cases cp2 : p = j
      · rw [if_pos cp2]; exact h (j - 1) q (by omega) hq cq
      · rw [if_neg cp2]; exact h p q hpq hq cq
structure SortR (g : GH) (base lw : Nat) (t : TypeId) (s : Value) (L0 L : List Int) (g' : GH) (lo : Nat) : Prop where
  low : lw ≤ lo
  ok : g'.ok
  below : Below0 g g' base
  row : Row g' s (ints L) t base
  perm : L.Perm L0
theorem insort_rets {X : Caller} (hX : Xfr X) (L0 : List Int) (hn : L0.length < 1000000) (s : Value) (t : TypeId) (base lw : Nat) (g : GH) (hb : base ≤ g.next) (hlw : lw ≤ base) (hr : Row g s (ints L0) t base) :
    Rets Tryd.prog X 74 [s, .int .i64 0, .int .i64 L0.length] g (fun v g' lo => ∃ R, SortR g base lw t s L0 R g' lo ∧ Srt R) := by
  refine Rets.run hX.pres p74 (hX.free 74 (by decide) _ _) rfl fun ho => ?_
  simp +decide (disch := first | assumption | (apply GH.ok_push; assumption) | exact cellV_int _ _ | exact cellV_bool _ | omega) only [go_sem, ↓reduceIte, Nat.reduceEqDiff, Nat.reduceAdd, Int.reduceToNat]
  refine Wk.loops (fun m e g' lo => ∃ (L : List Int) (i : Nat), SortR g base lw t s L0 L g' lo ∧ i + m = max L0.length 1 ∧ 1 ≤ i ∧ (ev e (.s 0) = s ∧ ev e (.s 1) = .int .i64 0 ∧ ev e (.s 2) = .int .i64 L0.length ∧ ev e (.s 6) = .int .i64 i) ∧ ∀ p q, p < q → q < i → L.getD p 0 ≤ L.getD q 0)
    (fun e g' lo => ∃ L, SortR g base lw t s L0 L g' lo ∧ Srt L) (n := max L0.length 1 - 1) ?_ ?_ ?_
  · exact ⟨L0, 1, ⟨by omega, ho, Below0.refl _ _, hr, List.Perm.refl _⟩, by omega, Nat.le_refl _, (by simp +decide (disch := first | assumption | (apply GH.ok_push; assumption) | exact cellV_int _ _ | exact cellV_bool _ | omega) only [go_sem, ↓reduceIte, Nat.reduceEqDiff, Nat.reduceAdd, Int.reduceToNat]; first | done | exact rfl), fun p q h1 h2 => by omega⟩
  · rintro e g' lo - - ⟨L, hs, hr⟩
    simp +decide (disch := first | assumption | (apply GH.ok_push; assumption) | exact cellV_int _ _ | exact cellV_bool _ | omega) only [go_sem, ↓reduceIte, Nat.reduceEqDiff, Nat.reduceAdd, Int.reduceToNat]
    intro hx
    exact ⟨L, hs, hr⟩
  · rintro m e g' lo ho' hl' ih out ⟨L, i, hs, him, hi1, he, hsr⟩
    have hLl : L.length = L0.length := hs.perm.length_eq
    by_cases c : i < L0.length
    · simp +decide (disch := first | assumption | (apply GH.ok_push; assumption) | exact cellV_int _ _ | exact cellV_bool _ | omega) only [go_sem, ↓reduceIte, Nat.reduceEqDiff, Nat.reduceAdd, Int.reduceToNat, he]
      refine Wk.loops (fun m e g' lo => ∃ (L : List Int) (j : Nat), j = m ∧ SortR g base lw t s L0 L g' lo ∧ j ≤ i ∧ (ev e (.s 0) = s ∧ ev e (.s 1) = .int .i64 0 ∧ ev e (.s 2) = .int .i64 L0.length ∧ ev e (.s 6) = .int .i64 i ∧ ev e (.s 7) = .int .i64 j) ∧ Ins L i j)
        (fun e g' lo => ∃ (L : List Int), SortR g base lw t s L0 L g' lo ∧ (ev e (.s 0) = s ∧ ev e (.s 1) = .int .i64 0 ∧ ev e (.s 2) = .int .i64 L0.length ∧ ev e (.s 6) = .int .i64 i) ∧ ∀ p q, p < q → q ≤ i → L.getD p 0 ≤ L.getD q 0) (n := i) ?_ ?_ ?_
      · exact ⟨L, i, rfl, hs, Nat.le_refl _, (by simp +decide (disch := first | assumption | (apply GH.ok_push; assumption) | exact cellV_int _ _ | exact cellV_bool _ | omega) only [go_sem, ↓reduceIte, Nat.reduceEqDiff, Nat.reduceAdd, Int.reduceToNat, he]; first | done | exact rfl), fun p q h1 h2 h3 => hsr p q h1 (by omega)⟩
      · rintro e g' lo - - ⟨L, hs, he, hr⟩
        simp +decide (disch := first | assumption | (apply GH.ok_push; assumption) | exact cellV_int _ _ | exact cellV_bool _ | omega) only [go_sem, ↓reduceIte, Nat.reduceEqDiff, Nat.reduceAdd, Int.reduceToNat, he]
        exact ih (m - 1) _ _ _ (by omega) ⟨L, i + 1, hs, by omega, by omega, (by simp +decide (disch := first | assumption | (apply GH.ok_push; assumption) | exact cellV_int _ _ | exact cellV_bool _ | omega) only [go_sem, ↓reduceIte, Nat.reduceEqDiff, Nat.reduceAdd, Int.reduceToNat, he]; first | done | exact rfl), fun p q h1 h2 => hr p q h1 (by omega)⟩
      · rintro m2 e g' lo ho' hl' ih2 out2 ⟨L, j, rfl, hs, hji, he, hins⟩
        have hLl : L.length = L0.length := hs.perm.length_eq
        have hnx := hs.below.next
        by_cases cj : 0 < j
        · obtain ⟨j1, b1, x1, l1, a1⟩ := hs.row.at (ints_get (D := L) (i := j) (by omega))
          obtain ⟨j2, b2, x2, l2, a2⟩ := hs.row.at (ints_get (D := L) (i := j - 1) (by omega))
          have x1 := x1 (j : Int) rfl
          have x2 := x2 ((j : Int) - 1) (by omega)
          simp +decide (disch := first | assumption | (apply GH.ok_push; assumption) | exact cellV_int _ _ | exact cellV_bool _ | omega) only [go_sem, ↓reduceIte, Nat.reduceEqDiff, Nat.reduceAdd, Int.reduceToNat, he, x1, x2, l1, l2]
          refine CallD.calm (cmpLess_rets hX (L.getD j 0) (L.getD (j - 1) 0) g') ?_
          rintro v G hx rfl
          have hk : Kept g' G := hx.kept
          have hn1 := hk.next
          have hokG := hx.ok ho'
          have hlow := hs.low
          have hs : SortR g base lw t s L0 L G lo := ⟨by omega, hokG, hs.below.kept hk (by omega), hs.row.kept hk, hs.perm⟩
          by_cases d : L.getD j 0 < L.getD (j - 1) 0
          · rw [decide_eq_true d]
            obtain ⟨j1, b1, x1, l1, a1⟩ := hs.row.at (ints_get (D := L) (i := j) (by omega))
            obtain ⟨j2, b2, x2, l2, a2⟩ := hs.row.at (ints_get (D := L) (i := j - 1) (by omega))
            have x1 := x1 (j : Int) rfl
            have x2 := x2 ((j : Int) - 1) (by omega)
            simp +decide (disch := first | assumption | (apply GH.ok_push; assumption) | exact cellV_int _ _ | exact cellV_bool _ | omega) only [go_sem, ↓reduceIte, Nat.reduceEqDiff, Nat.reduceAdd, Int.reduceToNat, he, x1, x2, l1, l2]
            refine Row.put hs.row a1 (by rw [ints_len]; omega) (by simp +decide (disch := first | assumption | (apply GH.ok_push; assumption) | exact cellV_int _ _ | exact cellV_bool _ | omega) only [go_sem, ↓reduceIte, Nat.reduceEqDiff, Nat.reduceAdd, Int.reduceToNat, he, x1]; first | done | exact rfl) (by simp +decide (disch := first | assumption | (apply GH.ok_push; assumption) | exact cellV_int _ _ | exact cellV_bool _ | omega) only [go_sem, ↓reduceIte, Nat.reduceEqDiff, Nat.reduceAdd, Int.reduceToNat, he, l2]; first | done | exact rfl) rfl rfl hokG hs.low hlw ?_
            intro G2 lo4 wr2 hw2 hr2 hlo4
            rw [ints_set] at hr2
            have hl2 : (L.set j (L.getD (j - 1) 0)).length = L0.length := by simp [hLl]
            obtain ⟨j4, b4, x4, l4, a4⟩ := hr2.at (ints_get (D := L.set j (L.getD (j - 1) 0)) (i := j - 1) (by omega))
            have x4 := x4 ((j : Int) - 1) (by omega)
            simp +decide (disch := first | assumption | (apply GH.ok_push; assumption) | exact cellV_int _ _ | exact cellV_bool _ | omega) only [go_sem, ↓reduceIte, Nat.reduceEqDiff, Nat.reduceAdd, Int.reduceToNat, he, x4]
            refine Row.put hr2 a4 (by rw [ints_len]; omega) (by simp +decide (disch := first | assumption | (apply GH.ok_push; assumption) | exact cellV_int _ _ | exact cellV_bool _ | omega) only [go_sem, ↓reduceIte, Nat.reduceEqDiff, Nat.reduceAdd, Int.reduceToNat, he, x4]; first | done | exact rfl) (by simp +decide (disch := first | assumption | (apply GH.ok_push; assumption) | exact cellV_int _ _ | exact cellV_bool _ | omega) only [go_sem, ↓reduceIte, Nat.reduceEqDiff, Nat.reduceAdd, Int.reduceToNat, he, l1]; first | done | exact rfl) rfl rfl hw2.ok hlo4 hlw ?_
            intro G3 lo5 wr3 hw3 hr3 hlo5
            rw [ints_set] at hr3
            simp +decide (disch := first | assumption | (apply GH.ok_push; assumption) | exact cellV_int _ _ | exact cellV_bool _ | omega) only [go_sem, ↓reduceIte, Nat.reduceEqDiff, Nat.reduceAdd, Int.reduceToNat, he]
            refine ih2 (j - 1) _ _ _ (by omega) ⟨swp L j (j - 1), j - 1, rfl, ⟨hlo5, hw3.ok, (hs.below.write hw2).write hw3, hr3, (swp_perm (by omega) (by omega) (by omega)).trans hs.perm⟩, by omega, ?_, hins.step cj hji (by omega) d⟩
            simp +decide (disch := first | assumption | (apply GH.ok_push; assumption) | exact cellV_int _ _ | exact cellV_bool _ | omega) only [go_sem, ↓reduceIte, Nat.reduceEqDiff, Nat.reduceAdd, Int.reduceToNat, he]
            congr 1; omega
          · rw [decide_eq_false d]
            simp +decide (disch := first | assumption | (apply GH.ok_push; assumption) | exact cellV_int _ _ | exact cellV_bool _ | omega) only [go_sem, ↓reduceIte, Nat.reduceEqDiff, Nat.reduceAdd, Int.reduceToNat, he]
            exact out2 _ _ _ ⟨L, hs, (by simp +decide (disch := first | assumption | (apply GH.ok_push; assumption) | exact cellV_int _ _ | exact cellV_bool _ | omega) only [go_sem, ↓reduceIte, Nat.reduceEqDiff, Nat.reduceAdd, Int.reduceToNat, he]; first | done | exact rfl), hins.done (.inr (by omega))⟩
        · simp +decide (disch := first | assumption | (apply GH.ok_push; assumption) | exact cellV_int _ _ | exact cellV_bool _ | omega) only [go_sem, ↓reduceIte, Nat.reduceEqDiff, Nat.reduceAdd, Int.reduceToNat, he]
          exact out2 _ _ _ ⟨L, hs, (by simp +decide (disch := first | assumption | (apply GH.ok_push; assumption) | exact cellV_int _ _ | exact cellV_bool _ | omega) only [go_sem, ↓reduceIte, Nat.reduceEqDiff, Nat.reduceAdd, Int.reduceToNat, he]; first | done | exact rfl), hins.done (.inl (by omega))⟩
    · simp +decide (disch := first | assumption | (apply GH.ok_push; assumption) | exact cellV_int _ _ | exact cellV_bool _ | omega) only [go_sem, ↓reduceIte, Nat.reduceEqDiff, Nat.reduceAdd, Int.reduceToNat, he]
      exact out _ _ _ ⟨L, hs, fun p q h1 h2 => hsr p q h1 (by omega)⟩
/-- The number of bits of a short length. -/
abbrev lenTab : ByteArray := ⟨#[0, 1, 2, 2, 3, 3, 3, 3, 4, 4, 4, 4, 4, 4, 4, 4, 5, 5, 5, 5, 5, 5, 5, 5, 5, 5, 5, 5, 5, 5, 5, 5, 6, 6, 6, 6, 6, 6, 6, 6, 6, 6, 6, 6, 6, 6, 6, 6, 6, 6, 6, 6, 6, 6, 6, 6, 6, 6, 6, 6, 6, 6, 6, 6, 7, 7, 7, 7, 7, 7, 7, 7, 7, 7, 7, 7, 7, 7, 7, 7, 7, 7, 7, 7, 7, 7, 7, 7, 7, 7, 7, 7, 7, 7, 7, 7, 7, 7, 7, 7, 7, 7, 7, 7, 7, 7, 7, 7, 7, 7, 7, 7, 7, 7, 7, 7, 7, 7, 7, 7, 7, 7, 7, 7, 7, 7, 7, 7, 8, 8, 8, 8, 8, 8, 8, 8, 8, 8, 8, 8, 8, 8, 8, 8, 8, 8, 8, 8, 8, 8, 8, 8, 8, 8, 8, 8, 8, 8, 8, 8, 8, 8, 8, 8, 8, 8, 8, 8, 8, 8, 8, 8, 8, 8, 8, 8, 8, 8, 8, 8, 8, 8, 8, 8, 8, 8, 8, 8, 8, 8, 8, 8, 8, 8, 8, 8, 8, 8, 8, 8, 8, 8, 8, 8, 8, 8, 8, 8, 8, 8, 8, 8, 8, 8, 8, 8, 8, 8, 8, 8, 8, 8, 8, 8, 8, 8, 8, 8, 8, 8, 8, 8, 8, 8, 8, 8, 8, 8, 8, 8, 8, 8, 8, 8, 8, 8, 8, 8, 8, 8, 8, 8, 8, 8, 8, 8]⟩
def lnOk (n : Nat) : Bool := match idxSF (.string lenTab) (.int .u8 (n : Nat)) with
  | some (.int .u8 b) => decide (0 ≤ b) && decide (b ≤ 8)
  | _ => false
theorem ln_all : (List.range 256).all lnOk = true := by decide +kernel
theorem ln_at {n : Nat} (h : n < 256) : ∃ b : Int, idxSF (.string lenTab) (.int .u8 (n : Nat)) = some (.int .u8 b) ∧ 0 ≤ b ∧ b ≤ 8 := by
  have := List.all_eq_true.1 ln_all n (List.mem_range.2 h)
  unfold lnOk at this
  split at this
  · rename_i b hb
    simp only [Bool.and_eq_true, decide_eq_true_eq] at this
    exact ⟨b, hb, this.1, this.2⟩
  · cases this
theorem wrapU8 {n : Int} (h0 : 0 ≤ n) (h1 : n < 256) : wrapF .u8 n = n := by
  show IntKind.wrap .u8 n = n
  simp [IntKind.wrap, IntKind.bits, IntKind.signed]
  omega
theorem ln64_rets {X : Caller} (hX : Xfr X) (n : Nat) (hn : n < 256) (g : GH) : Rets Tryd.prog X 84 [.int .u64 n] g (fun v g' lo => g.next ≤ lo ∧ ∃ b : Int, v = .int .i64 b) := by
  refine Rets.run hX.pres p84 (hX.free 84 (by decide) _ _) rfl fun ho => ?_
  obtain ⟨b, hb, b0, b8⟩ := ln_at hn
  have h1 : convF .u8 (.int .u64 (n : Int)) = some (.int .u8 n) := by
    show some (Value.int .u8 (wrapF .u8 n)) = _
    rw [wrapU8 (by omega) (by omega)]
  have h2 : convF .i64 (.int .u8 b) = some (.int .i64 b) := by
    show some (Value.int .i64 (wrapF .i64 b)) = _
    rw [wr64 (by omega) (by omega)]
  simp +decide (disch := first | assumption | (apply GH.ok_push; assumption) | exact cellV_int _ _ | exact cellV_bool _ | omega) only [go_sem, ↓reduceIte, Nat.reduceEqDiff, Nat.reduceAdd, Int.reduceToNat, h1, h2, hb]
  intro hx
  exact ⟨Nat.le_refl _, _, rfl⟩
theorem ln_rets {X : Caller} (hX : Xfr X) (n : Nat) (hn : n < 256) (g : GH) : Rets Tryd.prog X 70 [.int .u64 n] g (fun v g' lo => g.next ≤ lo ∧ ∃ b : Int, v = .int .i64 b) := by
  refine Rets.run hX.pres p70 (hX.free 70 (by decide) _ _) rfl fun ho => ?_
  simp +decide (disch := first | assumption | (apply GH.ok_push; assumption) | exact cellV_int _ _ | exact cellV_bool _ | omega) only [go_sem, ↓reduceIte, Nat.reduceEqDiff, Nat.reduceAdd, Int.reduceToNat]
  refine CallD.calm (ln64_rets hX n hn g) ?_
  rintro v G hx ⟨b, rfl⟩
  simp +decide (disch := first | assumption | (apply GH.ok_push; assumption) | exact cellV_int _ _ | exact cellV_bool _ | omega) only [go_sem, ↓reduceIte, Nat.reduceEqDiff, Nat.reduceAdd, Int.reduceToNat]
  intro hx0
  exact ⟨Nat.le_refl _, _, rfl⟩
theorem pdq_rets {X : Caller} (hX : Xfr X) (L0 : List Int) (hn : L0.length ≤ 12) (b : Int) (s : Value) (t : TypeId) (base lw : Nat) (g : GH) (hb : base ≤ g.next) (hlw : lw ≤ base) (hr : Row g s (ints L0) t base) :
    Rets Tryd.prog X 69 [s, .int .i64 0, .int .i64 L0.length, .int .i64 b] g (fun v g' lo => ∃ R, SortR g base lw t s L0 R g' lo ∧ Srt R) := by
  refine Rets.run hX.pres p69 (hX.free 69 (by decide) _ _) rfl fun ho => ?_
  simp +decide (disch := first | assumption | (apply GH.ok_push; assumption) | exact cellV_int _ _ | exact cellV_bool _ | omega) only [go_sem, ↓reduceIte, Nat.reduceEqDiff, Nat.reduceAdd, Int.reduceToNat]
  refine Wk.once ?_
  simp +decide (disch := first | assumption | (apply GH.ok_push; assumption) | exact cellV_int _ _ | exact cellV_bool _ | omega) only [go_sem, ↓reduceIte, Nat.reduceEqDiff, Nat.reduceAdd, Int.reduceToNat]
  refine CallD.call (insort_rets hX L0 (by omega) s t base lw g hb hlw hr) ?_
  rintro v G lo hx ⟨R, h1, h2⟩
  simp +decide (disch := first | assumption | (apply GH.ok_push; assumption) | exact cellV_int _ _ | exact cellV_bool _ | omega) only [go_sem, ↓reduceIte, Nat.reduceEqDiff, Nat.reduceAdd, Int.reduceToNat]
  intro hx0
  exact ⟨R, ⟨by have := h1.low; omega, h1.ok, h1.below, h1.row, h1.perm⟩, h2⟩
theorem sort62_rets {X : Caller} (hX : Xfr X) (L0 : List Int) (hn : L0.length ≤ 12) (s : Value) (t : TypeId) (base lw : Nat) (g : GH) (hb : base ≤ g.next) (hlw : lw ≤ base) (hr : Row g s (ints L0) t base) :
    Rets Tryd.prog X 62 [s] g (fun v g' lo => ∃ R, SortR g base lw t s L0 R g' lo ∧ Srt R) := by
  refine Rets.run hX.pres p62 (hX.free 62 (by decide) _ _) rfl fun ho => ?_
  have hl := hr.len
  rw [ints_len] at hl
  have h1 : convF .u64 (.int .i64 (L0.length : Int)) = some (.int .u64 L0.length) := by
    show some (Value.int .u64 (wrapF .u64 (.ofNat L0.length))) = _
    have : wrapF .u64 (.ofNat L0.length) = .ofNat L0.length := by
      show (bif Nat.blt L0.length 18446744073709551616 then _ else _) = _
      rw [blt_d, decide_eq_true (by omega)]; rfl
    rw [this]; rfl
  simp +decide (disch := first | assumption | (apply GH.ok_push; assumption) | exact cellV_int _ _ | exact cellV_bool _ | omega) only [go_sem, ↓reduceIte, Nat.reduceEqDiff, Nat.reduceAdd, Int.reduceToNat, hl, h1]
  refine CallD.calm (ln_rets hX L0.length (by omega) g) ?_
  rintro v G hx ⟨b, rfl⟩
  have hn1 := hx.next
  simp +decide (disch := first | assumption | (apply GH.ok_push; assumption) | exact cellV_int _ _ | exact cellV_bool _ | omega) only [go_sem, ↓reduceIte, Nat.reduceEqDiff, Nat.reduceAdd, Int.reduceToNat]
  refine CallD.call (pdq_rets hX L0 hn b s t base lw G (by omega) hlw (hr.kept hx.kept)) ?_
  rintro v G2 lo hx2 ⟨R, h1, h2⟩
  simp +decide (disch := first | assumption | (apply GH.ok_push; assumption) | exact cellV_int _ _ | exact cellV_bool _ | omega) only [go_sem, ↓reduceIte, Nat.reduceEqDiff, Nat.reduceAdd, Int.reduceToNat]
  intro hx0
  exact ⟨R, ⟨by have := h1.low; omega, h1.ok, ⟨by have := h1.below.next; omega, fun j hj => (h1.below.gets j hj).trans (hx.gets j (by omega)), fun f hf => (h1.below.fams f hf).trans (hx.kept.fams f (by omega))⟩, h1.row, h1.perm⟩, h2⟩
end Go.Proofs.YtnpapnpedcbfnaaDoor
set_option maxRecDepth 100000
set_option maxHeartbeats 4000000
set_option linter.unusedSimpArgs false
set_option linter.unusedVariables false
namespace Go.Proofs.YtnpapnpedcbfnaaDoor
open Go.Ds Go.Vs
/-! ## Odd parts -/
def od (x : Int) : Nat := sz x.toNat % 2
def oddS (D : List Int) : Nat := (D.map od).sum
theorem oddS_take {D : List Int} {i : Nat} (h : i < D.length) : oddS (D.take (i + 1)) = oddS (D.take i) + od (D.getD i 0) := by
  have e : D.take (i + 1) = D.take i ++ [D.getD i 0] := by
    rw [getD_at h]; exact (List.take_append_getElem h).symm
  unfold oddS
  rw [e, List.map_append, List.sum_append]
  simp
theorem oddS_perm {A B : List Int} (h : A.Perm B) : oddS A = oddS B := by
  induction h with
  | nil => rfl
  | cons x _ ih => simp only [oddS, List.map_cons, List.sum_cons] at *; omega
  | swap x y l => simp only [oddS, List.map_cons, List.sum_cons]; omega
  | trans _ _ a b => exact a.trans b
theorem oddS_le (D : List Int) : oddS D ≤ D.length := by
  induction D with
  | nil => exact Nat.le_refl _
  | cons x D ih =>
    have : od x ≤ 1 := by unfold od; omega
    simp only [oddS, List.map_cons, List.sum_cons, List.length_cons] at *
    omega
/-- The parts of a shop without a set. -/
def partsOf (L : List Int) (S : Nat) : List Int := partsI (setF L) (andn (allN L.length) S) L.length L.length
theorem partsOf_len (L : List Int) (S : Nat) : (partsOf L S).length ≤ L.length := by
  unfold partsOf partsI
  rw [List.length_map]
  exact ptsL_len _ _ _ _
theorem partsOf_mem {L : List Int} {S : Nat} {x : Int} (h : x ∈ partsOf L S) : ∃ y : Nat, x = y ∧ y < 2 ^ L.length := by
  unfold partsOf partsI at h
  obtain ⟨y, h1, rfl⟩ := List.mem_map.1 h
  exact ⟨y, rfl, ptsL_lt (Nat.lt_of_le_of_lt (andn_le _ _) (all_lt _)) _ (Nat.le_refl _) y h1⟩
theorem getD_mem {D : List Int} {i : Nat} (h : i < D.length) : D.getD i 0 ∈ D := by rw [getD_at h]; exact List.getElem_mem h
theorem odd64_rets {X : Caller} (hX : Xfr X) (L : List Int) (hL : shopB L = true) (s : Value) (S : Nat) (hS : S < 2 ^ L.length) (g : GH) (hs : SlR g s (ints L)) :
    Rets Tryd.prog X 64 [s, .int .i64 (S : Int)] g (fun v g' lo => g.next ≤ lo ∧ v = .int .i64 (oddS (partsOf L S) : Nat)) := by
  obtain ⟨hL1, hL10, hA⟩ := shop_ok hL
  have hN : 2 ^ L.length ≤ 1024 := Nat.pow_le_pow_right (by decide) hL10
  have hpr := parts_rets hX L hL s S _ hS rfl g hs
  rw [show partsI (setF L) (andn (allN L.length) S) L.length L.length = partsOf L S from rfl] at hpr
  have hpl := partsOf_len L S
  have hmem := fun x => partsOf_mem (L := L) (S := S) (x := x)
  have hol := oddS_le (partsOf L S)
  generalize partsOf L S = D at *
  refine Rets.run hX.pres p64 (hX.free 64 (by decide) _ _) rfl fun ho => ?_
  simp +decide (disch := first | assumption | exact cellV_int _ _ | exact cellV_bool _ | omega | (simp only [GH.pn, GH.sn] <;> omega) | (with_reducible ((repeat (first | apply GH.ok_push | apply GH.ok_set)); assumption)) | ((try simp only [GH.push_hid, GH.set_hid]); first | assumption | (refine GH.vis ?_ ?_ <;> first | assumption | ((try simp only [GH.pn, GH.sn]) <;> omega)))) only [go_sem, ↓reduceIte, Nat.reduceEqDiff, Nat.reduceAdd, Int.reduceToNat, Int.reduceAdd, Int.reduceNeg, Int.reduceSub, Int.reduceMul, Int.reduceLT, Int.reduceLE, Int.reduceEq, ↓GH.gp_eq, ↓GH.gp_ne, ↓GH.gs_eq, ↓GH.gs_ne, GH.push_next, GH.set_next]
  refine CallD.calm hpr ?_
  rintro v g1 hx1 ⟨hok1, hk1, hown⟩
  have hn1 := hx1.next
  have hrd := hown.read
  have hl := hrd.len
  rw [ints_len] at hl
  simp +decide (disch := first | assumption | exact cellV_int _ _ | exact cellV_bool _ | omega | (simp only [GH.pn, GH.sn] <;> omega) | (with_reducible ((repeat (first | apply GH.ok_push | apply GH.ok_set)); assumption)) | ((try simp only [GH.push_hid, GH.set_hid]); first | assumption | (refine GH.vis ?_ ?_ <;> first | assumption | ((try simp only [GH.pn, GH.sn]) <;> omega)))) only [go_sem, ↓reduceIte, Nat.reduceEqDiff, Nat.reduceAdd, Int.reduceToNat, Int.reduceAdd, Int.reduceNeg, Int.reduceSub, Int.reduceMul, Int.reduceLT, Int.reduceLE, Int.reduceEq, ↓GH.gp_eq, ↓GH.gp_ne, ↓GH.gs_eq, ↓GH.gs_ne, GH.push_next, GH.set_next, hl]
  refine Wk.loops (fun m e g' lo => g.next ≤ lo ∧ Kept g1 g' ∧ ∃ i : Nat, i + m = D.length ∧ (ev e (.s 10) = v ∧ ev e (.s 11) = .int .i64 (D.length : Int) ∧ ev e (.s 12) = .int .i64 (i : Int) ∧ ev e (.s 5) = .int .i64 (oddS (D.take i) : Nat)))
    (fun e g' lo => g.next ≤ lo ∧ ev e (.s 5) = .int .i64 (oddS D : Nat)) (n := D.length) ?_ ?_ ?_
  · exact ⟨by omega, Kept.refl _, 0, by omega, (by simp +decide (disch := first | assumption | (apply GH.ok_push; assumption) | exact cellV_int _ _ | exact cellV_bool _ | omega) only [go_sem, ↓reduceIte, Nat.reduceEqDiff, Nat.reduceAdd, Int.reduceToNat, hl]; first | done | exact rfl)⟩
  · rintro e g' lo - - ⟨hlo, he⟩
    simp +decide (disch := first | assumption | exact cellV_int _ _ | exact cellV_bool _ | omega | (simp only [GH.pn, GH.sn] <;> omega) | (with_reducible ((repeat (first | apply GH.ok_push | apply GH.ok_set)); assumption)) | ((try simp only [GH.push_hid, GH.set_hid]); first | assumption | (refine GH.vis ?_ ?_ <;> first | assumption | ((try simp only [GH.pn, GH.sn]) <;> omega)))) only [go_sem, ↓reduceIte, Nat.reduceEqDiff, Nat.reduceAdd, Int.reduceToNat, Int.reduceAdd, Int.reduceNeg, Int.reduceSub, Int.reduceMul, Int.reduceLT, Int.reduceLE, Int.reduceEq, ↓GH.gp_eq, ↓GH.gp_ne, ↓GH.gs_eq, ↓GH.gs_ne, GH.push_next, GH.set_next, he]
    intro hx0
    exact ⟨hlo, rfl⟩
  · rintro m e g' lo ho' hl' ih out ⟨hlo, hk, i, him, he⟩
    have hkn := hk.next
    by_cases ci : i < D.length
    case neg =>
      have ci' : ¬ (i : Int) < D.length := by omega
      simp +decide (disch := first | assumption | exact cellV_int _ _ | exact cellV_bool _ | omega | (simp only [GH.pn, GH.sn] <;> omega) | (with_reducible ((repeat (first | apply GH.ok_push | apply GH.ok_set)); assumption)) | ((try simp only [GH.push_hid, GH.set_hid]); first | assumption | (refine GH.vis ?_ ?_ <;> first | assumption | ((try simp only [GH.pn, GH.sn]) <;> omega)))) only [go_sem, ↓reduceIte, Nat.reduceEqDiff, Nat.reduceAdd, Int.reduceToNat, Int.reduceAdd, Int.reduceNeg, Int.reduceSub, Int.reduceMul, Int.reduceLT, Int.reduceLE, Int.reduceEq, ↓GH.gp_eq, ↓GH.gp_ne, ↓GH.gs_eq, ↓GH.gs_ne, GH.push_next, GH.set_next, he, ci']
      have : i = D.length := by omega
      subst this
      rw [List.take_length] at he
      exact out _ _ _ ⟨hlo, (by simp +decide (disch := first | assumption | (apply GH.ok_push; assumption) | exact cellV_int _ _ | exact cellV_bool _ | omega) only [go_sem, ↓reduceIte, Nat.reduceEqDiff, Nat.reduceAdd, Int.reduceToNat, he]; first | done | exact rfl)⟩
    have ci' : (i : Int) < D.length := by omega
    obtain ⟨j2, o2, hj2, hq1, hq2⟩ := (hrd.kept hk).ptr (ints_get (D := D) (i := i) ci)
    have hq1 := hq1 (i : Int) rfl
    obtain ⟨y, hy, hyl⟩ := hmem _ (getD_mem ci)
    have hot := oddS_take ci
    have hle : oddS (D.take i) ≤ i := Nat.le_trans (oddS_le _) (by rw [List.length_take]; omega)
    rw [hy] at hq2
    have hody : od (D.getD i 0) = sz y % 2 := by rw [hy]; rfl
    rw [hody] at hot
    have hcnt := count_rets hX y (by omega) g'
    have r1 : ((sz y : Nat) : Int).tmod 2 = ((sz y % 2 : Nat) : Int) := rfl
    generalize sz y = z at *
    generalize oddS (D.take i) = w at *
    simp +decide (disch := first | assumption | exact cellV_int _ _ | exact cellV_bool _ | omega | (simp only [GH.pn, GH.sn] <;> omega) | (with_reducible ((repeat (first | apply GH.ok_push | apply GH.ok_set)); assumption)) | ((try simp only [GH.push_hid, GH.set_hid]); first | assumption | (refine GH.vis ?_ ?_ <;> first | assumption | ((try simp only [GH.pn, GH.sn]) <;> omega)))) only [go_sem, ↓reduceIte, Nat.reduceEqDiff, Nat.reduceAdd, Int.reduceToNat, Int.reduceAdd, Int.reduceNeg, Int.reduceSub, Int.reduceMul, Int.reduceLT, Int.reduceLE, Int.reduceEq, ↓GH.gp_eq, ↓GH.gp_ne, ↓GH.gs_eq, ↓GH.gs_ne, GH.push_next, GH.set_next, he, ci', hq1, hq2]
    refine CallD.calm hcnt ?_
    rintro u g3 hx3 rfl
    have hn3 := hx3.next
    have hk3 := hk.ext hx3
    simp +decide (disch := first | assumption | exact cellV_int _ _ | exact cellV_bool _ | omega | (simp only [GH.pn, GH.sn] <;> omega) | (with_reducible ((repeat (first | apply GH.ok_push | apply GH.ok_set)); assumption)) | ((try simp only [GH.push_hid, GH.set_hid]); first | assumption | (refine GH.vis ?_ ?_ <;> first | assumption | ((try simp only [GH.pn, GH.sn]) <;> omega)))) only [go_sem, ↓reduceIte, Nat.reduceEqDiff, Nat.reduceAdd, Int.reduceToNat, Int.reduceAdd, Int.reduceNeg, Int.reduceSub, Int.reduceMul, Int.reduceLT, Int.reduceLE, Int.reduceEq, ↓GH.gp_eq, ↓GH.gp_ne, ↓GH.gs_eq, ↓GH.gs_ne, GH.push_next, GH.set_next, he, r1]
    refine ih (m - 1) _ _ _ (by omega) ⟨hlo, hk3, i + 1, by omega, ?_⟩
    rw [hot]
    exact (by simp +decide (disch := first | assumption | (apply GH.ok_push; assumption) | exact cellV_int _ _ | exact cellV_bool _ | omega) only [go_sem, ↓reduceIte, Nat.reduceEqDiff, Nat.reduceAdd, Int.reduceToNat, he, r1]; first | done | exact rfl)
/-! ## Odd, Barrier, Parts of the program -/
def okS (L : List Int) (S : Int) : Bool := decide (0 ≤ S) && decide (S < 2 ^ L.length)
def odA (L : List Int) (S : Int) : Int := if shopB L && okS L S then (oddS (partsOf L S.toNat) : Nat) else 0
def odE (L : List Int) (S : Int) : Int := if shopB L && okS L S then 0 else 2
theorem okS_nat {L : List Int} {S : Int} (h : okS L S = true) : ∃ k : Nat, S = k ∧ k < 2 ^ L.length := by
  unfold okS at h
  simp only [Bool.and_eq_true, decide_eq_true_eq] at h
  refine ⟨S.toNat, by omega, ?_⟩
  have e2 : ((2 ^ L.length : Nat) : Int) = 2 ^ L.length := by simp
  rw [← e2] at h
  omega
theorem Odd_rets {X : Caller} (hX : Xfr X) (L : List Int) (hL : L.length ≤ 40) (s : Value) (S : Int) (g : GH) (hs : SlR g s (ints L)) :
    Rets Tryd.prog X 37 [s, .int .i64 S] g (fun v g' lo => g.next ≤ lo ∧ v = .tuple #[.int .i64 (odA L S), .int .i64 (odE L S)]) := by
  generalize hr : Value.tuple #[.int .i64 (odA L S), .int .i64 (odE L S)] = r
  unfold odA odE at hr
  refine Rets.run hX.pres p37 (hX.free 37 (by decide) _ _) rfl fun ho => ?_
  simp +decide (disch := first | assumption | exact cellV_int _ _ | exact cellV_bool _ | omega | (simp only [GH.pn, GH.sn] <;> omega) | (with_reducible ((repeat (first | apply GH.ok_push | apply GH.ok_set)); assumption)) | ((try simp only [GH.push_hid, GH.set_hid]); first | assumption | (refine GH.vis ?_ ?_ <;> first | assumption | ((try simp only [GH.pn, GH.sn]) <;> omega)))) only [go_sem, ↓reduceIte, Nat.reduceEqDiff, Nat.reduceAdd, Int.reduceToNat, Int.reduceAdd, Int.reduceNeg, Int.reduceSub, Int.reduceMul, Int.reduceLT, Int.reduceLE, Int.reduceEq, ↓GH.gp_eq, ↓GH.gp_ne, ↓GH.gs_eq, ↓GH.gs_ne, GH.push_next, GH.set_next]
  refine CallD.calm (IsShop_rets hX L hL s g hs) ?_
  rintro v g1 hx1 rfl
  have hn1 := hx1.next
  cases hz : shopB L with
  | false =>
    simp +decide (disch := first | assumption | exact cellV_int _ _ | exact cellV_bool _ | omega | (simp only [GH.pn, GH.sn] <;> omega) | (with_reducible ((repeat (first | apply GH.ok_push | apply GH.ok_set)); assumption)) | ((try simp only [GH.push_hid, GH.set_hid]); first | assumption | (refine GH.vis ?_ ?_ <;> first | assumption | ((try simp only [GH.pn, GH.sn]) <;> omega)))) only [go_sem, ↓reduceIte, Nat.reduceEqDiff, Nat.reduceAdd, Int.reduceToNat, Int.reduceAdd, Int.reduceNeg, Int.reduceSub, Int.reduceMul, Int.reduceLT, Int.reduceLE, Int.reduceEq, ↓GH.gp_eq, ↓GH.gp_ne, ↓GH.gs_eq, ↓GH.gs_ne, GH.push_next, GH.set_next]
    intro hx0
    exact ⟨by omega, by rw [← hr, hz]; rfl⟩
  | true =>
  obtain ⟨hL1, hL10, hA⟩ := shop_ok hz
  have hset := isSet_rets hX L hL10 S s g1 (hs.ext hx1)
  rw [show (decide (0 ≤ S) && decide (S < 2 ^ L.length)) = okS L S from rfl] at hset
  simp +decide (disch := first | assumption | exact cellV_int _ _ | exact cellV_bool _ | omega | (simp only [GH.pn, GH.sn] <;> omega) | (with_reducible ((repeat (first | apply GH.ok_push | apply GH.ok_set)); assumption)) | ((try simp only [GH.push_hid, GH.set_hid]); first | assumption | (refine GH.vis ?_ ?_ <;> first | assumption | ((try simp only [GH.pn, GH.sn]) <;> omega)))) only [go_sem, ↓reduceIte, Nat.reduceEqDiff, Nat.reduceAdd, Int.reduceToNat, Int.reduceAdd, Int.reduceNeg, Int.reduceSub, Int.reduceMul, Int.reduceLT, Int.reduceLE, Int.reduceEq, ↓GH.gp_eq, ↓GH.gp_ne, ↓GH.gs_eq, ↓GH.gs_ne, GH.push_next, GH.set_next]
  refine CallD.calm hset ?_
  rintro v g2 hx2 rfl
  have hn2 := hx2.next
  have hk2 := hx1.kept.ext hx2
  cases hk : okS L S with
  | false =>
    simp +decide (disch := first | assumption | exact cellV_int _ _ | exact cellV_bool _ | omega | (simp only [GH.pn, GH.sn] <;> omega) | (with_reducible ((repeat (first | apply GH.ok_push | apply GH.ok_set)); assumption)) | ((try simp only [GH.push_hid, GH.set_hid]); first | assumption | (refine GH.vis ?_ ?_ <;> first | assumption | ((try simp only [GH.pn, GH.sn]) <;> omega)))) only [go_sem, ↓reduceIte, Nat.reduceEqDiff, Nat.reduceAdd, Int.reduceToNat, Int.reduceAdd, Int.reduceNeg, Int.reduceSub, Int.reduceMul, Int.reduceLT, Int.reduceLE, Int.reduceEq, ↓GH.gp_eq, ↓GH.gp_ne, ↓GH.gs_eq, ↓GH.gs_ne, GH.push_next, GH.set_next]
    intro hx0
    exact ⟨by omega, by rw [← hr, hz, hk]; rfl⟩
  | true =>
  obtain ⟨k, rfl, hkl⟩ := okS_nat hk
  simp +decide (disch := first | assumption | exact cellV_int _ _ | exact cellV_bool _ | omega | (simp only [GH.pn, GH.sn] <;> omega) | (with_reducible ((repeat (first | apply GH.ok_push | apply GH.ok_set)); assumption)) | ((try simp only [GH.push_hid, GH.set_hid]); first | assumption | (refine GH.vis ?_ ?_ <;> first | assumption | ((try simp only [GH.pn, GH.sn]) <;> omega)))) only [go_sem, ↓reduceIte, Nat.reduceEqDiff, Nat.reduceAdd, Int.reduceToNat, Int.reduceAdd, Int.reduceNeg, Int.reduceSub, Int.reduceMul, Int.reduceLT, Int.reduceLE, Int.reduceEq, ↓GH.gp_eq, ↓GH.gp_ne, ↓GH.gs_eq, ↓GH.gs_ne, GH.push_next, GH.set_next]
  refine CallD.calm (odd64_rets hX L hz s k hkl g2 (hs.kept hk2)) ?_
  rintro v g3 hx3 rfl
  have hn3 := hx3.next
  simp +decide (disch := first | assumption | exact cellV_int _ _ | exact cellV_bool _ | omega | (simp only [GH.pn, GH.sn] <;> omega) | (with_reducible ((repeat (first | apply GH.ok_push | apply GH.ok_set)); assumption)) | ((try simp only [GH.push_hid, GH.set_hid]); first | assumption | (refine GH.vis ?_ ?_ <;> first | assumption | ((try simp only [GH.pn, GH.sn]) <;> omega)))) only [go_sem, ↓reduceIte, Nat.reduceEqDiff, Nat.reduceAdd, Int.reduceToNat, Int.reduceAdd, Int.reduceNeg, Int.reduceSub, Int.reduceMul, Int.reduceLT, Int.reduceLE, Int.reduceEq, ↓GH.gp_eq, ↓GH.gp_ne, ↓GH.gs_eq, ↓GH.gs_ne, GH.push_next, GH.set_next]
  intro hx0
  exact ⟨by omega, by rw [← hr, hz, hk]; rfl⟩
def moreF (L : List Int) (S : Nat) : Int := (oddS (partsOf L S) : Int) - (sz S : Int)
def barF (f : Nat → Int) : Nat → Nat × Int
  | 0 => (0, 0)
  | s + 1 => if (barF f s).2 < f s then (s, f s) else barF f s
def barI (L : List Int) : Nat × Int := if shopB L = true then barF (moreF L) (2 ^ L.length) else (0, 0)
def barE (L : List Int) : Int := if shopB L = true then 0 else 2
theorem sz_le {n x : Nat} (h : x < 2 ^ n) : sz x ≤ n := by
  rw [sz_pc n x h]
  have := List.countP_le_length (p := x.testBit) (l := List.range n)
  rwa [List.length_range] at this
theorem Barrier_rets {X : Caller} (hX : Xfr X) (L : List Int) (hL : L.length ≤ 40) (s : Value) (g : GH) (hs : SlR g s (ints L)) :
    Rets Tryd.prog X 39 [s] g (fun v g' lo => g.next ≤ lo ∧ v = .tuple #[.int .i64 ((barI L).1 : Nat), .int .i64 (barI L).2, .int .i64 (barE L)]) := by
  generalize hr : Value.tuple #[.int .i64 ((barI L).1 : Nat), .int .i64 (barI L).2, .int .i64 (barE L)] = r
  unfold barI barE at hr
  refine Rets.run hX.pres p39 (hX.free 39 (by decide) _ _) rfl fun ho => ?_
  simp +decide (disch := first | assumption | exact cellV_int _ _ | exact cellV_bool _ | omega | (simp only [GH.pn, GH.sn] <;> omega) | (with_reducible ((repeat (first | apply GH.ok_push | apply GH.ok_set)); assumption)) | ((try simp only [GH.push_hid, GH.set_hid]); first | assumption | (refine GH.vis ?_ ?_ <;> first | assumption | ((try simp only [GH.pn, GH.sn]) <;> omega)))) only [go_sem, ↓reduceIte, Nat.reduceEqDiff, Nat.reduceAdd, Int.reduceToNat, Int.reduceAdd, Int.reduceNeg, Int.reduceSub, Int.reduceMul, Int.reduceLT, Int.reduceLE, Int.reduceEq, ↓GH.gp_eq, ↓GH.gp_ne, ↓GH.gs_eq, ↓GH.gs_ne, GH.push_next, GH.set_next]
  refine CallD.calm (IsShop_rets hX L hL s g hs) ?_
  rintro v g1 hx1 rfl
  have hn1 := hx1.next
  cases hz : shopB L with
  | false =>
    simp +decide (disch := first | assumption | exact cellV_int _ _ | exact cellV_bool _ | omega | (simp only [GH.pn, GH.sn] <;> omega) | (with_reducible ((repeat (first | apply GH.ok_push | apply GH.ok_set)); assumption)) | ((try simp only [GH.push_hid, GH.set_hid]); first | assumption | (refine GH.vis ?_ ?_ <;> first | assumption | ((try simp only [GH.pn, GH.sn]) <;> omega)))) only [go_sem, ↓reduceIte, Nat.reduceEqDiff, Nat.reduceAdd, Int.reduceToNat, Int.reduceAdd, Int.reduceNeg, Int.reduceSub, Int.reduceMul, Int.reduceLT, Int.reduceLE, Int.reduceEq, ↓GH.gp_eq, ↓GH.gp_ne, ↓GH.gs_eq, ↓GH.gs_ne, GH.push_next, GH.set_next]
    intro hx0
    exact ⟨by omega, by rw [← hr, hz]; rfl⟩
  | true =>
  obtain ⟨hL1, hL10, hA⟩ := shop_ok hz
  rw [hz, if_pos rfl, if_pos rfl] at hr
  have ha := allHats_rets hX L hL10 s g1 (hs.ext hx1)
  have e2 : ((2 ^ L.length : Nat) : Int) = 2 ^ L.length := by simp
  rw [← e2] at ha
  have hN : 2 ^ L.length ≤ 1024 := Nat.pow_le_pow_right (by decide) hL10
  have hod := fun S (hS : S < 2 ^ L.length) G (hk : Kept g G) => odd64_rets hX L hz s S hS G (hs.kept hk)
  have hpl := fun S => Nat.le_trans (oddS_le (partsOf L S)) (partsOf_len L S)
  have hszl := fun S (hS : S < 2 ^ L.length) => sz_le hS
  have hmf : ∀ S, moreF L S = (oddS (partsOf L S) : Int) - (sz S : Int) := fun _ => rfl
  generalize moreF L = f at *
  generalize hN' : 2 ^ L.length = N at *
  simp +decide (disch := first | assumption | exact cellV_int _ _ | exact cellV_bool _ | omega | (simp only [GH.pn, GH.sn] <;> omega) | (with_reducible ((repeat (first | apply GH.ok_push | apply GH.ok_set)); assumption)) | ((try simp only [GH.push_hid, GH.set_hid]); first | assumption | (refine GH.vis ?_ ?_ <;> first | assumption | ((try simp only [GH.pn, GH.sn]) <;> omega)))) only [go_sem, ↓reduceIte, Nat.reduceEqDiff, Nat.reduceAdd, Int.reduceToNat, Int.reduceAdd, Int.reduceNeg, Int.reduceSub, Int.reduceMul, Int.reduceLT, Int.reduceLE, Int.reduceEq, ↓GH.gp_eq, ↓GH.gp_ne, ↓GH.gs_eq, ↓GH.gs_ne, GH.push_next, GH.set_next]
  refine CallD.calm ha ?_
  rintro v g2 hx2 rfl
  have hn2 := hx2.next
  have hk2 := hx1.kept.ext hx2
  have eN : (N : Int) - 1 + 1 = N := by omega
  simp +decide (disch := first | assumption | exact cellV_int _ _ | exact cellV_bool _ | omega | (simp only [GH.pn, GH.sn] <;> omega) | (with_reducible ((repeat (first | apply GH.ok_push | apply GH.ok_set)); assumption)) | ((try simp only [GH.push_hid, GH.set_hid]); first | assumption | (refine GH.vis ?_ ?_ <;> first | assumption | ((try simp only [GH.pn, GH.sn]) <;> omega)))) only [go_sem, ↓reduceIte, Nat.reduceEqDiff, Nat.reduceAdd, Int.reduceToNat, Int.reduceAdd, Int.reduceNeg, Int.reduceSub, Int.reduceMul, Int.reduceLT, Int.reduceLE, Int.reduceEq, ↓GH.gp_eq, ↓GH.gp_ne, ↓GH.gs_eq, ↓GH.gs_ne, GH.push_next, GH.set_next, eN]
  refine Wk.loops (fun m e g' lo => g.next ≤ lo ∧ Kept g g' ∧ ∃ S : Nat, S + m = N ∧ (ev e (.s 0) = s ∧ ev e (.s 14) = .int .i64 (N : Int) ∧ ev e (.s 15) = .int .i64 (S : Int) ∧ ev e (.s 5) = .int .i64 ((barF f S).1 : Nat) ∧ ev e (.s 6) = .int .i64 (barF f S).2))
    (fun e g' lo => g.next ≤ lo ∧ (ev e (.s 5) = .int .i64 ((barF f N).1 : Nat) ∧ ev e (.s 6) = .int .i64 (barF f N).2)) (n := N) ?_ ?_ ?_
  · refine ⟨by omega, hk2, 0, by omega, ?_⟩
    show _ ∧ _ ∧ _ ∧ _ = Value.int .i64 0 ∧ _ = Value.int .i64 0
    exact (by simp +decide (disch := first | assumption | (apply GH.ok_push; assumption) | exact cellV_int _ _ | exact cellV_bool _ | omega) only [go_sem, ↓reduceIte, Nat.reduceEqDiff, Nat.reduceAdd, Int.reduceToNat, eN]; first | done | exact rfl)
  · rintro e g' lo - - ⟨hlo, he⟩
    simp +decide (disch := first | assumption | exact cellV_int _ _ | exact cellV_bool _ | omega | (simp only [GH.pn, GH.sn] <;> omega) | (with_reducible ((repeat (first | apply GH.ok_push | apply GH.ok_set)); assumption)) | ((try simp only [GH.push_hid, GH.set_hid]); first | assumption | (refine GH.vis ?_ ?_ <;> first | assumption | ((try simp only [GH.pn, GH.sn]) <;> omega)))) only [go_sem, ↓reduceIte, Nat.reduceEqDiff, Nat.reduceAdd, Int.reduceToNat, Int.reduceAdd, Int.reduceNeg, Int.reduceSub, Int.reduceMul, Int.reduceLT, Int.reduceLE, Int.reduceEq, ↓GH.gp_eq, ↓GH.gp_ne, ↓GH.gs_eq, ↓GH.gs_ne, GH.push_next, GH.set_next, he]
    intro hx0
    exact ⟨hlo, hr⟩
  · rintro m e g' lo ho' hl' ih out ⟨hlo, hk, S, hSm, he⟩
    have hkn := hk.next
    by_cases ci : S < N
    case neg =>
      have ci' : ¬ (S : Int) < N := by omega
      simp +decide (disch := first | assumption | exact cellV_int _ _ | exact cellV_bool _ | omega | (simp only [GH.pn, GH.sn] <;> omega) | (with_reducible ((repeat (first | apply GH.ok_push | apply GH.ok_set)); assumption)) | ((try simp only [GH.push_hid, GH.set_hid]); first | assumption | (refine GH.vis ?_ ?_ <;> first | assumption | ((try simp only [GH.pn, GH.sn]) <;> omega)))) only [go_sem, ↓reduceIte, Nat.reduceEqDiff, Nat.reduceAdd, Int.reduceToNat, Int.reduceAdd, Int.reduceNeg, Int.reduceSub, Int.reduceMul, Int.reduceLT, Int.reduceLE, Int.reduceEq, ↓GH.gp_eq, ↓GH.gp_ne, ↓GH.gs_eq, ↓GH.gs_ne, GH.push_next, GH.set_next, he, ci']
      have : S = N := by omega
      subst this
      exact out _ _ _ ⟨hlo, (by simp +decide (disch := first | assumption | (apply GH.ok_push; assumption) | exact cellV_int _ _ | exact cellV_bool _ | omega) only [go_sem, ↓reduceIte, Nat.reduceEqDiff, Nat.reduceAdd, Int.reduceToNat, he]; first | done | exact rfl)⟩
    have ci' : (S : Int) < N := by omega
    have h1 := hod S ci g' hk
    have h2 := hpl S
    have h3 := hszl S ci
    have h4 := hmf S
    have h5 : barF f (S + 1) = if (barF f S).2 < f S then (S, f S) else barF f S := rfl
    have hcn := fun G => count_rets hX S (by omega) G
    generalize oddS (partsOf L S) = od at *
    generalize sz S = z at *
    generalize f S = fs at *
    generalize barF f S = b at *
    obtain ⟨b1, b2⟩ := b
    dsimp only at he h5
    simp +decide (disch := first | assumption | exact cellV_int _ _ | exact cellV_bool _ | omega | (simp only [GH.pn, GH.sn] <;> omega) | (with_reducible ((repeat (first | apply GH.ok_push | apply GH.ok_set)); assumption)) | ((try simp only [GH.push_hid, GH.set_hid]); first | assumption | (refine GH.vis ?_ ?_ <;> first | assumption | ((try simp only [GH.pn, GH.sn]) <;> omega)))) only [go_sem, ↓reduceIte, Nat.reduceEqDiff, Nat.reduceAdd, Int.reduceToNat, Int.reduceAdd, Int.reduceNeg, Int.reduceSub, Int.reduceMul, Int.reduceLT, Int.reduceLE, Int.reduceEq, ↓GH.gp_eq, ↓GH.gp_ne, ↓GH.gs_eq, ↓GH.gs_ne, GH.push_next, GH.set_next, he, ci']
    refine CallD.calm h1 ?_
    rintro v g3 hx3 rfl
    have hn3 := hx3.next
    have hk3 := hk.ext hx3
    simp +decide (disch := first | assumption | exact cellV_int _ _ | exact cellV_bool _ | omega | (simp only [GH.pn, GH.sn] <;> omega) | (with_reducible ((repeat (first | apply GH.ok_push | apply GH.ok_set)); assumption)) | ((try simp only [GH.push_hid, GH.set_hid]); first | assumption | (refine GH.vis ?_ ?_ <;> first | assumption | ((try simp only [GH.pn, GH.sn]) <;> omega)))) only [go_sem, ↓reduceIte, Nat.reduceEqDiff, Nat.reduceAdd, Int.reduceToNat, Int.reduceAdd, Int.reduceNeg, Int.reduceSub, Int.reduceMul, Int.reduceLT, Int.reduceLE, Int.reduceEq, ↓GH.gp_eq, ↓GH.gp_ne, ↓GH.gs_eq, ↓GH.gs_ne, GH.push_next, GH.set_next, he]
    refine CallD.calm (hcn g3) ?_
    rintro v g4 hx4 rfl
    have hn4 := hx4.next
    have hk4 := hk3.ext hx4
    have hsub : (od : Int) - (z : Int) = fs := h4.symm
    by_cases c : b2 < fs
    · rw [if_pos c] at h5
      simp +decide (disch := first | assumption | exact cellV_int _ _ | exact cellV_bool _ | omega | (simp only [GH.pn, GH.sn] <;> omega) | (with_reducible ((repeat (first | apply GH.ok_push | apply GH.ok_set)); assumption)) | ((try simp only [GH.push_hid, GH.set_hid]); first | assumption | (refine GH.vis ?_ ?_ <;> first | assumption | ((try simp only [GH.pn, GH.sn]) <;> omega)))) only [go_sem, ↓reduceIte, Nat.reduceEqDiff, Nat.reduceAdd, Int.reduceToNat, Int.reduceAdd, Int.reduceNeg, Int.reduceSub, Int.reduceMul, Int.reduceLT, Int.reduceLE, Int.reduceEq, ↓GH.gp_eq, ↓GH.gp_ne, ↓GH.gs_eq, ↓GH.gs_ne, GH.push_next, GH.set_next, he, hsub, c]
      refine ih (m - 1) _ _ _ (by omega) ⟨hlo, hk4, S + 1, by omega, ?_⟩
      rw [h5]
      exact (by simp +decide (disch := first | assumption | (apply GH.ok_push; assumption) | exact cellV_int _ _ | exact cellV_bool _ | omega) only [go_sem, ↓reduceIte, Nat.reduceEqDiff, Nat.reduceAdd, Int.reduceToNat, he]; first | done | exact rfl)
    · rw [if_neg c] at h5
      simp +decide (disch := first | assumption | exact cellV_int _ _ | exact cellV_bool _ | omega | (simp only [GH.pn, GH.sn] <;> omega) | (with_reducible ((repeat (first | apply GH.ok_push | apply GH.ok_set)); assumption)) | ((try simp only [GH.push_hid, GH.set_hid]); first | assumption | (refine GH.vis ?_ ?_ <;> first | assumption | ((try simp only [GH.pn, GH.sn]) <;> omega)))) only [go_sem, ↓reduceIte, Nat.reduceEqDiff, Nat.reduceAdd, Int.reduceToNat, Int.reduceAdd, Int.reduceNeg, Int.reduceSub, Int.reduceMul, Int.reduceLT, Int.reduceLE, Int.reduceEq, ↓GH.gp_eq, ↓GH.gp_ne, ↓GH.gs_eq, ↓GH.gs_ne, GH.push_next, GH.set_next, he, hsub, c]
      refine ih (m - 1) _ _ _ (by omega) ⟨hlo, hk4, S + 1, by omega, ?_⟩
      rw [h5]
      exact (by simp +decide (disch := first | assumption | (apply GH.ok_push; assumption) | exact cellV_int _ _ | exact cellV_bool _ | omega) only [go_sem, ↓reduceIte, Nat.reduceEqDiff, Nat.reduceAdd, Int.reduceToNat, he]; first | done | exact rfl)
/-- What Parts says. -/
structure PtOk (L : List Int) (S : Int) (R : List Int) (e : Int) : Prop where
  yes : (shopB L && okS L S) = true → e = 0 ∧ Srt R ∧ R.Perm (partsOf L S.toNat)
  no : (shopB L && okS L S) = false → e = 2 ∧ R = []
theorem PtOk.same {L : List Int} {S : Int} {R R' : List Int} {e e' : Int} (h : PtOk L S R e) (h' : PtOk L S R' e') : R = R' ∧ e = e' := by
  cases c : (shopB L && okS L S) with
  | true =>
    obtain ⟨a, b, d⟩ := h.yes c
    obtain ⟨a', b', d'⟩ := h'.yes c
    exact ⟨Srt.unique b b' (d.trans d'.symm), by omega⟩
  | false =>
    obtain ⟨a, b⟩ := h.no c
    obtain ⟨a', b'⟩ := h'.no c
    exact ⟨by rw [b, b'], by omega⟩
theorem PtOk.len {L : List Int} {S : Int} {R : List Int} {e : Int} (h : PtOk L S R e) (hL : L.length ≤ 40) : R.length ≤ 40 := by
  cases c : (shopB L && okS L S) with
  | true =>
    obtain ⟨a, b, d⟩ := h.yes c
    rw [d.length_eq]
    exact Nat.le_trans (partsOf_len _ _) hL
  | false =>
    obtain ⟨a, b⟩ := h.no c
    rw [b]; simp
theorem Parts_rets {X : Caller} (hX : Xfr X) (L : List Int) (hL : L.length ≤ 40) (s : Value) (S : Int) (g : GH) (hs : SlR g s (ints L)) :
    Rets Tryd.prog X 35 [s, .int .i64 S] g (fun v g' lo => g.next ≤ lo ∧ Kept g g' ∧ ∃ o R e, v = .tuple #[o, .int .i64 e] ∧ SlR g' o (ints R) ∧ PtOk L S R e) := by
  have hno : (shopB L && okS L S) = false → PtOk L S [] 2 := fun h => ⟨fun h' => absurd (h.symm.trans h') (by decide), fun _ => ⟨rfl, rfl⟩⟩
  refine Rets.run hX.pres p35 (hX.free 35 (by decide) _ _) rfl fun ho => ?_
  simp +decide (disch := first | assumption | exact cellV_int _ _ | exact cellV_bool _ | omega | (simp only [GH.pn, GH.sn] <;> omega) | (with_reducible ((repeat (first | apply GH.ok_push | apply GH.ok_set)); assumption)) | ((try simp only [GH.push_hid, GH.set_hid]); first | assumption | (refine GH.vis ?_ ?_ <;> first | assumption | ((try simp only [GH.pn, GH.sn]) <;> omega)))) only [go_sem, ↓reduceIte, Nat.reduceEqDiff, Nat.reduceAdd, Int.reduceToNat, Int.reduceAdd, Int.reduceNeg, Int.reduceSub, Int.reduceMul, Int.reduceLT, Int.reduceLE, Int.reduceEq, ↓GH.gp_eq, ↓GH.gp_ne, ↓GH.gs_eq, ↓GH.gs_ne, GH.push_next, GH.set_next]
  refine CallD.calm (IsShop_rets hX L hL s g hs) ?_
  rintro v g1 hx1 rfl
  have hn1 := hx1.next
  cases hz : shopB L with
  | false =>
    simp +decide (disch := first | assumption | exact cellV_int _ _ | exact cellV_bool _ | omega | (simp only [GH.pn, GH.sn] <;> omega) | (with_reducible ((repeat (first | apply GH.ok_push | apply GH.ok_set)); assumption)) | ((try simp only [GH.push_hid, GH.set_hid]); first | assumption | (refine GH.vis ?_ ?_ <;> first | assumption | ((try simp only [GH.pn, GH.sn]) <;> omega)))) only [go_sem, ↓reduceIte, Nat.reduceEqDiff, Nat.reduceAdd, Int.reduceToNat, Int.reduceAdd, Int.reduceNeg, Int.reduceSub, Int.reduceMul, Int.reduceLT, Int.reduceLE, Int.reduceEq, ↓GH.gp_eq, ↓GH.gp_ne, ↓GH.gs_eq, ↓GH.gs_ne, GH.push_next, GH.set_next]
    intro hx0
    exact ⟨by omega, hx1.kept, _, [], 2, rfl, .inl ⟨rfl, rfl⟩, hno (by rw [hz]; rfl)⟩
  | true =>
  obtain ⟨hL1, hL10, hA⟩ := shop_ok hz
  have hset := isSet_rets hX L hL10 S s g1 (hs.ext hx1)
  rw [show (decide (0 ≤ S) && decide (S < 2 ^ L.length)) = okS L S from rfl] at hset
  simp +decide (disch := first | assumption | exact cellV_int _ _ | exact cellV_bool _ | omega | (simp only [GH.pn, GH.sn] <;> omega) | (with_reducible ((repeat (first | apply GH.ok_push | apply GH.ok_set)); assumption)) | ((try simp only [GH.push_hid, GH.set_hid]); first | assumption | (refine GH.vis ?_ ?_ <;> first | assumption | ((try simp only [GH.pn, GH.sn]) <;> omega)))) only [go_sem, ↓reduceIte, Nat.reduceEqDiff, Nat.reduceAdd, Int.reduceToNat, Int.reduceAdd, Int.reduceNeg, Int.reduceSub, Int.reduceMul, Int.reduceLT, Int.reduceLE, Int.reduceEq, ↓GH.gp_eq, ↓GH.gp_ne, ↓GH.gs_eq, ↓GH.gs_ne, GH.push_next, GH.set_next]
  refine CallD.calm hset ?_
  rintro v g2 hx2 rfl
  have hn2 := hx2.next
  have hk2 := hx1.kept.ext hx2
  cases hk : okS L S with
  | false =>
    simp +decide (disch := first | assumption | exact cellV_int _ _ | exact cellV_bool _ | omega | (simp only [GH.pn, GH.sn] <;> omega) | (with_reducible ((repeat (first | apply GH.ok_push | apply GH.ok_set)); assumption)) | ((try simp only [GH.push_hid, GH.set_hid]); first | assumption | (refine GH.vis ?_ ?_ <;> first | assumption | ((try simp only [GH.pn, GH.sn]) <;> omega)))) only [go_sem, ↓reduceIte, Nat.reduceEqDiff, Nat.reduceAdd, Int.reduceToNat, Int.reduceAdd, Int.reduceNeg, Int.reduceSub, Int.reduceMul, Int.reduceLT, Int.reduceLE, Int.reduceEq, ↓GH.gp_eq, ↓GH.gp_ne, ↓GH.gs_eq, ↓GH.gs_ne, GH.push_next, GH.set_next]
    intro hx0
    exact ⟨by omega, hk2, _, [], 2, rfl, .inl ⟨rfl, rfl⟩, hno (by rw [hz, hk]; rfl)⟩
  | true =>
  obtain ⟨k, rfl, hkl⟩ := okS_nat hk
  have hpr := parts_rets hX L hz s k _ hkl rfl g2 (hs.kept hk2)
  rw [show partsI (setF L) (andn (allN L.length) k) L.length L.length = partsOf L k from rfl] at hpr
  have hpl := partsOf_len L k
  simp +decide (disch := first | assumption | exact cellV_int _ _ | exact cellV_bool _ | omega | (simp only [GH.pn, GH.sn] <;> omega) | (with_reducible ((repeat (first | apply GH.ok_push | apply GH.ok_set)); assumption)) | ((try simp only [GH.push_hid, GH.set_hid]); first | assumption | (refine GH.vis ?_ ?_ <;> first | assumption | ((try simp only [GH.pn, GH.sn]) <;> omega)))) only [go_sem, ↓reduceIte, Nat.reduceEqDiff, Nat.reduceAdd, Int.reduceToNat, Int.reduceAdd, Int.reduceNeg, Int.reduceSub, Int.reduceMul, Int.reduceLT, Int.reduceLE, Int.reduceEq, ↓GH.gp_eq, ↓GH.gp_ne, ↓GH.gs_eq, ↓GH.gs_ne, GH.push_next, GH.set_next]
  refine CallD.calm hpr ?_
  rintro o g3 hx3 ⟨hok3, hk3, hown⟩
  have hn3 := hx3.next
  have hk3' := hk2.trans hk3
  simp +decide (disch := first | assumption | exact cellV_int _ _ | exact cellV_bool _ | omega | (simp only [GH.pn, GH.sn] <;> omega) | (with_reducible ((repeat (first | apply GH.ok_push | apply GH.ok_set)); assumption)) | ((try simp only [GH.push_hid, GH.set_hid]); first | assumption | (refine GH.vis ?_ ?_ <;> first | assumption | ((try simp only [GH.pn, GH.sn]) <;> omega)))) only [go_sem, ↓reduceIte, Nat.reduceEqDiff, Nat.reduceAdd, Int.reduceToNat, Int.reduceAdd, Int.reduceNeg, Int.reduceSub, Int.reduceMul, Int.reduceLT, Int.reduceLE, Int.reduceEq, ↓GH.gp_eq, ↓GH.gp_ne, ↓GH.gs_eq, ↓GH.gs_ne, GH.push_next, GH.set_next]
  refine CallD.call (sort62_rets hX (partsOf L k) (by omega) o 3 g2.next g2.next g3 hk3.next (Nat.le_refl _) (.inr hown)) ?_
  rintro v G lo hx ⟨R, h1, h2⟩
  have hlow := h1.low
  have hkG : Kept g G := hk3'.after h1.below hk2.next
  simp +decide (disch := first | assumption | exact cellV_int _ _ | exact cellV_bool _ | omega | (simp only [GH.pn, GH.sn] <;> omega) | (with_reducible ((repeat (first | apply GH.ok_push | apply GH.ok_set)); assumption)) | ((try simp only [GH.push_hid, GH.set_hid]); first | assumption | (refine GH.vis ?_ ?_ <;> first | assumption | ((try simp only [GH.pn, GH.sn]) <;> omega)))) only [go_sem, ↓reduceIte, Nat.reduceEqDiff, Nat.reduceAdd, Int.reduceToNat, Int.reduceAdd, Int.reduceNeg, Int.reduceSub, Int.reduceMul, Int.reduceLT, Int.reduceLE, Int.reduceEq, ↓GH.gp_eq, ↓GH.gp_ne, ↓GH.gs_eq, ↓GH.gs_ne, GH.push_next, GH.set_next]
  intro hx0
  refine ⟨by omega, hkG, o, R, 0, rfl, h1.row.read, ⟨fun _ => ⟨rfl, h2, h1.perm⟩, fun h => by rw [hz, hk] at h; cases h⟩⟩
end Go.Proofs.YtnpapnpedcbfnaaDoor
set_option linter.unusedVariables false
namespace Go.Vs
/-! ## Sets that a matching covers -/
def tg (X a : Nat) : Nat := X ^^^ 2 ^ a
theorem tg_bit (X a j : Nat) : (tg X a).testBit j = if j = a then !X.testBit j else X.testBit j := by
  unfold tg
  rw [Nat.testBit_xor]
  split
  · rename_i h; subst h; rw [Nat.testBit_two_pow_self]; simp
  · rename_i h; rw [Nat.testBit_two_pow_of_ne (Ne.symm h)]; simp
theorem tg_self (X a : Nat) : (tg X a).testBit a = !X.testBit a := by rw [tg_bit, if_pos rfl]
theorem tg_ne {X a j : Nat} (h : j ≠ a) : (tg X a).testBit j = X.testBit j := by rw [tg_bit, if_neg h]
theorem tg_tg (X a : Nat) : tg (tg X a) a = X := by
  unfold tg
  rw [Nat.xor_assoc, Nat.xor_self, Nat.xor_zero]
theorem tg_comm (X a b : Nat) : tg (tg X a) b = tg (tg X b) a := by
  unfold tg
  rw [Nat.xor_assoc, Nat.xor_comm (2 ^ a), ← Nat.xor_assoc]
theorem tg_less {X a : Nat} (h : X.testBit a = true) : tg X a < X := by
  have := del_less h
  unfold del at this
  rwa [if_pos h] at this
/-- Two that go with each other. -/
structure Ad (A : Nat → Nat) (u v : Nat) : Prop where
  ne : u ≠ v
  a : (A u).testBit v = true
  b : (A v).testBit u = true
theorem Ad.symm {A : Nat → Nat} {u v : Nat} (h : Ad A u v) : Ad A v u := ⟨h.ne.symm, h.b, h.a⟩
inductive Pm (A : Nat → Nat) : Nat → Prop
  | nil : Pm A 0
  | add {X u v : Nat} : Pm A X → X.testBit u = false → X.testBit v = false → Ad A u v → Pm A (tg (tg X u) v)
theorem Pm.cast {A : Nat → Nat} {X Y : Nat} (h : Pm A X) (e : X = Y) : Pm A Y := e ▸ h
theorem tg4 (X u v x y : Nat) : tg (tg (tg (tg X x) y) u) v = tg (tg (tg (tg X u) v) x) y := by
  rw [tg_comm (tg X x) y u, tg_comm X x u, tg_comm (tg (tg X u) x) y v, tg_comm (tg X u) x v]
theorem Pm.out {A : Nat → Nat} {X x : Nat} (h : Pm A X) (hx : X.testBit x = true) : ∃ y, Ad A x y ∧ X.testBit y = true ∧ Pm A (tg (tg X x) y) := by
  induction h with
  | nil => simp at hx
  | @add X u v h1 h2 h3 h4 ih =>
    by_cases c : x = u
    · subst c
      refine ⟨v, h4, by rw [tg_self, tg_ne h4.ne.symm, h3]; rfl, h1.cast ?_⟩
      rw [tg_comm (tg X x) v x, tg_tg, tg_tg]
    by_cases d : x = v
    · subst d
      refine ⟨u, h4.symm, by rw [tg_ne h4.ne, tg_self, h2]; rfl, h1.cast ?_⟩
      rw [tg_tg, tg_tg]
    rw [tg_ne d, tg_ne c] at hx
    obtain ⟨y, h5, h6, h7⟩ := ih hx
    have hyu : y ≠ u := by rintro rfl; rw [h6] at h2; cases h2
    have hyv : y ≠ v := by rintro rfl; rw [h6] at h3; cases h3
    refine ⟨y, h5, by rw [tg_ne hyv, tg_ne hyu]; exact h6, ?_⟩
    refine (Pm.add h7 (u := u) (v := v) ?_ ?_ h4).cast (tg4 X u v x y)
    · rw [tg_ne (Ne.symm hyu), tg_ne (Ne.symm c)]; exact h2
    · rw [tg_ne (Ne.symm hyv), tg_ne (Ne.symm d)]; exact h3
/-- Two covered sets can be brought nearer to each other, both at once. -/
theorem exch {A : Nat → Nat} : ∀ (X : Nat) (Y x : Nat), Pm A X → Pm A Y → X.testBit x = true → Y.testBit x = false →
    ∃ y, y ≠ x ∧ X.testBit y ≠ Y.testBit y ∧ Pm A (tg (tg X x) y) ∧ Pm A (tg (tg Y x) y) := by
  intro X
  induction X using Nat.strongRecOn with
  | ind X ih =>
  intro Y x hX hY hx hxY
  obtain ⟨p, hp1, hp2, hp3⟩ := hX.out hx
  cases hpY : Y.testBit p with
  | false => exact ⟨p, hp1.ne.symm, by rw [hp2, hpY]; simp, hp3, hY.add hxY hpY hp1⟩
  | true =>
  obtain ⟨q, hq1, hq2, hq3⟩ := hY.out hpY
  have hqx : q ≠ x := by rintro rfl; rw [hq2] at hxY; cases hxY
  cases hqX : X.testBit q with
  | false =>
    refine ⟨q, hqx, by rw [hq2, hqX]; simp, ?_, ?_⟩
    · refine (Pm.add hp3 (u := p) (v := q) ?_ ?_ hq1).cast ?_
      · rw [tg_self, tg_ne hp1.ne.symm, hp2]; rfl
      · rw [tg_ne hq1.ne.symm, tg_ne hqx]; exact hqX
      · rw [tg_tg]
    · refine (Pm.add hq3 (u := p) (v := x) ?_ ?_ hp1.symm).cast ?_
      · rw [tg_ne hq1.ne, tg_self, hpY]; rfl
      · rw [tg_ne (Ne.symm hqx), tg_ne hp1.ne]; exact hxY
      · rw [tg_comm (tg Y p) q p, tg_tg, tg_comm]
  | true =>
  have hlt : tg (tg X x) p < X := Nat.lt_trans (tg_less (by rw [tg_ne hp1.ne.symm]; exact hp2)) (tg_less hx)
  obtain ⟨y, y1, y2, y3, y4⟩ := ih _ hlt (tg (tg Y p) q) q hp3 hq3 (by rw [tg_ne hq1.ne.symm, tg_ne hqx]; exact hqX) (by rw [tg_self, tg_ne hq1.ne.symm, hq2]; rfl)
  have hyp : y ≠ p := by
    rintro rfl
    rw [tg_self, tg_ne hp1.ne.symm, hp2, tg_ne hq1.ne, tg_self, hpY] at y2
    exact y2 rfl
  have hyx : y ≠ x := by
    rintro rfl
    rw [tg_ne hp1.ne, tg_self, hx, tg_ne (Ne.symm hqx), tg_ne hp1.ne, hxY] at y2
    exact y2 rfl
  rw [tg_ne hyp, tg_ne hyx, tg_ne y1, tg_ne hyp] at y2
  refine ⟨y, hyx, y2, ?_, ?_⟩
  · refine (Pm.add y3 (u := p) (v := q) ?_ ?_ hq1).cast ?_
    · rw [tg_ne (Ne.symm hyp), tg_ne hq1.ne, tg_self, tg_ne hp1.ne.symm, hp2]; rfl
    · rw [tg_ne (Ne.symm y1), tg_self, tg_ne hq1.ne.symm, tg_ne hqx, hqX]; rfl
    · rw [tg4 (tg (tg X x) p) p q q y, tg_tg, tg_tg]
  · refine (Pm.add y4 (u := p) (v := x) ?_ ?_ hp1.symm).cast ?_
    · rw [tg_ne (Ne.symm hyp), tg_ne hq1.ne, tg_ne hq1.ne, tg_self, hpY]; rfl
    · rw [tg_ne (Ne.symm hyx), tg_ne (Ne.symm hqx), tg_ne (Ne.symm hqx), tg_ne hp1.ne]; exact hxY
    · rw [tg_tg, tg_comm (tg Y p) y p, tg_tg, tg_comm]
end Go.Vs
set_option linter.unusedVariables false
namespace Go.Proofs.YtnpapnpedcbfnaaDoor
open Go.Vs
/-! ## Covered sets and largest matchings -/
def cn (n X : Nat) : Nat := pc n X.testBit
theorem cn_add {n X a : Nat} (ha : a < n) (h : X.testBit a = false) : cn n (tg X a) = cn n X + 1 :=
  countP_one (p := (tg X a).testBit) (q := X.testBit) (k := a) (by rw [tg_self, h]; rfl) h (fun j hj => tg_ne hj) n ha
theorem cn_sub {n X a : Nat} (ha : a < n) (h : X.testBit a = true) : cn n X = cn n (tg X a) + 1 := by
  have := cn_add (n := n) (X := tg X a) ha (by rw [tg_self, h]; rfl)
  rwa [tg_tg] at this
theorem cn_zero (n : Nat) : cn n 0 = 0 := by
  unfold cn pc
  rw [List.countP_eq_zero]
  intro a _
  simp
theorem pm_le {A : Nat → Nat} {n : Nat} (hA : Sym A n) {X : Nat} (h : Pm A X) : ∀ s, s < 2 ^ n → (∀ j, X.testBit j = true → s.testBit j = true) → cn n X ≤ 2 * best A n s := by
  induction h with
  | nil => intro s _ _; rw [cn_zero]; omega
  | @add X u v h1 h2 h3 h4 ih =>
    intro s hs hsub
    have hu := hsub u (by rw [tg_ne h4.ne, tg_self, h2]; rfl)
    have hv := hsub v (by rw [tg_self, tg_ne h4.ne.symm, h3]; rfl)
    have hun := bit_lt hs hu
    have hvn := bit_lt hs hv
    have := best_pairs hA hs hu hv h4.a
    have := ih (del (del s u) v) (del_lt (del_lt hs)) (fun j hj => by
      have c1 : j ≠ u := by rintro rfl; rw [hj] at h2; cases h2
      have c2 : j ≠ v := by rintro rfl; rw [hj] at h3; cases h3
      rw [del_bit, del_bit, hsub j (by rw [tg_ne c2, tg_ne c1]; exact hj)]
      simp [c1, c2])
    rw [cn_add hvn (by rw [tg_ne h4.ne.symm]; exact h3), cn_add hun h2]
    omega
/-- A largest covered set. -/
structure Bs (A : Nat → Nat) (n s X : Nat) : Prop where
  pm : Pm A X
  sub : ∀ j, X.testBit j = true → s.testBit j = true
  size : cn n X = 2 * best A n s
theorem best_pm {A : Nat → Nat} {n : Nat} (hA : Sym A n) : ∀ s, s < 2 ^ n → ∃ X, Bs A n s X := by
  intro s
  induction s using Nat.strongRecOn with
  | ind s ih =>
  intro hs
  by_cases h : s = 0
  · subst h
    exact ⟨0, .nil, fun _ h => h, by rw [cn_zero, best_zero]⟩
  · have hl := low_bit h
    have hln := bit_lt hs hl
    have h1 := del_less hl
    rcases best_case A n h with e | ⟨k, hk, hp, e⟩
    · obtain ⟨X, a, b, c⟩ := ih _ h1 (del_lt hs)
      exact ⟨X, a, fun j hj => by have := b j hj; rw [del_bit, Bool.and_eq_true] at this; exact this.1, by rw [c, e]⟩
    · rw [Nat.testBit_and, del_bit, Bool.and_eq_true, Bool.and_eq_true] at hp
      obtain ⟨⟨p1, p2⟩, p3⟩ := hp
      have hkl : k ≠ low s := by simpa using p2
      have := del_le (del s (low s)) k
      obtain ⟨X, a, b, c⟩ := ih (del (del s (low s)) k) (by omega) (del_lt (del_lt hs))
      have b' : ∀ j, X.testBit j = true → s.testBit j = true ∧ j ≠ low s ∧ j ≠ k := fun j hj => by
        have := b j hj
        rw [del_bit, del_bit, Bool.and_eq_true, Bool.and_eq_true] at this
        exact ⟨this.1.1, by simpa using this.1.2, by simpa using this.2⟩
      have x1 : X.testBit (low s) = false := by
        cases q : X.testBit (low s) with
        | false => rfl
        | true => exact absurd rfl (b' _ q).2.1
      have x2 : X.testBit k = false := by
        cases q : X.testBit k with
        | false => rfl
        | true => exact absurd rfl (b' _ q).2.2
      refine ⟨tg (tg X (low s)) k, Pm.add a x1 x2 ⟨hkl.symm, p3, by rw [hA.sym k _ hk hln]; exact p3⟩, fun j hj => ?_, ?_⟩
      · by_cases c1 : j = k
        · subst c1; exact p1
        · rw [tg_ne c1] at hj
          by_cases c2 : j = low s
          · subst c2; exact hl
          · rw [tg_ne c2] at hj; exact (b' j hj).1
      · rw [cn_add hk (by rw [tg_ne hkl]; exact x2), cn_add hln x1, c, e]; omega
/-- A hat that some largest matching leaves alone. -/
def DD (A : Nat → Nat) (n s v : Nat) : Prop := best A n (del s v) = best A n s
theorem D_of {A : Nat → Nat} {n : Nat} (hA : Sym A n) {s v W : Nat} (hs : s < 2 ^ n) (h : Pm A W) (hsub : ∀ j, W.testBit j = true → s.testBit j = true) (hc : 2 * best A n s ≤ cn n W) (hv : W.testBit v = false) : DD A n s v := by
  have h1 := pm_le hA h (del s v) (del_lt hs) (fun j hj => by
    have c1 : j ≠ v := by rintro rfl; rw [hj] at hv; cases hv
    rw [del_bit, hsub j hj]; simp [c1])
  have h2 := best_del_le A n v hs
  unfold DD
  omega
theorem D_to {A : Nat → Nat} {n : Nat} (hA : Sym A n) {s v : Nat} (hs : s < 2 ^ n) (h : DD A n s v) : ∃ X, Bs A n s X ∧ X.testBit v = false := by
  obtain ⟨X, a, b, c⟩ := best_pm hA (del s v) (del_lt hs)
  refine ⟨X, ⟨a, fun j hj => ?_, by rw [c, h]⟩, ?_⟩
  · have := b j hj
    rw [del_bit, Bool.and_eq_true] at this
    exact this.1
  · cases q : X.testBit v with
    | false => rfl
    | true => have := b v q; rw [del_bit] at this; simp at this
theorem Bs.has {A : Nat → Nat} {n : Nat} (hA : Sym A n) {s v X : Nat} (hs : s < 2 ^ n) (h : Bs A n s X) (hv : ¬ DD A n s v) : X.testBit v = true := by
  cases q : X.testBit v with
  | true => rfl
  | false => exact absurd (D_of hA hs h.pm h.sub (by rw [h.size]; exact Nat.le_refl _) q) hv
/-- Without a needed hat beside one that isn't, the others are as they were. -/
theorem stable {A : Nat → Nat} {n : Nat} (hA : Sym A n) {s a d v : Nat} (hs : s < 2 ^ n) (had : Ad A a d) (ha : s.testBit a = true) (hd : s.testBit d = true) (hv : s.testBit v = true) (hDd : DD A n s d) (hDa : ¬ DD A n s a) (hva : v ≠ a) :
    DD A n (del s a) v ↔ DD A n s v := by
  have han := bit_lt hs ha
  have hdn := bit_lt hs hd
  have hvn := bit_lt hs hv
  have hone : best A n (del s a) + 1 = best A n s := by
    have h1 := best_del_le A n a hs
    have h2 := best_del_ge A n a hs
    unfold DD at hDa
    omega
  constructor
  · intro h
    by_cases hvd : v = d
    · rw [hvd]; exact hDd
    obtain ⟨X, ⟨x1, x2, x3⟩, x4⟩ := D_to hA (del_lt hs) h
    obtain ⟨Y, hY, y1⟩ := D_to hA hs hDd
    have x2' : ∀ j, X.testBit j = true → s.testBit j = true ∧ j ≠ a := fun j hj => by
      have := x2 j hj
      rw [del_bit, Bool.and_eq_true] at this
      exact ⟨this.1, by simpa using this.2⟩
    have xa : X.testBit a = false := by
      cases q : X.testBit a with
      | false => rfl
      | true => exact absurd rfl (x2' a q).2
    cases xd : X.testBit d with
    | false =>
      refine D_of hA hs (W := tg (tg X a) d) (Pm.add x1 xa xd had) (fun j hj => ?_) ?_ ?_
      · by_cases c1 : j = d
        · subst c1; exact hd
        · rw [tg_ne c1] at hj
          by_cases c2 : j = a
          · subst c2; exact ha
          · rw [tg_ne c2] at hj; exact (x2' j hj).1
      · rw [cn_add hdn (by rw [tg_ne had.ne.symm]; exact xd), cn_add han xa, x3]; omega
      · rw [tg_ne hvd, tg_ne hva]; exact x4
    | true =>
      obtain ⟨y, e1, e2, e3, e4⟩ := exch X Y d x1 hY.pm xd y1
      have hya : Y.testBit a = true := hY.has hA hs hDa
      cases hyY : Y.testBit y with
      | false =>
        exfalso
        rw [hyY] at e2
        have hyX : X.testBit y = true := by simpa using e2
        have hys := (x2' y hyX).1
        have hyn := bit_lt hs hys
        have := pm_le hA e4 s hs (fun j hj => by
          by_cases c1 : j = y
          · subst c1; exact hys
          · rw [tg_ne c1] at hj
            by_cases c2 : j = d
            · subst c2; exact hd
            · rw [tg_ne c2] at hj; exact hY.sub j hj)
        rw [cn_add hyn (by rw [tg_ne e1]; exact hyY), cn_add hdn y1, hY.size] at this
        omega
      | true =>
      rw [hyY] at e2
      have hyX : X.testBit y = false := by simpa using e2
      have hys := hY.sub y hyY
      have hyn := bit_lt hs hys
      have hDy : DD A n s y := D_of hA hs e4 (fun j hj => by
          by_cases c1 : j = y
          · subst c1; exact hys
          · rw [tg_ne c1] at hj
            by_cases c2 : j = d
            · subst c2; exact hd
            · rw [tg_ne c2] at hj; exact hY.sub j hj) (by
        have h1 := cn_sub (n := n) (X := tg Y d) hyn (by rw [tg_ne e1]; exact hyY)
        have h2 := cn_add hdn y1
        have h3 := hY.size
        omega) (by rw [tg_self, tg_ne e1, hyY]; rfl)
      by_cases hyv : y = v
      · rw [← hyv]; exact hDy
      have hyna : y ≠ a := by rintro rfl; exact hDa hDy
      have wa : (tg (tg X d) y).testBit a = false := by rw [tg_ne (Ne.symm hyna), tg_ne had.ne]; exact xa
      have wd : (tg (tg X d) y).testBit d = false := by rw [tg_ne (Ne.symm e1), tg_self, xd]; rfl
      refine D_of hA hs (W := tg (tg (tg (tg X d) y) a) d) (Pm.add e3 wa wd had) (fun j hj => ?_) ?_ ?_
      · by_cases c1 : j = d
        · subst c1; exact hd
        · rw [tg_ne c1] at hj
          by_cases c2 : j = a
          · subst c2; exact ha
          · rw [tg_ne c2] at hj
            by_cases c3 : j = y
            · subst c3; exact hys
            · rw [tg_ne c3, tg_ne c1] at hj; exact (x2' j hj).1
      · have h1 := cn_sub (n := n) (X := X) hdn xd
        rw [cn_add hdn (by rw [tg_ne had.ne.symm]; exact wd), cn_add han wa, cn_add hyn (by rw [tg_ne e1]; exact hyX)]
        omega
      · rw [tg_ne hvd, tg_ne hva, tg_ne (Ne.symm hyv), tg_ne hvd]; exact x4
  · intro h
    obtain ⟨X, hX, xv⟩ := D_to hA hs h
    have xa := hX.has hA hs hDa
    obtain ⟨b, b1, b2, b3⟩ := hX.pm.out xa
    have hbn := bit_lt hs (hX.sub b b2)
    refine D_of hA (del_lt hs) b3 (fun j hj => ?_) ?_ ?_
    · have c1 : j ≠ b := by rintro rfl; rw [tg_self, tg_ne b1.ne.symm, b2] at hj; cases hj
      rw [tg_ne c1] at hj
      have c2 : j ≠ a := by rintro rfl; rw [tg_self, xa] at hj; cases hj
      rw [tg_ne c2] at hj
      rw [del_bit, hX.sub j hj]; simp [c2]
    · have h1 := cn_sub (n := n) han xa
      have h2 := cn_sub (n := n) (X := tg X a) hbn (by rw [tg_ne b1.ne.symm]; exact b2)
      have h3 := hX.size
      omega
    · have c1 : v ≠ b := by rintro rfl; rw [b2] at xv; cases xv
      rw [tg_ne c1, tg_ne hva]; exact xv
end Go.Proofs.YtnpapnpedcbfnaaDoor
set_option linter.unusedVariables false
namespace Go.Proofs.YtnpapnpedcbfnaaDoor
open Go.Vs
/-! ## Hats of which no largest matching leaves two alone -/
def Par (A : Nat → Nat) (n s u w : Nat) : Prop := ∀ X, Bs A n s X → X.testBit u = true ∨ X.testBit w = true
theorem Bs.two {A : Nat → Nat} {n : Nat} (hA : Sym A n) {s X u w : Nat} (hs : s < 2 ^ n) (hX : Bs A n s X) (hu : s.testBit u = true) (hw : s.testBit w = true) (hne : w ≠ u) (xu : X.testBit u = false) (xw : X.testBit w = false) (h : Pm A (tg (tg X u) w)) : False := by
  have hun := bit_lt hs hu
  have hwn := bit_lt hs hw
  have := pm_le hA h s hs (fun j hj => by
    by_cases c1 : j = w
    · subst c1; exact hw
    · rw [tg_ne c1] at hj
      by_cases c2 : j = u
      · subst c2; exact hu
      · rw [tg_ne c2] at hj; exact hX.sub j hj)
  rw [cn_add hwn (by rw [tg_ne hne]; exact xw), cn_add hun xu, hX.size] at this
  omega
theorem par_adj {A : Nat → Nat} {n : Nat} (hA : Sym A n) {s u w : Nat} (hs : s < 2 ^ n) (hu : s.testBit u = true) (hw : s.testBit w = true) (h : Ad A u w) : Par A n s u w := by
  intro X hX
  cases xu : X.testBit u with
  | true => exact .inl rfl
  | false =>
    cases xw : X.testBit w with
    | true => exact .inr rfl
    | false => exact (hX.two hA hs hu hw h.ne.symm xu xw (Pm.add hX.pm xu xw h)).elim
theorem par_trans {A : Nat → Nat} {n : Nat} (hA : Sym A n) {s u v w : Nat} (hs : s < 2 ^ n) (hun : u < n) (hvn : v < n) (hwn : w < n) (hD : DD A n s v) (huw : u ≠ w) (h1 : Par A n s u v) (h2 : Par A n s v w) : Par A n s u w := by
  intro X hX
  cases xu : X.testBit u with
  | true => exact .inl rfl
  | false =>
  cases xw : X.testBit w with
  | true => exact .inr rfl
  | false =>
  exfalso
  have xv : X.testBit v = true := by
    rcases h1 X hX with h | h
    · rw [xu] at h; cases h
    · exact h
  have key : ∀ m Y, pc n (fun j => X.testBit j && !Y.testBit j) = m → Bs A n s Y → Y.testBit v = false → False := by
    intro m
    induction m using Nat.strongRecOn with
    | ind m ih =>
    intro Y hm hY yv
    have yu : Y.testBit u = true := by
      rcases h1 Y hY with h | h
      · exact h
      · rw [yv] at h; cases h
    have yw : Y.testBit w = true := by
      rcases h2 Y hY with h | h
      · rw [yv] at h; cases h
      · exact h
    by_cases c : ∃ x, x ≠ v ∧ X.testBit x = true ∧ Y.testBit x = false
    · obtain ⟨x, c1, c2, c3⟩ := c
      have hsx := hX.sub x c2
      obtain ⟨y, e1, e2, e3, e4⟩ := exch X Y x hX.pm hY.pm c2 c3
      cases hyY : Y.testBit y with
      | false =>
        rw [hyY] at e2
        have hyX : X.testBit y = true := by simpa using e2
        exact hY.two hA hs hsx (hX.sub y hyX) e1 c3 hyY e4
      | true =>
      rw [hyY] at e2
      have hyX : X.testBit y = false := by simpa using e2
      have hsy := hY.sub y hyY
      have hxn := bit_lt hs hsx
      have hyn := bit_lt hs hsy
      have hvx : v ≠ x := Ne.symm c1
      have hvy : v ≠ y := by rintro rfl; rw [hyY] at yv; cases yv
      refine ih (pc n (fun j => X.testBit j && !(tg (tg Y x) y).testBit j)) ?_ (tg (tg Y x) y) rfl ⟨e4, fun j hj => ?_, ?_⟩ (by rw [tg_ne hvy, tg_ne hvx]; exact yv)
      · have := pc_more (p := fun j => X.testBit j && !(tg (tg Y x) y).testBit j) (q := fun j => X.testBit j && !Y.testBit j) hxn (by rw [c2, c3]; rfl) (by rw [tg_ne (Ne.symm e1), tg_self, c3]; simp) (fun j hj => by
          rw [Bool.and_eq_true] at hj ⊢
          refine ⟨hj.1, ?_⟩
          have q1 : j ≠ y := by rintro rfl; rw [hyX] at hj; cases hj.1
          have q2 : j ≠ x := by rintro rfl; rw [tg_ne q1, tg_self, c3] at hj; cases hj.2
          rw [tg_ne q1, tg_ne q2] at hj
          exact hj.2)
        omega
      · by_cases q1 : j = y
        · subst q1; exact hsy
        · rw [tg_ne q1] at hj
          by_cases q2 : j = x
          · subst q2; exact hsx
          · rw [tg_ne q2] at hj; exact hY.sub j hj
      · have q1 := cn_sub (n := n) (X := tg Y x) hyn (by rw [tg_ne e1]; exact hyY)
        have q2 := cn_add hxn c3
        have q3 := hY.size
        omega
    · have hsub : ∀ j, j ≠ v → X.testBit j = true → Y.testBit j = true := fun j h1 h2 => by
        cases q : Y.testBit j with
        | true => rfl
        | false => exact absurd ⟨j, h1, h2, q⟩ c
      have q1 : pc n X.testBit = pc n (fun j => X.testBit j && Y.testBit j) + 1 := countP_one (p := X.testBit) (q := fun j => X.testBit j && Y.testBit j) (k := v) xv (by rw [yv, Bool.and_false]) (fun j hj => by
        cases q : X.testBit j with
        | false => rfl
        | true => rw [hsub j hj q]; rfl) n hvn
      have q2 := pc_more (p := fun j => X.testBit j && Y.testBit j) (q := fun j => (X.testBit j && Y.testBit j) || decide (j = u)) hun (by simp) (by rw [xu]; rfl) (fun j hj => by rw [hj]; rfl)
      have q3 := pc_more (p := fun j => (X.testBit j && Y.testBit j) || decide (j = u)) (q := Y.testBit) hwn yw (by rw [xw, decide_eq_false (Ne.symm huw)]; rfl) (fun j hj => by
        rw [Bool.or_eq_true, Bool.and_eq_true, decide_eq_true_eq] at hj
        rcases hj with hj | hj
        · exact hj.2
        · rw [hj]; exact yu)
      have q4 := hX.size
      have q5 := hY.size
      unfold cn at q4 q5
      omega
  obtain ⟨Y, hY, yv⟩ := D_to hA hs hD
  exact key _ Y rfl hY yv
theorem ad_of {A : Nat → Nat} {n : Nat} (hA : Sym A n) {i k : Nat} (hi : i < n) (hk : k < n) (h : (A i).testBit k = true) : Ad A i k :=
  ⟨(by rintro rfl; rw [hA.irr i hi] at h; cases h), h, (by rw [hA.sym k i hk hi]; exact h)⟩
/-- In a set where the hats left alone only go with each other, each part of them has at most one that is left alone. -/
theorem comp_par {A : Nat → Nat} {n : Nat} (hA : Sym A n) {F u w : Nat} (hF : F < 2 ^ n) (cl : ∀ i k, F.testBit i = true → F.testBit k = true → Ad A i k → DD A n F i → DD A n F k) (hu : F.testBit u = true) (hD : DD A n F u) (r : Rch A F u w) : DD A n F w ∧ (w = u ∨ Par A n F u w) := by
  have hun := bit_lt hF hu
  induction r with
  | base => exact ⟨hD, .inl rfl⟩
  | @step i k h1 h2 h3 ih =>
    obtain ⟨d1, d2⟩ := ih
    have hi := h1.free hu
    have hin := bit_lt hF hi
    have hkn := bit_lt hF h3
    have had := ad_of hA hin hkn h2
    refine ⟨cl i k hi h3 had d1, ?_⟩
    by_cases c : k = u
    · exact .inl c
    · right
      rcases d2 with d2 | d2
      · subst d2; exact par_adj hA hF hi h3 had
      · exact par_trans hA hF hun hin hkn d1 (Ne.symm c) d2 (par_adj hA hF hi h3 had)
/-! ## Even and odd -/
theorem pc_add {n : Nat} {p a b : Nat → Bool} (h : ∀ j, j < n → p j = (a j || b j)) (h2 : ∀ j, j < n → (a j && b j) = false) : pc n p = pc n a + pc n b := by
  induction n with
  | zero => rfl
  | succ n ih =>
    have := ih (fun j hj => h j (by omega)) (fun j hj => h2 j (by omega))
    unfold pc at *
    rw [List.range_succ, List.countP_append, List.countP_append, List.countP_append, List.countP_singleton, List.countP_singleton, List.countP_singleton, this]
    have h1 := h n (by omega)
    have h3 := h2 n (by omega)
    rw [h1]
    cases ha : a n <;> cases hb : b n
    · simp
    · simp; omega
    · simp; omega
    · rw [ha, hb] at h3; cases h3
theorem pc_congr {n : Nat} {p q : Nat → Bool} (h : ∀ j, j < n → p j = q j) : pc n p = pc n q :=
  List.countP_congr fun x hx => by rw [h x (List.mem_range.1 hx)]
theorem pc_some {n : Nat} {p : Nat → Bool} (h : pc n p ≠ 0) : ∃ j, j < n ∧ p j = true := by
  have : 0 < (List.range n).countP p := Nat.pos_of_ne_zero h
  rw [List.countP_pos_iff] at this
  obtain ⟨j, h1, h2⟩ := this
  exact ⟨j, List.mem_range.1 h1, h2⟩
theorem pm_even {A : Nat → Nat} {n F K : Nat} (hF : F < 2 ^ n) (hK : ∀ i k, F.testBit i = true → F.testBit k = true → Ad A i k → K.testBit i = K.testBit k) {X : Nat} (h : Pm A X) (hs : ∀ j, X.testBit j = true → F.testBit j = true) : pc n (fun j => K.testBit j && X.testBit j) % 2 = 0 := by
  induction h with
  | nil =>
    have : pc n (fun j => K.testBit j && (0 : Nat).testBit j) = 0 := by
      unfold pc
      rw [List.countP_eq_zero]
      intro a _
      simp
    rw [this]
  | @add X u v h1 h2 h3 h4 ih =>
    have hu := hs u (by rw [tg_ne h4.ne, tg_self, h2]; rfl)
    have hv := hs v (by rw [tg_self, tg_ne h4.ne.symm, h3]; rfl)
    have ih := ih (fun j hj => by
      have c1 : j ≠ u := by rintro rfl; rw [hj] at h2; cases h2
      have c2 : j ≠ v := by rintro rfl; rw [hj] at h3; cases h3
      exact hs j (by rw [tg_ne c2, tg_ne c1]; exact hj))
    have huv := hK u v hu hv h4
    cases c : K.testBit u with
    | true =>
      rw [c] at huv
      have e1 := countP_one (p := fun j => K.testBit j && (tg X u).testBit j) (q := fun j => K.testBit j && X.testBit j) (k := u) (by rw [c, tg_self, h2]; rfl) (by rw [h2, Bool.and_false]) (fun j hj => by rw [tg_ne hj]) n (bit_lt hF hu)
      have e2 := countP_one (p := fun j => K.testBit j && (tg (tg X u) v).testBit j) (q := fun j => K.testBit j && (tg X u).testBit j) (k := v) (by rw [← huv, tg_self, tg_ne h4.ne.symm, h3]; rfl) (by rw [tg_ne h4.ne.symm, h3, Bool.and_false]) (fun j hj => by rw [tg_ne hj]) n (bit_lt hF hv)
      unfold pc at *
      omega
    | false =>
      rw [c] at huv
      have e : pc n (fun j => K.testBit j && (tg (tg X u) v).testBit j) = pc n (fun j => K.testBit j && X.testBit j) := pc_congr fun j hj => by
        by_cases c1 : j = v
        · subst c1; rw [← huv]; rfl
        · rw [tg_ne c1]
          by_cases c2 : j = u
          · subst c2; rw [c]; rfl
          · rw [tg_ne c2]
      rw [e]
      exact ih
theorem comp_closed {A : Nat → Nat} {n F h : Nat} (hF : F < 2 ^ n) (hh : h < n) : ∀ i k, F.testBit i = true → F.testBit k = true → Ad A i k → (comp A F n h).testBit i = (comp A F n h).testBit k := by
  intro i k hi hk had
  rw [Bool.eq_iff_iff, comp_bit hF hh, comp_bit hF hh]
  exact ⟨fun r => .step r had.a hk, fun r => .step r had.b hi⟩
theorem pc_split (n : Nat) (p q : Nat → Bool) : pc n p = pc n (fun j => p j && q j) + pc n (fun j => p j && !q j) :=
  pc_add (fun j _ => by cases p j <;> cases q j <;> rfl) (fun j _ => by cases p j <;> cases q j <;> rfl)
/-- How many of a part are left alone: at least one if it is odd. -/
theorem part_weak {A : Nat → Nat} {n F h X : Nat} (hF : F < 2 ^ n) (hh : h < n) (hX : Pm A X) (hs : ∀ j, X.testBit j = true → F.testBit j = true) : pc n (comp A F n h).testBit % 2 ≤ pc n (fun j => (comp A F n h).testBit j && !X.testBit j) := by
  have h1 := pm_even hF (comp_closed hF hh) hX hs
  have h2 := pc_split n (comp A F n h).testBit X.testBit
  omega
theorem part_miss {A : Nat → Nat} {n : Nat} (hA : Sym A n) (hS : Shp A n) {F h X : Nat} (hF : F < 2 ^ n) (cl : ∀ i k, F.testBit i = true → F.testBit k = true → Ad A i k → DD A n F i → DD A n F k) (hh : F.testBit h = true) (hX : Bs A n F X) :
    pc n (fun j => (comp A F n h).testBit j && !X.testBit j) = pc n (comp A F n h).testBit % 2 ∧ (DD A n F h ↔ pc n (comp A F n h).testBit % 2 = 1) := by
  have hhn := bit_lt hF hh
  have hev := fun Y (hY : Bs A n F Y) => pm_even hF (comp_closed hF hhn) hY.pm hY.sub
  have hsp := fun Y => pc_split n (comp A F n h).testBit (Nat.testBit Y)
  have hcb := fun k => comp_bit (A := A) hF hhn k
  generalize comp A F n h = K at *
  by_cases hD : DD A n F h
  · have hodd : pc n K.testBit % 2 = 1 := by
      obtain ⟨Y, hY, yh⟩ := D_to hA hF hD
      have h1 := hev Y hY
      have h2 := countP_one (p := K.testBit) (q := fun j => K.testBit j && Y.testBit j) (k := h) ((hcb h).2 .base) (by rw [yh, Bool.and_false]) (fun j hj => by
        cases c : K.testBit j with
        | false => rfl
        | true =>
          rcases (comp_par hA hF cl hh hD ((hcb j).1 c)).2 with e | e
          · exact absurd e hj
          · rcases e Y hY with e | e
            · rw [yh] at e; cases e
            · rw [e]; rfl) n hhn
      unfold pc at *
      omega
    refine ⟨?_, fun _ => hodd, fun _ => hD⟩
    have h1 := hev X hX
    have h2 := hsp X
    obtain ⟨u, u1, u2⟩ := pc_some (n := n) (p := fun j => K.testBit j && !X.testBit j) (by omega)
    simp only [Bool.and_eq_true, Bool.not_eq_true'] at u2
    obtain ⟨u2, u3⟩ := u2
    have ru := (hcb u).1 u2
    have hu := ru.free hh
    have hDu := (comp_par hA hF cl hh hD ru).1
    have h3 := countP_one (p := fun j => K.testBit j && !X.testBit j) (q := fun _ => false) (k := u) (by rw [u2, u3]; rfl) rfl (fun j hj => by
      cases c : K.testBit j with
      | false => rfl
      | true =>
        have r : Rch A F u j := (ru.symm hS hF hh).trans ((hcb j).1 c)
        rcases (comp_par hA hF cl hu hDu r).2 with e | e
        · exact absurd e hj
        · rcases e X hX with e | e
          · rw [u3] at e; cases e
          · rw [e]; rfl) n u1
    have h4 : (List.range n).countP (fun _ => false) = 0 := by rw [List.countP_eq_zero]; intro a _; simp
    rw [hodd]
    unfold pc
    omega
  · have hall : pc n (fun j => K.testBit j && !X.testBit j) = 0 := by
      unfold pc
      rw [List.countP_eq_zero]
      intro j _
      cases c : K.testBit j with
      | false => simp
      | true =>
        have r := (hcb j).1 c
        have hj := r.free hh
        have hDj : ¬ DD A n F j := fun d => hD (comp_par hA hF cl hj d (r.symm hS hF hh)).1
        rw [hX.has hA hF hDj]; simp
    have h1 := hev X hX
    have h2 := hsp X
    exact ⟨by omega, fun d => absurd d hD, fun d => by omega⟩
end Go.Proofs.YtnpapnpedcbfnaaDoor
set_option linter.unusedVariables false
set_option linter.unusedSimpArgs false
namespace Go.Proofs.YtnpapnpedcbfnaaDoor
open Go.Ds Go.Vs
/-! ## All parts together -/
theorem pts_mem {A : Nat → Nat} {F n : Nat} : ∀ i, ∀ K ∈ ptsL A F n i, ∃ h, h < i ∧ F.testBit h = true ∧ lst A F n h = h ∧ K = comp A F n h
  | 0, K, h => by unfold ptsL at h; cases h
  | i + 1, K, h => by
    unfold ptsL at h
    split at h
    · rename_i c
      rcases List.mem_append.1 h with h | h
      · obtain ⟨x, h1, h2⟩ := pts_mem i K h
        exact ⟨x, by omega, h2⟩
      · rw [List.mem_singleton] at h
        exact ⟨i, by omega, c.1, c.2, h⟩
    · obtain ⟨x, h1, h2⟩ := pts_mem i K h
      exact ⟨x, by omega, h2⟩
theorem pts_sum {A : Nat → Nat} {F n : Nat} (hS : Shp A n) (hF : F < 2 ^ n) (q : Nat → Bool) : ∀ i, i ≤ n → ((ptsL A F n i).map (fun K => pc n (fun j => K.testBit j && q j))).sum = pc n (fun j => F.testBit j && q j && decide (lst A F n j < i))
  | 0, _ => by
    have : pc n (fun j => F.testBit j && q j && decide (lst A F n j < 0)) = 0 := by
      unfold pc
      rw [List.countP_eq_zero]
      intro a _
      simp
    rw [this]; rfl
  | i + 1, hi => by
    have ih := pts_sum hS hF q i (by omega)
    have hs : ∀ j, decide (lst A F n j < i + 1) = (decide (lst A F n j < i) || decide (lst A F n j = i)) := fun j => by
      rw [Bool.eq_iff_iff]; simp; omega
    unfold ptsL
    split
    · rename_i c
      obtain ⟨c1, c2⟩ := c
      rw [List.map_append, List.sum_append, ih]
      have e : pc n (fun j => F.testBit j && q j && decide (lst A F n j < i + 1)) = pc n (fun j => F.testBit j && q j && decide (lst A F n j < i)) + pc n (fun j => (comp A F n i).testBit j && q j) := pc_add (fun j hj => by
        rw [hs]
        have hk : (comp A F n i).testBit j = (F.testBit j && decide (lst A F n j = i)) := by
          rw [Bool.eq_iff_iff, comp_bit hF (by omega), Bool.and_eq_true, decide_eq_true_eq]
          constructor
          · intro r
            exact ⟨r.free c1, (lst_same hS hF c1 r).trans c2⟩
          · rintro ⟨r1, r2⟩
            have r := lst_in (A := A) hF hj
            rw [r2] at r
            exact r.symm hS hF r1
        rw [hk]
        cases F.testBit j <;> cases q j <;> simp) (fun j hj => by
        cases d : (comp A F n i).testBit j with
        | false => simp
        | true =>
          have r := (comp_bit hF (by omega) j).1 d
          have := lst_same hS hF c1 r
          rw [decide_eq_false (by omega)]; simp)
      rw [e]
      simp
    · rename_i c
      rw [ih]
      refine pc_congr fun j hj => ?_
      rw [hs]
      cases d : F.testBit j with
      | false => simp
      | true =>
        rw [decide_eq_false (p := lst A F n j = i) (fun e => by
          have r := lst_in (A := A) hF hj
          rw [e] at r
          have r2 := r.symm hS hF d
          exact c ⟨r.free d, by
            have := lst_same hS hF (r.free d) r2
            omega⟩)]
        simp
theorem sum_le {f g : Nat → Nat} : ∀ (D : List Nat), (∀ K ∈ D, f K ≤ g K) → (D.map f).sum ≤ (D.map g).sum
  | [], _ => Nat.le_refl _
  | K :: D, h => by
    have := sum_le D (fun K' hK => h K' (List.mem_cons_of_mem _ hK))
    have := h K List.mem_cons_self
    simp only [List.map_cons, List.sum_cons]
    omega
theorem sum_eq {f g : Nat → Nat} : ∀ (D : List Nat), (∀ K ∈ D, f K = g K) → (D.map f).sum = (D.map g).sum
  | [], _ => rfl
  | K :: D, h => by
    have := sum_eq D (fun K' hK => h K' (List.mem_cons_of_mem _ hK))
    have := h K List.mem_cons_self
    simp only [List.map_cons, List.sum_cons]
    omega
theorem oddS_pts {A : Nat → Nat} {F n : Nat} (hF : F < 2 ^ n) : oddS (partsI A F n n) = ((ptsL A F n n).map (fun K => pc n K.testBit % 2)).sum := by
  unfold oddS partsI
  rw [List.map_map]
  refine sum_eq _ fun K hK => ?_
  show od (K : Int) = _
  unfold od
  rw [Int.toNat_natCast, sz_pc n K (ptsL_lt hF n (Nat.le_refl _) K hK)]
theorem alone_sum {A : Nat → Nat} {F n X : Nat} (hS : Shp A n) (hF : F < 2 ^ n) (hs : ∀ j, X.testBit j = true → F.testBit j = true) : ((ptsL A F n n).map (fun K => pc n (fun j => K.testBit j && !X.testBit j))).sum + cn n X = cn n F := by
  rw [pts_sum hS hF (fun j => !X.testBit j) n (Nat.le_refl _)]
  have h1 := pc_split n F.testBit X.testBit
  have h2 : pc n (fun j => F.testBit j && X.testBit j) = cn n X := pc_congr fun j hj => by
    cases c : X.testBit j with
    | false => simp
    | true => rw [hs j c]; rfl
  have h3 : pc n (fun j => F.testBit j && !X.testBit j && decide (lst A F n j < n)) = pc n (fun j => F.testBit j && !X.testBit j) := pc_congr fun j hj => by
    have := lst_le (A := A) hF hj
    rw [decide_eq_true (by omega), Bool.and_true]
  rw [h3]
  unfold cn at *
  omega
theorem odd_weak {A : Nat → Nat} {F n X : Nat} (hS : Shp A n) (hF : F < 2 ^ n) (hX : Pm A X) (hs : ∀ j, X.testBit j = true → F.testBit j = true) : oddS (partsI A F n n) + cn n X ≤ cn n F := by
  rw [oddS_pts hF, ← alone_sum hS hF hs]
  have := sum_le (f := fun K => pc n K.testBit % 2) (g := fun K => pc n (fun j => K.testBit j && !X.testBit j)) (ptsL A F n n) (fun K hK => by
    obtain ⟨h, h1, h2, h3, rfl⟩ := pts_mem n K hK
    exact part_weak hF h1 hX hs)
  omega
theorem odd_same {A : Nat → Nat} {F n X : Nat} (hA : Sym A n) (hS : Shp A n) (hF : F < 2 ^ n) (cl : ∀ i k, F.testBit i = true → F.testBit k = true → Ad A i k → DD A n F i → DD A n F k) (hX : Bs A n F X) : oddS (partsI A F n n) + cn n X = cn n F := by
  rw [oddS_pts hF, ← alone_sum hS hF hX.sub]
  have := sum_eq (f := fun K => pc n K.testBit % 2) (g := fun K => pc n (fun j => K.testBit j && !X.testBit j)) (ptsL A F n n) (fun K hK => by
    obtain ⟨h, h1, h2, h3, rfl⟩ := pts_mem n K hK
    exact (part_miss hA hS hF cl h2 hX).1.symm)
  omega
/-! ## A set is taken away, hat by hat -/
def rmv (s a : Nat) : Nat → Nat
  | 0 => s
  | i + 1 => if a.testBit i = true then del (rmv s a i) i else rmv s a i
theorem rmv_bit (s a j : Nat) : ∀ i, (rmv s a i).testBit j = (s.testBit j && !(decide (j < i) && a.testBit j))
  | 0 => by unfold rmv; simp
  | i + 1 => by
    have ih := rmv_bit s a j i
    unfold rmv
    split
    · rename_i c
      rw [del_bit, ih]
      by_cases e : j = i
      · subst e; rw [c]; simp
      · have : decide (j < i + 1) = decide (j < i) := decide_eq_decide.2 (by omega)
        rw [this]; simp [e]
    · rename_i c
      rw [ih]
      by_cases e : j = i
      · subst e
        have : a.testBit j = false := by simpa using c
        rw [this]; simp
      · have : decide (j < i + 1) = decide (j < i) := decide_eq_decide.2 (by omega)
        rw [this]
theorem rmv_lt {s a n : Nat} (hs : s < 2 ^ n) : ∀ i, rmv s a i < 2 ^ n
  | 0 => hs
  | i + 1 => by
    unfold rmv
    split
    · exact del_lt (rmv_lt hs i)
    · exact rmv_lt hs i
theorem rmv_all {n a : Nat} (hn : n ≤ 10) (ha : a < 2 ^ n) : rmv (allN n) a n = andn (allN n) a := by
  apply Nat.eq_of_testBit_eq
  intro j
  have hp : 2 ^ n ≤ 1024 := Nat.pow_le_pow_right (by decide) hn
  rw [rmv_bit, all_bit]
  by_cases hj : j < n
  · rw [andn_bit (by omega) (by omega), all_bit, decide_eq_true hj]; rfl
  · rw [decide_eq_false hj]
    have : andn (allN n) a < 2 ^ j := Nat.lt_of_le_of_lt (andn_le _ _) (Nat.lt_of_lt_of_le (all_lt n) (Nat.pow_le_pow_right (by decide) (by omega)))
    rw [Nat.testBit_lt_two_pow this]; rfl
theorem pc_succ (p : Nat → Bool) (i : Nat) : pc (i + 1) p = pc i p + if p i = true then 1 else 0 := by
  unfold pc
  rw [List.range_succ, List.countP_append, List.countP_singleton]
theorem best_rmv {A : Nat → Nat} {n s a : Nat} (hs : s < 2 ^ n) : ∀ i, best A n s ≤ best A n (rmv s a i) + pc i a.testBit
  | 0 => by unfold rmv; omega
  | i + 1 => by
    have ih := best_rmv (A := A) (a := a) hs i
    rw [pc_succ]
    unfold rmv
    split
    · have := best_del_ge A n i (rmv_lt (a := a) hs i)
      omega
    · omega
theorem cn_rest {n a : Nat} (hn : n ≤ 10) (ha : a < 2 ^ n) : cn n (andn (allN n) a) + sz a = n := by
  have hp : 2 ^ n ≤ 1024 := Nat.pow_le_pow_right (by decide) hn
  rw [sz_pc n a ha]
  have h1 := pc_split n (fun _ => true) a.testBit
  have h2 : pc n (fun _ => true) = n := by unfold pc; rw [List.countP_true, List.length_range]
  have h3 : cn n (andn (allN n) a) = pc n (fun j => true && !a.testBit j) := pc_congr fun j hj => by
    rw [andn_bit (by omega) (by omega), all_bit, decide_eq_true hj]
  have h4 : pc n (fun j => true && a.testBit j) = pc n a.testBit := pc_congr fun j hj => rfl
  omega
/-- No set leaves more odd parts over its number than there are hats left alone. -/
theorem berge_le {A : Nat → Nat} {n : Nat} (hA : Sym A n) (hS : Shp A n) (hn : n ≤ 10) {a : Nat} (ha : a < 2 ^ n) : oddS (partsI A (andn (allN n) a) n n) + 2 * best A n (allN n) ≤ n + sz a := by
  have hF : andn (allN n) a < 2 ^ n := Nat.lt_of_le_of_lt (andn_le _ _) (all_lt n)
  obtain ⟨X, hX⟩ := best_pm hA _ hF
  have h1 := odd_weak hS hF hX.pm hX.sub
  have h2 := best_rmv (A := A) (a := a) (all_lt n) n
  rw [rmv_all hn ha, ← sz_pc n a ha] at h2
  have h3 := cn_rest hn ha
  have h4 := hX.size
  omega
/-- The needed hats beside those that aren't. -/
structure Beside (A : Nat → Nat) (n a : Nat) : Prop where
  lt : a < 2 ^ n
  is : ∀ j, j < n → (a.testBit j = true ↔ ¬ DD A n (allN n) j ∧ ∃ d, d < n ∧ Ad A j d ∧ DD A n (allN n) d)
theorem beside_rmv {A : Nat → Nat} {n : Nat} (hA : Sym A n) {a : Nat} (ha : Beside A n a) : ∀ i, i ≤ n → best A n (rmv (allN n) a i) + pc i a.testBit = best A n (allN n) ∧ ∀ v, (rmv (allN n) a i).testBit v = true → (DD A n (rmv (allN n) a i) v ↔ DD A n (allN n) v)
  | 0, _ => ⟨rfl, fun v _ => Iff.rfl⟩
  | i + 1, hi => by
    obtain ⟨ih1, ih2⟩ := beside_rmv hA ha i (by omega)
    have hlt := rmv_lt (a := a) (all_lt n) i
    have hbit := fun j => rmv_bit (allN n) a j i
    have hr : rmv (allN n) a (i + 1) = if a.testBit i = true then del (rmv (allN n) a i) i else rmv (allN n) a i := rfl
    rw [pc_succ, hr]
    generalize rmv (allN n) a i = s at *
    by_cases c : a.testBit i = true
    · rw [if_pos c, if_pos c]
      obtain ⟨c1, d, c2, c3, c4⟩ := (ha.is i (by omega)).1 c
      have si : s.testBit i = true := by rw [hbit, all_bit, decide_eq_true (by omega), decide_eq_false (Nat.lt_irrefl _)]; rfl
      have sd : s.testBit d = true := by
        have : a.testBit d = false := by
          cases q : a.testBit d with
          | false => rfl
          | true => exact absurd c4 ((ha.is d c2).1 q).1
        rw [hbit, all_bit, decide_eq_true c2, this]; simp
      have nd : ¬ DD A n s i := fun h => c1 ((ih2 i si).1 h)
      have yd : DD A n s d := (ih2 d sd).2 c4
      refine ⟨?_, fun v hv => ?_⟩
      · have h1 := best_del_le A n i hlt
        have h2 := best_del_ge A n i hlt
        unfold DD at nd
        omega
      · rw [del_bit, Bool.and_eq_true] at hv
        have hvi : v ≠ i := by simpa using hv.2
        rw [stable hA hlt c3 si sd hv.1 yd nd hvi]
        exact ih2 v hv.1
    · rw [if_neg c, if_neg c]
      exact ⟨by omega, ih2⟩
/-- What Gallai and Edmonds say. -/
structure GE (A : Nat → Nat) (n a : Nat) : Prop where
  odd : oddS (partsI A (andn (allN n) a) n n) + 2 * best A n (allN n) = n + sz a
  part : ∀ K ∈ ptsL A (andn (allN n) a) n n, (∀ j, K.testBit j = true → DD A n (allN n) j) ∧ sz K % 2 = 1 ∨ (∀ j, K.testBit j = true → ¬ DD A n (allN n) j) ∧ sz K % 2 = 0
theorem gallai {A : Nat → Nat} {n : Nat} (hA : Sym A n) (hS : Shp A n) (hn : n ≤ 10) {a : Nat} (ha : Beside A n a) : GE A n a := by
  suffices key : oddS (partsI A (andn (allN n) a) n n) + 2 * best A n (allN n) = n + sz a ∧ ∀ K ∈ ptsL A (andn (allN n) a) n n, (∀ j, K.testBit j = true → DD A n (allN n) j) ∧ sz K % 2 = 1 ∨ (∀ j, K.testBit j = true → ¬ DD A n (allN n) j) ∧ sz K % 2 = 0 from ⟨key.1, key.2⟩
  obtain ⟨h1, h2⟩ := beside_rmv hA ha n (Nat.le_refl _)
  rw [rmv_all hn ha.lt] at h1 h2
  have hF : andn (allN n) a < 2 ^ n := Nat.lt_of_le_of_lt (andn_le _ _) (all_lt n)
  have h3 := cn_rest hn ha.lt
  have hFb : ∀ j, j < n → (andn (allN n) a).testBit j = !a.testBit j := fun j hj => by
    have hp : 2 ^ n ≤ 1024 := Nat.pow_le_pow_right (by decide) hn
    have := ha.lt
    rw [andn_bit (by omega) (by omega), all_bit, decide_eq_true hj]; rfl
  generalize andn (allN n) a = F at *
  have cl : ∀ i k, F.testBit i = true → F.testBit k = true → Ad A i k → DD A n F i → DD A n F k := fun i k hi hk had hD => by
    have hkn := bit_lt hF hk
    rw [h2 i hi] at hD
    rw [h2 k hk]
    by_cases c : DD A n (allN n) k
    · exact c
    · have := (ha.is k hkn).2 ⟨c, i, bit_lt hF hi, had.symm, hD⟩
      rw [hFb k hkn, this] at hk
      cases hk
  obtain ⟨X, hX⟩ := best_pm hA _ hF
  refine ⟨?_, fun K hK => ?_⟩
  · have h4 := odd_same hA hS hF cl hX
    have h5 := hX.size
    rw [← sz_pc n a ha.lt] at h1
    omega
  · obtain ⟨h, q1, q2, q3, rfl⟩ := pts_mem n K hK
    have q4 := (part_miss hA hS hF cl q2 hX).2
    rw [sz_pc n _ (comp_lt hF q1)]
    by_cases d : DD A n F h
    · refine .inl ⟨fun j hj => ?_, q4.1 d⟩
      have r := (comp_bit hF q1 j).1 hj
      exact (h2 j (r.free q2)).1 (comp_par hA hF cl q2 d r).1
    · refine .inr ⟨fun j hj hd => ?_, ?_⟩
      · have r := (comp_bit hF q1 j).1 hj
        have hj2 := r.free q2
        exact d (comp_par hA hF cl hj2 ((h2 j hj2).2 hd) (r.symm hS hF q2)).1
      · have : ¬ pc n (comp A F n h).testBit % 2 = 1 := fun e => d (q4.2 e)
        omega
/-! ## Barrier -/
theorem barF_all (f : Nat → Int) : ∀ N, (∀ s, s < N → f s ≤ (barF f N).2) ∧ 0 ≤ (barF f N).2 ∧ (barF f N = (0, 0) ∨ (barF f N).1 < N ∧ f (barF f N).1 = (barF f N).2)
  | 0 => ⟨fun s h => absurd h (Nat.not_lt_zero _), Int.le_refl _, .inl rfl⟩
  | N + 1 => by
    obtain ⟨h1, h2, h3⟩ := barF_all f N
    have hr : barF f (N + 1) = if (barF f N).2 < f N then (N, f N) else barF f N := rfl
    by_cases c : (barF f N).2 < f N
    · rw [hr, if_pos c]
      refine ⟨fun s hs => ?_, by show 0 ≤ f N; omega, .inr ⟨Nat.lt_succ_self _, rfl⟩⟩
      show f s ≤ f N
      by_cases d : s = N
      · subst d; exact Int.le_refl _
      · have := h1 s (by omega)
        omega
    · rw [hr, if_neg c]
      refine ⟨fun s hs => ?_, h2, ?_⟩
      · by_cases d : s = N
        · subst d; omega
        · exact h1 s (by omega)
      · rcases h3 with h3 | h3
        · exact .inl h3
        · exact .inr ⟨by omega, h3.2⟩
/-- There is such a set. -/
theorem beside_ex {A : Nat → Nat} (n : Nat) : ∃ a, Beside A n a := by
  have inst : DecidablePred fun j => ¬ DD A n (allN n) j ∧ ∃ d, d < n ∧ Ad A j d ∧ DD A n (allN n) d := fun j => Classical.propDecidable _
  refine ⟨bitsF (fun j => decide (¬ DD A n (allN n) j ∧ ∃ d, d < n ∧ Ad A j d ∧ DD A n (allN n) d)) n, bitsF_lt _ _, fun j hj => ?_⟩
  rw [bitsF_bit, decide_eq_true_eq]
  exact ⟨fun h => h.2, fun h => ⟨hj, h⟩⟩
theorem bar_is {L : List Int} (hL : shopB L = true) (hA : Sym (setF L) L.length) (hS : Shp (setF L) L.length) (hn : L.length ≤ 10) :
    (barI L).2 = (L.length : Int) - 2 * (best (setF L) L.length (allN L.length) : Int) ∧ (barI L).1 < 2 ^ L.length ∧ moreF L (barI L).1 = (barI L).2 ∧ ∀ s, s < 2 ^ L.length → moreF L s ≤ (barI L).2 := by
  have hb : barI L = barF (moreF L) (2 ^ L.length) := by unfold barI; rw [if_pos hL]
  rw [hb]
  obtain ⟨h1, h2, h3⟩ := barF_all (moreF L) (2 ^ L.length)
  have hw : ∀ s, s < 2 ^ L.length → moreF L s ≤ (L.length : Int) - 2 * (best (setF L) L.length (allN L.length) : Int) := fun s hs => by
    have := berge_le hA hS hn hs
    unfold moreF partsOf
    omega
  obtain ⟨a, ha⟩ := beside_ex (A := setF L) L.length
  have hg := (gallai hA hS hn ha).odd
  have hma : moreF L a = (L.length : Int) - 2 * (best (setF L) L.length (allN L.length) : Int) := by
    unfold moreF partsOf
    omega
  have h4 := h1 a ha.lt
  have h0 : 0 ≤ moreF L 0 := by unfold moreF; rw [show sz 0 = 0 by rw [sz_pc 0 0 (by decide)]; rfl]; omega
  have hp := Nat.two_pow_pos L.length
  have h5 := h1 0 hp
  rcases h3 with h3 | ⟨h3, h6⟩
  · rw [h3] at h1 h4 h5 ⊢
    dsimp only at h1 h4 h5 ⊢
    have h7 := hw 0 hp
    exact ⟨by omega, hp, by omega, h1⟩
  · have h7 := hw _ h3
    exact ⟨by omega, h3, h6, h1⟩
end Go.Proofs.YtnpapnpedcbfnaaDoor
set_option linter.unusedVariables false
namespace Go.Proofs.YtnpapnpedcbfnaaDoor
open Go.Ds Go.Vs
theorem scan_of2 {L : List Int} : ∀ (P : List (Nat × Nat)) (s tk : Nat) (last : Int), mat (setF L) s P = true → (∀ j, s.testBit j = true → last < (j : Int) ∧ tk.testBit j = false ∧ j < L.length) → scanM L (toI P) last tk = true
  | [], _, _, _, _, _ => rfl
  | (a, b) :: P, s, tk, last, hm, hs => by
    obtain ⟨h1, h2, h3, h4, h5⟩ := mat_cons hm
    obtain ⟨a1, a2, a3⟩ := hs a h2
    obtain ⟨b1, b2, b3⟩ := hs b h3
    have ih := scan_of2 P _ (tk ||| 2 ^ a ||| 2 ^ b) (a : Int) h5 (fun j hj => by
      rw [del_bit, up_bit] at hj
      simp only [Bool.and_eq_true, decide_eq_true_eq, Bool.not_eq_true', decide_eq_false_iff_not] at hj
      obtain ⟨j1, j2, j3⟩ := hs j hj.1.1
      refine ⟨by omega, ?_, j3⟩
      rw [Nat.testBit_or, Nat.testBit_or, Nat.testBit_two_pow, Nat.testBit_two_pow, j2, decide_eq_false (by omega), decide_eq_false (fun h => hj.2 h.symm)]
      rfl)
    show (goodP L last tk (a : Int) (b : Int) && scanM L (toI P) (a : Int) (tk ||| 2 ^ (a : Int).toNat ||| 2 ^ (b : Int).toNat)) = true
    have e1 : (a : Int).toNat = a := rfl
    have e2 : (b : Int).toNat = b := rfl
    rw [e1, e2, ih, Bool.and_true]
    unfold goodP
    rw [e1, e2, decide_eq_true a1, decide_eq_true (show (a : Int) < b by omega), decide_eq_true (show (b : Int) < L.length by omega), h4, a2, b2]
    rfl
theorem matI_of2 {L : List Int} (P : List (Nat × Nat)) (hm : mat (setF L) (allN L.length) P = true) : matI L (toI P) = true :=
  scan_of2 P (allN L.length) 0 (-1) hm (fun j hj => ⟨by omega, by simp, by
    rw [all_bit] at hj; simpa using hj⟩)
theorem sym_of2 {L : List Int} (h : shopB L = true) : Sym (setF L) L.length := by
  obtain ⟨hL1, hL10, hA⟩ := shop_ok h
  exact ⟨fun i k hi hk => (hA i hi).2.2.2 k hk, fun i hi => (hA i hi).2.2.1⟩
end Go.Proofs.YtnpapnpedcbfnaaDoor
set_option maxRecDepth 100000
set_option maxHeartbeats 4000000
set_option linter.unusedSimpArgs false
set_option linter.unusedVariables false
namespace Go.Proofs.YtnpapnpedcbfnaaDoor
open Go.Ds Go.Vs
def needV2 (L : List Int) : Value := .tuple #[.int .i64 (needF (setF L) L.length L.length : Nat), .int .i64 0]
theorem needed2_rets {X : Caller} (hX : Xok X) (L : List Int) (hL : shopB L = true) (s : Value) (g : GH) (hT : HasTab g) (hs : SlR g s (ints L)) :
    Rets Tryd.prog X 25 [s] g (fun v g' lo => g.next ≤ lo ∧ v = needV2 L) := by
  obtain ⟨hL1, hL10, hA⟩ := shop_ok hL
  have hl := hs.len
  rw [ints_len] at hl
  have hsh := IsShop_rets hX.toXfr L (by omega) s g hs
  rw [hL] at hsh
  have hsz := fun g hT hs => sizes_rets hX L hL s g hT hs
  have ha := fun g hs => allHats_rets hX.toXfr L hL10 s g hs
  have e2 : (2 : Int) ^ L.length - 1 = (allN L.length : Nat) := by
    unfold allN
    have := Nat.two_pow_pos L.length
    have e2 : ((2 ^ L.length : Nat) : Int) = 2 ^ L.length := by simp
    omega
  have hN : 2 ^ L.length ≤ 1024 := Nat.pow_le_pow_right (by decide) hL10
  rw [e2] at ha
  have hal : allN L.length < 2 ^ L.length := all_lt _
  have hnl := fun i => needF_lt (setF L) L.length i
  have hps := fun i (h : i ≤ L.length) => Nat.pow_le_pow_right (n := 2) (by decide) h
  obtain ⟨A, hAe⟩ : ∃ A, setF L = A := ⟨_, rfl⟩
  obtain ⟨N, hNe⟩ : ∃ N, 2 ^ L.length = N := ⟨_, rfl⟩
  have hnd : ∀ i, needF A L.length (i + 1) = if best A L.length (del (allN L.length) i) < best A L.length (allN L.length) then needF A L.length i ||| 2 ^ i else needF A L.length i := fun _ => rfl
  unfold needV2
  rw [hNe] at hsz hN hal
  rw [hAe] at hA hsz hnl ⊢
  have hps := fun i (h : i ≤ L.length) => hNe ▸ hps i h
  generalize hall : allN L.length = all at *
  refine Rets.run hX.pres p25 (hX.free 25 (by decide) _ _) rfl fun ho => ?_
  simp +decide (disch := first | assumption | exact cellV_int _ _ | exact cellV_bool _ | omega | (simp only [GH.pn, GH.sn] <;> omega) | (with_reducible ((repeat (first | apply GH.ok_push | apply GH.ok_set)); assumption)) | ((try simp only [GH.push_hid, GH.set_hid]); first | assumption | (refine GH.vis ?_ ?_ <;> first | assumption | ((try simp only [GH.pn, GH.sn]) <;> omega)))) only [go_sem, ↓reduceIte, Nat.reduceEqDiff, Nat.reduceAdd, Int.reduceToNat, Int.reduceAdd, Int.reduceNeg, Int.reduceSub, Int.reduceMul, Int.reduceLT, Int.reduceLE, Int.reduceEq, ↓GH.gp_eq, ↓GH.gp_ne, ↓GH.gs_eq, ↓GH.gs_ne, GH.push_next, GH.set_next]
  refine CallD.calm hsh ?_
  rintro v g0 hx0 rfl
  have hn0 := hx0.next
  simp +decide (disch := first | assumption | exact cellV_int _ _ | exact cellV_bool _ | omega | (simp only [GH.pn, GH.sn] <;> omega) | (with_reducible ((repeat (first | apply GH.ok_push | apply GH.ok_set)); assumption)) | ((try simp only [GH.push_hid, GH.set_hid]); first | assumption | (refine GH.vis ?_ ?_ <;> first | assumption | ((try simp only [GH.pn, GH.sn]) <;> omega)))) only [go_sem, ↓reduceIte, Nat.reduceEqDiff, Nat.reduceAdd, Int.reduceToNat, Int.reduceAdd, Int.reduceNeg, Int.reduceSub, Int.reduceMul, Int.reduceLT, Int.reduceLE, Int.reduceEq, ↓GH.gp_eq, ↓GH.gp_ne, ↓GH.gs_eq, ↓GH.gs_ne, GH.push_next, GH.set_next]
  refine CallD.calm (hsz g0 (hT.ext hx0) (hs.ext hx0)) ?_
  rintro v g1 hx1 ⟨hok1, hk1, J, T, rfl, hJ1, hJ2, hget, hTl, hTb⟩
  have hn1 := hx1.next
  have hk1' : Kept g g1 := hx0.kept.trans hk1
  simp +decide (disch := first | assumption | exact cellV_int _ _ | exact cellV_bool _ | omega | (simp only [GH.pn, GH.sn] <;> omega) | (with_reducible ((repeat (first | apply GH.ok_push | apply GH.ok_set)); assumption)) | ((try simp only [GH.push_hid, GH.set_hid]); first | assumption | (refine GH.vis ?_ ?_ <;> first | assumption | ((try simp only [GH.pn, GH.sn]) <;> omega)))) only [go_sem, ↓reduceIte, Nat.reduceEqDiff, Nat.reduceAdd, Int.reduceToNat, Int.reduceAdd, Int.reduceNeg, Int.reduceSub, Int.reduceMul, Int.reduceLT, Int.reduceLE, Int.reduceEq, ↓GH.gp_eq, ↓GH.gp_ne, ↓GH.gs_eq, ↓GH.gs_ne, GH.push_next, GH.set_next]
  refine CallD.calm (ha g1 (hs.kept hk1')) ?_
  rintro v g2 hx2 rfl
  have hn2 := hx2.next
  have hok2 := hx2.ok hok1
  have hget2 := (hx2.gets J hJ2).trans hget
  simp +decide (disch := first | assumption | exact cellV_int _ _ | exact cellV_bool _ | omega | (simp only [GH.pn, GH.sn] <;> omega) | (with_reducible ((repeat (first | apply GH.ok_push | apply GH.ok_set)); assumption)) | ((try simp only [GH.push_hid, GH.set_hid]); first | assumption | (refine GH.vis ?_ ?_ <;> first | assumption | ((try simp only [GH.pn, GH.sn]) <;> omega)))) only [go_sem, ↓reduceIte, Nat.reduceEqDiff, Nat.reduceAdd, Int.reduceToNat, Int.reduceAdd, Int.reduceNeg, Int.reduceSub, Int.reduceMul, Int.reduceLT, Int.reduceLE, Int.reduceEq, ↓GH.gp_eq, ↓GH.gp_ne, ↓GH.gs_eq, ↓GH.gs_ne, GH.push_next, GH.set_next, hl]
  refine Wk.loops (fun m e g' lo => g.next ≤ lo ∧ Kept g2 g' ∧ ∃ i : Nat, i + m = L.length ∧ (ev e (.s 4) = .slice (some ⟨J, 0, none⟩) N N ∧ ev e (.s 5) = .int .i64 (all : Nat) ∧ ev e (.s 6) = .int .i64 (needF A L.length i : Nat) ∧ ev e (.s 16) = .int .i64 (L.length : Int) ∧ ev e (.s 17) = .int .i64 (i : Nat)))
    (fun e g' lo => g.next ≤ lo ∧ ev e (.s 6) = .int .i64 (needF A L.length L.length : Nat)) (n := L.length) ?_ ?_ ?_
  · exact ⟨by omega, Kept.refl _, 0, by omega, (by simp +decide (disch := first | assumption | (apply GH.ok_push; assumption) | exact cellV_int _ _ | exact cellV_bool _ | omega) only [go_sem, ↓reduceIte, Nat.reduceEqDiff, Nat.reduceAdd, Int.reduceToNat, hl]; first | done | exact rfl)⟩
  · rintro e g' lo hog hlg ⟨hlo, he⟩
    simp +decide (disch := first | assumption | exact cellV_int _ _ | exact cellV_bool _ | omega | (simp only [GH.pn, GH.sn] <;> omega) | (with_reducible ((repeat (first | apply GH.ok_push | apply GH.ok_set)); assumption)) | ((try simp only [GH.push_hid, GH.set_hid]); first | assumption | (refine GH.vis ?_ ?_ <;> first | assumption | ((try simp only [GH.pn, GH.sn]) <;> omega)))) only [go_sem, ↓reduceIte, Nat.reduceEqDiff, Nat.reduceAdd, Int.reduceToNat, Int.reduceAdd, Int.reduceNeg, Int.reduceSub, Int.reduceMul, Int.reduceLT, Int.reduceLE, Int.reduceEq, ↓GH.gp_eq, ↓GH.gp_ne, ↓GH.gs_eq, ↓GH.gs_ne, GH.push_next, GH.set_next, he]
    intro hx0
    exact ⟨hlo, rfl⟩
  · rintro m e g' lo ho' hl' ih out ⟨hlo, hk, i, hi, he⟩
    have hkn := hk.next
    by_cases ci : i < L.length
    case neg =>
      have ci' : ¬ (i : Int) < L.length := by omega
      simp +decide (disch := first | assumption | exact cellV_int _ _ | exact cellV_bool _ | omega | (simp only [GH.pn, GH.sn] <;> omega) | (with_reducible ((repeat (first | apply GH.ok_push | apply GH.ok_set)); assumption)) | ((try simp only [GH.push_hid, GH.set_hid]); first | assumption | (refine GH.vis ?_ ?_ <;> first | assumption | ((try simp only [GH.pn, GH.sn]) <;> omega)))) only [go_sem, ↓reduceIte, Nat.reduceEqDiff, Nat.reduceAdd, Int.reduceToNat, Int.reduceAdd, Int.reduceNeg, Int.reduceSub, Int.reduceMul, Int.reduceLT, Int.reduceLE, Int.reduceEq, ↓GH.gp_eq, ↓GH.gp_ne, ↓GH.gs_eq, ↓GH.gs_ne, GH.push_next, GH.set_next, he, ci']
      have : i = L.length := by omega
      subst this
      exact out _ _ _ ⟨hlo, (by simp +decide (disch := first | assumption | (apply GH.ok_push; assumption) | exact cellV_int _ _ | exact cellV_bool _ | omega) only [go_sem, ↓reduceIte, Nat.reduceEqDiff, Nat.reduceAdd, Int.reduceToNat, he]; first | done | exact rfl)⟩
    have ci' : (i : Int) < L.length := by omega
    have hdk := del_le all i
    have hJ' : J < g'.next := by omega
    simp +decide (disch := first | assumption | exact cellV_int _ _ | exact cellV_bool _ | omega | (simp only [GH.pn, GH.sn] <;> omega) | (with_reducible ((repeat (first | apply GH.ok_push | apply GH.ok_set)); assumption)) | ((try simp only [GH.push_hid, GH.set_hid]); first | assumption | (refine GH.vis ?_ ?_ <;> first | assumption | ((try simp only [GH.pn, GH.sn]) <;> omega)))) only [go_sem, ↓reduceIte, Nat.reduceEqDiff, Nat.reduceAdd, Int.reduceToNat, Int.reduceAdd, Int.reduceNeg, Int.reduceSub, Int.reduceMul, Int.reduceLT, Int.reduceLE, Int.reduceEq, ↓GH.gp_eq, ↓GH.gp_ne, ↓GH.gs_eq, ↓GH.gs_ne, GH.push_next, GH.set_next, he, ci']
    refine CallD.calm (without_rets hX.toXfr all i (by omega) (by omega) g') ?_
    rintro v g3 hx3 rfl
    have hn3 := hx3.next
    have hk3 := hk.ext hx3
    have hok3 := hx3.ok ho'
    have hget3 : g3.get J = cellsOb (ints T) 3 := (hk3.gets J (by omega)).trans hget2
    have hpk := iaddrS_at (j := J) (n := N) (c := N) (m := del all i) (x := (del all i : Nat)) rfl (by omega)
    have hpf := iaddrS_at (j := J) (n := N) (c := N) (m := all) (x := (all : Nat)) rfl hal
    have hck : (ints T)[del all i]? = some (.int .i64 (best A L.length (del all i) : Nat)) := by rw [ints_get (by omega), hTb _ (by omega)]
    have hcf : (ints T)[all]? = some (.int .i64 (best A L.length all : Nat)) := by rw [ints_get (by omega), hTb _ (by omega)]
    have hni := hnl i
    have hpi := hps i (by omega)
    have hnx := hnd i
    by_cases ce : best A L.length (del all i) < best A L.length all
    · have ce' : (best A L.length (del all i) : Int) < (best A L.length all : Int) := by omega
      rw [if_pos ce] at hnx
      simp +decide (disch := first | assumption | exact cellV_int _ _ | exact cellV_bool _ | omega | (simp only [GH.pn, GH.sn] <;> omega) | (with_reducible ((repeat (first | apply GH.ok_push | apply GH.ok_set)); assumption)) | ((try simp only [GH.push_hid, GH.set_hid]); first | assumption | (refine GH.vis ?_ ?_ <;> first | assumption | ((try simp only [GH.pn, GH.sn]) <;> omega)))) only [go_sem, ↓reduceIte, Nat.reduceEqDiff, Nat.reduceAdd, Int.reduceToNat, Int.reduceAdd, Int.reduceNeg, Int.reduceSub, Int.reduceMul, Int.reduceLT, Int.reduceLE, Int.reduceEq, ↓GH.gp_eq, ↓GH.gp_ne, ↓GH.gs_eq, ↓GH.gs_ne, GH.push_next, GH.set_next, he, hpk, hpf, hget3, hck, hcf, ce']
      refine CallD.calm (with_rets hX.toXfr (needF A L.length i) i (by omega) (by omega) g3) ?_
      rintro v g4 hx4 rfl
      have hn4 := hx4.next
      simp +decide (disch := first | assumption | exact cellV_int _ _ | exact cellV_bool _ | omega | (simp only [GH.pn, GH.sn] <;> omega) | (with_reducible ((repeat (first | apply GH.ok_push | apply GH.ok_set)); assumption)) | ((try simp only [GH.push_hid, GH.set_hid]); first | assumption | (refine GH.vis ?_ ?_ <;> first | assumption | ((try simp only [GH.pn, GH.sn]) <;> omega)))) only [go_sem, ↓reduceIte, Nat.reduceEqDiff, Nat.reduceAdd, Int.reduceToNat, Int.reduceAdd, Int.reduceNeg, Int.reduceSub, Int.reduceMul, Int.reduceLT, Int.reduceLE, Int.reduceEq, ↓GH.gp_eq, ↓GH.gp_ne, ↓GH.gs_eq, ↓GH.gs_ne, GH.push_next, GH.set_next, he]
      refine ih (m - 1) _ _ _ (by omega) ⟨hlo, hk3.ext hx4, i + 1, by omega, ?_⟩
      rw [hnx]
      exact (by simp +decide (disch := first | assumption | (apply GH.ok_push; assumption) | exact cellV_int _ _ | exact cellV_bool _ | omega) only [go_sem, ↓reduceIte, Nat.reduceEqDiff, Nat.reduceAdd, Int.reduceToNat, he]; first | done | exact rfl)
    · have ce' : ¬ (best A L.length (del all i) : Int) < (best A L.length all : Int) := by omega
      rw [if_neg ce] at hnx
      simp +decide (disch := first | assumption | exact cellV_int _ _ | exact cellV_bool _ | omega | (simp only [GH.pn, GH.sn] <;> omega) | (with_reducible ((repeat (first | apply GH.ok_push | apply GH.ok_set)); assumption)) | ((try simp only [GH.push_hid, GH.set_hid]); first | assumption | (refine GH.vis ?_ ?_ <;> first | assumption | ((try simp only [GH.pn, GH.sn]) <;> omega)))) only [go_sem, ↓reduceIte, Nat.reduceEqDiff, Nat.reduceAdd, Int.reduceToNat, Int.reduceAdd, Int.reduceNeg, Int.reduceSub, Int.reduceMul, Int.reduceLT, Int.reduceLE, Int.reduceEq, ↓GH.gp_eq, ↓GH.gp_ne, ↓GH.gs_eq, ↓GH.gs_ne, GH.push_next, GH.set_next, he, hpk, hpf, hget3, hck, hcf, ce']
      refine ih (m - 1) _ _ _ (by omega) ⟨hlo, hk3, i + 1, by omega, ?_⟩
      rw [hnx]
      exact (by simp +decide (disch := first | assumption | (apply GH.ok_push; assumption) | exact cellV_int _ _ | exact cellV_bool _ | omega) only [go_sem, ↓reduceIte, Nat.reduceEqDiff, Nat.reduceAdd, Int.reduceToNat, he]; first | done | exact rfl)
end Go.Proofs.YtnpapnpedcbfnaaDoor
set_option maxRecDepth 100000
set_option maxHeartbeats 4000000
set_option linter.unusedSimpArgs false
set_option linter.unusedVariables false
namespace Go.Proofs.YtnpapnpedcbfnaaDoor
open Go.Ds Go.Vs
theorem conv_u16b {i : Nat} (hi : i < 9223372036854775808) : convF IntKind.i64 (Value.int IntKind.u16 (i : Int)) = some (Value.int IntKind.i64 (i : Int)) := by
  show some (Value.int .i64 (wrapF .i64 (i : Int))) = _
  rw [wr64 (by omega) (by omega)]
theorem tmodb (a b : Nat) : (a : Int).tmod (b : Int) = ((a % b : Nat) : Int) := rfl
theorem ex20b (a b : Value) : extF (.tuple #[a, b]) 0 = some a := Eq.trans rfl rfl
theorem ex21b (a b : Value) : extF (.tuple #[a, b]) 1 = some b := Eq.trans rfl rfl
theorem ex30 (a b c : Value) : extF (.tuple #[a, b, c]) 0 = some a := Eq.trans rfl rfl
theorem ex31 (a b c : Value) : extF (.tuple #[a, b, c]) 1 = some b := Eq.trans rfl rfl
theorem ex32 (a b c : Value) : extF (.tuple #[a, b, c]) 2 = some c := Eq.trans rfl rfl
/-! ## The law Tutte -/
theorem okS_of {L : List Int} {k : Nat} (h : k < 2 ^ L.length) : okS L (k : Int) = true := by
  unfold okS
  have e2 : ((2 ^ L.length : Nat) : Int) = 2 ^ L.length := by simp
  rw [← e2, decide_eq_true (by omega), decide_eq_true (by omega)]; rfl
theorem odA_of {L : List Int} {k : Nat} (hz : shopB L = true) (h : k < 2 ^ L.length) : odA L (k : Int) = (oddS (partsOf L k) : Nat) ∧ odE L (k : Int) = 0 := by
  unfold odA odE
  rw [hz, okS_of h]
  exact ⟨rfl, rfl⟩
theorem tutteLaw_rets {X : Caller} (hX : Xok X) (L : List Int) (s p : Value) (u : Int) (hu0 : 0 ≤ u) (hu1 : u < 65536) (P : List (Int × Int)) (g : GH) (hT : HasTab g) (hs : SlR g s (ints L)) (hp : SlQ g p 2 P.length (cellsI P)) :
    Rets Tryd.prog X 8 [s, .int .u16 u, p] g (fun v g' lo => g.next ≤ lo ∧ v = .bool true) := by
  obtain ⟨un, rfl⟩ : ∃ un : Nat, u = un := ⟨u.toNat, by omega⟩
  have hl := hs.len
  rw [ints_len] at hl
  have hlp := hp.len
  refine Rets.run hX.pres p8 (hX.free 8 (by decide) _ _) rfl fun ho => ?_
  simp +decide (disch := first | assumption | exact cellV_int _ _ | exact cellV_bool _ | omega | (simp only [GH.pn, GH.sn] <;> omega) | (with_reducible ((repeat (first | apply GH.ok_push | apply GH.ok_set)); assumption)) | ((try simp only [GH.push_hid, GH.set_hid]); first | assumption | (refine GH.vis ?_ ?_ <;> first | assumption | ((try simp only [GH.pn, GH.sn]) <;> omega)))) only [go_sem, ↓reduceIte, Nat.reduceEqDiff, Nat.reduceAdd, Int.reduceToNat, Int.reduceAdd, Int.reduceNeg, Int.reduceSub, Int.reduceMul, Int.reduceLT, Int.reduceLE, Int.reduceEq, ↓GH.gp_eq, ↓GH.gp_ne, ↓GH.gs_eq, ↓GH.gs_ne, GH.push_next, GH.set_next]
  refine CallD.calm (few_rets hX.toXfr s p _ _ hl hlp g) ?_
  rintro v g1 hx1 rfl
  have hn1 := hx1.next
  have hT1 := hT.ext hx1
  cases hf : (decide (L.length ≤ 40) && decide (P.length ≤ 40)) with
  | false =>
    simp +decide (disch := first | assumption | exact cellV_int _ _ | exact cellV_bool _ | omega | (simp only [GH.pn, GH.sn] <;> omega) | (with_reducible ((repeat (first | apply GH.ok_push | apply GH.ok_set)); assumption)) | ((try simp only [GH.push_hid, GH.set_hid]); first | assumption | (refine GH.vis ?_ ?_ <;> first | assumption | ((try simp only [GH.pn, GH.sn]) <;> omega)))) only [go_sem, ↓reduceIte, Nat.reduceEqDiff, Nat.reduceAdd, Int.reduceToNat, Int.reduceAdd, Int.reduceNeg, Int.reduceSub, Int.reduceMul, Int.reduceLT, Int.reduceLE, Int.reduceEq, ↓GH.gp_eq, ↓GH.gp_ne, ↓GH.gs_eq, ↓GH.gs_ne, GH.push_next, GH.set_next]
    refine CallD.calm (hX.alive g1 hT1) ?_
    rintro v g2 hx2 rfl
    have hn2 := hx2.next
    simp +decide (disch := first | assumption | exact cellV_int _ _ | exact cellV_bool _ | omega | (simp only [GH.pn, GH.sn] <;> omega) | (with_reducible ((repeat (first | apply GH.ok_push | apply GH.ok_set)); assumption)) | ((try simp only [GH.push_hid, GH.set_hid]); first | assumption | (refine GH.vis ?_ ?_ <;> first | assumption | ((try simp only [GH.pn, GH.sn]) <;> omega)))) only [go_sem, ↓reduceIte, Nat.reduceEqDiff, Nat.reduceAdd, Int.reduceToNat, Int.reduceAdd, Int.reduceNeg, Int.reduceSub, Int.reduceMul, Int.reduceLT, Int.reduceLE, Int.reduceEq, ↓GH.gp_eq, ↓GH.gp_ne, ↓GH.gs_eq, ↓GH.gs_ne, GH.push_next, GH.set_next]
    intro hx0
    exact ⟨by omega, rfl⟩
  | true =>
  rw [Bool.and_eq_true, decide_eq_true_eq, decide_eq_true_eq] at hf
  simp +decide (disch := first | assumption | exact cellV_int _ _ | exact cellV_bool _ | omega | (simp only [GH.pn, GH.sn] <;> omega) | (with_reducible ((repeat (first | apply GH.ok_push | apply GH.ok_set)); assumption)) | ((try simp only [GH.push_hid, GH.set_hid]); first | assumption | (refine GH.vis ?_ ?_ <;> first | assumption | ((try simp only [GH.pn, GH.sn]) <;> omega)))) only [go_sem, ↓reduceIte, Nat.reduceEqDiff, Nat.reduceAdd, Int.reduceToNat, Int.reduceAdd, Int.reduceNeg, Int.reduceSub, Int.reduceMul, Int.reduceLT, Int.reduceLE, Int.reduceEq, ↓GH.gp_eq, ↓GH.gp_ne, ↓GH.gs_eq, ↓GH.gs_ne, GH.push_next, GH.set_next]
  refine CallD.calm (refIsShop_rets hX.toXfr L hf.1 s g1 (hs.ext hx1)) ?_
  rintro v g2 hx2 rfl
  have hn2 := hx2.next
  have hT2 := hT1.ext hx2
  have hk2 : Kept g g2 := hx1.kept.ext hx2
  cases hz : shopB L with
  | false =>
    simp +decide (disch := first | assumption | exact cellV_int _ _ | exact cellV_bool _ | omega | (simp only [GH.pn, GH.sn] <;> omega) | (with_reducible ((repeat (first | apply GH.ok_push | apply GH.ok_set)); assumption)) | ((try simp only [GH.push_hid, GH.set_hid]); first | assumption | (refine GH.vis ?_ ?_ <;> first | assumption | ((try simp only [GH.pn, GH.sn]) <;> omega)))) only [go_sem, ↓reduceIte, Nat.reduceEqDiff, Nat.reduceAdd, Int.reduceToNat, Int.reduceAdd, Int.reduceNeg, Int.reduceSub, Int.reduceMul, Int.reduceLT, Int.reduceLE, Int.reduceEq, ↓GH.gp_eq, ↓GH.gp_ne, ↓GH.gs_eq, ↓GH.gs_ne, GH.push_next, GH.set_next]
    refine CallD.calm (hX.alive g2 hT2) ?_
    rintro v g3 hx3 rfl
    have hn3 := hx3.next
    simp +decide (disch := first | assumption | exact cellV_int _ _ | exact cellV_bool _ | omega | (simp only [GH.pn, GH.sn] <;> omega) | (with_reducible ((repeat (first | apply GH.ok_push | apply GH.ok_set)); assumption)) | ((try simp only [GH.push_hid, GH.set_hid]); first | assumption | (refine GH.vis ?_ ?_ <;> first | assumption | ((try simp only [GH.pn, GH.sn]) <;> omega)))) only [go_sem, ↓reduceIte, Nat.reduceEqDiff, Nat.reduceAdd, Int.reduceToNat, Int.reduceAdd, Int.reduceNeg, Int.reduceSub, Int.reduceMul, Int.reduceLT, Int.reduceLE, Int.reduceEq, ↓GH.gp_eq, ↓GH.gp_ne, ↓GH.gs_eq, ↓GH.gs_ne, GH.push_next, GH.set_next]
    intro hx0
    exact ⟨by omega, rfl⟩
  | true =>
  obtain ⟨hL1, hL10, hA⟩ := shop_ok hz
  have hN0 := Nat.two_pow_pos L.length
  have hN1 : 2 ^ L.length ≤ 1024 := Nat.pow_le_pow_right (by decide) hL10
  obtain ⟨S, hSe⟩ : ∃ S, un % 2 ^ L.length = S := ⟨_, rfl⟩
  have hS : S < 2 ^ L.length := by rw [← hSe]; exact Nat.mod_lt _ hN0
  have hshl := shl_i (k := L.length) (by omega)
  have hcv := conv_u16b (i := un) (by omega)
  have htm := tmodb un (2 ^ L.length)
  rw [hSe] at htm
  have hne0 : ¬ ((2 ^ L.length : Nat) : Int) = 0 := by omega
  obtain ⟨b1, b2, b3, b4⟩ := bar_is hz (sym_of2 hz) (shp_of hz) hL10
  have b5 := b4 S hS
  have hbar := fun G (hk : Kept g G) => Barrier_rets hX.toXfr L hf.1 s G (hs.kept hk)
  rw [show barE L = 0 by unfold barE; rw [if_pos hz]] at hbar
  generalize hbi : barI L = bi at *
  obtain ⟨b, d⟩ := bi
  dsimp only at b1 b2 b3 b4 b5 hbar
  have hod := fun (k : Nat) (hk : k < 2 ^ L.length) G (hk' : Kept g G) => Odd_rets hX.toXfr L hf.1 s (k : Int) G (hs.kept hk')
  have ho1 := hod b b2
  have ho2 := hod S hS
  rw [(odA_of hz b2).1, (odA_of hz b2).2] at ho1
  rw [(odA_of hz hS).1, (odA_of hz hS).2] at ho2
  have hm1 : moreF L b = (oddS (partsOf L b) : Int) - (sz b : Int) := rfl
  have hm2 : moreF L S = (oddS (partsOf L S) : Int) - (sz S : Int) := rfl
  have hsz1 := fun G => size_rets hX.toXfr b (by omega) G
  have hsz2 := fun G => size_rets hX.toXfr S (by omega) G
  have hRl := lrg_len (setF L) L.length (allN L.length)
  have hRm := matI_of2 (L := L) _ (lrg_mat (setF L) L.length (allN L.length))
  have hle : matI L P = true → P.length ≤ (lrg (setF L) L.length (allN L.length)).length := fun h => by
    obtain ⟨Q, rfl, hmq⟩ := matI_mat h
    have := mat_le (n := L.length) (allN L.length) (all_lt _) Q hmq
    rw [lrg_len]
    simpa [toI] using this
  have hbs : 2 * best (setF L) L.length (allN L.length) ≤ L.length := by
    obtain ⟨W, hW⟩ := best_pm (sym_of2 hz) (allN L.length) (all_lt _)
    rw [← hW.size]
    have := List.countP_le_length (p := W.testBit) (l := List.range L.length)
    rw [List.length_range] at this
    exact this
  have hall := all_lt L.length
  simp +decide (disch := first | assumption | exact cellV_int _ _ | exact cellV_bool _ | omega | (simp only [GH.pn, GH.sn] <;> omega) | (with_reducible ((repeat (first | apply GH.ok_push | apply GH.ok_set)); assumption)) | ((try simp only [GH.push_hid, GH.set_hid]); first | assumption | (refine GH.vis ?_ ?_ <;> first | assumption | ((try simp only [GH.pn, GH.sn]) <;> omega)))) only [go_sem, ↓reduceIte, Nat.reduceEqDiff, Nat.reduceAdd, Int.reduceToNat, Int.reduceAdd, Int.reduceNeg, Int.reduceSub, Int.reduceMul, Int.reduceLT, Int.reduceLE, Int.reduceEq, ↓GH.gp_eq, ↓GH.gp_ne, ↓GH.gs_eq, ↓GH.gs_ne, GH.push_next, GH.set_next, hl]
  refine CallD.calm (Largest_rets hX L hz s g2 hT2 (hs.kept hk2)) ?_
  rintro v g3 hx3 ⟨hok3, hk3, o, rfl, hown3⟩
  have hn3 := hx3.next
  have hk3' := hk2.trans hk3
  have ho3 := hown3.read
  generalize lrg (setF L) L.length (allN L.length) = R at *
  have hlo := ho3.len
  have ho3' : SlQ g3 o 2 (toI R).length (cellsI (toI R)) := by rw [cellsI_toI, toI, List.length_map]; exact ho3
  have hism := fun G (hk : Kept g3 G) => IsMatching_rets hX.toXfr L hf.1 s o (toI R) (by simp [toI]; omega) G (hs.kept (hk3'.trans hk)) (ho3'.kept hk)
  rw [hz] at hism
  simp only [if_true, hRm] at hism
  have hismp := fun G (hk : Kept g G) => IsMatching_rets hX.toXfr L hf.1 s p P (by omega) G (hs.kept hk) (hp.kept hk)
  rw [hz] at hismp
  simp only [if_true] at hismp
  have k1 := Nat.le_trans (oddS_le (partsOf L b)) (partsOf_len L b)
  have k2 := Nat.le_trans (oddS_le (partsOf L S)) (partsOf_len L S)
  have k3 := sz_le b2
  have k4 := sz_le hS
  generalize oddS (partsOf L b) = ob at *
  generalize oddS (partsOf L S) = oS at *
  generalize sz b = zb at *
  generalize sz S = zS at *
  generalize moreF L b = mb at *
  generalize moreF L S = mS at *
  generalize best (setF L) L.length (allN L.length) = B at *
  have c1' : (ob : Int) - (zb : Int) = d := by omega
  have c2 : ¬ d < (oS : Int) - (zS : Int) := by omega
  have c3 : (L.length : Int) - 2 * (R.length : Int) = d := by omega
  simp +decide (disch := first | assumption | exact cellV_int _ _ | exact cellV_bool _ | omega | (simp only [GH.pn, GH.sn] <;> omega) | (with_reducible ((repeat (first | apply GH.ok_push | apply GH.ok_set)); assumption)) | ((try simp only [GH.push_hid, GH.set_hid]); first | assumption | (refine GH.vis ?_ ?_ <;> first | assumption | ((try simp only [GH.pn, GH.sn]) <;> omega)))) only [go_sem, ↓reduceIte, Nat.reduceEqDiff, Nat.reduceAdd, Int.reduceToNat, Int.reduceAdd, Int.reduceNeg, Int.reduceSub, Int.reduceMul, Int.reduceLT, Int.reduceLE, Int.reduceEq, ↓GH.gp_eq, ↓GH.gp_ne, ↓GH.gs_eq, ↓GH.gs_ne, GH.push_next, GH.set_next, ex20b, ex21b, ex30, ex31, ex32]
  refine CallD.calm (hbar g3 hk3') ?_
  rintro v g4 hx4 rfl
  have hn4 := hx4.next
  have hk4 := hk3'.ext hx4
  simp +decide (disch := first | assumption | exact cellV_int _ _ | exact cellV_bool _ | omega | (simp only [GH.pn, GH.sn] <;> omega) | (with_reducible ((repeat (first | apply GH.ok_push | apply GH.ok_set)); assumption)) | ((try simp only [GH.push_hid, GH.set_hid]); first | assumption | (refine GH.vis ?_ ?_ <;> first | assumption | ((try simp only [GH.pn, GH.sn]) <;> omega)))) only [go_sem, ↓reduceIte, Nat.reduceEqDiff, Nat.reduceAdd, Int.reduceToNat, Int.reduceAdd, Int.reduceNeg, Int.reduceSub, Int.reduceMul, Int.reduceLT, Int.reduceLE, Int.reduceEq, ↓GH.gp_eq, ↓GH.gp_ne, ↓GH.gs_eq, ↓GH.gs_ne, GH.push_next, GH.set_next, ex30, ex31, ex32]
  refine CallD.calm (ho1 g4 hk4) ?_
  rintro v g5 hx5 rfl
  have hn5 := hx5.next
  have hk5 := hk4.ext hx5
  simp +decide (disch := first | assumption | exact cellV_int _ _ | exact cellV_bool _ | omega | (simp only [GH.pn, GH.sn] <;> omega) | (with_reducible ((repeat (first | apply GH.ok_push | apply GH.ok_set)); assumption)) | ((try simp only [GH.push_hid, GH.set_hid]); first | assumption | (refine GH.vis ?_ ?_ <;> first | assumption | ((try simp only [GH.pn, GH.sn]) <;> omega)))) only [go_sem, ↓reduceIte, Nat.reduceEqDiff, Nat.reduceAdd, Int.reduceToNat, Int.reduceAdd, Int.reduceNeg, Int.reduceSub, Int.reduceMul, Int.reduceLT, Int.reduceLE, Int.reduceEq, ↓GH.gp_eq, ↓GH.gp_ne, ↓GH.gs_eq, ↓GH.gs_ne, GH.push_next, GH.set_next, ex20b, ex21b, hcv, hshl, htm, hne0]
  refine CallD.calm (ho2 g5 hk5) ?_
  rintro v g6 hx6 rfl
  have hn6 := hx6.next
  have hk6 := hk5.ext hx6
  have hk36 : Kept g3 g6 := ((hx4.kept.trans hx5.kept).trans hx6.kept)
  simp +decide (disch := first | assumption | exact cellV_int _ _ | exact cellV_bool _ | omega | (simp only [GH.pn, GH.sn] <;> omega) | (with_reducible ((repeat (first | apply GH.ok_push | apply GH.ok_set)); assumption)) | ((try simp only [GH.push_hid, GH.set_hid]); first | assumption | (refine GH.vis ?_ ?_ <;> first | assumption | ((try simp only [GH.pn, GH.sn]) <;> omega)))) only [go_sem, ↓reduceIte, Nat.reduceEqDiff, Nat.reduceAdd, Int.reduceToNat, Int.reduceAdd, Int.reduceNeg, Int.reduceSub, Int.reduceMul, Int.reduceLT, Int.reduceLE, Int.reduceEq, ↓GH.gp_eq, ↓GH.gp_ne, ↓GH.gs_eq, ↓GH.gs_ne, GH.push_next, GH.set_next, ex20b, ex21b]
  refine CallD.calm (hism g6 hk36) ?_
  rintro v g7 hx7 rfl
  have hn7 := hx7.next
  have hk7 := hk6.ext hx7
  simp +decide (disch := first | assumption | exact cellV_int _ _ | exact cellV_bool _ | omega | (simp only [GH.pn, GH.sn] <;> omega) | (with_reducible ((repeat (first | apply GH.ok_push | apply GH.ok_set)); assumption)) | ((try simp only [GH.push_hid, GH.set_hid]); first | assumption | (refine GH.vis ?_ ?_ <;> first | assumption | ((try simp only [GH.pn, GH.sn]) <;> omega)))) only [go_sem, ↓reduceIte, Nat.reduceEqDiff, Nat.reduceAdd, Int.reduceToNat, Int.reduceAdd, Int.reduceNeg, Int.reduceSub, Int.reduceMul, Int.reduceLT, Int.reduceLE, Int.reduceEq, ↓GH.gp_eq, ↓GH.gp_ne, ↓GH.gs_eq, ↓GH.gs_ne, GH.push_next, GH.set_next, ex20b, ex21b, hlo, c3]
  refine CallD.calm (hsz1 g7) ?_
  rintro v g8 hx8 rfl
  have hn8 := hx8.next
  have hk8 := hk7.ext hx8
  simp +decide (disch := first | assumption | exact cellV_int _ _ | exact cellV_bool _ | omega | (simp only [GH.pn, GH.sn] <;> omega) | (with_reducible ((repeat (first | apply GH.ok_push | apply GH.ok_set)); assumption)) | ((try simp only [GH.push_hid, GH.set_hid]); first | assumption | (refine GH.vis ?_ ?_ <;> first | assumption | ((try simp only [GH.pn, GH.sn]) <;> omega)))) only [go_sem, ↓reduceIte, Nat.reduceEqDiff, Nat.reduceAdd, Int.reduceToNat, Int.reduceAdd, Int.reduceNeg, Int.reduceSub, Int.reduceMul, Int.reduceLT, Int.reduceLE, Int.reduceEq, ↓GH.gp_eq, ↓GH.gp_ne, ↓GH.gs_eq, ↓GH.gs_ne, GH.push_next, GH.set_next, c1', hcv, hshl, htm, hne0]
  refine CallD.calm (hsz2 g8) ?_
  rintro v g9 hx9 rfl
  have hn9 := hx9.next
  have hk9 := hk8.ext hx9
  simp +decide (disch := first | assumption | exact cellV_int _ _ | exact cellV_bool _ | omega | (simp only [GH.pn, GH.sn] <;> omega) | (with_reducible ((repeat (first | apply GH.ok_push | apply GH.ok_set)); assumption)) | ((try simp only [GH.push_hid, GH.set_hid]); first | assumption | (refine GH.vis ?_ ?_ <;> first | assumption | ((try simp only [GH.pn, GH.sn]) <;> omega)))) only [go_sem, ↓reduceIte, Nat.reduceEqDiff, Nat.reduceAdd, Int.reduceToNat, Int.reduceAdd, Int.reduceNeg, Int.reduceSub, Int.reduceMul, Int.reduceLT, Int.reduceLE, Int.reduceEq, ↓GH.gp_eq, ↓GH.gp_ne, ↓GH.gs_eq, ↓GH.gs_ne, GH.push_next, GH.set_next, c2]
  refine CallD.calm (hismp g9 hk9) ?_
  rintro v g10 hx10 rfl
  have hn10 := hx10.next
  have hk10 := hk9.ext hx10
  cases hm : matI L P with
  | false =>
    simp +decide (disch := first | assumption | exact cellV_int _ _ | exact cellV_bool _ | omega | (simp only [GH.pn, GH.sn] <;> omega) | (with_reducible ((repeat (first | apply GH.ok_push | apply GH.ok_set)); assumption)) | ((try simp only [GH.push_hid, GH.set_hid]); first | assumption | (refine GH.vis ?_ ?_ <;> first | assumption | ((try simp only [GH.pn, GH.sn]) <;> omega)))) only [go_sem, ↓reduceIte, Nat.reduceEqDiff, Nat.reduceAdd, Int.reduceToNat, Int.reduceAdd, Int.reduceNeg, Int.reduceSub, Int.reduceMul, Int.reduceLT, Int.reduceLE, Int.reduceEq, ↓GH.gp_eq, ↓GH.gp_ne, ↓GH.gs_eq, ↓GH.gs_ne, GH.push_next, GH.set_next, ex20b, ex21b]
    refine CallD.calm (hX.alive g10 (hT.kept hk10)) ?_
    rintro v g11 hx11 rfl
    have hn11 := hx11.next
    simp +decide (disch := first | assumption | exact cellV_int _ _ | exact cellV_bool _ | omega | (simp only [GH.pn, GH.sn] <;> omega) | (with_reducible ((repeat (first | apply GH.ok_push | apply GH.ok_set)); assumption)) | ((try simp only [GH.push_hid, GH.set_hid]); first | assumption | (refine GH.vis ?_ ?_ <;> first | assumption | ((try simp only [GH.pn, GH.sn]) <;> omega)))) only [go_sem, ↓reduceIte, Nat.reduceEqDiff, Nat.reduceAdd, Int.reduceToNat, Int.reduceAdd, Int.reduceNeg, Int.reduceSub, Int.reduceMul, Int.reduceLT, Int.reduceLE, Int.reduceEq, ↓GH.gp_eq, ↓GH.gp_ne, ↓GH.gs_eq, ↓GH.gs_ne, GH.push_next, GH.set_next]
    intro hx0
    exact ⟨by omega, rfl⟩
  | true =>
    have c4 : (P.length : Int) ≤ R.length := by have := hle hm; omega
    simp +decide (disch := first | assumption | exact cellV_int _ _ | exact cellV_bool _ | omega | (simp only [GH.pn, GH.sn] <;> omega) | (with_reducible ((repeat (first | apply GH.ok_push | apply GH.ok_set)); assumption)) | ((try simp only [GH.push_hid, GH.set_hid]); first | assumption | (refine GH.vis ?_ ?_ <;> first | assumption | ((try simp only [GH.pn, GH.sn]) <;> omega)))) only [go_sem, ↓reduceIte, Nat.reduceEqDiff, Nat.reduceAdd, Int.reduceToNat, Int.reduceAdd, Int.reduceNeg, Int.reduceSub, Int.reduceMul, Int.reduceLT, Int.reduceLE, Int.reduceEq, ↓GH.gp_eq, ↓GH.gp_ne, ↓GH.gs_eq, ↓GH.gs_ne, GH.push_next, GH.set_next, ex20b, ex21b, hlp, hlo, c4]
    refine CallD.calm (hX.alive g10 (hT.kept hk10)) ?_
    rintro v g11 hx11 rfl
    have hn11 := hx11.next
    simp +decide (disch := first | assumption | exact cellV_int _ _ | exact cellV_bool _ | omega | (simp only [GH.pn, GH.sn] <;> omega) | (with_reducible ((repeat (first | apply GH.ok_push | apply GH.ok_set)); assumption)) | ((try simp only [GH.push_hid, GH.set_hid]); first | assumption | (refine GH.vis ?_ ?_ <;> first | assumption | ((try simp only [GH.pn, GH.sn]) <;> omega)))) only [go_sem, ↓reduceIte, Nat.reduceEqDiff, Nat.reduceAdd, Int.reduceToNat, Int.reduceAdd, Int.reduceNeg, Int.reduceSub, Int.reduceMul, Int.reduceLT, Int.reduceLE, Int.reduceEq, ↓GH.gp_eq, ↓GH.gp_ne, ↓GH.gs_eq, ↓GH.gs_ne, GH.push_next, GH.set_next]
    intro hx0
    exact ⟨by omega, rfl⟩
end Go.Proofs.YtnpapnpedcbfnaaDoor
set_option maxRecDepth 100000
set_option maxHeartbeats 4000000
set_option linter.unusedSimpArgs false
set_option linter.unusedVariables false
namespace Go.Proofs.YtnpapnpedcbfnaaDoor
open Go.Ds Go.Vs
/-! ## The law Gallai -/
/-- The hats that are not needed. -/
def notN (A : Nat → Nat) (n : Nat) : Nat := 2 ^ n - (needF A n n + 1)
theorem notN_bit {A : Nat → Nat} {n : Nat} (j : Nat) : (notN A n).testBit j = true ↔ j < n ∧ DD A n (allN n) j := by
  unfold notN DD
  rw [Nat.testBit_two_pow_sub_succ (needF_lt A n n), needF_bit, Bool.and_eq_true, decide_eq_true_eq]
  have := best_del_le A n j (all_lt n)
  constructor
  · rintro ⟨h1, h2⟩
    refine ⟨h1, ?_⟩
    rw [decide_eq_true h1, Bool.true_and, Bool.not_eq_true', decide_eq_false_iff_not] at h2
    omega
  · rintro ⟨h1, h2⟩
    refine ⟨h1, ?_⟩
    rw [decide_eq_true h1, Bool.true_and, Bool.not_eq_true', decide_eq_false_iff_not]
    omega
theorem notN_lt (A : Nat → Nat) (n : Nat) : notN A n < 2 ^ n := by
  have := needF_lt A n n
  unfold notN
  omega
def besB (A : Nat → Nat) (n i : Nat) : Bool := (needF A n n).testBit i && decide (A i &&& notN A n ≠ 0)
def besF (A : Nat → Nat) (n : Nat) : Nat → Nat := bitsF (besB A n)
theorem and_ne {a b : Nat} : a &&& b ≠ 0 ↔ ∃ j, a.testBit j = true ∧ b.testBit j = true := by
  constructor
  · intro h
    have := low_bit h
    rw [Nat.testBit_and, Bool.and_eq_true] at this
    exact ⟨_, this⟩
  · rintro ⟨j, h1, h2⟩ e
    have : (a &&& b).testBit j = true := by rw [Nat.testBit_and, h1, h2]; rfl
    rw [e] at this
    simp at this
theorem besF_is {A : Nat → Nat} {n : Nat} (hA : Sym A n) : Beside A n (besF A n n) := by
  refine ⟨bitsF_lt _ _, fun j hj => ?_⟩
  unfold besF
  rw [bitsF_bit]
  unfold besB
  rw [Bool.and_eq_true, decide_eq_true_eq, and_ne, needF_bit, decide_eq_true hj, Bool.true_and, decide_eq_true_eq]
  have := best_del_le A n j (all_lt n)
  unfold DD
  constructor
  · rintro ⟨_, h1, d, h2, h3⟩
    obtain ⟨h4, h5⟩ := (notN_bit d).1 h3
    exact ⟨by omega, d, h4, ad_of hA hj h4 h2, h5⟩
  · rintro ⟨h1, d, h2, h3, h4⟩
    exact ⟨hj, by omega, d, h3.a, (notN_bit d).2 ⟨h2, h4⟩⟩
theorem partsOf_mem2 {L : List Int} {S : Nat} {x : Int} (h : x ∈ partsOf L S) : ∃ K : Nat, x = K ∧ K < 2 ^ L.length ∧ K ∈ ptsL (setF L) (andn (allN L.length) S) L.length L.length := by
  unfold partsOf partsI at h
  obtain ⟨y, h1, rfl⟩ := List.mem_map.1 h
  exact ⟨y, rfl, ptsL_lt (Nat.lt_of_le_of_lt (andn_le _ _) (all_lt _)) _ (Nat.le_refl _) y h1, h1⟩
/-- What the law asks of a part. -/
theorem part_says {A : Nat → Nat} {n a K : Nat} (hn : n ≤ 10) (hg : GE A n a) (hK : K < 2 ^ n) (hm : K ∈ ptsL A (andn (allN n) a) n n) :
    (K &&& notN A n ≠ 0 ∧ andn K (notN A n) = 0 ∧ sz K % 2 = 1) ∨ (K &&& notN A n = 0 ∧ sz K % 2 = 0) := by
  have hp : 2 ^ n ≤ 1024 := Nat.pow_le_pow_right (by decide) hn
  have hnl := notN_lt A n
  rcases hg.part K hm with ⟨h1, h2⟩ | ⟨h1, h2⟩
  · refine .inl ⟨?_, ?_, h2⟩
    · rw [and_ne]
      have hne : K ≠ 0 := by
        rintro rfl
        rw [sz_pc 0 0 (by decide)] at h2
        have : pc 0 (0 : Nat).testBit = 0 := rfl
        omega
      have := low_bit hne
      exact ⟨_, this, (notN_bit _).2 ⟨bit_lt hK this, h1 _ this⟩⟩
    · apply Nat.eq_of_testBit_eq
      intro j
      rw [Nat.zero_testBit]
      by_cases hj : j < 64
      · rw [andn_bit (by omega) hj]
        cases c : K.testBit j with
        | false => rfl
        | true => rw [(notN_bit j).2 ⟨bit_lt hK c, h1 j c⟩]; rfl
      · have : andn K (notN A n) < 2 ^ j := Nat.lt_of_le_of_lt (andn_le _ _) (Nat.lt_of_lt_of_le hK (Nat.pow_le_pow_right (by decide) (by omega)))
        exact Nat.testBit_lt_two_pow this
  · refine .inr ⟨?_, h2⟩
    by_cases c : K &&& notN A n = 0
    · exact c
    · obtain ⟨j, j1, j2⟩ := and_ne.1 c
      exact absurd ((notN_bit j).1 j2).2 (h1 j j1)
theorem gallaiLaw_rets {X : Caller} (hX : Xok X) (L : List Int) (s : Value) (g : GH) (hT : HasTab g) (hs : SlR g s (ints L)) :
    Rets Tryd.prog X 11 [s] g (fun v g' lo => g.next ≤ lo ∧ v = .bool true) := by
  have hl := hs.len
  rw [ints_len] at hl
  have hfew := fun g => few_rets hX.toXfr s (.slice none 0 0) _ 0 hl rfl g
  refine Rets.run hX.pres p11 (hX.free 11 (by decide) _ _) rfl fun ho => ?_
  simp +decide (disch := first | assumption | exact cellV_int _ _ | exact cellV_bool _ | omega | (simp only [GH.pn, GH.sn] <;> omega) | (with_reducible ((repeat (first | apply GH.ok_push | apply GH.ok_set)); assumption)) | ((try simp only [GH.push_hid, GH.set_hid]); first | assumption | (refine GH.vis ?_ ?_ <;> first | assumption | ((try simp only [GH.pn, GH.sn]) <;> omega)))) only [go_sem, ↓reduceIte, Nat.reduceEqDiff, Nat.reduceAdd, Int.reduceToNat, Int.reduceAdd, Int.reduceNeg, Int.reduceSub, Int.reduceMul, Int.reduceLT, Int.reduceLE, Int.reduceEq, ↓GH.gp_eq, ↓GH.gp_ne, ↓GH.gs_eq, ↓GH.gs_ne, GH.push_next, GH.set_next]
  refine CallD.calm (hfew g) ?_
  rintro v g1 hx1 rfl
  have hn1 := hx1.next
  have hT1 := hT.ext hx1
  cases hf : (decide (L.length ≤ 40) && decide (0 ≤ 40)) with
  | false =>
    simp +decide (disch := first | assumption | exact cellV_int _ _ | exact cellV_bool _ | omega | (simp only [GH.pn, GH.sn] <;> omega) | (with_reducible ((repeat (first | apply GH.ok_push | apply GH.ok_set)); assumption)) | ((try simp only [GH.push_hid, GH.set_hid]); first | assumption | (refine GH.vis ?_ ?_ <;> first | assumption | ((try simp only [GH.pn, GH.sn]) <;> omega)))) only [go_sem, ↓reduceIte, Nat.reduceEqDiff, Nat.reduceAdd, Int.reduceToNat, Int.reduceAdd, Int.reduceNeg, Int.reduceSub, Int.reduceMul, Int.reduceLT, Int.reduceLE, Int.reduceEq, ↓GH.gp_eq, ↓GH.gp_ne, ↓GH.gs_eq, ↓GH.gs_ne, GH.push_next, GH.set_next]
    refine CallD.calm (hX.alive g1 hT1) ?_
    rintro v g2 hx2 rfl
    have hn2 := hx2.next
    simp +decide (disch := first | assumption | exact cellV_int _ _ | exact cellV_bool _ | omega | (simp only [GH.pn, GH.sn] <;> omega) | (with_reducible ((repeat (first | apply GH.ok_push | apply GH.ok_set)); assumption)) | ((try simp only [GH.push_hid, GH.set_hid]); first | assumption | (refine GH.vis ?_ ?_ <;> first | assumption | ((try simp only [GH.pn, GH.sn]) <;> omega)))) only [go_sem, ↓reduceIte, Nat.reduceEqDiff, Nat.reduceAdd, Int.reduceToNat, Int.reduceAdd, Int.reduceNeg, Int.reduceSub, Int.reduceMul, Int.reduceLT, Int.reduceLE, Int.reduceEq, ↓GH.gp_eq, ↓GH.gp_ne, ↓GH.gs_eq, ↓GH.gs_ne, GH.push_next, GH.set_next]
    intro hx0
    exact ⟨by omega, rfl⟩
  | true =>
  rw [Bool.and_eq_true, decide_eq_true_eq, decide_eq_true_eq] at hf
  simp +decide (disch := first | assumption | exact cellV_int _ _ | exact cellV_bool _ | omega | (simp only [GH.pn, GH.sn] <;> omega) | (with_reducible ((repeat (first | apply GH.ok_push | apply GH.ok_set)); assumption)) | ((try simp only [GH.push_hid, GH.set_hid]); first | assumption | (refine GH.vis ?_ ?_ <;> first | assumption | ((try simp only [GH.pn, GH.sn]) <;> omega)))) only [go_sem, ↓reduceIte, Nat.reduceEqDiff, Nat.reduceAdd, Int.reduceToNat, Int.reduceAdd, Int.reduceNeg, Int.reduceSub, Int.reduceMul, Int.reduceLT, Int.reduceLE, Int.reduceEq, ↓GH.gp_eq, ↓GH.gp_ne, ↓GH.gs_eq, ↓GH.gs_ne, GH.push_next, GH.set_next]
  refine CallD.calm (refIsShop_rets hX.toXfr L hf.1 s g1 (hs.ext hx1)) ?_
  rintro v g2 hx2 rfl
  have hn2 := hx2.next
  have hT2 := hT1.ext hx2
  have hk2 : Kept g g2 := hx1.kept.ext hx2
  cases hz : shopB L with
  | false =>
    simp +decide (disch := first | assumption | exact cellV_int _ _ | exact cellV_bool _ | omega | (simp only [GH.pn, GH.sn] <;> omega) | (with_reducible ((repeat (first | apply GH.ok_push | apply GH.ok_set)); assumption)) | ((try simp only [GH.push_hid, GH.set_hid]); first | assumption | (refine GH.vis ?_ ?_ <;> first | assumption | ((try simp only [GH.pn, GH.sn]) <;> omega)))) only [go_sem, ↓reduceIte, Nat.reduceEqDiff, Nat.reduceAdd, Int.reduceToNat, Int.reduceAdd, Int.reduceNeg, Int.reduceSub, Int.reduceMul, Int.reduceLT, Int.reduceLE, Int.reduceEq, ↓GH.gp_eq, ↓GH.gp_ne, ↓GH.gs_eq, ↓GH.gs_ne, GH.push_next, GH.set_next]
    refine CallD.calm (hX.alive g2 hT2) ?_
    rintro v g3 hx3 rfl
    have hn3 := hx3.next
    simp +decide (disch := first | assumption | exact cellV_int _ _ | exact cellV_bool _ | omega | (simp only [GH.pn, GH.sn] <;> omega) | (with_reducible ((repeat (first | apply GH.ok_push | apply GH.ok_set)); assumption)) | ((try simp only [GH.push_hid, GH.set_hid]); first | assumption | (refine GH.vis ?_ ?_ <;> first | assumption | ((try simp only [GH.pn, GH.sn]) <;> omega)))) only [go_sem, ↓reduceIte, Nat.reduceEqDiff, Nat.reduceAdd, Int.reduceToNat, Int.reduceAdd, Int.reduceNeg, Int.reduceSub, Int.reduceMul, Int.reduceLT, Int.reduceLE, Int.reduceEq, ↓GH.gp_eq, ↓GH.gp_ne, ↓GH.gs_eq, ↓GH.gs_ne, GH.push_next, GH.set_next]
    intro hx0
    exact ⟨by omega, rfl⟩
  | true =>
  obtain ⟨hL1, hL10, hA⟩ := shop_ok hz
  have hSy := sym_of2 hz
  have hN0 := Nat.two_pow_pos L.length
  have hN1 : 2 ^ L.length ≤ 1024 := Nat.pow_le_pow_right (by decide) hL10
  have hshl := shl_i (k := L.length) (by omega)
  have hnd := needed2_rets hX L hz s g2 hT2 (hs.kept hk2)
  unfold needV2 at hnd
  have hndl := needF_lt (setF L) L.length L.length
  have hdm : notN (setF L) L.length = 2 ^ L.length - (needF (setF L) L.length L.length + 1) := rfl
  have hbes := besF_is hSy
  have hge := gallai hSy (shp_of hz) hL10 hbes
  have ha := hbes.lt
  have hgo := hge.odd
  have hps := fun K (h1 : K < 2 ^ L.length) h2 => part_says hL10 hge h1 h2
  have hdl := notN_lt (setF L) L.length
  obtain ⟨b1, b2, b3, b4⟩ := bar_is hz hSy (shp_of hz) hL10
  have hbar := fun G (hk : Kept g G) => Barrier_rets hX.toXfr L hf.1 s G (hs.kept hk)
  rw [show barE L = 0 by unfold barE; rw [if_pos hz]] at hbar
  have hod := fun G (hk' : Kept g G) => Odd_rets hX.toXfr L hf.1 s (besF (setF L) L.length L.length : Nat) G (hs.kept hk')
  rw [(odA_of hz ha).1, (odA_of hz ha).2] at hod
  have hpar := fun G (hk' : Kept g G) => Parts_rets hX.toXfr L hf.1 s (besF (setF L) L.length L.length : Nat) G (hs.kept hk')
  have hpy := fun R e (h : PtOk L (besF (setF L) L.length L.length : Nat) R e) => h.yes (by rw [hz, okS_of ha]; rfl)
  simp only [Int.toNat_natCast] at hpy
  have hsz1 := fun G => size_rets hX.toXfr (besF (setF L) L.length L.length) (by omega) G
  have k1 := Nat.le_trans (oddS_le (partsOf L (besF (setF L) L.length L.length))) (partsOf_len L (besF (setF L) L.length L.length))
  have k3 := sz_le ha
  have hpl := partsOf_len L (besF (setF L) L.length L.length)
  have hmem := fun x => partsOf_mem2 (L := L) (S := besF (setF L) L.length L.length) (x := x)
  have hpo : partsOf L (besF (setF L) L.length L.length) = partsI (setF L) (andn (allN L.length) (besF (setF L) L.length L.length)) L.length L.length := rfl
  rw [← hpo] at hgo
  have hbb : ∀ i, besB (setF L) L.length i = ((needF (setF L) L.length L.length).testBit i && decide (setF L i &&& notN (setF L) L.length ≠ 0)) := fun _ => rfl
  have hbn : ∀ i, besF (setF L) L.length (i + 1) = if besB (setF L) L.length i = true then besF (setF L) L.length i ||| 2 ^ i else besF (setF L) L.length i := fun _ => rfl
  have hbl : ∀ i, besF (setF L) L.length i < 2 ^ i := fun i => bitsF_lt _ _
  have hpw : ∀ i, i < L.length → 2 ^ i ≤ 2 ^ 10 := fun i hi => Nat.pow_le_pow_right (by decide) (by omega)
  simp +decide (disch := first | assumption | exact cellV_int _ _ | exact cellV_bool _ | omega | (simp only [GH.pn, GH.sn] <;> omega) | (with_reducible ((repeat (first | apply GH.ok_push | apply GH.ok_set)); assumption)) | ((try simp only [GH.push_hid, GH.set_hid]); first | assumption | (refine GH.vis ?_ ?_ <;> first | assumption | ((try simp only [GH.pn, GH.sn]) <;> omega)))) only [go_sem, ↓reduceIte, Nat.reduceEqDiff, Nat.reduceAdd, Int.reduceToNat, Int.reduceAdd, Int.reduceNeg, Int.reduceSub, Int.reduceMul, Int.reduceLT, Int.reduceLE, Int.reduceEq, ↓GH.gp_eq, ↓GH.gp_ne, ↓GH.gs_eq, ↓GH.gs_ne, GH.push_next, GH.set_next, hl]
  refine CallD.calm hnd ?_
  rintro v g3 hx3 rfl
  have hn3 := hx3.next
  have hk3 := hk2.ext hx3
  have c1 : ¬ ((2 ^ L.length : Nat) : Int) ≤ ((needF (setF L) L.length L.length : Nat) : Int) := by omega
  have c2 : ¬ ((needF (setF L) L.length L.length : Nat) : Int) < 0 := by omega
  have c3 : ((2 ^ L.length : Nat) : Int) - 1 - ((needF (setF L) L.length L.length : Nat) : Int) = ((notN (setF L) L.length : Nat) : Int) := by omega
  simp +decide (disch := first | assumption | exact cellV_int _ _ | exact cellV_bool _ | omega | (simp only [GH.pn, GH.sn] <;> omega) | (with_reducible ((repeat (first | apply GH.ok_push | apply GH.ok_set)); assumption)) | ((try simp only [GH.push_hid, GH.set_hid]); first | assumption | (refine GH.vis ?_ ?_ <;> first | assumption | ((try simp only [GH.pn, GH.sn]) <;> omega)))) only [go_sem, ↓reduceIte, Nat.reduceEqDiff, Nat.reduceAdd, Int.reduceToNat, Int.reduceAdd, Int.reduceNeg, Int.reduceSub, Int.reduceMul, Int.reduceLT, Int.reduceLE, Int.reduceEq, ↓GH.gp_eq, ↓GH.gp_ne, ↓GH.gs_eq, ↓GH.gs_ne, GH.push_next, GH.set_next, ex20b, ex21b, hshl, c1, c2, c3]
  refine Wk.loops (fun m e g' lo => g' = g3 ∧ g.next ≤ lo ∧ ∃ i : Nat, i + m = L.length ∧ (ev e (.s 0) = s ∧ ev e (.s 3) = .int .i64 (L.length : Int) ∧ ev e (.s 4) = .int .i64 (needF (setF L) L.length L.length : Nat) ∧ ev e (.s 6) = .int .i64 (notN (setF L) L.length : Nat) ∧ ev e (.s 8) = .int .i64 (i : Int) ∧ ev e (.s 7) = .int .i64 (besF (setF L) L.length i : Nat)))
    (fun e g' lo => g' = g3 ∧ g.next ≤ lo ∧ (ev e (.s 0) = s ∧ ev e (.s 6) = .int .i64 (notN (setF L) L.length : Nat) ∧ ev e (.s 7) = .int .i64 (besF (setF L) L.length L.length : Nat))) (n := L.length) ?_ ?_ ?_
  · refine ⟨rfl, by omega, 0, by omega, ?_⟩
    show _ ∧ _ ∧ _ ∧ _ ∧ _ ∧ _ = Value.int .i64 0
    exact (by simp +decide (disch := first | assumption | (apply GH.ok_push; assumption) | exact cellV_int _ _ | exact cellV_bool _ | omega) only [go_sem, ↓reduceIte, Nat.reduceEqDiff, Nat.reduceAdd, Int.reduceToNat]; first | done | exact rfl)
  · rintro e g' lo hog hlg ⟨rfl, hlo, he⟩
    simp +decide (disch := first | assumption | exact cellV_int _ _ | exact cellV_bool _ | omega | (simp only [GH.pn, GH.sn] <;> omega) | (with_reducible ((repeat (first | apply GH.ok_push | apply GH.ok_set)); assumption)) | ((try simp only [GH.push_hid, GH.set_hid]); first | assumption | (refine GH.vis ?_ ?_ <;> first | assumption | ((try simp only [GH.pn, GH.sn]) <;> omega)))) only [go_sem, ↓reduceIte, Nat.reduceEqDiff, Nat.reduceAdd, Int.reduceToNat, Int.reduceAdd, Int.reduceNeg, Int.reduceSub, Int.reduceMul, Int.reduceLT, Int.reduceLE, Int.reduceEq, ↓GH.gp_eq, ↓GH.gp_ne, ↓GH.gs_eq, ↓GH.gs_ne, GH.push_next, GH.set_next, he]
    refine CallD.calm (hpar g' hk3) ?_
    rintro v g4 hx4 ⟨hk4', o, R, ev0, rfl, hrd, hpt⟩
    have hn4 := hx4.next
    have hk4 := hk3.trans hk4'
    obtain ⟨rfl, hsr, hperm⟩ := hpy R ev0 hpt
    have hos := oddS_perm hperm
    have hRl : R.length ≤ L.length := by rw [hperm.length_eq]; exact hpl
    have hmemR := fun x (h : x ∈ R) => hmem x (hperm.mem_iff.1 h)
    simp +decide (disch := first | assumption | exact cellV_int _ _ | exact cellV_bool _ | omega | (simp only [GH.pn, GH.sn] <;> omega) | (with_reducible ((repeat (first | apply GH.ok_push | apply GH.ok_set)); assumption)) | ((try simp only [GH.push_hid, GH.set_hid]); first | assumption | (refine GH.vis ?_ ?_ <;> first | assumption | ((try simp only [GH.pn, GH.sn]) <;> omega)))) only [go_sem, ↓reduceIte, Nat.reduceEqDiff, Nat.reduceAdd, Int.reduceToNat, Int.reduceAdd, Int.reduceNeg, Int.reduceSub, Int.reduceMul, Int.reduceLT, Int.reduceLE, Int.reduceEq, ↓GH.gp_eq, ↓GH.gp_ne, ↓GH.gs_eq, ↓GH.gs_ne, GH.push_next, GH.set_next, he, ex20b, ex21b]
    refine CallD.calm (hod g4 hk4) ?_
    rintro v g5 hx5 rfl
    have hn5 := hx5.next
    have hk5 := hk4.ext hx5
    simp +decide (disch := first | assumption | exact cellV_int _ _ | exact cellV_bool _ | omega | (simp only [GH.pn, GH.sn] <;> omega) | (with_reducible ((repeat (first | apply GH.ok_push | apply GH.ok_set)); assumption)) | ((try simp only [GH.push_hid, GH.set_hid]); first | assumption | (refine GH.vis ?_ ?_ <;> first | assumption | ((try simp only [GH.pn, GH.sn]) <;> omega)))) only [go_sem, ↓reduceIte, Nat.reduceEqDiff, Nat.reduceAdd, Int.reduceToNat, Int.reduceAdd, Int.reduceNeg, Int.reduceSub, Int.reduceMul, Int.reduceLT, Int.reduceLE, Int.reduceEq, ↓GH.gp_eq, ↓GH.gp_ne, ↓GH.gs_eq, ↓GH.gs_ne, GH.push_next, GH.set_next, he, ex20b, ex21b]
    refine CallD.calm (hbar g5 hk5) ?_
    rintro v g6 hx6 rfl
    have hn6 := hx6.next
    have hk6 := hk5.ext hx6
    have hrd6 := hrd.kept (hx5.kept.trans hx6.kept)
    have hlr := hrd6.len
    rw [ints_len] at hlr
    generalize partsOf L (besF (setF L) L.length L.length) = D at *
    generalize sz (besF (setF L) L.length L.length) = za at *
    generalize besF (setF L) L.length L.length = a at *
    generalize notN (setF L) L.length = dm at *
    generalize best (setF L) L.length (allN L.length) = B at *
    generalize barI L = bi at *
    obtain ⟨bb, bd⟩ := bi
    dsimp only at b1
    have c4 : ((oddS D : Nat) : Int) - (za : Int) = bd := by omega
    simp +decide (disch := first | assumption | exact cellV_int _ _ | exact cellV_bool _ | omega | (simp only [GH.pn, GH.sn] <;> omega) | (with_reducible ((repeat (first | apply GH.ok_push | apply GH.ok_set)); assumption)) | ((try simp only [GH.push_hid, GH.set_hid]); first | assumption | (refine GH.vis ?_ ?_ <;> first | assumption | ((try simp only [GH.pn, GH.sn]) <;> omega)))) only [go_sem, ↓reduceIte, Nat.reduceEqDiff, Nat.reduceAdd, Int.reduceToNat, Int.reduceAdd, Int.reduceNeg, Int.reduceSub, Int.reduceMul, Int.reduceLT, Int.reduceLE, Int.reduceEq, ↓GH.gp_eq, ↓GH.gp_ne, ↓GH.gs_eq, ↓GH.gs_ne, GH.push_next, GH.set_next, he, ex30, ex31, ex32]
    refine CallD.calm (hsz1 g6) ?_
    rintro v g7 hx7 rfl
    have hn7 := hx7.next
    have hk7 := hk6.ext hx7
    have hrd7 := hrd6.kept hx7.kept
    simp +decide (disch := first | assumption | exact cellV_int _ _ | exact cellV_bool _ | omega | (simp only [GH.pn, GH.sn] <;> omega) | (with_reducible ((repeat (first | apply GH.ok_push | apply GH.ok_set)); assumption)) | ((try simp only [GH.push_hid, GH.set_hid]); first | assumption | (refine GH.vis ?_ ?_ <;> first | assumption | ((try simp only [GH.pn, GH.sn]) <;> omega)))) only [go_sem, ↓reduceIte, Nat.reduceEqDiff, Nat.reduceAdd, Int.reduceToNat, Int.reduceAdd, Int.reduceNeg, Int.reduceSub, Int.reduceMul, Int.reduceLT, Int.reduceLE, Int.reduceEq, ↓GH.gp_eq, ↓GH.gp_ne, ↓GH.gs_eq, ↓GH.gs_ne, GH.push_next, GH.set_next, he, c4]
    refine Wk.loops (fun m e g' lo => g.next ≤ lo ∧ Kept g7 g' ∧ ∃ i : Nat, i + m = R.length ∧ (ev e (.s 6) = .int .i64 (dm : Nat) ∧ ev e (.s 9) = o ∧ ev e (.s 10) = .int .i64 (oddS D : Nat) ∧ ev e (.s 16) = .int .i64 (i : Int) ∧ ev e (.s 15) = .int .i64 (oddS (R.take i) : Nat)))
      (fun e g' lo => g.next ≤ lo ∧ Kept g7 g' ∧ (ev e (.s 10) = .int .i64 (oddS D : Nat) ∧ ev e (.s 15) = .int .i64 (oddS R : Nat))) (n := R.length) ?_ ?_ ?_
    · exact ⟨by omega, Kept.refl _, 0, by omega, (by simp +decide (disch := first | assumption | (apply GH.ok_push; assumption) | exact cellV_int _ _ | exact cellV_bool _ | omega) only [go_sem, ↓reduceIte, Nat.reduceEqDiff, Nat.reduceAdd, Int.reduceToNat, he]; first | done | exact rfl)⟩
    · clear he
      rintro e g8 lo8 hog8 hlg8 ⟨hlo8, hk8, he⟩
      rw [hos] at he
      have hkk := hk8.next
      simp +decide (disch := first | assumption | exact cellV_int _ _ | exact cellV_bool _ | omega | (simp only [GH.pn, GH.sn] <;> omega) | (with_reducible ((repeat (first | apply GH.ok_push | apply GH.ok_set)); assumption)) | ((try simp only [GH.push_hid, GH.set_hid]); first | assumption | (refine GH.vis ?_ ?_ <;> first | assumption | ((try simp only [GH.pn, GH.sn]) <;> omega)))) only [go_sem, ↓reduceIte, Nat.reduceEqDiff, Nat.reduceAdd, Int.reduceToNat, Int.reduceAdd, Int.reduceNeg, Int.reduceSub, Int.reduceMul, Int.reduceLT, Int.reduceLE, Int.reduceEq, ↓GH.gp_eq, ↓GH.gp_ne, ↓GH.gs_eq, ↓GH.gs_ne, GH.push_next, GH.set_next, he]
      refine CallD.calm (hX.alive g8 (hT.kept (hk7.trans hk8))) ?_
      rintro v g9 hx9 rfl
      have hn9 := hx9.next
      simp +decide (disch := first | assumption | exact cellV_int _ _ | exact cellV_bool _ | omega | (simp only [GH.pn, GH.sn] <;> omega) | (with_reducible ((repeat (first | apply GH.ok_push | apply GH.ok_set)); assumption)) | ((try simp only [GH.push_hid, GH.set_hid]); first | assumption | (refine GH.vis ?_ ?_ <;> first | assumption | ((try simp only [GH.pn, GH.sn]) <;> omega)))) only [go_sem, ↓reduceIte, Nat.reduceEqDiff, Nat.reduceAdd, Int.reduceToNat, Int.reduceAdd, Int.reduceNeg, Int.reduceSub, Int.reduceMul, Int.reduceLT, Int.reduceLE, Int.reduceEq, ↓GH.gp_eq, ↓GH.gp_ne, ↓GH.gs_eq, ↓GH.gs_ne, GH.push_next, GH.set_next]
      intro hx0
      exact ⟨by omega, rfl⟩
    · clear he
      rintro m e g8 lo8 ho8 hl8 ih out ⟨hlo8, hk8, i, him, he⟩
      have hkk := hk8.next
      by_cases ci : i < R.length
      case neg =>
        have ci' : ¬ (i : Int) < R.length := by omega
        simp +decide (disch := first | assumption | exact cellV_int _ _ | exact cellV_bool _ | omega | (simp only [GH.pn, GH.sn] <;> omega) | (with_reducible ((repeat (first | apply GH.ok_push | apply GH.ok_set)); assumption)) | ((try simp only [GH.push_hid, GH.set_hid]); first | assumption | (refine GH.vis ?_ ?_ <;> first | assumption | ((try simp only [GH.pn, GH.sn]) <;> omega)))) only [go_sem, ↓reduceIte, Nat.reduceEqDiff, Nat.reduceAdd, Int.reduceToNat, Int.reduceAdd, Int.reduceNeg, Int.reduceSub, Int.reduceMul, Int.reduceLT, Int.reduceLE, Int.reduceEq, ↓GH.gp_eq, ↓GH.gp_ne, ↓GH.gs_eq, ↓GH.gs_ne, GH.push_next, GH.set_next, he, hlr, ci']
        have : i = R.length := by omega
        subst this
        rw [List.take_length] at he
        exact out _ _ _ ⟨hlo8, hk8, (by simp +decide (disch := first | assumption | (apply GH.ok_push; assumption) | exact cellV_int _ _ | exact cellV_bool _ | omega) only [go_sem, ↓reduceIte, Nat.reduceEqDiff, Nat.reduceAdd, Int.reduceToNat, he]; first | done | exact rfl)⟩
      have ci' : (i : Int) < R.length := by omega
      obtain ⟨j2, o2, hj2, hq1, hq2⟩ := (hrd7.kept hk8).ptr (ints_get (D := R) (i := i) ci)
      have hq1 := hq1 (i : Int) rfl
      obtain ⟨K, hK, hKl, hKm⟩ := hmemR _ (getD_mem ci)
      have hot := oddS_take ci
      have hle : oddS (R.take i) ≤ i := Nat.le_trans (oddS_le _) (by rw [List.length_take]; omega)
      rw [hK] at hq2
      have hody : od (R.getD i 0) = sz K % 2 := by rw [hK]; rfl
      rw [hody] at hot
      have n1 := and_i (a := K) (b := dm) (by omega) (by omega)
      have n2 := andn_i (a := K) (b := dm) (by omega) (by omega)
      have hszK := size_rets hX.toXfr K (by omega) g8
      generalize oddS (R.take i) = w at *
      rcases hps K hKl hKm with ⟨h1, h2, h3⟩ | ⟨h1, h3⟩
      · have h1' : ¬ ((K &&& dm : Nat) : Int) = 0 := by omega
        have r1 : ((sz K : Nat) : Int).tmod 2 = 1 := by show ((sz K % 2 : Nat) : Int) = 1; rw [h3]; rfl
        rw [h2] at n2
        rw [h3] at hot
        generalize sz K = z at *
        generalize K &&& dm = kd at *
        simp +decide (disch := first | assumption | exact cellV_int _ _ | exact cellV_bool _ | omega | (simp only [GH.pn, GH.sn] <;> omega) | (with_reducible ((repeat (first | apply GH.ok_push | apply GH.ok_set)); assumption)) | ((try simp only [GH.push_hid, GH.set_hid]); first | assumption | (refine GH.vis ?_ ?_ <;> first | assumption | ((try simp only [GH.pn, GH.sn]) <;> omega)))) only [go_sem, ↓reduceIte, Nat.reduceEqDiff, Nat.reduceAdd, Int.reduceToNat, Int.reduceAdd, Int.reduceNeg, Int.reduceSub, Int.reduceMul, Int.reduceLT, Int.reduceLE, Int.reduceEq, ↓GH.gp_eq, ↓GH.gp_ne, ↓GH.gs_eq, ↓GH.gs_ne, GH.push_next, GH.set_next, he, hlr, ci', hq1, hq2, n1, n2, h1']
        refine CallD.calm hszK ?_
        rintro v g9 hx9 rfl
        have hn9 := hx9.next
        have hk9 := hk8.ext hx9
        simp +decide (disch := first | assumption | exact cellV_int _ _ | exact cellV_bool _ | omega | (simp only [GH.pn, GH.sn] <;> omega) | (with_reducible ((repeat (first | apply GH.ok_push | apply GH.ok_set)); assumption)) | ((try simp only [GH.push_hid, GH.set_hid]); first | assumption | (refine GH.vis ?_ ?_ <;> first | assumption | ((try simp only [GH.pn, GH.sn]) <;> omega)))) only [go_sem, ↓reduceIte, Nat.reduceEqDiff, Nat.reduceAdd, Int.reduceToNat, Int.reduceAdd, Int.reduceNeg, Int.reduceSub, Int.reduceMul, Int.reduceLT, Int.reduceLE, Int.reduceEq, ↓GH.gp_eq, ↓GH.gp_ne, ↓GH.gs_eq, ↓GH.gs_ne, GH.push_next, GH.set_next, he, r1]
        refine ih (m - 1) _ _ _ (by omega) ⟨hlo8, hk9, i + 1, by omega, ?_⟩
        rw [hot]
        exact (by simp +decide (disch := first | assumption | (apply GH.ok_push; assumption) | exact cellV_int _ _ | exact cellV_bool _ | omega) only [go_sem, ↓reduceIte, Nat.reduceEqDiff, Nat.reduceAdd, Int.reduceToNat, he]; first | done | exact rfl)
      · rw [h1] at n1
        rw [h3, Nat.add_zero] at hot
        simp +decide (disch := first | assumption | exact cellV_int _ _ | exact cellV_bool _ | omega | (simp only [GH.pn, GH.sn] <;> omega) | (with_reducible ((repeat (first | apply GH.ok_push | apply GH.ok_set)); assumption)) | ((try simp only [GH.push_hid, GH.set_hid]); first | assumption | (refine GH.vis ?_ ?_ <;> first | assumption | ((try simp only [GH.pn, GH.sn]) <;> omega)))) only [go_sem, ↓reduceIte, Nat.reduceEqDiff, Nat.reduceAdd, Int.reduceToNat, Int.reduceAdd, Int.reduceNeg, Int.reduceSub, Int.reduceMul, Int.reduceLT, Int.reduceLE, Int.reduceEq, ↓GH.gp_eq, ↓GH.gp_ne, ↓GH.gs_eq, ↓GH.gs_ne, GH.push_next, GH.set_next, he, hlr, ci', hq1, hq2, n1]
        refine ih (m - 1) _ _ _ (by omega) ⟨hlo8, hk8, i + 1, by omega, ?_⟩
        rw [hot]
        exact (by simp +decide (disch := first | assumption | (apply GH.ok_push; assumption) | exact cellV_int _ _ | exact cellV_bool _ | omega) only [go_sem, ↓reduceIte, Nat.reduceEqDiff, Nat.reduceAdd, Int.reduceToNat, he]; first | done | exact rfl)
  · rintro m e g' lo ho' hl' ih out ⟨rfl, hlo, i, him, he⟩
    by_cases ci : i < L.length
    case neg =>
      have ci' : ¬ (i : Int) < L.length := by omega
      simp +decide (disch := first | assumption | exact cellV_int _ _ | exact cellV_bool _ | omega | (simp only [GH.pn, GH.sn] <;> omega) | (with_reducible ((repeat (first | apply GH.ok_push | apply GH.ok_set)); assumption)) | ((try simp only [GH.push_hid, GH.set_hid]); first | assumption | (refine GH.vis ?_ ?_ <;> first | assumption | ((try simp only [GH.pn, GH.sn]) <;> omega)))) only [go_sem, ↓reduceIte, Nat.reduceEqDiff, Nat.reduceAdd, Int.reduceToNat, Int.reduceAdd, Int.reduceNeg, Int.reduceSub, Int.reduceMul, Int.reduceLT, Int.reduceLE, Int.reduceEq, ↓GH.gp_eq, ↓GH.gp_ne, ↓GH.gs_eq, ↓GH.gs_ne, GH.push_next, GH.set_next, he, ci']
      have : i = L.length := by omega
      subst this
      exact out _ _ _ ⟨rfl, hlo, (by simp +decide (disch := first | assumption | (apply GH.ok_push; assumption) | exact cellV_int _ _ | exact cellV_bool _ | omega) only [go_sem, ↓reduceIte, Nat.reduceEqDiff, Nat.reduceAdd, Int.reduceToNat, he]; first | done | exact rfl)⟩
    have ci' : (i : Int) < L.length := by omega
    have n1 : ¬ (i : Int) < 0 := by omega
    have r1 := shr_fact ((needF (setF L) L.length L.length : Nat) : Int) i (by omega)
    have r2 := remN (needF (setF L) L.length L.length) i
    obtain ⟨j2, o2, hj2, hq1, hq2⟩ := (hs.kept hk3).ptr (ints_get (D := L) (i := i) ci)
    have hq1 := hq1 (i : Int) rfl
    rw [(hA i ci).1] at hq2
    have hAl := (hA i ci).2.1
    have a1 := and_i (a := setF L i) (b := notN (setF L) L.length) (by omega) (by omega)
    have u1 := shl_i (k := i) (by omega)
    have u3 := hpw i ci
    have h5 := hbn i
    rw [hbb i] at h5
    have hbli := hbl i
    have hor := or_add hbli
    rw [hor] at h5
    generalize besF (setF L) L.length i = w at *
    generalize setF L i = ai at *
    generalize hnn : notN (setF L) L.length = dm at *
    generalize hnf : needF (setF L) L.length L.length = nf at *
    generalize 2 ^ i = ti at *
    cases c : nf.testBit i with
    | false =>
      rw [c] at r2 h5
      have r2' : ((nf : Int) / (2 : Int) ^ i).tmod 2 = 0 := r2
      rw [Bool.false_and, if_neg (by simp)] at h5
      simp +decide (disch := first | assumption | exact cellV_int _ _ | exact cellV_bool _ | omega | (simp only [GH.pn, GH.sn] <;> omega) | (with_reducible ((repeat (first | apply GH.ok_push | apply GH.ok_set)); assumption)) | ((try simp only [GH.push_hid, GH.set_hid]); first | assumption | (refine GH.vis ?_ ?_ <;> first | assumption | ((try simp only [GH.pn, GH.sn]) <;> omega)))) only [go_sem, ↓reduceIte, Nat.reduceEqDiff, Nat.reduceAdd, Int.reduceToNat, Int.reduceAdd, Int.reduceNeg, Int.reduceSub, Int.reduceMul, Int.reduceLT, Int.reduceLE, Int.reduceEq, ↓GH.gp_eq, ↓GH.gp_ne, ↓GH.gs_eq, ↓GH.gs_ne, GH.push_next, GH.set_next, he, ci', ib_shr n1, r1, r2']
      refine ih (m - 1) _ _ _ (by omega) ⟨rfl, hlo, i + 1, by omega, ?_⟩
      rw [h5]
      exact (by simp +decide (disch := first | assumption | (apply GH.ok_push; assumption) | exact cellV_int _ _ | exact cellV_bool _ | omega) only [go_sem, ↓reduceIte, Nat.reduceEqDiff, Nat.reduceAdd, Int.reduceToNat, he]; first | done | exact rfl)
    | true =>
      rw [c] at r2 h5
      have r2' : ((nf : Int) / (2 : Int) ^ i).tmod 2 = 1 := r2
      rw [Bool.true_and] at h5
      by_cases d : ai &&& dm = 0
      · rw [d] at a1
        rw [if_neg (by simp [d])] at h5
        simp +decide (disch := first | assumption | exact cellV_int _ _ | exact cellV_bool _ | omega | (simp only [GH.pn, GH.sn] <;> omega) | (with_reducible ((repeat (first | apply GH.ok_push | apply GH.ok_set)); assumption)) | ((try simp only [GH.push_hid, GH.set_hid]); first | assumption | (refine GH.vis ?_ ?_ <;> first | assumption | ((try simp only [GH.pn, GH.sn]) <;> omega)))) only [go_sem, ↓reduceIte, Nat.reduceEqDiff, Nat.reduceAdd, Int.reduceToNat, Int.reduceAdd, Int.reduceNeg, Int.reduceSub, Int.reduceMul, Int.reduceLT, Int.reduceLE, Int.reduceEq, ↓GH.gp_eq, ↓GH.gp_ne, ↓GH.gs_eq, ↓GH.gs_ne, GH.push_next, GH.set_next, he, ci', ib_shr n1, r1, r2', hq1, hq2, a1]
        refine ih (m - 1) _ _ _ (by omega) ⟨rfl, hlo, i + 1, by omega, ?_⟩
        rw [h5]
        exact (by simp +decide (disch := first | assumption | (apply GH.ok_push; assumption) | exact cellV_int _ _ | exact cellV_bool _ | omega) only [go_sem, ↓reduceIte, Nat.reduceEqDiff, Nat.reduceAdd, Int.reduceToNat, he]; first | done | exact rfl)
      · have d' : ¬ ((ai &&& dm : Nat) : Int) = 0 := by omega
        rw [if_pos (by simpa using d)] at h5
        generalize ai &&& dm = ad at *
        simp +decide (disch := first | assumption | exact cellV_int _ _ | exact cellV_bool _ | omega | (simp only [GH.pn, GH.sn] <;> omega) | (with_reducible ((repeat (first | apply GH.ok_push | apply GH.ok_set)); assumption)) | ((try simp only [GH.push_hid, GH.set_hid]); first | assumption | (refine GH.vis ?_ ?_ <;> first | assumption | ((try simp only [GH.pn, GH.sn]) <;> omega)))) only [go_sem, ↓reduceIte, Nat.reduceEqDiff, Nat.reduceAdd, Int.reduceToNat, Int.reduceAdd, Int.reduceNeg, Int.reduceSub, Int.reduceMul, Int.reduceLT, Int.reduceLE, Int.reduceEq, ↓GH.gp_eq, ↓GH.gp_ne, ↓GH.gs_eq, ↓GH.gs_ne, GH.push_next, GH.set_next, he, ci', ib_shr n1, r1, r2', hq1, hq2, a1, d', u1]
        refine ih (m - 1) _ _ _ (by omega) ⟨rfl, hlo, i + 1, by omega, ?_⟩
        rw [h5]
        exact (by simp +decide (disch := first | assumption | (apply GH.ok_push; assumption) | exact cellV_int _ _ | exact cellV_bool _ | omega) only [go_sem, ↓reduceIte, Nat.reduceEqDiff, Nat.reduceAdd, Int.reduceToNat, he]; first | done | exact rfl)
end Go.Proofs.YtnpapnpedcbfnaaDoor
