import Derived.Test.YtnpapnpedcbfnaaDoorJ2
import Derived.Test.YtnpapnpedcbfnaaDoorJ1
import Derived.Test.YtnpapnpedcbfnaaDoorKc
set_option linter.all false
set_option linter.unusedSimpArgs false
set_option linter.unnecessarySimpa false
set_option linter.unusedVariables false
set_option linter.unusedSectionVars false
set_option linter.unusedVariables false
namespace Go.Proofs.YtnpapnpedcbfnaaDoor
open Go.Vs
/-! ## Pairs that are a matching -/
theorem scan_mat {L : List Int} : ∀ (P : List (Int × Int)) (last : Int) (tk s : Nat), -1 ≤ last → (∀ j, s.testBit j = (decide (j < L.length) && decide (last < (j : Int)) && !tk.testBit j)) → scanM L P last tk = true → ∃ Q, P = toI Q ∧ mat (setF L) s Q = true
  | [], last, tk, s, _, _, _ => ⟨[], rfl, rfl⟩
  | (x, y) :: P, last, tk, s, hl, hs, h => by
    have h : (goodP L last tk x y && scanM L P x (tk ||| 2 ^ x.toNat ||| 2 ^ y.toNat)) = true := h
    rw [Bool.and_eq_true] at h
    obtain ⟨h1, h2⟩ := h
    unfold goodP at h1
    simp only [Bool.and_eq_true, decide_eq_true_eq, Bool.not_eq_true'] at h1
    obtain ⟨⟨⟨⟨⟨q1, q2⟩, q3⟩, q4⟩, q5⟩, q6⟩ := h1
    obtain ⟨a, rfl⟩ : ∃ a : Nat, x = a := ⟨x.toNat, by omega⟩
    obtain ⟨b, rfl⟩ : ∃ b : Nat, y = b := ⟨y.toNat, by omega⟩
    simp only [Int.toNat_natCast] at q4 q5 q6 h2
    obtain ⟨Q, hQ, hm⟩ := scan_mat P a (tk ||| 2 ^ a ||| 2 ^ b) (del (up s a) b) (by omega) (fun j => by
      rw [del_bit, up_bit, hs, Nat.testBit_or, Nat.testBit_or]
      by_cases c1 : j < L.length
      · by_cases c2 : a < j
        · have e1 : (2 ^ a).testBit j = false := Nat.testBit_two_pow_of_ne (by omega)
          rw [decide_eq_true c1, decide_eq_true (p := last < (j : Int)) (by omega), decide_eq_true c2, decide_eq_true (p := (a : Int) < j) (by omega), e1]
          by_cases c3 : j = b
          · subst c3; rw [Nat.testBit_two_pow_self]; simp
          · rw [Nat.testBit_two_pow_of_ne (Ne.symm c3)]; simp [c3]
        · rw [decide_eq_false c2, decide_eq_false (p := (a : Int) < j) (by omega)]; simp
      · rw [decide_eq_false c1]; simp) h2
    refine ⟨(a, b) :: Q, by rw [hQ]; rfl, mat_mk (by omega) ?_ ?_ q4 hm⟩
    · rw [hs, q5, decide_eq_true (p := a < L.length) (by omega), decide_eq_true (p := last < (a : Int)) (by omega)]; rfl
    · rw [hs, q6, decide_eq_true (p := b < L.length) (by omega), decide_eq_true (p := last < (b : Int)) (by omega)]; rfl
theorem matI_mat {L : List Int} {P : List (Int × Int)} (h : matI L P = true) : ∃ Q, P = toI Q ∧ mat (setF L) (allN L.length) Q = true :=
  scan_mat P (-1) 0 (allN L.length) (by omega) (fun j => by
    rw [all_bit, decide_eq_true (p := (-1 : Int) < (j : Int)) (by omega)]
    simp) h
theorem all_lt (n : Nat) : allN n < 2 ^ n := by unfold allN; have := Nat.two_pow_pos n; omega
end Go.Proofs.YtnpapnpedcbfnaaDoor
set_option linter.unusedVariables false
namespace Go.Proofs.YtnpapnpedcbfnaaDoor
open Go.Vs
/-! ## How many members -/
def pc (n : Nat) (p : Nat → Bool) : Nat := (List.range n).countP p
theorem pc_more {p q : Nat → Bool} {n k : Nat} (hk : k < n) (hq : q k = true) (hp : p k = false) (h : ∀ j, p j = true → q j = true) : pc n p + 1 ≤ pc n q := by
  have h1 := countP_one (p := fun j => p j || decide (j = k)) (q := p) (k := k) (by simp) hp (fun j hj => by simp [hj]) n hk
  have h2 : (List.range n).countP (fun j => p j || decide (j = k)) ≤ (List.range n).countP q := by
    refine List.countP_mono_left fun j hj hh => ?_
    rw [Bool.or_eq_true, decide_eq_true_eq] at hh
    rcases hh with hh | hh
    · exact h j hh
    · rw [hh]; exact hq
  unfold pc
  omega
theorem pc_le {p q : Nat → Bool} {n : Nat} (h : ∀ j, j < n → p j = true → q j = true) : pc n p ≤ pc n q :=
  List.countP_mono_left fun j hj hh => h j (List.mem_range.1 hj) hh
theorem pc_or (n s k : Nat) : pc n (s ||| 2 ^ k).testBit ≤ pc n s.testBit + 1 := by
  by_cases c : k < n ∧ s.testBit k = false
  · have := countP_one (p := (s ||| 2 ^ k).testBit) (q := s.testBit) (k := k) (by rw [Nat.testBit_or, Nat.testBit_two_pow_self]; simp) c.2 (fun j hj => by rw [Nat.testBit_or, Nat.testBit_two_pow_of_ne (Ne.symm hj), Bool.or_false]) n c.1
    unfold pc
    omega
  · have : pc n (s ||| 2 ^ k).testBit ≤ pc n s.testBit := pc_le fun j hj hh => by
      rw [Nat.testBit_or, Bool.or_eq_true] at hh
      rcases hh with hh | hh
      · exact hh
      · by_cases cj : j = k
        · subst cj
          cases h : s.testBit j with
          | true => rfl
          | false => exact absurd ⟨hj, h⟩ c
        · rw [Nat.testBit_two_pow_of_ne (Ne.symm cj)] at hh; cases hh
    omega
def sz (s : Nat) : Nat := if h : s = 0 then 0 else s % 2 + sz (s / 2)
termination_by s
decreasing_by omega
theorem sz_pc : ∀ n s, s < 2 ^ n → sz s = pc n s.testBit
  | 0, s, h => by
    obtain rfl : s = 0 := by simpa using h
    unfold sz; rfl
  | n + 1, s, h => by
    have h2 : s / 2 < 2 ^ n := by rw [Nat.pow_succ] at h; omega
    have ih := sz_pc n (s / 2) h2
    have e : pc (n + 1) s.testBit = s % 2 + pc n (s / 2).testBit := by
      unfold pc
      rw [List.range_succ_eq_map, List.countP_cons, List.countP_map]
      have e1 : s.testBit ∘ Nat.succ = (s / 2).testBit := by
        funext j
        show s.testBit (j + 1) = _
        rw [Nat.testBit_succ]
      rw [e1, Nat.testBit_zero]
      by_cases c : s % 2 = 1
      · simp [c]; omega
      · simp [c]; omega
    unfold sz
    split
    · rename_i h0
      subst h0
      rw [e]
      have : sz 0 = 0 := by unfold sz; rfl
      rw [← ih, Nat.zero_div, this]
    · rw [e, ih]
/-! ## Covers -/
def covB (A : Nat → Nat) (S i : Nat) : Bool := S.testBit i || decide (andn (A i) S = 0)
theorem cov_adj {A : Nat → Nat} {n S a b : Nat} (hn : n ≤ 10) (hS : S < 2 ^ n) (hA : A a < 2 ^ n) (h : covB A S a = true) (hab : (A a).testBit b = true) : S.testBit a = true ∨ S.testBit b = true := by
  unfold covB at h
  rw [Bool.or_eq_true, decide_eq_true_eq] at h
  rcases h with h | h
  · exact .inl h
  · have hb := bit_lt hA hab
    have h2 : 2 ^ n ≤ 1024 := Nat.pow_le_pow_right (by decide) hn
    have := andn_bit (a := A a) (b := S) (k := b) (by omega) (by omega)
    rw [h, Nat.zero_testBit, hab, Bool.true_and] at this
    right
    simpa using this.symm
theorem cov_le {A : Nat → Nat} {n S : Nat} (hn : n ≤ 10) (hS : S < 2 ^ n) (hA : ∀ i, i < n → A i < 2 ^ n) (h : ∀ i, i < n → covB A S i = true) : ∀ (P : List (Nat × Nat)) (t : Nat), t < 2 ^ n → mat A t P = true → P.length ≤ pc n (fun j => S.testBit j && t.testBit j)
  | [], t, _, _ => Nat.zero_le _
  | (a, b) :: P, t, ht, hm => by
    obtain ⟨h1, h2, h3, h4, h5⟩ := mat_cons hm
    have ha := bit_lt ht h2
    have hb := bit_lt ht h3
    have hlt : del (up t a) b < 2 ^ n := by
      apply Nat.lt_pow_two_of_testBit
      intro j hj
      rw [del_bit, up_bit]
      have := Nat.testBit_lt_two_pow (Nat.lt_of_lt_of_le ht (Nat.pow_le_pow_right (by decide) hj))
      rw [this]; rfl
    have ih := cov_le hn hS hA h P (del (up t a) b) hlt h5
    have key : ∀ k, k < n → S.testBit k = true → t.testBit k = true → (del (up t a) b).testBit k = false → P.length + 1 ≤ pc n (fun j => S.testBit j && t.testBit j) := fun k hk q1 q2 q3 => by
      have := pc_more (p := fun j => S.testBit j && (del (up t a) b).testBit j) (q := fun j => S.testBit j && t.testBit j) (n := n) hk (by simp [q1, q2]) (by simp [q3]) (fun j hj => by
        rw [Bool.and_eq_true, del_bit, up_bit, Bool.and_eq_true, Bool.and_eq_true] at hj
        rw [hj.1, hj.2.1.1]; rfl)
      omega
    rw [List.length_cons]
    rcases cov_adj hn hS (hA a ha) (h a ha) h4 with q | q
    · exact key a ha q h2 (by rw [del_bit, up_bit]; simp)
    · exact key b hb q h3 (by rw [del_bit]; simp)
theorem cov_lrg {A : Nat → Nat} {n S : Nat} (hn : n ≤ 10) (hS : S < 2 ^ n) (hA : ∀ i, i < n → A i < 2 ^ n) (h : ∀ i, i < n → covB A S i = true) : (lrg A n (allN n)).length ≤ sz S := by
  have h1 := cov_le hn hS hA h _ (allN n) (all_lt n) (lrg_mat A n (allN n))
  rw [sz_pc n S hS]
  refine Nat.le_trans h1 (pc_le fun j hj hh => ?_)
  rw [Bool.and_eq_true] at hh
  exact hh.1
/-! ## What pairs have -/
theorem tkn_pc (n : Nat) : ∀ (P : List (Int × Int)) (tk : Nat), pc n (tkn P tk).testBit ≤ pc n tk.testBit + 2 * P.length
  | [], tk => by show pc n tk.testBit ≤ _; omega
  | (a, b) :: P, tk => by
    have h1 := tkn_pc n P (tk ||| 2 ^ a.toNat ||| 2 ^ b.toNat)
    have h2 := pc_or n tk a.toNat
    have h3 := pc_or n (tk ||| 2 ^ a.toNat) b.toNat
    show pc n (tkn P (tk ||| 2 ^ a.toNat ||| 2 ^ b.toNat)).testBit ≤ _
    rw [List.length_cons]
    omega
theorem mat_mem {A : Nat → Nat} : ∀ (Q : List (Nat × Nat)) {s : Nat}, mat A s Q = true → ∀ q ∈ Q, s.testBit q.1 = true ∧ s.testBit q.2 = true
  | [], _, _, q, h => by cases h
  | (a, b) :: Q, s, hm, q, h => by
    obtain ⟨h1, h2, h3, h4, h5⟩ := mat_cons hm
    rcases List.mem_cons.1 h with rfl | h
    · exact ⟨h2, h3⟩
    · obtain ⟨q1, q2⟩ := mat_mem Q h5 q h
      rw [del_bit, up_bit, Bool.and_eq_true, Bool.and_eq_true] at q1 q2
      exact ⟨q1.1.1, q2.1.1⟩
theorem tkn_lt (n : Nat) : ∀ (Q : List (Nat × Nat)) (tk : Nat), tk < 2 ^ n → (∀ q ∈ Q, q.1 < n ∧ q.2 < n) → tkn (toI Q) tk < 2 ^ n
  | [], tk, h, _ => h
  | (a, b) :: Q, tk, h, hq => by
    have h1 := hq (a, b) (by simp)
    exact tkn_lt n Q _ (or_lt (or_lt h h1.1) h1.2) fun q hm => hq q (List.mem_cons_of_mem _ hm)
theorem tkn_sz {n : Nat} {Q : List (Nat × Nat)} (hq : ∀ q ∈ Q, q.1 < n ∧ q.2 < n) : sz (tkn (toI Q) 0) ≤ 2 * Q.length := by
  rw [sz_pc n _ (tkn_lt n Q 0 (Nat.two_pow_pos n) hq)]
  have := tkn_pc n (toI Q) 0
  have h0 : pc n (0 : Nat).testBit = 0 := by
    unfold pc
    rw [List.countP_eq_zero]
    intro j _
    simp
  have e : (toI Q).length = Q.length := by simp [toI]
  omega
end Go.Proofs.YtnpapnpedcbfnaaDoor
set_option linter.unusedVariables false
namespace Go.Proofs.YtnpapnpedcbfnaaDoor
open Go.Vs
/-! ## A hat less -/
theorem mat_del {A : Nat → Nat} (i : Nat) : ∀ (P : List (Nat × Nat)) (s : Nat), mat A s P = true → ∃ Q, mat A (del s i) Q = true ∧ P.length ≤ Q.length + 1
  | [], s, _ => ⟨[], rfl, by simp⟩
  | (a, b) :: P, s, hm => by
    obtain ⟨h1, h2, h3, h4, h5⟩ := mat_cons hm
    have hsub : ∀ j, (del (up s a) b).testBit j = true → j ≠ i → (del s i).testBit j = true := fun j hj hne => by
      rw [del_bit, up_bit, Bool.and_eq_true, Bool.and_eq_true] at hj
      rw [del_bit, hj.1.1]; simp [hne]
    by_cases ca : a = i
    · subst ca
      refine ⟨P, mat_mono P (fun j hj => hsub j hj ?_) h5, by simp⟩
      rintro rfl
      rw [del_bit, up_bit] at hj
      simp at hj
    by_cases cb : b = i
    · subst cb
      refine ⟨P, mat_mono P (fun j hj => hsub j hj ?_) h5, by simp⟩
      rintro rfl
      rw [del_bit] at hj
      simp at hj
    obtain ⟨Q, hq, hl⟩ := mat_del i P _ h5
    refine ⟨(a, b) :: Q, mat_mk h1 ?_ ?_ h4 (mat_mono Q (fun j hj => ?_) hq), by rw [List.length_cons, List.length_cons]; omega⟩
    · rw [del_bit, h2]; simp [ca]
    · rw [del_bit, h3]; simp [cb]
    · rw [del_bit, del_bit, up_bit] at hj
      rw [del_bit, up_bit, del_bit]
      simp only [Bool.and_eq_true] at hj ⊢
      exact ⟨⟨⟨hj.1.1.1, hj.2⟩, hj.1.1.2⟩, hj.1.2⟩
theorem best_del_le (A : Nat → Nat) (n i : Nat) {s : Nat} (hs : s < 2 ^ n) : best A n (del s i) ≤ best A n s := by
  rw [← lrg_len A n (del s i)]
  exact mat_le s hs _ (mat_mono _ (fun j hj => by rw [del_bit, Bool.and_eq_true] at hj; exact hj.1) (lrg_mat A n (del s i)))
theorem best_del_ge (A : Nat → Nat) (n i : Nat) {s : Nat} (hs : s < 2 ^ n) : best A n s ≤ best A n (del s i) + 1 := by
  obtain ⟨Q, hq, hl⟩ := mat_del i _ s (lrg_mat A n s)
  have := mat_le (n := n) (del s i) (del_lt hs) Q hq
  rw [lrg_len] at hl
  omega
/-! ## Renumbered without one hat -/
def dn (i k : Nat) : Nat := if k < i then k else k - 1
def upx (i k : Nat) : Nat := if k < i then k else k + 1
theorem upx_ne (i k : Nat) : upx i k ≠ i := by unfold upx; split <;> omega
theorem dn_upx (i k : Nat) : dn i (upx i k) = k := by
  unfold dn upx
  by_cases h1 : k < i
  · simp [h1]
  · have h2 : ¬ k + 1 < i := by omega
    simp [h1, h2]
theorem upx_dn {i k : Nat} (h : k ≠ i) : upx i (dn i k) = k := by
  unfold dn upx
  by_cases h1 : k < i
  · simp [h1]
  · have h2 : ¬ k - 1 < i := by omega
    rw [if_neg h1, if_neg h2]; omega
theorem dn_lt {i a b : Nat} (ha : a ≠ i) (hb : b ≠ i) (h : a < b) : dn i a < dn i b := by unfold dn; split <;> split <;> omega
theorem upx_lt {i a b : Nat} (h : a < b) : upx i a < upx i b := by unfold upx; split <;> split <;> omega
/-- The sets t and s are one, but for the numbers. -/
def Sq (i s t : Nat) : Prop := s.testBit i = false ∧ ∀ k, t.testBit k = s.testBit (upx i k)
theorem Sq.step {i s t a b : Nat} (h : Sq i s t) (ha : a ≠ i) (hb : b ≠ i) : Sq i (del (up s a) b) (del (up t (dn i a)) (dn i b)) := by
  refine ⟨by rw [del_bit, up_bit, h.1]; rfl, fun k => ?_⟩
  rw [del_bit, up_bit, del_bit, up_bit, h.2]
  have e1 : decide (dn i a < k) = decide (a < upx i k) := decide_eq_decide.2 (by
    unfold dn upx
    by_cases h1 : a < i <;> by_cases h2 : k < i <;> simp only [h1, h2, if_true, if_false] <;> omega)
  have e2 : decide (k = dn i b) = decide (upx i k = b) := decide_eq_decide.2 (by
    unfold dn upx
    by_cases h1 : b < i <;> by_cases h2 : k < i <;> simp only [h1, h2, if_true, if_false] <;> omega)
  rw [e1, e2]
theorem mat_down {A B : Nat → Nat} {i : Nat} (hAB : ∀ a, a ≠ i → ∀ b, b ≠ i → (A a).testBit b = (B (dn i a)).testBit (dn i b)) : ∀ (P : List (Nat × Nat)) (s t : Nat), Sq i s t → mat A s P = true → mat B t (P.map fun q => (dn i q.1, dn i q.2)) = true
  | [], _, _, _, _ => rfl
  | (a, b) :: P, s, t, hq, hm => by
    obtain ⟨h1, h2, h3, h4, h5⟩ := mat_cons hm
    have ha : a ≠ i := by rintro rfl; rw [hq.1] at h2; cases h2
    have hb : b ≠ i := by rintro rfl; rw [hq.1] at h3; cases h3
    exact mat_mk (dn_lt ha hb h1) (by rw [hq.2, upx_dn ha]; exact h2) (by rw [hq.2, upx_dn hb]; exact h3) (by rw [← hAB a ha b hb]; exact h4) (mat_down hAB P _ _ (hq.step ha hb) h5)
theorem mat_upx {A B : Nat → Nat} {i : Nat} (hAB : ∀ a, a ≠ i → ∀ b, b ≠ i → (A a).testBit b = (B (dn i a)).testBit (dn i b)) : ∀ (P : List (Nat × Nat)) (s t : Nat), Sq i s t → mat B t P = true → mat A s (P.map fun q => (upx i q.1, upx i q.2)) = true
  | [], _, _, _, _ => rfl
  | (a, b) :: P, s, t, hq, hm => by
    obtain ⟨h1, h2, h3, h4, h5⟩ := mat_cons hm
    have hst := hq.step (upx_ne i a) (upx_ne i b)
    rw [dn_upx, dn_upx] at hst
    refine mat_mk (upx_lt h1) (by rw [← hq.2]; exact h2) (by rw [← hq.2]; exact h3) ?_ (mat_upx hAB P _ _ hst h5)
    rw [hAB _ (upx_ne i a) _ (upx_ne i b), dn_upx, dn_upx]
    exact h4
theorem best_sq {A B : Nat → Nat} {i n m s t : Nat} (hAB : ∀ a, a ≠ i → ∀ b, b ≠ i → (A a).testBit b = (B (dn i a)).testBit (dn i b)) (hs : s < 2 ^ n) (ht : t < 2 ^ m) (hq : Sq i s t) : best A n s = best B m t := by
  have h1 := mat_le t ht _ (mat_down hAB _ s t hq (lrg_mat A n s))
  have h2 := mat_le s hs _ (mat_upx hAB _ s t hq (lrg_mat B m t))
  rw [List.length_map, lrg_len] at h1 h2
  omega
end Go.Proofs.YtnpapnpedcbfnaaDoor
set_option linter.unusedVariables false
namespace Go.Proofs.YtnpapnpedcbfnaaDoor
open Go.Vs
/-! ## A shop without one hat -/
def posF (i k : Nat) : Nat := if k ≤ i then k else k - 1
theorem pos_dn {i k : Nat} (h : k ≠ i) : posF i k = dn i k := by
  unfold posF dn
  by_cases c : k < i
  · rw [if_pos (by omega), if_pos c]
  · rw [if_neg (by omega), if_neg c]
theorem pos_at (i : Nat) : posF i (i + 1) = posF i i := by
  unfold posF
  rw [if_neg (by omega), if_pos (Nat.le_refl _)]; rfl
theorem pos_next {i k : Nat} (h : k ≠ i) : posF i (k + 1) = posF i k + 1 := by
  unfold posF
  by_cases c : k < i
  · rw [if_pos (by omega), if_pos (by omega)]
  · rw [if_neg (by omega), if_neg (by omega)]; omega
theorem pos_le (i k : Nat) : posF i k ≤ k := by
  unfold posF; split <;> omega
def sqF (x i : Nat) : Nat → Nat
  | 0 => 0
  | k + 1 => if k = i then sqF x i k else if x.testBit k = true then sqF x i k + 2 ^ posF i k else sqF x i k
theorem sqF_lt (x i : Nat) : ∀ k, sqF x i k < 2 ^ posF i k
  | 0 => by unfold sqF; exact Nat.two_pow_pos _
  | k + 1 => by
    have ih := sqF_lt x i k
    unfold sqF
    by_cases c : k = i
    · subst c; rw [if_pos rfl, pos_at]; exact ih
    · rw [if_neg c, pos_next c, Nat.pow_succ]
      split <;> omega
theorem sqF_bit (x i j : Nat) : ∀ k, (sqF x i k).testBit j = (decide (upx i j < k) && x.testBit (upx i j))
  | 0 => by unfold sqF; simp
  | k + 1 => by
    have ih := sqF_bit x i j k
    have hl := sqF_lt x i k
    have hu := upx_ne i j
    unfold sqF
    by_cases c : k = i
    · subst c
      rw [if_pos rfl, ih, show decide (upx k j < k + 1) = decide (upx k j < k) from decide_eq_decide.2 (by omega)]
    · rw [if_neg c]
      have hd : upx i (dn i k) = k := upx_dn c
      cases cb : x.testBit k with
      | true =>
        rw [if_pos rfl]
        have e := Nat.two_pow_add_eq_or_of_lt hl 1
        rw [Nat.mul_one] at e
        rw [Nat.add_comm, e, Nat.testBit_or, Nat.testBit_two_pow, ih, pos_dn c]
        by_cases cj : dn i k = j
        · rw [decide_eq_true cj, ← cj, hd, cb, decide_eq_true (Nat.lt_succ_self k)]; rfl
        · have : upx i j ≠ k := fun h => cj (by rw [← h, dn_upx])
          rw [decide_eq_false cj, Bool.false_or, show decide (upx i j < k + 1) = decide (upx i j < k) from decide_eq_decide.2 (by omega)]
      | false =>
        rw [if_neg (by simp), ih]
        by_cases cj : upx i j = k
        · rw [cj, cb, Bool.and_false, Bool.and_false]
        · rw [show decide (upx i j < k + 1) = decide (upx i j < k) from decide_eq_decide.2 (by omega)]
/-- The first rows of the shop without the hat i. -/
def sqT (L : List Int) (i m : Nat) : List Int := (List.range m).map fun a => (sqF (setF L (upx i a)) i L.length : Int)
theorem sqT_len (L : List Int) (i m : Nat) : (sqT L i m).length = m := by simp [sqT]
theorem sqT_next (L : List Int) {i k : Nat} (h : k ≠ i) : sqT L i (posF i (k + 1)) = sqT L i (posF i k) ++ [(sqF (setF L k) i L.length : Int)] := by
  rw [pos_next h, sqT, List.range_succ, List.map_append, List.map_singleton, pos_dn h, upx_dn h]
  rfl
theorem sqT_set (L : List Int) {i m a : Nat} (ha : a < m) : setF (sqT L i m) a = sqF (setF L (upx i a)) i L.length := by
  show (List.getD (sqT L i m) a 0).toNat = _
  simp [sqT, ha]
theorem sqT_out (L : List Int) {i m a : Nat} (ha : m ≤ a) : setF (sqT L i m) a = 0 := by
  unfold setF sqT
  simp [ha]
theorem setF_out (L : List Int) {a : Nat} (ha : L.length ≤ a) : setF L a = 0 := by
  unfold setF
  simp [ha]
theorem upx_bound {i n a : Nat} (hi : i < n) : upx i a < n ↔ a < n - 1 := by
  unfold upx; split <;> omega
theorem dn_bound {i n a : Nat} (hi : i < n) (ha : a ≠ i) : dn i a < n - 1 ↔ a < n := by
  unfold dn; split <;> omega
theorem sq_shop {L : List Int} (h : shopB L = true) {i : Nat} (hi : i < L.length) (h2 : 2 ≤ L.length) : shopB (sqT L i (L.length - 1)) = true := by
  obtain ⟨hL1, hL10, hA⟩ := shop_ok h
  have hrow : ∀ a, a < L.length - 1 → (sqT L i (L.length - 1)).getD a 0 = (sqF (setF L (upx i a)) i L.length : Int) := fun a ha => by
    unfold sqT; simp [ha]
  have hpos : posF i L.length = L.length - 1 := by unfold posF; rw [if_neg (by omega)]
  unfold shopB
  rw [sqT_len]
  simp only [Bool.and_eq_true, decide_eq_true_eq, List.all_eq_true, List.mem_range]
  refine ⟨⟨by omega, by omega⟩, fun a ha => ?_, fun a ha => ?_⟩
  · have hl := sqF_lt (setF L (upx i a)) i L.length
    rw [hpos] at hl
    have hua := (upx_bound (a := a) hi).2 ha
    unfold okI
    rw [sqT_len, hrow a ha, bitI_nat, sqF_bit, (hA _ hua).2.2.1, Bool.and_false]
    have e2 : ((2 ^ (L.length - 1) : Nat) : Int) = 2 ^ (L.length - 1) := by simp
    rw [decide_eq_true (by omega), ← e2, decide_eq_true (Int.ofNat_lt.2 hl)]
    rfl
  · unfold symI
    rw [sqT_len, List.all_eq_true]
    intro b hb
    rw [List.mem_range] at hb
    rw [hrow a ha, hrow b hb, bitI_nat, bitI_nat, sqF_bit, sqF_bit]
    have hua := (upx_bound (a := a) hi).2 ha
    have hub := (upx_bound (a := b) hi).2 hb
    rw [decide_eq_true hua, decide_eq_true hub, (hA _ hua).2.2.2 _ hub]
    simp
theorem sq_best {L : List Int} (h : shopB L = true) {i : Nat} (hi : i < L.length) (h2 : 2 ≤ L.length) : best (setF L) L.length (del (allN L.length) i) = best (setF (sqT L i (L.length - 1))) (L.length - 1) (allN (L.length - 1)) := by
  obtain ⟨hL1, hL10, hA⟩ := shop_ok h
  have hlt : ∀ m, allN m < 2 ^ m := fun m => by unfold allN; have := Nat.two_pow_pos m; omega
  refine best_sq (i := i) (fun a ha b hb => ?_) (del_lt (hlt _)) (hlt _) ⟨by rw [del_bit]; simp, fun k => ?_⟩
  · by_cases ca : a < L.length
    · rw [sqT_set L ((dn_bound hi ha).2 ca), upx_dn ha, sqF_bit, upx_dn hb]
      by_cases cb : b < L.length
      · rw [decide_eq_true cb, Bool.true_and]
      · rw [decide_eq_false cb, Bool.false_and]
        exact Nat.testBit_lt_two_pow (Nat.lt_of_lt_of_le (hA a ca).2.1 (Nat.pow_le_pow_right (by decide) (by omega)))
    · have hn := mt (dn_bound hi ha).1 ca
      rw [setF_out L (by omega), sqT_out L (by omega), Nat.zero_testBit, Nat.zero_testBit]
  · rw [all_bit, del_bit, all_bit]
    have h1 := upx_ne i k
    have h3 := upx_bound (a := k) hi
    by_cases c : k < L.length - 1
    · rw [decide_eq_true c, decide_eq_true (h3.2 c)]; simp [h1]
    · rw [decide_eq_false c, decide_eq_false (mt h3.1 c)]; rfl
/-! ## Which hats are needed -/
def needF (A : Nat → Nat) (n : Nat) : Nat → Nat
  | 0 => 0
  | i + 1 => if best A n (del (allN n) i) < best A n (allN n) then needF A n i ||| 2 ^ i else needF A n i
theorem needF_lt (A : Nat → Nat) (n : Nat) : ∀ i, needF A n i < 2 ^ i
  | 0 => by unfold needF; decide
  | i + 1 => by
    have ih := needF_lt A n i
    unfold needF
    have hp : 2 ^ (i + 1) = 2 ^ i + 2 ^ i := by rw [Nat.pow_succ]; omega
    split
    · exact Nat.or_lt_two_pow (by omega) (by have := Nat.two_pow_pos i; omega)
    · omega
theorem needF_bit (A : Nat → Nat) (n j : Nat) : ∀ i, (needF A n i).testBit j = (decide (j < i) && decide (best A n (del (allN n) j) < best A n (allN n)))
  | 0 => by unfold needF; simp
  | i + 1 => by
    have ih := needF_bit A n j i
    unfold needF
    by_cases c : best A n (del (allN n) i) < best A n (allN n)
    · rw [if_pos c, Nat.testBit_or, Nat.testBit_two_pow, ih]
      by_cases cj : i = j
      · subst cj; rw [decide_eq_true (Nat.lt_succ_self i), decide_eq_true c]; simp
      · rw [decide_eq_false cj, Bool.or_false, show decide (j < i + 1) = decide (j < i) from decide_eq_decide.2 (by omega)]
    · rw [if_neg c, ih]
      by_cases cj : i = j
      · subst cj; rw [decide_eq_false c]; simp
      · rw [show decide (j < i + 1) = decide (j < i) from decide_eq_decide.2 (by omega)]
end Go.Proofs.YtnpapnpedcbfnaaDoor
set_option linter.unusedVariables false
namespace Go.Vs
/-! ## A game on fewer hats -/
theorem won_iso {A B : Nat → Nat} {n m : Nat} {q : Nat → Bool} {rk : Nat → Nat} (h1 : ∀ k, k < n → q k = true → rk k < m) (h2 : ∀ k j, k < n → j < n → q k = true → q j = true → rk k = rk j → k = j)
    (h3 : ∀ k', k' < m → ∃ k, k < n ∧ q k = true ∧ rk k = k') (h4 : ∀ k j, k < n → j < n → q k = true → q j = true → (B (rk k)).testBit (rk j) = (A k).testBit j) :
    ∀ (u w l t : Nat), un n w = u → l < n → q l = true → (∀ j, j < n → q j = false → w.testBit j = true) → (∀ k, k < n → q k = true → t.testBit (rk k) = w.testBit k) → won A n w l = won B m t (rk l) := by
  intro u
  induction u using Nat.strongRecOn with
  | ind u ih =>
  intro w l t hu hl hql hw ht
  have key : ∀ k, k < n → q k = true → w.testBit k = false → won A n (w ||| 2 ^ k) k = won B m (t ||| 2 ^ rk k) (rk k) := fun k hk hq hb => by
    have hp := un_pos hk hb
    refine ih (un n (w ||| 2 ^ k)) (by omega) _ k _ rfl hk hq (fun j hj hqj => ?_) (fun j hj hqj => ?_)
    · rw [Nat.testBit_or, hw j hj hqj]; rfl
    · rw [Nat.testBit_or, Nat.testBit_or, ht j hj hqj, Nat.testBit_two_pow, Nat.testBit_two_pow]
      congr 1
      exact decide_eq_decide.2 ⟨fun h => h2 k j hk hj hq hqj h, fun h => by rw [h]⟩
  have hgood : ∀ k, k < n → q k = true → good A n w l k = good B m t (rk l) (rk k) := fun k hk hq => by
    unfold good
    rw [h4 l k hl hk hql hq, ht k hk hq]
    cases hb : w.testBit k with
    | true => simp
    | false => rw [key k hk hq hb]
  rw [won_eq, won_eq, Bool.eq_iff_iff, List.any_eq_true, List.any_eq_true]
  constructor
  · rintro ⟨k, hk, hg⟩
    have hk := List.mem_range.1 hk
    cases hq : q k with
    | true => exact ⟨rk k, List.mem_range.2 (h1 k hk hq), by rw [← hgood k hk hq]; exact hg⟩
    | false =>
      exfalso
      unfold good at hg
      rw [hw k hk hq] at hg
      simp at hg
  · rintro ⟨k', hk', hg⟩
    obtain ⟨k, hk, hq, rfl⟩ := h3 k' (List.mem_range.1 hk')
    exact ⟨k, List.mem_range.2 hk, by rw [hgood k hk hq]; exact hg⟩
/-! ## How many are kept below -/
def rkF (q : Nat → Bool) : Nat → Nat
  | 0 => 0
  | k + 1 => if q k = true then rkF q k + 1 else rkF q k
theorem rk_mono (q : Nat → Bool) {k j : Nat} (h : k ≤ j) : rkF q k ≤ rkF q j := by
  induction j with
  | zero => rw [show k = 0 by omega]; exact Nat.le_refl _
  | succ j ih =>
    by_cases c : k = j + 1
    · rw [c]; exact Nat.le_refl _
    · have := ih (by omega)
      show _ ≤ (if q j = true then rkF q j + 1 else rkF q j)
      split <;> omega
theorem rk_lt (q : Nat → Bool) {k j : Nat} (h : k < j) (hq : q k = true) : rkF q k < rkF q j := by
  have h1 := rk_mono q (show k + 1 ≤ j from h)
  have h2 : rkF q (k + 1) = rkF q k + 1 := by show (if q k = true then _ else _) = _; rw [if_pos hq]
  omega
theorem rk_inj (q : Nat → Bool) {k j : Nat} (hk : q k = true) (hj : q j = true) (h : rkF q k = rkF q j) : k = j := by
  rcases Nat.lt_trichotomy k j with c | c | c
  · have := rk_lt q c hk; omega
  · exact c
  · have := rk_lt q c hj; omega
theorem rk_onto (q : Nat → Bool) : ∀ n k', k' < rkF q n → ∃ k, k < n ∧ q k = true ∧ rkF q k = k'
  | 0, k', h => by simp [rkF] at h
  | n + 1, k', h => by
    unfold rkF at h
    by_cases c : k' < rkF q n
    · obtain ⟨k, h1, h2⟩ := rk_onto q n k' c
      exact ⟨k, by omega, h2⟩
    · cases hq : q n with
      | true => rw [if_pos hq] at h; exact ⟨n, by omega, hq, by omega⟩
      | false => rw [if_neg (by simp [hq])] at h; omega
theorem rk_le (q : Nat → Bool) : ∀ k, rkF q k ≤ k
  | 0 => Nat.le_refl _
  | k + 1 => by
    have := rk_le q k
    unfold rkF
    split <;> omega
/-- A row without those that are not kept. -/
def rowG (q : Nat → Bool) (x : Nat) : Nat → Nat
  | 0 => 0
  | k + 1 => if q k = true then (if x.testBit k = true then rowG q x k + 2 ^ rkF q k else rowG q x k) else rowG q x k
theorem rowG_lt (q : Nat → Bool) (x : Nat) : ∀ k, rowG q x k < 2 ^ rkF q k
  | 0 => by unfold rowG; exact Nat.two_pow_pos _
  | k + 1 => by
    have ih := rowG_lt q x k
    have e : rkF q (k + 1) = if q k = true then rkF q k + 1 else rkF q k := rfl
    rw [e]
    unfold rowG
    cases hq : q k with
    | false => rw [if_neg (by simp), if_neg (by simp)]; exact ih
    | true =>
      rw [if_pos rfl, if_pos rfl, Nat.pow_succ]
      split <;> omega
theorem rowG_bit (q : Nat → Bool) (x : Nat) {j : Nat} (hj : q j = true) : ∀ k, (rowG q x k).testBit (rkF q j) = (decide (j < k) && x.testBit j)
  | 0 => by unfold rowG; simp
  | k + 1 => by
    have ih := rowG_bit q x hj k
    have hl := rowG_lt q x k
    unfold rowG
    cases hq : q k with
    | false =>
      have : j ≠ k := by rintro rfl; rw [hq] at hj; cases hj
      rw [if_neg (by simp), ih, show decide (j < k + 1) = decide (j < k) from decide_eq_decide.2 (by omega)]
    | true =>
      rw [if_pos rfl]
      by_cases c : j = k
      · subst c
        cases hb : x.testBit j with
        | false => rw [if_neg (by simp), ih, hb]; simp
        | true =>
          rw [if_pos rfl]
          have e := Nat.two_pow_add_eq_or_of_lt hl 1
          rw [Nat.mul_one] at e
          rw [Nat.add_comm, e, Nat.testBit_or, Nat.testBit_two_pow]
          simp
      · have hne : ¬ rkF q k = rkF q j := fun h => c (rk_inj q hj hq h.symm)
        rw [show decide (j < k + 1) = decide (j < k) from decide_eq_decide.2 (by omega)]
        split
        · have e := Nat.two_pow_add_eq_or_of_lt hl 1
          rw [Nat.mul_one] at e
          rw [Nat.add_comm, e, Nat.testBit_or, Nat.testBit_two_pow, decide_eq_false hne, Bool.false_or, ih]
        · exact ih
end Go.Vs
namespace Go.Proofs.YtnpapnpedcbfnaaDoor
open Go.Vs
/-- The rows that are kept, of the first k. -/
def smT (q : Nat → Bool) (L : List Int) : Nat → List Int
  | 0 => []
  | k + 1 => if q k = true then smT q L k ++ [(rowG q (setF L k) L.length : Int)] else smT q L k
theorem smT_len (q : Nat → Bool) (L : List Int) : ∀ k, (smT q L k).length = rkF q k
  | 0 => rfl
  | k + 1 => by
    have ih := smT_len q L k
    have e : rkF q (k + 1) = if q k = true then rkF q k + 1 else rkF q k := rfl
    rw [e]
    unfold smT
    split
    · rw [List.length_append, ih]; rfl
    · exact ih
theorem smT_get (q : Nat → Bool) (L : List Int) {j : Nat} (hj : q j = true) : ∀ k, j < k → (smT q L k).getD (rkF q j) 0 = (rowG q (setF L j) L.length : Int)
  | 0, h => by omega
  | k + 1, h => by
    have hlen := smT_len q L k
    unfold smT
    by_cases c : j = k
    · subst c
      rw [if_pos hj, List.getD_eq_getElem?_getD, List.getElem?_append_right (by omega), hlen, Nat.sub_self]
      rfl
    · have hlt := rk_lt q (show j < k by omega) hj
      have ih := smT_get q L hj k (by omega)
      split
      · rw [List.getD_eq_getElem?_getD, List.getElem?_append_left (by omega), ← List.getD_eq_getElem?_getD]
        exact ih
      · exact ih
theorem smT_shop {q : Nat → Bool} {L : List Int} (h : shopB L = true) (h1 : 0 < rkF q L.length) : shopB (smT q L L.length) = true := by
  obtain ⟨hL1, hL10, hA⟩ := shop_ok h
  have hle := rk_le q L.length
  have hrow : ∀ a, a < rkF q L.length → ∃ k, k < L.length ∧ q k = true ∧ rkF q k = a ∧ (smT q L L.length).getD a 0 = (rowG q (setF L k) L.length : Int) := fun a ha => by
    obtain ⟨k, hk, hq, rfl⟩ := rk_onto q L.length a ha
    exact ⟨k, hk, hq, rfl, smT_get q L hq _ hk⟩
  unfold shopB
  rw [smT_len]
  simp only [Bool.and_eq_true, decide_eq_true_eq, List.all_eq_true, List.mem_range]
  refine ⟨⟨by omega, by omega⟩, fun a ha => ?_, fun a ha => ?_⟩
  · obtain ⟨k, hk, hq, rfl, hg⟩ := hrow a ha
    have hl := rowG_lt q (setF L k) L.length
    unfold okI
    rw [smT_len, hg, bitI_nat, rowG_bit q _ hq, (hA k hk).2.2.1, Bool.and_false]
    have e2 : ((2 ^ rkF q L.length : Nat) : Int) = 2 ^ rkF q L.length := by simp
    rw [decide_eq_true (by omega), ← e2, decide_eq_true (Int.ofNat_lt.2 hl)]
    rfl
  · obtain ⟨k, hk, hq, rfl, hg⟩ := hrow a ha
    unfold symI
    rw [smT_len, List.all_eq_true]
    intro b hb
    rw [List.mem_range] at hb
    obtain ⟨j, hj, hqj, rfl, hgj⟩ := hrow b hb
    rw [hg, hgj, bitI_nat, bitI_nat, rowG_bit q _ hqj, rowG_bit q _ hq, decide_eq_true hk, decide_eq_true hj, (hA k hk).2.2.2 j hj]
    simp
/-- The game beyond a set is the game on the others. -/
theorem won_less {q : Nat → Bool} {L : List Int} (w l t : Nat) (hl : l < L.length) (hql : q l = true) (hw : ∀ j, j < L.length → q j = false → w.testBit j = true) (ht : ∀ k, k < L.length → q k = true → t.testBit (rkF q k) = w.testBit k) :
    won (setF L) L.length w l = won (setF (smT q L L.length)) (rkF q L.length) t (rkF q l) := by
  refine won_iso (q := q) (rk := rkF q) (fun k hk hq => rk_lt q hk hq) (fun k j _ _ hk hj h => rk_inj q hk hj h) (rk_onto q L.length) (fun k j hk hj hq hqj => ?_) _ w l t rfl hl hql hw ht
  have hs : setF (smT q L L.length) (rkF q k) = rowG q (setF L k) L.length := by
    show (List.getD (smT q L L.length) (rkF q k) 0).toNat = _
    rw [smT_get q L hq _ hk]
    omega
  rw [hs, rowG_bit q _ hqj, decide_eq_true hj, Bool.true_and]
end Go.Proofs.YtnpapnpedcbfnaaDoor
set_option maxRecDepth 100000
set_option maxHeartbeats 4000000
set_option linter.unusedSimpArgs false
set_option linter.unusedVariables false
namespace Go.Proofs.YtnpapnpedcbfnaaDoor
open Go.Ds Go.Vs
theorem ext20 (a b : Value) : extF (.tuple #[a, b]) 0 = some a := Eq.trans rfl rfl
theorem ext21 (a b : Value) : extF (.tuple #[a, b]) 1 = some b := Eq.trans rfl rfl
theorem eqA_ne (a b c d : Int) : eqAF true 2 (.agg #[.int .i64 a, .int .i64 b]) (.agg #[.int .i64 c, .int .i64 d]) = some (.bool (!(decide (a = c) && decide (b = d)))) := by
  simp [eqAF, intEqs, kindEq, eq_i]
  cases decide (a = c) <;> cases decide (b = d) <;> rfl
theorem cellsP_drop (L : List (Nat × Nat)) (i : Nat) (h : i < L.length) : (((cellsP L).drop (i * 2)).take 2).toArray = #[.int .i64 (L[i].1 : Int), .int .i64 (L[i].2 : Int)] := by
  have h1 := cellsI_drop (toI L) i (by simpa [toI] using h)
  rw [cellsI_toI] at h1
  rw [h1]
  simp [toI]
theorem cellsP_get (L : List (Nat × Nat)) (i : Nat) (h : i < L.length) : (cellsP L)[i * 2]? = some (.int .i64 (L[i].1 : Int)) ∧ (cellsP L)[i * 2 + 1]? = some (.int .i64 (L[i].2 : Int)) := by
  have h1 := cellsI_get (toI L) i (by simpa [toI] using h)
  rw [cellsI_toI] at h1
  simpa [toI] using h1
theorem firstLaw_rets {X : Caller} (hX : Xok X) (L : List Int) (s p : Value) (P : List (Int × Int)) (g : GH) (hT : HasTab g) (hs : SlR g s (ints L)) (hp : SlQ g p 2 P.length (cellsI P)) :
    Rets Tryd.prog X 14 [s, p] g (fun v g' lo => g.next ≤ lo ∧ v = .bool true) := by
  have hl := hs.len
  rw [ints_len] at hl
  have hlp := hp.len
  refine Rets.run hX.pres p14 (hX.free 14 (by decide) _ _) rfl fun ho => ?_
  simp +decide (disch := first | assumption | exact cellV_int _ _ | exact cellV_bool _ | omega | (simp only [GH.pn, GH.sn] <;> omega) | (with_reducible ((repeat (first | apply GH.ok_push | apply GH.ok_set)); assumption)) | ((try simp only [GH.push_hid, GH.set_hid]); first | assumption | (refine GH.vis ?_ ?_ <;> first | assumption | ((try simp only [GH.pn, GH.sn]) <;> omega)))) only [go_sem, ↓reduceIte, Nat.reduceEqDiff, Nat.reduceAdd, Int.reduceToNat, Int.reduceAdd, Int.reduceNeg, Int.reduceSub, Int.reduceMul, Int.reduceLT, Int.reduceLE, Int.reduceEq, ↓GH.gp_eq, ↓GH.gp_ne, ↓GH.gs_eq, ↓GH.gs_ne, GH.push_next, GH.set_next]
  refine CallD.calm (few_rets hX.toXfr s p _ _ hl hlp g) ?_
  rintro v g1 hx1 rfl
  have hn1 := hx1.next
  have hT1 := hT.ext hx1
  cases hf : (decide (L.length ≤ 40) && decide (P.length ≤ 40)) with
  | false =>
    simp +decide (disch := first | assumption | exact cellV_int _ _ | exact cellV_bool _ | omega | (simp only [GH.pn, GH.sn] <;> omega) | (with_reducible ((repeat (first | apply GH.ok_push | apply GH.ok_set)); assumption)) | ((try simp only [GH.push_hid, GH.set_hid]); first | assumption | (refine GH.vis ?_ ?_ <;> first | assumption | ((try simp only [GH.pn, GH.sn]) <;> omega)))) only [go_sem, ↓reduceIte, Nat.reduceEqDiff, Nat.reduceAdd, Int.reduceToNat, Int.reduceAdd, Int.reduceNeg, Int.reduceSub, Int.reduceMul, Int.reduceLT, Int.reduceLE, Int.reduceEq, ↓GH.gp_eq, ↓GH.gp_ne, ↓GH.gs_eq, ↓GH.gs_ne, GH.push_next, GH.set_next]
    refine CallD.calm (hX.alive g1 hT1) ?_
    rintro v g2 hx2 rfl
    have hn2 := hx2.next
    simp +decide (disch := first | assumption | exact cellV_int _ _ | exact cellV_bool _ | omega | (simp only [GH.pn, GH.sn] <;> omega) | (with_reducible ((repeat (first | apply GH.ok_push | apply GH.ok_set)); assumption)) | ((try simp only [GH.push_hid, GH.set_hid]); first | assumption | (refine GH.vis ?_ ?_ <;> first | assumption | ((try simp only [GH.pn, GH.sn]) <;> omega)))) only [go_sem, ↓reduceIte, Nat.reduceEqDiff, Nat.reduceAdd, Int.reduceToNat, Int.reduceAdd, Int.reduceNeg, Int.reduceSub, Int.reduceMul, Int.reduceLT, Int.reduceLE, Int.reduceEq, ↓GH.gp_eq, ↓GH.gp_ne, ↓GH.gs_eq, ↓GH.gs_ne, GH.push_next, GH.set_next]
    intro hx0
    exact ⟨by omega, rfl⟩
  | true =>
  rw [Bool.and_eq_true, decide_eq_true_eq, decide_eq_true_eq] at hf
  simp +decide (disch := first | assumption | exact cellV_int _ _ | exact cellV_bool _ | omega | (simp only [GH.pn, GH.sn] <;> omega) | (with_reducible ((repeat (first | apply GH.ok_push | apply GH.ok_set)); assumption)) | ((try simp only [GH.push_hid, GH.set_hid]); first | assumption | (refine GH.vis ?_ ?_ <;> first | assumption | ((try simp only [GH.pn, GH.sn]) <;> omega)))) only [go_sem, ↓reduceIte, Nat.reduceEqDiff, Nat.reduceAdd, Int.reduceToNat, Int.reduceAdd, Int.reduceNeg, Int.reduceSub, Int.reduceMul, Int.reduceLT, Int.reduceLE, Int.reduceEq, ↓GH.gp_eq, ↓GH.gp_ne, ↓GH.gs_eq, ↓GH.gs_ne, GH.push_next, GH.set_next]
  refine CallD.calm (refIsShop_rets hX.toXfr L hf.1 s g1 (hs.ext hx1)) ?_
  rintro v g2 hx2 rfl
  have hn2 := hx2.next
  have hT2 := hT1.ext hx2
  have hk2 : Kept g g2 := hx1.kept.ext hx2
  cases hz : shopB L with
  | false =>
    simp +decide (disch := first | assumption | exact cellV_int _ _ | exact cellV_bool _ | omega | (simp only [GH.pn, GH.sn] <;> omega) | (with_reducible ((repeat (first | apply GH.ok_push | apply GH.ok_set)); assumption)) | ((try simp only [GH.push_hid, GH.set_hid]); first | assumption | (refine GH.vis ?_ ?_ <;> first | assumption | ((try simp only [GH.pn, GH.sn]) <;> omega)))) only [go_sem, ↓reduceIte, Nat.reduceEqDiff, Nat.reduceAdd, Int.reduceToNat, Int.reduceAdd, Int.reduceNeg, Int.reduceSub, Int.reduceMul, Int.reduceLT, Int.reduceLE, Int.reduceEq, ↓GH.gp_eq, ↓GH.gp_ne, ↓GH.gs_eq, ↓GH.gs_ne, GH.push_next, GH.set_next]
    refine CallD.calm (hX.alive g2 hT2) ?_
    rintro v g3 hx3 rfl
    have hn3 := hx3.next
    simp +decide (disch := first | assumption | exact cellV_int _ _ | exact cellV_bool _ | omega | (simp only [GH.pn, GH.sn] <;> omega) | (with_reducible ((repeat (first | apply GH.ok_push | apply GH.ok_set)); assumption)) | ((try simp only [GH.push_hid, GH.set_hid]); first | assumption | (refine GH.vis ?_ ?_ <;> first | assumption | ((try simp only [GH.pn, GH.sn]) <;> omega)))) only [go_sem, ↓reduceIte, Nat.reduceEqDiff, Nat.reduceAdd, Int.reduceToNat, Int.reduceAdd, Int.reduceNeg, Int.reduceSub, Int.reduceMul, Int.reduceLT, Int.reduceLE, Int.reduceEq, ↓GH.gp_eq, ↓GH.gp_ne, ↓GH.gs_eq, ↓GH.gs_ne, GH.push_next, GH.set_next]
    intro hx0
    exact ⟨by omega, rfl⟩
  | true =>
  obtain ⟨hL1, hL10, hA⟩ := shop_ok hz
  simp +decide (disch := first | assumption | exact cellV_int _ _ | exact cellV_bool _ | omega | (simp only [GH.pn, GH.sn] <;> omega) | (with_reducible ((repeat (first | apply GH.ok_push | apply GH.ok_set)); assumption)) | ((try simp only [GH.push_hid, GH.set_hid]); first | assumption | (refine GH.vis ?_ ?_ <;> first | assumption | ((try simp only [GH.pn, GH.sn]) <;> omega)))) only [go_sem, ↓reduceIte, Nat.reduceEqDiff, Nat.reduceAdd, Int.reduceToNat, Int.reduceAdd, Int.reduceNeg, Int.reduceSub, Int.reduceMul, Int.reduceLT, Int.reduceLE, Int.reduceEq, ↓GH.gp_eq, ↓GH.gp_ne, ↓GH.gs_eq, ↓GH.gs_ne, GH.push_next, GH.set_next]
  refine CallD.calm (Largest_rets hX L hz s g2 hT2 (hs.kept hk2)) ?_
  rintro v g3 hx3 ⟨hok3, hk3, o, rfl, hown3⟩
  have hn3 := hx3.next
  have hk3' := hk2.trans hk3
  simp +decide (disch := first | assumption | exact cellV_int _ _ | exact cellV_bool _ | omega | (simp only [GH.pn, GH.sn] <;> omega) | (with_reducible ((repeat (first | apply GH.ok_push | apply GH.ok_set)); assumption)) | ((try simp only [GH.push_hid, GH.set_hid]); first | assumption | (refine GH.vis ?_ ?_ <;> first | assumption | ((try simp only [GH.pn, GH.sn]) <;> omega)))) only [go_sem, ↓reduceIte, Nat.reduceEqDiff, Nat.reduceAdd, Int.reduceToNat, Int.reduceAdd, Int.reduceNeg, Int.reduceSub, Int.reduceMul, Int.reduceLT, Int.reduceLE, Int.reduceEq, ↓GH.gp_eq, ↓GH.gp_ne, ↓GH.gs_eq, ↓GH.gs_ne, GH.push_next, GH.set_next, ext20, ext21]
  refine CallD.calm (IsMatching_rets hX.toXfr L hf.1 s p P (by omega) g3 (hs.kept hk3') (hp.kept hk3')) ?_
  rintro v g4 hx4 rfl
  have hn4 := hx4.next
  have hk4 := hk3'.ext hx4
  have hown4 := (hown3.kept hx4.kept).read
  have hlo := hown4.len
  rw [hz, if_pos rfl]
  have hT4 := hT.kept hk4
  have hT4 := hT.kept hk4
  cases hm : matI L P with
  | false =>
    simp +decide (disch := first | assumption | exact cellV_int _ _ | exact cellV_bool _ | omega | (simp only [GH.pn, GH.sn] <;> omega) | (with_reducible ((repeat (first | apply GH.ok_push | apply GH.ok_set)); assumption)) | ((try simp only [GH.push_hid, GH.set_hid]); first | assumption | (refine GH.vis ?_ ?_ <;> first | assumption | ((try simp only [GH.pn, GH.sn]) <;> omega)))) only [go_sem, ↓reduceIte, Nat.reduceEqDiff, Nat.reduceAdd, Int.reduceToNat, Int.reduceAdd, Int.reduceNeg, Int.reduceSub, Int.reduceMul, Int.reduceLT, Int.reduceLE, Int.reduceEq, ↓GH.gp_eq, ↓GH.gp_ne, ↓GH.gs_eq, ↓GH.gs_ne, GH.push_next, GH.set_next, ext20, ext21]
    refine CallD.calm (hX.alive g4 hT4) ?_
    rintro v g5 hx5 rfl
    have hn5 := hx5.next
    simp +decide (disch := first | assumption | exact cellV_int _ _ | exact cellV_bool _ | omega | (simp only [GH.pn, GH.sn] <;> omega) | (with_reducible ((repeat (first | apply GH.ok_push | apply GH.ok_set)); assumption)) | ((try simp only [GH.push_hid, GH.set_hid]); first | assumption | (refine GH.vis ?_ ?_ <;> first | assumption | ((try simp only [GH.pn, GH.sn]) <;> omega)))) only [go_sem, ↓reduceIte, Nat.reduceEqDiff, Nat.reduceAdd, Int.reduceToNat, Int.reduceAdd, Int.reduceNeg, Int.reduceSub, Int.reduceMul, Int.reduceLT, Int.reduceLE, Int.reduceEq, ↓GH.gp_eq, ↓GH.gp_ne, ↓GH.gs_eq, ↓GH.gs_ne, GH.push_next, GH.set_next]
    intro hx0
    exact ⟨by omega, rfl⟩
  | true =>
  obtain ⟨Q, rfl, hmq⟩ := matI_mat hm
  have hfirst := lrg_first (n := L.length) (allN L.length) (all_lt L.length) Q hmq
  rw [← lrg_len] at hfirst
  generalize lrg (setF L) L.length (allN L.length) = R at *
  have hQl : (toI Q).length = Q.length := by simp [toI]
  rw [hQl] at hlp hp
  rw [cellsI_toI] at hp
  by_cases hlen : (Q.length : Int) = R.length
  case neg =>
    simp +decide (disch := first | assumption | exact cellV_int _ _ | exact cellV_bool _ | omega | (simp only [GH.pn, GH.sn] <;> omega) | (with_reducible ((repeat (first | apply GH.ok_push | apply GH.ok_set)); assumption)) | ((try simp only [GH.push_hid, GH.set_hid]); first | assumption | (refine GH.vis ?_ ?_ <;> first | assumption | ((try simp only [GH.pn, GH.sn]) <;> omega)))) only [go_sem, ↓reduceIte, Nat.reduceEqDiff, Nat.reduceAdd, Int.reduceToNat, Int.reduceAdd, Int.reduceNeg, Int.reduceSub, Int.reduceMul, Int.reduceLT, Int.reduceLE, Int.reduceEq, ↓GH.gp_eq, ↓GH.gp_ne, ↓GH.gs_eq, ↓GH.gs_ne, GH.push_next, GH.set_next, hlp, hlo, hlen, ext20, ext21]
    refine CallD.calm (hX.alive g4 hT4) ?_
    rintro v g5 hx5 rfl
    have hn5 := hx5.next
    simp +decide (disch := first | assumption | exact cellV_int _ _ | exact cellV_bool _ | omega | (simp only [GH.pn, GH.sn] <;> omega) | (with_reducible ((repeat (first | apply GH.ok_push | apply GH.ok_set)); assumption)) | ((try simp only [GH.push_hid, GH.set_hid]); first | assumption | (refine GH.vis ?_ ?_ <;> first | assumption | ((try simp only [GH.pn, GH.sn]) <;> omega)))) only [go_sem, ↓reduceIte, Nat.reduceEqDiff, Nat.reduceAdd, Int.reduceToNat, Int.reduceAdd, Int.reduceNeg, Int.reduceSub, Int.reduceMul, Int.reduceLT, Int.reduceLE, Int.reduceEq, ↓GH.gp_eq, ↓GH.gp_ne, ↓GH.gs_eq, ↓GH.gs_ne, GH.push_next, GH.set_next]
    intro hx0
    exact ⟨by omega, rfl⟩
  have hlen' : Q.length = R.length := by omega
  simp +decide (disch := first | assumption | exact cellV_int _ _ | exact cellV_bool _ | omega | (simp only [GH.pn, GH.sn] <;> omega) | (with_reducible ((repeat (first | apply GH.ok_push | apply GH.ok_set)); assumption)) | ((try simp only [GH.push_hid, GH.set_hid]); first | assumption | (refine GH.vis ?_ ?_ <;> first | assumption | ((try simp only [GH.pn, GH.sn]) <;> omega)))) only [go_sem, ↓reduceIte, Nat.reduceEqDiff, Nat.reduceAdd, Int.reduceToNat, Int.reduceAdd, Int.reduceNeg, Int.reduceSub, Int.reduceMul, Int.reduceLT, Int.reduceLE, Int.reduceEq, ↓GH.gp_eq, ↓GH.gp_ne, ↓GH.gs_eq, ↓GH.gs_ne, GH.push_next, GH.set_next, hlp, hlo, hlen, ext20, ext21]
  refine Wk.loops (fun m e g' lo => g.next ≤ lo ∧ Kept g4 g' ∧ ∃ i : Nat, i + m = Q.length ∧ (ev e (.s 1) = p ∧ ev e (.s 5) = o ∧ ev e (.s 9) = .int .i64 (i : Nat)) ∧ ∀ j, j < i → Q[j]? = R[j]?)
    (fun e g' lo => g.next ≤ lo ∧ Kept g4 g') (n := Q.length) ?_ ?_ ?_
  · exact ⟨by omega, Kept.refl _, 0, by omega, (by simp +decide (disch := first | assumption | (apply GH.ok_push; assumption) | exact cellV_int _ _ | exact cellV_bool _ | omega) only [go_sem, ↓reduceIte, Nat.reduceEqDiff, Nat.reduceAdd, Int.reduceToNat]; first | done | exact rfl), fun j hj => by omega⟩
  · rintro e g' lo hog hlg ⟨hlo', hk⟩
    simp +decide (disch := first | assumption | exact cellV_int _ _ | exact cellV_bool _ | omega | (simp only [GH.pn, GH.sn] <;> omega) | (with_reducible ((repeat (first | apply GH.ok_push | apply GH.ok_set)); assumption)) | ((try simp only [GH.push_hid, GH.set_hid]); first | assumption | (refine GH.vis ?_ ?_ <;> first | assumption | ((try simp only [GH.pn, GH.sn]) <;> omega)))) only [go_sem, ↓reduceIte, Nat.reduceEqDiff, Nat.reduceAdd, Int.reduceToNat, Int.reduceAdd, Int.reduceNeg, Int.reduceSub, Int.reduceMul, Int.reduceLT, Int.reduceLE, Int.reduceEq, ↓GH.gp_eq, ↓GH.gp_ne, ↓GH.gs_eq, ↓GH.gs_ne, GH.push_next, GH.set_next]
    refine CallD.calm (hX.alive g' (hT4.kept hk)) ?_
    rintro v g5 hx5 rfl
    simp +decide (disch := first | assumption | exact cellV_int _ _ | exact cellV_bool _ | omega | (simp only [GH.pn, GH.sn] <;> omega) | (with_reducible ((repeat (first | apply GH.ok_push | apply GH.ok_set)); assumption)) | ((try simp only [GH.push_hid, GH.set_hid]); first | assumption | (refine GH.vis ?_ ?_ <;> first | assumption | ((try simp only [GH.pn, GH.sn]) <;> omega)))) only [go_sem, ↓reduceIte, Nat.reduceEqDiff, Nat.reduceAdd, Int.reduceToNat, Int.reduceAdd, Int.reduceNeg, Int.reduceSub, Int.reduceMul, Int.reduceLT, Int.reduceLE, Int.reduceEq, ↓GH.gp_eq, ↓GH.gp_ne, ↓GH.gs_eq, ↓GH.gs_ne, GH.push_next, GH.set_next]
    intro hx0
    exact ⟨by omega, rfl⟩
  · rintro m e g' lo ho' hl' ih out ⟨hlo', hk, i, hi, he, hsame⟩
    have hkn := hk.next
    by_cases ci : i < Q.length
    case neg =>
      have ci' : ¬ (i : Int) < Q.length := by omega
      simp +decide (disch := first | assumption | exact cellV_int _ _ | exact cellV_bool _ | omega | (simp only [GH.pn, GH.sn] <;> omega) | (with_reducible ((repeat (first | apply GH.ok_push | apply GH.ok_set)); assumption)) | ((try simp only [GH.push_hid, GH.set_hid]); first | assumption | (refine GH.vis ?_ ?_ <;> first | assumption | ((try simp only [GH.pn, GH.sn]) <;> omega)))) only [go_sem, ↓reduceIte, Nat.reduceEqDiff, Nat.reduceAdd, Int.reduceToNat, Int.reduceAdd, Int.reduceNeg, Int.reduceSub, Int.reduceMul, Int.reduceLT, Int.reduceLE, Int.reduceEq, ↓GH.gp_eq, ↓GH.gp_ne, ↓GH.gs_eq, ↓GH.gs_ne, GH.push_next, GH.set_next, he, hlp, ci']
      exact out _ _ _ ⟨hlo', hk⟩
    have ci' : (i : Int) < Q.length := by omega
    have ciR : i < R.length := by omega
    obtain ⟨j, a, hj, hp1, hp2, hp3⟩ := ((hp.kept hk4).kept hk).ptr ci
    have hp1 := hp1 (i : Int) rfl
    rw [cellsP_drop Q i ci] at hp3
    obtain ⟨j2, a2, hj2, hq1, hq2, hq3⟩ := (hown4.kept hk).ptr ciR
    have hq1 := hq1 (i : Int) rfl
    rw [cellsP_drop R i ciR] at hq3
    obtain ⟨c1, c2⟩ := cellsP_get Q i ci
    obtain ⟨d1, d2⟩ := cellsP_get R i ciR
    have hp20 := fun lo => hp2 lo 0 _ (by omega) c1
    have hp21 := fun lo => hp2 lo 1 _ (by omega) c2
    have hq20 := fun lo => hq2 lo 0 _ (by omega) d1
    have hq21 := fun lo => hq2 lo 1 _ (by omega) d2
    rw [Nat.add_zero] at hp20 hq20
    have hfi := fun (hh : Q.length = R.length) => hfirst hh i Q[i].1 Q[i].2 R[i].1 R[i].2 (List.getElem?_eq_getElem ci) (List.getElem?_eq_getElem ciR) hsame
    have hfi := hfi hlen'
    have hne : (Q[i].1 = R[i].1 ∧ Q[i].2 = R[i].2) → Q[i]? = R[i]? := fun ⟨h1, h2⟩ => by
      rw [List.getElem?_eq_getElem ci, List.getElem?_eq_getElem ciR]
      exact congrArg some (Prod.ext h1 h2)
    generalize Q[i].1 = qa at *
    generalize Q[i].2 = qb at *
    generalize R[i].1 = ra at *
    generalize R[i].2 = rb at *
    simp +decide (disch := first | assumption | exact cellV_int _ _ | exact cellV_bool _ | omega | (simp only [GH.pn, GH.sn] <;> omega) | (with_reducible ((repeat (first | apply GH.ok_push | apply GH.ok_set)); assumption)) | ((try simp only [GH.push_hid, GH.set_hid]); first | assumption | (refine GH.vis ?_ ?_ <;> first | assumption | ((try simp only [GH.pn, GH.sn]) <;> omega)))) only [go_sem, ↓reduceIte, Nat.reduceEqDiff, Nat.reduceAdd, Int.reduceToNat, Int.reduceAdd, Int.reduceNeg, Int.reduceSub, Int.reduceMul, Int.reduceLT, Int.reduceLE, Int.reduceEq, ↓GH.gp_eq, ↓GH.gp_ne, ↓GH.gs_eq, ↓GH.gs_ne, GH.push_next, GH.set_next, he, hlp, ci', hp1, hp3, hq1, hq3]
    by_cases h1 : qa = ra ∧ qb = rb
    · have hd : decide ((qa : Int) = ra) = true := decide_eq_true (by omega)
      have hd2 : decide ((qb : Int) = rb) = true := decide_eq_true (by omega)
      simp +decide (disch := first | assumption | exact cellV_int _ _ | exact cellV_bool _ | omega | (simp only [GH.pn, GH.sn] <;> omega) | (with_reducible ((repeat (first | apply GH.ok_push | apply GH.ok_set)); assumption)) | ((try simp only [GH.push_hid, GH.set_hid]); first | assumption | (refine GH.vis ?_ ?_ <;> first | assumption | ((try simp only [GH.pn, GH.sn]) <;> omega)))) only [go_sem, ↓reduceIte, Nat.reduceEqDiff, Nat.reduceAdd, Int.reduceToNat, Int.reduceAdd, Int.reduceNeg, Int.reduceSub, Int.reduceMul, Int.reduceLT, Int.reduceLE, Int.reduceEq, ↓GH.gp_eq, ↓GH.gp_ne, ↓GH.gs_eq, ↓GH.gs_ne, GH.push_next, GH.set_next, he, eqA_ne, hd, hd2]
      refine ih (m - 1) _ _ _ (by omega) ⟨hlo', hk, i + 1, by omega, (by simp +decide (disch := first | assumption | (apply GH.ok_push; assumption) | exact cellV_int _ _ | exact cellV_bool _ | omega) only [go_sem, ↓reduceIte, Nat.reduceEqDiff, Nat.reduceAdd, Int.reduceToNat, he]; first | done | exact rfl), fun j hj => ?_⟩
      rcases Nat.lt_succ_iff_lt_or_eq.1 hj with c | c
      · exact hsame j c
      · rw [c]; exact hne h1
    · have hd : (decide ((qa : Int) = ra) && decide ((qb : Int) = rb)) = false := by
        rw [Bool.and_eq_false_iff, decide_eq_false_iff_not, decide_eq_false_iff_not]; omega
      simp only [eqA_ne, hd, oV_s]
      refine envR (fun e => ev e (.s 1) = p ∧ ev e (.s 5) = o ∧ ev e (.s 9) = .int .i64 (i : Nat) ∧ ev e (.s 61) = .bool true) ?h0 (fun e he => ?_)
      case h0 => exact (by simp +decide (disch := first | assumption | (apply GH.ok_push; assumption) | exact cellV_int _ _ | exact cellV_bool _ | omega) only [go_sem, ↓reduceIte, Nat.reduceEqDiff, Nat.reduceAdd, Int.reduceToNat, he]; first | done | exact rfl)
      have hal := hX.alive g' (hT4.kept hk)
      have hfin := hfi
      by_cases f1 : (ra : Int) < qa
      · simp +decide (disch := first | assumption | exact cellV_int _ _ | exact cellV_bool _ | omega | (simp only [GH.pn, GH.sn] <;> omega) | (with_reducible ((repeat (first | apply GH.ok_push | apply GH.ok_set)); assumption)) | ((try simp only [GH.push_hid, GH.set_hid]); first | assumption | (refine GH.vis ?_ ?_ <;> first | assumption | ((try simp only [GH.pn, GH.sn]) <;> omega)))) only [go_sem, ↓reduceIte, Nat.reduceEqDiff, Nat.reduceAdd, Int.reduceToNat, Int.reduceAdd, Int.reduceNeg, Int.reduceSub, Int.reduceMul, Int.reduceLT, Int.reduceLE, Int.reduceEq, ↓GH.gp_eq, ↓GH.gp_ne, ↓GH.gs_eq, ↓GH.gs_ne, GH.push_next, GH.set_next, he, hp1, hp20, hp21, hq1, hq20, hq21, f1]
        refine CallD.calm hal ?_
        rintro v g5 hx5 rfl
        simp +decide (disch := first | assumption | exact cellV_int _ _ | exact cellV_bool _ | omega | (simp only [GH.pn, GH.sn] <;> omega) | (with_reducible ((repeat (first | apply GH.ok_push | apply GH.ok_set)); assumption)) | ((try simp only [GH.push_hid, GH.set_hid]); first | assumption | (refine GH.vis ?_ ?_ <;> first | assumption | ((try simp only [GH.pn, GH.sn]) <;> omega)))) only [go_sem, ↓reduceIte, Nat.reduceEqDiff, Nat.reduceAdd, Int.reduceToNat, Int.reduceAdd, Int.reduceNeg, Int.reduceSub, Int.reduceMul, Int.reduceLT, Int.reduceLE, Int.reduceEq, ↓GH.gp_eq, ↓GH.gp_ne, ↓GH.gs_eq, ↓GH.gs_ne, GH.push_next, GH.set_next]
        intro hx0
        exact ⟨by omega, rfl⟩
      · have f2 : (ra : Int) = qa := by omega
        have f3 : (rb : Int) < qb := by omega
        simp +decide (disch := first | assumption | exact cellV_int _ _ | exact cellV_bool _ | omega | (simp only [GH.pn, GH.sn] <;> omega) | (with_reducible ((repeat (first | apply GH.ok_push | apply GH.ok_set)); assumption)) | ((try simp only [GH.push_hid, GH.set_hid]); first | assumption | (refine GH.vis ?_ ?_ <;> first | assumption | ((try simp only [GH.pn, GH.sn]) <;> omega)))) only [go_sem, ↓reduceIte, Nat.reduceEqDiff, Nat.reduceAdd, Int.reduceToNat, Int.reduceAdd, Int.reduceNeg, Int.reduceSub, Int.reduceMul, Int.reduceLT, Int.reduceLE, Int.reduceEq, ↓GH.gp_eq, ↓GH.gp_ne, ↓GH.gs_eq, ↓GH.gs_ne, GH.push_next, GH.set_next, he, hp1, hp20, hp21, hq1, hq20, hq21, f1, f2, f3]
        refine CallD.calm hal ?_
        rintro v g5 hx5 rfl
        simp +decide (disch := first | assumption | exact cellV_int _ _ | exact cellV_bool _ | omega | (simp only [GH.pn, GH.sn] <;> omega) | (with_reducible ((repeat (first | apply GH.ok_push | apply GH.ok_set)); assumption)) | ((try simp only [GH.push_hid, GH.set_hid]); first | assumption | (refine GH.vis ?_ ?_ <;> first | assumption | ((try simp only [GH.pn, GH.sn]) <;> omega)))) only [go_sem, ↓reduceIte, Nat.reduceEqDiff, Nat.reduceAdd, Int.reduceToNat, Int.reduceAdd, Int.reduceNeg, Int.reduceSub, Int.reduceMul, Int.reduceLT, Int.reduceLE, Int.reduceEq, ↓GH.gp_eq, ↓GH.gp_ne, ↓GH.gs_eq, ↓GH.gs_ne, GH.push_next, GH.set_next]
        intro hx0
        exact ⟨by omega, rfl⟩
end Go.Proofs.YtnpapnpedcbfnaaDoor
set_option maxRecDepth 100000
set_option maxHeartbeats 4000000
set_option linter.unusedSimpArgs false
set_option linter.unusedVariables false
namespace Go.Proofs.YtnpapnpedcbfnaaDoor
open Go.Ds Go.Vs
/-! ## The answer -/
def ansF : List (Int × Int) → Int → Int
  | [], _ => -1
  | p :: P, h => if p.1 = h then p.2 else if p.2 = h then p.1 else ansF P h
def ansV (L : List Int) (P : List (Int × Int)) (h : Int) : Value := if shopB L && matI L P && (decide (0 ≤ h) && decide (h < L.length)) then .tuple #[.int .i64 (ansF P h), .int .i64 0] else .tuple #[.int .i64 0, eArg]
theorem ans_drop (P : List (Int × Int)) (i : Nat) (hi : i < P.length) (h : Int) : ansF (P.drop i) h = if P[i].1 = h then P[i].2 else if P[i].2 = h then P[i].1 else ansF (P.drop (i + 1)) h := by
  rw [List.drop_eq_getElem_cons hi]
  rfl
theorem answer_rets {X : Caller} (hX : Xfr X) (L : List Int) (hL : L.length ≤ 40) (s p : Value) (P : List (Int × Int)) (hP : P.length ≤ 1000) (h : Int) (g : GH) (hs : SlR g s (ints L)) (hp : SlQ g p 2 P.length (cellsI P)) :
    Rets Tryd.prog X 33 [s, p, .int .i64 h] g (fun v g' lo => g.next ≤ lo ∧ v = ansV L P h) := by
  have hl := hp.len
  generalize hr : ansV L P h = r
  refine Rets.run hX.pres p33 (hX.free 33 (by decide) _ _) rfl fun ho => ?_
  simp +decide (disch := first | assumption | exact cellV_int _ _ | exact cellV_bool _ | omega | (simp only [GH.pn, GH.sn] <;> omega) | (with_reducible ((repeat (first | apply GH.ok_push | apply GH.ok_set)); assumption)) | ((try simp only [GH.push_hid, GH.set_hid]); first | assumption | (refine GH.vis ?_ ?_ <;> first | assumption | ((try simp only [GH.pn, GH.sn]) <;> omega)))) only [go_sem, ↓reduceIte, Nat.reduceEqDiff, Nat.reduceAdd, Int.reduceToNat, Int.reduceAdd, Int.reduceNeg, Int.reduceSub, Int.reduceMul, Int.reduceLT, Int.reduceLE, Int.reduceEq, ↓GH.gp_eq, ↓GH.gp_ne, ↓GH.gs_eq, ↓GH.gs_ne, GH.push_next, GH.set_next]
  refine CallD.calm (IsShop_rets hX L hL s g hs) ?_
  rintro v g1 hx1 rfl
  have hn1 := hx1.next
  cases hz : shopB L with
  | false =>
    simp +decide (disch := first | assumption | exact cellV_int _ _ | exact cellV_bool _ | omega | (simp only [GH.pn, GH.sn] <;> omega) | (with_reducible ((repeat (first | apply GH.ok_push | apply GH.ok_set)); assumption)) | ((try simp only [GH.push_hid, GH.set_hid]); first | assumption | (refine GH.vis ?_ ?_ <;> first | assumption | ((try simp only [GH.pn, GH.sn]) <;> omega)))) only [go_sem, ↓reduceIte, Nat.reduceEqDiff, Nat.reduceAdd, Int.reduceToNat, Int.reduceAdd, Int.reduceNeg, Int.reduceSub, Int.reduceMul, Int.reduceLT, Int.reduceLE, Int.reduceEq, ↓GH.gp_eq, ↓GH.gp_ne, ↓GH.gs_eq, ↓GH.gs_ne, GH.push_next, GH.set_next]
    intro hx0
    exact ⟨by omega, by rw [← hr, ansV, hz]; rfl⟩
  | true =>
  simp +decide (disch := first | assumption | exact cellV_int _ _ | exact cellV_bool _ | omega | (simp only [GH.pn, GH.sn] <;> omega) | (with_reducible ((repeat (first | apply GH.ok_push | apply GH.ok_set)); assumption)) | ((try simp only [GH.push_hid, GH.set_hid]); first | assumption | (refine GH.vis ?_ ?_ <;> first | assumption | ((try simp only [GH.pn, GH.sn]) <;> omega)))) only [go_sem, ↓reduceIte, Nat.reduceEqDiff, Nat.reduceAdd, Int.reduceToNat, Int.reduceAdd, Int.reduceNeg, Int.reduceSub, Int.reduceMul, Int.reduceLT, Int.reduceLE, Int.reduceEq, ↓GH.gp_eq, ↓GH.gp_ne, ↓GH.gs_eq, ↓GH.gs_ne, GH.push_next, GH.set_next]
  refine CallD.calm (matching_rets hX L hz s p P hP g1 (hs.ext hx1) (hp.kept hx1.kept)) ?_
  rintro v g2 hx2 rfl
  have hn2 := hx2.next
  have hk2 := hx1.kept.ext hx2
  cases hm : matI L P with
  | false =>
    simp +decide (disch := first | assumption | exact cellV_int _ _ | exact cellV_bool _ | omega | (simp only [GH.pn, GH.sn] <;> omega) | (with_reducible ((repeat (first | apply GH.ok_push | apply GH.ok_set)); assumption)) | ((try simp only [GH.push_hid, GH.set_hid]); first | assumption | (refine GH.vis ?_ ?_ <;> first | assumption | ((try simp only [GH.pn, GH.sn]) <;> omega)))) only [go_sem, ↓reduceIte, Nat.reduceEqDiff, Nat.reduceAdd, Int.reduceToNat, Int.reduceAdd, Int.reduceNeg, Int.reduceSub, Int.reduceMul, Int.reduceLT, Int.reduceLE, Int.reduceEq, ↓GH.gp_eq, ↓GH.gp_ne, ↓GH.gs_eq, ↓GH.gs_ne, GH.push_next, GH.set_next]
    intro hx0
    exact ⟨by omega, by rw [← hr, ansV, hz, hm]; rfl⟩
  | true =>
  simp +decide (disch := first | assumption | exact cellV_int _ _ | exact cellV_bool _ | omega | (simp only [GH.pn, GH.sn] <;> omega) | (with_reducible ((repeat (first | apply GH.ok_push | apply GH.ok_set)); assumption)) | ((try simp only [GH.push_hid, GH.set_hid]); first | assumption | (refine GH.vis ?_ ?_ <;> first | assumption | ((try simp only [GH.pn, GH.sn]) <;> omega)))) only [go_sem, ↓reduceIte, Nat.reduceEqDiff, Nat.reduceAdd, Int.reduceToNat, Int.reduceAdd, Int.reduceNeg, Int.reduceSub, Int.reduceMul, Int.reduceLT, Int.reduceLE, Int.reduceEq, ↓GH.gp_eq, ↓GH.gp_ne, ↓GH.gs_eq, ↓GH.gs_ne, GH.push_next, GH.set_next]
  refine CallD.calm (isHat_rets hX L (by omega) h s g2 (hs.kept hk2)) ?_
  rintro v g3 hx3 rfl
  have hn3 := hx3.next
  have hk3 := hk2.ext hx3
  cases hh : (decide (0 ≤ h) && decide (h < (L.length : Int))) with
  | false =>
    simp +decide (disch := first | assumption | exact cellV_int _ _ | exact cellV_bool _ | omega | (simp only [GH.pn, GH.sn] <;> omega) | (with_reducible ((repeat (first | apply GH.ok_push | apply GH.ok_set)); assumption)) | ((try simp only [GH.push_hid, GH.set_hid]); first | assumption | (refine GH.vis ?_ ?_ <;> first | assumption | ((try simp only [GH.pn, GH.sn]) <;> omega)))) only [go_sem, ↓reduceIte, Nat.reduceEqDiff, Nat.reduceAdd, Int.reduceToNat, Int.reduceAdd, Int.reduceNeg, Int.reduceSub, Int.reduceMul, Int.reduceLT, Int.reduceLE, Int.reduceEq, ↓GH.gp_eq, ↓GH.gp_ne, ↓GH.gs_eq, ↓GH.gs_ne, GH.push_next, GH.set_next]
    intro hx0
    exact ⟨by omega, by rw [← hr, ansV, hz, hm, hh]; rfl⟩
  | true =>
  have hr : r = .tuple #[.int .i64 (ansF P h), .int .i64 0] := by rw [← hr, ansV, hz, hm, hh]; rfl
  simp +decide (disch := first | assumption | exact cellV_int _ _ | exact cellV_bool _ | omega | (simp only [GH.pn, GH.sn] <;> omega) | (with_reducible ((repeat (first | apply GH.ok_push | apply GH.ok_set)); assumption)) | ((try simp only [GH.push_hid, GH.set_hid]); first | assumption | (refine GH.vis ?_ ?_ <;> first | assumption | ((try simp only [GH.pn, GH.sn]) <;> omega)))) only [go_sem, ↓reduceIte, Nat.reduceEqDiff, Nat.reduceAdd, Int.reduceToNat, Int.reduceAdd, Int.reduceNeg, Int.reduceSub, Int.reduceMul, Int.reduceLT, Int.reduceLE, Int.reduceEq, ↓GH.gp_eq, ↓GH.gp_ne, ↓GH.gs_eq, ↓GH.gs_ne, GH.push_next, GH.set_next, hl]
  refine Wk.loops (fun m e g' lo => g.next ≤ lo ∧ Kept g g' ∧ ∃ i : Nat, i + m = P.length ∧ (ev e (.s 2) = .int .i64 h ∧ ev e (.s 25) = p ∧ ev e (.s 26) = .int .i64 (P.length : Int) ∧ ev e (.s 27) = .int .i64 (i : Nat)) ∧ ansF (P.drop i) h = ansF P h)
    (fun e g' lo => g.next ≤ lo ∧ ansF P h = -1) (n := P.length) ?_ ?_ ?_
  · exact ⟨by omega, hk3, 0, by omega, (by simp +decide (disch := first | assumption | (apply GH.ok_push; assumption) | exact cellV_int _ _ | exact cellV_bool _ | omega) only [go_sem, ↓reduceIte, Nat.reduceEqDiff, Nat.reduceAdd, Int.reduceToNat, hl]; first | done | exact rfl), rfl⟩
  · rintro e g' lo - - ⟨hlo, hq⟩
    simp +decide (disch := first | assumption | exact cellV_int _ _ | exact cellV_bool _ | omega | (simp only [GH.pn, GH.sn] <;> omega) | (with_reducible ((repeat (first | apply GH.ok_push | apply GH.ok_set)); assumption)) | ((try simp only [GH.push_hid, GH.set_hid]); first | assumption | (refine GH.vis ?_ ?_ <;> first | assumption | ((try simp only [GH.pn, GH.sn]) <;> omega)))) only [go_sem, ↓reduceIte, Nat.reduceEqDiff, Nat.reduceAdd, Int.reduceToNat, Int.reduceAdd, Int.reduceNeg, Int.reduceSub, Int.reduceMul, Int.reduceLT, Int.reduceLE, Int.reduceEq, ↓GH.gp_eq, ↓GH.gp_ne, ↓GH.gs_eq, ↓GH.gs_ne, GH.push_next, GH.set_next]
    intro hx0
    exact ⟨hlo, by rw [hr, hq]⟩
  · rintro m e g' lo ho' hl' ih out ⟨hlo, hk, i, hi, he, ha⟩
    have hkn := hk.next
    by_cases ci : i < P.length
    case neg =>
      have ci' : ¬ (i : Int) < P.length := by omega
      simp +decide (disch := first | assumption | exact cellV_int _ _ | exact cellV_bool _ | omega | (simp only [GH.pn, GH.sn] <;> omega) | (with_reducible ((repeat (first | apply GH.ok_push | apply GH.ok_set)); assumption)) | ((try simp only [GH.push_hid, GH.set_hid]); first | assumption | (refine GH.vis ?_ ?_ <;> first | assumption | ((try simp only [GH.pn, GH.sn]) <;> omega)))) only [go_sem, ↓reduceIte, Nat.reduceEqDiff, Nat.reduceAdd, Int.reduceToNat, Int.reduceAdd, Int.reduceNeg, Int.reduceSub, Int.reduceMul, Int.reduceLT, Int.reduceLE, Int.reduceEq, ↓GH.gp_eq, ↓GH.gp_ne, ↓GH.gs_eq, ↓GH.gs_ne, GH.push_next, GH.set_next, he, ci']
      have : i = P.length := by omega
      subst this
      rw [List.drop_length] at ha
      exact out _ _ _ ⟨hlo, ha.symm⟩
    have ci' : (i : Int) < P.length := by omega
    obtain ⟨j, a, hj, hp1, hp2, hp3⟩ := (hp.kept hk).ptr ci
    have hp1 := hp1 (i : Int) rfl
    rw [cellsI_drop P i ci] at hp3
    have had := ans_drop P i ci h
    rw [ha] at had
    obtain ⟨q, hq⟩ : ∃ q, P[i] = q := ⟨_, rfl⟩
    obtain ⟨x, y⟩ := q
    rw [hq] at hp3 had
    dsimp only at hp3 had
    have hg0 : (g'.push (cellsOb [.int .i64 0, .int .i64 0] 56)).get g'.next = cellsOb [.int .i64 0, .int .i64 0] 56 := (by simp (disch := first | assumption | exact cellV_int _ _ | exact cellV_bool _ | omega | (simp only [GH.pn, GH.sn] <;> omega) | (with_reducible ((repeat (first | apply GH.ok_push | apply GH.ok_set)); assumption)) | ((try simp only [GH.push_hid, GH.set_hid]); first | assumption | (refine GH.vis ?_ ?_ <;> first | assumption | ((try simp only [GH.pn, GH.sn]) <;> omega)))) only [↓GH.gp_eq, ↓GH.gp_ne, ↓GH.gs_eq, ↓GH.gs_ne, GH.push_next, GH.set_next]; first | done | exact rfl)
    have hg1 : ((g'.push (cellsOb [.int .i64 0, .int .i64 0] 56)).set g'.next (cellsOb [.int .i64 x, .int .i64 y] 56)).get g'.next = cellsOb [.int .i64 x, .int .i64 y] 56 := (by simp (disch := first | assumption | exact cellV_int _ _ | exact cellV_bool _ | omega | (simp only [GH.pn, GH.sn] <;> omega) | (with_reducible ((repeat (first | apply GH.ok_push | apply GH.ok_set)); assumption)) | ((try simp only [GH.push_hid, GH.set_hid]); first | assumption | (refine GH.vis ?_ ?_ <;> first | assumption | ((try simp only [GH.pn, GH.sn]) <;> omega)))) only [↓GH.gp_eq, ↓GH.gp_ne, ↓GH.gs_eq, ↓GH.gs_ne, GH.push_next, GH.set_next]; first | done | exact rfl)
    have hkG : Kept g ((g'.push (cellsOb [.int .i64 0, .int .i64 0] 56)).set g'.next (cellsOb [.int .i64 x, .int .i64 y] 56)) := (by (repeat' first | exact Kept.refl _ | assumption | refine Kept.push ?_ ?_ _ | refine Kept.setV ?_ ?_ ?_ _) <;> (first | assumption | exact cellV_int _ _ | exact cellV_bool _ | omega | (simp only [GH.pn, GH.sn] <;> omega) | (with_reducible ((repeat (first | apply GH.ok_push | apply GH.ok_set)); assumption)) | ((try simp only [GH.push_hid, GH.set_hid]); first | assumption | (refine GH.vis ?_ ?_ <;> first | assumption | ((try simp only [GH.pn, GH.sn]) <;> omega)))))
    have hsp : splice 0 [Value.int .i64 0, Value.int .i64 0] [Value.int .i64 x, Value.int .i64 y] = [.int .i64 x, .int .i64 y] := Eq.trans rfl rfl
    have hob : obLoad none (cellsOb [.int .i64 x, .int .i64 y] 56) 0 = some (.int .i64 x) := rfl
    have hob2 : obLoad none (cellsOb [.int .i64 x, .int .i64 y] 56) 1 = some (.int .i64 y) := rfl
    by_cases f1 : x = h
    · subst f1
      simp +decide (disch := first | assumption | (apply GH.ok_push; assumption) | exact cellV_int _ _ | exact cellV_bool _ | omega) only [go_sem, ↓reduceIte, Nat.reduceEqDiff, Nat.reduceAdd, Int.reduceToNat, he, ci', hp1, hp3, hg0, hsp, hg1, hob, hob2, oV_s]
      intro hx0
      exact ⟨by omega, by rw [hr, had, if_pos rfl]⟩
    have f1' : ¬ h = x := fun h' => f1 h'.symm
    by_cases f2 : y = h
    · subst f2
      simp +decide (disch := first | assumption | (apply GH.ok_push; assumption) | exact cellV_int _ _ | exact cellV_bool _ | omega) only [go_sem, ↓reduceIte, Nat.reduceEqDiff, Nat.reduceAdd, Int.reduceToNat, he, ci', hp1, hp3, hg0, hsp, hg1, hob, hob2, oV_s, f1']
      intro hx0
      exact ⟨by omega, by rw [hr, had, if_neg f1, if_pos rfl]⟩
    have f2' : ¬ h = y := fun h' => f2 h'.symm
    simp +decide (disch := first | assumption | (apply GH.ok_push; assumption) | exact cellV_int _ _ | exact cellV_bool _ | omega) only [go_sem, ↓reduceIte, Nat.reduceEqDiff, Nat.reduceAdd, Int.reduceToNat, he, ci', hp1, hp3, hg0, hsp, hg1, hob, hob2, oV_s, f1', f2']
    exact ih (m - 1) _ _ _ (by omega) ⟨by omega, hkG, i + 1, by omega, (by simp +decide (disch := first | assumption | (apply GH.ok_push; assumption) | exact cellV_int _ _ | exact cellV_bool _ | omega) only [go_sem, ↓reduceIte, Nat.reduceEqDiff, Nat.reduceAdd, Int.reduceToNat, he]; first | done | exact rfl), by rw [had, if_neg f1, if_neg f2]⟩
end Go.Proofs.YtnpapnpedcbfnaaDoor
set_option linter.unusedVariables false
namespace Go.Proofs.YtnpapnpedcbfnaaDoor
open Go.Vs
/-! ## The game is won by the hats that are needed -/
theorem mat_pair {A : Nat → Nat} (l : Nat) : ∀ (P : List (Nat × Nat)) (s : Nat), mat A s P = true → mat A (del s l) P = true ∨ ∃ k Q, s.testBit k = true ∧ k ≠ l ∧ s.testBit l = true ∧ ((A l).testBit k = true ∨ (A k).testBit l = true) ∧ mat A (del (del s l) k) Q = true ∧ P.length = Q.length + 1
  | [], s, _ => .inl rfl
  | (a, b) :: P, s, hm => by
    obtain ⟨h1, h2, h3, h4, h5⟩ := mat_cons hm
    have hsub : ∀ j, (del (up s a) b).testBit j = true → s.testBit j = true ∧ a < j ∧ j ≠ b := fun j hj => by
      rw [del_bit, up_bit, Bool.and_eq_true, Bool.and_eq_true] at hj
      exact ⟨hj.1.1, by simpa using hj.1.2, by simpa using hj.2⟩
    by_cases ca : a = l
    · subst ca
      refine .inr ⟨b, P, h3, by omega, h2, .inl h4, mat_mono P (fun j hj => ?_) h5, rfl⟩
      obtain ⟨q1, q2, q3⟩ := hsub j hj
      rw [del_bit, del_bit, q1]; simp [q3]; omega
    by_cases cb : b = l
    · subst cb
      refine .inr ⟨a, P, h2, ca, h3, .inr h4, mat_mono P (fun j hj => ?_) h5, rfl⟩
      obtain ⟨q1, q2, q3⟩ := hsub j hj
      rw [del_bit, del_bit, q1]; simp [q3]; omega
    rcases mat_pair l P _ h5 with h | ⟨k, Q, k1, k2, k3, k4, k5, k6⟩
    · refine .inl (mat_mk h1 (by rw [del_bit, h2]; simp [ca]) (by rw [del_bit, h3]; simp [cb]) h4 (mat_mono P (fun j hj => ?_) h))
      rw [del_bit, del_bit, up_bit] at hj
      rw [del_bit, up_bit, del_bit]
      simp only [Bool.and_eq_true] at hj ⊢
      exact ⟨⟨⟨hj.1.1.1, hj.2⟩, hj.1.1.2⟩, hj.1.2⟩
    · obtain ⟨q1, q2, q3⟩ := hsub k k1
      obtain ⟨p1, p2, p3⟩ := hsub l k3
      refine .inr ⟨k, (a, b) :: Q, q1, k2, p1, k4, mat_mk h1 ?_ ?_ h4 (mat_mono Q (fun j hj => ?_) k5), by simp [k6]⟩
      · rw [del_bit, del_bit, h2]; simp; omega
      · rw [del_bit, del_bit, h3]; simp; omega
      · rw [del_bit, del_bit, del_bit, up_bit] at hj
        rw [del_bit, up_bit, del_bit, del_bit]
        simp only [Bool.and_eq_true] at hj ⊢
        exact ⟨⟨⟨⟨hj.1.1.1.1, hj.1.2⟩, hj.2⟩, hj.1.1.1.2⟩, hj.1.1.2⟩
/-- A pair is put into a matching. -/
theorem mat_put {A : Nat → Nat} {x y : Nat} (hxy : x < y) (hA : (A x).testBit y = true) : ∀ (P : List (Nat × Nat)) (s : Nat), s.testBit x = true → s.testBit y = true → mat A (del (del s x) y) P = true → ∃ Q, mat A s Q = true ∧ Q.length = P.length + 1
  | [], s, hx, hy, _ => ⟨[(x, y)], mat_mk hxy hx hy hA rfl, rfl⟩
  | (a, b) :: P, s, hx, hy, hm => by
    obtain ⟨h1, h2, h3, h4, h5⟩ := mat_cons hm
    rw [del_bit, del_bit] at h2 h3
    simp only [Bool.and_eq_true, Bool.not_eq_true', decide_eq_false_iff_not] at h2 h3
    obtain ⟨⟨a1, a2⟩, a3⟩ := h2
    obtain ⟨⟨b1, b2⟩, b3⟩ := h3
    by_cases c : x < a
    · refine ⟨(x, y) :: (a, b) :: P, mat_mk hxy hx hy hA (mat_mk h1 ?_ ?_ h4 (mat_mono P (fun j hj => ?_) h5)), rfl⟩
      · rw [del_bit, up_bit, a1]; simp [c, a3]
      · rw [del_bit, up_bit, b1]; simp [b3]; omega
      · rw [del_bit, up_bit, del_bit, del_bit] at hj
        rw [del_bit, up_bit, del_bit, up_bit]
        simp only [Bool.and_eq_true, decide_eq_true_eq, Bool.not_eq_true', decide_eq_false_iff_not] at hj ⊢
        obtain ⟨⟨⟨⟨j1, j2⟩, j3⟩, j4⟩, j5⟩ := hj
        exact ⟨⟨⟨⟨j1, by omega⟩, j3⟩, j4⟩, j5⟩
    · have hax : a < x := by omega
      obtain ⟨Q, q1, q2⟩ := mat_put hxy hA P (del (up s a) b) (by rw [del_bit, up_bit, hx]; simp [hax]; omega) (by rw [del_bit, up_bit, hy]; simp; omega) (mat_mono P (fun j hj => by
        rw [del_bit, up_bit, del_bit, del_bit] at hj
        rw [del_bit, del_bit, del_bit, up_bit]
        simp only [Bool.and_eq_true] at hj ⊢
        exact ⟨⟨⟨⟨hj.1.1.1.1, hj.1.2⟩, hj.2⟩, hj.1.1.1.2⟩, hj.1.1.2⟩) h5)
      exact ⟨(a, b) :: Q, mat_mk h1 a1 b1 h4 q1, by simp [q2]⟩
/-- A shop: who goes with whom is said on both sides, and nobody goes with themselves. -/
structure Sym (A : Nat → Nat) (n : Nat) : Prop where
  sym : ∀ i k, i < n → k < n → (A i).testBit k = (A k).testBit i
  irr : ∀ i, i < n → (A i).testBit i = false
theorem best_pairs {A : Nat → Nat} {n : Nat} (hA : Sym A n) {s x y : Nat} (hs : s < 2 ^ n) (hx : s.testBit x = true) (hy : s.testBit y = true) (hxy : (A x).testBit y = true) : best A n (del (del s x) y) + 1 ≤ best A n s := by
  have hxn := bit_lt hs hx
  have hyn := bit_lt hs hy
  have hne : x ≠ y := by rintro rfl; rw [hA.irr x hxn] at hxy; cases hxy
  have hm := lrg_mat A n (del (del s x) y)
  have hlen := lrg_len A n (del (del s x) y)
  rcases Nat.lt_or_gt_of_ne hne with c | c
  · obtain ⟨Q, q1, q2⟩ := mat_put c hxy _ s hx hy hm
    have := mat_le s hs Q q1
    omega
  · have hd : del (del s x) y = del (del s y) x := by
      apply Nat.eq_of_testBit_eq
      intro j
      rw [del_bit, del_bit, del_bit, del_bit, Bool.and_assoc, Bool.and_comm (!decide (j = x)), ← Bool.and_assoc]
    rw [hd] at hm hlen ⊢
    obtain ⟨Q, q1, q2⟩ := mat_put c (by rw [hA.sym y x hyn hxn]; exact hxy) _ s hy hx hm
    have := mat_le s hs Q q1
    omega
theorem best_one {A : Nat → Nat} {n : Nat} (hA : Sym A n) {s l : Nat} (hs : s < 2 ^ n) (hl : s.testBit l = true) :
    best A n (del s l) < best A n s ↔ ∃ k, s.testBit k = true ∧ (A l).testBit k = true ∧ best A n (del (del s l) k) = best A n (del s l) := by
  have hln := bit_lt hs hl
  constructor
  · intro h
    have hm := lrg_mat A n s
    have hlen := lrg_len A n s
    rcases mat_pair l _ s hm with h1 | ⟨k, Q, k1, k2, k3, k4, k5, k6⟩
    · have := mat_le _ (del_lt hs) _ h1
      omega
    · have hkn := bit_lt hs k1
      have h2 := mat_le _ (del_lt (del_lt hs)) Q k5
      have h3 := best_del_le A n k (del_lt (k := l) hs)
      refine ⟨k, k1, ?_, by omega⟩
      rcases k4 with h | h
      · exact h
      · rw [hA.sym l k hln hkn]; exact h
  · rintro ⟨k, k1, k2, k3⟩
    have := best_pairs hA hs hl k1 k2
    omega
/-- The hats that are not visited, and the last one. -/
def free (n v : Nat) : Nat := andn (allN n) v
theorem free_bit {n v : Nat} (hn : n ≤ 10) (hv : v < 2 ^ n) (j : Nat) : (free n v).testBit j = (decide (j < n) && !v.testBit j) := by
  have hp : 2 ^ n ≤ 1024 := Nat.pow_le_pow_right (by decide) hn
  unfold free
  by_cases hk : j < 64
  · rw [andn_bit (by omega) hk, all_bit]
  · have h1 : andn (allN n) v < 2 ^ j := Nat.lt_of_le_of_lt (andn_le _ _) (Nat.lt_of_lt_of_le (all_lt n) (Nat.pow_le_pow_right (by decide) (by omega)))
    rw [Nat.testBit_lt_two_pow h1, decide_eq_false (by omega)]; rfl
theorem won_needed {A : Nat → Nat} {n : Nat} (hn : n ≤ 10) (hA : Sym A n) : ∀ (u v l s : Nat), un n v = u → v < 2 ^ n → l < n → v.testBit l = true → (∀ j, s.testBit j = (decide (j < n) && (!v.testBit j || decide (j = l)))) → won A n v l = decide (best A n (del s l) < best A n s) := by
  intro u
  induction u using Nat.strongRecOn with
  | ind u ih =>
  intro v l s hu hv hl hb hs
  have hsn : s < 2 ^ n := by
    apply Nat.lt_pow_two_of_testBit
    intro i hi
    rw [hs, decide_eq_false (by omega)]; rfl
  have hsl : s.testBit l = true := by rw [hs, decide_eq_true hl]; simp
  have hd : ∀ j, (del s l).testBit j = (decide (j < n) && !v.testBit j) := fun j => by
    rw [del_bit, hs]
    by_cases c : j = l
    · subst c; rw [hb]; simp
    · simp [c]
  have key : ∀ k, k < n → v.testBit k = false → won A n (v ||| 2 ^ k) k = decide (best A n (del (del s l) k) < best A n (del s l)) := fun k hk hvk => by
    refine ih _ (by have := un_pos hk hvk; omega) (v ||| 2 ^ k) k (del s l) rfl (or_lt hv hk) hk (by rw [Nat.testBit_or, Nat.testBit_two_pow]; simp) (fun j => ?_)
    rw [hd, Nat.testBit_or, Nat.testBit_two_pow]
    by_cases c : j = k
    · subst c; rw [hvk]; simp
    · have c' : ¬ k = j := fun h => c h.symm
      simp [c, c']
  rw [won_eq, Bool.eq_iff_iff, List.any_eq_true, decide_eq_true_eq, best_one hA hsn hsl]
  constructor
  · rintro ⟨k, hk, hg⟩
    have hk := List.mem_range.1 hk
    unfold good at hg
    rw [Bool.and_eq_true, Bool.and_eq_true, Bool.not_eq_true', Bool.not_eq_true'] at hg
    obtain ⟨⟨g1, g2⟩, g3⟩ := hg
    rw [key k hk g2, decide_eq_false_iff_not] at g3
    have := best_del_le A n k (del_lt (k := l) hsn)
    exact ⟨k, by rw [hs, decide_eq_true hk, g2]; rfl, g1, by omega⟩
  · rintro ⟨k, k1, k2, k3⟩
    have hk := bit_lt hsn k1
    have hkl : k ≠ l := by rintro rfl; rw [hA.irr k hk] at k2; cases k2
    have hvk : v.testBit k = false := by
      rw [hs, decide_eq_true hk, decide_eq_false hkl] at k1
      simpa using k1
    refine ⟨k, List.mem_range.2 hk, ?_⟩
    unfold good
    rw [k2, hvk, key k hk hvk, decide_eq_false (by omega)]
    rfl
end Go.Proofs.YtnpapnpedcbfnaaDoor
set_option linter.unusedVariables false
namespace Go.Proofs.YtnpapnpedcbfnaaDoor
open Go.Vs
/-! ## Led through the game by a largest matching -/
def inS (s : Nat) (p : Nat × Nat) : Bool := s.testBit p.1 && s.testBit p.2
theorem mat_filter {A : Nat → Nat} : ∀ (P : List (Nat × Nat)) (t s : Nat), mat A t P = true → mat A s (P.filter (inS s)) = true
  | [], _, _, _ => rfl
  | (a, b) :: P, t, s, h => by
    obtain ⟨h1, h2, h3, h4, h5⟩ := mat_cons h
    have ih := fun s => mat_filter P _ s h5
    rw [List.filter_cons]
    cases c : inS s (a, b) with
    | false => rw [if_neg (by simp)]; exact ih s
    | true =>
      rw [if_pos rfl]
      unfold inS at c
      rw [Bool.and_eq_true] at c
      refine mat_mk h1 c.1 c.2 h4 ?_
      have e : P.filter (inS s) = P.filter (inS (del (up s a) b)) := List.filter_congr fun q hq => by
        obtain ⟨q1, q2⟩ := mat_mem P h5 q hq
        rw [del_bit, up_bit, Bool.and_eq_true, Bool.and_eq_true] at q1 q2
        unfold inS
        rw [del_bit, up_bit, del_bit, up_bit, q1.1.2, q1.2, q2.1.2, q2.2]
        simp
      rw [e]
      exact ih _
theorem mat_cut {A : Nat → Nat} : ∀ (P : List (Nat × Nat)) (t s : Nat) (p : Nat × Nat), mat A t P = true → p ∈ P → inS s p = true → (P.filter (inS s)).length = (P.filter (inS (del (del s p.1) p.2))).length + 1
  | [], _, _, _, _, h, _ => by cases h
  | (a, b) :: P, t, s, p, h, hp, hi => by
    obtain ⟨h1, h2, h3, h4, h5⟩ := mat_cons h
    have hmem : ∀ q ∈ P, a < q.1 ∧ q.1 ≠ b ∧ a < q.2 ∧ q.2 ≠ b := fun q hq => by
      obtain ⟨q1, q2⟩ := mat_mem P h5 q hq
      rw [del_bit, up_bit] at q1 q2
      simp only [Bool.and_eq_true, decide_eq_true_eq, Bool.not_eq_true', decide_eq_false_iff_not] at q1 q2
      exact ⟨q1.1.2, q1.2, q2.1.2, q2.2⟩
    rcases List.mem_cons.1 hp with rfl | hp
    · have e : P.filter (inS s) = P.filter (inS (del (del s a) b)) := List.filter_congr fun q hq => by
        obtain ⟨m1, m2, m3, m4⟩ := hmem q hq
        unfold inS
        rw [del_bit, del_bit, del_bit, del_bit, decide_eq_false (show ¬ q.1 = a by omega), decide_eq_false m2, decide_eq_false (show ¬ q.2 = a by omega), decide_eq_false m4]
        simp
      have hno : inS (del (del s a) b) (a, b) = false := by
        unfold inS
        rw [del_bit, del_bit, del_bit, del_bit]; simp
      rw [List.filter_cons, List.filter_cons, if_pos hi, hno, if_neg (by simp), List.length_cons, e]
    · have ih := mat_cut P _ s p h5 hp hi
      obtain ⟨m1, m2, m3, m4⟩ := hmem p hp
      have e : inS (del (del s p.1) p.2) (a, b) = inS s (a, b) := by
        unfold inS
        rw [del_bit, del_bit, del_bit, del_bit, decide_eq_false (show ¬ a = p.1 by omega), decide_eq_false (show ¬ b = p.1 from fun h => m2 h.symm), decide_eq_false (show ¬ a = p.2 by omega), decide_eq_false (show ¬ b = p.2 from fun h => m4 h.symm)]
        simp
      rw [List.filter_cons, List.filter_cons, e]
      split
      · rw [List.length_cons, List.length_cons, ih]
      · exact ih
theorem mat_ans {A : Nat → Nat} : ∀ (P : List (Nat × Nat)) (t : Nat) (p : Nat × Nat), mat A t P = true → p ∈ P → ansF (toI P) (p.1 : Int) = (p.2 : Int) ∧ ansF (toI P) (p.2 : Int) = (p.1 : Int)
  | [], _, _, _, h => by cases h
  | (a, b) :: P, t, p, h, hp => by
    obtain ⟨h1, h2, h3, h4, h5⟩ := mat_cons h
    have hc : ∀ x : Int, ansF (toI ((a, b) :: P)) x = if (a : Int) = x then (b : Int) else if (b : Int) = x then (a : Int) else ansF (toI P) x := fun _ => rfl
    rw [hc, hc]
    rcases List.mem_cons.1 hp with rfl | hp
    · rw [if_pos rfl]
      refine ⟨rfl, ?_⟩
      rw [if_neg (by omega), if_pos rfl]
    · obtain ⟨q1, q2⟩ := mat_mem P h5 p hp
      rw [del_bit, up_bit] at q1 q2
      simp only [Bool.and_eq_true, decide_eq_true_eq, Bool.not_eq_true', decide_eq_false_iff_not] at q1 q2
      have ih := mat_ans P _ p h5 hp
      rw [if_neg (by omega), if_neg (by omega), if_neg (by omega), if_neg (by omega)]
      exact ih
theorem mat_adj {A : Nat → Nat} : ∀ (P : List (Nat × Nat)) (t : Nat) (p : Nat × Nat), mat A t P = true → p ∈ P → (A p.1).testBit p.2 = true
  | [], _, _, _, h => by cases h
  | (a, b) :: P, t, p, h, hp => by
    obtain ⟨h1, h2, h3, h4, h5⟩ := mat_cons h
    rcases List.mem_cons.1 hp with rfl | hp
    · exact h4
    · exact mat_adj P _ p h5 hp
theorem mat_asc {A : Nat → Nat} : ∀ (P : List (Nat × Nat)) (t : Nat) (p : Nat × Nat), mat A t P = true → p ∈ P → p.1 < p.2
  | [], _, _, _, h => by cases h
  | (a, b) :: P, t, p, h, hp => by
    obtain ⟨h1, h2, h3, h4, h5⟩ := mat_cons h
    rcases List.mem_cons.1 hp with rfl | hp
    · exact h1
    · exact mat_asc P _ p h5 hp
/-- One round: the answer to the hat last visited; whatever the other one does then, the same holds. -/
theorem led_step {A : Nat → Nat} {n : Nat} (hA : Sym A n) {M : List (Nat × Nat)} {t s l : Nat} (hM : mat A t M = true) (hs : s < 2 ^ n) (hl : s.testBit l = true) (h1 : (M.filter (inS s)).length = best A n s) (h2 : best A n (del s l) < best A n s) :
    ∃ a : Nat, ansF (toI M) (l : Int) = (a : Int) ∧ s.testBit a = true ∧ a ≠ l ∧ (A l).testBit a = true ∧
      (M.filter (inS (del (del s l) a))).length = best A n (del (del s l) a) ∧ best A n (del (del s l) a) + 1 = best A n s ∧
      ∀ k, s.testBit k = true → k ≠ l → k ≠ a → (A a).testBit k = true → best A n (del (del (del s l) a) k) < best A n (del (del s l) a) := by
  have hln := bit_lt hs hl
  -- the hat is in a pair
  obtain ⟨p, hp, hin, hpl⟩ : ∃ p, p ∈ M ∧ inS s p = true ∧ (p.1 = l ∨ p.2 = l) := by
    rcases Classical.em (∃ p, p ∈ M ∧ inS s p = true ∧ (p.1 = l ∨ p.2 = l)) with h | h
    · exact h
    · exfalso
      have e : M.filter (inS s) = M.filter (inS (del s l)) := List.filter_congr fun q hq => by
        have hno : ¬ (inS s q = true ∧ (q.1 = l ∨ q.2 = l)) := fun hc => h ⟨q, hq, hc⟩
        cases c : inS s q with
        | false =>
          unfold inS at c ⊢
          rw [del_bit, del_bit]
          rw [Bool.and_eq_false_iff] at c
          rcases c with c | c <;> rw [c] <;> simp
        | true =>
          have hne : ¬ (q.1 = l ∨ q.2 = l) := fun hc => hno ⟨c, hc⟩
          unfold inS at c ⊢
          rw [Bool.and_eq_true] at c
          rw [del_bit, del_bit, c.1, c.2, decide_eq_false (fun hc => hne (.inl hc)), decide_eq_false (fun hc => hne (.inr hc))]
          rfl
      have h3 := mat_le _ (del_lt hs) _ (mat_filter M t (del s l) hM)
      rw [← e] at h3
      omega
  have hcut := mat_cut M t s p hM hp hin
  obtain ⟨ans1, ans2⟩ := mat_ans M t p hM hp
  have hAp : (A p.1).testBit p.2 = true := mat_adj M t p hM hp
  have hne : p.1 < p.2 := mat_asc M t p hM hp
  unfold inS at hin
  rw [Bool.and_eq_true] at hin
  have hfin : ∀ a, s.testBit a = true → a ≠ l → (A l).testBit a = true → (M.filter (inS s)).length = (M.filter (inS (del (del s l) a))).length + 1 →
      (M.filter (inS (del (del s l) a))).length = best A n (del (del s l) a) ∧ best A n (del (del s l) a) + 1 = best A n s ∧ ∀ k, s.testBit k = true → k ≠ l → k ≠ a → (A a).testBit k = true → best A n (del (del (del s l) a) k) < best A n (del (del s l) a) := fun a ha hal hAl hc => by
    have h3 := mat_le _ (del_lt (del_lt (k := l) hs) (k := a)) _ (mat_filter M t (del (del s l) a) hM)
    have h4 := best_del_le A n a (del_lt (k := l) hs)
    refine ⟨by omega, by omega, fun k hk hkl hka hAk => ?_⟩
    have h5 := best_pairs hA (s := del s l) (x := a) (y := k) (del_lt hs) (by rw [del_bit, ha, decide_eq_false hal]; rfl) (by rw [del_bit, hk, decide_eq_false hkl]; rfl) hAk
    have h6 := best_del_le A n k (del_lt (k := a) (del_lt (k := l) hs))
    omega
  rcases hpl with rfl | rfl
  · exact ⟨p.2, ans1, hin.2, by omega, hAp, hfin p.2 hin.2 (by omega) hAp hcut⟩
  · have hsw : del (del s p.1) p.2 = del (del s p.2) p.1 := by
      apply Nat.eq_of_testBit_eq
      intro j
      rw [del_bit, del_bit, del_bit, del_bit, Bool.and_assoc, Bool.and_comm (!decide (j = p.1)), ← Bool.and_assoc]
    rw [hsw] at hcut
    have hAp' : (A p.2).testBit p.1 = true := by rw [hA.sym p.2 p.1 (bit_lt hs hin.2) (bit_lt hs hin.1)]; exact hAp
    exact ⟨p.1, ans2, hin.1, by omega, hAp', hfin p.1 hin.1 (by omega) hAp' hcut⟩
end Go.Proofs.YtnpapnpedcbfnaaDoor
set_option linter.unusedVariables false
namespace Go.Proofs.YtnpapnpedcbfnaaDoor
open Go.Vs
theorem begF_bit (A : Nat → Nat) (n j : Nat) : ∀ i, (begF A n i).testBit j = (decide (j < i) && !won A n (2 ^ j) j)
  | 0 => by unfold begF; simp
  | i + 1 => by
    have ih := begF_bit A n j i
    unfold begF
    by_cases c : won A n (2 ^ i) i = true
    · rw [if_pos c, ih]
      by_cases cj : i = j
      · subst cj; rw [c]; simp
      · rw [show decide (j < i + 1) = decide (j < i) from decide_eq_decide.2 (by omega)]
    · rw [if_neg c, Nat.testBit_or, Nat.testBit_two_pow, ih]
      rw [Bool.not_eq_true] at c
      by_cases cj : i = j
      · subst cj; rw [c]; simp
      · rw [decide_eq_false cj, Bool.or_false, show decide (j < i + 1) = decide (j < i) from decide_eq_decide.2 (by omega)]
theorem won_one {A : Nat → Nat} {n : Nat} (hn : n ≤ 10) (hA : Sym A n) {l : Nat} (hl : l < n) : won A n (2 ^ l) l = (needF A n n).testBit l := by
  rw [needF_bit, decide_eq_true hl, Bool.true_and]
  refine won_needed hn hA _ (2 ^ l) l (allN n) rfl (Nat.pow_lt_pow_right (by decide) hl) hl (by rw [Nat.testBit_two_pow]; simp) (fun j => ?_)
  rw [all_bit, Nat.testBit_two_pow]
  by_cases c : j = l
  · subst c; simp
  · have c' : ¬ l = j := fun h => c h.symm
    simp [c, c']
/-- The hats with which the one who begins wins are those that are not needed. -/
theorem beg_need {A : Nat → Nat} {n : Nat} (hn : n ≤ 10) (hA : Sym A n) : begF A n n = 2 ^ n - (needF A n n + 1) := by
  apply Nat.eq_of_testBit_eq
  intro j
  rw [begF_bit, Nat.testBit_two_pow_sub_succ (needF_lt A n n)]
  by_cases c : j < n
  · rw [won_one hn hA c]
  · rw [decide_eq_false c]; rfl
theorem mat_len {A : Nat → Nat} {n : Nat} : ∀ (P : List (Nat × Nat)) (s c : Nat), c ≤ n → mat A s P = true → (∀ j, s.testBit j = true → c ≤ j ∧ j < n) → c + P.length ≤ n
  | [], _, c, h, _, _ => h
  | (a, b) :: P, s, c, h, hm, hs => by
    obtain ⟨h1, h2, h3, h4, h5⟩ := mat_cons hm
    have ha := hs a h2
    have ih := mat_len (n := n) P _ (a + 1) (by omega) h5 (fun j hj => by
      rw [del_bit, up_bit] at hj
      simp only [Bool.and_eq_true, decide_eq_true_eq] at hj
      exact ⟨by omega, (hs j hj.1.1).2⟩)
    rw [List.length_cons]
    omega
theorem best_le {A : Nat → Nat} {n s : Nat} (hs : s < 2 ^ n) : best A n s ≤ n := by
  have := mat_len (n := n) _ s 0 (Nat.zero_le _) (lrg_mat A n s) (fun j hj => ⟨Nat.zero_le _, bit_lt hs hj⟩)
  rw [lrg_len] at this
  omega
theorem scan_of {L : List Int} : ∀ (P : List (Nat × Nat)) (s tk : Nat) (last : Int), mat (setF L) s P = true → (∀ j, s.testBit j = true → last < (j : Int) ∧ tk.testBit j = false ∧ j < L.length) → scanM L (toI P) last tk = true
  | [], _, _, _, _, _ => rfl
  | (a, b) :: P, s, tk, last, hm, hs => by
    obtain ⟨h1, h2, h3, h4, h5⟩ := mat_cons hm
    obtain ⟨a1, a2, a3⟩ := hs a h2
    obtain ⟨b1, b2, b3⟩ := hs b h3
    have ih := scan_of P _ (tk ||| 2 ^ a ||| 2 ^ b) (a : Int) h5 (fun j hj => by
      rw [del_bit, up_bit] at hj
      simp only [Bool.and_eq_true, decide_eq_true_eq, Bool.not_eq_true', decide_eq_false_iff_not] at hj
      obtain ⟨j1, j2, j3⟩ := hs j hj.1.1
      refine ⟨by omega, ?_, j3⟩
      rw [Nat.testBit_or, Nat.testBit_or, Nat.testBit_two_pow, Nat.testBit_two_pow, j2, decide_eq_false (by omega), decide_eq_false (fun h => hj.2 h.symm)]
      rfl)
    show (goodP L last tk (a : Int) (b : Int) && scanM L (toI P) (a : Int) (tk ||| 2 ^ (a : Int).toNat ||| 2 ^ (b : Int).toNat)) = true
    have e1 : (a : Int).toNat = a := rfl
    have e2 : (b : Int).toNat = b := rfl
    rw [e1, e2, ih, Bool.and_true]
    unfold goodP
    rw [e1, e2, decide_eq_true a1, decide_eq_true (show (a : Int) < b by omega), decide_eq_true (show (b : Int) < L.length by omega), h4, a2, b2]
    rfl
theorem matI_of {L : List Int} (P : List (Nat × Nat)) (hm : mat (setF L) (allN L.length) P = true) : matI L (toI P) = true :=
  scan_of P (allN L.length) 0 (-1) hm (fun j hj => ⟨by omega, by simp, by
    rw [all_bit] at hj; simpa using hj⟩)
theorem sym_of {L : List Int} (h : shopB L = true) : Sym (setF L) L.length := by
  obtain ⟨hL1, hL10, hA⟩ := shop_ok h
  exact ⟨fun i k hi hk => (hA i hi).2.2.2 k hk, fun i hi => (hA i hi).2.2.1⟩
end Go.Proofs.YtnpapnpedcbfnaaDoor
set_option maxRecDepth 100000
set_option maxHeartbeats 4000000
set_option linter.unusedSimpArgs false
set_option linter.unusedVariables false
namespace Go.Proofs.YtnpapnpedcbfnaaDoor
open Go.Ds Go.Vs
theorem rem_nat (x k : Nat) : ((x : Int) / 2 ^ k).tmod 2 = b01 (x.testBit k) := by
  have := rem_fact (x := (x : Int)) (by omega) k
  rw [bitI_nat] at this
  exact this
theorem refMatching_rets {X : Caller} (hX : Xfr X) (L : List Int) (hL : shopB L = true) (s p : Value) (P : List (Int × Int)) (hP : P.length ≤ 1000) (g : GH) (hs : SlR g s (ints L)) (hp : SlQ g p 2 P.length (cellsI P)) :
    Rets Tryd.prog X 49 [s, p] g (fun v g' lo => g.next ≤ lo ∧ v = .bool (matI L P)) := by
  obtain ⟨hL1, hL10, hA⟩ := shop_ok hL
  have hl := hp.len
  have hls := hs.len
  rw [ints_len] at hls
  generalize hr : matI L P = r
  refine Rets.run hX.pres p49 (hX.free 49 (by decide) _ _) rfl fun ho => ?_
  simp +decide (disch := first | assumption | exact cellV_int _ _ | exact cellV_bool _ | omega | (simp only [GH.pn, GH.sn] <;> omega) | (with_reducible ((repeat (first | apply GH.ok_push | apply GH.ok_set)); assumption)) | ((try simp only [GH.push_hid, GH.set_hid]); first | assumption | (refine GH.vis ?_ ?_ <;> first | assumption | ((try simp only [GH.pn, GH.sn]) <;> omega)))) only [go_sem, ↓reduceIte, Nat.reduceEqDiff, Nat.reduceAdd, Int.reduceToNat, Int.reduceAdd, Int.reduceNeg, Int.reduceSub, Int.reduceMul, Int.reduceLT, Int.reduceLE, Int.reduceEq, ↓GH.gp_eq, ↓GH.gp_ne, ↓GH.gs_eq, ↓GH.gs_ne, GH.push_next, GH.set_next, hl]
  refine Wk.loops (fun m e g' lo => g.next ≤ lo ∧ Kept g g' ∧ ∃ i : Nat, i + m = P.length ∧ (ev e (.s 0) = s ∧ ev e (.s 1) = p ∧ ev e (.s 6) = .int .i64 (i : Nat) ∧ ev e (.s 5) = .int .i64 (tkn (P.take i) 0 : Nat)) ∧ matI L (P.take i) = true)
    (fun e g' lo => g.next ≤ lo ∧ r = true) (n := P.length) ?_ ?_ ?_
  · refine ⟨Nat.le_refl _, Kept.refl _, 0, by omega, ?_, rfl⟩
    rw [List.take_zero]
    show _ ∧ _ ∧ _ ∧ _ = Value.int .i64 0
    exact (by simp +decide (disch := first | assumption | (apply GH.ok_push; assumption) | exact cellV_int _ _ | exact cellV_bool _ | omega) only [go_sem, ↓reduceIte, Nat.reduceEqDiff, Nat.reduceAdd, Int.reduceToNat, hl]; first | done | exact rfl)
  · rintro e g' lo - - ⟨hlo, h⟩
    simp +decide (disch := first | assumption | exact cellV_int _ _ | exact cellV_bool _ | omega | (simp only [GH.pn, GH.sn] <;> omega) | (with_reducible ((repeat (first | apply GH.ok_push | apply GH.ok_set)); assumption)) | ((try simp only [GH.push_hid, GH.set_hid]); first | assumption | (refine GH.vis ?_ ?_ <;> first | assumption | ((try simp only [GH.pn, GH.sn]) <;> omega)))) only [go_sem, ↓reduceIte, Nat.reduceEqDiff, Nat.reduceAdd, Int.reduceToNat, Int.reduceAdd, Int.reduceNeg, Int.reduceSub, Int.reduceMul, Int.reduceLT, Int.reduceLE, Int.reduceEq, ↓GH.gp_eq, ↓GH.gp_ne, ↓GH.gs_eq, ↓GH.gs_ne, GH.push_next, GH.set_next]
    intro hx0
    exact ⟨hlo, by rw [h]⟩
  · rintro m e g' lo ho' hl' ih out ⟨hlo, hk, i, hi, he, hm⟩
    have hkn := hk.next
    by_cases ci : i < P.length
    case neg =>
      have ci' : ¬ (i : Int) < P.length := by omega
      simp +decide (disch := first | assumption | exact cellV_int _ _ | exact cellV_bool _ | omega | (simp only [GH.pn, GH.sn] <;> omega) | (with_reducible ((repeat (first | apply GH.ok_push | apply GH.ok_set)); assumption)) | ((try simp only [GH.push_hid, GH.set_hid]); first | assumption | (refine GH.vis ?_ ?_ <;> first | assumption | ((try simp only [GH.pn, GH.sn]) <;> omega)))) only [go_sem, ↓reduceIte, Nat.reduceEqDiff, Nat.reduceAdd, Int.reduceToNat, Int.reduceAdd, Int.reduceNeg, Int.reduceSub, Int.reduceMul, Int.reduceLT, Int.reduceLE, Int.reduceEq, ↓GH.gp_eq, ↓GH.gp_ne, ↓GH.gs_eq, ↓GH.gs_ne, GH.push_next, GH.set_next, he, ci', hl]
      have : i = P.length := by omega
      subst this
      rw [List.take_length] at hm
      exact out _ _ _ ⟨hlo, by rw [← hr, hm]⟩
    have ci' : (i : Int) < P.length := by omega
    obtain ⟨j, a, hj, hp1, hp2, hp3⟩ := (hp.kept hk).ptr ci
    have hp1 := hp1 (i : Int) rfl
    rw [cellsI_drop P i ci] at hp3
    have hbad := mat_bad L P i ci
    have htk := mat_take L P i ci
    rw [hm, Bool.true_and] at htk
    have htt := take_tkn P i ci
    obtain ⟨hv1, hv2, hv3⟩ := mat_inv hL10 _ hm
    have hla0 : i = 0 → lastM (P.take i) = -1 := by rintro rfl; rfl
    have hlas : 0 < i → ∃ (h : i - 1 < P.length), lastM (P.take i) = P[i - 1].1 := fun h => by
      obtain ⟨k, rfl⟩ : ∃ k, i = k + 1 := ⟨i - 1, by omega⟩
      exact ⟨by omega, take_last P k (by omega)⟩
    obtain ⟨q, hq⟩ : ∃ q, P[i] = q := ⟨_, rfl⟩
    obtain ⟨x, y⟩ := q
    rw [hq] at hp3 hbad htk htt
    dsimp only at hp3 hbad htk htt
    generalize hla : lastM (P.take i) = la at *
    generalize htka : tkn (P.take i) 0 = tk at *
    have hg0 : (g'.push (cellsOb [.int .i64 0, .int .i64 0] 56)).get g'.next = cellsOb [.int .i64 0, .int .i64 0] 56 := (by simp (disch := first | assumption | exact cellV_int _ _ | exact cellV_bool _ | omega | (simp only [GH.pn, GH.sn] <;> omega) | (with_reducible ((repeat (first | apply GH.ok_push | apply GH.ok_set)); assumption)) | ((try simp only [GH.push_hid, GH.set_hid]); first | assumption | (refine GH.vis ?_ ?_ <;> first | assumption | ((try simp only [GH.pn, GH.sn]) <;> omega)))) only [↓GH.gp_eq, ↓GH.gp_ne, ↓GH.gs_eq, ↓GH.gs_ne, GH.push_next, GH.set_next]; first | done | exact rfl)
    have hgL : ((g'.push (cellsOb [.int .i64 0, .int .i64 0] 56)).set g'.next (cellsOb [.int .i64 x, .int .i64 y] 56)).get g'.next = cellsOb [.int .i64 x, .int .i64 y] 56 := (by simp (disch := first | assumption | exact cellV_int _ _ | exact cellV_bool _ | omega | (simp only [GH.pn, GH.sn] <;> omega) | (with_reducible ((repeat (first | apply GH.ok_push | apply GH.ok_set)); assumption)) | ((try simp only [GH.push_hid, GH.set_hid]); first | assumption | (refine GH.vis ?_ ?_ <;> first | assumption | ((try simp only [GH.pn, GH.sn]) <;> omega)))) only [↓GH.gp_eq, ↓GH.gp_ne, ↓GH.gs_eq, ↓GH.gs_ne, GH.push_next, GH.set_next]; first | done | exact rfl)
    have hkL : Kept g ((g'.push (cellsOb [.int .i64 0, .int .i64 0] 56)).set g'.next (cellsOb [.int .i64 x, .int .i64 y] 56)) := (by (repeat' first | exact Kept.refl _ | assumption | refine Kept.push ?_ ?_ _ | refine Kept.setV ?_ ?_ ?_ _) <;> (first | assumption | exact cellV_int _ _ | exact cellV_bool _ | omega | (simp only [GH.pn, GH.sn] <;> omega) | (with_reducible ((repeat (first | apply GH.ok_push | apply GH.ok_set)); assumption)) | ((try simp only [GH.push_hid, GH.set_hid]); first | assumption | (refine GH.vis ?_ ?_ <;> first | assumption | ((try simp only [GH.pn, GH.sn]) <;> omega)))))
    have hsp : splice 0 [Value.int .i64 0, Value.int .i64 0] [Value.int .i64 x, Value.int .i64 y] = [.int .i64 x, .int .i64 y] := Eq.trans rfl rfl
    have hob : obLoad none (cellsOb [.int .i64 x, .int .i64 y] 56) 0 = some (.int .i64 x) := rfl
    have hob2 : obLoad none (cellsOb [.int .i64 x, .int .i64 y] 56) 1 = some (.int .i64 y) := rfl
    simp +decide (disch := first | assumption | (apply GH.ok_push; assumption) | exact cellV_int _ _ | exact cellV_bool _ | omega) only [go_sem, ↓reduceIte, Nat.reduceEqDiff, Nat.reduceAdd, Int.reduceToNat, he, ci', hl, hp1, hp3, hg0, hsp]
    simp only [hgL, hob, oV_s]
    refine envR (fun e => ev e (.s 0) = s ∧ ev e (.s 1) = p ∧ ev e (.s 6) = .int .i64 (i : Nat) ∧ ev e (.s 5) = .int .i64 (tk : Nat) ∧ ev e (.s 7) = ptrTo g'.next ∧ ev e (.s 19) = .int .i64 x) ?h0 (fun e he => ?_)
    case h0 => exact (by simp +decide (disch := first | assumption | (apply GH.ok_push; assumption) | exact cellV_int _ _ | exact cellV_bool _ | omega) only [go_sem, ↓reduceIte, Nat.reduceEqDiff, Nat.reduceAdd, Int.reduceToNat, he]; first | done | exact rfl)
    refine Wk.nameR fun G hG => ?_
    have hkG : Kept g G := by rw [hG]; exact hkL
    have hnG : G.next = g'.next + 1 := by rw [hG]; rfl
    have hltG : g'.next < G.next := by omega
    have hg1 : G.get g'.next = cellsOb [.int .i64 x, .int .i64 y] 56 := by rw [hG]; exact hgL
    clear hG hkL hgL hg0
    by_cases f0 : x < 0
    · simp +decide (disch := first | assumption | (apply GH.ok_push; assumption) | exact cellV_int _ _ | exact cellV_bool _ | omega) only [go_sem, ↓reduceIte, Nat.reduceEqDiff, Nat.reduceAdd, Int.reduceToNat, he, hnG, f0]
      intro hx0
      exact ⟨by omega, by rw [← hr, hbad (by unfold goodP; rw [decide_eq_false (p := la < x) (by omega)]; rfl)]⟩
    by_cases f2 : y ≤ x
    · simp +decide (disch := first | assumption | (apply GH.ok_push; assumption) | exact cellV_int _ _ | exact cellV_bool _ | omega) only [go_sem, ↓reduceIte, Nat.reduceEqDiff, Nat.reduceAdd, Int.reduceToNat, he, hnG, hg1, hob, hob2, oV_s, f0, f2]
      intro hx0
      exact ⟨by omega, by rw [← hr, hbad (by unfold goodP; rw [decide_eq_false (p := x < y) (by omega), Bool.and_false]; rfl)]⟩
    by_cases f3 : (L.length : Int) ≤ y
    · simp +decide (disch := first | assumption | (apply GH.ok_push; assumption) | exact cellV_int _ _ | exact cellV_bool _ | omega) only [go_sem, ↓reduceIte, Nat.reduceEqDiff, Nat.reduceAdd, Int.reduceToNat, he, hnG, hls, hg1, hob, hob2, oV_s, f0, f2, f3]
      intro hx0
      exact ⟨by omega, by rw [← hr, hbad (by unfold goodP; rw [decide_eq_false (p := y < (L.length : Int)) (by omega), Bool.and_false]; rfl)]⟩
    obtain ⟨nx, rfl⟩ : ∃ nx : Nat, x = nx := ⟨x.toNat, by omega⟩
    obtain ⟨ny, rfl⟩ : ∃ ny : Nat, y = ny := ⟨y.toNat, by omega⟩
    have hxn : nx < L.length := by omega
    obtain ⟨j2, o2, hj2, hq1, hq2⟩ := (hs.kept hkG).ptr (ints_get (D := L) (i := nx) hxn)
    have hq1 := hq1 (nx : Int) rfl
    rw [(hA nx hxn).1] at hq2
    have hq2' := hq2 0
    simp only [go_sem] at hq2'
    have n1 : ¬ (nx : Int) < 0 := by omega
    have n2 : ¬ (ny : Int) < 0 := by omega
    have r1 := shr_fact ((setF L nx : Nat) : Int) ny (by omega)
    have r2 := rem_nat (setF L nx) ny
    have r3 := shr_fact ((tk : Nat) : Int) nx (by omega)
    have r4 := rem_nat tk nx
    have r5 := shr_fact ((tk : Nat) : Int) ny (by omega)
    have r6 := rem_nat tk ny
    have hgd : goodP L la tk nx ny = (decide (la < (nx : Int)) && (setF L nx).testBit ny && !tk.testBit nx && !tk.testBit ny) := by
      unfold goodP
      rw [decide_eq_true (p := (nx : Int) < ny) (by omega), decide_eq_true (p := (ny : Int) < L.length) (by omega), Bool.and_true, Bool.and_true]
      rfl
    simp +decide (disch := first | assumption | (apply GH.ok_push; assumption) | exact cellV_int _ _ | exact cellV_bool _ | omega) only [go_sem, ↓reduceIte, Nat.reduceEqDiff, Nat.reduceAdd, Int.reduceToNat, he, hnG, hls, hg1, hob, hob2, oV_s, f0, f2, f3, hq1]
    simp only [hq2', oV_s]
    refine envR (fun e => ev e (.s 0) = s ∧ ev e (.s 1) = p ∧ ev e (.s 6) = .int .i64 (i : Nat) ∧ ev e (.s 5) = .int .i64 (tk : Nat) ∧ ev e (.s 7) = ptrTo g'.next ∧ ev e (.s 35) = .bool false ∧ ev e (.s 40) = .int .i64 (setF L nx : Nat)) ?h2 (fun e he => ?_)
    case h2 => exact (by simp +decide (disch := first | assumption | (apply GH.ok_push; assumption) | exact cellV_int _ _ | exact cellV_bool _ | omega) only [go_sem, ↓reduceIte, Nat.reduceEqDiff, Nat.reduceAdd, Int.reduceToNat, he]; first | done | exact rfl)
    cases cb : (setF L nx).testBit ny with
    | false =>
      rw [cb] at r2
      have r2' : (((setF L nx : Nat) : Int) / 2 ^ ny).tmod 2 = 0 := r2
      simp +decide (disch := first | assumption | (apply GH.ok_push; assumption) | exact cellV_int _ _ | exact cellV_bool _ | omega) only [go_sem, ↓reduceIte, Nat.reduceEqDiff, Nat.reduceAdd, Int.reduceToNat, he, hnG, hg1, hob2, oV_s, ib_shr n2, r1, r2']
      intro hx0
      exact ⟨by omega, by rw [← hr, hbad (by rw [hgd, cb, Bool.and_false]; rfl)]⟩
    | true =>
    rw [cb] at r2 hgd
    have r2' : (((setF L nx : Nat) : Int) / 2 ^ ny).tmod 2 = 1 := r2
    cases ca : tk.testBit nx with
    | true =>
      rw [ca] at r4
      have r4' : ((tk : Int) / 2 ^ nx).tmod 2 = 1 := r4
      simp +decide (disch := first | assumption | (apply GH.ok_push; assumption) | exact cellV_int _ _ | exact cellV_bool _ | omega) only [go_sem, ↓reduceIte, Nat.reduceEqDiff, Nat.reduceAdd, Int.reduceToNat, he, hnG, hg1, hob, hob2, oV_s, ib_shr n2, ib_shr n1, r1, r2', r3, r4']
      intro hx0
      exact ⟨by omega, by rw [← hr, hbad (by rw [hgd, ca]; simp)]⟩
    | false =>
    rw [ca] at r4 hgd
    have r4' : ((tk : Int) / 2 ^ nx).tmod 2 = 0 := r4
    cases cc : tk.testBit ny with
    | true =>
      rw [cc] at r6
      have r6' : ((tk : Int) / 2 ^ ny).tmod 2 = 1 := r6
      simp +decide (disch := first | assumption | (apply GH.ok_push; assumption) | exact cellV_int _ _ | exact cellV_bool _ | omega) only [go_sem, ↓reduceIte, Nat.reduceEqDiff, Nat.reduceAdd, Int.reduceToNat, he, hnG, hg1, hob, hob2, oV_s, ib_shr n2, ib_shr n1, r1, r2', r3, r4', r5, r6']
      intro hx0
      exact ⟨by omega, by rw [← hr, hbad (by rw [hgd, cc]; simp)]⟩
    | false =>
    rw [cc] at r6 hgd
    have r6' : ((tk : Int) / 2 ^ ny).tmod 2 = 0 := r6
    have s1 := shl_i (k := nx) (by omega)
    have s2 := shl_i (k := ny) (by omega)
    have l1 := two_lt (k := nx) (by omega)
    have l2 := two_lt (k := ny) (by omega)
    have hv3' : tk < 2 ^ 10 := hv3
    have l3 := or_lt hv3' (show nx < 10 by omega)
    have o1 := or_i (a := tk) (b := 2 ^ nx) (by omega) (by omega)
    have o2' := or_i (a := tk ||| 2 ^ nx) (b := 2 ^ ny) (by omega) (by omega)
    by_cases ci0 : i = 0
    · have hla' := hla0 ci0
      have hgd' : goodP L la tk nx ny = true := by rw [hgd, decide_eq_true (p := la < (nx : Int)) (by omega)]; rfl
      rw [hgd'] at htk
      have i0 : ¬ (0 : Int) < (i : Nat) := by omega
      simp +decide (disch := first | assumption | (apply GH.ok_push; assumption) | exact cellV_int _ _ | exact cellV_bool _ | omega) only [go_sem, ↓reduceIte, Nat.reduceEqDiff, Nat.reduceAdd, Int.reduceToNat, he, hnG, hg1, hob, hob2, oV_s, ib_shr n2, ib_shr n1, r1, r2', r3, r4', r5, r6', i0, s1, s2, o1, o2']
      refine ih (m - 1) _ _ _ (by omega) ⟨by omega, hkG, i + 1, by omega, ?_, htk⟩
      rw [htt]
      exact (by simp +decide (disch := first | assumption | (apply GH.ok_push; assumption) | exact cellV_int _ _ | exact cellV_bool _ | omega) only [go_sem, ↓reduceIte, Nat.reduceEqDiff, Nat.reduceAdd, Int.reduceToNat, he]; first | done | exact rfl)
    · obtain ⟨hi1, hla'⟩ := hlas (by omega)
      have i0 : (0 : Int) < (i : Nat) := by omega
      obtain ⟨j3, a3, hj3, ht1, ht2, ht3⟩ := (hp.kept hkG).ptr hi1
      have ht1 := ht1 ((i : Int) - 1) (by omega)
      obtain ⟨c1, c2⟩ := cellsI_get P (i - 1) hi1
      have ht20 := fun lo => ht2 lo 0 _ (by omega) c1
      rw [Nat.add_zero, ← hla'] at ht20
      by_cases f5 : la < (nx : Int)
      · have hgd' : goodP L la tk nx ny = true := by rw [hgd, decide_eq_true f5]; rfl
        rw [hgd'] at htk
        have f5' : ¬ (nx : Int) ≤ la := by omega
        simp +decide (disch := first | assumption | (apply GH.ok_push; assumption) | exact cellV_int _ _ | exact cellV_bool _ | omega) only [go_sem, ↓reduceIte, Nat.reduceEqDiff, Nat.reduceAdd, Int.reduceToNat, he, hnG, hg1, hob, hob2, oV_s, ib_shr n2, ib_shr n1, r1, r2', r3, r4', r5, r6', i0, ht1, ht20, s1, s2, o1, o2', f5']
        refine ih (m - 1) _ _ _ (by omega) ⟨by omega, hkG, i + 1, by omega, ?_, htk⟩
        rw [htt]
        exact (by simp +decide (disch := first | assumption | (apply GH.ok_push; assumption) | exact cellV_int _ _ | exact cellV_bool _ | omega) only [go_sem, ↓reduceIte, Nat.reduceEqDiff, Nat.reduceAdd, Int.reduceToNat, he]; first | done | exact rfl)
      · have f5' : (nx : Int) ≤ la := by omega
        simp +decide (disch := first | assumption | (apply GH.ok_push; assumption) | exact cellV_int _ _ | exact cellV_bool _ | omega) only [go_sem, ↓reduceIte, Nat.reduceEqDiff, Nat.reduceAdd, Int.reduceToNat, he, hnG, hg1, hob, hob2, oV_s, ib_shr n2, ib_shr n1, r1, r2', r3, r4', r5, r6', i0, ht1, ht20, f5']
        intro hx0
        exact ⟨by omega, by rw [← hr, hbad (by rw [hgd, decide_eq_false f5]; rfl)]⟩
end Go.Proofs.YtnpapnpedcbfnaaDoor
set_option maxRecDepth 100000
set_option maxHeartbeats 4000000
set_option linter.unusedSimpArgs false
set_option linter.unusedVariables false
namespace Go.Proofs.YtnpapnpedcbfnaaDoor
open Go.Ds Go.Vs
def needV (L : List Int) : Value := .tuple #[.int .i64 (needF (setF L) L.length L.length : Nat), .int .i64 0]
theorem needed_rets {X : Caller} (hX : Xok X) (L : List Int) (hL : shopB L = true) (s : Value) (g : GH) (hT : HasTab g) (hs : SlR g s (ints L)) :
    Rets Tryd.prog X 25 [s] g (fun v g' lo => g.next ≤ lo ∧ v = needV L) := by
  obtain ⟨hL1, hL10, hA⟩ := shop_ok hL
  have hl := hs.len
  rw [ints_len] at hl
  have hsh := IsShop_rets hX.toXfr L (by omega) s g hs
  rw [hL] at hsh
  have hsz := fun g hT hs => sizes_rets hX L hL s g hT hs
  have ha := fun g hs => allHats_rets hX.toXfr L hL10 s g hs
  have e2 : (2 : Int) ^ L.length - 1 = (allN L.length : Nat) := by
    unfold allN
    have := Nat.two_pow_pos L.length
    have e2 : ((2 ^ L.length : Nat) : Int) = 2 ^ L.length := by simp
    omega
  have hN : 2 ^ L.length ≤ 1024 := Nat.pow_le_pow_right (by decide) hL10
  rw [e2] at ha
  have hal : allN L.length < 2 ^ L.length := all_lt _
  have hnl := fun i => needF_lt (setF L) L.length i
  have hps := fun i (h : i ≤ L.length) => Nat.pow_le_pow_right (n := 2) (by decide) h
  obtain ⟨A, hAe⟩ : ∃ A, setF L = A := ⟨_, rfl⟩
  obtain ⟨N, hNe⟩ : ∃ N, 2 ^ L.length = N := ⟨_, rfl⟩
  have hnd : ∀ i, needF A L.length (i + 1) = if best A L.length (del (allN L.length) i) < best A L.length (allN L.length) then needF A L.length i ||| 2 ^ i else needF A L.length i := fun _ => rfl
  unfold needV
  rw [hNe] at hsz hN hal
  rw [hAe] at hA hsz hnl ⊢
  have hps := fun i (h : i ≤ L.length) => hNe ▸ hps i h
  generalize hall : allN L.length = all at *
  refine Rets.run hX.pres p25 (hX.free 25 (by decide) _ _) rfl fun ho => ?_
  simp +decide (disch := first | assumption | exact cellV_int _ _ | exact cellV_bool _ | omega | (simp only [GH.pn, GH.sn] <;> omega) | (with_reducible ((repeat (first | apply GH.ok_push | apply GH.ok_set)); assumption)) | ((try simp only [GH.push_hid, GH.set_hid]); first | assumption | (refine GH.vis ?_ ?_ <;> first | assumption | ((try simp only [GH.pn, GH.sn]) <;> omega)))) only [go_sem, ↓reduceIte, Nat.reduceEqDiff, Nat.reduceAdd, Int.reduceToNat, Int.reduceAdd, Int.reduceNeg, Int.reduceSub, Int.reduceMul, Int.reduceLT, Int.reduceLE, Int.reduceEq, ↓GH.gp_eq, ↓GH.gp_ne, ↓GH.gs_eq, ↓GH.gs_ne, GH.push_next, GH.set_next]
  refine CallD.calm hsh ?_
  rintro v g0 hx0 rfl
  have hn0 := hx0.next
  simp +decide (disch := first | assumption | exact cellV_int _ _ | exact cellV_bool _ | omega | (simp only [GH.pn, GH.sn] <;> omega) | (with_reducible ((repeat (first | apply GH.ok_push | apply GH.ok_set)); assumption)) | ((try simp only [GH.push_hid, GH.set_hid]); first | assumption | (refine GH.vis ?_ ?_ <;> first | assumption | ((try simp only [GH.pn, GH.sn]) <;> omega)))) only [go_sem, ↓reduceIte, Nat.reduceEqDiff, Nat.reduceAdd, Int.reduceToNat, Int.reduceAdd, Int.reduceNeg, Int.reduceSub, Int.reduceMul, Int.reduceLT, Int.reduceLE, Int.reduceEq, ↓GH.gp_eq, ↓GH.gp_ne, ↓GH.gs_eq, ↓GH.gs_ne, GH.push_next, GH.set_next]
  refine CallD.calm (hsz g0 (hT.ext hx0) (hs.ext hx0)) ?_
  rintro v g1 hx1 ⟨hok1, hk1, J, T, rfl, hJ1, hJ2, hget, hTl, hTb⟩
  have hn1 := hx1.next
  have hk1' : Kept g g1 := hx0.kept.trans hk1
  simp +decide (disch := first | assumption | exact cellV_int _ _ | exact cellV_bool _ | omega | (simp only [GH.pn, GH.sn] <;> omega) | (with_reducible ((repeat (first | apply GH.ok_push | apply GH.ok_set)); assumption)) | ((try simp only [GH.push_hid, GH.set_hid]); first | assumption | (refine GH.vis ?_ ?_ <;> first | assumption | ((try simp only [GH.pn, GH.sn]) <;> omega)))) only [go_sem, ↓reduceIte, Nat.reduceEqDiff, Nat.reduceAdd, Int.reduceToNat, Int.reduceAdd, Int.reduceNeg, Int.reduceSub, Int.reduceMul, Int.reduceLT, Int.reduceLE, Int.reduceEq, ↓GH.gp_eq, ↓GH.gp_ne, ↓GH.gs_eq, ↓GH.gs_ne, GH.push_next, GH.set_next]
  refine CallD.calm (ha g1 (hs.kept hk1')) ?_
  rintro v g2 hx2 rfl
  have hn2 := hx2.next
  have hok2 := hx2.ok hok1
  have hget2 := (hx2.gets J hJ2).trans hget
  simp +decide (disch := first | assumption | exact cellV_int _ _ | exact cellV_bool _ | omega | (simp only [GH.pn, GH.sn] <;> omega) | (with_reducible ((repeat (first | apply GH.ok_push | apply GH.ok_set)); assumption)) | ((try simp only [GH.push_hid, GH.set_hid]); first | assumption | (refine GH.vis ?_ ?_ <;> first | assumption | ((try simp only [GH.pn, GH.sn]) <;> omega)))) only [go_sem, ↓reduceIte, Nat.reduceEqDiff, Nat.reduceAdd, Int.reduceToNat, Int.reduceAdd, Int.reduceNeg, Int.reduceSub, Int.reduceMul, Int.reduceLT, Int.reduceLE, Int.reduceEq, ↓GH.gp_eq, ↓GH.gp_ne, ↓GH.gs_eq, ↓GH.gs_ne, GH.push_next, GH.set_next, hl]
  refine Wk.loops (fun m e g' lo => g.next ≤ lo ∧ Kept g2 g' ∧ ∃ i : Nat, i + m = L.length ∧ (ev e (.s 4) = .slice (some ⟨J, 0, none⟩) N N ∧ ev e (.s 5) = .int .i64 (all : Nat) ∧ ev e (.s 6) = .int .i64 (needF A L.length i : Nat) ∧ ev e (.s 16) = .int .i64 (L.length : Int) ∧ ev e (.s 17) = .int .i64 (i : Nat)))
    (fun e g' lo => g.next ≤ lo ∧ ev e (.s 6) = .int .i64 (needF A L.length L.length : Nat)) (n := L.length) ?_ ?_ ?_
  · exact ⟨by omega, Kept.refl _, 0, by omega, (by simp +decide (disch := first | assumption | (apply GH.ok_push; assumption) | exact cellV_int _ _ | exact cellV_bool _ | omega) only [go_sem, ↓reduceIte, Nat.reduceEqDiff, Nat.reduceAdd, Int.reduceToNat, hl]; first | done | exact rfl)⟩
  · rintro e g' lo hog hlg ⟨hlo, he⟩
    simp +decide (disch := first | assumption | exact cellV_int _ _ | exact cellV_bool _ | omega | (simp only [GH.pn, GH.sn] <;> omega) | (with_reducible ((repeat (first | apply GH.ok_push | apply GH.ok_set)); assumption)) | ((try simp only [GH.push_hid, GH.set_hid]); first | assumption | (refine GH.vis ?_ ?_ <;> first | assumption | ((try simp only [GH.pn, GH.sn]) <;> omega)))) only [go_sem, ↓reduceIte, Nat.reduceEqDiff, Nat.reduceAdd, Int.reduceToNat, Int.reduceAdd, Int.reduceNeg, Int.reduceSub, Int.reduceMul, Int.reduceLT, Int.reduceLE, Int.reduceEq, ↓GH.gp_eq, ↓GH.gp_ne, ↓GH.gs_eq, ↓GH.gs_ne, GH.push_next, GH.set_next, he]
    intro hx0
    exact ⟨hlo, rfl⟩
  · rintro m e g' lo ho' hl' ih out ⟨hlo, hk, i, hi, he⟩
    have hkn := hk.next
    by_cases ci : i < L.length
    case neg =>
      have ci' : ¬ (i : Int) < L.length := by omega
      simp +decide (disch := first | assumption | exact cellV_int _ _ | exact cellV_bool _ | omega | (simp only [GH.pn, GH.sn] <;> omega) | (with_reducible ((repeat (first | apply GH.ok_push | apply GH.ok_set)); assumption)) | ((try simp only [GH.push_hid, GH.set_hid]); first | assumption | (refine GH.vis ?_ ?_ <;> first | assumption | ((try simp only [GH.pn, GH.sn]) <;> omega)))) only [go_sem, ↓reduceIte, Nat.reduceEqDiff, Nat.reduceAdd, Int.reduceToNat, Int.reduceAdd, Int.reduceNeg, Int.reduceSub, Int.reduceMul, Int.reduceLT, Int.reduceLE, Int.reduceEq, ↓GH.gp_eq, ↓GH.gp_ne, ↓GH.gs_eq, ↓GH.gs_ne, GH.push_next, GH.set_next, he, ci']
      have : i = L.length := by omega
      subst this
      exact out _ _ _ ⟨hlo, (by simp +decide (disch := first | assumption | (apply GH.ok_push; assumption) | exact cellV_int _ _ | exact cellV_bool _ | omega) only [go_sem, ↓reduceIte, Nat.reduceEqDiff, Nat.reduceAdd, Int.reduceToNat, he]; first | done | exact rfl)⟩
    have ci' : (i : Int) < L.length := by omega
    have hdk := del_le all i
    have hJ' : J < g'.next := by omega
    simp +decide (disch := first | assumption | exact cellV_int _ _ | exact cellV_bool _ | omega | (simp only [GH.pn, GH.sn] <;> omega) | (with_reducible ((repeat (first | apply GH.ok_push | apply GH.ok_set)); assumption)) | ((try simp only [GH.push_hid, GH.set_hid]); first | assumption | (refine GH.vis ?_ ?_ <;> first | assumption | ((try simp only [GH.pn, GH.sn]) <;> omega)))) only [go_sem, ↓reduceIte, Nat.reduceEqDiff, Nat.reduceAdd, Int.reduceToNat, Int.reduceAdd, Int.reduceNeg, Int.reduceSub, Int.reduceMul, Int.reduceLT, Int.reduceLE, Int.reduceEq, ↓GH.gp_eq, ↓GH.gp_ne, ↓GH.gs_eq, ↓GH.gs_ne, GH.push_next, GH.set_next, he, ci']
    refine CallD.calm (without_rets hX.toXfr all i (by omega) (by omega) g') ?_
    rintro v g3 hx3 rfl
    have hn3 := hx3.next
    have hk3 := hk.ext hx3
    have hok3 := hx3.ok ho'
    have hget3 : g3.get J = cellsOb (ints T) 3 := (hk3.gets J (by omega)).trans hget2
    have hpk := iaddrS_at (j := J) (n := N) (c := N) (m := del all i) (x := (del all i : Nat)) rfl (by omega)
    have hpf := iaddrS_at (j := J) (n := N) (c := N) (m := all) (x := (all : Nat)) rfl hal
    have hck : (ints T)[del all i]? = some (.int .i64 (best A L.length (del all i) : Nat)) := by rw [ints_get (by omega), hTb _ (by omega)]
    have hcf : (ints T)[all]? = some (.int .i64 (best A L.length all : Nat)) := by rw [ints_get (by omega), hTb _ (by omega)]
    have hni := hnl i
    have hpi := hps i (by omega)
    have hnx := hnd i
    by_cases ce : best A L.length (del all i) < best A L.length all
    · have ce' : (best A L.length (del all i) : Int) < (best A L.length all : Int) := by omega
      rw [if_pos ce] at hnx
      simp +decide (disch := first | assumption | exact cellV_int _ _ | exact cellV_bool _ | omega | (simp only [GH.pn, GH.sn] <;> omega) | (with_reducible ((repeat (first | apply GH.ok_push | apply GH.ok_set)); assumption)) | ((try simp only [GH.push_hid, GH.set_hid]); first | assumption | (refine GH.vis ?_ ?_ <;> first | assumption | ((try simp only [GH.pn, GH.sn]) <;> omega)))) only [go_sem, ↓reduceIte, Nat.reduceEqDiff, Nat.reduceAdd, Int.reduceToNat, Int.reduceAdd, Int.reduceNeg, Int.reduceSub, Int.reduceMul, Int.reduceLT, Int.reduceLE, Int.reduceEq, ↓GH.gp_eq, ↓GH.gp_ne, ↓GH.gs_eq, ↓GH.gs_ne, GH.push_next, GH.set_next, he, hpk, hpf, hget3, hck, hcf, ce']
      refine CallD.calm (with_rets hX.toXfr (needF A L.length i) i (by omega) (by omega) g3) ?_
      rintro v g4 hx4 rfl
      have hn4 := hx4.next
      simp +decide (disch := first | assumption | exact cellV_int _ _ | exact cellV_bool _ | omega | (simp only [GH.pn, GH.sn] <;> omega) | (with_reducible ((repeat (first | apply GH.ok_push | apply GH.ok_set)); assumption)) | ((try simp only [GH.push_hid, GH.set_hid]); first | assumption | (refine GH.vis ?_ ?_ <;> first | assumption | ((try simp only [GH.pn, GH.sn]) <;> omega)))) only [go_sem, ↓reduceIte, Nat.reduceEqDiff, Nat.reduceAdd, Int.reduceToNat, Int.reduceAdd, Int.reduceNeg, Int.reduceSub, Int.reduceMul, Int.reduceLT, Int.reduceLE, Int.reduceEq, ↓GH.gp_eq, ↓GH.gp_ne, ↓GH.gs_eq, ↓GH.gs_ne, GH.push_next, GH.set_next, he]
      refine ih (m - 1) _ _ _ (by omega) ⟨hlo, hk3.ext hx4, i + 1, by omega, ?_⟩
      rw [hnx]
      exact (by simp +decide (disch := first | assumption | (apply GH.ok_push; assumption) | exact cellV_int _ _ | exact cellV_bool _ | omega) only [go_sem, ↓reduceIte, Nat.reduceEqDiff, Nat.reduceAdd, Int.reduceToNat, he]; first | done | exact rfl)
    · have ce' : ¬ (best A L.length (del all i) : Int) < (best A L.length all : Int) := by omega
      rw [if_neg ce] at hnx
      simp +decide (disch := first | assumption | exact cellV_int _ _ | exact cellV_bool _ | omega | (simp only [GH.pn, GH.sn] <;> omega) | (with_reducible ((repeat (first | apply GH.ok_push | apply GH.ok_set)); assumption)) | ((try simp only [GH.push_hid, GH.set_hid]); first | assumption | (refine GH.vis ?_ ?_ <;> first | assumption | ((try simp only [GH.pn, GH.sn]) <;> omega)))) only [go_sem, ↓reduceIte, Nat.reduceEqDiff, Nat.reduceAdd, Int.reduceToNat, Int.reduceAdd, Int.reduceNeg, Int.reduceSub, Int.reduceMul, Int.reduceLT, Int.reduceLE, Int.reduceEq, ↓GH.gp_eq, ↓GH.gp_ne, ↓GH.gs_eq, ↓GH.gs_ne, GH.push_next, GH.set_next, he, hpk, hpf, hget3, hck, hcf, ce']
      refine ih (m - 1) _ _ _ (by omega) ⟨hlo, hk3, i + 1, by omega, ?_⟩
      rw [hnx]
      exact (by simp +decide (disch := first | assumption | (apply GH.ok_push; assumption) | exact cellV_int _ _ | exact cellV_bool _ | omega) only [go_sem, ↓reduceIte, Nat.reduceEqDiff, Nat.reduceAdd, Int.reduceToNat, he]; first | done | exact rfl)
theorem shl_0 {k : Nat} (hk : k < 62) : intB .shl .i64 0 (k : Int) = some (.int .i64 0) := by
  rw [ib_shl (by omega)]
  rw [Int.zero_mul, wr64 (by omega) (by omega)]
theorem own_low {g : GH} {s : Value} {vs : List Value} {t : TypeId} {b b' : Nat} (h : Own g s vs t b) (hb : b' ≤ b) : Own g s vs t b' := by
  rcases h with h | ⟨j, fam, h1, h2, h3, h4, h5, h6⟩
  · exact .inl h
  · exact .inr ⟨j, fam, h1, h2, h3, h4, by omega, h6⟩
theorem without1_rets {X : Caller} (hX : Xfr X) (L : List Int) (hL : shopB L = true) (s : Value) (i : Nat) (hi : i < L.length) (g : GH) (hs : SlR g s (ints L)) :
    Rets Tryd.prog X 42 [s, .int .i64 (2 ^ i : Nat)] g (fun v g' lo => g.next ≤ lo ∧ Kept g g' ∧ SlR g' v (ints (sqT L i (L.length - 1)))) := by
  obtain ⟨hL1, hL10, hA⟩ := shop_ok hL
  have hl := hs.len
  rw [ints_len] at hl
  have hpos : posF i L.length = L.length - 1 := by unfold posF; rw [if_neg (by omega)]
  rw [← hpos]
  have htl := two_lt (k := i) (by omega)
  obtain ⟨S, hS⟩ : ∃ S, 2 ^ i = S := ⟨_, rfl⟩
  have hSb : ∀ k, S.testBit k = decide (i = k) := fun k => by rw [← hS, Nat.testBit_two_pow]
  rw [hS]
  refine Rets.run hX.pres p42 (hX.free 42 (by decide) _ _) rfl fun ho => ?_
  simp +decide (disch := first | assumption | exact cellV_int _ _ | exact cellV_bool _ | omega | (simp only [GH.pn, GH.sn] <;> omega) | (with_reducible ((repeat (first | apply GH.ok_push | apply GH.ok_set)); assumption)) | ((try simp only [GH.push_hid, GH.set_hid]); first | assumption | (refine GH.vis ?_ ?_ <;> first | assumption | ((try simp only [GH.pn, GH.sn]) <;> omega)))) only [go_sem, ↓reduceIte, Nat.reduceEqDiff, Nat.reduceAdd, Int.reduceToNat, Int.reduceAdd, Int.reduceNeg, Int.reduceSub, Int.reduceMul, Int.reduceLT, Int.reduceLE, Int.reduceEq, ↓GH.gp_eq, ↓GH.gp_ne, ↓GH.gs_eq, ↓GH.gs_ne, GH.push_next, GH.set_next]
  refine Wk.loops (fun m e g' lo => g.next ≤ lo ∧ Kept g g' ∧ ∃ (k : Nat) (o : Value), k + m = L.length ∧ (ev e (.s 0) = s ∧ ev e (.s 1) = .int .i64 (S : Nat) ∧ ev e (.s 5) = o ∧ ev e (.s 6) = .int .i64 (k : Nat)) ∧ Own g' o (ints (sqT L i (posF i k))) 3 g.next)
    (fun e g' lo => g.next ≤ lo ∧ Kept g g' ∧ ∃ o, ev e (.s 5) = o ∧ Own g' o (ints (sqT L i (posF i L.length))) 3 g.next) (n := L.length) ?_ ?_ ?_
  · exact ⟨by omega, Kept.refl _, 0, _, by omega, (by simp +decide (disch := first | assumption | (apply GH.ok_push; assumption) | exact cellV_int _ _ | exact cellV_bool _ | omega) only [go_sem, ↓reduceIte, Nat.reduceEqDiff, Nat.reduceAdd, Int.reduceToNat, hl]; first | done | exact rfl), Own.nil⟩
  · rintro e g' lo hog hlg ⟨hlo, hk, o, he, hown⟩
    simp +decide (disch := first | assumption | exact cellV_int _ _ | exact cellV_bool _ | omega | (simp only [GH.pn, GH.sn] <;> omega) | (with_reducible ((repeat (first | apply GH.ok_push | apply GH.ok_set)); assumption)) | ((try simp only [GH.push_hid, GH.set_hid]); first | assumption | (refine GH.vis ?_ ?_ <;> first | assumption | ((try simp only [GH.pn, GH.sn]) <;> omega)))) only [go_sem, ↓reduceIte, Nat.reduceEqDiff, Nat.reduceAdd, Int.reduceToNat, Int.reduceAdd, Int.reduceNeg, Int.reduceSub, Int.reduceMul, Int.reduceLT, Int.reduceLE, Int.reduceEq, ↓GH.gp_eq, ↓GH.gp_ne, ↓GH.gs_eq, ↓GH.gs_ne, GH.push_next, GH.set_next, he]
    intro hx0
    exact ⟨hlo, hk, hown.read⟩
  · rintro m e g' lo ho' hl' ih out ⟨hlo, hk, k, o, hkm, he, hown⟩
    have hkn := hk.next
    by_cases ck : k < L.length
    case neg =>
      have ck' : ¬ (k : Int) < L.length := by omega
      simp +decide (disch := first | assumption | exact cellV_int _ _ | exact cellV_bool _ | omega | (simp only [GH.pn, GH.sn] <;> omega) | (with_reducible ((repeat (first | apply GH.ok_push | apply GH.ok_set)); assumption)) | ((try simp only [GH.push_hid, GH.set_hid]); first | assumption | (refine GH.vis ?_ ?_ <;> first | assumption | ((try simp only [GH.pn, GH.sn]) <;> omega)))) only [go_sem, ↓reduceIte, Nat.reduceEqDiff, Nat.reduceAdd, Int.reduceToNat, Int.reduceAdd, Int.reduceNeg, Int.reduceSub, Int.reduceMul, Int.reduceLT, Int.reduceLE, Int.reduceEq, ↓GH.gp_eq, ↓GH.gp_ne, ↓GH.gs_eq, ↓GH.gs_ne, GH.push_next, GH.set_next, he, hl, ck']
      have : k = L.length := by omega
      subst this
      exact out _ _ _ ⟨hlo, hk, o, (by simp +decide (disch := first | assumption | (apply GH.ok_push; assumption) | exact cellV_int _ _ | exact cellV_bool _ | omega) only [go_sem, ↓reduceIte, Nat.reduceEqDiff, Nat.reduceAdd, Int.reduceToNat, he]; first | done | exact rfl), hown⟩
    have ck' : (k : Int) < L.length := by omega
    have n1 : ¬ (k : Int) < 0 := by omega
    have r1 := shr_fact ((S : Nat) : Int) k (by omega)
    have r2 := rem_nat S k
    rw [hSb] at r2
    by_cases c : k = i
    · subst c
      rw [decide_eq_true rfl] at r2
      have r2' : ((S : Int) / 2 ^ k).tmod 2 = 1 := r2
      simp +decide (disch := first | assumption | exact cellV_int _ _ | exact cellV_bool _ | omega | (simp only [GH.pn, GH.sn] <;> omega) | (with_reducible ((repeat (first | apply GH.ok_push | apply GH.ok_set)); assumption)) | ((try simp only [GH.push_hid, GH.set_hid]); first | assumption | (refine GH.vis ?_ ?_ <;> first | assumption | ((try simp only [GH.pn, GH.sn]) <;> omega)))) only [go_sem, ↓reduceIte, Nat.reduceEqDiff, Nat.reduceAdd, Int.reduceToNat, Int.reduceAdd, Int.reduceNeg, Int.reduceSub, Int.reduceMul, Int.reduceLT, Int.reduceLE, Int.reduceEq, ↓GH.gp_eq, ↓GH.gp_ne, ↓GH.gs_eq, ↓GH.gs_ne, GH.push_next, GH.set_next, he, hl, ck', ib_shr n1, r1, r2']
      refine ih (m - 1) _ _ _ (by omega) ⟨hlo, hk, k + 1, o, by omega, (by simp +decide (disch := first | assumption | (apply GH.ok_push; assumption) | exact cellV_int _ _ | exact cellV_bool _ | omega) only [go_sem, ↓reduceIte, Nat.reduceEqDiff, Nat.reduceAdd, Int.reduceToNat, he]; first | done | exact rfl), ?_⟩
      rw [pos_at]
      exact hown
    rw [decide_eq_false (fun h => c h.symm)] at r2
    have r2' : ((S : Int) / 2 ^ k).tmod 2 = 0 := r2
    have hnx := sqT_next L c
    have hAk := hA k ck
    simp +decide (disch := first | assumption | exact cellV_int _ _ | exact cellV_bool _ | omega | (simp only [GH.pn, GH.sn] <;> omega) | (with_reducible ((repeat (first | apply GH.ok_push | apply GH.ok_set)); assumption)) | ((try simp only [GH.push_hid, GH.set_hid]); first | assumption | (refine GH.vis ?_ ?_ <;> first | assumption | ((try simp only [GH.pn, GH.sn]) <;> omega)))) only [go_sem, ↓reduceIte, Nat.reduceEqDiff, Nat.reduceAdd, Int.reduceToNat, Int.reduceAdd, Int.reduceNeg, Int.reduceSub, Int.reduceMul, Int.reduceLT, Int.reduceLE, Int.reduceEq, ↓GH.gp_eq, ↓GH.gp_ne, ↓GH.gs_eq, ↓GH.gs_ne, GH.push_next, GH.set_next, he, hl, ck', ib_shr n1, r1, r2']
    refine Wk.loops (fun m' e' g'' lo' => g'' = g' ∧ g.next ≤ lo' ∧ ∃ j : Nat, j + m' = L.length ∧ (ev e' (.s 0) = s ∧ ev e' (.s 1) = .int .i64 (S : Nat) ∧ ev e' (.s 5) = o ∧ ev e' (.s 6) = .int .i64 (k : Nat) ∧ ev e' (.s 9) = .int .i64 (j : Nat) ∧ ev e' (.s 7) = .int .i64 (sqF (setF L k) i j : Nat) ∧ ev e' (.s 8) = .int .i64 (posF i j : Nat)))
      (fun e' g'' lo' => g'' = g' ∧ g.next ≤ lo' ∧ (ev e' (.s 0) = s ∧ ev e' (.s 1) = .int .i64 (S : Nat) ∧ ev e' (.s 5) = o ∧ ev e' (.s 6) = .int .i64 (k : Nat) ∧ ev e' (.s 7) = .int .i64 (sqF (setF L k) i L.length : Nat))) (n := L.length) ?_ ?_ ?_
    · refine ⟨rfl, hlo, 0, by omega, ?_⟩
      have p0 : posF i 0 = 0 := by unfold posF; rw [if_pos (Nat.zero_le _)]
      rw [p0]
      show _ ∧ _ ∧ _ ∧ _ ∧ _ ∧ _ = Value.int .i64 0 ∧ _ = Value.int .i64 0
      exact (by simp +decide (disch := first | assumption | (apply GH.ok_push; assumption) | exact cellV_int _ _ | exact cellV_bool _ | omega) only [go_sem, ↓reduceIte, Nat.reduceEqDiff, Nat.reduceAdd, Int.reduceToNat, he]; first | done | exact rfl)
    · rintro e' g'' lo' - - ⟨rfl, hlo', he'⟩
      have hplen : posF i k ≤ 10 := Nat.le_trans (pos_le i k) (by omega)
      simp +decide (disch := first | assumption | exact cellV_int _ _ | exact cellV_bool _ | omega | (simp only [GH.pn, GH.sn] <;> omega) | (with_reducible ((repeat (first | apply GH.ok_push | apply GH.ok_set)); assumption)) | ((try simp only [GH.push_hid, GH.set_hid]); first | assumption | (refine GH.vis ?_ ?_ <;> first | assumption | ((try simp only [GH.pn, GH.sn]) <;> omega)))) only [go_sem, ↓reduceIte, Nat.reduceEqDiff, Nat.reduceAdd, Int.reduceToNat, Int.reduceAdd, Int.reduceNeg, Int.reduceSub, Int.reduceMul, Int.reduceLT, Int.reduceLE, Int.reduceEq, ↓GH.gp_eq, ↓GH.gp_ne, ↓GH.gs_eq, ↓GH.gs_ne, GH.push_next, GH.set_next, he']
      refine AppD.own (hown.push ho' _) (SlR.one ho' _ _) (by simp) rfl (by simp [ints_len, sqT_len]; omega) (by have := hk.next; simp [GH.push]; omega) hlo' (GH.ok_push ho') (fun s' g2 lo2 sp wr hgr => ?_)
      have hk2 : Kept g g2 := (hk.push ho' _).grew hgr (by omega)
      have hn2 := hgr.next
      have hown2 := hgr.own
      simp +decide (disch := first | assumption | exact cellV_int _ _ | exact cellV_bool _ | omega | (simp only [GH.pn, GH.sn] <;> omega) | (with_reducible ((repeat (first | apply GH.ok_push | apply GH.ok_set)); assumption)) | ((try simp only [GH.push_hid, GH.set_hid]); first | assumption | (refine GH.vis ?_ ?_ <;> first | assumption | ((try simp only [GH.pn, GH.sn]) <;> omega)))) only [go_sem, ↓reduceIte, Nat.reduceEqDiff, Nat.reduceAdd, Int.reduceToNat, Int.reduceAdd, Int.reduceNeg, Int.reduceSub, Int.reduceMul, Int.reduceLT, Int.reduceLE, Int.reduceEq, ↓GH.gp_eq, ↓GH.gp_ne, ↓GH.gs_eq, ↓GH.gs_ne, GH.push_next, GH.set_next, he']
      refine ih (m - 1) _ _ _ (by omega) ⟨hgr.low, hk2, k + 1, s', by omega, (by simp +decide (disch := first | assumption | (apply GH.ok_push; assumption) | exact cellV_int _ _ | exact cellV_bool _ | omega) only [go_sem, ↓reduceIte, Nat.reduceEqDiff, Nat.reduceAdd, Int.reduceToNat, he']; first | done | exact rfl), ?_⟩
      rw [hnx, ints_app]
      exact hown2
    · rintro m' e' g'' lo' ho'' hl'' ih' out' ⟨rfl, hlo', j, hj, he'⟩
      by_cases cj : j < L.length
      case neg =>
        have cj' : ¬ (j : Int) < L.length := by omega
        simp +decide (disch := first | assumption | exact cellV_int _ _ | exact cellV_bool _ | omega | (simp only [GH.pn, GH.sn] <;> omega) | (with_reducible ((repeat (first | apply GH.ok_push | apply GH.ok_set)); assumption)) | ((try simp only [GH.push_hid, GH.set_hid]); first | assumption | (refine GH.vis ?_ ?_ <;> first | assumption | ((try simp only [GH.pn, GH.sn]) <;> omega)))) only [go_sem, ↓reduceIte, Nat.reduceEqDiff, Nat.reduceAdd, Int.reduceToNat, Int.reduceAdd, Int.reduceNeg, Int.reduceSub, Int.reduceMul, Int.reduceLT, Int.reduceLE, Int.reduceEq, ↓GH.gp_eq, ↓GH.gp_ne, ↓GH.gs_eq, ↓GH.gs_ne, GH.push_next, GH.set_next, he', hl, cj']
        have : j = L.length := by omega
        subst this
        exact out' _ _ _ ⟨rfl, hlo', (by simp +decide (disch := first | assumption | (apply GH.ok_push; assumption) | exact cellV_int _ _ | exact cellV_bool _ | omega) only [go_sem, ↓reduceIte, Nat.reduceEqDiff, Nat.reduceAdd, Int.reduceToNat, he']; first | done | exact rfl)⟩
      have cj' : (j : Int) < L.length := by omega
      have m1 : ¬ (j : Int) < 0 := by omega
      have q1 := shr_fact ((S : Nat) : Int) j (by omega)
      have q2 := rem_nat S j
      rw [hSb] at q2
      by_cases d : j = i
      · subst d
        rw [decide_eq_true rfl] at q2
        have q2' : ((S : Int) / 2 ^ j).tmod 2 = 1 := q2
        have hsq : sqF (setF L k) j (j + 1) = sqF (setF L k) j j := by rw [sqF, if_pos rfl]
        simp +decide (disch := first | assumption | exact cellV_int _ _ | exact cellV_bool _ | omega | (simp only [GH.pn, GH.sn] <;> omega) | (with_reducible ((repeat (first | apply GH.ok_push | apply GH.ok_set)); assumption)) | ((try simp only [GH.push_hid, GH.set_hid]); first | assumption | (refine GH.vis ?_ ?_ <;> first | assumption | ((try simp only [GH.pn, GH.sn]) <;> omega)))) only [go_sem, ↓reduceIte, Nat.reduceEqDiff, Nat.reduceAdd, Int.reduceToNat, Int.reduceAdd, Int.reduceNeg, Int.reduceSub, Int.reduceMul, Int.reduceLT, Int.reduceLE, Int.reduceEq, ↓GH.gp_eq, ↓GH.gp_ne, ↓GH.gs_eq, ↓GH.gs_ne, GH.push_next, GH.set_next, he', hl, cj', ib_shr m1, q1, q2']
        refine ih' (m' - 1) _ _ _ (by omega) ⟨rfl, hlo', j + 1, by omega, ?_⟩
        rw [hsq, pos_at]
        exact (by simp +decide (disch := first | assumption | (apply GH.ok_push; assumption) | exact cellV_int _ _ | exact cellV_bool _ | omega) only [go_sem, ↓reduceIte, Nat.reduceEqDiff, Nat.reduceAdd, Int.reduceToNat, he']; first | done | exact rfl)
      rw [decide_eq_false (fun h => d h.symm)] at q2
      have q2' : ((S : Int) / 2 ^ j).tmod 2 = 0 := q2
      obtain ⟨j2, o2, hj2, hq1, hq2⟩ := (hs.kept hk).ptr (ints_get (D := L) (i := k) ck)
      have hq1 := hq1 (k : Int) rfl
      rw [hAk.1] at hq2
      have t1 := shr_fact ((setF L k : Nat) : Int) j (by omega)
      have t2 := rem_nat (setF L k) j
      have hlt := sqF_lt (setF L k) i j
      have hpl := pos_le i j
      have hpn := pos_next d
      have hsn : sqF (setF L k) i (j + 1) = if (setF L k).testBit j = true then sqF (setF L k) i j + 2 ^ posF i j else sqF (setF L k) i j := by rw [sqF, if_neg d]
      have u1 := shl_i (k := posF i j) (by omega)
      have u0 := shl_0 (k := posF i j) (by omega)
      have u2 := two_lt (k := posF i j) (by omega)
      generalize posF i j = pj at *
      generalize 2 ^ pj = tp at *
      generalize sqF (setF L k) i j = w at *
      cases cb : (setF L k).testBit j with
      | true =>
        rw [cb] at t2
        rw [cb, if_pos rfl] at hsn
        have t2' : (((setF L k : Nat) : Int) / 2 ^ j).tmod 2 = 1 := t2
        simp +decide (disch := first | assumption | exact cellV_int _ _ | exact cellV_bool _ | omega | (simp only [GH.pn, GH.sn] <;> omega) | (with_reducible ((repeat (first | apply GH.ok_push | apply GH.ok_set)); assumption)) | ((try simp only [GH.push_hid, GH.set_hid]); first | assumption | (refine GH.vis ?_ ?_ <;> first | assumption | ((try simp only [GH.pn, GH.sn]) <;> omega)))) only [go_sem, ↓reduceIte, Nat.reduceEqDiff, Nat.reduceAdd, Int.reduceToNat, Int.reduceAdd, Int.reduceNeg, Int.reduceSub, Int.reduceMul, Int.reduceLT, Int.reduceLE, Int.reduceEq, ↓GH.gp_eq, ↓GH.gp_ne, ↓GH.gs_eq, ↓GH.gs_ne, GH.push_next, GH.set_next, he', hl, cj', ib_shr m1, q1, q2', hq1, hq2, t1, t2', u1]
        refine ih' (m' - 1) _ _ _ (by omega) ⟨rfl, hlo', j + 1, by omega, ?_⟩
        rw [hsn, hpn]
        exact (by simp +decide (disch := first | assumption | (apply GH.ok_push; assumption) | exact cellV_int _ _ | exact cellV_bool _ | omega) only [go_sem, ↓reduceIte, Nat.reduceEqDiff, Nat.reduceAdd, Int.reduceToNat, he']; first | done | exact rfl)
      | false =>
        rw [cb] at t2
        rw [cb, if_neg (by simp)] at hsn
        have t2' : (((setF L k : Nat) : Int) / 2 ^ j).tmod 2 = 0 := t2
        simp +decide (disch := first | assumption | exact cellV_int _ _ | exact cellV_bool _ | omega | (simp only [GH.pn, GH.sn] <;> omega) | (with_reducible ((repeat (first | apply GH.ok_push | apply GH.ok_set)); assumption)) | ((try simp only [GH.push_hid, GH.set_hid]); first | assumption | (refine GH.vis ?_ ?_ <;> first | assumption | ((try simp only [GH.pn, GH.sn]) <;> omega)))) only [go_sem, ↓reduceIte, Nat.reduceEqDiff, Nat.reduceAdd, Int.reduceToNat, Int.reduceAdd, Int.reduceNeg, Int.reduceSub, Int.reduceMul, Int.reduceLT, Int.reduceLE, Int.reduceEq, ↓GH.gp_eq, ↓GH.gp_ne, ↓GH.gs_eq, ↓GH.gs_ne, GH.push_next, GH.set_next, he', hl, cj', ib_shr m1, q1, q2', hq1, hq2, t1, t2', u0]
        refine ih' (m' - 1) _ _ _ (by omega) ⟨rfl, hlo', j + 1, by omega, ?_⟩
        rw [hsn, hpn]
        exact (by simp +decide (disch := first | assumption | (apply GH.ok_push; assumption) | exact cellV_int _ _ | exact cellV_bool _ | omega) only [go_sem, ↓reduceIte, Nat.reduceEqDiff, Nat.reduceAdd, Int.reduceToNat, he']; first | done | exact rfl)
end Go.Proofs.YtnpapnpedcbfnaaDoor
set_option maxRecDepth 100000
set_option maxHeartbeats 4000000
set_option linter.unusedSimpArgs false
set_option linter.unusedVariables false
namespace Go.Proofs.YtnpapnpedcbfnaaDoor
open Go.Ds Go.Vs
theorem size_rets {X : Caller} (hX : Xfr X) (S : Nat) (hS : S < 1024) (g : GH) : Rets Tryd.prog X 41 [.int .i64 (S : Int)] g (fun v g' lo => g.next ≤ lo ∧ v = .int .i64 (sz S : Nat)) := by
  refine Rets.run hX.pres p41 (hX.free 41 (by decide) _ _) rfl fun ho => ?_
  simp +decide (disch := first | assumption | exact cellV_int _ _ | exact cellV_bool _ | omega | (simp only [GH.pn, GH.sn] <;> omega) | (with_reducible ((repeat (first | apply GH.ok_push | apply GH.ok_set)); assumption)) | ((try simp only [GH.push_hid, GH.set_hid]); first | assumption | (refine GH.vis ?_ ?_ <;> first | assumption | ((try simp only [GH.pn, GH.sn]) <;> omega)))) only [go_sem, ↓reduceIte, Nat.reduceEqDiff, Nat.reduceAdd, Int.reduceToNat, Int.reduceAdd, Int.reduceNeg, Int.reduceSub, Int.reduceMul, Int.reduceLT, Int.reduceLE, Int.reduceEq, ↓GH.gp_eq, ↓GH.gp_ne, ↓GH.gs_eq, ↓GH.gs_ne, GH.push_next, GH.set_next]
  refine Wk.loops (fun m e g' lo => g' = g ∧ g.next ≤ lo ∧ ∃ acc : Nat, m < 1024 ∧ acc + m ≤ S ∧ acc + sz m = sz S ∧ (ev e (.s 0) = .int .i64 (m : Nat) ∧ ev e (.s 3) = .int .i64 (acc : Nat)))
    (fun e g' lo => g' = g ∧ g.next ≤ lo ∧ ev e (.s 3) = .int .i64 (sz S : Nat)) (n := S) ?_ ?_ ?_
  · exact ⟨rfl, Nat.le_refl _, 0, hS, by omega, by omega, (by simp +decide (disch := first | assumption | (apply GH.ok_push; assumption) | exact cellV_int _ _ | exact cellV_bool _ | omega) only [go_sem, ↓reduceIte, Nat.reduceEqDiff, Nat.reduceAdd, Int.reduceToNat]; first | done | exact rfl)⟩
  · rintro e g' lo - - ⟨rfl, hlo, he⟩
    simp +decide (disch := first | assumption | exact cellV_int _ _ | exact cellV_bool _ | omega | (simp only [GH.pn, GH.sn] <;> omega) | (with_reducible ((repeat (first | apply GH.ok_push | apply GH.ok_set)); assumption)) | ((try simp only [GH.push_hid, GH.set_hid]); first | assumption | (refine GH.vis ?_ ?_ <;> first | assumption | ((try simp only [GH.pn, GH.sn]) <;> omega)))) only [go_sem, ↓reduceIte, Nat.reduceEqDiff, Nat.reduceAdd, Int.reduceToNat, Int.reduceAdd, Int.reduceNeg, Int.reduceSub, Int.reduceMul, Int.reduceLT, Int.reduceLE, Int.reduceEq, ↓GH.gp_eq, ↓GH.gp_ne, ↓GH.gs_eq, ↓GH.gs_ne, GH.push_next, GH.set_next, he]
    intro hx0
    exact ⟨hlo, rfl⟩
  · rintro m e g' lo ho' hl' ih out ⟨rfl, hlo, acc, hm, hle, hsz, he⟩
    have hu := sz.eq_def m
    by_cases c : m = 0
    · subst c
      simp +decide (disch := first | assumption | exact cellV_int _ _ | exact cellV_bool _ | omega | (simp only [GH.pn, GH.sn] <;> omega) | (with_reducible ((repeat (first | apply GH.ok_push | apply GH.ok_set)); assumption)) | ((try simp only [GH.push_hid, GH.set_hid]); first | assumption | (refine GH.vis ?_ ?_ <;> first | assumption | ((try simp only [GH.pn, GH.sn]) <;> omega)))) only [go_sem, ↓reduceIte, Nat.reduceEqDiff, Nat.reduceAdd, Int.reduceToNat, Int.reduceAdd, Int.reduceNeg, Int.reduceSub, Int.reduceMul, Int.reduceLT, Int.reduceLE, Int.reduceEq, ↓GH.gp_eq, ↓GH.gp_ne, ↓GH.gs_eq, ↓GH.gs_ne, GH.push_next, GH.set_next, he]
      rw [dif_pos rfl] at hu
      refine out _ _ _ ⟨rfl, hlo, ?_⟩
      rw [← hsz, hu, Nat.add_zero]
      exact (by simp +decide (disch := first | assumption | (apply GH.ok_push; assumption) | exact cellV_int _ _ | exact cellV_bool _ | omega) only [go_sem, ↓reduceIte, Nat.reduceEqDiff, Nat.reduceAdd, Int.reduceToNat, he]; first | done | exact rfl)
    · have c' : (0 : Int) < m := by omega
      have r1 : ((m : Int)).tmod 2 = ((m % 2 : Nat) : Int) := rfl
      have r2 : ((m : Int)).tdiv 2 = ((m / 2 : Nat) : Int) := rfl
      rw [dif_neg c] at hu
      simp +decide (disch := first | assumption | exact cellV_int _ _ | exact cellV_bool _ | omega | (simp only [GH.pn, GH.sn] <;> omega) | (with_reducible ((repeat (first | apply GH.ok_push | apply GH.ok_set)); assumption)) | ((try simp only [GH.push_hid, GH.set_hid]); first | assumption | (refine GH.vis ?_ ?_ <;> first | assumption | ((try simp only [GH.pn, GH.sn]) <;> omega)))) only [go_sem, ↓reduceIte, Nat.reduceEqDiff, Nat.reduceAdd, Int.reduceToNat, Int.reduceAdd, Int.reduceNeg, Int.reduceSub, Int.reduceMul, Int.reduceLT, Int.reduceLE, Int.reduceEq, ↓GH.gp_eq, ↓GH.gp_ne, ↓GH.gs_eq, ↓GH.gs_ne, GH.push_next, GH.set_next, he, c', r1, r2]
      exact ih (m / 2) _ _ _ (by omega) ⟨rfl, hlo, acc + m % 2, by omega, by omega, by omega, (by simp +decide (disch := first | assumption | (apply GH.ok_push; assumption) | exact cellV_int _ _ | exact cellV_bool _ | omega) only [go_sem, ↓reduceIte, Nat.reduceEqDiff, Nat.reduceAdd, Int.reduceToNat, he]; first | done | exact rfl)⟩
end Go.Proofs.YtnpapnpedcbfnaaDoor
set_option maxRecDepth 100000
set_option maxHeartbeats 4000000
set_option linter.unusedSimpArgs false
set_option linter.unusedVariables false
namespace Go.Proofs.YtnpapnpedcbfnaaDoor
open Go.Ds Go.Vs
def u8s (Z : List Int) : List Value := Z.map (Value.int .u8)
theorem u8s_get {Z : List Int} {i : Nat} (h : i < Z.length) : (u8s Z)[i]? = some (.int .u8 (Z.getD i 0)) := by simp [u8s, h]
theorem cvu8 {i : Nat} (hi : i < 9223372036854775808) : convF IntKind.i64 (Value.int IntKind.u8 (i : Int)) = some (Value.int IntKind.i64 (i : Int)) := by
  show some (Value.int .i64 (wrapF .i64 (i : Int))) = _
  rw [wr64 (by omega) (by omega)]
theorem tmodN (a b : Nat) : (a : Int).tmod (b : Int) = ((a % b : Nat) : Int) := rfl
theorem rk_pc (q : Nat → Bool) : ∀ n, rkF q n = pc n q
  | 0 => rfl
  | n + 1 => by
    have ih := rk_pc q n
    have e : rkF q (n + 1) = if q n = true then rkF q n + 1 else rkF q n := rfl
    rw [e, ih]
    unfold pc
    rw [List.range_succ, List.countP_append, List.countP_singleton]
    split <;> simp
theorem pos1 {L : List Int} (hz : shopB L = true) {v l : Nat} (hv : v < 2 ^ L.length) (hl : l < L.length) (hb : v.testBit l = true) : winsV L (v : Int) (l : Int) = .tuple #[.bool (won (setF L) L.length v l), .int .i64 0] := by
  have hp : posB L (v : Int) (l : Int) = true := by
    unfold posB
    have e2 : ((2 ^ L.length : Nat) : Int) = 2 ^ L.length := by simp
    rw [decide_eq_true (p := 0 ≤ (v : Int)) (by omega), ← e2, decide_eq_true (p := (v : Int) < ((2 ^ L.length : Nat) : Int)) (Int.ofNat_lt.2 hv), decide_eq_true (p := 0 ≤ (l : Int)) (by omega), decide_eq_true (p := (l : Int) < (L.length : Int)) (by omega)]
    show bitI (v : Int) l = true
    rw [bitI_nat, hb]
  unfold winsV
  rw [hz, hp]
  rfl
theorem ledLaw_rets {X : Caller} (hX : Xok X) (L : List Int) (s mv : Value) (u : Int) (Z : List Int) (hZ : ∀ z ∈ Z, 0 ≤ z ∧ z < 256) (hu0 : 0 ≤ u) (hu1 : u < 256) (g : GH) (hT : HasTab g) (hs : SlR g s (ints L)) (hm : SlR g mv (u8s Z)) :
    Rets Tryd.prog X 9 [s, .int .u8 u, mv] g (fun v g' lo => g.next ≤ lo ∧ v = .bool true) := by
  obtain ⟨un, rfl⟩ : ∃ un : Nat, u = un := ⟨u.toNat, by omega⟩
  have hl := hs.len
  rw [ints_len] at hl
  have hml := hm.len
  rw [show (u8s Z).length = Z.length by simp [u8s]] at hml
  have hfew := fun g => few_rets hX.toXfr s (.slice none 0 0) _ 0 hl rfl g
  refine Rets.run hX.pres p9 (hX.free 9 (by decide) _ _) rfl fun ho => ?_
  simp +decide (disch := first | assumption | exact cellV_int _ _ | exact cellV_bool _ | omega | (simp only [GH.pn, GH.sn] <;> omega) | (with_reducible ((repeat (first | apply GH.ok_push | apply GH.ok_set)); assumption)) | ((try simp only [GH.push_hid, GH.set_hid]); first | assumption | (refine GH.vis ?_ ?_ <;> first | assumption | ((try simp only [GH.pn, GH.sn]) <;> omega)))) only [go_sem, ↓reduceIte, Nat.reduceEqDiff, Nat.reduceAdd, Int.reduceToNat, Int.reduceAdd, Int.reduceNeg, Int.reduceSub, Int.reduceMul, Int.reduceLT, Int.reduceLE, Int.reduceEq, ↓GH.gp_eq, ↓GH.gp_ne, ↓GH.gs_eq, ↓GH.gs_ne, GH.push_next, GH.set_next]
  refine CallD.calm (hfew g) ?_
  rintro v g1 hx1 rfl
  have hn1 := hx1.next
  have hT1 := hT.ext hx1
  cases hf : (decide (L.length ≤ 40) && decide (0 ≤ 40)) with
  | false =>
    simp +decide (disch := first | assumption | exact cellV_int _ _ | exact cellV_bool _ | omega | (simp only [GH.pn, GH.sn] <;> omega) | (with_reducible ((repeat (first | apply GH.ok_push | apply GH.ok_set)); assumption)) | ((try simp only [GH.push_hid, GH.set_hid]); first | assumption | (refine GH.vis ?_ ?_ <;> first | assumption | ((try simp only [GH.pn, GH.sn]) <;> omega)))) only [go_sem, ↓reduceIte, Nat.reduceEqDiff, Nat.reduceAdd, Int.reduceToNat, Int.reduceAdd, Int.reduceNeg, Int.reduceSub, Int.reduceMul, Int.reduceLT, Int.reduceLE, Int.reduceEq, ↓GH.gp_eq, ↓GH.gp_ne, ↓GH.gs_eq, ↓GH.gs_ne, GH.push_next, GH.set_next]
    refine CallD.calm (hX.alive g1 hT1) ?_
    rintro v g2 hx2 rfl
    have hn2 := hx2.next
    simp +decide (disch := first | assumption | exact cellV_int _ _ | exact cellV_bool _ | omega | (simp only [GH.pn, GH.sn] <;> omega) | (with_reducible ((repeat (first | apply GH.ok_push | apply GH.ok_set)); assumption)) | ((try simp only [GH.push_hid, GH.set_hid]); first | assumption | (refine GH.vis ?_ ?_ <;> first | assumption | ((try simp only [GH.pn, GH.sn]) <;> omega)))) only [go_sem, ↓reduceIte, Nat.reduceEqDiff, Nat.reduceAdd, Int.reduceToNat, Int.reduceAdd, Int.reduceNeg, Int.reduceSub, Int.reduceMul, Int.reduceLT, Int.reduceLE, Int.reduceEq, ↓GH.gp_eq, ↓GH.gp_ne, ↓GH.gs_eq, ↓GH.gs_ne, GH.push_next, GH.set_next]
    intro hx0
    exact ⟨by omega, rfl⟩
  | true =>
  rw [Bool.and_eq_true, decide_eq_true_eq, decide_eq_true_eq] at hf
  by_cases c40 : 40 < Z.length
  · have c40' : (40 : Int) < Z.length := by omega
    simp +decide (disch := first | assumption | exact cellV_int _ _ | exact cellV_bool _ | omega | (simp only [GH.pn, GH.sn] <;> omega) | (with_reducible ((repeat (first | apply GH.ok_push | apply GH.ok_set)); assumption)) | ((try simp only [GH.push_hid, GH.set_hid]); first | assumption | (refine GH.vis ?_ ?_ <;> first | assumption | ((try simp only [GH.pn, GH.sn]) <;> omega)))) only [go_sem, ↓reduceIte, Nat.reduceEqDiff, Nat.reduceAdd, Int.reduceToNat, Int.reduceAdd, Int.reduceNeg, Int.reduceSub, Int.reduceMul, Int.reduceLT, Int.reduceLE, Int.reduceEq, ↓GH.gp_eq, ↓GH.gp_ne, ↓GH.gs_eq, ↓GH.gs_ne, GH.push_next, GH.set_next, hml, c40']
    refine CallD.calm (hX.alive g1 hT1) ?_
    rintro v g2 hx2 rfl
    have hn2 := hx2.next
    simp +decide (disch := first | assumption | exact cellV_int _ _ | exact cellV_bool _ | omega | (simp only [GH.pn, GH.sn] <;> omega) | (with_reducible ((repeat (first | apply GH.ok_push | apply GH.ok_set)); assumption)) | ((try simp only [GH.push_hid, GH.set_hid]); first | assumption | (refine GH.vis ?_ ?_ <;> first | assumption | ((try simp only [GH.pn, GH.sn]) <;> omega)))) only [go_sem, ↓reduceIte, Nat.reduceEqDiff, Nat.reduceAdd, Int.reduceToNat, Int.reduceAdd, Int.reduceNeg, Int.reduceSub, Int.reduceMul, Int.reduceLT, Int.reduceLE, Int.reduceEq, ↓GH.gp_eq, ↓GH.gp_ne, ↓GH.gs_eq, ↓GH.gs_ne, GH.push_next, GH.set_next]
    intro hx0
    exact ⟨by omega, rfl⟩
  have c40' : ¬ (40 : Int) < Z.length := by omega
  simp +decide (disch := first | assumption | exact cellV_int _ _ | exact cellV_bool _ | omega | (simp only [GH.pn, GH.sn] <;> omega) | (with_reducible ((repeat (first | apply GH.ok_push | apply GH.ok_set)); assumption)) | ((try simp only [GH.push_hid, GH.set_hid]); first | assumption | (refine GH.vis ?_ ?_ <;> first | assumption | ((try simp only [GH.pn, GH.sn]) <;> omega)))) only [go_sem, ↓reduceIte, Nat.reduceEqDiff, Nat.reduceAdd, Int.reduceToNat, Int.reduceAdd, Int.reduceNeg, Int.reduceSub, Int.reduceMul, Int.reduceLT, Int.reduceLE, Int.reduceEq, ↓GH.gp_eq, ↓GH.gp_ne, ↓GH.gs_eq, ↓GH.gs_ne, GH.push_next, GH.set_next, hml, c40']
  refine CallD.calm (refIsShop_rets hX.toXfr L hf.1 s g1 (hs.ext hx1)) ?_
  rintro v g2 hx2 rfl
  have hn2 := hx2.next
  have hT2 := hT1.ext hx2
  have hk2 : Kept g g2 := hx1.kept.ext hx2
  cases hz : shopB L with
  | false =>
    simp +decide (disch := first | assumption | exact cellV_int _ _ | exact cellV_bool _ | omega | (simp only [GH.pn, GH.sn] <;> omega) | (with_reducible ((repeat (first | apply GH.ok_push | apply GH.ok_set)); assumption)) | ((try simp only [GH.push_hid, GH.set_hid]); first | assumption | (refine GH.vis ?_ ?_ <;> first | assumption | ((try simp only [GH.pn, GH.sn]) <;> omega)))) only [go_sem, ↓reduceIte, Nat.reduceEqDiff, Nat.reduceAdd, Int.reduceToNat, Int.reduceAdd, Int.reduceNeg, Int.reduceSub, Int.reduceMul, Int.reduceLT, Int.reduceLE, Int.reduceEq, ↓GH.gp_eq, ↓GH.gp_ne, ↓GH.gs_eq, ↓GH.gs_ne, GH.push_next, GH.set_next]
    refine CallD.calm (hX.alive g2 hT2) ?_
    rintro v g3 hx3 rfl
    have hn3 := hx3.next
    simp +decide (disch := first | assumption | exact cellV_int _ _ | exact cellV_bool _ | omega | (simp only [GH.pn, GH.sn] <;> omega) | (with_reducible ((repeat (first | apply GH.ok_push | apply GH.ok_set)); assumption)) | ((try simp only [GH.push_hid, GH.set_hid]); first | assumption | (refine GH.vis ?_ ?_ <;> first | assumption | ((try simp only [GH.pn, GH.sn]) <;> omega)))) only [go_sem, ↓reduceIte, Nat.reduceEqDiff, Nat.reduceAdd, Int.reduceToNat, Int.reduceAdd, Int.reduceNeg, Int.reduceSub, Int.reduceMul, Int.reduceLT, Int.reduceLE, Int.reduceEq, ↓GH.gp_eq, ↓GH.gp_ne, ↓GH.gs_eq, ↓GH.gs_ne, GH.push_next, GH.set_next]
    intro hx0
    exact ⟨by omega, rfl⟩
  | true =>
  obtain ⟨hL1, hL10, hA⟩ := shop_ok hz
  have hSy := sym_of hz
  have hLne : L ≠ [] := by rintro rfl; simp at hL1
  have hN1 : 2 ^ L.length ≤ 1024 := Nat.pow_le_pow_right (by decide) hL10
  obtain ⟨l0, hl0⟩ : ∃ l0, un % L.length = l0 := ⟨_, rfl⟩
  have hl0l : l0 < L.length := by rw [← hl0]; exact Nat.mod_lt _ (by omega)
  have t1 := tmodN un L.length
  rw [hl0] at t1
  have c1 := cvu8 (i := un) (by omega)
  have z1 : ¬ (L.length : Int) = 0 := by omega
  have s1 := shl_i (k := L.length) (by omega)
  have s2 := shl_i (k := l0) (by omega)
  have s2l := two_lt (k := l0) (by omega)
  have hv0 : 2 ^ l0 < 2 ^ L.length := Nat.pow_lt_pow_right (by decide) hl0l
  have hw1 := pos1 hz hv0 hl0l (by rw [Nat.testBit_two_pow]; simp)
  have hone := won_one hL10 hSy hl0l
  have hnb := needF_bit (setF L) L.length l0 L.length
  rw [decide_eq_true hl0l, Bool.true_and] at hnb
  have hbn := beg_need hL10 hSy
  have hnl := needF_lt (setF L) L.length L.length
  have hst : stV L = .tuple #[.int .i64 (begF (setF L) L.length L.length : Nat), .int .i64 0] := by unfold stV; rw [hz]; rfl
  have w1 := hX.wins g2 s L ((2 ^ l0 : Nat) : Int) (l0 : Int) hLne hf.1 (hs.kept hk2)
  rw [hw1] at w1
  have nd := fun (G : GH) (hk : Kept g G) => needed_rets hX L hz s G (hT.kept hk) (hs.kept hk)
  have sts := fun (G : GH) (hk : Kept g G) => hX.starts G s L hLne hf.1 (hs.kept hk)
  simp only [hst] at sts
  unfold needV at nd
  have lgs := fun (G : GH) (hk : Kept g G) => Largest_rets hX L hz s G (hT.kept hk) (hs.kept hk)
  have hmI := matI_of _ (lrg_mat (setF L) L.length (allN L.length))
  have hM := lrg_mat (setF L) L.length (allN L.length)
  have hMl := lrg_len (setF L) L.length (allN L.length)
  have hball := best_le (A := setF L) (all_lt L.length)
  have n0 : ¬ (l0 : Int) < 0 := by omega
  have r1 := shr_fact ((needF (setF L) L.length L.length : Nat) : Int) l0 (by omega)
  have r2 := rem_nat (needF (setF L) L.length L.length) l0
  rw [← hone] at r2 hnb
  have hbg : ((2 ^ L.length : Nat) : Int) - 1 - (needF (setF L) L.length L.length : Nat) = (begF (setF L) L.length L.length : Nat) := by
    rw [hbn]
    generalize 2 ^ L.length = N at *
    omega
  generalize needF (setF L) L.length L.length = ND at *
  generalize begF (setF L) L.length L.length = BG at *
  simp +decide (disch := first | assumption | exact cellV_int _ _ | exact cellV_bool _ | omega | (simp only [GH.pn, GH.sn] <;> omega) | (with_reducible ((repeat (first | apply GH.ok_push | apply GH.ok_set)); assumption)) | ((try simp only [GH.push_hid, GH.set_hid]); first | assumption | (refine GH.vis ?_ ?_ <;> first | assumption | ((try simp only [GH.pn, GH.sn]) <;> omega)))) only [go_sem, ↓reduceIte, Nat.reduceEqDiff, Nat.reduceAdd, Int.reduceToNat, Int.reduceAdd, Int.reduceNeg, Int.reduceSub, Int.reduceMul, Int.reduceLT, Int.reduceLE, Int.reduceEq, ↓GH.gp_eq, ↓GH.gp_ne, ↓GH.gs_eq, ↓GH.gs_ne, GH.push_next, GH.set_next, hl, c1, t1, z1, s2]
  refine CallD.calm w1 ?_
  rintro v g3 hx3 rfl
  have hn3 := hx3.next
  have hk3 := hk2.ext hx3
  simp +decide (disch := first | assumption | exact cellV_int _ _ | exact cellV_bool _ | omega | (simp only [GH.pn, GH.sn] <;> omega) | (with_reducible ((repeat (first | apply GH.ok_push | apply GH.ok_set)); assumption)) | ((try simp only [GH.push_hid, GH.set_hid]); first | assumption | (refine GH.vis ?_ ?_ <;> first | assumption | ((try simp only [GH.pn, GH.sn]) <;> omega)))) only [go_sem, ↓reduceIte, Nat.reduceEqDiff, Nat.reduceAdd, Int.reduceToNat, Int.reduceAdd, Int.reduceNeg, Int.reduceSub, Int.reduceMul, Int.reduceLT, Int.reduceLE, Int.reduceEq, ↓GH.gp_eq, ↓GH.gp_ne, ↓GH.gs_eq, ↓GH.gs_ne, GH.push_next, GH.set_next, ext20, ext21]
  refine CallD.calm (nd g3 hk3) ?_
  rintro v g4 hx4 rfl
  have hn4 := hx4.next
  have hk4 := hk3.ext hx4
  simp +decide (disch := first | assumption | exact cellV_int _ _ | exact cellV_bool _ | omega | (simp only [GH.pn, GH.sn] <;> omega) | (with_reducible ((repeat (first | apply GH.ok_push | apply GH.ok_set)); assumption)) | ((try simp only [GH.push_hid, GH.set_hid]); first | assumption | (refine GH.vis ?_ ?_ <;> first | assumption | ((try simp only [GH.pn, GH.sn]) <;> omega)))) only [go_sem, ↓reduceIte, Nat.reduceEqDiff, Nat.reduceAdd, Int.reduceToNat, Int.reduceAdd, Int.reduceNeg, Int.reduceSub, Int.reduceMul, Int.reduceLT, Int.reduceLE, Int.reduceEq, ↓GH.gp_eq, ↓GH.gp_ne, ↓GH.gs_eq, ↓GH.gs_ne, GH.push_next, GH.set_next, ext20, ext21]
  refine CallD.calm (sts g4 hk4) ?_
  rintro v g5 hx5 rfl
  have hn5 := hx5.next
  have hk5 := hk4.ext hx5
  simp +decide (disch := first | assumption | exact cellV_int _ _ | exact cellV_bool _ | omega | (simp only [GH.pn, GH.sn] <;> omega) | (with_reducible ((repeat (first | apply GH.ok_push | apply GH.ok_set)); assumption)) | ((try simp only [GH.push_hid, GH.set_hid]); first | assumption | (refine GH.vis ?_ ?_ <;> first | assumption | ((try simp only [GH.pn, GH.sn]) <;> omega)))) only [go_sem, ↓reduceIte, Nat.reduceEqDiff, Nat.reduceAdd, Int.reduceToNat, Int.reduceAdd, Int.reduceNeg, Int.reduceSub, Int.reduceMul, Int.reduceLT, Int.reduceLE, Int.reduceEq, ↓GH.gp_eq, ↓GH.gp_ne, ↓GH.gs_eq, ↓GH.gs_ne, GH.push_next, GH.set_next, ext20, ext21]
  refine CallD.calm (lgs g5 hk5) ?_
  rintro v g6 hx6 ⟨hok6, hk6', o, rfl, hown⟩
  have hn6 := hx6.next
  have hk6 := hk5.trans hk6'
  have hq6 := hown.read
  have hNs : ((2 ^ L.length : Nat) : Int) - 1 - (ND : Int) = (BG : Int) := hbg
  cases hW : won (setF L) L.length (2 ^ l0) l0 with
  | false =>
    rw [hW] at r2
    have r2' : ((ND : Int) / 2 ^ l0).tmod 2 = 0 := r2
    simp +decide (disch := first | assumption | exact cellV_int _ _ | exact cellV_bool _ | omega | (simp only [GH.pn, GH.sn] <;> omega) | (with_reducible ((repeat (first | apply GH.ok_push | apply GH.ok_set)); assumption)) | ((try simp only [GH.push_hid, GH.set_hid]); first | assumption | (refine GH.vis ?_ ?_ <;> first | assumption | ((try simp only [GH.pn, GH.sn]) <;> omega)))) only [go_sem, ↓reduceIte, Nat.reduceEqDiff, Nat.reduceAdd, Int.reduceToNat, Int.reduceAdd, Int.reduceNeg, Int.reduceSub, Int.reduceMul, Int.reduceLT, Int.reduceLE, Int.reduceEq, ↓GH.gp_eq, ↓GH.gp_ne, ↓GH.gs_eq, ↓GH.gs_ne, GH.push_next, GH.set_next, ext20, ext21, ib_shr n0, r1, r2', s1, hNs]
    refine CallD.calm (hX.alive g6 (hT.kept hk6)) ?_
    rintro v g7 hx7 rfl
    have hn7 := hx7.next
    simp +decide (disch := first | assumption | exact cellV_int _ _ | exact cellV_bool _ | omega | (simp only [GH.pn, GH.sn] <;> omega) | (with_reducible ((repeat (first | apply GH.ok_push | apply GH.ok_set)); assumption)) | ((try simp only [GH.push_hid, GH.set_hid]); first | assumption | (refine GH.vis ?_ ?_ <;> first | assumption | ((try simp only [GH.pn, GH.sn]) <;> omega)))) only [go_sem, ↓reduceIte, Nat.reduceEqDiff, Nat.reduceAdd, Int.reduceToNat, Int.reduceAdd, Int.reduceNeg, Int.reduceSub, Int.reduceMul, Int.reduceLT, Int.reduceLE, Int.reduceEq, ↓GH.gp_eq, ↓GH.gp_ne, ↓GH.gs_eq, ↓GH.gs_ne, GH.push_next, GH.set_next]
    intro hx0
    exact ⟨by omega, rfl⟩
  | true =>
  rw [hW] at r2 hnb
  have r2' : ((ND : Int) / 2 ^ l0).tmod 2 = 1 := r2
  have hneed0 : best (setF L) L.length (del (allN L.length) l0) < best (setF L) L.length (allN L.length) := by simpa using hnb.symm
  simp +decide (disch := first | assumption | exact cellV_int _ _ | exact cellV_bool _ | omega | (simp only [GH.pn, GH.sn] <;> omega) | (with_reducible ((repeat (first | apply GH.ok_push | apply GH.ok_set)); assumption)) | ((try simp only [GH.push_hid, GH.set_hid]); first | assumption | (refine GH.vis ?_ ?_ <;> first | assumption | ((try simp only [GH.pn, GH.sn]) <;> omega)))) only [go_sem, ↓reduceIte, Nat.reduceEqDiff, Nat.reduceAdd, Int.reduceToNat, Int.reduceAdd, Int.reduceNeg, Int.reduceSub, Int.reduceMul, Int.reduceLT, Int.reduceLE, Int.reduceEq, ↓GH.gp_eq, ↓GH.gp_ne, ↓GH.gs_eq, ↓GH.gs_ne, GH.push_next, GH.set_next, ext20, ext21, ib_shr n0, r1, r2', s1, s2, hNs]
  generalize hMe : lrg (setF L) L.length (allN L.length) = M at *
  have hall : M.filter (inS (allN L.length)) = M := List.filter_eq_self.2 fun p hp => by
    obtain ⟨q1, q2⟩ := mat_mem M hM p hp
    unfold inS
    rw [q1, q2]; rfl
  have hQ : SlQ g6 o 2 (toI M).length (cellsI (toI M)) := by
    rw [cellsI_toI, toI, List.length_map]
    exact hq6
  have hMlen : (toI M).length ≤ 1000 := by rw [toI, List.length_map, hMl]; omega
  refine Wk.loops (fun m e g' lo => g.next ≤ lo ∧ Kept g6 g' ∧ ∃ (i v l S : Nat), i + m = L.length + 1 ∧ (ev e (.s 0) = s ∧ ev e (.s 2) = mv ∧ ev e (.s 7) = .int .i64 (L.length : Int) ∧ ev e (.s 8) = .int .i64 (l : Nat) ∧ ev e (.s 15) = o ∧ ev e (.s 17) = .int .i64 (v : Nat) ∧ ev e (.s 18) = .int .i64 (i : Nat)) ∧ v < 2 ^ L.length ∧ l < L.length ∧ v.testBit l = true ∧ (∀ j, S.testBit j = (decide (j < L.length) && (!v.testBit j || decide (j = l)))) ∧ (M.filter (inS S)).length = best (setF L) L.length S ∧ best (setF L) L.length (del S l) < best (setF L) L.length S ∧ i + best (setF L) L.length S ≤ L.length)
    (fun e g' lo => False) (n := L.length + 1) ?_ ?_ ?_
  · refine ⟨by omega, Kept.refl _, 0, 2 ^ l0, l0, allN L.length, by omega, (by simp +decide (disch := first | assumption | (apply GH.ok_push; assumption) | exact cellV_int _ _ | exact cellV_bool _ | omega) only [go_sem, ↓reduceIte, Nat.reduceEqDiff, Nat.reduceAdd, Int.reduceToNat]; first | done | exact rfl), hv0, hl0l, by rw [Nat.testBit_two_pow]; simp, fun j => ?_, by rw [hall, hMl], hneed0, by omega⟩
    rw [all_bit, Nat.testBit_two_pow]
    by_cases c : j = l0
    · subst c; simp
    · have c' : ¬ l0 = j := fun h => c h.symm
      simp [c, c']
  · rintro e g' lo - - h
    exact h.elim
  · rintro m e g' lo ho' hl' ih out ⟨hlo, hk, i, v, l, S, hi, he, hv, hln, hvb, hS, hc1, hc2, hc3⟩
    have hSn : S < 2 ^ L.length := by
      apply Nat.lt_pow_two_of_testBit
      intro j hj
      rw [hS, decide_eq_false (by omega)]; rfl
    have hSl : S.testBit l = true := by rw [hS, decide_eq_true hln]; simp
    have hin : i ≤ L.length := by omega
    have hin' : (i : Int) ≤ L.length := by omega
    obtain ⟨a, ans, hSa, hal, hAla, hc1', hc3', hstep⟩ := led_step hSy hM hSn hSl hc1 hc2
    have han := bit_lt hSn hSa
    have hva : v.testBit a = false := by
      rw [hS, decide_eq_true han, decide_eq_false hal] at hSa
      simpa using hSa
    have hansV : ansV L (toI M) (l : Int) = .tuple #[.int .i64 (a : Int), .int .i64 0] := by
      unfold ansV
      rw [hz, hmI, decide_eq_true (p := 0 ≤ (l : Int)) (by omega), decide_eq_true (p := (l : Int) < (L.length : Int)) (by omega), ans]
      rfl
    have ar := answer_rets hX.toXfr L hf.1 s o (toI M) hMlen (l : Int) g' ((hs.kept hk6).kept hk) (hQ.kept hk)
    rw [hansV] at ar
    have hAl := hA l hln
    have hAa := hA a han
    have k1 : ¬ (a : Int) < 0 := by omega
    have k2 : ¬ (L.length : Int) ≤ a := by omega
    have u1 := shr_fact ((v : Nat) : Int) a (by omega)
    have u2 := rem_nat v a
    rw [hva] at u2
    have u2' : ((v : Int) / 2 ^ a).tmod 2 = 0 := u2
    have u3 := shr_fact ((setF L l : Nat) : Int) a (by omega)
    have u4 := rem_nat (setF L l) a
    rw [hAla] at u4
    have u4' : ((setF L l : Int) / 2 ^ a).tmod 2 = 1 := u4
    have sa := shl_i (k := a) (by omega)
    have sal := two_lt (k := a) (by omega)
    have oa := or_i (a := v) (b := 2 ^ a) (by omega) (by omega)
    obtain ⟨v1, hv1⟩ : ∃ v1, v ||| 2 ^ a = v1 := ⟨_, rfl⟩
    have hv1l : v1 < 2 ^ L.length := by rw [← hv1]; exact or_lt hv han
    have hv1b : ∀ j, v1.testBit j = (v.testBit j || decide (a = j)) := fun j => by rw [← hv1, Nat.testBit_or, Nat.testBit_two_pow]
    rw [hv1] at oa
    have hAal := hAa.2.1
    have am := andn_i (a := setF L a) (b := v1) (by omega) (by omega)
    have hmb : ∀ j, j < L.length → (andn (setF L a) v1).testBit j = ((setF L a).testBit j && !v1.testBit j) := fun j hj => andn_bit (by omega) (by omega)
    have hmle := andn_le (setF L a) v1
    obtain ⟨may, hmay⟩ : ∃ may, andn (setF L a) v1 = may := ⟨_, rfl⟩
    rw [hmay] at am hmb hmle
    have hsz := size_rets hX.toXfr may (by omega)
    have hszp := sz_pc L.length may (by omega)
    obtain ⟨q, hqd⟩ : ∃ q : Nat → Bool, q = may.testBit := ⟨_, rfl⟩
    have hqe : ∀ k, q k = may.testBit k := fun k => by rw [hqd]
    have hrkp := rk_pc q L.length
    rw [hqd, ← hszp, ← hqd] at hrkp
    have hnext : ∀ k, k < L.length → may.testBit k = true → (v1 ||| 2 ^ k < 2 ^ L.length) ∧ (v1 ||| 2 ^ k).testBit k = true ∧ (∀ j, (del (del S l) a).testBit j = (decide (j < L.length) && (!(v1 ||| 2 ^ k).testBit j || decide (j = k)))) ∧ (M.filter (inS (del (del S l) a))).length = best (setF L) L.length (del (del S l) a) := fun k hkn hkm => by
      have h1 := hmb k hkn
      rw [hkm] at h1
      have h2 : v1.testBit k = false := by
        cases c : v1.testBit k with
        | false => rfl
        | true => rw [c] at h1; simp at h1
      refine ⟨or_lt hv1l hkn, by rw [Nat.testBit_or, Nat.testBit_two_pow]; simp, fun j => ?_, hc1'⟩
      rw [del_bit, del_bit, hS, Nat.testBit_or, Nat.testBit_two_pow, hv1b]
      rw [hv1b] at h2
      rw [Bool.or_eq_false_iff] at h2
      by_cases d1 : j = k
      · subst d1
        have e1 : j ≠ l := by rintro rfl; rw [hvb] at h2; cases h2.1
        have e2 : j ≠ a := by rintro rfl; simp at h2
        rw [h2.1]; simp [e1, e2]
      · have d1' : ¬ k = j := fun h => d1 h.symm
        by_cases d2 : j = l
        · subst d2; rw [hvb]; simp [d1, d1']
        · by_cases d3 : j = a
          · subst d3; simp [d1, d1']
          · have d3' : ¬ a = j := fun h => d3 h.symm
            simp [d1, d1', d2, d3, d3']
    have hstep : ∀ k, may.testBit k = true → k < L.length → best (setF L) L.length (del (del (del S l) a) k) < best (setF L) L.length (del (del S l) a) := fun k hkm hkn => by
      have h1 := hmb k hkn
      rw [hkm] at h1
      have h1 := h1.symm
      rw [Bool.and_eq_true, Bool.not_eq_true', hv1b, Bool.or_eq_false_iff] at h1
      obtain ⟨g1, g2, g3⟩ := h1
      have e1 : k ≠ l := by rintro rfl; rw [hvb] at g2; cases g2
      have e2 : k ≠ a := by rintro rfl; simp at g3
      exact hstep k (by rw [hS, decide_eq_true hkn, g2]; rfl) e1 e2 g1
    simp +decide (disch := first | assumption | exact cellV_int _ _ | exact cellV_bool _ | omega | (simp only [GH.pn, GH.sn] <;> omega) | (with_reducible ((repeat (first | apply GH.ok_push | apply GH.ok_set)); assumption)) | ((try simp only [GH.push_hid, GH.set_hid]); first | assumption | (refine GH.vis ?_ ?_ <;> first | assumption | ((try simp only [GH.pn, GH.sn]) <;> omega)))) only [go_sem, ↓reduceIte, Nat.reduceEqDiff, Nat.reduceAdd, Int.reduceToNat, Int.reduceAdd, Int.reduceNeg, Int.reduceSub, Int.reduceMul, Int.reduceLT, Int.reduceLE, Int.reduceEq, ↓GH.gp_eq, ↓GH.gp_ne, ↓GH.gs_eq, ↓GH.gs_ne, GH.push_next, GH.set_next, he, hin']
    refine CallD.calm ar ?_
    rintro w g7 hx7 rfl
    have hn7 := hx7.next
    have hk7 := hk.ext hx7
    have hkg := hk.next
    obtain ⟨j2, o2, hj2, hq1, hq2⟩ := ((hs.kept hk6).kept hk7).ptr (ints_get (D := L) (i := l) hln)
    have hq1 := hq1 (l : Int) rfl
    rw [hAl.1] at hq2
    obtain ⟨j3, o3, hj3, hq3, hq4⟩ := ((hs.kept hk6).kept hk7).ptr (ints_get (D := L) (i := a) han)
    have hq3 := hq3 (a : Int) rfl
    rw [hAa.1] at hq4
    simp +decide (disch := first | assumption | exact cellV_int _ _ | exact cellV_bool _ | omega | (simp only [GH.pn, GH.sn] <;> omega) | (with_reducible ((repeat (first | apply GH.ok_push | apply GH.ok_set)); assumption)) | ((try simp only [GH.push_hid, GH.set_hid]); first | assumption | (refine GH.vis ?_ ?_ <;> first | assumption | ((try simp only [GH.pn, GH.sn]) <;> omega)))) only [go_sem, ↓reduceIte, Nat.reduceEqDiff, Nat.reduceAdd, Int.reduceToNat, Int.reduceAdd, Int.reduceNeg, Int.reduceSub, Int.reduceMul, Int.reduceLT, Int.reduceLE, Int.reduceEq, ↓GH.gp_eq, ↓GH.gp_ne, ↓GH.gs_eq, ↓GH.gs_ne, GH.push_next, GH.set_next, he, ext20, ext21, k1, k2, ib_shr k1, u1, u2', hq1, hq2, u3, u4', sa, oa, hq3, hq4, am]
    by_cases cm : may = 0
    · have cm' : (may : Int) = 0 := by omega
      simp +decide (disch := first | assumption | exact cellV_int _ _ | exact cellV_bool _ | omega | (simp only [GH.pn, GH.sn] <;> omega) | (with_reducible ((repeat (first | apply GH.ok_push | apply GH.ok_set)); assumption)) | ((try simp only [GH.push_hid, GH.set_hid]); first | assumption | (refine GH.vis ?_ ?_ <;> first | assumption | ((try simp only [GH.pn, GH.sn]) <;> omega)))) only [go_sem, ↓reduceIte, Nat.reduceEqDiff, Nat.reduceAdd, Int.reduceToNat, Int.reduceAdd, Int.reduceNeg, Int.reduceSub, Int.reduceMul, Int.reduceLT, Int.reduceLE, Int.reduceEq, ↓GH.gp_eq, ↓GH.gp_ne, ↓GH.gs_eq, ↓GH.gs_ne, GH.push_next, GH.set_next, he, cm']
      refine CallD.calm (hX.alive g7 ((hT.kept hk6).kept hk7)) ?_
      rintro w g8 hx8 rfl
      have hn8 := hx8.next
      simp +decide (disch := first | assumption | exact cellV_int _ _ | exact cellV_bool _ | omega | (simp only [GH.pn, GH.sn] <;> omega) | (with_reducible ((repeat (first | apply GH.ok_push | apply GH.ok_set)); assumption)) | ((try simp only [GH.push_hid, GH.set_hid]); first | assumption | (refine GH.vis ?_ ?_ <;> first | assumption | ((try simp only [GH.pn, GH.sn]) <;> omega)))) only [go_sem, ↓reduceIte, Nat.reduceEqDiff, Nat.reduceAdd, Int.reduceToNat, Int.reduceAdd, Int.reduceNeg, Int.reduceSub, Int.reduceMul, Int.reduceLT, Int.reduceLE, Int.reduceEq, ↓GH.gp_eq, ↓GH.gp_ne, ↓GH.gs_eq, ↓GH.gs_ne, GH.push_next, GH.set_next]
      intro hx0
      exact ⟨by omega, rfl⟩
    have cm' : ¬ (may : Int) = 0 := by omega
    have hszle : sz may ≤ L.length := by
      rw [hszp, pc]
      have := List.countP_le_length (p := may.testBit) (l := List.range L.length)
      rwa [List.length_range] at this
    have hszpos : 0 < sz may := by
      rcases Nat.eq_zero_or_pos (sz may) with h | h
      · exfalso
        apply cm
        apply Nat.eq_of_testBit_eq
        intro j
        rw [Nat.zero_testBit]
        rw [hszp, pc, List.countP_eq_zero] at h
        rcases Nat.lt_or_ge j L.length with c | c
        · have := h j (List.mem_range.2 c)
          simpa using this
        · exact Nat.testBit_lt_two_pow (Nat.lt_of_lt_of_le (show may < 2 ^ L.length by omega) (Nat.pow_le_pow_right (by decide) c))
      · exact h
    by_cases ci : i < Z.length
    · have ci' : (i : Int) < Z.length := by omega
      obtain ⟨zn, hzn⟩ : ∃ zn : Nat, Z.getD i 0 = zn := by
        have := hZ (Z.getD i 0) (by rw [List.getD_eq_getElem?_getD, List.getElem?_eq_getElem ci]; exact List.getElem_mem ci)
        exact ⟨(Z.getD i 0).toNat, by omega⟩
      have hzb : zn < 256 := by
        have := hZ (Z.getD i 0) (by rw [List.getD_eq_getElem?_getD, List.getElem?_eq_getElem ci]; exact List.getElem_mem ci)
        omega
      obtain ⟨j4, o4, hj4, hq5, hq6⟩ := ((hm.kept hk6).kept hk7).ptr (u8s_get (Z := Z) (i := i) ci)
      have hq5 := hq5 (i : Int) rfl
      rw [hzn] at hq6
      have cz := cvu8 (i := zn) (by omega)
      have tz := tmodN zn (sz may)
      have hby : zn % sz may < sz may := Nat.mod_lt _ hszpos
      have zz : ¬ (sz may : Int) = 0 := by omega
      simp +decide (disch := first | assumption | exact cellV_int _ _ | exact cellV_bool _ | omega | (simp only [GH.pn, GH.sn] <;> omega) | (with_reducible ((repeat (first | apply GH.ok_push | apply GH.ok_set)); assumption)) | ((try simp only [GH.push_hid, GH.set_hid]); first | assumption | (refine GH.vis ?_ ?_ <;> first | assumption | ((try simp only [GH.pn, GH.sn]) <;> omega)))) only [go_sem, ↓reduceIte, Nat.reduceEqDiff, Nat.reduceAdd, Int.reduceToNat, Int.reduceAdd, Int.reduceNeg, Int.reduceSub, Int.reduceMul, Int.reduceLT, Int.reduceLE, Int.reduceEq, ↓GH.gp_eq, ↓GH.gp_ne, ↓GH.gs_eq, ↓GH.gs_ne, GH.push_next, GH.set_next, he, cm', hml, ci', hq5, hq6, cz]
      refine CallD.calmH (by simp [spansOf, spanAt, blt_d]) rfl (hsz g7) ?_
      rintro w g8 hx8 rfl
      have hn8 := hx8.next
      have hk8 := hk7.ext hx8
      have he1 := he
      obtain ⟨BY0, hBY0⟩ : ∃ b, zn % sz may = b := ⟨_, rfl⟩
      rw [hBY0] at tz hby

      simp +decide (disch := first | assumption | exact cellV_int _ _ | exact cellV_bool _ | omega | (simp only [GH.pn, GH.sn] <;> omega) | (with_reducible ((repeat (first | apply GH.ok_push | apply GH.ok_set)); assumption)) | ((try simp only [GH.push_hid, GH.set_hid]); first | assumption | (refine GH.vis ?_ ?_ <;> first | assumption | ((try simp only [GH.pn, GH.sn]) <;> omega)))) only [go_sem, ↓reduceIte, Nat.reduceEqDiff, Nat.reduceAdd, Int.reduceToNat, Int.reduceAdd, Int.reduceNeg, Int.reduceSub, Int.reduceMul, Int.reduceLT, Int.reduceLE, Int.reduceEq, ↓GH.gp_eq, ↓GH.gp_ne, ↓GH.gs_eq, ↓GH.gs_ne, GH.push_next, GH.set_next, he1, zz, tz]
      refine Wk.loops (fun m' e' g'' lo' => g'' = g8 ∧ g.next ≤ lo' ∧ ∃ k b : Nat, k + m' = L.length ∧ b + rkF q k = BY0 ∧ (ev e' (.s 0) = s ∧ ev e' (.s 2) = mv ∧ ev e' (.s 7) = .int .i64 (L.length : Int) ∧ ev e' (.s 15) = o ∧ ev e' (.s 17) = .int .i64 (v1 : Nat) ∧ ev e' (.s 18) = .int .i64 (i : Nat) ∧ ev e' (.s 21) = .int .i64 (may : Nat) ∧ ev e' (.s 22) = .int .i64 (b : Nat) ∧ ev e' (.s 23) = .int .i64 (k : Nat)))
        (fun e' g'' lo' => g'' = g8 ∧ g.next ≤ lo' ∧ ∃ k : Nat, k < L.length ∧ may.testBit k = true ∧ (ev e' (.s 0) = s ∧ ev e' (.s 2) = mv ∧ ev e' (.s 7) = .int .i64 (L.length : Int) ∧ ev e' (.s 8) = .int .i64 (k : Nat) ∧ ev e' (.s 15) = o ∧ ev e' (.s 17) = .int .i64 (v1 : Nat) ∧ ev e' (.s 18) = .int .i64 (i : Nat))) (n := L.length) ?_ ?_ ?_
      · exact ⟨rfl, by omega, 0, BY0, by omega, rfl, (by simp +decide (disch := first | assumption | (apply GH.ok_push; assumption) | exact cellV_int _ _ | exact cellV_bool _ | omega) only [go_sem, ↓reduceIte, Nat.reduceEqDiff, Nat.reduceAdd, Int.reduceToNat, he1]; first | done | exact rfl)⟩
      · rintro e' g'' lo' - - ⟨rfl, hlo', k, hkn, hkm, he'⟩
        obtain ⟨w1, w2, w3, w4⟩ := hnext k hkn hkm
        have sk := shl_i (k := k) (by omega)
        have skl := two_lt (k := k) (by omega)
        have ok1 := or_i (a := v1) (b := 2 ^ k) (by omega) (by omega)
        simp +decide (disch := first | assumption | exact cellV_int _ _ | exact cellV_bool _ | omega | (simp only [GH.pn, GH.sn] <;> omega) | (with_reducible ((repeat (first | apply GH.ok_push | apply GH.ok_set)); assumption)) | ((try simp only [GH.push_hid, GH.set_hid]); first | assumption | (refine GH.vis ?_ ?_ <;> first | assumption | ((try simp only [GH.pn, GH.sn]) <;> omega)))) only [go_sem, ↓reduceIte, Nat.reduceEqDiff, Nat.reduceAdd, Int.reduceToNat, Int.reduceAdd, Int.reduceNeg, Int.reduceSub, Int.reduceMul, Int.reduceLT, Int.reduceLE, Int.reduceEq, ↓GH.gp_eq, ↓GH.gp_ne, ↓GH.gs_eq, ↓GH.gs_ne, GH.push_next, GH.set_next, he', sk, ok1]
        refine ih (m - 1) _ _ _ (by omega) ⟨hlo', hk8, i + 1, v1 ||| 2 ^ k, k, del (del S l) a, by omega, (by simp +decide (disch := first | assumption | (apply GH.ok_push; assumption) | exact cellV_int _ _ | exact cellV_bool _ | omega) only [go_sem, ↓reduceIte, Nat.reduceEqDiff, Nat.reduceAdd, Int.reduceToNat, he']; first | done | exact rfl), w1, hkn, w2, w3, w4, hstep k hkm hkn, by omega⟩
      · rintro m' e' g'' lo' ho'' hl'' ih' out' ⟨rfl, hlo', k, b, hkm, hbk, he'⟩
        by_cases ck : k < L.length
        case neg =>
          exfalso
          have : k = L.length := by omega
          subst this
          omega
        have ck' : (k : Int) < L.length := by omega
        have n1 : ¬ (k : Int) < 0 := by omega
        have r1 := shr_fact ((may : Nat) : Int) k (by omega)
        have r2 := rem_nat may k
        have hrk : rkF q (k + 1) = if q k = true then rkF q k + 1 else rkF q k := rfl
        rw [hqe k] at hrk
        cases hb : may.testBit k with
        | false =>
          rw [hb] at r2 hrk
          rw [if_neg (by simp)] at hrk
          have r2' : ((may : Int) / 2 ^ k).tmod 2 = 0 := r2
          simp +decide (disch := first | assumption | exact cellV_int _ _ | exact cellV_bool _ | omega | (simp only [GH.pn, GH.sn] <;> omega) | (with_reducible ((repeat (first | apply GH.ok_push | apply GH.ok_set)); assumption)) | ((try simp only [GH.push_hid, GH.set_hid]); first | assumption | (refine GH.vis ?_ ?_ <;> first | assumption | ((try simp only [GH.pn, GH.sn]) <;> omega)))) only [go_sem, ↓reduceIte, Nat.reduceEqDiff, Nat.reduceAdd, Int.reduceToNat, Int.reduceAdd, Int.reduceNeg, Int.reduceSub, Int.reduceMul, Int.reduceLT, Int.reduceLE, Int.reduceEq, ↓GH.gp_eq, ↓GH.gp_ne, ↓GH.gs_eq, ↓GH.gs_ne, GH.push_next, GH.set_next, he', ck', ib_shr n1, r1, r2']
          exact ih' (m' - 1) _ _ _ (by omega) ⟨rfl, hlo', k + 1, b, by omega, by omega, (by simp +decide (disch := first | assumption | (apply GH.ok_push; assumption) | exact cellV_int _ _ | exact cellV_bool _ | omega) only [go_sem, ↓reduceIte, Nat.reduceEqDiff, Nat.reduceAdd, Int.reduceToNat, he']; first | done | exact rfl)⟩
        | true =>
          rw [hb] at r2 hrk
          rw [if_pos rfl] at hrk
          have r2' : ((may : Int) / 2 ^ k).tmod 2 = 1 := r2
          by_cases cb : b = 0
          · have cb' : (b : Int) = 0 := by omega
            simp +decide (disch := first | assumption | exact cellV_int _ _ | exact cellV_bool _ | omega | (simp only [GH.pn, GH.sn] <;> omega) | (with_reducible ((repeat (first | apply GH.ok_push | apply GH.ok_set)); assumption)) | ((try simp only [GH.push_hid, GH.set_hid]); first | assumption | (refine GH.vis ?_ ?_ <;> first | assumption | ((try simp only [GH.pn, GH.sn]) <;> omega)))) only [go_sem, ↓reduceIte, Nat.reduceEqDiff, Nat.reduceAdd, Int.reduceToNat, Int.reduceAdd, Int.reduceNeg, Int.reduceSub, Int.reduceMul, Int.reduceLT, Int.reduceLE, Int.reduceEq, ↓GH.gp_eq, ↓GH.gp_ne, ↓GH.gs_eq, ↓GH.gs_ne, GH.push_next, GH.set_next, he', ck', ib_shr n1, r1, r2', cb']
            exact out' _ _ _ ⟨rfl, hlo', k, ck, hb, (by simp +decide (disch := first | assumption | (apply GH.ok_push; assumption) | exact cellV_int _ _ | exact cellV_bool _ | omega) only [go_sem, ↓reduceIte, Nat.reduceEqDiff, Nat.reduceAdd, Int.reduceToNat, he']; first | done | exact rfl)⟩
          · have cb' : ¬ (b : Int) = 0 := by omega
            have hbs : ((b - 1 : Nat) : Int) = (b : Int) - 1 := by omega
            simp +decide (disch := first | assumption | exact cellV_int _ _ | exact cellV_bool _ | omega | (simp only [GH.pn, GH.sn] <;> omega) | (with_reducible ((repeat (first | apply GH.ok_push | apply GH.ok_set)); assumption)) | ((try simp only [GH.push_hid, GH.set_hid]); first | assumption | (refine GH.vis ?_ ?_ <;> first | assumption | ((try simp only [GH.pn, GH.sn]) <;> omega)))) only [go_sem, ↓reduceIte, Nat.reduceEqDiff, Nat.reduceAdd, Int.reduceToNat, Int.reduceAdd, Int.reduceNeg, Int.reduceSub, Int.reduceMul, Int.reduceLT, Int.reduceLE, Int.reduceEq, ↓GH.gp_eq, ↓GH.gp_ne, ↓GH.gs_eq, ↓GH.gs_ne, GH.push_next, GH.set_next, he', ck', ib_shr n1, r1, r2', cb']
            refine ih' (m' - 1) _ _ _ (by omega) ⟨rfl, hlo', k + 1, b - 1, by omega, by omega, ?_⟩
            rw [hbs]
            exact (by simp +decide (disch := first | assumption | (apply GH.ok_push; assumption) | exact cellV_int _ _ | exact cellV_bool _ | omega) only [go_sem, ↓reduceIte, Nat.reduceEqDiff, Nat.reduceAdd, Int.reduceToNat, he']; first | done | exact rfl)
    · have ci' : ¬ (i : Int) < Z.length := by omega
      have he1 := he
      have hby : 0 < sz may := hszpos
      obtain ⟨BY0, hBY0⟩ : ∃ b : Nat, 0 = b := ⟨_, rfl⟩
      have hBYi : (0 : Int) = (BY0 : Int) := by omega

      simp +decide (disch := first | assumption | exact cellV_int _ _ | exact cellV_bool _ | omega | (simp only [GH.pn, GH.sn] <;> omega) | (with_reducible ((repeat (first | apply GH.ok_push | apply GH.ok_set)); assumption)) | ((try simp only [GH.push_hid, GH.set_hid]); first | assumption | (refine GH.vis ?_ ?_ <;> first | assumption | ((try simp only [GH.pn, GH.sn]) <;> omega)))) only [go_sem, ↓reduceIte, Nat.reduceEqDiff, Nat.reduceAdd, Int.reduceToNat, Int.reduceAdd, Int.reduceNeg, Int.reduceSub, Int.reduceMul, Int.reduceLT, Int.reduceLE, Int.reduceEq, ↓GH.gp_eq, ↓GH.gp_ne, ↓GH.gs_eq, ↓GH.gs_ne, GH.push_next, GH.set_next, he1, cm', hml, ci']
      refine Wk.loops (fun m' e' g'' lo' => g'' = g7 ∧ g.next ≤ lo' ∧ ∃ k b : Nat, k + m' = L.length ∧ b + rkF q k = 0 ∧ (ev e' (.s 0) = s ∧ ev e' (.s 2) = mv ∧ ev e' (.s 7) = .int .i64 (L.length : Int) ∧ ev e' (.s 15) = o ∧ ev e' (.s 17) = .int .i64 (v1 : Nat) ∧ ev e' (.s 18) = .int .i64 (i : Nat) ∧ ev e' (.s 21) = .int .i64 (may : Nat) ∧ ev e' (.s 22) = .int .i64 (b : Nat) ∧ ev e' (.s 23) = .int .i64 (k : Nat)))
        (fun e' g'' lo' => g'' = g7 ∧ g.next ≤ lo' ∧ ∃ k : Nat, k < L.length ∧ may.testBit k = true ∧ (ev e' (.s 0) = s ∧ ev e' (.s 2) = mv ∧ ev e' (.s 7) = .int .i64 (L.length : Int) ∧ ev e' (.s 8) = .int .i64 (k : Nat) ∧ ev e' (.s 15) = o ∧ ev e' (.s 17) = .int .i64 (v1 : Nat) ∧ ev e' (.s 18) = .int .i64 (i : Nat))) (n := L.length) ?_ ?_ ?_
      · exact ⟨rfl, by omega, 0, 0, by omega, rfl, (by simp +decide (disch := first | assumption | (apply GH.ok_push; assumption) | exact cellV_int _ _ | exact cellV_bool _ | omega) only [go_sem, ↓reduceIte, Nat.reduceEqDiff, Nat.reduceAdd, Int.reduceToNat, he1]; first | done | exact rfl)⟩
      · rintro e' g'' lo' - - ⟨rfl, hlo', k, hkn, hkm, he'⟩
        obtain ⟨w1, w2, w3, w4⟩ := hnext k hkn hkm
        have sk := shl_i (k := k) (by omega)
        have skl := two_lt (k := k) (by omega)
        have ok1 := or_i (a := v1) (b := 2 ^ k) (by omega) (by omega)
        simp +decide (disch := first | assumption | exact cellV_int _ _ | exact cellV_bool _ | omega | (simp only [GH.pn, GH.sn] <;> omega) | (with_reducible ((repeat (first | apply GH.ok_push | apply GH.ok_set)); assumption)) | ((try simp only [GH.push_hid, GH.set_hid]); first | assumption | (refine GH.vis ?_ ?_ <;> first | assumption | ((try simp only [GH.pn, GH.sn]) <;> omega)))) only [go_sem, ↓reduceIte, Nat.reduceEqDiff, Nat.reduceAdd, Int.reduceToNat, Int.reduceAdd, Int.reduceNeg, Int.reduceSub, Int.reduceMul, Int.reduceLT, Int.reduceLE, Int.reduceEq, ↓GH.gp_eq, ↓GH.gp_ne, ↓GH.gs_eq, ↓GH.gs_ne, GH.push_next, GH.set_next, he', sk, ok1]
        refine ih (m - 1) _ _ _ (by omega) ⟨hlo', hk7, i + 1, v1 ||| 2 ^ k, k, del (del S l) a, by omega, (by simp +decide (disch := first | assumption | (apply GH.ok_push; assumption) | exact cellV_int _ _ | exact cellV_bool _ | omega) only [go_sem, ↓reduceIte, Nat.reduceEqDiff, Nat.reduceAdd, Int.reduceToNat, he']; first | done | exact rfl), w1, hkn, w2, w3, w4, hstep k hkm hkn, by omega⟩
      · rintro m' e' g'' lo' ho'' hl'' ih' out' ⟨rfl, hlo', k, b, hkm, hbk, he'⟩
        by_cases ck : k < L.length
        case neg =>
          exfalso
          have : k = L.length := by omega
          subst this
          omega
        have ck' : (k : Int) < L.length := by omega
        have n1 : ¬ (k : Int) < 0 := by omega
        have r1 := shr_fact ((may : Nat) : Int) k (by omega)
        have r2 := rem_nat may k
        have hrk : rkF q (k + 1) = if q k = true then rkF q k + 1 else rkF q k := rfl
        rw [hqe k] at hrk
        cases hb : may.testBit k with
        | false =>
          rw [hb] at r2 hrk
          rw [if_neg (by simp)] at hrk
          have r2' : ((may : Int) / 2 ^ k).tmod 2 = 0 := r2
          simp +decide (disch := first | assumption | exact cellV_int _ _ | exact cellV_bool _ | omega | (simp only [GH.pn, GH.sn] <;> omega) | (with_reducible ((repeat (first | apply GH.ok_push | apply GH.ok_set)); assumption)) | ((try simp only [GH.push_hid, GH.set_hid]); first | assumption | (refine GH.vis ?_ ?_ <;> first | assumption | ((try simp only [GH.pn, GH.sn]) <;> omega)))) only [go_sem, ↓reduceIte, Nat.reduceEqDiff, Nat.reduceAdd, Int.reduceToNat, Int.reduceAdd, Int.reduceNeg, Int.reduceSub, Int.reduceMul, Int.reduceLT, Int.reduceLE, Int.reduceEq, ↓GH.gp_eq, ↓GH.gp_ne, ↓GH.gs_eq, ↓GH.gs_ne, GH.push_next, GH.set_next, he', ck', ib_shr n1, r1, r2']
          exact ih' (m' - 1) _ _ _ (by omega) ⟨rfl, hlo', k + 1, b, by omega, by omega, (by simp +decide (disch := first | assumption | (apply GH.ok_push; assumption) | exact cellV_int _ _ | exact cellV_bool _ | omega) only [go_sem, ↓reduceIte, Nat.reduceEqDiff, Nat.reduceAdd, Int.reduceToNat, he']; first | done | exact rfl)⟩
        | true =>
          rw [hb] at r2 hrk
          rw [if_pos rfl] at hrk
          have r2' : ((may : Int) / 2 ^ k).tmod 2 = 1 := r2
          by_cases cb : b = 0
          · have cb' : (b : Int) = 0 := by omega
            simp +decide (disch := first | assumption | exact cellV_int _ _ | exact cellV_bool _ | omega | (simp only [GH.pn, GH.sn] <;> omega) | (with_reducible ((repeat (first | apply GH.ok_push | apply GH.ok_set)); assumption)) | ((try simp only [GH.push_hid, GH.set_hid]); first | assumption | (refine GH.vis ?_ ?_ <;> first | assumption | ((try simp only [GH.pn, GH.sn]) <;> omega)))) only [go_sem, ↓reduceIte, Nat.reduceEqDiff, Nat.reduceAdd, Int.reduceToNat, Int.reduceAdd, Int.reduceNeg, Int.reduceSub, Int.reduceMul, Int.reduceLT, Int.reduceLE, Int.reduceEq, ↓GH.gp_eq, ↓GH.gp_ne, ↓GH.gs_eq, ↓GH.gs_ne, GH.push_next, GH.set_next, he', ck', ib_shr n1, r1, r2', cb']
            exact out' _ _ _ ⟨rfl, hlo', k, ck, hb, (by simp +decide (disch := first | assumption | (apply GH.ok_push; assumption) | exact cellV_int _ _ | exact cellV_bool _ | omega) only [go_sem, ↓reduceIte, Nat.reduceEqDiff, Nat.reduceAdd, Int.reduceToNat, he']; first | done | exact rfl)⟩
          · exfalso; omega
end Go.Proofs.YtnpapnpedcbfnaaDoor
