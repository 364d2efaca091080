import Derived.Test.YtnpapnpedcbfnaaDoorJ2
import Derived.Test.YtnpapnpedcbfnaaDoorJ1
import Derived.Test.YtnpapnpedcbfnaaDoorKc
import Derived.Test.YtnpapnpedcbfnaaDoorKr
set_option linter.all false
set_option linter.unusedSimpArgs false
set_option linter.unnecessarySimpa false
set_option linter.unusedVariables false
set_option linter.unusedSectionVars false
set_option linter.unusedVariables false
namespace Go.Proofs.YtnpapnpedcbfnaaDoor
open Go.Vs
/-! ## Pairs that are a matching -/
theorem scan_mat {L : List Int} : ∀ (P : List (Int × Int)) (last : Int) (tk s : Nat), -1 ≤ last → (∀ j, s.testBit j = (decide (j < L.length) && decide (last < (j : Int)) && !tk.testBit j)) → scanM L P last tk = true → ∃ Q, P = toI Q ∧ mat (setF L) s Q = true
  | [], last, tk, s, _, _, _ => ⟨[], rfl, rfl⟩
  | (x, y) :: P, last, tk, s, hl, hs, h => by
    have h : (goodP L last tk x y && scanM L P x (tk ||| 2 ^ x.toNat ||| 2 ^ y.toNat)) = true := h
    rw [Bool.and_eq_true] at h
    obtain ⟨h1, h2⟩ := h
    unfold goodP at h1
    simp only [Bool.and_eq_true, decide_eq_true_eq, Bool.not_eq_true'] at h1
    obtain ⟨⟨⟨⟨⟨q1, q2⟩, q3⟩, q4⟩, q5⟩, q6⟩ := h1
    obtain ⟨a, rfl⟩ : ∃ a : Nat, x = a := ⟨x.toNat, by omega⟩
    obtain ⟨b, rfl⟩ : ∃ b : Nat, y = b := ⟨y.toNat, by omega⟩
    simp only [Int.toNat_natCast] at q4 q5 q6 h2
    obtain ⟨Q, hQ, hm⟩ := scan_mat P a (tk ||| 2 ^ a ||| 2 ^ b) (del (up s a) b) (by omega) (fun j => by
      rw [del_bit, up_bit, hs, Nat.testBit_or, Nat.testBit_or]
      by_cases c1 : j < L.length
      · by_cases c2 : a < j
        · have e1 : (2 ^ a).testBit j = false := Nat.testBit_two_pow_of_ne (by omega)
          rw [decide_eq_true c1, decide_eq_true (p := last < (j : Int)) (by omega), decide_eq_true c2, decide_eq_true (p := (a : Int) < j) (by omega), e1]
          by_cases c3 : j = b
          · subst c3; rw [Nat.testBit_two_pow_self]; simp
          · rw [Nat.testBit_two_pow_of_ne (Ne.symm c3)]; simp [c3]
        · rw [decide_eq_false c2, decide_eq_false (p := (a : Int) < j) (by omega)]; simp
      · rw [decide_eq_false c1]; simp) h2
    refine ⟨(a, b) :: Q, by rw [hQ]; rfl, mat_mk (by omega) ?_ ?_ q4 hm⟩
    · rw [hs, q5, decide_eq_true (p := a < L.length) (by omega), decide_eq_true (p := last < (a : Int)) (by omega)]; rfl
    · rw [hs, q6, decide_eq_true (p := b < L.length) (by omega), decide_eq_true (p := last < (b : Int)) (by omega)]; rfl
theorem matI_mat {L : List Int} {P : List (Int × Int)} (h : matI L P = true) : ∃ Q, P = toI Q ∧ mat (setF L) (allN L.length) Q = true :=
  scan_mat P (-1) 0 (allN L.length) (by omega) (fun j => by
    rw [all_bit, decide_eq_true (p := (-1 : Int) < (j : Int)) (by omega)]
    simp) h
theorem all_lt (n : Nat) : allN n < 2 ^ n := by unfold allN; have := Nat.two_pow_pos n; omega
end Go.Proofs.YtnpapnpedcbfnaaDoor
set_option linter.unusedVariables false
namespace Go.Proofs.YtnpapnpedcbfnaaDoor
open Go.Vs
/-! ## How many members -/
def pc (n : Nat) (p : Nat → Bool) : Nat := (List.range n).countP p
theorem pc_more {p q : Nat → Bool} {n k : Nat} (hk : k < n) (hq : q k = true) (hp : p k = false) (h : ∀ j, p j = true → q j = true) : pc n p + 1 ≤ pc n q := by
  have h1 := countP_one (p := fun j => p j || decide (j = k)) (q := p) (k := k) (by simp) hp (fun j hj => by simp [hj]) n hk
  have h2 : (List.range n).countP (fun j => p j || decide (j = k)) ≤ (List.range n).countP q := by
    refine List.countP_mono_left fun j hj hh => ?_
    rw [Bool.or_eq_true, decide_eq_true_eq] at hh
    rcases hh with hh | hh
    · exact h j hh
    · rw [hh]; exact hq
  unfold pc
  omega
theorem pc_le {p q : Nat → Bool} {n : Nat} (h : ∀ j, j < n → p j = true → q j = true) : pc n p ≤ pc n q :=
  List.countP_mono_left fun j hj hh => h j (List.mem_range.1 hj) hh
theorem pc_or (n s k : Nat) : pc n (s ||| 2 ^ k).testBit ≤ pc n s.testBit + 1 := by
  by_cases c : k < n ∧ s.testBit k = false
  · have := countP_one (p := (s ||| 2 ^ k).testBit) (q := s.testBit) (k := k) (by rw [Nat.testBit_or, Nat.testBit_two_pow_self]; simp) c.2 (fun j hj => by rw [Nat.testBit_or, Nat.testBit_two_pow_of_ne (Ne.symm hj), Bool.or_false]) n c.1
    unfold pc
    omega
  · have : pc n (s ||| 2 ^ k).testBit ≤ pc n s.testBit := pc_le fun j hj hh => by
      rw [Nat.testBit_or, Bool.or_eq_true] at hh
      rcases hh with hh | hh
      · exact hh
      · by_cases cj : j = k
        · subst cj
          cases h : s.testBit j with
          | true => rfl
          | false => exact absurd ⟨hj, h⟩ c
        · rw [Nat.testBit_two_pow_of_ne (Ne.symm cj)] at hh; cases hh
    omega
def sz (s : Nat) : Nat := if h : s = 0 then 0 else s % 2 + sz (s / 2)
termination_by s
decreasing_by omega
theorem sz_pc : ∀ n s, s < 2 ^ n → sz s = pc n s.testBit
  | 0, s, h => by
    obtain rfl : s = 0 := by simpa using h
    unfold sz; rfl
  | n + 1, s, h => by
    have h2 : s / 2 < 2 ^ n := by rw [Nat.pow_succ] at h; omega
    have ih := sz_pc n (s / 2) h2
    have e : pc (n + 1) s.testBit = s % 2 + pc n (s / 2).testBit := by
      unfold pc
      rw [List.range_succ_eq_map, List.countP_cons, List.countP_map]
      have e1 : s.testBit ∘ Nat.succ = (s / 2).testBit := by
        funext j
        show s.testBit (j + 1) = _
        rw [Nat.testBit_succ]
      rw [e1, Nat.testBit_zero]
      by_cases c : s % 2 = 1
      · simp [c]; omega
      · simp [c]; omega
    unfold sz
    split
    · rename_i h0
      subst h0
      rw [e]
      have : sz 0 = 0 := by unfold sz; rfl
      rw [← ih, Nat.zero_div, this]
    · rw [e, ih]
/-! ## Covers -/
def covB (A : Nat → Nat) (S i : Nat) : Bool := S.testBit i || decide (andn (A i) S = 0)
theorem cov_adj {A : Nat → Nat} {n S a b : Nat} (hn : n ≤ 10) (hS : S < 2 ^ n) (hA : A a < 2 ^ n) (h : covB A S a = true) (hab : (A a).testBit b = true) : S.testBit a = true ∨ S.testBit b = true := by
  unfold covB at h
  rw [Bool.or_eq_true, decide_eq_true_eq] at h
  rcases h with h | h
  · exact .inl h
  · have hb := bit_lt hA hab
    have h2 : 2 ^ n ≤ 1024 := Nat.pow_le_pow_right (by decide) hn
    have := andn_bit (a := A a) (b := S) (k := b) (by omega) (by omega)
    rw [h, Nat.zero_testBit, hab, Bool.true_and] at this
    right
    simpa using this.symm
theorem cov_le {A : Nat → Nat} {n S : Nat} (hn : n ≤ 10) (hS : S < 2 ^ n) (hA : ∀ i, i < n → A i < 2 ^ n) (h : ∀ i, i < n → covB A S i = true) : ∀ (P : List (Nat × Nat)) (t : Nat), t < 2 ^ n → mat A t P = true → P.length ≤ pc n (fun j => S.testBit j && t.testBit j)
  | [], t, _, _ => Nat.zero_le _
  | (a, b) :: P, t, ht, hm => by
    obtain ⟨h1, h2, h3, h4, h5⟩ := mat_cons hm
    have ha := bit_lt ht h2
    have hb := bit_lt ht h3
    have hlt : del (up t a) b < 2 ^ n := by
      apply Nat.lt_pow_two_of_testBit
      intro j hj
      rw [del_bit, up_bit]
      have := Nat.testBit_lt_two_pow (Nat.lt_of_lt_of_le ht (Nat.pow_le_pow_right (by decide) hj))
      rw [this]; rfl
    have ih := cov_le hn hS hA h P (del (up t a) b) hlt h5
    have key : ∀ k, k < n → S.testBit k = true → t.testBit k = true → (del (up t a) b).testBit k = false → P.length + 1 ≤ pc n (fun j => S.testBit j && t.testBit j) := fun k hk q1 q2 q3 => by
      have := pc_more (p := fun j => S.testBit j && (del (up t a) b).testBit j) (q := fun j => S.testBit j && t.testBit j) (n := n) hk (by simp [q1, q2]) (by simp [q3]) (fun j hj => by
        rw [Bool.and_eq_true, del_bit, up_bit, Bool.and_eq_true, Bool.and_eq_true] at hj
        rw [hj.1, hj.2.1.1]; rfl)
      omega
    rw [List.length_cons]
    rcases cov_adj hn hS (hA a ha) (h a ha) h4 with q | q
    · exact key a ha q h2 (by rw [del_bit, up_bit]; simp)
    · exact key b hb q h3 (by rw [del_bit]; simp)
theorem cov_lrg {A : Nat → Nat} {n S : Nat} (hn : n ≤ 10) (hS : S < 2 ^ n) (hA : ∀ i, i < n → A i < 2 ^ n) (h : ∀ i, i < n → covB A S i = true) : (lrg A n (allN n)).length ≤ sz S := by
  have h1 := cov_le hn hS hA h _ (allN n) (all_lt n) (lrg_mat A n (allN n))
  rw [sz_pc n S hS]
  refine Nat.le_trans h1 (pc_le fun j hj hh => ?_)
  rw [Bool.and_eq_true] at hh
  exact hh.1
/-! ## What pairs have -/
theorem tkn_pc (n : Nat) : ∀ (P : List (Int × Int)) (tk : Nat), pc n (tkn P tk).testBit ≤ pc n tk.testBit + 2 * P.length
  | [], tk => by show pc n tk.testBit ≤ _; omega
  | (a, b) :: P, tk => by
    have h1 := tkn_pc n P (tk ||| 2 ^ a.toNat ||| 2 ^ b.toNat)
    have h2 := pc_or n tk a.toNat
    have h3 := pc_or n (tk ||| 2 ^ a.toNat) b.toNat
    show pc n (tkn P (tk ||| 2 ^ a.toNat ||| 2 ^ b.toNat)).testBit ≤ _
    rw [List.length_cons]
    omega
theorem mat_mem {A : Nat → Nat} : ∀ (Q : List (Nat × Nat)) {s : Nat}, mat A s Q = true → ∀ q ∈ Q, s.testBit q.1 = true ∧ s.testBit q.2 = true
  | [], _, _, q, h => by cases h
  | (a, b) :: Q, s, hm, q, h => by
    obtain ⟨h1, h2, h3, h4, h5⟩ := mat_cons hm
    rcases List.mem_cons.1 h with rfl | h
    · exact ⟨h2, h3⟩
    · obtain ⟨q1, q2⟩ := mat_mem Q h5 q h
      rw [del_bit, up_bit, Bool.and_eq_true, Bool.and_eq_true] at q1 q2
      exact ⟨q1.1.1, q2.1.1⟩
theorem tkn_lt (n : Nat) : ∀ (Q : List (Nat × Nat)) (tk : Nat), tk < 2 ^ n → (∀ q ∈ Q, q.1 < n ∧ q.2 < n) → tkn (toI Q) tk < 2 ^ n
  | [], tk, h, _ => h
  | (a, b) :: Q, tk, h, hq => by
    have h1 := hq (a, b) (by simp)
    exact tkn_lt n Q _ (or_lt (or_lt h h1.1) h1.2) fun q hm => hq q (List.mem_cons_of_mem _ hm)
theorem tkn_sz {n : Nat} {Q : List (Nat × Nat)} (hq : ∀ q ∈ Q, q.1 < n ∧ q.2 < n) : sz (tkn (toI Q) 0) ≤ 2 * Q.length := by
  rw [sz_pc n _ (tkn_lt n Q 0 (Nat.two_pow_pos n) hq)]
  have := tkn_pc n (toI Q) 0
  have h0 : pc n (0 : Nat).testBit = 0 := by
    unfold pc
    rw [List.countP_eq_zero]
    intro j _
    simp
  have e : (toI Q).length = Q.length := by simp [toI]
  omega
end Go.Proofs.YtnpapnpedcbfnaaDoor
set_option linter.unusedVariables false
namespace Go.Proofs.YtnpapnpedcbfnaaDoor
open Go.Vs
/-! ## A hat less -/
theorem mat_del {A : Nat → Nat} (i : Nat) : ∀ (P : List (Nat × Nat)) (s : Nat), mat A s P = true → ∃ Q, mat A (del s i) Q = true ∧ P.length ≤ Q.length + 1
  | [], s, _ => ⟨[], rfl, by simp⟩
  | (a, b) :: P, s, hm => by
    obtain ⟨h1, h2, h3, h4, h5⟩ := mat_cons hm
    have hsub : ∀ j, (del (up s a) b).testBit j = true → j ≠ i → (del s i).testBit j = true := fun j hj hne => by
      rw [del_bit, up_bit, Bool.and_eq_true, Bool.and_eq_true] at hj
      rw [del_bit, hj.1.1]; simp [hne]
    by_cases ca : a = i
    · subst ca
      refine ⟨P, mat_mono P (fun j hj => hsub j hj ?_) h5, by simp⟩
      rintro rfl
      rw [del_bit, up_bit] at hj
      simp at hj
    by_cases cb : b = i
    · subst cb
      refine ⟨P, mat_mono P (fun j hj => hsub j hj ?_) h5, by simp⟩
      rintro rfl
      rw [del_bit] at hj
      simp at hj
    obtain ⟨Q, hq, hl⟩ := mat_del i P _ h5
    refine ⟨(a, b) :: Q, mat_mk h1 ?_ ?_ h4 (mat_mono Q (fun j hj => ?_) hq), by rw [List.length_cons, List.length_cons]; omega⟩
    · rw [del_bit, h2]; simp [ca]
    · rw [del_bit, h3]; simp [cb]
    · rw [del_bit, del_bit, up_bit] at hj
      rw [del_bit, up_bit, del_bit]
      simp only [Bool.and_eq_true] at hj ⊢
      exact ⟨⟨⟨hj.1.1.1, hj.2⟩, hj.1.1.2⟩, hj.1.2⟩
theorem best_del_le (A : Nat → Nat) (n i : Nat) {s : Nat} (hs : s < 2 ^ n) : best A n (del s i) ≤ best A n s := by
  rw [← lrg_len A n (del s i)]
  exact mat_le s hs _ (mat_mono _ (fun j hj => by rw [del_bit, Bool.and_eq_true] at hj; exact hj.1) (lrg_mat A n (del s i)))
theorem best_del_ge (A : Nat → Nat) (n i : Nat) {s : Nat} (hs : s < 2 ^ n) : best A n s ≤ best A n (del s i) + 1 := by
  obtain ⟨Q, hq, hl⟩ := mat_del i _ s (lrg_mat A n s)
  have := mat_le (n := n) (del s i) (del_lt hs) Q hq
  rw [lrg_len] at hl
  omega
/-! ## Renumbered without one hat -/
def dn (i k : Nat) : Nat := if k < i then k else k - 1
def upx (i k : Nat) : Nat := if k < i then k else k + 1
theorem upx_ne (i k : Nat) : upx i k ≠ i := by unfold upx; split <;> omega
theorem dn_upx (i k : Nat) : dn i (upx i k) = k := by
  unfold dn upx
  by_cases h1 : k < i
  · simp [h1]
  · have h2 : ¬ k + 1 < i := by omega
    simp [h1, h2]
theorem upx_dn {i k : Nat} (h : k ≠ i) : upx i (dn i k) = k := by
  unfold dn upx
  by_cases h1 : k < i
  · simp [h1]
  · have h2 : ¬ k - 1 < i := by omega
    rw [if_neg h1, if_neg h2]; omega
theorem dn_lt {i a b : Nat} (ha : a ≠ i) (hb : b ≠ i) (h : a < b) : dn i a < dn i b := by unfold dn; split <;> split <;> omega
theorem upx_lt {i a b : Nat} (h : a < b) : upx i a < upx i b := by unfold upx; split <;> split <;> omega
/-- The sets t and s are one, but for the numbers. -/
def Sq (i s t : Nat) : Prop := s.testBit i = false ∧ ∀ k, t.testBit k = s.testBit (upx i k)
theorem Sq.step {i s t a b : Nat} (h : Sq i s t) (ha : a ≠ i) (hb : b ≠ i) : Sq i (del (up s a) b) (del (up t (dn i a)) (dn i b)) := by
  refine ⟨by rw [del_bit, up_bit, h.1]; rfl, fun k => ?_⟩
  rw [del_bit, up_bit, del_bit, up_bit, h.2]
  have e1 : decide (dn i a < k) = decide (a < upx i k) := decide_eq_decide.2 (by
    unfold dn upx
    by_cases h1 : a < i <;> by_cases h2 : k < i <;> simp only [h1, h2, if_true, if_false] <;> omega)
  have e2 : decide (k = dn i b) = decide (upx i k = b) := decide_eq_decide.2 (by
    unfold dn upx
    by_cases h1 : b < i <;> by_cases h2 : k < i <;> simp only [h1, h2, if_true, if_false] <;> omega)
  rw [e1, e2]
theorem mat_down {A B : Nat → Nat} {i : Nat} (hAB : ∀ a, a ≠ i → ∀ b, b ≠ i → (A a).testBit b = (B (dn i a)).testBit (dn i b)) : ∀ (P : List (Nat × Nat)) (s t : Nat), Sq i s t → mat A s P = true → mat B t (P.map fun q => (dn i q.1, dn i q.2)) = true
  | [], _, _, _, _ => rfl
  | (a, b) :: P, s, t, hq, hm => by
    obtain ⟨h1, h2, h3, h4, h5⟩ := mat_cons hm
    have ha : a ≠ i := by rintro rfl; rw [hq.1] at h2; cases h2
    have hb : b ≠ i := by rintro rfl; rw [hq.1] at h3; cases h3
    exact mat_mk (dn_lt ha hb h1) (by rw [hq.2, upx_dn ha]; exact h2) (by rw [hq.2, upx_dn hb]; exact h3) (by rw [← hAB a ha b hb]; exact h4) (mat_down hAB P _ _ (hq.step ha hb) h5)
theorem mat_upx {A B : Nat → Nat} {i : Nat} (hAB : ∀ a, a ≠ i → ∀ b, b ≠ i → (A a).testBit b = (B (dn i a)).testBit (dn i b)) : ∀ (P : List (Nat × Nat)) (s t : Nat), Sq i s t → mat B t P = true → mat A s (P.map fun q => (upx i q.1, upx i q.2)) = true
  | [], _, _, _, _ => rfl
  | (a, b) :: P, s, t, hq, hm => by
    obtain ⟨h1, h2, h3, h4, h5⟩ := mat_cons hm
    have hst := hq.step (upx_ne i a) (upx_ne i b)
    rw [dn_upx, dn_upx] at hst
    refine mat_mk (upx_lt h1) (by rw [← hq.2]; exact h2) (by rw [← hq.2]; exact h3) ?_ (mat_upx hAB P _ _ hst h5)
    rw [hAB _ (upx_ne i a) _ (upx_ne i b), dn_upx, dn_upx]
    exact h4
theorem best_sq {A B : Nat → Nat} {i n m s t : Nat} (hAB : ∀ a, a ≠ i → ∀ b, b ≠ i → (A a).testBit b = (B (dn i a)).testBit (dn i b)) (hs : s < 2 ^ n) (ht : t < 2 ^ m) (hq : Sq i s t) : best A n s = best B m t := by
  have h1 := mat_le t ht _ (mat_down hAB _ s t hq (lrg_mat A n s))
  have h2 := mat_le s hs _ (mat_upx hAB _ s t hq (lrg_mat B m t))
  rw [List.length_map, lrg_len] at h1 h2
  omega
end Go.Proofs.YtnpapnpedcbfnaaDoor
set_option linter.unusedVariables false
namespace Go.Proofs.YtnpapnpedcbfnaaDoor
open Go.Vs
/-! ## A shop without one hat -/
def posF (i k : Nat) : Nat := if k ≤ i then k else k - 1
theorem pos_dn {i k : Nat} (h : k ≠ i) : posF i k = dn i k := by
  unfold posF dn
  by_cases c : k < i
  · rw [if_pos (by omega), if_pos c]
  · rw [if_neg (by omega), if_neg c]
theorem pos_at (i : Nat) : posF i (i + 1) = posF i i := by
  unfold posF
  rw [if_neg (by omega), if_pos (Nat.le_refl _)]; rfl
theorem pos_next {i k : Nat} (h : k ≠ i) : posF i (k + 1) = posF i k + 1 := by
  unfold posF
  by_cases c : k < i
  · rw [if_pos (by omega), if_pos (by omega)]
  · rw [if_neg (by omega), if_neg (by omega)]; omega
theorem pos_le (i k : Nat) : posF i k ≤ k := by
  unfold posF; split <;> omega
def sqF (x i : Nat) : Nat → Nat
  | 0 => 0
  | k + 1 => if k = i then sqF x i k else if x.testBit k = true then sqF x i k + 2 ^ posF i k else sqF x i k
theorem sqF_lt (x i : Nat) : ∀ k, sqF x i k < 2 ^ posF i k
  | 0 => by unfold sqF; exact Nat.two_pow_pos _
  | k + 1 => by
    have ih := sqF_lt x i k
    unfold sqF
    by_cases c : k = i
    · subst c; rw [if_pos rfl, pos_at]; exact ih
    · rw [if_neg c, pos_next c, Nat.pow_succ]
      split <;> omega
theorem sqF_bit (x i j : Nat) : ∀ k, (sqF x i k).testBit j = (decide (upx i j < k) && x.testBit (upx i j))
  | 0 => by unfold sqF; simp
  | k + 1 => by
    have ih := sqF_bit x i j k
    have hl := sqF_lt x i k
    have hu := upx_ne i j
    unfold sqF
    by_cases c : k = i
    · subst c
      rw [if_pos rfl, ih, show decide (upx k j < k + 1) = decide (upx k j < k) from decide_eq_decide.2 (by omega)]
    · rw [if_neg c]
      have hd : upx i (dn i k) = k := upx_dn c
      cases cb : x.testBit k with
      | true =>
        rw [if_pos rfl]
        have e := Nat.two_pow_add_eq_or_of_lt hl 1
        rw [Nat.mul_one] at e
        rw [Nat.add_comm, e, Nat.testBit_or, Nat.testBit_two_pow, ih, pos_dn c]
        by_cases cj : dn i k = j
        · rw [decide_eq_true cj, ← cj, hd, cb, decide_eq_true (Nat.lt_succ_self k)]; rfl
        · have : upx i j ≠ k := fun h => cj (by rw [← h, dn_upx])
          rw [decide_eq_false cj, Bool.false_or, show decide (upx i j < k + 1) = decide (upx i j < k) from decide_eq_decide.2 (by omega)]
      | false =>
        rw [if_neg (by simp), ih]
        by_cases cj : upx i j = k
        · rw [cj, cb, Bool.and_false, Bool.and_false]
        · rw [show decide (upx i j < k + 1) = decide (upx i j < k) from decide_eq_decide.2 (by omega)]
/-- The first rows of the shop without the hat i. -/
def sqT (L : List Int) (i m : Nat) : List Int := (List.range m).map fun a => (sqF (setF L (upx i a)) i L.length : Int)
theorem sqT_len (L : List Int) (i m : Nat) : (sqT L i m).length = m := by simp [sqT]
theorem sqT_next (L : List Int) {i k : Nat} (h : k ≠ i) : sqT L i (posF i (k + 1)) = sqT L i (posF i k) ++ [(sqF (setF L k) i L.length : Int)] := by
  rw [pos_next h, sqT, List.range_succ, List.map_append, List.map_singleton, pos_dn h, upx_dn h]
  rfl
theorem sqT_set (L : List Int) {i m a : Nat} (ha : a < m) : setF (sqT L i m) a = sqF (setF L (upx i a)) i L.length := by
  show (List.getD (sqT L i m) a 0).toNat = _
  simp [sqT, ha]
theorem sqT_out (L : List Int) {i m a : Nat} (ha : m ≤ a) : setF (sqT L i m) a = 0 := by
  unfold setF sqT
  simp [ha]
theorem setF_out (L : List Int) {a : Nat} (ha : L.length ≤ a) : setF L a = 0 := by
  unfold setF
  simp [ha]
theorem upx_bound {i n a : Nat} (hi : i < n) : upx i a < n ↔ a < n - 1 := by
  unfold upx; split <;> omega
theorem dn_bound {i n a : Nat} (hi : i < n) (ha : a ≠ i) : dn i a < n - 1 ↔ a < n := by
  unfold dn; split <;> omega
theorem sq_shop {L : List Int} (h : shopB L = true) {i : Nat} (hi : i < L.length) (h2 : 2 ≤ L.length) : shopB (sqT L i (L.length - 1)) = true := by
  obtain ⟨hL1, hL10, hA⟩ := shop_ok h
  have hrow : ∀ a, a < L.length - 1 → (sqT L i (L.length - 1)).getD a 0 = (sqF (setF L (upx i a)) i L.length : Int) := fun a ha => by
    unfold sqT; simp [ha]
  have hpos : posF i L.length = L.length - 1 := by unfold posF; rw [if_neg (by omega)]
  unfold shopB
  rw [sqT_len]
  simp only [Bool.and_eq_true, decide_eq_true_eq, List.all_eq_true, List.mem_range]
  refine ⟨⟨by omega, by omega⟩, fun a ha => ?_, fun a ha => ?_⟩
  · have hl := sqF_lt (setF L (upx i a)) i L.length
    rw [hpos] at hl
    have hua := (upx_bound (a := a) hi).2 ha
    unfold okI
    rw [sqT_len, hrow a ha, bitI_nat, sqF_bit, (hA _ hua).2.2.1, Bool.and_false]
    have e2 : ((2 ^ (L.length - 1) : Nat) : Int) = 2 ^ (L.length - 1) := by simp
    rw [decide_eq_true (by omega), ← e2, decide_eq_true (Int.ofNat_lt.2 hl)]
    rfl
  · unfold symI
    rw [sqT_len, List.all_eq_true]
    intro b hb
    rw [List.mem_range] at hb
    rw [hrow a ha, hrow b hb, bitI_nat, bitI_nat, sqF_bit, sqF_bit]
    have hua := (upx_bound (a := a) hi).2 ha
    have hub := (upx_bound (a := b) hi).2 hb
    rw [decide_eq_true hua, decide_eq_true hub, (hA _ hua).2.2.2 _ hub]
    simp
theorem sq_best {L : List Int} (h : shopB L = true) {i : Nat} (hi : i < L.length) (h2 : 2 ≤ L.length) : best (setF L) L.length (del (allN L.length) i) = best (setF (sqT L i (L.length - 1))) (L.length - 1) (allN (L.length - 1)) := by
  obtain ⟨hL1, hL10, hA⟩ := shop_ok h
  have hlt : ∀ m, allN m < 2 ^ m := fun m => by unfold allN; have := Nat.two_pow_pos m; omega
  refine best_sq (i := i) (fun a ha b hb => ?_) (del_lt (hlt _)) (hlt _) ⟨by rw [del_bit]; simp, fun k => ?_⟩
  · by_cases ca : a < L.length
    · rw [sqT_set L ((dn_bound hi ha).2 ca), upx_dn ha, sqF_bit, upx_dn hb]
      by_cases cb : b < L.length
      · rw [decide_eq_true cb, Bool.true_and]
      · rw [decide_eq_false cb, Bool.false_and]
        exact Nat.testBit_lt_two_pow (Nat.lt_of_lt_of_le (hA a ca).2.1 (Nat.pow_le_pow_right (by decide) (by omega)))
    · have hn := mt (dn_bound hi ha).1 ca
      rw [setF_out L (by omega), sqT_out L (by omega), Nat.zero_testBit, Nat.zero_testBit]
  · rw [all_bit, del_bit, all_bit]
    have h1 := upx_ne i k
    have h3 := upx_bound (a := k) hi
    by_cases c : k < L.length - 1
    · rw [decide_eq_true c, decide_eq_true (h3.2 c)]; simp [h1]
    · rw [decide_eq_false c, decide_eq_false (mt h3.1 c)]; rfl
/-! ## Which hats are needed -/
def needF (A : Nat → Nat) (n : Nat) : Nat → Nat
  | 0 => 0
  | i + 1 => if best A n (del (allN n) i) < best A n (allN n) then needF A n i ||| 2 ^ i else needF A n i
theorem needF_lt (A : Nat → Nat) (n : Nat) : ∀ i, needF A n i < 2 ^ i
  | 0 => by unfold needF; decide
  | i + 1 => by
    have ih := needF_lt A n i
    unfold needF
    have hp : 2 ^ (i + 1) = 2 ^ i + 2 ^ i := by rw [Nat.pow_succ]; omega
    split
    · exact Nat.or_lt_two_pow (by omega) (by have := Nat.two_pow_pos i; omega)
    · omega
theorem needF_bit (A : Nat → Nat) (n j : Nat) : ∀ i, (needF A n i).testBit j = (decide (j < i) && decide (best A n (del (allN n) j) < best A n (allN n)))
  | 0 => by unfold needF; simp
  | i + 1 => by
    have ih := needF_bit A n j i
    unfold needF
    by_cases c : best A n (del (allN n) i) < best A n (allN n)
    · rw [if_pos c, Nat.testBit_or, Nat.testBit_two_pow, ih]
      by_cases cj : i = j
      · subst cj; rw [decide_eq_true (Nat.lt_succ_self i), decide_eq_true c]; simp
      · rw [decide_eq_false cj, Bool.or_false, show decide (j < i + 1) = decide (j < i) from decide_eq_decide.2 (by omega)]
    · rw [if_neg c, ih]
      by_cases cj : i = j
      · subst cj; rw [decide_eq_false c]; simp
      · rw [show decide (j < i + 1) = decide (j < i) from decide_eq_decide.2 (by omega)]
end Go.Proofs.YtnpapnpedcbfnaaDoor
set_option linter.unusedVariables false
namespace Go.Proofs.YtnpapnpedcbfnaaDoor
open Go.Vs
/-! ## What a game keeps, in a table -/
def wv (A : Nat → Nat) (n v l : Nat) : Int := if won A n v l = true then 1 else -1
/-- The table is right where no more than m hats are unvisited. -/
def TabM (A : Nat → Nat) (n : Nat) (T : List Int) (m : Nat) : Prop := ∀ v l, v < 2 ^ n → l < n → un n v ≤ m → T.getD (v * n + l) 0 = 0 ∨ T.getD (v * n + l) 0 = wv A n v l
theorem ix_lt {n N v l : Nat} (hv : v < N) (hl : l < n) : v * n + l < n * N := by
  have h1 : (v + 1) * n ≤ N * n := Nat.mul_le_mul_right n hv
  rw [Nat.succ_mul] at h1
  rw [Nat.mul_comm n N]
  omega
theorem ix_inj {n v l v' l' : Nat} (hl : l < n) (hl' : l' < n) (h : v * n + l = v' * n + l') : v = v' ∧ l = l' := by
  rcases Nat.lt_trichotomy v v' with c | c | c
  · have h1 : (v + 1) * n ≤ v' * n := Nat.mul_le_mul_right n c
    rw [Nat.succ_mul] at h1
    omega
  · subst c; exact ⟨rfl, by omega⟩
  · have h1 : (v' + 1) * n ≤ v * n := Nat.mul_le_mul_right n c
    rw [Nat.succ_mul] at h1
    omega
/-- While the table is filled for a position: what holds, before the hat k is tried. -/
structure MidM (A : Nat → Nat) (n v l k : Nat) (T0 T : List Int) : Prop where
  len : T.length = n * 2 ^ n
  old : ∀ v' l', v' < 2 ^ n → l' < n → un n v < un n v' → T.getD (v' * n + l') 0 = T0.getD (v' * n + l') 0
  ok : ∀ v' l', v' < 2 ^ n → l' < n → un n v' ≤ un n v → ¬ (v' = v ∧ l' = l) → T.getD (v' * n + l') 0 = 0 ∨ T.getD (v' * n + l') 0 = wv A n v' l'
  here : T.getD (v * n + l) 0 = if (List.range k).any (good A n v l) = true then 1 else -1
theorem any_succ (p : Nat → Bool) (k : Nat) : (List.range (k + 1)).any p = ((List.range k).any p || p k) := by
  rw [List.range_succ, List.any_append]; simp
theorem MidM.start {A : Nat → Nat} {n v l : Nat} {T0 : List Int} (hlen : T0.length = n * 2 ^ n) (h : TabM A n T0 (un n v)) (hv : v < 2 ^ n) (hl : l < n) : MidM A n v l 0 T0 (T0.set (v * n + l) (-1)) := by
  have hi := ix_lt hv hl
  refine ⟨by rw [List.length_set]; exact hlen, fun v' l' h1 h2 h3 => ?_, fun v' l' h1 h2 h3 h4 => ?_, ?_⟩
  · rw [getD_set _ _ _ _ (by omega), if_neg]
    intro hc
    obtain ⟨rfl, -⟩ := ix_inj hl h2 hc
    omega
  · rw [getD_set _ _ _ _ (by omega), if_neg]
    · exact h v' l' h1 h2 h3
    · intro hc
      obtain ⟨rfl, rfl⟩ := ix_inj hl h2 hc
      exact h4 ⟨rfl, rfl⟩
  · rw [getD_set _ _ _ _ (by omega), if_pos rfl]
    rfl
theorem MidM.skip {A : Nat → Nat} {n v l k : Nat} {T0 T : List Int} (h : MidM A n v l k T0 T) (hg : good A n v l k = false) : MidM A n v l (k + 1) T0 T :=
  ⟨h.len, h.old, h.ok, by rw [h.here, any_succ, hg, Bool.or_false]⟩
theorem MidM.tab {A : Nat → Nat} {n v l k m : Nat} {T0 T : List Int} (h : MidM A n v l k T0 T) (hm : m < un n v) : TabM A n T m := fun v' l' h1 h2 h3 =>
  h.ok v' l' h1 h2 (by omega) (by rintro ⟨rfl, rfl⟩; omega)
/-- What a call leaves. -/
structure AftM (A : Nat → Nat) (n v l : Nat) (T0 T : List Int) : Prop where
  len : T.length = n * 2 ^ n
  old : ∀ v' l', v' < 2 ^ n → l' < n → un n v < un n v' → T.getD (v' * n + l') 0 = T0.getD (v' * n + l') 0
  ok : TabM A n T (un n v)
theorem MidM.call {A : Nat → Nat} {n v l k v2 l2 : Nat} {T0 T T' : List Int} (h : MidM A n v l k T0 T) (hv : v < 2 ^ n) (hl : l < n) (h2 : un n v2 < un n v) (a : AftM A n v2 l2 T T') : MidM A n v l k T0 T' := by
  refine ⟨a.len, fun v' l' h3 h4 h5 => ?_, fun v' l' h3 h4 h5 h6 => ?_, ?_⟩
  · rw [a.old v' l' h3 h4 (by omega)]; exact h.old v' l' h3 h4 h5
  · by_cases c : un n v' ≤ un n v2
    · exact a.ok v' l' h3 h4 c
    · rw [a.old v' l' h3 h4 (by omega)]; exact h.ok v' l' h3 h4 h5 h6
  · rw [a.old v l hv hl h2]; exact h.here
theorem MidM.win {A : Nat → Nat} {n v l k : Nat} {T0 T : List Int} (h : MidM A n v l k T0 T) (hv : v < 2 ^ n) (hl : l < n) (hg : good A n v l k = true) : MidM A n v l (k + 1) T0 (T.set (v * n + l) 1) := by
  have hi := ix_lt hv hl
  have hlen := h.len
  refine ⟨by rw [List.length_set]; exact hlen, fun v' l' h1 h2 h3 => ?_, fun v' l' h1 h2 h3 h4 => ?_, ?_⟩
  · rw [getD_set _ _ _ _ (by omega), if_neg]
    · exact h.old v' l' h1 h2 h3
    · intro hc
      obtain ⟨rfl, -⟩ := ix_inj hl h2 hc
      omega
  · rw [getD_set _ _ _ _ (by omega), if_neg]
    · exact h.ok v' l' h1 h2 h3 h4
    · intro hc
      obtain ⟨rfl, rfl⟩ := ix_inj hl h2 hc
      exact h4 ⟨rfl, rfl⟩
  · rw [getD_set _ _ _ _ (by omega), if_pos rfl, any_succ, hg, Bool.or_true]
    rfl
theorem MidM.done {A : Nat → Nat} {n v l : Nat} {T0 T : List Int} (h : MidM A n v l n T0 T) : AftM A n v l T0 T ∧ T.getD (v * n + l) 0 = wv A n v l := by
  have hh := h.here
  rw [← won_eq] at hh
  refine ⟨⟨h.len, h.old, fun v' l' h1 h2 h3 => ?_⟩, hh⟩
  by_cases c : v' = v ∧ l' = l
  · obtain ⟨rfl, rfl⟩ := c
    exact .inr hh
  · exact h.ok v' l' h1 h2 h3 c
theorem AftM.same {A : Nat → Nat} {n v l : Nat} {T : List Int} (hlen : T.length = n * 2 ^ n) (h : TabM A n T (un n v)) : AftM A n v l T T := ⟨hlen, fun _ _ _ _ _ => rfl, h⟩
theorem TabM.zero (A : Nat → Nat) (n m N : Nat) : TabM A n (List.replicate N 0) m := fun v l _ _ _ => .inl (by
  rw [List.getD_eq_getElem?_getD, List.getElem?_replicate]; split <;> rfl)
end Go.Proofs.YtnpapnpedcbfnaaDoor
set_option maxRecDepth 100000
set_option maxHeartbeats 4000000
set_option linter.unusedSimpArgs false
set_option linter.unusedVariables false
namespace Go.Proofs.YtnpapnpedcbfnaaDoor
open Go.Ds Go.Vs
theorem ext20 (a b : Value) : extF (.tuple #[a, b]) 0 = some a := Eq.trans rfl rfl
theorem ext21 (a b : Value) : extF (.tuple #[a, b]) 1 = some b := Eq.trans rfl rfl
theorem eqA_ne (a b c d : Int) : eqAF true 2 (.agg #[.int .i64 a, .int .i64 b]) (.agg #[.int .i64 c, .int .i64 d]) = some (.bool (!(decide (a = c) && decide (b = d)))) := by
  simp [eqAF, intEqs, kindEq, eq_i]
  cases decide (a = c) <;> cases decide (b = d) <;> rfl
theorem cellsP_drop (L : List (Nat × Nat)) (i : Nat) (h : i < L.length) : (((cellsP L).drop (i * 2)).take 2).toArray = #[.int .i64 (L[i].1 : Int), .int .i64 (L[i].2 : Int)] := by
  have h1 := cellsI_drop (toI L) i (by simpa [toI] using h)
  rw [cellsI_toI] at h1
  rw [h1]
  simp [toI]
theorem cellsP_get (L : List (Nat × Nat)) (i : Nat) (h : i < L.length) : (cellsP L)[i * 2]? = some (.int .i64 (L[i].1 : Int)) ∧ (cellsP L)[i * 2 + 1]? = some (.int .i64 (L[i].2 : Int)) := by
  have h1 := cellsI_get (toI L) i (by simpa [toI] using h)
  rw [cellsI_toI] at h1
  simpa [toI] using h1
theorem firstLaw_rets {X : Caller} (hX : Xok X) (L : List Int) (s p : Value) (P : List (Int × Int)) (g : GH) (hT : HasTab g) (hs : SlR g s (ints L)) (hp : SlQ g p 2 P.length (cellsI P)) :
    Rets Tryd.prog X 14 [s, p] g (fun v g' lo => g.next ≤ lo ∧ v = .bool true) := by
  have hl := hs.len
  rw [ints_len] at hl
  have hlp := hp.len
  refine Rets.run hX.pres p14 (hX.free 14 (by decide) _ _) rfl fun ho => ?_
  simp +decide (disch := first | assumption | exact cellV_int _ _ | exact cellV_bool _ | omega | (simp only [GH.pn, GH.sn] <;> omega) | (with_reducible ((repeat (first | apply GH.ok_push | apply GH.ok_set)); assumption)) | ((try simp only [GH.push_hid, GH.set_hid]); first | assumption | (refine GH.vis ?_ ?_ <;> first | assumption | ((try simp only [GH.pn, GH.sn]) <;> omega)))) only [go_sem, ↓reduceIte, Nat.reduceEqDiff, Nat.reduceAdd, Int.reduceToNat, Int.reduceAdd, Int.reduceNeg, Int.reduceSub, Int.reduceMul, Int.reduceLT, Int.reduceLE, Int.reduceEq, ↓GH.gp_eq, ↓GH.gp_ne, ↓GH.gs_eq, ↓GH.gs_ne, GH.push_next, GH.set_next]
  refine CallD.calm (few_rets hX.toXfr s p _ _ hl hlp g) ?_
  rintro v g1 hx1 rfl
  have hn1 := hx1.next
  have hT1 := hT.ext hx1
  cases hf : (decide (L.length ≤ 40) && decide (P.length ≤ 40)) with
  | false =>
    simp +decide (disch := first | assumption | exact cellV_int _ _ | exact cellV_bool _ | omega | (simp only [GH.pn, GH.sn] <;> omega) | (with_reducible ((repeat (first | apply GH.ok_push | apply GH.ok_set)); assumption)) | ((try simp only [GH.push_hid, GH.set_hid]); first | assumption | (refine GH.vis ?_ ?_ <;> first | assumption | ((try simp only [GH.pn, GH.sn]) <;> omega)))) only [go_sem, ↓reduceIte, Nat.reduceEqDiff, Nat.reduceAdd, Int.reduceToNat, Int.reduceAdd, Int.reduceNeg, Int.reduceSub, Int.reduceMul, Int.reduceLT, Int.reduceLE, Int.reduceEq, ↓GH.gp_eq, ↓GH.gp_ne, ↓GH.gs_eq, ↓GH.gs_ne, GH.push_next, GH.set_next]
    refine CallD.calm (hX.alive g1 hT1) ?_
    rintro v g2 hx2 rfl
    have hn2 := hx2.next
    simp +decide (disch := first | assumption | exact cellV_int _ _ | exact cellV_bool _ | omega | (simp only [GH.pn, GH.sn] <;> omega) | (with_reducible ((repeat (first | apply GH.ok_push | apply GH.ok_set)); assumption)) | ((try simp only [GH.push_hid, GH.set_hid]); first | assumption | (refine GH.vis ?_ ?_ <;> first | assumption | ((try simp only [GH.pn, GH.sn]) <;> omega)))) only [go_sem, ↓reduceIte, Nat.reduceEqDiff, Nat.reduceAdd, Int.reduceToNat, Int.reduceAdd, Int.reduceNeg, Int.reduceSub, Int.reduceMul, Int.reduceLT, Int.reduceLE, Int.reduceEq, ↓GH.gp_eq, ↓GH.gp_ne, ↓GH.gs_eq, ↓GH.gs_ne, GH.push_next, GH.set_next]
    intro hx0
    exact ⟨by omega, rfl⟩
  | true =>
  rw [Bool.and_eq_true, decide_eq_true_eq, decide_eq_true_eq] at hf
  simp +decide (disch := first | assumption | exact cellV_int _ _ | exact cellV_bool _ | omega | (simp only [GH.pn, GH.sn] <;> omega) | (with_reducible ((repeat (first | apply GH.ok_push | apply GH.ok_set)); assumption)) | ((try simp only [GH.push_hid, GH.set_hid]); first | assumption | (refine GH.vis ?_ ?_ <;> first | assumption | ((try simp only [GH.pn, GH.sn]) <;> omega)))) only [go_sem, ↓reduceIte, Nat.reduceEqDiff, Nat.reduceAdd, Int.reduceToNat, Int.reduceAdd, Int.reduceNeg, Int.reduceSub, Int.reduceMul, Int.reduceLT, Int.reduceLE, Int.reduceEq, ↓GH.gp_eq, ↓GH.gp_ne, ↓GH.gs_eq, ↓GH.gs_ne, GH.push_next, GH.set_next]
  refine CallD.calm (refIsShop_rets hX.toXfr L hf.1 s g1 (hs.ext hx1)) ?_
  rintro v g2 hx2 rfl
  have hn2 := hx2.next
  have hT2 := hT1.ext hx2
  have hk2 : Kept g g2 := hx1.kept.ext hx2
  cases hz : shopB L with
  | false =>
    simp +decide (disch := first | assumption | exact cellV_int _ _ | exact cellV_bool _ | omega | (simp only [GH.pn, GH.sn] <;> omega) | (with_reducible ((repeat (first | apply GH.ok_push | apply GH.ok_set)); assumption)) | ((try simp only [GH.push_hid, GH.set_hid]); first | assumption | (refine GH.vis ?_ ?_ <;> first | assumption | ((try simp only [GH.pn, GH.sn]) <;> omega)))) only [go_sem, ↓reduceIte, Nat.reduceEqDiff, Nat.reduceAdd, Int.reduceToNat, Int.reduceAdd, Int.reduceNeg, Int.reduceSub, Int.reduceMul, Int.reduceLT, Int.reduceLE, Int.reduceEq, ↓GH.gp_eq, ↓GH.gp_ne, ↓GH.gs_eq, ↓GH.gs_ne, GH.push_next, GH.set_next]
    refine CallD.calm (hX.alive g2 hT2) ?_
    rintro v g3 hx3 rfl
    have hn3 := hx3.next
    simp +decide (disch := first | assumption | exact cellV_int _ _ | exact cellV_bool _ | omega | (simp only [GH.pn, GH.sn] <;> omega) | (with_reducible ((repeat (first | apply GH.ok_push | apply GH.ok_set)); assumption)) | ((try simp only [GH.push_hid, GH.set_hid]); first | assumption | (refine GH.vis ?_ ?_ <;> first | assumption | ((try simp only [GH.pn, GH.sn]) <;> omega)))) only [go_sem, ↓reduceIte, Nat.reduceEqDiff, Nat.reduceAdd, Int.reduceToNat, Int.reduceAdd, Int.reduceNeg, Int.reduceSub, Int.reduceMul, Int.reduceLT, Int.reduceLE, Int.reduceEq, ↓GH.gp_eq, ↓GH.gp_ne, ↓GH.gs_eq, ↓GH.gs_ne, GH.push_next, GH.set_next]
    intro hx0
    exact ⟨by omega, rfl⟩
  | true =>
  obtain ⟨hL1, hL10, hA⟩ := shop_ok hz
  simp +decide (disch := first | assumption | exact cellV_int _ _ | exact cellV_bool _ | omega | (simp only [GH.pn, GH.sn] <;> omega) | (with_reducible ((repeat (first | apply GH.ok_push | apply GH.ok_set)); assumption)) | ((try simp only [GH.push_hid, GH.set_hid]); first | assumption | (refine GH.vis ?_ ?_ <;> first | assumption | ((try simp only [GH.pn, GH.sn]) <;> omega)))) only [go_sem, ↓reduceIte, Nat.reduceEqDiff, Nat.reduceAdd, Int.reduceToNat, Int.reduceAdd, Int.reduceNeg, Int.reduceSub, Int.reduceMul, Int.reduceLT, Int.reduceLE, Int.reduceEq, ↓GH.gp_eq, ↓GH.gp_ne, ↓GH.gs_eq, ↓GH.gs_ne, GH.push_next, GH.set_next]
  refine CallD.calm (Largest_rets hX L hz s g2 hT2 (hs.kept hk2)) ?_
  rintro v g3 hx3 ⟨hok3, hk3, o, rfl, hown3⟩
  have hn3 := hx3.next
  have hk3' := hk2.trans hk3
  simp +decide (disch := first | assumption | exact cellV_int _ _ | exact cellV_bool _ | omega | (simp only [GH.pn, GH.sn] <;> omega) | (with_reducible ((repeat (first | apply GH.ok_push | apply GH.ok_set)); assumption)) | ((try simp only [GH.push_hid, GH.set_hid]); first | assumption | (refine GH.vis ?_ ?_ <;> first | assumption | ((try simp only [GH.pn, GH.sn]) <;> omega)))) only [go_sem, ↓reduceIte, Nat.reduceEqDiff, Nat.reduceAdd, Int.reduceToNat, Int.reduceAdd, Int.reduceNeg, Int.reduceSub, Int.reduceMul, Int.reduceLT, Int.reduceLE, Int.reduceEq, ↓GH.gp_eq, ↓GH.gp_ne, ↓GH.gs_eq, ↓GH.gs_ne, GH.push_next, GH.set_next, ext20, ext21]
  refine CallD.calm (IsMatching_rets hX.toXfr L hf.1 s p P (by omega) g3 (hs.kept hk3') (hp.kept hk3')) ?_
  rintro v g4 hx4 rfl
  have hn4 := hx4.next
  have hk4 := hk3'.ext hx4
  have hown4 := (hown3.kept hx4.kept).read
  have hlo := hown4.len
  rw [hz, if_pos rfl]
  have hT4 := hT.kept hk4
  have hT4 := hT.kept hk4
  cases hm : matI L P with
  | false =>
    simp +decide (disch := first | assumption | exact cellV_int _ _ | exact cellV_bool _ | omega | (simp only [GH.pn, GH.sn] <;> omega) | (with_reducible ((repeat (first | apply GH.ok_push | apply GH.ok_set)); assumption)) | ((try simp only [GH.push_hid, GH.set_hid]); first | assumption | (refine GH.vis ?_ ?_ <;> first | assumption | ((try simp only [GH.pn, GH.sn]) <;> omega)))) only [go_sem, ↓reduceIte, Nat.reduceEqDiff, Nat.reduceAdd, Int.reduceToNat, Int.reduceAdd, Int.reduceNeg, Int.reduceSub, Int.reduceMul, Int.reduceLT, Int.reduceLE, Int.reduceEq, ↓GH.gp_eq, ↓GH.gp_ne, ↓GH.gs_eq, ↓GH.gs_ne, GH.push_next, GH.set_next, ext20, ext21]
    refine CallD.calm (hX.alive g4 hT4) ?_
    rintro v g5 hx5 rfl
    have hn5 := hx5.next
    simp +decide (disch := first | assumption | exact cellV_int _ _ | exact cellV_bool _ | omega | (simp only [GH.pn, GH.sn] <;> omega) | (with_reducible ((repeat (first | apply GH.ok_push | apply GH.ok_set)); assumption)) | ((try simp only [GH.push_hid, GH.set_hid]); first | assumption | (refine GH.vis ?_ ?_ <;> first | assumption | ((try simp only [GH.pn, GH.sn]) <;> omega)))) only [go_sem, ↓reduceIte, Nat.reduceEqDiff, Nat.reduceAdd, Int.reduceToNat, Int.reduceAdd, Int.reduceNeg, Int.reduceSub, Int.reduceMul, Int.reduceLT, Int.reduceLE, Int.reduceEq, ↓GH.gp_eq, ↓GH.gp_ne, ↓GH.gs_eq, ↓GH.gs_ne, GH.push_next, GH.set_next]
    intro hx0
    exact ⟨by omega, rfl⟩
  | true =>
  obtain ⟨Q, rfl, hmq⟩ := matI_mat hm
  have hfirst := lrg_first (n := L.length) (allN L.length) (all_lt L.length) Q hmq
  rw [← lrg_len] at hfirst
  generalize lrg (setF L) L.length (allN L.length) = R at *
  have hQl : (toI Q).length = Q.length := by simp [toI]
  rw [hQl] at hlp hp
  rw [cellsI_toI] at hp
  by_cases hlen : (Q.length : Int) = R.length
  case neg =>
    simp +decide (disch := first | assumption | exact cellV_int _ _ | exact cellV_bool _ | omega | (simp only [GH.pn, GH.sn] <;> omega) | (with_reducible ((repeat (first | apply GH.ok_push | apply GH.ok_set)); assumption)) | ((try simp only [GH.push_hid, GH.set_hid]); first | assumption | (refine GH.vis ?_ ?_ <;> first | assumption | ((try simp only [GH.pn, GH.sn]) <;> omega)))) only [go_sem, ↓reduceIte, Nat.reduceEqDiff, Nat.reduceAdd, Int.reduceToNat, Int.reduceAdd, Int.reduceNeg, Int.reduceSub, Int.reduceMul, Int.reduceLT, Int.reduceLE, Int.reduceEq, ↓GH.gp_eq, ↓GH.gp_ne, ↓GH.gs_eq, ↓GH.gs_ne, GH.push_next, GH.set_next, hlp, hlo, hlen, ext20, ext21]
    refine CallD.calm (hX.alive g4 hT4) ?_
    rintro v g5 hx5 rfl
    have hn5 := hx5.next
    simp +decide (disch := first | assumption | exact cellV_int _ _ | exact cellV_bool _ | omega | (simp only [GH.pn, GH.sn] <;> omega) | (with_reducible ((repeat (first | apply GH.ok_push | apply GH.ok_set)); assumption)) | ((try simp only [GH.push_hid, GH.set_hid]); first | assumption | (refine GH.vis ?_ ?_ <;> first | assumption | ((try simp only [GH.pn, GH.sn]) <;> omega)))) only [go_sem, ↓reduceIte, Nat.reduceEqDiff, Nat.reduceAdd, Int.reduceToNat, Int.reduceAdd, Int.reduceNeg, Int.reduceSub, Int.reduceMul, Int.reduceLT, Int.reduceLE, Int.reduceEq, ↓GH.gp_eq, ↓GH.gp_ne, ↓GH.gs_eq, ↓GH.gs_ne, GH.push_next, GH.set_next]
    intro hx0
    exact ⟨by omega, rfl⟩
  have hlen' : Q.length = R.length := by omega
  simp +decide (disch := first | assumption | exact cellV_int _ _ | exact cellV_bool _ | omega | (simp only [GH.pn, GH.sn] <;> omega) | (with_reducible ((repeat (first | apply GH.ok_push | apply GH.ok_set)); assumption)) | ((try simp only [GH.push_hid, GH.set_hid]); first | assumption | (refine GH.vis ?_ ?_ <;> first | assumption | ((try simp only [GH.pn, GH.sn]) <;> omega)))) only [go_sem, ↓reduceIte, Nat.reduceEqDiff, Nat.reduceAdd, Int.reduceToNat, Int.reduceAdd, Int.reduceNeg, Int.reduceSub, Int.reduceMul, Int.reduceLT, Int.reduceLE, Int.reduceEq, ↓GH.gp_eq, ↓GH.gp_ne, ↓GH.gs_eq, ↓GH.gs_ne, GH.push_next, GH.set_next, hlp, hlo, hlen, ext20, ext21]
  refine Wk.loops (fun m e g' lo => g.next ≤ lo ∧ Kept g4 g' ∧ ∃ i : Nat, i + m = Q.length ∧ (ev e (.s 1) = p ∧ ev e (.s 5) = o ∧ ev e (.s 9) = .int .i64 (i : Nat)) ∧ ∀ j, j < i → Q[j]? = R[j]?)
    (fun e g' lo => g.next ≤ lo ∧ Kept g4 g') (n := Q.length) ?_ ?_ ?_
  · exact ⟨by omega, Kept.refl _, 0, by omega, (by simp +decide (disch := first | assumption | (apply GH.ok_push; assumption) | exact cellV_int _ _ | exact cellV_bool _ | omega) only [go_sem, ↓reduceIte, Nat.reduceEqDiff, Nat.reduceAdd, Int.reduceToNat]; first | done | exact rfl), fun j hj => by omega⟩
  · rintro e g' lo hog hlg ⟨hlo', hk⟩
    simp +decide (disch := first | assumption | exact cellV_int _ _ | exact cellV_bool _ | omega | (simp only [GH.pn, GH.sn] <;> omega) | (with_reducible ((repeat (first | apply GH.ok_push | apply GH.ok_set)); assumption)) | ((try simp only [GH.push_hid, GH.set_hid]); first | assumption | (refine GH.vis ?_ ?_ <;> first | assumption | ((try simp only [GH.pn, GH.sn]) <;> omega)))) only [go_sem, ↓reduceIte, Nat.reduceEqDiff, Nat.reduceAdd, Int.reduceToNat, Int.reduceAdd, Int.reduceNeg, Int.reduceSub, Int.reduceMul, Int.reduceLT, Int.reduceLE, Int.reduceEq, ↓GH.gp_eq, ↓GH.gp_ne, ↓GH.gs_eq, ↓GH.gs_ne, GH.push_next, GH.set_next]
    refine CallD.calm (hX.alive g' (hT4.kept hk)) ?_
    rintro v g5 hx5 rfl
    simp +decide (disch := first | assumption | exact cellV_int _ _ | exact cellV_bool _ | omega | (simp only [GH.pn, GH.sn] <;> omega) | (with_reducible ((repeat (first | apply GH.ok_push | apply GH.ok_set)); assumption)) | ((try simp only [GH.push_hid, GH.set_hid]); first | assumption | (refine GH.vis ?_ ?_ <;> first | assumption | ((try simp only [GH.pn, GH.sn]) <;> omega)))) only [go_sem, ↓reduceIte, Nat.reduceEqDiff, Nat.reduceAdd, Int.reduceToNat, Int.reduceAdd, Int.reduceNeg, Int.reduceSub, Int.reduceMul, Int.reduceLT, Int.reduceLE, Int.reduceEq, ↓GH.gp_eq, ↓GH.gp_ne, ↓GH.gs_eq, ↓GH.gs_ne, GH.push_next, GH.set_next]
    intro hx0
    exact ⟨by omega, rfl⟩
  · rintro m e g' lo ho' hl' ih out ⟨hlo', hk, i, hi, he, hsame⟩
    have hkn := hk.next
    by_cases ci : i < Q.length
    case neg =>
      have ci' : ¬ (i : Int) < Q.length := by omega
      simp +decide (disch := first | assumption | exact cellV_int _ _ | exact cellV_bool _ | omega | (simp only [GH.pn, GH.sn] <;> omega) | (with_reducible ((repeat (first | apply GH.ok_push | apply GH.ok_set)); assumption)) | ((try simp only [GH.push_hid, GH.set_hid]); first | assumption | (refine GH.vis ?_ ?_ <;> first | assumption | ((try simp only [GH.pn, GH.sn]) <;> omega)))) only [go_sem, ↓reduceIte, Nat.reduceEqDiff, Nat.reduceAdd, Int.reduceToNat, Int.reduceAdd, Int.reduceNeg, Int.reduceSub, Int.reduceMul, Int.reduceLT, Int.reduceLE, Int.reduceEq, ↓GH.gp_eq, ↓GH.gp_ne, ↓GH.gs_eq, ↓GH.gs_ne, GH.push_next, GH.set_next, he, hlp, ci']
      exact out _ _ _ ⟨hlo', hk⟩
    have ci' : (i : Int) < Q.length := by omega
    have ciR : i < R.length := by omega
    obtain ⟨j, a, hj, hp1, hp2, hp3⟩ := ((hp.kept hk4).kept hk).ptr ci
    have hp1 := hp1 (i : Int) rfl
    rw [cellsP_drop Q i ci] at hp3
    obtain ⟨j2, a2, hj2, hq1, hq2, hq3⟩ := (hown4.kept hk).ptr ciR
    have hq1 := hq1 (i : Int) rfl
    rw [cellsP_drop R i ciR] at hq3
    obtain ⟨c1, c2⟩ := cellsP_get Q i ci
    obtain ⟨d1, d2⟩ := cellsP_get R i ciR
    have hp20 := fun lo => hp2 lo 0 _ (by omega) c1
    have hp21 := fun lo => hp2 lo 1 _ (by omega) c2
    have hq20 := fun lo => hq2 lo 0 _ (by omega) d1
    have hq21 := fun lo => hq2 lo 1 _ (by omega) d2
    rw [Nat.add_zero] at hp20 hq20
    have hfi := fun (hh : Q.length = R.length) => hfirst hh i Q[i].1 Q[i].2 R[i].1 R[i].2 (List.getElem?_eq_getElem ci) (List.getElem?_eq_getElem ciR) hsame
    have hfi := hfi hlen'
    have hne : (Q[i].1 = R[i].1 ∧ Q[i].2 = R[i].2) → Q[i]? = R[i]? := fun ⟨h1, h2⟩ => by
      rw [List.getElem?_eq_getElem ci, List.getElem?_eq_getElem ciR]
      exact congrArg some (Prod.ext h1 h2)
    generalize Q[i].1 = qa at *
    generalize Q[i].2 = qb at *
    generalize R[i].1 = ra at *
    generalize R[i].2 = rb at *
    simp +decide (disch := first | assumption | exact cellV_int _ _ | exact cellV_bool _ | omega | (simp only [GH.pn, GH.sn] <;> omega) | (with_reducible ((repeat (first | apply GH.ok_push | apply GH.ok_set)); assumption)) | ((try simp only [GH.push_hid, GH.set_hid]); first | assumption | (refine GH.vis ?_ ?_ <;> first | assumption | ((try simp only [GH.pn, GH.sn]) <;> omega)))) only [go_sem, ↓reduceIte, Nat.reduceEqDiff, Nat.reduceAdd, Int.reduceToNat, Int.reduceAdd, Int.reduceNeg, Int.reduceSub, Int.reduceMul, Int.reduceLT, Int.reduceLE, Int.reduceEq, ↓GH.gp_eq, ↓GH.gp_ne, ↓GH.gs_eq, ↓GH.gs_ne, GH.push_next, GH.set_next, he, hlp, ci', hp1, hp3, hq1, hq3]
    by_cases h1 : qa = ra ∧ qb = rb
    · have hd : decide ((qa : Int) = ra) = true := decide_eq_true (by omega)
      have hd2 : decide ((qb : Int) = rb) = true := decide_eq_true (by omega)
      simp +decide (disch := first | assumption | exact cellV_int _ _ | exact cellV_bool _ | omega | (simp only [GH.pn, GH.sn] <;> omega) | (with_reducible ((repeat (first | apply GH.ok_push | apply GH.ok_set)); assumption)) | ((try simp only [GH.push_hid, GH.set_hid]); first | assumption | (refine GH.vis ?_ ?_ <;> first | assumption | ((try simp only [GH.pn, GH.sn]) <;> omega)))) only [go_sem, ↓reduceIte, Nat.reduceEqDiff, Nat.reduceAdd, Int.reduceToNat, Int.reduceAdd, Int.reduceNeg, Int.reduceSub, Int.reduceMul, Int.reduceLT, Int.reduceLE, Int.reduceEq, ↓GH.gp_eq, ↓GH.gp_ne, ↓GH.gs_eq, ↓GH.gs_ne, GH.push_next, GH.set_next, he, eqA_ne, hd, hd2]
      refine ih (m - 1) _ _ _ (by omega) ⟨hlo', hk, i + 1, by omega, (by simp +decide (disch := first | assumption | (apply GH.ok_push; assumption) | exact cellV_int _ _ | exact cellV_bool _ | omega) only [go_sem, ↓reduceIte, Nat.reduceEqDiff, Nat.reduceAdd, Int.reduceToNat, he]; first | done | exact rfl), fun j hj => ?_⟩
      rcases Nat.lt_succ_iff_lt_or_eq.1 hj with c | c
      · exact hsame j c
      · rw [c]; exact hne h1
    · have hd : (decide ((qa : Int) = ra) && decide ((qb : Int) = rb)) = false := by
        rw [Bool.and_eq_false_iff, decide_eq_false_iff_not, decide_eq_false_iff_not]; omega
      simp only [eqA_ne, hd, oV_s]
      refine envR (fun e => ev e (.s 1) = p ∧ ev e (.s 5) = o ∧ ev e (.s 9) = .int .i64 (i : Nat) ∧ ev e (.s 61) = .bool true) ?h0 (fun e he => ?_)
      case h0 => exact (by simp +decide (disch := first | assumption | (apply GH.ok_push; assumption) | exact cellV_int _ _ | exact cellV_bool _ | omega) only [go_sem, ↓reduceIte, Nat.reduceEqDiff, Nat.reduceAdd, Int.reduceToNat, he]; first | done | exact rfl)
      have hal := hX.alive g' (hT4.kept hk)
      have hfin := hfi
      by_cases f1 : (ra : Int) < qa
      · simp +decide (disch := first | assumption | exact cellV_int _ _ | exact cellV_bool _ | omega | (simp only [GH.pn, GH.sn] <;> omega) | (with_reducible ((repeat (first | apply GH.ok_push | apply GH.ok_set)); assumption)) | ((try simp only [GH.push_hid, GH.set_hid]); first | assumption | (refine GH.vis ?_ ?_ <;> first | assumption | ((try simp only [GH.pn, GH.sn]) <;> omega)))) only [go_sem, ↓reduceIte, Nat.reduceEqDiff, Nat.reduceAdd, Int.reduceToNat, Int.reduceAdd, Int.reduceNeg, Int.reduceSub, Int.reduceMul, Int.reduceLT, Int.reduceLE, Int.reduceEq, ↓GH.gp_eq, ↓GH.gp_ne, ↓GH.gs_eq, ↓GH.gs_ne, GH.push_next, GH.set_next, he, hp1, hp20, hp21, hq1, hq20, hq21, f1]
        refine CallD.calm hal ?_
        rintro v g5 hx5 rfl
        simp +decide (disch := first | assumption | exact cellV_int _ _ | exact cellV_bool _ | omega | (simp only [GH.pn, GH.sn] <;> omega) | (with_reducible ((repeat (first | apply GH.ok_push | apply GH.ok_set)); assumption)) | ((try simp only [GH.push_hid, GH.set_hid]); first | assumption | (refine GH.vis ?_ ?_ <;> first | assumption | ((try simp only [GH.pn, GH.sn]) <;> omega)))) only [go_sem, ↓reduceIte, Nat.reduceEqDiff, Nat.reduceAdd, Int.reduceToNat, Int.reduceAdd, Int.reduceNeg, Int.reduceSub, Int.reduceMul, Int.reduceLT, Int.reduceLE, Int.reduceEq, ↓GH.gp_eq, ↓GH.gp_ne, ↓GH.gs_eq, ↓GH.gs_ne, GH.push_next, GH.set_next]
        intro hx0
        exact ⟨by omega, rfl⟩
      · have f2 : (ra : Int) = qa := by omega
        have f3 : (rb : Int) < qb := by omega
        simp +decide (disch := first | assumption | exact cellV_int _ _ | exact cellV_bool _ | omega | (simp only [GH.pn, GH.sn] <;> omega) | (with_reducible ((repeat (first | apply GH.ok_push | apply GH.ok_set)); assumption)) | ((try simp only [GH.push_hid, GH.set_hid]); first | assumption | (refine GH.vis ?_ ?_ <;> first | assumption | ((try simp only [GH.pn, GH.sn]) <;> omega)))) only [go_sem, ↓reduceIte, Nat.reduceEqDiff, Nat.reduceAdd, Int.reduceToNat, Int.reduceAdd, Int.reduceNeg, Int.reduceSub, Int.reduceMul, Int.reduceLT, Int.reduceLE, Int.reduceEq, ↓GH.gp_eq, ↓GH.gp_ne, ↓GH.gs_eq, ↓GH.gs_ne, GH.push_next, GH.set_next, he, hp1, hp20, hp21, hq1, hq20, hq21, f1, f2, f3]
        refine CallD.calm hal ?_
        rintro v g5 hx5 rfl
        simp +decide (disch := first | assumption | exact cellV_int _ _ | exact cellV_bool _ | omega | (simp only [GH.pn, GH.sn] <;> omega) | (with_reducible ((repeat (first | apply GH.ok_push | apply GH.ok_set)); assumption)) | ((try simp only [GH.push_hid, GH.set_hid]); first | assumption | (refine GH.vis ?_ ?_ <;> first | assumption | ((try simp only [GH.pn, GH.sn]) <;> omega)))) only [go_sem, ↓reduceIte, Nat.reduceEqDiff, Nat.reduceAdd, Int.reduceToNat, Int.reduceAdd, Int.reduceNeg, Int.reduceSub, Int.reduceMul, Int.reduceLT, Int.reduceLE, Int.reduceEq, ↓GH.gp_eq, ↓GH.gp_ne, ↓GH.gs_eq, ↓GH.gs_ne, GH.push_next, GH.set_next]
        intro hx0
        exact ⟨by omega, rfl⟩
end Go.Proofs.YtnpapnpedcbfnaaDoor
set_option maxRecDepth 100000
set_option maxHeartbeats 4000000
set_option linter.unusedSimpArgs false
set_option linter.unusedVariables false
namespace Go.Proofs.YtnpapnpedcbfnaaDoor
open Go.Ds Go.Vs
/-! ## The answer -/
def ansF : List (Int × Int) → Int → Int
  | [], _ => -1
  | p :: P, h => if p.1 = h then p.2 else if p.2 = h then p.1 else ansF P h
def ansV (L : List Int) (P : List (Int × Int)) (h : Int) : Value := if shopB L && matI L P && (decide (0 ≤ h) && decide (h < L.length)) then .tuple #[.int .i64 (ansF P h), .int .i64 0] else .tuple #[.int .i64 0, eArg]
theorem ans_drop (P : List (Int × Int)) (i : Nat) (hi : i < P.length) (h : Int) : ansF (P.drop i) h = if P[i].1 = h then P[i].2 else if P[i].2 = h then P[i].1 else ansF (P.drop (i + 1)) h := by
  rw [List.drop_eq_getElem_cons hi]
  rfl
theorem answer_rets {X : Caller} (hX : Xfr X) (L : List Int) (hL : L.length ≤ 40) (s p : Value) (P : List (Int × Int)) (hP : P.length ≤ 1000) (h : Int) (g : GH) (hs : SlR g s (ints L)) (hp : SlQ g p 2 P.length (cellsI P)) :
    Rets Tryd.prog X 33 [s, p, .int .i64 h] g (fun v g' lo => g.next ≤ lo ∧ v = ansV L P h) := by
  have hl := hp.len
  generalize hr : ansV L P h = r
  refine Rets.run hX.pres p33 (hX.free 33 (by decide) _ _) rfl fun ho => ?_
  simp +decide (disch := first | assumption | exact cellV_int _ _ | exact cellV_bool _ | omega | (simp only [GH.pn, GH.sn] <;> omega) | (with_reducible ((repeat (first | apply GH.ok_push | apply GH.ok_set)); assumption)) | ((try simp only [GH.push_hid, GH.set_hid]); first | assumption | (refine GH.vis ?_ ?_ <;> first | assumption | ((try simp only [GH.pn, GH.sn]) <;> omega)))) only [go_sem, ↓reduceIte, Nat.reduceEqDiff, Nat.reduceAdd, Int.reduceToNat, Int.reduceAdd, Int.reduceNeg, Int.reduceSub, Int.reduceMul, Int.reduceLT, Int.reduceLE, Int.reduceEq, ↓GH.gp_eq, ↓GH.gp_ne, ↓GH.gs_eq, ↓GH.gs_ne, GH.push_next, GH.set_next]
  refine CallD.calm (IsShop_rets hX L hL s g hs) ?_
  rintro v g1 hx1 rfl
  have hn1 := hx1.next
  cases hz : shopB L with
  | false =>
    simp +decide (disch := first | assumption | exact cellV_int _ _ | exact cellV_bool _ | omega | (simp only [GH.pn, GH.sn] <;> omega) | (with_reducible ((repeat (first | apply GH.ok_push | apply GH.ok_set)); assumption)) | ((try simp only [GH.push_hid, GH.set_hid]); first | assumption | (refine GH.vis ?_ ?_ <;> first | assumption | ((try simp only [GH.pn, GH.sn]) <;> omega)))) only [go_sem, ↓reduceIte, Nat.reduceEqDiff, Nat.reduceAdd, Int.reduceToNat, Int.reduceAdd, Int.reduceNeg, Int.reduceSub, Int.reduceMul, Int.reduceLT, Int.reduceLE, Int.reduceEq, ↓GH.gp_eq, ↓GH.gp_ne, ↓GH.gs_eq, ↓GH.gs_ne, GH.push_next, GH.set_next]
    intro hx0
    exact ⟨by omega, by rw [← hr, ansV, hz]; rfl⟩
  | true =>
  simp +decide (disch := first | assumption | exact cellV_int _ _ | exact cellV_bool _ | omega | (simp only [GH.pn, GH.sn] <;> omega) | (with_reducible ((repeat (first | apply GH.ok_push | apply GH.ok_set)); assumption)) | ((try simp only [GH.push_hid, GH.set_hid]); first | assumption | (refine GH.vis ?_ ?_ <;> first | assumption | ((try simp only [GH.pn, GH.sn]) <;> omega)))) only [go_sem, ↓reduceIte, Nat.reduceEqDiff, Nat.reduceAdd, Int.reduceToNat, Int.reduceAdd, Int.reduceNeg, Int.reduceSub, Int.reduceMul, Int.reduceLT, Int.reduceLE, Int.reduceEq, ↓GH.gp_eq, ↓GH.gp_ne, ↓GH.gs_eq, ↓GH.gs_ne, GH.push_next, GH.set_next]
  refine CallD.calm (matching_rets hX L hz s p P hP g1 (hs.ext hx1) (hp.kept hx1.kept)) ?_
  rintro v g2 hx2 rfl
  have hn2 := hx2.next
  have hk2 := hx1.kept.ext hx2
  cases hm : matI L P with
  | false =>
    simp +decide (disch := first | assumption | exact cellV_int _ _ | exact cellV_bool _ | omega | (simp only [GH.pn, GH.sn] <;> omega) | (with_reducible ((repeat (first | apply GH.ok_push | apply GH.ok_set)); assumption)) | ((try simp only [GH.push_hid, GH.set_hid]); first | assumption | (refine GH.vis ?_ ?_ <;> first | assumption | ((try simp only [GH.pn, GH.sn]) <;> omega)))) only [go_sem, ↓reduceIte, Nat.reduceEqDiff, Nat.reduceAdd, Int.reduceToNat, Int.reduceAdd, Int.reduceNeg, Int.reduceSub, Int.reduceMul, Int.reduceLT, Int.reduceLE, Int.reduceEq, ↓GH.gp_eq, ↓GH.gp_ne, ↓GH.gs_eq, ↓GH.gs_ne, GH.push_next, GH.set_next]
    intro hx0
    exact ⟨by omega, by rw [← hr, ansV, hz, hm]; rfl⟩
  | true =>
  simp +decide (disch := first | assumption | exact cellV_int _ _ | exact cellV_bool _ | omega | (simp only [GH.pn, GH.sn] <;> omega) | (with_reducible ((repeat (first | apply GH.ok_push | apply GH.ok_set)); assumption)) | ((try simp only [GH.push_hid, GH.set_hid]); first | assumption | (refine GH.vis ?_ ?_ <;> first | assumption | ((try simp only [GH.pn, GH.sn]) <;> omega)))) only [go_sem, ↓reduceIte, Nat.reduceEqDiff, Nat.reduceAdd, Int.reduceToNat, Int.reduceAdd, Int.reduceNeg, Int.reduceSub, Int.reduceMul, Int.reduceLT, Int.reduceLE, Int.reduceEq, ↓GH.gp_eq, ↓GH.gp_ne, ↓GH.gs_eq, ↓GH.gs_ne, GH.push_next, GH.set_next]
  refine CallD.calm (isHat_rets hX L (by omega) h s g2 (hs.kept hk2)) ?_
  rintro v g3 hx3 rfl
  have hn3 := hx3.next
  have hk3 := hk2.ext hx3
  cases hh : (decide (0 ≤ h) && decide (h < (L.length : Int))) with
  | false =>
    simp +decide (disch := first | assumption | exact cellV_int _ _ | exact cellV_bool _ | omega | (simp only [GH.pn, GH.sn] <;> omega) | (with_reducible ((repeat (first | apply GH.ok_push | apply GH.ok_set)); assumption)) | ((try simp only [GH.push_hid, GH.set_hid]); first | assumption | (refine GH.vis ?_ ?_ <;> first | assumption | ((try simp only [GH.pn, GH.sn]) <;> omega)))) only [go_sem, ↓reduceIte, Nat.reduceEqDiff, Nat.reduceAdd, Int.reduceToNat, Int.reduceAdd, Int.reduceNeg, Int.reduceSub, Int.reduceMul, Int.reduceLT, Int.reduceLE, Int.reduceEq, ↓GH.gp_eq, ↓GH.gp_ne, ↓GH.gs_eq, ↓GH.gs_ne, GH.push_next, GH.set_next]
    intro hx0
    exact ⟨by omega, by rw [← hr, ansV, hz, hm, hh]; rfl⟩
  | true =>
  have hr : r = .tuple #[.int .i64 (ansF P h), .int .i64 0] := by rw [← hr, ansV, hz, hm, hh]; rfl
  simp +decide (disch := first | assumption | exact cellV_int _ _ | exact cellV_bool _ | omega | (simp only [GH.pn, GH.sn] <;> omega) | (with_reducible ((repeat (first | apply GH.ok_push | apply GH.ok_set)); assumption)) | ((try simp only [GH.push_hid, GH.set_hid]); first | assumption | (refine GH.vis ?_ ?_ <;> first | assumption | ((try simp only [GH.pn, GH.sn]) <;> omega)))) only [go_sem, ↓reduceIte, Nat.reduceEqDiff, Nat.reduceAdd, Int.reduceToNat, Int.reduceAdd, Int.reduceNeg, Int.reduceSub, Int.reduceMul, Int.reduceLT, Int.reduceLE, Int.reduceEq, ↓GH.gp_eq, ↓GH.gp_ne, ↓GH.gs_eq, ↓GH.gs_ne, GH.push_next, GH.set_next, hl]
  refine Wk.loops (fun m e g' lo => g.next ≤ lo ∧ Kept g g' ∧ ∃ i : Nat, i + m = P.length ∧ (ev e (.s 2) = .int .i64 h ∧ ev e (.s 25) = p ∧ ev e (.s 26) = .int .i64 (P.length : Int) ∧ ev e (.s 27) = .int .i64 (i : Nat)) ∧ ansF (P.drop i) h = ansF P h)
    (fun e g' lo => g.next ≤ lo ∧ ansF P h = -1) (n := P.length) ?_ ?_ ?_
  · exact ⟨by omega, hk3, 0, by omega, (by simp +decide (disch := first | assumption | (apply GH.ok_push; assumption) | exact cellV_int _ _ | exact cellV_bool _ | omega) only [go_sem, ↓reduceIte, Nat.reduceEqDiff, Nat.reduceAdd, Int.reduceToNat, hl]; first | done | exact rfl), rfl⟩
  · rintro e g' lo - - ⟨hlo, hq⟩
    simp +decide (disch := first | assumption | exact cellV_int _ _ | exact cellV_bool _ | omega | (simp only [GH.pn, GH.sn] <;> omega) | (with_reducible ((repeat (first | apply GH.ok_push | apply GH.ok_set)); assumption)) | ((try simp only [GH.push_hid, GH.set_hid]); first | assumption | (refine GH.vis ?_ ?_ <;> first | assumption | ((try simp only [GH.pn, GH.sn]) <;> omega)))) only [go_sem, ↓reduceIte, Nat.reduceEqDiff, Nat.reduceAdd, Int.reduceToNat, Int.reduceAdd, Int.reduceNeg, Int.reduceSub, Int.reduceMul, Int.reduceLT, Int.reduceLE, Int.reduceEq, ↓GH.gp_eq, ↓GH.gp_ne, ↓GH.gs_eq, ↓GH.gs_ne, GH.push_next, GH.set_next]
    intro hx0
    exact ⟨hlo, by rw [hr, hq]⟩
  · rintro m e g' lo ho' hl' ih out ⟨hlo, hk, i, hi, he, ha⟩
    have hkn := hk.next
    by_cases ci : i < P.length
    case neg =>
      have ci' : ¬ (i : Int) < P.length := by omega
      simp +decide (disch := first | assumption | exact cellV_int _ _ | exact cellV_bool _ | omega | (simp only [GH.pn, GH.sn] <;> omega) | (with_reducible ((repeat (first | apply GH.ok_push | apply GH.ok_set)); assumption)) | ((try simp only [GH.push_hid, GH.set_hid]); first | assumption | (refine GH.vis ?_ ?_ <;> first | assumption | ((try simp only [GH.pn, GH.sn]) <;> omega)))) only [go_sem, ↓reduceIte, Nat.reduceEqDiff, Nat.reduceAdd, Int.reduceToNat, Int.reduceAdd, Int.reduceNeg, Int.reduceSub, Int.reduceMul, Int.reduceLT, Int.reduceLE, Int.reduceEq, ↓GH.gp_eq, ↓GH.gp_ne, ↓GH.gs_eq, ↓GH.gs_ne, GH.push_next, GH.set_next, he, ci']
      have : i = P.length := by omega
      subst this
      rw [List.drop_length] at ha
      exact out _ _ _ ⟨hlo, ha.symm⟩
    have ci' : (i : Int) < P.length := by omega
    obtain ⟨j, a, hj, hp1, hp2, hp3⟩ := (hp.kept hk).ptr ci
    have hp1 := hp1 (i : Int) rfl
    rw [cellsI_drop P i ci] at hp3
    have had := ans_drop P i ci h
    rw [ha] at had
    obtain ⟨q, hq⟩ : ∃ q, P[i] = q := ⟨_, rfl⟩
    obtain ⟨x, y⟩ := q
    rw [hq] at hp3 had
    dsimp only at hp3 had
    have hg0 : (g'.push (cellsOb [.int .i64 0, .int .i64 0] 56)).get g'.next = cellsOb [.int .i64 0, .int .i64 0] 56 := (by simp (disch := first | assumption | exact cellV_int _ _ | exact cellV_bool _ | omega | (simp only [GH.pn, GH.sn] <;> omega) | (with_reducible ((repeat (first | apply GH.ok_push | apply GH.ok_set)); assumption)) | ((try simp only [GH.push_hid, GH.set_hid]); first | assumption | (refine GH.vis ?_ ?_ <;> first | assumption | ((try simp only [GH.pn, GH.sn]) <;> omega)))) only [↓GH.gp_eq, ↓GH.gp_ne, ↓GH.gs_eq, ↓GH.gs_ne, GH.push_next, GH.set_next]; first | done | exact rfl)
    have hg1 : ((g'.push (cellsOb [.int .i64 0, .int .i64 0] 56)).set g'.next (cellsOb [.int .i64 x, .int .i64 y] 56)).get g'.next = cellsOb [.int .i64 x, .int .i64 y] 56 := (by simp (disch := first | assumption | exact cellV_int _ _ | exact cellV_bool _ | omega | (simp only [GH.pn, GH.sn] <;> omega) | (with_reducible ((repeat (first | apply GH.ok_push | apply GH.ok_set)); assumption)) | ((try simp only [GH.push_hid, GH.set_hid]); first | assumption | (refine GH.vis ?_ ?_ <;> first | assumption | ((try simp only [GH.pn, GH.sn]) <;> omega)))) only [↓GH.gp_eq, ↓GH.gp_ne, ↓GH.gs_eq, ↓GH.gs_ne, GH.push_next, GH.set_next]; first | done | exact rfl)
    have hkG : Kept g ((g'.push (cellsOb [.int .i64 0, .int .i64 0] 56)).set g'.next (cellsOb [.int .i64 x, .int .i64 y] 56)) := (by (repeat' first | exact Kept.refl _ | assumption | refine Kept.push ?_ ?_ _ | refine Kept.setV ?_ ?_ ?_ _) <;> (first | assumption | exact cellV_int _ _ | exact cellV_bool _ | omega | (simp only [GH.pn, GH.sn] <;> omega) | (with_reducible ((repeat (first | apply GH.ok_push | apply GH.ok_set)); assumption)) | ((try simp only [GH.push_hid, GH.set_hid]); first | assumption | (refine GH.vis ?_ ?_ <;> first | assumption | ((try simp only [GH.pn, GH.sn]) <;> omega)))))
    have hsp : splice 0 [Value.int .i64 0, Value.int .i64 0] [Value.int .i64 x, Value.int .i64 y] = [.int .i64 x, .int .i64 y] := Eq.trans rfl rfl
    have hob : obLoad none (cellsOb [.int .i64 x, .int .i64 y] 56) 0 = some (.int .i64 x) := rfl
    have hob2 : obLoad none (cellsOb [.int .i64 x, .int .i64 y] 56) 1 = some (.int .i64 y) := rfl
    by_cases f1 : x = h
    · subst f1
      simp +decide (disch := first | assumption | (apply GH.ok_push; assumption) | exact cellV_int _ _ | exact cellV_bool _ | omega) only [go_sem, ↓reduceIte, Nat.reduceEqDiff, Nat.reduceAdd, Int.reduceToNat, he, ci', hp1, hp3, hg0, hsp, hg1, hob, hob2, oV_s]
      intro hx0
      exact ⟨by omega, by rw [hr, had, if_pos rfl]⟩
    have f1' : ¬ h = x := fun h' => f1 h'.symm
    by_cases f2 : y = h
    · subst f2
      simp +decide (disch := first | assumption | (apply GH.ok_push; assumption) | exact cellV_int _ _ | exact cellV_bool _ | omega) only [go_sem, ↓reduceIte, Nat.reduceEqDiff, Nat.reduceAdd, Int.reduceToNat, he, ci', hp1, hp3, hg0, hsp, hg1, hob, hob2, oV_s, f1']
      intro hx0
      exact ⟨by omega, by rw [hr, had, if_neg f1, if_pos rfl]⟩
    have f2' : ¬ h = y := fun h' => f2 h'.symm
    simp +decide (disch := first | assumption | (apply GH.ok_push; assumption) | exact cellV_int _ _ | exact cellV_bool _ | omega) only [go_sem, ↓reduceIte, Nat.reduceEqDiff, Nat.reduceAdd, Int.reduceToNat, he, ci', hp1, hp3, hg0, hsp, hg1, hob, hob2, oV_s, f1', f2']
    exact ih (m - 1) _ _ _ (by omega) ⟨by omega, hkG, i + 1, by omega, (by simp +decide (disch := first | assumption | (apply GH.ok_push; assumption) | exact cellV_int _ _ | exact cellV_bool _ | omega) only [go_sem, ↓reduceIte, Nat.reduceEqDiff, Nat.reduceAdd, Int.reduceToNat, he]; first | done | exact rfl), by rw [had, if_neg f1, if_neg f2]⟩
end Go.Proofs.YtnpapnpedcbfnaaDoor
set_option maxRecDepth 100000
set_option maxHeartbeats 4000000
set_option linter.unusedSimpArgs false
set_option linter.unusedVariables false
namespace Go.Proofs.YtnpapnpedcbfnaaDoor
open Go.Ds Go.Vs
theorem rem_nat (x k : Nat) : ((x : Int) / 2 ^ k).tmod 2 = b01 (x.testBit k) := by
  have := rem_fact (x := (x : Int)) (by omega) k
  rw [bitI_nat] at this
  exact this
theorem refMatching_rets {X : Caller} (hX : Xfr X) (L : List Int) (hL : shopB L = true) (s p : Value) (P : List (Int × Int)) (hP : P.length ≤ 1000) (g : GH) (hs : SlR g s (ints L)) (hp : SlQ g p 2 P.length (cellsI P)) :
    Rets Tryd.prog X 49 [s, p] g (fun v g' lo => g.next ≤ lo ∧ v = .bool (matI L P)) := by
  obtain ⟨hL1, hL10, hA⟩ := shop_ok hL
  have hl := hp.len
  have hls := hs.len
  rw [ints_len] at hls
  generalize hr : matI L P = r
  refine Rets.run hX.pres p49 (hX.free 49 (by decide) _ _) rfl fun ho => ?_
  simp +decide (disch := first | assumption | exact cellV_int _ _ | exact cellV_bool _ | omega | (simp only [GH.pn, GH.sn] <;> omega) | (with_reducible ((repeat (first | apply GH.ok_push | apply GH.ok_set)); assumption)) | ((try simp only [GH.push_hid, GH.set_hid]); first | assumption | (refine GH.vis ?_ ?_ <;> first | assumption | ((try simp only [GH.pn, GH.sn]) <;> omega)))) only [go_sem, ↓reduceIte, Nat.reduceEqDiff, Nat.reduceAdd, Int.reduceToNat, Int.reduceAdd, Int.reduceNeg, Int.reduceSub, Int.reduceMul, Int.reduceLT, Int.reduceLE, Int.reduceEq, ↓GH.gp_eq, ↓GH.gp_ne, ↓GH.gs_eq, ↓GH.gs_ne, GH.push_next, GH.set_next, hl]
  refine Wk.loops (fun m e g' lo => g.next ≤ lo ∧ Kept g g' ∧ ∃ i : Nat, i + m = P.length ∧ (ev e (.s 0) = s ∧ ev e (.s 1) = p ∧ ev e (.s 6) = .int .i64 (i : Nat) ∧ ev e (.s 5) = .int .i64 (tkn (P.take i) 0 : Nat)) ∧ matI L (P.take i) = true)
    (fun e g' lo => g.next ≤ lo ∧ r = true) (n := P.length) ?_ ?_ ?_
  · refine ⟨Nat.le_refl _, Kept.refl _, 0, by omega, ?_, rfl⟩
    rw [List.take_zero]
    show _ ∧ _ ∧ _ ∧ _ = Value.int .i64 0
    exact (by simp +decide (disch := first | assumption | (apply GH.ok_push; assumption) | exact cellV_int _ _ | exact cellV_bool _ | omega) only [go_sem, ↓reduceIte, Nat.reduceEqDiff, Nat.reduceAdd, Int.reduceToNat, hl]; first | done | exact rfl)
  · rintro e g' lo - - ⟨hlo, h⟩
    simp +decide (disch := first | assumption | exact cellV_int _ _ | exact cellV_bool _ | omega | (simp only [GH.pn, GH.sn] <;> omega) | (with_reducible ((repeat (first | apply GH.ok_push | apply GH.ok_set)); assumption)) | ((try simp only [GH.push_hid, GH.set_hid]); first | assumption | (refine GH.vis ?_ ?_ <;> first | assumption | ((try simp only [GH.pn, GH.sn]) <;> omega)))) only [go_sem, ↓reduceIte, Nat.reduceEqDiff, Nat.reduceAdd, Int.reduceToNat, Int.reduceAdd, Int.reduceNeg, Int.reduceSub, Int.reduceMul, Int.reduceLT, Int.reduceLE, Int.reduceEq, ↓GH.gp_eq, ↓GH.gp_ne, ↓GH.gs_eq, ↓GH.gs_ne, GH.push_next, GH.set_next]
    intro hx0
    exact ⟨hlo, by rw [h]⟩
  · rintro m e g' lo ho' hl' ih out ⟨hlo, hk, i, hi, he, hm⟩
    have hkn := hk.next
    by_cases ci : i < P.length
    case neg =>
      have ci' : ¬ (i : Int) < P.length := by omega
      simp +decide (disch := first | assumption | exact cellV_int _ _ | exact cellV_bool _ | omega | (simp only [GH.pn, GH.sn] <;> omega) | (with_reducible ((repeat (first | apply GH.ok_push | apply GH.ok_set)); assumption)) | ((try simp only [GH.push_hid, GH.set_hid]); first | assumption | (refine GH.vis ?_ ?_ <;> first | assumption | ((try simp only [GH.pn, GH.sn]) <;> omega)))) only [go_sem, ↓reduceIte, Nat.reduceEqDiff, Nat.reduceAdd, Int.reduceToNat, Int.reduceAdd, Int.reduceNeg, Int.reduceSub, Int.reduceMul, Int.reduceLT, Int.reduceLE, Int.reduceEq, ↓GH.gp_eq, ↓GH.gp_ne, ↓GH.gs_eq, ↓GH.gs_ne, GH.push_next, GH.set_next, he, ci', hl]
      have : i = P.length := by omega
      subst this
      rw [List.take_length] at hm
      exact out _ _ _ ⟨hlo, by rw [← hr, hm]⟩
    have ci' : (i : Int) < P.length := by omega
    obtain ⟨j, a, hj, hp1, hp2, hp3⟩ := (hp.kept hk).ptr ci
    have hp1 := hp1 (i : Int) rfl
    rw [cellsI_drop P i ci] at hp3
    have hbad := mat_bad L P i ci
    have htk := mat_take L P i ci
    rw [hm, Bool.true_and] at htk
    have htt := take_tkn P i ci
    obtain ⟨hv1, hv2, hv3⟩ := mat_inv hL10 _ hm
    have hla0 : i = 0 → lastM (P.take i) = -1 := by rintro rfl; rfl
    have hlas : 0 < i → ∃ (h : i - 1 < P.length), lastM (P.take i) = P[i - 1].1 := fun h => by
      obtain ⟨k, rfl⟩ : ∃ k, i = k + 1 := ⟨i - 1, by omega⟩
      exact ⟨by omega, take_last P k (by omega)⟩
    obtain ⟨q, hq⟩ : ∃ q, P[i] = q := ⟨_, rfl⟩
    obtain ⟨x, y⟩ := q
    rw [hq] at hp3 hbad htk htt
    dsimp only at hp3 hbad htk htt
    generalize hla : lastM (P.take i) = la at *
    generalize htka : tkn (P.take i) 0 = tk at *
    have hg0 : (g'.push (cellsOb [.int .i64 0, .int .i64 0] 56)).get g'.next = cellsOb [.int .i64 0, .int .i64 0] 56 := (by simp (disch := first | assumption | exact cellV_int _ _ | exact cellV_bool _ | omega | (simp only [GH.pn, GH.sn] <;> omega) | (with_reducible ((repeat (first | apply GH.ok_push | apply GH.ok_set)); assumption)) | ((try simp only [GH.push_hid, GH.set_hid]); first | assumption | (refine GH.vis ?_ ?_ <;> first | assumption | ((try simp only [GH.pn, GH.sn]) <;> omega)))) only [↓GH.gp_eq, ↓GH.gp_ne, ↓GH.gs_eq, ↓GH.gs_ne, GH.push_next, GH.set_next]; first | done | exact rfl)
    have hgL : ((g'.push (cellsOb [.int .i64 0, .int .i64 0] 56)).set g'.next (cellsOb [.int .i64 x, .int .i64 y] 56)).get g'.next = cellsOb [.int .i64 x, .int .i64 y] 56 := (by simp (disch := first | assumption | exact cellV_int _ _ | exact cellV_bool _ | omega | (simp only [GH.pn, GH.sn] <;> omega) | (with_reducible ((repeat (first | apply GH.ok_push | apply GH.ok_set)); assumption)) | ((try simp only [GH.push_hid, GH.set_hid]); first | assumption | (refine GH.vis ?_ ?_ <;> first | assumption | ((try simp only [GH.pn, GH.sn]) <;> omega)))) only [↓GH.gp_eq, ↓GH.gp_ne, ↓GH.gs_eq, ↓GH.gs_ne, GH.push_next, GH.set_next]; first | done | exact rfl)
    have hkL : Kept g ((g'.push (cellsOb [.int .i64 0, .int .i64 0] 56)).set g'.next (cellsOb [.int .i64 x, .int .i64 y] 56)) := (by (repeat' first | exact Kept.refl _ | assumption | refine Kept.push ?_ ?_ _ | refine Kept.setV ?_ ?_ ?_ _) <;> (first | assumption | exact cellV_int _ _ | exact cellV_bool _ | omega | (simp only [GH.pn, GH.sn] <;> omega) | (with_reducible ((repeat (first | apply GH.ok_push | apply GH.ok_set)); assumption)) | ((try simp only [GH.push_hid, GH.set_hid]); first | assumption | (refine GH.vis ?_ ?_ <;> first | assumption | ((try simp only [GH.pn, GH.sn]) <;> omega)))))
    have hsp : splice 0 [Value.int .i64 0, Value.int .i64 0] [Value.int .i64 x, Value.int .i64 y] = [.int .i64 x, .int .i64 y] := Eq.trans rfl rfl
    have hob : obLoad none (cellsOb [.int .i64 x, .int .i64 y] 56) 0 = some (.int .i64 x) := rfl
    have hob2 : obLoad none (cellsOb [.int .i64 x, .int .i64 y] 56) 1 = some (.int .i64 y) := rfl
    simp +decide (disch := first | assumption | (apply GH.ok_push; assumption) | exact cellV_int _ _ | exact cellV_bool _ | omega) only [go_sem, ↓reduceIte, Nat.reduceEqDiff, Nat.reduceAdd, Int.reduceToNat, he, ci', hl, hp1, hp3, hg0, hsp]
    simp only [hgL, hob, oV_s]
    refine envR (fun e => ev e (.s 0) = s ∧ ev e (.s 1) = p ∧ ev e (.s 6) = .int .i64 (i : Nat) ∧ ev e (.s 5) = .int .i64 (tk : Nat) ∧ ev e (.s 7) = ptrTo g'.next ∧ ev e (.s 19) = .int .i64 x) ?h0 (fun e he => ?_)
    case h0 => exact (by simp +decide (disch := first | assumption | (apply GH.ok_push; assumption) | exact cellV_int _ _ | exact cellV_bool _ | omega) only [go_sem, ↓reduceIte, Nat.reduceEqDiff, Nat.reduceAdd, Int.reduceToNat, he]; first | done | exact rfl)
    refine Wk.nameR fun G hG => ?_
    have hkG : Kept g G := by rw [hG]; exact hkL
    have hnG : G.next = g'.next + 1 := by rw [hG]; rfl
    have hltG : g'.next < G.next := by omega
    have hg1 : G.get g'.next = cellsOb [.int .i64 x, .int .i64 y] 56 := by rw [hG]; exact hgL
    clear hG hkL hgL hg0
    by_cases f0 : x < 0
    · simp +decide (disch := first | assumption | (apply GH.ok_push; assumption) | exact cellV_int _ _ | exact cellV_bool _ | omega) only [go_sem, ↓reduceIte, Nat.reduceEqDiff, Nat.reduceAdd, Int.reduceToNat, he, hnG, f0]
      intro hx0
      exact ⟨by omega, by rw [← hr, hbad (by unfold goodP; rw [decide_eq_false (p := la < x) (by omega)]; rfl)]⟩
    by_cases f2 : y ≤ x
    · simp +decide (disch := first | assumption | (apply GH.ok_push; assumption) | exact cellV_int _ _ | exact cellV_bool _ | omega) only [go_sem, ↓reduceIte, Nat.reduceEqDiff, Nat.reduceAdd, Int.reduceToNat, he, hnG, hg1, hob, hob2, oV_s, f0, f2]
      intro hx0
      exact ⟨by omega, by rw [← hr, hbad (by unfold goodP; rw [decide_eq_false (p := x < y) (by omega), Bool.and_false]; rfl)]⟩
    by_cases f3 : (L.length : Int) ≤ y
    · simp +decide (disch := first | assumption | (apply GH.ok_push; assumption) | exact cellV_int _ _ | exact cellV_bool _ | omega) only [go_sem, ↓reduceIte, Nat.reduceEqDiff, Nat.reduceAdd, Int.reduceToNat, he, hnG, hls, hg1, hob, hob2, oV_s, f0, f2, f3]
      intro hx0
      exact ⟨by omega, by rw [← hr, hbad (by unfold goodP; rw [decide_eq_false (p := y < (L.length : Int)) (by omega), Bool.and_false]; rfl)]⟩
    obtain ⟨nx, rfl⟩ : ∃ nx : Nat, x = nx := ⟨x.toNat, by omega⟩
    obtain ⟨ny, rfl⟩ : ∃ ny : Nat, y = ny := ⟨y.toNat, by omega⟩
    have hxn : nx < L.length := by omega
    obtain ⟨j2, o2, hj2, hq1, hq2⟩ := (hs.kept hkG).ptr (ints_get (D := L) (i := nx) hxn)
    have hq1 := hq1 (nx : Int) rfl
    rw [(hA nx hxn).1] at hq2
    have hq2' := hq2 0
    simp only [go_sem] at hq2'
    have n1 : ¬ (nx : Int) < 0 := by omega
    have n2 : ¬ (ny : Int) < 0 := by omega
    have r1 := shr_fact ((setF L nx : Nat) : Int) ny (by omega)
    have r2 := rem_nat (setF L nx) ny
    have r3 := shr_fact ((tk : Nat) : Int) nx (by omega)
    have r4 := rem_nat tk nx
    have r5 := shr_fact ((tk : Nat) : Int) ny (by omega)
    have r6 := rem_nat tk ny
    have hgd : goodP L la tk nx ny = (decide (la < (nx : Int)) && (setF L nx).testBit ny && !tk.testBit nx && !tk.testBit ny) := by
      unfold goodP
      rw [decide_eq_true (p := (nx : Int) < ny) (by omega), decide_eq_true (p := (ny : Int) < L.length) (by omega), Bool.and_true, Bool.and_true]
      rfl
    simp +decide (disch := first | assumption | (apply GH.ok_push; assumption) | exact cellV_int _ _ | exact cellV_bool _ | omega) only [go_sem, ↓reduceIte, Nat.reduceEqDiff, Nat.reduceAdd, Int.reduceToNat, he, hnG, hls, hg1, hob, hob2, oV_s, f0, f2, f3, hq1]
    simp only [hq2', oV_s]
    refine envR (fun e => ev e (.s 0) = s ∧ ev e (.s 1) = p ∧ ev e (.s 6) = .int .i64 (i : Nat) ∧ ev e (.s 5) = .int .i64 (tk : Nat) ∧ ev e (.s 7) = ptrTo g'.next ∧ ev e (.s 35) = .bool false ∧ ev e (.s 40) = .int .i64 (setF L nx : Nat)) ?h2 (fun e he => ?_)
    case h2 => exact (by simp +decide (disch := first | assumption | (apply GH.ok_push; assumption) | exact cellV_int _ _ | exact cellV_bool _ | omega) only [go_sem, ↓reduceIte, Nat.reduceEqDiff, Nat.reduceAdd, Int.reduceToNat, he]; first | done | exact rfl)
    cases cb : (setF L nx).testBit ny with
    | false =>
      rw [cb] at r2
      have r2' : (((setF L nx : Nat) : Int) / 2 ^ ny).tmod 2 = 0 := r2
      simp +decide (disch := first | assumption | (apply GH.ok_push; assumption) | exact cellV_int _ _ | exact cellV_bool _ | omega) only [go_sem, ↓reduceIte, Nat.reduceEqDiff, Nat.reduceAdd, Int.reduceToNat, he, hnG, hg1, hob2, oV_s, ib_shr n2, r1, r2']
      intro hx0
      exact ⟨by omega, by rw [← hr, hbad (by rw [hgd, cb, Bool.and_false]; rfl)]⟩
    | true =>
    rw [cb] at r2 hgd
    have r2' : (((setF L nx : Nat) : Int) / 2 ^ ny).tmod 2 = 1 := r2
    cases ca : tk.testBit nx with
    | true =>
      rw [ca] at r4
      have r4' : ((tk : Int) / 2 ^ nx).tmod 2 = 1 := r4
      simp +decide (disch := first | assumption | (apply GH.ok_push; assumption) | exact cellV_int _ _ | exact cellV_bool _ | omega) only [go_sem, ↓reduceIte, Nat.reduceEqDiff, Nat.reduceAdd, Int.reduceToNat, he, hnG, hg1, hob, hob2, oV_s, ib_shr n2, ib_shr n1, r1, r2', r3, r4']
      intro hx0
      exact ⟨by omega, by rw [← hr, hbad (by rw [hgd, ca]; simp)]⟩
    | false =>
    rw [ca] at r4 hgd
    have r4' : ((tk : Int) / 2 ^ nx).tmod 2 = 0 := r4
    cases cc : tk.testBit ny with
    | true =>
      rw [cc] at r6
      have r6' : ((tk : Int) / 2 ^ ny).tmod 2 = 1 := r6
      simp +decide (disch := first | assumption | (apply GH.ok_push; assumption) | exact cellV_int _ _ | exact cellV_bool _ | omega) only [go_sem, ↓reduceIte, Nat.reduceEqDiff, Nat.reduceAdd, Int.reduceToNat, he, hnG, hg1, hob, hob2, oV_s, ib_shr n2, ib_shr n1, r1, r2', r3, r4', r5, r6']
      intro hx0
      exact ⟨by omega, by rw [← hr, hbad (by rw [hgd, cc]; simp)]⟩
    | false =>
    rw [cc] at r6 hgd
    have r6' : ((tk : Int) / 2 ^ ny).tmod 2 = 0 := r6
    have s1 := shl_i (k := nx) (by omega)
    have s2 := shl_i (k := ny) (by omega)
    have l1 := two_lt (k := nx) (by omega)
    have l2 := two_lt (k := ny) (by omega)
    have hv3' : tk < 2 ^ 10 := hv3
    have l3 := or_lt hv3' (show nx < 10 by omega)
    have o1 := or_i (a := tk) (b := 2 ^ nx) (by omega) (by omega)
    have o2' := or_i (a := tk ||| 2 ^ nx) (b := 2 ^ ny) (by omega) (by omega)
    by_cases ci0 : i = 0
    · have hla' := hla0 ci0
      have hgd' : goodP L la tk nx ny = true := by rw [hgd, decide_eq_true (p := la < (nx : Int)) (by omega)]; rfl
      rw [hgd'] at htk
      have i0 : ¬ (0 : Int) < (i : Nat) := by omega
      simp +decide (disch := first | assumption | (apply GH.ok_push; assumption) | exact cellV_int _ _ | exact cellV_bool _ | omega) only [go_sem, ↓reduceIte, Nat.reduceEqDiff, Nat.reduceAdd, Int.reduceToNat, he, hnG, hg1, hob, hob2, oV_s, ib_shr n2, ib_shr n1, r1, r2', r3, r4', r5, r6', i0, s1, s2, o1, o2']
      refine ih (m - 1) _ _ _ (by omega) ⟨by omega, hkG, i + 1, by omega, ?_, htk⟩
      rw [htt]
      exact (by simp +decide (disch := first | assumption | (apply GH.ok_push; assumption) | exact cellV_int _ _ | exact cellV_bool _ | omega) only [go_sem, ↓reduceIte, Nat.reduceEqDiff, Nat.reduceAdd, Int.reduceToNat, he]; first | done | exact rfl)
    · obtain ⟨hi1, hla'⟩ := hlas (by omega)
      have i0 : (0 : Int) < (i : Nat) := by omega
      obtain ⟨j3, a3, hj3, ht1, ht2, ht3⟩ := (hp.kept hkG).ptr hi1
      have ht1 := ht1 ((i : Int) - 1) (by omega)
      obtain ⟨c1, c2⟩ := cellsI_get P (i - 1) hi1
      have ht20 := fun lo => ht2 lo 0 _ (by omega) c1
      rw [Nat.add_zero, ← hla'] at ht20
      by_cases f5 : la < (nx : Int)
      · have hgd' : goodP L la tk nx ny = true := by rw [hgd, decide_eq_true f5]; rfl
        rw [hgd'] at htk
        have f5' : ¬ (nx : Int) ≤ la := by omega
        simp +decide (disch := first | assumption | (apply GH.ok_push; assumption) | exact cellV_int _ _ | exact cellV_bool _ | omega) only [go_sem, ↓reduceIte, Nat.reduceEqDiff, Nat.reduceAdd, Int.reduceToNat, he, hnG, hg1, hob, hob2, oV_s, ib_shr n2, ib_shr n1, r1, r2', r3, r4', r5, r6', i0, ht1, ht20, s1, s2, o1, o2', f5']
        refine ih (m - 1) _ _ _ (by omega) ⟨by omega, hkG, i + 1, by omega, ?_, htk⟩
        rw [htt]
        exact (by simp +decide (disch := first | assumption | (apply GH.ok_push; assumption) | exact cellV_int _ _ | exact cellV_bool _ | omega) only [go_sem, ↓reduceIte, Nat.reduceEqDiff, Nat.reduceAdd, Int.reduceToNat, he]; first | done | exact rfl)
      · have f5' : (nx : Int) ≤ la := by omega
        simp +decide (disch := first | assumption | (apply GH.ok_push; assumption) | exact cellV_int _ _ | exact cellV_bool _ | omega) only [go_sem, ↓reduceIte, Nat.reduceEqDiff, Nat.reduceAdd, Int.reduceToNat, he, hnG, hg1, hob, hob2, oV_s, ib_shr n2, ib_shr n1, r1, r2', r3, r4', r5, r6', i0, ht1, ht20, f5']
        intro hx0
        exact ⟨by omega, by rw [← hr, hbad (by rw [hgd, decide_eq_false f5]; rfl)]⟩
end Go.Proofs.YtnpapnpedcbfnaaDoor
set_option maxRecDepth 100000
set_option maxHeartbeats 4000000
set_option linter.unusedSimpArgs false
set_option linter.unusedVariables false
namespace Go.Proofs.YtnpapnpedcbfnaaDoor
open Go.Ds Go.Vs
theorem refAnswer_rets {X : Caller} (hX : Xfr X) (L : List Int) (hL : L.length ≤ 40) (s p : Value) (P : List (Int × Int)) (hP : P.length ≤ 1000) (h : Int) (g : GH) (hs : SlR g s (ints L)) (hp : SlQ g p 2 P.length (cellsI P)) :
    Rets Tryd.prog X 34 [s, p, .int .i64 h] g (fun v g' lo => g.next ≤ lo ∧ v = ansV L P h) := by
  have hl := hp.len
  have hls := hs.len
  rw [ints_len] at hls
  generalize hr : ansV L P h = r
  refine Rets.run hX.pres p34 (hX.free 34 (by decide) _ _) rfl fun ho => ?_
  simp +decide (disch := first | assumption | exact cellV_int _ _ | exact cellV_bool _ | omega | (simp only [GH.pn, GH.sn] <;> omega) | (with_reducible ((repeat (first | apply GH.ok_push | apply GH.ok_set)); assumption)) | ((try simp only [GH.push_hid, GH.set_hid]); first | assumption | (refine GH.vis ?_ ?_ <;> first | assumption | ((try simp only [GH.pn, GH.sn]) <;> omega)))) only [go_sem, ↓reduceIte, Nat.reduceEqDiff, Nat.reduceAdd, Int.reduceToNat, Int.reduceAdd, Int.reduceNeg, Int.reduceSub, Int.reduceMul, Int.reduceLT, Int.reduceLE, Int.reduceEq, ↓GH.gp_eq, ↓GH.gp_ne, ↓GH.gs_eq, ↓GH.gs_ne, GH.push_next, GH.set_next]
  refine CallD.calm (refIsShop_rets hX L hL s g hs) ?_
  rintro v g1 hx1 rfl
  have hn1 := hx1.next
  cases hz : shopB L with
  | false =>
    simp +decide (disch := first | assumption | exact cellV_int _ _ | exact cellV_bool _ | omega | (simp only [GH.pn, GH.sn] <;> omega) | (with_reducible ((repeat (first | apply GH.ok_push | apply GH.ok_set)); assumption)) | ((try simp only [GH.push_hid, GH.set_hid]); first | assumption | (refine GH.vis ?_ ?_ <;> first | assumption | ((try simp only [GH.pn, GH.sn]) <;> omega)))) only [go_sem, ↓reduceIte, Nat.reduceEqDiff, Nat.reduceAdd, Int.reduceToNat, Int.reduceAdd, Int.reduceNeg, Int.reduceSub, Int.reduceMul, Int.reduceLT, Int.reduceLE, Int.reduceEq, ↓GH.gp_eq, ↓GH.gp_ne, ↓GH.gs_eq, ↓GH.gs_ne, GH.push_next, GH.set_next]
    intro hx0
    exact ⟨by omega, by rw [← hr, ansV, hz]; rfl⟩
  | true =>
  simp +decide (disch := first | assumption | exact cellV_int _ _ | exact cellV_bool _ | omega | (simp only [GH.pn, GH.sn] <;> omega) | (with_reducible ((repeat (first | apply GH.ok_push | apply GH.ok_set)); assumption)) | ((try simp only [GH.push_hid, GH.set_hid]); first | assumption | (refine GH.vis ?_ ?_ <;> first | assumption | ((try simp only [GH.pn, GH.sn]) <;> omega)))) only [go_sem, ↓reduceIte, Nat.reduceEqDiff, Nat.reduceAdd, Int.reduceToNat, Int.reduceAdd, Int.reduceNeg, Int.reduceSub, Int.reduceMul, Int.reduceLT, Int.reduceLE, Int.reduceEq, ↓GH.gp_eq, ↓GH.gp_ne, ↓GH.gs_eq, ↓GH.gs_ne, GH.push_next, GH.set_next]
  refine CallD.calm (refMatching_rets hX L hz s p P hP g1 (hs.ext hx1) (hp.kept hx1.kept)) ?_
  rintro v g2 hx2 rfl
  have hn2 := hx2.next
  have hk2 := hx1.kept.ext hx2
  cases hm : matI L P with
  | false =>
    simp +decide (disch := first | assumption | exact cellV_int _ _ | exact cellV_bool _ | omega | (simp only [GH.pn, GH.sn] <;> omega) | (with_reducible ((repeat (first | apply GH.ok_push | apply GH.ok_set)); assumption)) | ((try simp only [GH.push_hid, GH.set_hid]); first | assumption | (refine GH.vis ?_ ?_ <;> first | assumption | ((try simp only [GH.pn, GH.sn]) <;> omega)))) only [go_sem, ↓reduceIte, Nat.reduceEqDiff, Nat.reduceAdd, Int.reduceToNat, Int.reduceAdd, Int.reduceNeg, Int.reduceSub, Int.reduceMul, Int.reduceLT, Int.reduceLE, Int.reduceEq, ↓GH.gp_eq, ↓GH.gp_ne, ↓GH.gs_eq, ↓GH.gs_ne, GH.push_next, GH.set_next]
    intro hx0
    exact ⟨by omega, by rw [← hr, ansV, hz, hm]; rfl⟩
  | true =>
  by_cases h0 : h < 0
  · simp +decide (disch := first | assumption | exact cellV_int _ _ | exact cellV_bool _ | omega | (simp only [GH.pn, GH.sn] <;> omega) | (with_reducible ((repeat (first | apply GH.ok_push | apply GH.ok_set)); assumption)) | ((try simp only [GH.push_hid, GH.set_hid]); first | assumption | (refine GH.vis ?_ ?_ <;> first | assumption | ((try simp only [GH.pn, GH.sn]) <;> omega)))) only [go_sem, ↓reduceIte, Nat.reduceEqDiff, Nat.reduceAdd, Int.reduceToNat, Int.reduceAdd, Int.reduceNeg, Int.reduceSub, Int.reduceMul, Int.reduceLT, Int.reduceLE, Int.reduceEq, ↓GH.gp_eq, ↓GH.gp_ne, ↓GH.gs_eq, ↓GH.gs_ne, GH.push_next, GH.set_next, h0]
    intro hx0
    exact ⟨by omega, by rw [← hr, ansV, hz, hm, decide_eq_false (p := 0 ≤ h) (by omega)]; rfl⟩
  by_cases h1 : (L.length : Int) ≤ h
  · simp +decide (disch := first | assumption | exact cellV_int _ _ | exact cellV_bool _ | omega | (simp only [GH.pn, GH.sn] <;> omega) | (with_reducible ((repeat (first | apply GH.ok_push | apply GH.ok_set)); assumption)) | ((try simp only [GH.push_hid, GH.set_hid]); first | assumption | (refine GH.vis ?_ ?_ <;> first | assumption | ((try simp only [GH.pn, GH.sn]) <;> omega)))) only [go_sem, ↓reduceIte, Nat.reduceEqDiff, Nat.reduceAdd, Int.reduceToNat, Int.reduceAdd, Int.reduceNeg, Int.reduceSub, Int.reduceMul, Int.reduceLT, Int.reduceLE, Int.reduceEq, ↓GH.gp_eq, ↓GH.gp_ne, ↓GH.gs_eq, ↓GH.gs_ne, GH.push_next, GH.set_next, h0, h1, hls]
    intro hx0
    exact ⟨by omega, by rw [← hr, ansV, hz, hm, decide_eq_false (p := h < (L.length : Int)) (by omega), Bool.and_false]; rfl⟩
  have hr : r = .tuple #[.int .i64 (ansF P h), .int .i64 0] := by rw [← hr, ansV, hz, hm, decide_eq_true (p := h < (L.length : Int)) (by omega), decide_eq_true (p := 0 ≤ h) (by omega)]; rfl
  simp +decide (disch := first | assumption | exact cellV_int _ _ | exact cellV_bool _ | omega | (simp only [GH.pn, GH.sn] <;> omega) | (with_reducible ((repeat (first | apply GH.ok_push | apply GH.ok_set)); assumption)) | ((try simp only [GH.push_hid, GH.set_hid]); first | assumption | (refine GH.vis ?_ ?_ <;> first | assumption | ((try simp only [GH.pn, GH.sn]) <;> omega)))) only [go_sem, ↓reduceIte, Nat.reduceEqDiff, Nat.reduceAdd, Int.reduceToNat, Int.reduceAdd, Int.reduceNeg, Int.reduceSub, Int.reduceMul, Int.reduceLT, Int.reduceLE, Int.reduceEq, ↓GH.gp_eq, ↓GH.gp_ne, ↓GH.gs_eq, ↓GH.gs_ne, GH.push_next, GH.set_next, h0, h1, hls]
  refine Wk.loops (fun m e g' lo => g.next ≤ lo ∧ Kept g g' ∧ ∃ i : Nat, i + m = P.length ∧ (ev e (.s 2) = .int .i64 h ∧ ev e (.s 1) = p ∧ ev e (.s 8) = .int .i64 (i : Nat)) ∧ ansF (P.drop i) h = ansF P h)
    (fun e g' lo => g.next ≤ lo ∧ ansF P h = -1) (n := P.length) ?_ ?_ ?_
  · exact ⟨by omega, hk2, 0, by omega, (by simp +decide (disch := first | assumption | (apply GH.ok_push; assumption) | exact cellV_int _ _ | exact cellV_bool _ | omega) only [go_sem, ↓reduceIte, Nat.reduceEqDiff, Nat.reduceAdd, Int.reduceToNat, hl]; first | done | exact rfl), rfl⟩
  · rintro e g' lo - - ⟨hlo, hq⟩
    simp +decide (disch := first | assumption | exact cellV_int _ _ | exact cellV_bool _ | omega | (simp only [GH.pn, GH.sn] <;> omega) | (with_reducible ((repeat (first | apply GH.ok_push | apply GH.ok_set)); assumption)) | ((try simp only [GH.push_hid, GH.set_hid]); first | assumption | (refine GH.vis ?_ ?_ <;> first | assumption | ((try simp only [GH.pn, GH.sn]) <;> omega)))) only [go_sem, ↓reduceIte, Nat.reduceEqDiff, Nat.reduceAdd, Int.reduceToNat, Int.reduceAdd, Int.reduceNeg, Int.reduceSub, Int.reduceMul, Int.reduceLT, Int.reduceLE, Int.reduceEq, ↓GH.gp_eq, ↓GH.gp_ne, ↓GH.gs_eq, ↓GH.gs_ne, GH.push_next, GH.set_next]
    intro hx0
    exact ⟨hlo, by rw [hr, hq]⟩
  · rintro m e g' lo ho' hl' ih out ⟨hlo, hk, i, hi, he, ha⟩
    have hkn := hk.next
    by_cases ci : i < P.length
    case neg =>
      have ci' : ¬ (i : Int) < P.length := by omega
      simp +decide (disch := first | assumption | exact cellV_int _ _ | exact cellV_bool _ | omega | (simp only [GH.pn, GH.sn] <;> omega) | (with_reducible ((repeat (first | apply GH.ok_push | apply GH.ok_set)); assumption)) | ((try simp only [GH.push_hid, GH.set_hid]); first | assumption | (refine GH.vis ?_ ?_ <;> first | assumption | ((try simp only [GH.pn, GH.sn]) <;> omega)))) only [go_sem, ↓reduceIte, Nat.reduceEqDiff, Nat.reduceAdd, Int.reduceToNat, Int.reduceAdd, Int.reduceNeg, Int.reduceSub, Int.reduceMul, Int.reduceLT, Int.reduceLE, Int.reduceEq, ↓GH.gp_eq, ↓GH.gp_ne, ↓GH.gs_eq, ↓GH.gs_ne, GH.push_next, GH.set_next, he, hl, ci']
      have : i = P.length := by omega
      subst this
      rw [List.drop_length] at ha
      exact out _ _ _ ⟨hlo, ha.symm⟩
    have ci' : (i : Int) < P.length := by omega
    obtain ⟨j, a, hj, hp1, hp2, hp3⟩ := (hp.kept hk).ptr ci
    have hp1 := hp1 (i : Int) rfl
    have had := ans_drop P i ci h
    rw [ha] at had
    obtain ⟨c1, c2⟩ := cellsI_get P i ci
    obtain ⟨q, hq⟩ : ∃ q, P[i] = q := ⟨_, rfl⟩
    obtain ⟨x, y⟩ := q
    rw [hq] at c1 c2 had
    dsimp only at c1 c2 had
    have hp20 := fun lo => hp2 lo 0 _ (by omega) c1
    have hp21 := fun lo => hp2 lo 1 _ (by omega) c2
    rw [Nat.add_zero] at hp20
    by_cases f1 : x = h
    · subst f1
      simp +decide (disch := first | assumption | exact cellV_int _ _ | exact cellV_bool _ | omega | (simp only [GH.pn, GH.sn] <;> omega) | (with_reducible ((repeat (first | apply GH.ok_push | apply GH.ok_set)); assumption)) | ((try simp only [GH.push_hid, GH.set_hid]); first | assumption | (refine GH.vis ?_ ?_ <;> first | assumption | ((try simp only [GH.pn, GH.sn]) <;> omega)))) only [go_sem, ↓reduceIte, Nat.reduceEqDiff, Nat.reduceAdd, Int.reduceToNat, Int.reduceAdd, Int.reduceNeg, Int.reduceSub, Int.reduceMul, Int.reduceLT, Int.reduceLE, Int.reduceEq, ↓GH.gp_eq, ↓GH.gp_ne, ↓GH.gs_eq, ↓GH.gs_ne, GH.push_next, GH.set_next, he, ci', hl, hp1, hp20, hp21]
      intro hx0
      exact ⟨by omega, by rw [hr, had, if_pos rfl]⟩
    by_cases f2 : y = h
    · subst f2
      simp +decide (disch := first | assumption | exact cellV_int _ _ | exact cellV_bool _ | omega | (simp only [GH.pn, GH.sn] <;> omega) | (with_reducible ((repeat (first | apply GH.ok_push | apply GH.ok_set)); assumption)) | ((try simp only [GH.push_hid, GH.set_hid]); first | assumption | (refine GH.vis ?_ ?_ <;> first | assumption | ((try simp only [GH.pn, GH.sn]) <;> omega)))) only [go_sem, ↓reduceIte, Nat.reduceEqDiff, Nat.reduceAdd, Int.reduceToNat, Int.reduceAdd, Int.reduceNeg, Int.reduceSub, Int.reduceMul, Int.reduceLT, Int.reduceLE, Int.reduceEq, ↓GH.gp_eq, ↓GH.gp_ne, ↓GH.gs_eq, ↓GH.gs_ne, GH.push_next, GH.set_next, he, ci', hl, hp1, hp20, hp21, f1]
      intro hx0
      exact ⟨by omega, by rw [hr, had, if_neg f1, if_pos rfl]⟩
    simp +decide (disch := first | assumption | exact cellV_int _ _ | exact cellV_bool _ | omega | (simp only [GH.pn, GH.sn] <;> omega) | (with_reducible ((repeat (first | apply GH.ok_push | apply GH.ok_set)); assumption)) | ((try simp only [GH.push_hid, GH.set_hid]); first | assumption | (refine GH.vis ?_ ?_ <;> first | assumption | ((try simp only [GH.pn, GH.sn]) <;> omega)))) only [go_sem, ↓reduceIte, Nat.reduceEqDiff, Nat.reduceAdd, Int.reduceToNat, Int.reduceAdd, Int.reduceNeg, Int.reduceSub, Int.reduceMul, Int.reduceLT, Int.reduceLE, Int.reduceEq, ↓GH.gp_eq, ↓GH.gp_ne, ↓GH.gs_eq, ↓GH.gs_ne, GH.push_next, GH.set_next, he, ci', hl, hp1, hp20, hp21, f1, f2]
    exact ih (m - 1) _ _ _ (by omega) ⟨by omega, hk, i + 1, by omega, (by simp +decide (disch := first | assumption | (apply GH.ok_push; assumption) | exact cellV_int _ _ | exact cellV_bool _ | omega) only [go_sem, ↓reduceIte, Nat.reduceEqDiff, Nat.reduceAdd, Int.reduceToNat, he]; first | done | exact rfl), by rw [had, if_neg f1, if_neg f2]⟩
theorem ansV_ext (L : List Int) (P : List (Int × Int)) (h : Int) : ∃ a b, ansV L P h = .tuple #[.int .i64 a, .int .i64 b] := by
  unfold ansV
  split
  · exact ⟨_, _, rfl⟩
  · exact ⟨_, _, rfl⟩
theorem answersLaw_rets {X : Caller} (hX : Xok X) (L : List Int) (s p : Value) (P : List (Int × Int)) (h : Int) (g : GH) (hT : HasTab g) (hs : SlR g s (ints L)) (hp : SlQ g p 2 P.length (cellsI P)) :
    Rets Tryd.prog X 6 [s, p, .int .i64 h] g (fun v g' lo => g.next ≤ lo ∧ v = .bool true) := by
  have hl := hs.len
  rw [ints_len] at hl
  have hlp := hp.len
  refine Rets.run hX.pres p6 (hX.free 6 (by decide) _ _) rfl fun ho => ?_
  simp +decide (disch := first | assumption | exact cellV_int _ _ | exact cellV_bool _ | omega | (simp only [GH.pn, GH.sn] <;> omega) | (with_reducible ((repeat (first | apply GH.ok_push | apply GH.ok_set)); assumption)) | ((try simp only [GH.push_hid, GH.set_hid]); first | assumption | (refine GH.vis ?_ ?_ <;> first | assumption | ((try simp only [GH.pn, GH.sn]) <;> omega)))) only [go_sem, ↓reduceIte, Nat.reduceEqDiff, Nat.reduceAdd, Int.reduceToNat, Int.reduceAdd, Int.reduceNeg, Int.reduceSub, Int.reduceMul, Int.reduceLT, Int.reduceLE, Int.reduceEq, ↓GH.gp_eq, ↓GH.gp_ne, ↓GH.gs_eq, ↓GH.gs_ne, GH.push_next, GH.set_next]
  refine CallD.calm (few_rets hX.toXfr s p _ _ hl hlp g) ?_
  rintro v g1 hx1 rfl
  have hn1 := hx1.next
  have hT1 := hT.ext hx1
  cases hf : (decide (L.length ≤ 40) && decide (P.length ≤ 40)) with
  | false =>
    simp +decide (disch := first | assumption | exact cellV_int _ _ | exact cellV_bool _ | omega | (simp only [GH.pn, GH.sn] <;> omega) | (with_reducible ((repeat (first | apply GH.ok_push | apply GH.ok_set)); assumption)) | ((try simp only [GH.push_hid, GH.set_hid]); first | assumption | (refine GH.vis ?_ ?_ <;> first | assumption | ((try simp only [GH.pn, GH.sn]) <;> omega)))) only [go_sem, ↓reduceIte, Nat.reduceEqDiff, Nat.reduceAdd, Int.reduceToNat, Int.reduceAdd, Int.reduceNeg, Int.reduceSub, Int.reduceMul, Int.reduceLT, Int.reduceLE, Int.reduceEq, ↓GH.gp_eq, ↓GH.gp_ne, ↓GH.gs_eq, ↓GH.gs_ne, GH.push_next, GH.set_next]
    refine CallD.calm (hX.alive g1 hT1) ?_
    rintro v g2 hx2 rfl
    have hn2 := hx2.next
    simp +decide (disch := first | assumption | exact cellV_int _ _ | exact cellV_bool _ | omega | (simp only [GH.pn, GH.sn] <;> omega) | (with_reducible ((repeat (first | apply GH.ok_push | apply GH.ok_set)); assumption)) | ((try simp only [GH.push_hid, GH.set_hid]); first | assumption | (refine GH.vis ?_ ?_ <;> first | assumption | ((try simp only [GH.pn, GH.sn]) <;> omega)))) only [go_sem, ↓reduceIte, Nat.reduceEqDiff, Nat.reduceAdd, Int.reduceToNat, Int.reduceAdd, Int.reduceNeg, Int.reduceSub, Int.reduceMul, Int.reduceLT, Int.reduceLE, Int.reduceEq, ↓GH.gp_eq, ↓GH.gp_ne, ↓GH.gs_eq, ↓GH.gs_ne, GH.push_next, GH.set_next]
    intro hx0
    exact ⟨by omega, rfl⟩
  | true =>
  rw [Bool.and_eq_true, decide_eq_true_eq, decide_eq_true_eq] at hf
  have a1 := answer_rets hX.toXfr L hf.1 s p P (by omega) h g1 (hs.ext hx1) (hp.kept hx1.kept)
  have a2 := fun (G : GH) (hk : Kept g G) => refAnswer_rets hX.toXfr L hf.1 s p P (by omega) h G (hs.kept hk) (hp.kept hk)
  obtain ⟨a, b, hab⟩ := ansV_ext L P h
  rw [hab] at a1
  simp only [hab] at a2
  simp +decide (disch := first | assumption | exact cellV_int _ _ | exact cellV_bool _ | omega | (simp only [GH.pn, GH.sn] <;> omega) | (with_reducible ((repeat (first | apply GH.ok_push | apply GH.ok_set)); assumption)) | ((try simp only [GH.push_hid, GH.set_hid]); first | assumption | (refine GH.vis ?_ ?_ <;> first | assumption | ((try simp only [GH.pn, GH.sn]) <;> omega)))) only [go_sem, ↓reduceIte, Nat.reduceEqDiff, Nat.reduceAdd, Int.reduceToNat, Int.reduceAdd, Int.reduceNeg, Int.reduceSub, Int.reduceMul, Int.reduceLT, Int.reduceLE, Int.reduceEq, ↓GH.gp_eq, ↓GH.gp_ne, ↓GH.gs_eq, ↓GH.gs_ne, GH.push_next, GH.set_next]
  refine CallD.calm a1 ?_
  rintro v g2 hx2 rfl
  have hn2 := hx2.next
  have hk2 : Kept g g2 := hx1.kept.ext hx2
  simp +decide (disch := first | assumption | exact cellV_int _ _ | exact cellV_bool _ | omega | (simp only [GH.pn, GH.sn] <;> omega) | (with_reducible ((repeat (first | apply GH.ok_push | apply GH.ok_set)); assumption)) | ((try simp only [GH.push_hid, GH.set_hid]); first | assumption | (refine GH.vis ?_ ?_ <;> first | assumption | ((try simp only [GH.pn, GH.sn]) <;> omega)))) only [go_sem, ↓reduceIte, Nat.reduceEqDiff, Nat.reduceAdd, Int.reduceToNat, Int.reduceAdd, Int.reduceNeg, Int.reduceSub, Int.reduceMul, Int.reduceLT, Int.reduceLE, Int.reduceEq, ↓GH.gp_eq, ↓GH.gp_ne, ↓GH.gs_eq, ↓GH.gs_ne, GH.push_next, GH.set_next, ext20, ext21]
  refine CallD.calm (a2 g2 hk2) ?_
  rintro v g3 hx3 rfl
  have hn3 := hx3.next
  have hk3 : Kept g g3 := hk2.ext hx3
  simp +decide (disch := first | assumption | exact cellV_int _ _ | exact cellV_bool _ | omega | (simp only [GH.pn, GH.sn] <;> omega) | (with_reducible ((repeat (first | apply GH.ok_push | apply GH.ok_set)); assumption)) | ((try simp only [GH.push_hid, GH.set_hid]); first | assumption | (refine GH.vis ?_ ?_ <;> first | assumption | ((try simp only [GH.pn, GH.sn]) <;> omega)))) only [go_sem, ↓reduceIte, Nat.reduceEqDiff, Nat.reduceAdd, Int.reduceToNat, Int.reduceAdd, Int.reduceNeg, Int.reduceSub, Int.reduceMul, Int.reduceLT, Int.reduceLE, Int.reduceEq, ↓GH.gp_eq, ↓GH.gp_ne, ↓GH.gs_eq, ↓GH.gs_ne, GH.push_next, GH.set_next, ext20, ext21]
  refine CallD.calm (hX.alive g3 (hT.kept hk3)) ?_
  rintro v g4 hx4 rfl
  have hn4 := hx4.next
  simp +decide (disch := first | assumption | exact cellV_int _ _ | exact cellV_bool _ | omega | (simp only [GH.pn, GH.sn] <;> omega) | (with_reducible ((repeat (first | apply GH.ok_push | apply GH.ok_set)); assumption)) | ((try simp only [GH.push_hid, GH.set_hid]); first | assumption | (refine GH.vis ?_ ?_ <;> first | assumption | ((try simp only [GH.pn, GH.sn]) <;> omega)))) only [go_sem, ↓reduceIte, Nat.reduceEqDiff, Nat.reduceAdd, Int.reduceToNat, Int.reduceAdd, Int.reduceNeg, Int.reduceSub, Int.reduceMul, Int.reduceLT, Int.reduceLE, Int.reduceEq, ↓GH.gp_eq, ↓GH.gp_ne, ↓GH.gs_eq, ↓GH.gs_ne, GH.push_next, GH.set_next]
  intro hx0
  exact ⟨by omega, rfl⟩
end Go.Proofs.YtnpapnpedcbfnaaDoor
set_option maxRecDepth 100000
set_option maxHeartbeats 4000000
set_option linter.unusedSimpArgs false
set_option linter.unusedVariables false
namespace Go.Proofs.YtnpapnpedcbfnaaDoor
open Go.Ds Go.Vs
def needV (L : List Int) : Value := .tuple #[.int .i64 (needF (setF L) L.length L.length : Nat), .int .i64 0]
theorem needed_rets {X : Caller} (hX : Xok X) (L : List Int) (hL : shopB L = true) (s : Value) (g : GH) (hT : HasTab g) (hs : SlR g s (ints L)) :
    Rets Tryd.prog X 25 [s] g (fun v g' lo => g.next ≤ lo ∧ v = needV L) := by
  obtain ⟨hL1, hL10, hA⟩ := shop_ok hL
  have hl := hs.len
  rw [ints_len] at hl
  have hsh := IsShop_rets hX.toXfr L (by omega) s g hs
  rw [hL] at hsh
  have hsz := fun g hT hs => sizes_rets hX L hL s g hT hs
  have ha := fun g hs => allHats_rets hX.toXfr L hL10 s g hs
  have e2 : (2 : Int) ^ L.length - 1 = (allN L.length : Nat) := by
    unfold allN
    have := Nat.two_pow_pos L.length
    have e2 : ((2 ^ L.length : Nat) : Int) = 2 ^ L.length := by simp
    omega
  have hN : 2 ^ L.length ≤ 1024 := Nat.pow_le_pow_right (by decide) hL10
  rw [e2] at ha
  have hal : allN L.length < 2 ^ L.length := all_lt _
  have hnl := fun i => needF_lt (setF L) L.length i
  have hps := fun i (h : i ≤ L.length) => Nat.pow_le_pow_right (n := 2) (by decide) h
  obtain ⟨A, hAe⟩ : ∃ A, setF L = A := ⟨_, rfl⟩
  obtain ⟨N, hNe⟩ : ∃ N, 2 ^ L.length = N := ⟨_, rfl⟩
  have hnd : ∀ i, needF A L.length (i + 1) = if best A L.length (del (allN L.length) i) < best A L.length (allN L.length) then needF A L.length i ||| 2 ^ i else needF A L.length i := fun _ => rfl
  unfold needV
  rw [hNe] at hsz hN hal
  rw [hAe] at hA hsz hnl ⊢
  have hps := fun i (h : i ≤ L.length) => hNe ▸ hps i h
  generalize hall : allN L.length = all at *
  refine Rets.run hX.pres p25 (hX.free 25 (by decide) _ _) rfl fun ho => ?_
  simp +decide (disch := first | assumption | exact cellV_int _ _ | exact cellV_bool _ | omega | (simp only [GH.pn, GH.sn] <;> omega) | (with_reducible ((repeat (first | apply GH.ok_push | apply GH.ok_set)); assumption)) | ((try simp only [GH.push_hid, GH.set_hid]); first | assumption | (refine GH.vis ?_ ?_ <;> first | assumption | ((try simp only [GH.pn, GH.sn]) <;> omega)))) only [go_sem, ↓reduceIte, Nat.reduceEqDiff, Nat.reduceAdd, Int.reduceToNat, Int.reduceAdd, Int.reduceNeg, Int.reduceSub, Int.reduceMul, Int.reduceLT, Int.reduceLE, Int.reduceEq, ↓GH.gp_eq, ↓GH.gp_ne, ↓GH.gs_eq, ↓GH.gs_ne, GH.push_next, GH.set_next]
  refine CallD.calm hsh ?_
  rintro v g0 hx0 rfl
  have hn0 := hx0.next
  simp +decide (disch := first | assumption | exact cellV_int _ _ | exact cellV_bool _ | omega | (simp only [GH.pn, GH.sn] <;> omega) | (with_reducible ((repeat (first | apply GH.ok_push | apply GH.ok_set)); assumption)) | ((try simp only [GH.push_hid, GH.set_hid]); first | assumption | (refine GH.vis ?_ ?_ <;> first | assumption | ((try simp only [GH.pn, GH.sn]) <;> omega)))) only [go_sem, ↓reduceIte, Nat.reduceEqDiff, Nat.reduceAdd, Int.reduceToNat, Int.reduceAdd, Int.reduceNeg, Int.reduceSub, Int.reduceMul, Int.reduceLT, Int.reduceLE, Int.reduceEq, ↓GH.gp_eq, ↓GH.gp_ne, ↓GH.gs_eq, ↓GH.gs_ne, GH.push_next, GH.set_next]
  refine CallD.calm (hsz g0 (hT.ext hx0) (hs.ext hx0)) ?_
  rintro v g1 hx1 ⟨hok1, hk1, J, T, rfl, hJ1, hJ2, hget, hTl, hTb⟩
  have hn1 := hx1.next
  have hk1' : Kept g g1 := hx0.kept.trans hk1
  simp +decide (disch := first | assumption | exact cellV_int _ _ | exact cellV_bool _ | omega | (simp only [GH.pn, GH.sn] <;> omega) | (with_reducible ((repeat (first | apply GH.ok_push | apply GH.ok_set)); assumption)) | ((try simp only [GH.push_hid, GH.set_hid]); first | assumption | (refine GH.vis ?_ ?_ <;> first | assumption | ((try simp only [GH.pn, GH.sn]) <;> omega)))) only [go_sem, ↓reduceIte, Nat.reduceEqDiff, Nat.reduceAdd, Int.reduceToNat, Int.reduceAdd, Int.reduceNeg, Int.reduceSub, Int.reduceMul, Int.reduceLT, Int.reduceLE, Int.reduceEq, ↓GH.gp_eq, ↓GH.gp_ne, ↓GH.gs_eq, ↓GH.gs_ne, GH.push_next, GH.set_next]
  refine CallD.calm (ha g1 (hs.kept hk1')) ?_
  rintro v g2 hx2 rfl
  have hn2 := hx2.next
  have hok2 := hx2.ok hok1
  have hget2 := (hx2.gets J hJ2).trans hget
  simp +decide (disch := first | assumption | exact cellV_int _ _ | exact cellV_bool _ | omega | (simp only [GH.pn, GH.sn] <;> omega) | (with_reducible ((repeat (first | apply GH.ok_push | apply GH.ok_set)); assumption)) | ((try simp only [GH.push_hid, GH.set_hid]); first | assumption | (refine GH.vis ?_ ?_ <;> first | assumption | ((try simp only [GH.pn, GH.sn]) <;> omega)))) only [go_sem, ↓reduceIte, Nat.reduceEqDiff, Nat.reduceAdd, Int.reduceToNat, Int.reduceAdd, Int.reduceNeg, Int.reduceSub, Int.reduceMul, Int.reduceLT, Int.reduceLE, Int.reduceEq, ↓GH.gp_eq, ↓GH.gp_ne, ↓GH.gs_eq, ↓GH.gs_ne, GH.push_next, GH.set_next, hl]
  refine Wk.loops (fun m e g' lo => g.next ≤ lo ∧ Kept g2 g' ∧ ∃ i : Nat, i + m = L.length ∧ (ev e (.s 4) = .slice (some ⟨J, 0, none⟩) N N ∧ ev e (.s 5) = .int .i64 (all : Nat) ∧ ev e (.s 6) = .int .i64 (needF A L.length i : Nat) ∧ ev e (.s 16) = .int .i64 (L.length : Int) ∧ ev e (.s 17) = .int .i64 (i : Nat)))
    (fun e g' lo => g.next ≤ lo ∧ ev e (.s 6) = .int .i64 (needF A L.length L.length : Nat)) (n := L.length) ?_ ?_ ?_
  · exact ⟨by omega, Kept.refl _, 0, by omega, (by simp +decide (disch := first | assumption | (apply GH.ok_push; assumption) | exact cellV_int _ _ | exact cellV_bool _ | omega) only [go_sem, ↓reduceIte, Nat.reduceEqDiff, Nat.reduceAdd, Int.reduceToNat, hl]; first | done | exact rfl)⟩
  · rintro e g' lo hog hlg ⟨hlo, he⟩
    simp +decide (disch := first | assumption | exact cellV_int _ _ | exact cellV_bool _ | omega | (simp only [GH.pn, GH.sn] <;> omega) | (with_reducible ((repeat (first | apply GH.ok_push | apply GH.ok_set)); assumption)) | ((try simp only [GH.push_hid, GH.set_hid]); first | assumption | (refine GH.vis ?_ ?_ <;> first | assumption | ((try simp only [GH.pn, GH.sn]) <;> omega)))) only [go_sem, ↓reduceIte, Nat.reduceEqDiff, Nat.reduceAdd, Int.reduceToNat, Int.reduceAdd, Int.reduceNeg, Int.reduceSub, Int.reduceMul, Int.reduceLT, Int.reduceLE, Int.reduceEq, ↓GH.gp_eq, ↓GH.gp_ne, ↓GH.gs_eq, ↓GH.gs_ne, GH.push_next, GH.set_next, he]
    intro hx0
    exact ⟨hlo, rfl⟩
  · rintro m e g' lo ho' hl' ih out ⟨hlo, hk, i, hi, he⟩
    have hkn := hk.next
    by_cases ci : i < L.length
    case neg =>
      have ci' : ¬ (i : Int) < L.length := by omega
      simp +decide (disch := first | assumption | exact cellV_int _ _ | exact cellV_bool _ | omega | (simp only [GH.pn, GH.sn] <;> omega) | (with_reducible ((repeat (first | apply GH.ok_push | apply GH.ok_set)); assumption)) | ((try simp only [GH.push_hid, GH.set_hid]); first | assumption | (refine GH.vis ?_ ?_ <;> first | assumption | ((try simp only [GH.pn, GH.sn]) <;> omega)))) only [go_sem, ↓reduceIte, Nat.reduceEqDiff, Nat.reduceAdd, Int.reduceToNat, Int.reduceAdd, Int.reduceNeg, Int.reduceSub, Int.reduceMul, Int.reduceLT, Int.reduceLE, Int.reduceEq, ↓GH.gp_eq, ↓GH.gp_ne, ↓GH.gs_eq, ↓GH.gs_ne, GH.push_next, GH.set_next, he, ci']
      have : i = L.length := by omega
      subst this
      exact out _ _ _ ⟨hlo, (by simp +decide (disch := first | assumption | (apply GH.ok_push; assumption) | exact cellV_int _ _ | exact cellV_bool _ | omega) only [go_sem, ↓reduceIte, Nat.reduceEqDiff, Nat.reduceAdd, Int.reduceToNat, he]; first | done | exact rfl)⟩
    have ci' : (i : Int) < L.length := by omega
    have hdk := del_le all i
    have hJ' : J < g'.next := by omega
    simp +decide (disch := first | assumption | exact cellV_int _ _ | exact cellV_bool _ | omega | (simp only [GH.pn, GH.sn] <;> omega) | (with_reducible ((repeat (first | apply GH.ok_push | apply GH.ok_set)); assumption)) | ((try simp only [GH.push_hid, GH.set_hid]); first | assumption | (refine GH.vis ?_ ?_ <;> first | assumption | ((try simp only [GH.pn, GH.sn]) <;> omega)))) only [go_sem, ↓reduceIte, Nat.reduceEqDiff, Nat.reduceAdd, Int.reduceToNat, Int.reduceAdd, Int.reduceNeg, Int.reduceSub, Int.reduceMul, Int.reduceLT, Int.reduceLE, Int.reduceEq, ↓GH.gp_eq, ↓GH.gp_ne, ↓GH.gs_eq, ↓GH.gs_ne, GH.push_next, GH.set_next, he, ci']
    refine CallD.calm (without_rets hX.toXfr all i (by omega) (by omega) g') ?_
    rintro v g3 hx3 rfl
    have hn3 := hx3.next
    have hk3 := hk.ext hx3
    have hok3 := hx3.ok ho'
    have hget3 : g3.get J = cellsOb (ints T) 3 := (hk3.gets J (by omega)).trans hget2
    have hpk := iaddrS_at (j := J) (n := N) (c := N) (m := del all i) (x := (del all i : Nat)) rfl (by omega)
    have hpf := iaddrS_at (j := J) (n := N) (c := N) (m := all) (x := (all : Nat)) rfl hal
    have hck : (ints T)[del all i]? = some (.int .i64 (best A L.length (del all i) : Nat)) := by rw [ints_get (by omega), hTb _ (by omega)]
    have hcf : (ints T)[all]? = some (.int .i64 (best A L.length all : Nat)) := by rw [ints_get (by omega), hTb _ (by omega)]
    have hni := hnl i
    have hpi := hps i (by omega)
    have hnx := hnd i
    by_cases ce : best A L.length (del all i) < best A L.length all
    · have ce' : (best A L.length (del all i) : Int) < (best A L.length all : Int) := by omega
      rw [if_pos ce] at hnx
      simp +decide (disch := first | assumption | exact cellV_int _ _ | exact cellV_bool _ | omega | (simp only [GH.pn, GH.sn] <;> omega) | (with_reducible ((repeat (first | apply GH.ok_push | apply GH.ok_set)); assumption)) | ((try simp only [GH.push_hid, GH.set_hid]); first | assumption | (refine GH.vis ?_ ?_ <;> first | assumption | ((try simp only [GH.pn, GH.sn]) <;> omega)))) only [go_sem, ↓reduceIte, Nat.reduceEqDiff, Nat.reduceAdd, Int.reduceToNat, Int.reduceAdd, Int.reduceNeg, Int.reduceSub, Int.reduceMul, Int.reduceLT, Int.reduceLE, Int.reduceEq, ↓GH.gp_eq, ↓GH.gp_ne, ↓GH.gs_eq, ↓GH.gs_ne, GH.push_next, GH.set_next, he, hpk, hpf, hget3, hck, hcf, ce']
      refine CallD.calm (with_rets hX.toXfr (needF A L.length i) i (by omega) (by omega) g3) ?_
      rintro v g4 hx4 rfl
      have hn4 := hx4.next
      simp +decide (disch := first | assumption | exact cellV_int _ _ | exact cellV_bool _ | omega | (simp only [GH.pn, GH.sn] <;> omega) | (with_reducible ((repeat (first | apply GH.ok_push | apply GH.ok_set)); assumption)) | ((try simp only [GH.push_hid, GH.set_hid]); first | assumption | (refine GH.vis ?_ ?_ <;> first | assumption | ((try simp only [GH.pn, GH.sn]) <;> omega)))) only [go_sem, ↓reduceIte, Nat.reduceEqDiff, Nat.reduceAdd, Int.reduceToNat, Int.reduceAdd, Int.reduceNeg, Int.reduceSub, Int.reduceMul, Int.reduceLT, Int.reduceLE, Int.reduceEq, ↓GH.gp_eq, ↓GH.gp_ne, ↓GH.gs_eq, ↓GH.gs_ne, GH.push_next, GH.set_next, he]
      refine ih (m - 1) _ _ _ (by omega) ⟨hlo, hk3.ext hx4, i + 1, by omega, ?_⟩
      rw [hnx]
      exact (by simp +decide (disch := first | assumption | (apply GH.ok_push; assumption) | exact cellV_int _ _ | exact cellV_bool _ | omega) only [go_sem, ↓reduceIte, Nat.reduceEqDiff, Nat.reduceAdd, Int.reduceToNat, he]; first | done | exact rfl)
    · have ce' : ¬ (best A L.length (del all i) : Int) < (best A L.length all : Int) := by omega
      rw [if_neg ce] at hnx
      simp +decide (disch := first | assumption | exact cellV_int _ _ | exact cellV_bool _ | omega | (simp only [GH.pn, GH.sn] <;> omega) | (with_reducible ((repeat (first | apply GH.ok_push | apply GH.ok_set)); assumption)) | ((try simp only [GH.push_hid, GH.set_hid]); first | assumption | (refine GH.vis ?_ ?_ <;> first | assumption | ((try simp only [GH.pn, GH.sn]) <;> omega)))) only [go_sem, ↓reduceIte, Nat.reduceEqDiff, Nat.reduceAdd, Int.reduceToNat, Int.reduceAdd, Int.reduceNeg, Int.reduceSub, Int.reduceMul, Int.reduceLT, Int.reduceLE, Int.reduceEq, ↓GH.gp_eq, ↓GH.gp_ne, ↓GH.gs_eq, ↓GH.gs_ne, GH.push_next, GH.set_next, he, hpk, hpf, hget3, hck, hcf, ce']
      refine ih (m - 1) _ _ _ (by omega) ⟨hlo, hk3, i + 1, by omega, ?_⟩
      rw [hnx]
      exact (by simp +decide (disch := first | assumption | (apply GH.ok_push; assumption) | exact cellV_int _ _ | exact cellV_bool _ | omega) only [go_sem, ↓reduceIte, Nat.reduceEqDiff, Nat.reduceAdd, Int.reduceToNat, he]; first | done | exact rfl)
theorem shl_0 {k : Nat} (hk : k < 62) : intB .shl .i64 0 (k : Int) = some (.int .i64 0) := by
  rw [ib_shl (by omega)]
  rw [Int.zero_mul, wr64 (by omega) (by omega)]
theorem own_low {g : GH} {s : Value} {vs : List Value} {t : TypeId} {b b' : Nat} (h : Own g s vs t b) (hb : b' ≤ b) : Own g s vs t b' := by
  rcases h with h | ⟨j, fam, h1, h2, h3, h4, h5, h6⟩
  · exact .inl h
  · exact .inr ⟨j, fam, h1, h2, h3, h4, by omega, h6⟩
theorem without1_rets {X : Caller} (hX : Xfr X) (L : List Int) (hL : shopB L = true) (s : Value) (i : Nat) (hi : i < L.length) (g : GH) (hs : SlR g s (ints L)) :
    Rets Tryd.prog X 42 [s, .int .i64 (2 ^ i : Nat)] g (fun v g' lo => g.next ≤ lo ∧ Kept g g' ∧ SlR g' v (ints (sqT L i (L.length - 1)))) := by
  obtain ⟨hL1, hL10, hA⟩ := shop_ok hL
  have hl := hs.len
  rw [ints_len] at hl
  have hpos : posF i L.length = L.length - 1 := by unfold posF; rw [if_neg (by omega)]
  rw [← hpos]
  have htl := two_lt (k := i) (by omega)
  obtain ⟨S, hS⟩ : ∃ S, 2 ^ i = S := ⟨_, rfl⟩
  have hSb : ∀ k, S.testBit k = decide (i = k) := fun k => by rw [← hS, Nat.testBit_two_pow]
  rw [hS]
  refine Rets.run hX.pres p42 (hX.free 42 (by decide) _ _) rfl fun ho => ?_
  simp +decide (disch := first | assumption | exact cellV_int _ _ | exact cellV_bool _ | omega | (simp only [GH.pn, GH.sn] <;> omega) | (with_reducible ((repeat (first | apply GH.ok_push | apply GH.ok_set)); assumption)) | ((try simp only [GH.push_hid, GH.set_hid]); first | assumption | (refine GH.vis ?_ ?_ <;> first | assumption | ((try simp only [GH.pn, GH.sn]) <;> omega)))) only [go_sem, ↓reduceIte, Nat.reduceEqDiff, Nat.reduceAdd, Int.reduceToNat, Int.reduceAdd, Int.reduceNeg, Int.reduceSub, Int.reduceMul, Int.reduceLT, Int.reduceLE, Int.reduceEq, ↓GH.gp_eq, ↓GH.gp_ne, ↓GH.gs_eq, ↓GH.gs_ne, GH.push_next, GH.set_next]
  refine Wk.loops (fun m e g' lo => g.next ≤ lo ∧ Kept g g' ∧ ∃ (k : Nat) (o : Value), k + m = L.length ∧ (ev e (.s 0) = s ∧ ev e (.s 1) = .int .i64 (S : Nat) ∧ ev e (.s 5) = o ∧ ev e (.s 6) = .int .i64 (k : Nat)) ∧ Own g' o (ints (sqT L i (posF i k))) 3 g.next)
    (fun e g' lo => g.next ≤ lo ∧ Kept g g' ∧ ∃ o, ev e (.s 5) = o ∧ Own g' o (ints (sqT L i (posF i L.length))) 3 g.next) (n := L.length) ?_ ?_ ?_
  · exact ⟨by omega, Kept.refl _, 0, _, by omega, (by simp +decide (disch := first | assumption | (apply GH.ok_push; assumption) | exact cellV_int _ _ | exact cellV_bool _ | omega) only [go_sem, ↓reduceIte, Nat.reduceEqDiff, Nat.reduceAdd, Int.reduceToNat, hl]; first | done | exact rfl), Own.nil⟩
  · rintro e g' lo hog hlg ⟨hlo, hk, o, he, hown⟩
    simp +decide (disch := first | assumption | exact cellV_int _ _ | exact cellV_bool _ | omega | (simp only [GH.pn, GH.sn] <;> omega) | (with_reducible ((repeat (first | apply GH.ok_push | apply GH.ok_set)); assumption)) | ((try simp only [GH.push_hid, GH.set_hid]); first | assumption | (refine GH.vis ?_ ?_ <;> first | assumption | ((try simp only [GH.pn, GH.sn]) <;> omega)))) only [go_sem, ↓reduceIte, Nat.reduceEqDiff, Nat.reduceAdd, Int.reduceToNat, Int.reduceAdd, Int.reduceNeg, Int.reduceSub, Int.reduceMul, Int.reduceLT, Int.reduceLE, Int.reduceEq, ↓GH.gp_eq, ↓GH.gp_ne, ↓GH.gs_eq, ↓GH.gs_ne, GH.push_next, GH.set_next, he]
    intro hx0
    exact ⟨hlo, hk, hown.read⟩
  · rintro m e g' lo ho' hl' ih out ⟨hlo, hk, k, o, hkm, he, hown⟩
    have hkn := hk.next
    by_cases ck : k < L.length
    case neg =>
      have ck' : ¬ (k : Int) < L.length := by omega
      simp +decide (disch := first | assumption | exact cellV_int _ _ | exact cellV_bool _ | omega | (simp only [GH.pn, GH.sn] <;> omega) | (with_reducible ((repeat (first | apply GH.ok_push | apply GH.ok_set)); assumption)) | ((try simp only [GH.push_hid, GH.set_hid]); first | assumption | (refine GH.vis ?_ ?_ <;> first | assumption | ((try simp only [GH.pn, GH.sn]) <;> omega)))) only [go_sem, ↓reduceIte, Nat.reduceEqDiff, Nat.reduceAdd, Int.reduceToNat, Int.reduceAdd, Int.reduceNeg, Int.reduceSub, Int.reduceMul, Int.reduceLT, Int.reduceLE, Int.reduceEq, ↓GH.gp_eq, ↓GH.gp_ne, ↓GH.gs_eq, ↓GH.gs_ne, GH.push_next, GH.set_next, he, hl, ck']
      have : k = L.length := by omega
      subst this
      exact out _ _ _ ⟨hlo, hk, o, (by simp +decide (disch := first | assumption | (apply GH.ok_push; assumption) | exact cellV_int _ _ | exact cellV_bool _ | omega) only [go_sem, ↓reduceIte, Nat.reduceEqDiff, Nat.reduceAdd, Int.reduceToNat, he]; first | done | exact rfl), hown⟩
    have ck' : (k : Int) < L.length := by omega
    have n1 : ¬ (k : Int) < 0 := by omega
    have r1 := shr_fact ((S : Nat) : Int) k (by omega)
    have r2 := rem_nat S k
    rw [hSb] at r2
    by_cases c : k = i
    · subst c
      rw [decide_eq_true rfl] at r2
      have r2' : ((S : Int) / 2 ^ k).tmod 2 = 1 := r2
      simp +decide (disch := first | assumption | exact cellV_int _ _ | exact cellV_bool _ | omega | (simp only [GH.pn, GH.sn] <;> omega) | (with_reducible ((repeat (first | apply GH.ok_push | apply GH.ok_set)); assumption)) | ((try simp only [GH.push_hid, GH.set_hid]); first | assumption | (refine GH.vis ?_ ?_ <;> first | assumption | ((try simp only [GH.pn, GH.sn]) <;> omega)))) only [go_sem, ↓reduceIte, Nat.reduceEqDiff, Nat.reduceAdd, Int.reduceToNat, Int.reduceAdd, Int.reduceNeg, Int.reduceSub, Int.reduceMul, Int.reduceLT, Int.reduceLE, Int.reduceEq, ↓GH.gp_eq, ↓GH.gp_ne, ↓GH.gs_eq, ↓GH.gs_ne, GH.push_next, GH.set_next, he, hl, ck', ib_shr n1, r1, r2']
      refine ih (m - 1) _ _ _ (by omega) ⟨hlo, hk, k + 1, o, by omega, (by simp +decide (disch := first | assumption | (apply GH.ok_push; assumption) | exact cellV_int _ _ | exact cellV_bool _ | omega) only [go_sem, ↓reduceIte, Nat.reduceEqDiff, Nat.reduceAdd, Int.reduceToNat, he]; first | done | exact rfl), ?_⟩
      rw [pos_at]
      exact hown
    rw [decide_eq_false (fun h => c h.symm)] at r2
    have r2' : ((S : Int) / 2 ^ k).tmod 2 = 0 := r2
    have hnx := sqT_next L c
    have hAk := hA k ck
    simp +decide (disch := first | assumption | exact cellV_int _ _ | exact cellV_bool _ | omega | (simp only [GH.pn, GH.sn] <;> omega) | (with_reducible ((repeat (first | apply GH.ok_push | apply GH.ok_set)); assumption)) | ((try simp only [GH.push_hid, GH.set_hid]); first | assumption | (refine GH.vis ?_ ?_ <;> first | assumption | ((try simp only [GH.pn, GH.sn]) <;> omega)))) only [go_sem, ↓reduceIte, Nat.reduceEqDiff, Nat.reduceAdd, Int.reduceToNat, Int.reduceAdd, Int.reduceNeg, Int.reduceSub, Int.reduceMul, Int.reduceLT, Int.reduceLE, Int.reduceEq, ↓GH.gp_eq, ↓GH.gp_ne, ↓GH.gs_eq, ↓GH.gs_ne, GH.push_next, GH.set_next, he, hl, ck', ib_shr n1, r1, r2']
    refine Wk.loops (fun m' e' g'' lo' => g'' = g' ∧ g.next ≤ lo' ∧ ∃ j : Nat, j + m' = L.length ∧ (ev e' (.s 0) = s ∧ ev e' (.s 1) = .int .i64 (S : Nat) ∧ ev e' (.s 5) = o ∧ ev e' (.s 6) = .int .i64 (k : Nat) ∧ ev e' (.s 9) = .int .i64 (j : Nat) ∧ ev e' (.s 7) = .int .i64 (sqF (setF L k) i j : Nat) ∧ ev e' (.s 8) = .int .i64 (posF i j : Nat)))
      (fun e' g'' lo' => g'' = g' ∧ g.next ≤ lo' ∧ (ev e' (.s 0) = s ∧ ev e' (.s 1) = .int .i64 (S : Nat) ∧ ev e' (.s 5) = o ∧ ev e' (.s 6) = .int .i64 (k : Nat) ∧ ev e' (.s 7) = .int .i64 (sqF (setF L k) i L.length : Nat))) (n := L.length) ?_ ?_ ?_
    · refine ⟨rfl, hlo, 0, by omega, ?_⟩
      have p0 : posF i 0 = 0 := by unfold posF; rw [if_pos (Nat.zero_le _)]
      rw [p0]
      show _ ∧ _ ∧ _ ∧ _ ∧ _ ∧ _ = Value.int .i64 0 ∧ _ = Value.int .i64 0
      exact (by simp +decide (disch := first | assumption | (apply GH.ok_push; assumption) | exact cellV_int _ _ | exact cellV_bool _ | omega) only [go_sem, ↓reduceIte, Nat.reduceEqDiff, Nat.reduceAdd, Int.reduceToNat, he]; first | done | exact rfl)
    · rintro e' g'' lo' - - ⟨rfl, hlo', he'⟩
      have hplen : posF i k ≤ 10 := Nat.le_trans (pos_le i k) (by omega)
      simp +decide (disch := first | assumption | exact cellV_int _ _ | exact cellV_bool _ | omega | (simp only [GH.pn, GH.sn] <;> omega) | (with_reducible ((repeat (first | apply GH.ok_push | apply GH.ok_set)); assumption)) | ((try simp only [GH.push_hid, GH.set_hid]); first | assumption | (refine GH.vis ?_ ?_ <;> first | assumption | ((try simp only [GH.pn, GH.sn]) <;> omega)))) only [go_sem, ↓reduceIte, Nat.reduceEqDiff, Nat.reduceAdd, Int.reduceToNat, Int.reduceAdd, Int.reduceNeg, Int.reduceSub, Int.reduceMul, Int.reduceLT, Int.reduceLE, Int.reduceEq, ↓GH.gp_eq, ↓GH.gp_ne, ↓GH.gs_eq, ↓GH.gs_ne, GH.push_next, GH.set_next, he']
      refine AppD.own (hown.push ho' _) (SlR.one ho' _ _) (by simp) rfl (by simp [ints_len, sqT_len]; omega) (by have := hk.next; simp [GH.push]; omega) hlo' (GH.ok_push ho') (fun s' g2 lo2 sp wr hgr => ?_)
      have hk2 : Kept g g2 := (hk.push ho' _).grew hgr (by omega)
      have hn2 := hgr.next
      have hown2 := hgr.own
      simp +decide (disch := first | assumption | exact cellV_int _ _ | exact cellV_bool _ | omega | (simp only [GH.pn, GH.sn] <;> omega) | (with_reducible ((repeat (first | apply GH.ok_push | apply GH.ok_set)); assumption)) | ((try simp only [GH.push_hid, GH.set_hid]); first | assumption | (refine GH.vis ?_ ?_ <;> first | assumption | ((try simp only [GH.pn, GH.sn]) <;> omega)))) only [go_sem, ↓reduceIte, Nat.reduceEqDiff, Nat.reduceAdd, Int.reduceToNat, Int.reduceAdd, Int.reduceNeg, Int.reduceSub, Int.reduceMul, Int.reduceLT, Int.reduceLE, Int.reduceEq, ↓GH.gp_eq, ↓GH.gp_ne, ↓GH.gs_eq, ↓GH.gs_ne, GH.push_next, GH.set_next, he']
      refine ih (m - 1) _ _ _ (by omega) ⟨hgr.low, hk2, k + 1, s', by omega, (by simp +decide (disch := first | assumption | (apply GH.ok_push; assumption) | exact cellV_int _ _ | exact cellV_bool _ | omega) only [go_sem, ↓reduceIte, Nat.reduceEqDiff, Nat.reduceAdd, Int.reduceToNat, he']; first | done | exact rfl), ?_⟩
      rw [hnx, ints_app]
      exact hown2
    · rintro m' e' g'' lo' ho'' hl'' ih' out' ⟨rfl, hlo', j, hj, he'⟩
      by_cases cj : j < L.length
      case neg =>
        have cj' : ¬ (j : Int) < L.length := by omega
        simp +decide (disch := first | assumption | exact cellV_int _ _ | exact cellV_bool _ | omega | (simp only [GH.pn, GH.sn] <;> omega) | (with_reducible ((repeat (first | apply GH.ok_push | apply GH.ok_set)); assumption)) | ((try simp only [GH.push_hid, GH.set_hid]); first | assumption | (refine GH.vis ?_ ?_ <;> first | assumption | ((try simp only [GH.pn, GH.sn]) <;> omega)))) only [go_sem, ↓reduceIte, Nat.reduceEqDiff, Nat.reduceAdd, Int.reduceToNat, Int.reduceAdd, Int.reduceNeg, Int.reduceSub, Int.reduceMul, Int.reduceLT, Int.reduceLE, Int.reduceEq, ↓GH.gp_eq, ↓GH.gp_ne, ↓GH.gs_eq, ↓GH.gs_ne, GH.push_next, GH.set_next, he', hl, cj']
        have : j = L.length := by omega
        subst this
        exact out' _ _ _ ⟨rfl, hlo', (by simp +decide (disch := first | assumption | (apply GH.ok_push; assumption) | exact cellV_int _ _ | exact cellV_bool _ | omega) only [go_sem, ↓reduceIte, Nat.reduceEqDiff, Nat.reduceAdd, Int.reduceToNat, he']; first | done | exact rfl)⟩
      have cj' : (j : Int) < L.length := by omega
      have m1 : ¬ (j : Int) < 0 := by omega
      have q1 := shr_fact ((S : Nat) : Int) j (by omega)
      have q2 := rem_nat S j
      rw [hSb] at q2
      by_cases d : j = i
      · subst d
        rw [decide_eq_true rfl] at q2
        have q2' : ((S : Int) / 2 ^ j).tmod 2 = 1 := q2
        have hsq : sqF (setF L k) j (j + 1) = sqF (setF L k) j j := by rw [sqF, if_pos rfl]
        simp +decide (disch := first | assumption | exact cellV_int _ _ | exact cellV_bool _ | omega | (simp only [GH.pn, GH.sn] <;> omega) | (with_reducible ((repeat (first | apply GH.ok_push | apply GH.ok_set)); assumption)) | ((try simp only [GH.push_hid, GH.set_hid]); first | assumption | (refine GH.vis ?_ ?_ <;> first | assumption | ((try simp only [GH.pn, GH.sn]) <;> omega)))) only [go_sem, ↓reduceIte, Nat.reduceEqDiff, Nat.reduceAdd, Int.reduceToNat, Int.reduceAdd, Int.reduceNeg, Int.reduceSub, Int.reduceMul, Int.reduceLT, Int.reduceLE, Int.reduceEq, ↓GH.gp_eq, ↓GH.gp_ne, ↓GH.gs_eq, ↓GH.gs_ne, GH.push_next, GH.set_next, he', hl, cj', ib_shr m1, q1, q2']
        refine ih' (m' - 1) _ _ _ (by omega) ⟨rfl, hlo', j + 1, by omega, ?_⟩
        rw [hsq, pos_at]
        exact (by simp +decide (disch := first | assumption | (apply GH.ok_push; assumption) | exact cellV_int _ _ | exact cellV_bool _ | omega) only [go_sem, ↓reduceIte, Nat.reduceEqDiff, Nat.reduceAdd, Int.reduceToNat, he']; first | done | exact rfl)
      rw [decide_eq_false (fun h => d h.symm)] at q2
      have q2' : ((S : Int) / 2 ^ j).tmod 2 = 0 := q2
      obtain ⟨j2, o2, hj2, hq1, hq2⟩ := (hs.kept hk).ptr (ints_get (D := L) (i := k) ck)
      have hq1 := hq1 (k : Int) rfl
      rw [hAk.1] at hq2
      have t1 := shr_fact ((setF L k : Nat) : Int) j (by omega)
      have t2 := rem_nat (setF L k) j
      have hlt := sqF_lt (setF L k) i j
      have hpl := pos_le i j
      have hpn := pos_next d
      have hsn : sqF (setF L k) i (j + 1) = if (setF L k).testBit j = true then sqF (setF L k) i j + 2 ^ posF i j else sqF (setF L k) i j := by rw [sqF, if_neg d]
      have u1 := shl_i (k := posF i j) (by omega)
      have u0 := shl_0 (k := posF i j) (by omega)
      have u2 := two_lt (k := posF i j) (by omega)
      generalize posF i j = pj at *
      generalize 2 ^ pj = tp at *
      generalize sqF (setF L k) i j = w at *
      cases cb : (setF L k).testBit j with
      | true =>
        rw [cb] at t2
        rw [cb, if_pos rfl] at hsn
        have t2' : (((setF L k : Nat) : Int) / 2 ^ j).tmod 2 = 1 := t2
        simp +decide (disch := first | assumption | exact cellV_int _ _ | exact cellV_bool _ | omega | (simp only [GH.pn, GH.sn] <;> omega) | (with_reducible ((repeat (first | apply GH.ok_push | apply GH.ok_set)); assumption)) | ((try simp only [GH.push_hid, GH.set_hid]); first | assumption | (refine GH.vis ?_ ?_ <;> first | assumption | ((try simp only [GH.pn, GH.sn]) <;> omega)))) only [go_sem, ↓reduceIte, Nat.reduceEqDiff, Nat.reduceAdd, Int.reduceToNat, Int.reduceAdd, Int.reduceNeg, Int.reduceSub, Int.reduceMul, Int.reduceLT, Int.reduceLE, Int.reduceEq, ↓GH.gp_eq, ↓GH.gp_ne, ↓GH.gs_eq, ↓GH.gs_ne, GH.push_next, GH.set_next, he', hl, cj', ib_shr m1, q1, q2', hq1, hq2, t1, t2', u1]
        refine ih' (m' - 1) _ _ _ (by omega) ⟨rfl, hlo', j + 1, by omega, ?_⟩
        rw [hsn, hpn]
        exact (by simp +decide (disch := first | assumption | (apply GH.ok_push; assumption) | exact cellV_int _ _ | exact cellV_bool _ | omega) only [go_sem, ↓reduceIte, Nat.reduceEqDiff, Nat.reduceAdd, Int.reduceToNat, he']; first | done | exact rfl)
      | false =>
        rw [cb] at t2
        rw [cb, if_neg (by simp)] at hsn
        have t2' : (((setF L k : Nat) : Int) / 2 ^ j).tmod 2 = 0 := t2
        simp +decide (disch := first | assumption | exact cellV_int _ _ | exact cellV_bool _ | omega | (simp only [GH.pn, GH.sn] <;> omega) | (with_reducible ((repeat (first | apply GH.ok_push | apply GH.ok_set)); assumption)) | ((try simp only [GH.push_hid, GH.set_hid]); first | assumption | (refine GH.vis ?_ ?_ <;> first | assumption | ((try simp only [GH.pn, GH.sn]) <;> omega)))) only [go_sem, ↓reduceIte, Nat.reduceEqDiff, Nat.reduceAdd, Int.reduceToNat, Int.reduceAdd, Int.reduceNeg, Int.reduceSub, Int.reduceMul, Int.reduceLT, Int.reduceLE, Int.reduceEq, ↓GH.gp_eq, ↓GH.gp_ne, ↓GH.gs_eq, ↓GH.gs_ne, GH.push_next, GH.set_next, he', hl, cj', ib_shr m1, q1, q2', hq1, hq2, t1, t2', u0]
        refine ih' (m' - 1) _ _ _ (by omega) ⟨rfl, hlo', j + 1, by omega, ?_⟩
        rw [hsn, hpn]
        exact (by simp +decide (disch := first | assumption | (apply GH.ok_push; assumption) | exact cellV_int _ _ | exact cellV_bool _ | omega) only [go_sem, ↓reduceIte, Nat.reduceEqDiff, Nat.reduceAdd, Int.reduceToNat, he']; first | done | exact rfl)
end Go.Proofs.YtnpapnpedcbfnaaDoor
set_option maxRecDepth 100000
set_option maxHeartbeats 4000000
set_option linter.unusedSimpArgs false
set_option linter.unusedVariables false
namespace Go.Proofs.YtnpapnpedcbfnaaDoor
open Go.Ds Go.Vs
theorem shl_n {n : Nat} (hn : n ≤ 10) : intB .shl .i64 (n : Int) (n : Int) = some (.int .i64 ((n * 2 ^ n : Nat) : Int)) := by
  rw [ib_shl (by omega)]
  have h1 : min (n : Int).toNat IntKind.i64.bits = n := by
    show min (n : Int).toNat 64 = n
    omega
  rw [h1]
  have h2 : n * 2 ^ n ≤ 10 * 1024 := Nat.mul_le_mul hn (Nat.pow_le_pow_right (by decide) hn)
  have e : ((n : Int) * Int.ofNat (Nat.pow 2 n)) = ((n * 2 ^ n : Nat) : Int) := by
    show ((n : Int) * ((2 ^ n : Nat) : Int)) = _
    rw [Int.natCast_mul]
  rw [e]
  generalize n * 2 ^ n = t at *
  rw [wr64 (by omega) (by omega)]
theorem known_rets {X : Caller} (hX : Xfr X) (L : List Int) (hL : shopB L = true) (s : Value) (g0 : GH) (hs : SlR g0 s (ints L)) (J : Nat) (hJ0 : g0.next ≤ J) : ∀ (m v l : Nat) (T : List Int) (g : GH), un L.length v = m → v < 2 ^ L.length → l < L.length → Kept g0 g → J < g.next → g.get J = cellsOb (ints T) 3 → T.length = L.length * 2 ^ L.length → TabM (setF L) L.length T (un L.length v) →
    Rets Tryd.prog X 56 [s, .int .i64 (v : Nat), .int .i64 (l : Nat), .slice (some ⟨J, 0, none⟩) (L.length * 2 ^ L.length) (L.length * 2 ^ L.length)] g (fun u g' lo => g0.next ≤ lo ∧ u = .bool (won (setF L) L.length v l) ∧ g'.ok ∧ Kept g0 g' ∧ J < g'.next ∧ ∃ T', g'.get J = cellsOb (ints T') 3 ∧ AftM (setF L) L.length v l T T') := by
  obtain ⟨hL1, hL10, hA⟩ := shop_ok hL
  have hl := hs.len
  rw [ints_len] at hl
  have hP : 2 ^ L.length ≤ 1024 := Nat.pow_le_pow_right (by decide) hL10
  have hNb : L.length * 2 ^ L.length ≤ 10 * 1024 := Nat.mul_le_mul hL10 hP
  intro m
  induction m using Nat.strongRecOn with
  | ind m IH =>
  intro v l T g hm hv hln hk0 hJn hget hTl hTab
  have hix := ix_lt hv hln
  have hAl := hA l hln
  have hAf := AftM.same (l := l) hTl hTab
  have hMs := MidM.start hTl hTab hv hln
  have hTv := hTab v l hv hln (Nat.le_refl _)
  have hdone := fun T' => @MidM.done (setF L) L.length v l T T'
  have hskip := fun k T' => @MidM.skip (setF L) L.length v l k T T'
  have hwin := fun k T' (h : MidM (setF L) L.length v l k T T') => h.win hv hln
  have hcall := fun k v2 l2 T1 T2 (h : MidM (setF L) L.length v l k T T1) => @MidM.call (setF L) L.length v l k v2 l2 T T1 T2 h hv hln
  have htab := fun k T' (h : MidM (setF L) L.length v l k T T') => @MidM.tab (setF L) L.length v l k
  have hq : (v : Int) * (L.length : Int) = ((v * L.length : Nat) : Int) := by rw [Int.natCast_mul]
  obtain ⟨N, hN⟩ : ∃ N, L.length * 2 ^ L.length = N := ⟨_, rfl⟩
  have hMl : ∀ k T', MidM (setF L) L.length v l k T T' → T'.length = N := fun k T' h => by rw [h.len, hN]
  rw [hN] at hNb hTl hix IH ⊢
  obtain ⟨q, hqe⟩ : ∃ q, v * L.length = q := ⟨_, rfl⟩
  rw [hqe] at hq hTv hix hMs hdone hwin
  have hpi := iaddrS_at (j := J) (n := N) (c := N) (m := q + l) (x := (q : Int) + (l : Int)) (by omega) hix
  have hintsl : (ints T).length = N := by rw [ints_len, hTl]
  have hcw : (ints T)[q + l]? = some (.int .i64 (T.getD (q + l) 0)) := ints_get (by omega)
  have hnl : ∀ k, k < L.length → v.testBit k = false → un L.length (v ||| 2 ^ k) < m := fun k hk hb => by rw [← hm]; exact un_pos hk hb
  refine Rets.run hX.pres p56 (hX.free 56 (by decide) _ _) rfl fun ho => ?_
  by_cases c0 : T.getD (q + l) 0 = 0
  case neg =>
    have hw := hTv.resolve_left c0
    unfold wv at hw
    rw [hw] at hcw
    cases hwon : won (setF L) L.length v l with
    | true =>
      rw [hwon, if_pos rfl] at hcw
      simp +decide (disch := first | assumption | exact cellV_int _ _ | exact cellV_bool _ | omega | (simp only [GH.pn, GH.sn] <;> omega) | (with_reducible ((repeat (first | apply GH.ok_push | apply GH.ok_set)); assumption)) | ((try simp only [GH.push_hid, GH.set_hid]); first | assumption | (refine GH.vis ?_ ?_ <;> first | assumption | ((try simp only [GH.pn, GH.sn]) <;> omega)))) only [go_sem, ↓reduceIte, Nat.reduceEqDiff, Nat.reduceAdd, Int.reduceToNat, Int.reduceAdd, Int.reduceNeg, Int.reduceSub, Int.reduceMul, Int.reduceLT, Int.reduceLE, Int.reduceEq, ↓GH.gp_eq, ↓GH.gp_ne, ↓GH.gs_eq, ↓GH.gs_ne, GH.push_next, GH.set_next, hl, hq, hpi, hget, hcw, hintsl]
      intro hx0
      exact ⟨hk0.next, rfl, ho, hk0, hJn, T, hget, hAf⟩
    | false =>
      rw [hwon, if_neg (by simp)] at hcw
      simp +decide (disch := first | assumption | exact cellV_int _ _ | exact cellV_bool _ | omega | (simp only [GH.pn, GH.sn] <;> omega) | (with_reducible ((repeat (first | apply GH.ok_push | apply GH.ok_set)); assumption)) | ((try simp only [GH.push_hid, GH.set_hid]); first | assumption | (refine GH.vis ?_ ?_ <;> first | assumption | ((try simp only [GH.pn, GH.sn]) <;> omega)))) only [go_sem, ↓reduceIte, Nat.reduceEqDiff, Nat.reduceAdd, Int.reduceToNat, Int.reduceAdd, Int.reduceNeg, Int.reduceSub, Int.reduceMul, Int.reduceLT, Int.reduceLE, Int.reduceEq, ↓GH.gp_eq, ↓GH.gp_ne, ↓GH.gs_eq, ↓GH.gs_ne, GH.push_next, GH.set_next, hl, hq, hpi, hget, hcw, hintsl]
      intro hx0
      exact ⟨hk0.next, rfl, ho, hk0, hJn, T, hget, hAf⟩
  rw [c0] at hcw
  have hw1 := Wrote.set (o := cellsOb (splice (q + l) (ints T) [.int .i64 (-1)]) 3) hget Nat.one_ne_zero ho
  have hg1 := hw1.get.trans (congrArg (fun z => cellsOb z 3) (show splice (q + l) (ints T) [.int .i64 (-1)] = ints (T.set (q + l) (-1)) by rw [splice_set _ _ _ (by rw [hintsl]; exact hix), ints_set]))
  have hk1 := hw1.kept hk0 hJ0
  have hnx1 := hw1.next
  have hk0n := hk0.next
  simp +decide (disch := first | assumption | exact cellV_int _ _ | exact cellV_bool _ | omega | (simp only [GH.pn, GH.sn] <;> omega) | (with_reducible ((repeat (first | apply GH.ok_push | apply GH.ok_set)); assumption)) | ((try simp only [GH.push_hid, GH.set_hid]); first | assumption | (refine GH.vis ?_ ?_ <;> first | assumption | ((try simp only [GH.pn, GH.sn]) <;> omega)))) only [go_sem, ↓reduceIte, Nat.reduceEqDiff, Nat.reduceAdd, Int.reduceToNat, Int.reduceAdd, Int.reduceNeg, Int.reduceSub, Int.reduceMul, Int.reduceLT, Int.reduceLE, Int.reduceEq, ↓GH.gp_eq, ↓GH.gp_ne, ↓GH.gs_eq, ↓GH.gs_ne, GH.push_next, GH.set_next, hl, hq, hpi, hget, hcw, hintsl]
  refine Wk.loops (fun m' e g' lo => g0.next ≤ lo ∧ Kept g0 g' ∧ J < g'.next ∧ ∃ k : Nat, k + m' = L.length ∧ (ev e (.s 0) = s ∧ ev e (.s 1) = .int .i64 (v : Nat) ∧ ev e (.s 2) = .int .i64 (l : Nat) ∧ ev e (.s 3) = .slice (some ⟨J, 0, none⟩) N N ∧ ev e (.s 9) = .int .i64 ((q : Int) + (l : Int)) ∧ ev e (.s 10) = .int .i64 (k : Nat)) ∧ ∃ T', g'.get J = cellsOb (ints T') 3 ∧ MidM (setF L) L.length v l k T T')
    (fun e g' lo => g0.next ≤ lo ∧ Kept g0 g' ∧ J < g'.next ∧ (ev e (.s 3) = .slice (some ⟨J, 0, none⟩) N N ∧ ev e (.s 9) = .int .i64 ((q : Int) + (l : Int))) ∧ ∃ T', g'.get J = cellsOb (ints T') 3 ∧ MidM (setF L) L.length v l L.length T T') (n := L.length) ?_ ?_ ?_
  · exact ⟨by omega, hk1, by omega, 0, by omega, (by simp +decide (disch := first | assumption | (apply GH.ok_push; assumption) | exact cellV_int _ _ | exact cellV_bool _ | omega) only [go_sem, ↓reduceIte, Nat.reduceEqDiff, Nat.reduceAdd, Int.reduceToNat]; first | done | exact rfl), _, hg1, hMs⟩
  · rintro e g' lo hog hlg ⟨hlo, hk, hJ', he, T', hget', hM⟩
    obtain ⟨hAf', hw⟩ := hdone T' hM
    have hTl' := hMl _ _ hM
    have hintsl' : (ints T').length = N := by rw [ints_len, hTl']
    have hcw' : (ints T')[q + l]? = some (.int .i64 (T'.getD (q + l) 0)) := ints_get (by omega)
    rw [hw, wv] at hcw'
    cases hwon : won (setF L) L.length v l with
    | true =>
      rw [hwon, if_pos rfl] at hcw'
      simp +decide (disch := first | assumption | exact cellV_int _ _ | exact cellV_bool _ | omega | (simp only [GH.pn, GH.sn] <;> omega) | (with_reducible ((repeat (first | apply GH.ok_push | apply GH.ok_set)); assumption)) | ((try simp only [GH.push_hid, GH.set_hid]); first | assumption | (refine GH.vis ?_ ?_ <;> first | assumption | ((try simp only [GH.pn, GH.sn]) <;> omega)))) only [go_sem, ↓reduceIte, Nat.reduceEqDiff, Nat.reduceAdd, Int.reduceToNat, Int.reduceAdd, Int.reduceNeg, Int.reduceSub, Int.reduceMul, Int.reduceLT, Int.reduceLE, Int.reduceEq, ↓GH.gp_eq, ↓GH.gp_ne, ↓GH.gs_eq, ↓GH.gs_ne, GH.push_next, GH.set_next, he, hpi, hget', hcw', hintsl']
      intro hx0
      exact ⟨hlo, rfl, hog, hk, hJ', T', hget', hAf'⟩
    | false =>
      rw [hwon, if_neg (by simp)] at hcw'
      simp +decide (disch := first | assumption | exact cellV_int _ _ | exact cellV_bool _ | omega | (simp only [GH.pn, GH.sn] <;> omega) | (with_reducible ((repeat (first | apply GH.ok_push | apply GH.ok_set)); assumption)) | ((try simp only [GH.push_hid, GH.set_hid]); first | assumption | (refine GH.vis ?_ ?_ <;> first | assumption | ((try simp only [GH.pn, GH.sn]) <;> omega)))) only [go_sem, ↓reduceIte, Nat.reduceEqDiff, Nat.reduceAdd, Int.reduceToNat, Int.reduceAdd, Int.reduceNeg, Int.reduceSub, Int.reduceMul, Int.reduceLT, Int.reduceLE, Int.reduceEq, ↓GH.gp_eq, ↓GH.gp_ne, ↓GH.gs_eq, ↓GH.gs_ne, GH.push_next, GH.set_next, he, hpi, hget', hcw', hintsl']
      intro hx0
      exact ⟨hlo, rfl, hog, hk, hJ', T', hget', hAf'⟩
  · rintro m' e g' lo ho' hl' ih out ⟨hlo, hk, hJ', k, hkm, he, T', hget', hM⟩
    by_cases ck : k < L.length
    case neg =>
      have ck' : ¬ (k : Int) < L.length := by omega
      simp +decide (disch := first | assumption | exact cellV_int _ _ | exact cellV_bool _ | omega | (simp only [GH.pn, GH.sn] <;> omega) | (with_reducible ((repeat (first | apply GH.ok_push | apply GH.ok_set)); assumption)) | ((try simp only [GH.push_hid, GH.set_hid]); first | assumption | (refine GH.vis ?_ ?_ <;> first | assumption | ((try simp only [GH.pn, GH.sn]) <;> omega)))) only [go_sem, ↓reduceIte, Nat.reduceEqDiff, Nat.reduceAdd, Int.reduceToNat, Int.reduceAdd, Int.reduceNeg, Int.reduceSub, Int.reduceMul, Int.reduceLT, Int.reduceLE, Int.reduceEq, ↓GH.gp_eq, ↓GH.gp_ne, ↓GH.gs_eq, ↓GH.gs_ne, GH.push_next, GH.set_next, he, hl, ck']
      have : k = L.length := by omega
      subst this
      exact out _ _ _ ⟨hlo, hk, hJ', (by simp +decide (disch := first | assumption | (apply GH.ok_push; assumption) | exact cellV_int _ _ | exact cellV_bool _ | omega) only [go_sem, ↓reduceIte, Nat.reduceEqDiff, Nat.reduceAdd, Int.reduceToNat, he]; first | done | exact rfl), T', hget', hM⟩
    have ck' : (k : Int) < L.length := by omega
    have n1 : ¬ (k : Int) < 0 := by omega
    obtain ⟨j2, o2, hj2, hq1, hq2⟩ := (hs.kept hk).ptr (ints_get (D := L) (i := l) hln)
    have hq1 := hq1 (l : Int) rfl
    rw [hAl.1] at hq2
    have hAll := hAl.2.1
    have han := andn_i (a := setF L l) (b := v) (by omega) (by omega)
    have hab := andn_bit (a := setF L l) (b := v) (k := k) (by omega) (by omega)
    have r1 := shr_fact ((andn (setF L l) v : Nat) : Int) k (by omega)
    have r2 := rem_nat (andn (setF L l) v) k
    cases hb : ((setF L l).testBit k && !v.testBit k) with
    | false =>
      rw [hab, hb] at r2
      have r2' : (((andn (setF L l) v : Nat) : Int) / 2 ^ k).tmod 2 = 0 := r2
      have hg : good (setF L) L.length v l k = false := by unfold good; rw [hb]; rfl
      simp +decide (disch := first | assumption | exact cellV_int _ _ | exact cellV_bool _ | omega | (simp only [GH.pn, GH.sn] <;> omega) | (with_reducible ((repeat (first | apply GH.ok_push | apply GH.ok_set)); assumption)) | ((try simp only [GH.push_hid, GH.set_hid]); first | assumption | (refine GH.vis ?_ ?_ <;> first | assumption | ((try simp only [GH.pn, GH.sn]) <;> omega)))) only [go_sem, ↓reduceIte, Nat.reduceEqDiff, Nat.reduceAdd, Int.reduceToNat, Int.reduceAdd, Int.reduceNeg, Int.reduceSub, Int.reduceMul, Int.reduceLT, Int.reduceLE, Int.reduceEq, ↓GH.gp_eq, ↓GH.gp_ne, ↓GH.gs_eq, ↓GH.gs_ne, GH.push_next, GH.set_next, he, hl, ck', hq1, hq2, han, ib_shr n1, r1, r2']
      exact ih (m' - 1) _ _ _ (by omega) ⟨hlo, hk, hJ', k + 1, by omega, (by simp +decide (disch := first | assumption | (apply GH.ok_push; assumption) | exact cellV_int _ _ | exact cellV_bool _ | omega) only [go_sem, ↓reduceIte, Nat.reduceEqDiff, Nat.reduceAdd, Int.reduceToNat, he]; first | done | exact rfl), T', hget', hskip k T' hM hg⟩
    | true =>
      rw [hab, hb] at r2
      have r2' : (((andn (setF L l) v : Nat) : Int) / 2 ^ k).tmod 2 = 1 := r2
      have hvk : v.testBit k = false := by
        rw [Bool.and_eq_true, Bool.not_eq_true'] at hb
        exact hb.2
      have hlt := hnl k ck hvk
      have hup := un_pos ck hvk
      have hs1 := shl_i (k := k) (by omega)
      have ht1 := two_lt (k := k) (by omega)
      have ho1 := or_i (a := v) (b := 2 ^ k) (by omega) (by omega)
      have hrec := IH _ hlt (v ||| 2 ^ k) k T' g' rfl (or_lt hv ck) ck hk hJ' hget' (hMl _ _ hM) (htab k T' hM hM hup)
      simp +decide (disch := first | assumption | exact cellV_int _ _ | exact cellV_bool _ | omega | (simp only [GH.pn, GH.sn] <;> omega) | (with_reducible ((repeat (first | apply GH.ok_push | apply GH.ok_set)); assumption)) | ((try simp only [GH.push_hid, GH.set_hid]); first | assumption | (refine GH.vis ?_ ?_ <;> first | assumption | ((try simp only [GH.pn, GH.sn]) <;> omega)))) only [go_sem, ↓reduceIte, Nat.reduceEqDiff, Nat.reduceAdd, Int.reduceToNat, Int.reduceAdd, Int.reduceNeg, Int.reduceSub, Int.reduceMul, Int.reduceLT, Int.reduceLE, Int.reduceEq, ↓GH.gp_eq, ↓GH.gp_ne, ↓GH.gs_eq, ↓GH.gs_ne, GH.push_next, GH.set_next, he, hl, ck', hq1, hq2, han, ib_shr n1, r1, r2', hs1, ho1]
      refine CallD.call hrec ?_
      rintro u g2 lo2 hx2 ⟨hlo2, rfl, hok2, hk2, hJ2, T2, hget2, hA2⟩
      have hM2 := hcall k _ _ _ _ hM hup hA2
      have hTl2 := hMl _ _ hM2
      have hintsl2 : (ints T2).length = N := by rw [ints_len, hTl2]
      cases hw : won (setF L) L.length (v ||| 2 ^ k) k with
      | true =>
        have hg : good (setF L) L.length v l k = false := by unfold good; rw [hb, hw]; rfl
        simp +decide (disch := first | assumption | exact cellV_int _ _ | exact cellV_bool _ | omega | (simp only [GH.pn, GH.sn] <;> omega) | (with_reducible ((repeat (first | apply GH.ok_push | apply GH.ok_set)); assumption)) | ((try simp only [GH.push_hid, GH.set_hid]); first | assumption | (refine GH.vis ?_ ?_ <;> first | assumption | ((try simp only [GH.pn, GH.sn]) <;> omega)))) only [go_sem, ↓reduceIte, Nat.reduceEqDiff, Nat.reduceAdd, Int.reduceToNat, Int.reduceAdd, Int.reduceNeg, Int.reduceSub, Int.reduceMul, Int.reduceLT, Int.reduceLE, Int.reduceEq, ↓GH.gp_eq, ↓GH.gp_ne, ↓GH.gs_eq, ↓GH.gs_ne, GH.push_next, GH.set_next, he]
        exact ih (m' - 1) _ _ _ (by omega) ⟨by omega, hk2, hJ2, k + 1, by omega, (by simp +decide (disch := first | assumption | (apply GH.ok_push; assumption) | exact cellV_int _ _ | exact cellV_bool _ | omega) only [go_sem, ↓reduceIte, Nat.reduceEqDiff, Nat.reduceAdd, Int.reduceToNat, he]; first | done | exact rfl), T2, hget2, hskip k T2 hM2 hg⟩
      | false =>
        have hg : good (setF L) L.length v l k = true := by unfold good; rw [hb, hw]; rfl
        have hw3 := Wrote.set (o := cellsOb (splice (q + l) (ints T2) [.int .i64 1]) 3) hget2 Nat.one_ne_zero hok2
        have hg3 := hw3.get.trans (congrArg (fun z => cellsOb z 3) (show splice (q + l) (ints T2) [.int .i64 1] = ints (T2.set (q + l) 1) by rw [splice_set _ _ _ (by rw [hintsl2]; exact hix), ints_set]))
        have hk3 := hw3.kept hk2 hJ0
        have hnx3 := hw3.next
        simp +decide (disch := first | assumption | exact cellV_int _ _ | exact cellV_bool _ | omega | (simp only [GH.pn, GH.sn] <;> omega) | (with_reducible ((repeat (first | apply GH.ok_push | apply GH.ok_set)); assumption)) | ((try simp only [GH.push_hid, GH.set_hid]); first | assumption | (refine GH.vis ?_ ?_ <;> first | assumption | ((try simp only [GH.pn, GH.sn]) <;> omega)))) only [go_sem, ↓reduceIte, Nat.reduceEqDiff, Nat.reduceAdd, Int.reduceToNat, Int.reduceAdd, Int.reduceNeg, Int.reduceSub, Int.reduceMul, Int.reduceLT, Int.reduceLE, Int.reduceEq, ↓GH.gp_eq, ↓GH.gp_ne, ↓GH.gs_eq, ↓GH.gs_ne, GH.push_next, GH.set_next, he, hpi, hget2, hintsl2]
        exact ih (m' - 1) _ _ _ (by omega) ⟨by omega, hk3, by omega, k + 1, by omega, (by simp +decide (disch := first | assumption | (apply GH.ok_push; assumption) | exact cellV_int _ _ | exact cellV_bool _ | omega) only [go_sem, ↓reduceIte, Nat.reduceEqDiff, Nat.reduceAdd, Int.reduceToNat, he]; first | done | exact rfl), _, hg3, hwin k T2 hM2 hg⟩
end Go.Proofs.YtnpapnpedcbfnaaDoor
set_option maxRecDepth 100000
set_option maxHeartbeats 4000000
set_option linter.unusedSimpArgs false
set_option linter.unusedVariables false
namespace Go.Proofs.YtnpapnpedcbfnaaDoor
open Go.Ds Go.Vs
/-! ## Calls that may get an empty list -/
-- their codes: p29 (hX) p31 (hX) p27 (hX)
structure Xemp (X : Caller) : Prop where
  e29 : ∀ s v l h, rdI h s = none → X 29 [s, .int .i64 v, .int .i64 l] h = none
  e31 : ∀ s v l h, rdI h s = none → X 31 [s, .int .i64 v, .int .i64 l] h = none
  e27 : ∀ s h, rdI h s = none → X 27 [s] h = none
theorem rdI_nil {g : GH} {s : Value} (hs : SlR g s (ints [])) (h : AH) : rdI h s = none := by
  rcases hs with ⟨rfl, _⟩ | ⟨j, off, cap, ob, rfl, _⟩ <;> rfl
theorem wins29 {X : Caller} (hX : Xok X) (hE : Xemp X) (L : List Int) (hL : L.length ≤ 40) (s : Value) (v l : Int) (g : GH) (hs : SlR g s (ints L)) :
    Rets Tryd.prog X 29 [s, .int .i64 v, .int .i64 l] g (fun u g' lo => g.next ≤ lo ∧ u = winsV L v l) := by
  by_cases hne : L = []
  case neg => exact hX.wins g s L v l hne hL hs
  subst hne
  have hsh := IsShop_rets hX.toXfr [] (by simp) s g hs
  refine Rets.run hX.pres p29 (hE.e29 _ _ _ _ (rdI_nil hs _)) rfl fun ho => ?_
  simp +decide (disch := first | assumption | exact cellV_int _ _ | exact cellV_bool _ | omega | (simp only [GH.pn, GH.sn] <;> omega) | (with_reducible ((repeat (first | apply GH.ok_push | apply GH.ok_set)); assumption)) | ((try simp only [GH.push_hid, GH.set_hid]); first | assumption | (refine GH.vis ?_ ?_ <;> first | assumption | ((try simp only [GH.pn, GH.sn]) <;> omega)))) only [go_sem, ↓reduceIte, Nat.reduceEqDiff, Nat.reduceAdd, Int.reduceToNat, Int.reduceAdd, Int.reduceNeg, Int.reduceSub, Int.reduceMul, Int.reduceLT, Int.reduceLE, Int.reduceEq, ↓GH.gp_eq, ↓GH.gp_ne, ↓GH.gs_eq, ↓GH.gs_ne, GH.push_next, GH.set_next]
  refine CallD.calm hsh ?_
  rintro v g1 hx1 rfl
  have hn1 := hx1.next
  have hz : shopB [] = false := rfl
  rw [hz]
  simp +decide (disch := first | assumption | exact cellV_int _ _ | exact cellV_bool _ | omega | (simp only [GH.pn, GH.sn] <;> omega) | (with_reducible ((repeat (first | apply GH.ok_push | apply GH.ok_set)); assumption)) | ((try simp only [GH.push_hid, GH.set_hid]); first | assumption | (refine GH.vis ?_ ?_ <;> first | assumption | ((try simp only [GH.pn, GH.sn]) <;> omega)))) only [go_sem, ↓reduceIte, Nat.reduceEqDiff, Nat.reduceAdd, Int.reduceToNat, Int.reduceAdd, Int.reduceNeg, Int.reduceSub, Int.reduceMul, Int.reduceLT, Int.reduceLE, Int.reduceEq, ↓GH.gp_eq, ↓GH.gp_ne, ↓GH.gs_eq, ↓GH.gs_ne, GH.push_next, GH.set_next]
  intro hx0
  exact ⟨by omega, rfl⟩
theorem move31 {X : Caller} (hX : Xok X) (hE : Xemp X) (L : List Int) (hL : L.length ≤ 40) (s : Value) (v l : Int) (g : GH) (hs : SlR g s (ints L)) :
    Rets Tryd.prog X 31 [s, .int .i64 v, .int .i64 l] g (fun u g' lo => g.next ≤ lo ∧ u = mvV L v l) := by
  by_cases hne : L = []
  case neg => exact hX.move g s L v l hne hL hs
  subst hne
  have hsh := IsShop_rets hX.toXfr [] (by simp) s g hs
  refine Rets.run hX.pres p31 (hE.e31 _ _ _ _ (rdI_nil hs _)) rfl fun ho => ?_
  simp +decide (disch := first | assumption | exact cellV_int _ _ | exact cellV_bool _ | omega | (simp only [GH.pn, GH.sn] <;> omega) | (with_reducible ((repeat (first | apply GH.ok_push | apply GH.ok_set)); assumption)) | ((try simp only [GH.push_hid, GH.set_hid]); first | assumption | (refine GH.vis ?_ ?_ <;> first | assumption | ((try simp only [GH.pn, GH.sn]) <;> omega)))) only [go_sem, ↓reduceIte, Nat.reduceEqDiff, Nat.reduceAdd, Int.reduceToNat, Int.reduceAdd, Int.reduceNeg, Int.reduceSub, Int.reduceMul, Int.reduceLT, Int.reduceLE, Int.reduceEq, ↓GH.gp_eq, ↓GH.gp_ne, ↓GH.gs_eq, ↓GH.gs_ne, GH.push_next, GH.set_next]
  refine CallD.calm hsh ?_
  rintro v g1 hx1 rfl
  have hn1 := hx1.next
  have hz : shopB [] = false := rfl
  rw [hz]
  simp +decide (disch := first | assumption | exact cellV_int _ _ | exact cellV_bool _ | omega | (simp only [GH.pn, GH.sn] <;> omega) | (with_reducible ((repeat (first | apply GH.ok_push | apply GH.ok_set)); assumption)) | ((try simp only [GH.push_hid, GH.set_hid]); first | assumption | (refine GH.vis ?_ ?_ <;> first | assumption | ((try simp only [GH.pn, GH.sn]) <;> omega)))) only [go_sem, ↓reduceIte, Nat.reduceEqDiff, Nat.reduceAdd, Int.reduceToNat, Int.reduceAdd, Int.reduceNeg, Int.reduceSub, Int.reduceMul, Int.reduceLT, Int.reduceLE, Int.reduceEq, ↓GH.gp_eq, ↓GH.gp_ne, ↓GH.gs_eq, ↓GH.gs_ne, GH.push_next, GH.set_next]
  intro hx0
  exact ⟨by omega, rfl⟩
theorem starts27 {X : Caller} (hX : Xok X) (hE : Xemp X) (L : List Int) (hL : L.length ≤ 40) (s : Value) (g : GH) (hs : SlR g s (ints L)) :
    Rets Tryd.prog X 27 [s] g (fun u g' lo => g.next ≤ lo ∧ u = stV L) := by
  by_cases hne : L = []
  case neg => exact hX.starts g s L hne hL hs
  subst hne
  have hsh := IsShop_rets hX.toXfr [] (by simp) s g hs
  refine Rets.run hX.pres p27 (hE.e27 _ _ (rdI_nil hs _)) rfl fun ho => ?_
  simp +decide (disch := first | assumption | exact cellV_int _ _ | exact cellV_bool _ | omega | (simp only [GH.pn, GH.sn] <;> omega) | (with_reducible ((repeat (first | apply GH.ok_push | apply GH.ok_set)); assumption)) | ((try simp only [GH.push_hid, GH.set_hid]); first | assumption | (refine GH.vis ?_ ?_ <;> first | assumption | ((try simp only [GH.pn, GH.sn]) <;> omega)))) only [go_sem, ↓reduceIte, Nat.reduceEqDiff, Nat.reduceAdd, Int.reduceToNat, Int.reduceAdd, Int.reduceNeg, Int.reduceSub, Int.reduceMul, Int.reduceLT, Int.reduceLE, Int.reduceEq, ↓GH.gp_eq, ↓GH.gp_ne, ↓GH.gs_eq, ↓GH.gs_ne, GH.push_next, GH.set_next]
  refine CallD.calm hsh ?_
  rintro v g1 hx1 rfl
  have hn1 := hx1.next
  have hz : shopB [] = false := rfl
  rw [hz]
  simp +decide (disch := first | assumption | exact cellV_int _ _ | exact cellV_bool _ | omega | (simp only [GH.pn, GH.sn] <;> omega) | (with_reducible ((repeat (first | apply GH.ok_push | apply GH.ok_set)); assumption)) | ((try simp only [GH.push_hid, GH.set_hid]); first | assumption | (refine GH.vis ?_ ?_ <;> first | assumption | ((try simp only [GH.pn, GH.sn]) <;> omega)))) only [go_sem, ↓reduceIte, Nat.reduceEqDiff, Nat.reduceAdd, Int.reduceToNat, Int.reduceAdd, Int.reduceNeg, Int.reduceSub, Int.reduceMul, Int.reduceLT, Int.reduceLE, Int.reduceEq, ↓GH.gp_eq, ↓GH.gp_ne, ↓GH.gs_eq, ↓GH.gs_ne, GH.push_next, GH.set_next]
  intro hx0
  exact ⟨by omega, rfl⟩
/-! ## What the specification says -/
def askV (L : List Int) (v l : Int) : Int := if shopB L && posB L v l then 0 else 2
theorem asked_rets {X : Caller} (hX : Xfr X) (L : List Int) (hL : L.length ≤ 40) (s : Value) (v l : Int) (g : GH) (hs : SlR g s (ints L)) :
    Rets Tryd.prog X 58 [s, .int .i64 v, .int .i64 l] g (fun u g' lo => g.next ≤ lo ∧ u = .int .i64 (askV L v l)) := by
  have hl := hs.len
  rw [ints_len] at hl
  generalize hr : askV L v l = r
  have hsh := refIsShop_rets hX L hL s g hs
  refine Rets.run hX.pres p58 (hX.free 58 (by decide) _ _) rfl fun ho => ?_
  simp +decide (disch := first | assumption | exact cellV_int _ _ | exact cellV_bool _ | omega | (simp only [GH.pn, GH.sn] <;> omega) | (with_reducible ((repeat (first | apply GH.ok_push | apply GH.ok_set)); assumption)) | ((try simp only [GH.push_hid, GH.set_hid]); first | assumption | (refine GH.vis ?_ ?_ <;> first | assumption | ((try simp only [GH.pn, GH.sn]) <;> omega)))) only [go_sem, ↓reduceIte, Nat.reduceEqDiff, Nat.reduceAdd, Int.reduceToNat, Int.reduceAdd, Int.reduceNeg, Int.reduceSub, Int.reduceMul, Int.reduceLT, Int.reduceLE, Int.reduceEq, ↓GH.gp_eq, ↓GH.gp_ne, ↓GH.gs_eq, ↓GH.gs_ne, GH.push_next, GH.set_next]
  refine CallD.calm hsh ?_
  rintro u g1 hx1 rfl
  have hn1 := hx1.next
  cases hz : shopB L with
  | false =>
    simp +decide (disch := first | assumption | exact cellV_int _ _ | exact cellV_bool _ | omega | (simp only [GH.pn, GH.sn] <;> omega) | (with_reducible ((repeat (first | apply GH.ok_push | apply GH.ok_set)); assumption)) | ((try simp only [GH.push_hid, GH.set_hid]); first | assumption | (refine GH.vis ?_ ?_ <;> first | assumption | ((try simp only [GH.pn, GH.sn]) <;> omega)))) only [go_sem, ↓reduceIte, Nat.reduceEqDiff, Nat.reduceAdd, Int.reduceToNat, Int.reduceAdd, Int.reduceNeg, Int.reduceSub, Int.reduceMul, Int.reduceLT, Int.reduceLE, Int.reduceEq, ↓GH.gp_eq, ↓GH.gp_ne, ↓GH.gs_eq, ↓GH.gs_ne, GH.push_next, GH.set_next]
    intro hx0
    exact ⟨by omega, by rw [← hr, askV, hz]; rfl⟩
  | true =>
  obtain ⟨hL1, hL10, hA⟩ := shop_ok hz
  have e2 : ((2 ^ L.length : Nat) : Int) = 2 ^ L.length := by simp
  have hsh := shl_i (k := L.length) (by omega)
  have hpb : askV L v l = if posB L v l = true then 0 else 2 := by rw [askV, hz]; rfl
  unfold posB at hpb
  rw [← e2] at hpb
  generalize 2 ^ L.length = N at *
  by_cases f1 : v < 0
  · simp +decide (disch := first | assumption | exact cellV_int _ _ | exact cellV_bool _ | omega | (simp only [GH.pn, GH.sn] <;> omega) | (with_reducible ((repeat (first | apply GH.ok_push | apply GH.ok_set)); assumption)) | ((try simp only [GH.push_hid, GH.set_hid]); first | assumption | (refine GH.vis ?_ ?_ <;> first | assumption | ((try simp only [GH.pn, GH.sn]) <;> omega)))) only [go_sem, ↓reduceIte, Nat.reduceEqDiff, Nat.reduceAdd, Int.reduceToNat, Int.reduceAdd, Int.reduceNeg, Int.reduceSub, Int.reduceMul, Int.reduceLT, Int.reduceLE, Int.reduceEq, ↓GH.gp_eq, ↓GH.gp_ne, ↓GH.gs_eq, ↓GH.gs_ne, GH.push_next, GH.set_next, hl, f1]
    intro hx0
    exact ⟨by omega, by rw [← hr, hpb, decide_eq_false (p := 0 ≤ v) (by omega)]; rfl⟩
  by_cases f2 : (N : Int) ≤ v
  · simp +decide (disch := first | assumption | exact cellV_int _ _ | exact cellV_bool _ | omega | (simp only [GH.pn, GH.sn] <;> omega) | (with_reducible ((repeat (first | apply GH.ok_push | apply GH.ok_set)); assumption)) | ((try simp only [GH.push_hid, GH.set_hid]); first | assumption | (refine GH.vis ?_ ?_ <;> first | assumption | ((try simp only [GH.pn, GH.sn]) <;> omega)))) only [go_sem, ↓reduceIte, Nat.reduceEqDiff, Nat.reduceAdd, Int.reduceToNat, Int.reduceAdd, Int.reduceNeg, Int.reduceSub, Int.reduceMul, Int.reduceLT, Int.reduceLE, Int.reduceEq, ↓GH.gp_eq, ↓GH.gp_ne, ↓GH.gs_eq, ↓GH.gs_ne, GH.push_next, GH.set_next, hl, hsh, f1, f2]
    intro hx0
    exact ⟨by omega, by rw [← hr, hpb, decide_eq_false (p := v < (N : Int)) (by omega), Bool.and_false]; rfl⟩
  by_cases f3 : l < 0
  · simp +decide (disch := first | assumption | exact cellV_int _ _ | exact cellV_bool _ | omega | (simp only [GH.pn, GH.sn] <;> omega) | (with_reducible ((repeat (first | apply GH.ok_push | apply GH.ok_set)); assumption)) | ((try simp only [GH.push_hid, GH.set_hid]); first | assumption | (refine GH.vis ?_ ?_ <;> first | assumption | ((try simp only [GH.pn, GH.sn]) <;> omega)))) only [go_sem, ↓reduceIte, Nat.reduceEqDiff, Nat.reduceAdd, Int.reduceToNat, Int.reduceAdd, Int.reduceNeg, Int.reduceSub, Int.reduceMul, Int.reduceLT, Int.reduceLE, Int.reduceEq, ↓GH.gp_eq, ↓GH.gp_ne, ↓GH.gs_eq, ↓GH.gs_ne, GH.push_next, GH.set_next, hl, hsh, f1, f2, f3]
    intro hx0
    exact ⟨by omega, by rw [← hr, hpb, decide_eq_false (p := 0 ≤ l) (by omega), Bool.and_false]; rfl⟩
  by_cases f4 : (L.length : Int) ≤ l
  · simp +decide (disch := first | assumption | exact cellV_int _ _ | exact cellV_bool _ | omega | (simp only [GH.pn, GH.sn] <;> omega) | (with_reducible ((repeat (first | apply GH.ok_push | apply GH.ok_set)); assumption)) | ((try simp only [GH.push_hid, GH.set_hid]); first | assumption | (refine GH.vis ?_ ?_ <;> first | assumption | ((try simp only [GH.pn, GH.sn]) <;> omega)))) only [go_sem, ↓reduceIte, Nat.reduceEqDiff, Nat.reduceAdd, Int.reduceToNat, Int.reduceAdd, Int.reduceNeg, Int.reduceSub, Int.reduceMul, Int.reduceLT, Int.reduceLE, Int.reduceEq, ↓GH.gp_eq, ↓GH.gp_ne, ↓GH.gs_eq, ↓GH.gs_ne, GH.push_next, GH.set_next, hl, hsh, f1, f2, f3, f4]
    intro hx0
    exact ⟨by omega, by rw [← hr, hpb, decide_eq_false (p := l < (L.length : Int)) (by omega), Bool.and_false]; rfl⟩
  obtain ⟨ln, rfl⟩ : ∃ ln : Nat, l = ln := ⟨l.toNat, by omega⟩
  have n1 : ¬ (ln : Int) < 0 := f3
  have r1 := shr_fact v ln (by omega)
  have r2 := rem_fact (x := v) (by omega) ln
  have hpb2 : askV L v ln = if bitI v ln = true then 0 else 2 := by
    rw [hpb, decide_eq_true (p := 0 ≤ v) (by omega), decide_eq_true (p := v < (N : Int)) (by omega), decide_eq_true (p := 0 ≤ (ln : Int)) (by omega), decide_eq_true (p := (ln : Int) < (L.length : Int)) (by omega)]
    rfl
  cases hb : bitI v ln with
  | false =>
    rw [hb] at r2
    have r2' : (v / 2 ^ ln).tmod 2 = 0 := r2
    simp +decide (disch := first | assumption | exact cellV_int _ _ | exact cellV_bool _ | omega | (simp only [GH.pn, GH.sn] <;> omega) | (with_reducible ((repeat (first | apply GH.ok_push | apply GH.ok_set)); assumption)) | ((try simp only [GH.push_hid, GH.set_hid]); first | assumption | (refine GH.vis ?_ ?_ <;> first | assumption | ((try simp only [GH.pn, GH.sn]) <;> omega)))) only [go_sem, ↓reduceIte, Nat.reduceEqDiff, Nat.reduceAdd, Int.reduceToNat, Int.reduceAdd, Int.reduceNeg, Int.reduceSub, Int.reduceMul, Int.reduceLT, Int.reduceLE, Int.reduceEq, ↓GH.gp_eq, ↓GH.gp_ne, ↓GH.gs_eq, ↓GH.gs_ne, GH.push_next, GH.set_next, hl, hsh, f1, f2, f3, f4, ib_shr n1, r1, r2']
    intro hx0
    exact ⟨by omega, by rw [← hr, hpb2, hb]; rfl⟩
  | true =>
    rw [hb] at r2
    have r2' : (v / 2 ^ ln).tmod 2 = 1 := r2
    simp +decide (disch := first | assumption | exact cellV_int _ _ | exact cellV_bool _ | omega | (simp only [GH.pn, GH.sn] <;> omega) | (with_reducible ((repeat (first | apply GH.ok_push | apply GH.ok_set)); assumption)) | ((try simp only [GH.push_hid, GH.set_hid]); first | assumption | (refine GH.vis ?_ ?_ <;> first | assumption | ((try simp only [GH.pn, GH.sn]) <;> omega)))) only [go_sem, ↓reduceIte, Nat.reduceEqDiff, Nat.reduceAdd, Int.reduceToNat, Int.reduceAdd, Int.reduceNeg, Int.reduceSub, Int.reduceMul, Int.reduceLT, Int.reduceLE, Int.reduceEq, ↓GH.gp_eq, ↓GH.gp_ne, ↓GH.gs_eq, ↓GH.gs_ne, GH.push_next, GH.set_next, hl, hsh, f1, f2, f3, f4, ib_shr n1, r1, r2']
    intro hx0
    exact ⟨by omega, by rw [← hr, hpb2, hb]; rfl⟩
end Go.Proofs.YtnpapnpedcbfnaaDoor
set_option maxRecDepth 100000
set_option maxHeartbeats 4000000
set_option linter.unusedSimpArgs false
set_option linter.unusedVariables false
namespace Go.Proofs.YtnpapnpedcbfnaaDoor
open Go.Ds Go.Vs
theorem TabM.mono {A : Nat → Nat} {n m m' : Nat} {T : List Int} (h : TabM A n T m) (hm : m' ≤ m) : TabM A n T m' := fun v l h1 h2 h3 => h v l h1 h2 (by omega)
theorem AftM.full {A : Nat → Nat} {n v l m : Nat} {T T' : List Int} (h : TabM A n T m) (a : AftM A n v l T T') : TabM A n T' m := fun v' l' h1 h2 h3 => by
  by_cases c : un n v' ≤ un n v
  · exact a.ok v' l' h1 h2 c
  · rw [a.old v' l' h1 h2 (by omega)]; exact h v' l' h1 h2 h3
theorem posB_cast {L : List Int} {v l : Int} (h : posB L v l = true) : ∃ vn ln : Nat, v = vn ∧ l = ln ∧ vn < 2 ^ L.length ∧ ln < L.length ∧ vn.testBit ln = true := by
  unfold posB at h
  simp only [Bool.and_eq_true, decide_eq_true_eq] at h
  obtain ⟨⟨⟨⟨h1, h2⟩, h3⟩, h4⟩, h5⟩ := h
  have e2 : ((2 ^ L.length : Nat) : Int) = 2 ^ L.length := by simp
  rw [← e2] at h2
  obtain ⟨vn, rfl⟩ : ∃ vn : Nat, v = vn := ⟨v.toNat, by omega⟩
  obtain ⟨ln, rfl⟩ : ∃ ln : Nat, l = ln := ⟨l.toNat, by omega⟩
  exact ⟨vn, ln, rfl, rfl, Int.ofNat_lt.1 h2, by omega, by rw [← bitI_nat]; exact h5⟩
theorem refWins_rets {X : Caller} (hX : Xfr X) (L : List Int) (hL : L.length ≤ 40) (s : Value) (v l : Int) (g : GH) (hs : SlR g s (ints L)) :
    Rets Tryd.prog X 30 [s, .int .i64 v, .int .i64 l] g (fun u g' lo => g.next ≤ lo ∧ u = winsV L v l) := by
  have hl := hs.len
  rw [ints_len] at hl
  have hask := asked_rets hX L hL s v l g hs
  generalize hr : winsV L v l = r
  refine Rets.run hX.pres p30 (hX.free 30 (by decide) _ _) rfl fun ho => ?_
  simp +decide (disch := first | assumption | exact cellV_int _ _ | exact cellV_bool _ | omega | (simp only [GH.pn, GH.sn] <;> omega) | (with_reducible ((repeat (first | apply GH.ok_push | apply GH.ok_set)); assumption)) | ((try simp only [GH.push_hid, GH.set_hid]); first | assumption | (refine GH.vis ?_ ?_ <;> first | assumption | ((try simp only [GH.pn, GH.sn]) <;> omega)))) only [go_sem, ↓reduceIte, Nat.reduceEqDiff, Nat.reduceAdd, Int.reduceToNat, Int.reduceAdd, Int.reduceNeg, Int.reduceSub, Int.reduceMul, Int.reduceLT, Int.reduceLE, Int.reduceEq, ↓GH.gp_eq, ↓GH.gp_ne, ↓GH.gs_eq, ↓GH.gs_ne, GH.push_next, GH.set_next]
  refine CallD.calm hask ?_
  rintro u g1 hx1 rfl
  have hn1 := hx1.next
  have hok1 := hx1.ok ho
  cases hb : (shopB L && posB L v l) with
  | false =>
    have ha : askV L v l = 2 := by rw [askV, hb]; rfl
    rw [ha]
    simp +decide (disch := first | assumption | exact cellV_int _ _ | exact cellV_bool _ | omega | (simp only [GH.pn, GH.sn] <;> omega) | (with_reducible ((repeat (first | apply GH.ok_push | apply GH.ok_set)); assumption)) | ((try simp only [GH.push_hid, GH.set_hid]); first | assumption | (refine GH.vis ?_ ?_ <;> first | assumption | ((try simp only [GH.pn, GH.sn]) <;> omega)))) only [go_sem, ↓reduceIte, Nat.reduceEqDiff, Nat.reduceAdd, Int.reduceToNat, Int.reduceAdd, Int.reduceNeg, Int.reduceSub, Int.reduceMul, Int.reduceLT, Int.reduceLE, Int.reduceEq, ↓GH.gp_eq, ↓GH.gp_ne, ↓GH.gs_eq, ↓GH.gs_ne, GH.push_next, GH.set_next]
    intro hx0
    exact ⟨by omega, by rw [← hr, winsV, hb]; rfl⟩
  | true =>
  have ha : askV L v l = 0 := by rw [askV, hb]; rfl
  have hr : r = .tuple #[.bool (won (setF L) L.length v.toNat l.toNat), .int .i64 0] := by rw [← hr, winsV, hb]; rfl
  rw [ha]
  rw [Bool.and_eq_true] at hb
  obtain ⟨hz, hp⟩ := hb
  obtain ⟨vn, ln, rfl, rfl, hv, hln, -⟩ := posB_cast hp
  obtain ⟨hL1, hL10, hA⟩ := shop_ok hz
  have hP : 2 ^ L.length ≤ 1024 := Nat.pow_le_pow_right (by decide) hL10
  have hNb : L.length * 2 ^ L.length ≤ 10 * 1024 := Nat.mul_le_mul hL10 hP
  have hsh := shl_n hL10
  have hget : (g1.push (cellsOb (repeatN [Value.int .i64 0] (L.length * 2 ^ L.length)) 3)).get g1.next = cellsOb (ints (List.replicate (L.length * 2 ^ L.length) 0)) 3 := by
    rw [GH.get_push hok1, if_pos rfl, repeatN_ints]
  have hrec := known_rets hX L hz s g1 (hs.ext hx1) g1.next (Nat.le_refl _) _ vn ln (List.replicate (L.length * 2 ^ L.length) 0) (g1.push (cellsOb (repeatN [Value.int .i64 0] (L.length * 2 ^ L.length)) 3)) rfl hv hln ((Kept.refl g1).push hok1 _) (Nat.lt_succ_self _) hget (by simp) (TabM.zero _ _ _ _)
  have hr : r = .tuple #[.bool (won (setF L) L.length vn ln), .int .i64 0] := hr
  generalize hN : L.length * 2 ^ L.length = N at *
  simp +decide (disch := first | assumption | exact cellV_int _ _ | exact cellV_bool _ | omega | (simp only [GH.pn, GH.sn] <;> omega) | (with_reducible ((repeat (first | apply GH.ok_push | apply GH.ok_set)); assumption)) | ((try simp only [GH.push_hid, GH.set_hid]); first | assumption | (refine GH.vis ?_ ?_ <;> first | assumption | ((try simp only [GH.pn, GH.sn]) <;> omega)))) only [go_sem, ↓reduceIte, Nat.reduceEqDiff, Nat.reduceAdd, Int.reduceToNat, Int.reduceAdd, Int.reduceNeg, Int.reduceSub, Int.reduceMul, Int.reduceLT, Int.reduceLE, Int.reduceEq, ↓GH.gp_eq, ↓GH.gp_ne, ↓GH.gs_eq, ↓GH.gs_ne, GH.push_next, GH.set_next, hl, hsh]
  refine Wk.mkslice (n := N) (c := N) (by simp +decide (disch := first | assumption | exact cellV_int _ _ | exact cellV_bool _ | omega | (simp only [GH.pn, GH.sn] <;> omega) | (with_reducible ((repeat (first | apply GH.ok_push | apply GH.ok_set)); assumption)) | ((try simp only [GH.push_hid, GH.set_hid]); first | assumption | (refine GH.vis ?_ ?_ <;> first | assumption | ((try simp only [GH.pn, GH.sn]) <;> omega)))) only [go_sem, ↓reduceIte, Nat.reduceEqDiff, Nat.reduceAdd, Int.reduceToNat, Int.reduceAdd, Int.reduceNeg, Int.reduceSub, Int.reduceMul, Int.reduceLT, Int.reduceLE, Int.reduceEq, ↓GH.gp_eq, ↓GH.gp_ne, ↓GH.gs_eq, ↓GH.gs_ne, GH.push_next, GH.set_next, hsh]; first | done | exact rfl) (by simp +decide (disch := first | assumption | exact cellV_int _ _ | exact cellV_bool _ | omega | (simp only [GH.pn, GH.sn] <;> omega) | (with_reducible ((repeat (first | apply GH.ok_push | apply GH.ok_set)); assumption)) | ((try simp only [GH.push_hid, GH.set_hid]); first | assumption | (refine GH.vis ?_ ?_ <;> first | assumption | ((try simp only [GH.pn, GH.sn]) <;> omega)))) only [go_sem, ↓reduceIte, Nat.reduceEqDiff, Nat.reduceAdd, Int.reduceToNat, Int.reduceAdd, Int.reduceNeg, Int.reduceSub, Int.reduceMul, Int.reduceLT, Int.reduceLE, Int.reduceEq, ↓GH.gp_eq, ↓GH.gp_ne, ↓GH.gs_eq, ↓GH.gs_ne, GH.push_next, GH.set_next, hsh]; first | done | exact rfl) (Nat.le_refl _) (by omega) ?_
  simp +decide (disch := first | assumption | exact cellV_int _ _ | exact cellV_bool _ | omega | (simp only [GH.pn, GH.sn] <;> omega) | (with_reducible ((repeat (first | apply GH.ok_push | apply GH.ok_set)); assumption)) | ((try simp only [GH.push_hid, GH.set_hid]); first | assumption | (refine GH.vis ?_ ?_ <;> first | assumption | ((try simp only [GH.pn, GH.sn]) <;> omega)))) only [go_sem, ↓reduceIte, Nat.reduceEqDiff, Nat.reduceAdd, Int.reduceToNat, Int.reduceAdd, Int.reduceNeg, Int.reduceSub, Int.reduceMul, Int.reduceLT, Int.reduceLE, Int.reduceEq, ↓GH.gp_eq, ↓GH.gp_ne, ↓GH.gs_eq, ↓GH.gs_ne, GH.push_next, GH.set_next, hl, hsh]
  refine CallD.call hrec ?_
  rintro u g2 lo2 hx2 ⟨hlo2, rfl, hok2, hk2, hJ2, T2, hget2, hA2⟩
  simp +decide (disch := first | assumption | exact cellV_int _ _ | exact cellV_bool _ | omega | (simp only [GH.pn, GH.sn] <;> omega) | (with_reducible ((repeat (first | apply GH.ok_push | apply GH.ok_set)); assumption)) | ((try simp only [GH.push_hid, GH.set_hid]); first | assumption | (refine GH.vis ?_ ?_ <;> first | assumption | ((try simp only [GH.pn, GH.sn]) <;> omega)))) only [go_sem, ↓reduceIte, Nat.reduceEqDiff, Nat.reduceAdd, Int.reduceToNat, Int.reduceAdd, Int.reduceNeg, Int.reduceSub, Int.reduceMul, Int.reduceLT, Int.reduceLE, Int.reduceEq, ↓GH.gp_eq, ↓GH.gp_ne, ↓GH.gs_eq, ↓GH.gs_ne, GH.push_next, GH.set_next]
  intro hx0
  exact ⟨by omega, by rw [hr]⟩
theorem refMove_rets {X : Caller} (hX : Xfr X) (L : List Int) (hL : L.length ≤ 40) (s : Value) (v l : Int) (g : GH) (hs : SlR g s (ints L)) :
    Rets Tryd.prog X 32 [s, .int .i64 v, .int .i64 l] g (fun u g' lo => g.next ≤ lo ∧ u = mvV L v l) := by
  have hl := hs.len
  rw [ints_len] at hl
  have hask := asked_rets hX L hL s v l g hs
  generalize hr : mvV L v l = r
  refine Rets.run hX.pres p32 (hX.free 32 (by decide) _ _) rfl fun ho => ?_
  simp +decide (disch := first | assumption | exact cellV_int _ _ | exact cellV_bool _ | omega | (simp only [GH.pn, GH.sn] <;> omega) | (with_reducible ((repeat (first | apply GH.ok_push | apply GH.ok_set)); assumption)) | ((try simp only [GH.push_hid, GH.set_hid]); first | assumption | (refine GH.vis ?_ ?_ <;> first | assumption | ((try simp only [GH.pn, GH.sn]) <;> omega)))) only [go_sem, ↓reduceIte, Nat.reduceEqDiff, Nat.reduceAdd, Int.reduceToNat, Int.reduceAdd, Int.reduceNeg, Int.reduceSub, Int.reduceMul, Int.reduceLT, Int.reduceLE, Int.reduceEq, ↓GH.gp_eq, ↓GH.gp_ne, ↓GH.gs_eq, ↓GH.gs_ne, GH.push_next, GH.set_next]
  refine CallD.calm hask ?_
  rintro u g1 hx1 rfl
  have hn1 := hx1.next
  have hok1 := hx1.ok ho
  cases hb : (shopB L && posB L v l) with
  | false =>
    have ha : askV L v l = 2 := by rw [askV, hb]; rfl
    rw [ha]
    simp +decide (disch := first | assumption | exact cellV_int _ _ | exact cellV_bool _ | omega | (simp only [GH.pn, GH.sn] <;> omega) | (with_reducible ((repeat (first | apply GH.ok_push | apply GH.ok_set)); assumption)) | ((try simp only [GH.push_hid, GH.set_hid]); first | assumption | (refine GH.vis ?_ ?_ <;> first | assumption | ((try simp only [GH.pn, GH.sn]) <;> omega)))) only [go_sem, ↓reduceIte, Nat.reduceEqDiff, Nat.reduceAdd, Int.reduceToNat, Int.reduceAdd, Int.reduceNeg, Int.reduceSub, Int.reduceMul, Int.reduceLT, Int.reduceLE, Int.reduceEq, ↓GH.gp_eq, ↓GH.gp_ne, ↓GH.gs_eq, ↓GH.gs_ne, GH.push_next, GH.set_next]
    intro hx0
    exact ⟨by omega, by rw [← hr, mvV, hb]; rfl⟩
  | true =>
  have ha : askV L v l = 0 := by rw [askV, hb]; rfl
  have hr : r = (match Go.Vs.move (setF L) L.length v.toNat l.toNat with
    | some k => .tuple #[.int .i64 (k : Int), .int .i64 0]
    | none => .tuple #[.int .i64 0, .int .i64 ePlan]) := by rw [← hr, mvV, hb]; rfl
  rw [ha]
  rw [Bool.and_eq_true] at hb
  obtain ⟨hz, hp⟩ := hb
  obtain ⟨vn, ln, rfl, rfl, hv, hln, -⟩ := posB_cast hp
  obtain ⟨hL1, hL10, hA⟩ := shop_ok hz
  have hP : 2 ^ L.length ≤ 1024 := Nat.pow_le_pow_right (by decide) hL10
  have hNb : L.length * 2 ^ L.length ≤ 10 * 1024 := Nat.mul_le_mul hL10 hP
  have hsh := shl_n hL10
  have hs1 := hs.ext hx1
  obtain ⟨J, hJ⟩ : ∃ J, g1.next = J := ⟨_, rfl⟩
  have hget : (g1.push (cellsOb (repeatN [Value.int .i64 0] (L.length * 2 ^ L.length)) 3)).get J = cellsOb (ints (List.replicate (L.length * 2 ^ L.length) 0)) 3 := by
    rw [GH.get_push hok1, if_pos hJ, repeatN_ints]
  have hrec := fun v l T g hv hl hk hJn hget hTl hTab => known_rets hX L hz s g1 hs1 J (by omega) _ v l T g rfl hv hl hk hJn hget hTl hTab
  have hr : r = (match Go.Vs.move (setF L) L.length vn ln with
    | some k => .tuple #[.int .i64 (k : Int), .int .i64 0]
    | none => .tuple #[.int .i64 0, .int .i64 ePlan]) := hr
  have hAl := hA ln hln
  have hAl2 := hAl.2.1
  have hfull : ∀ x, un L.length x ≤ L.length := fun x => by
    unfold un
    have := List.countP_le_length (p := fun k => !x.testBit k) (l := List.range L.length)
    rwa [List.length_range] at this
  obtain ⟨N, hN⟩ : ∃ N, L.length * 2 ^ L.length = N := ⟨_, rfl⟩
  have hAlen : ∀ {v l T T'}, AftM (setF L) L.length v l T T' → T'.length = N := fun h => by rw [h.len, hN]
  rw [hN] at hrec hget hsh hNb
  simp +decide (disch := first | assumption | exact cellV_int _ _ | exact cellV_bool _ | omega | (simp only [GH.pn, GH.sn] <;> omega) | (with_reducible ((repeat (first | apply GH.ok_push | apply GH.ok_set)); assumption)) | ((try simp only [GH.push_hid, GH.set_hid]); first | assumption | (refine GH.vis ?_ ?_ <;> first | assumption | ((try simp only [GH.pn, GH.sn]) <;> omega)))) only [go_sem, ↓reduceIte, Nat.reduceEqDiff, Nat.reduceAdd, Int.reduceToNat, Int.reduceAdd, Int.reduceNeg, Int.reduceSub, Int.reduceMul, Int.reduceLT, Int.reduceLE, Int.reduceEq, ↓GH.gp_eq, ↓GH.gp_ne, ↓GH.gs_eq, ↓GH.gs_ne, GH.push_next, GH.set_next, hl, hsh]
  refine Wk.mkslice (n := N) (c := N) (by simp +decide (disch := first | assumption | exact cellV_int _ _ | exact cellV_bool _ | omega | (simp only [GH.pn, GH.sn] <;> omega) | (with_reducible ((repeat (first | apply GH.ok_push | apply GH.ok_set)); assumption)) | ((try simp only [GH.push_hid, GH.set_hid]); first | assumption | (refine GH.vis ?_ ?_ <;> first | assumption | ((try simp only [GH.pn, GH.sn]) <;> omega)))) only [go_sem, ↓reduceIte, Nat.reduceEqDiff, Nat.reduceAdd, Int.reduceToNat, Int.reduceAdd, Int.reduceNeg, Int.reduceSub, Int.reduceMul, Int.reduceLT, Int.reduceLE, Int.reduceEq, ↓GH.gp_eq, ↓GH.gp_ne, ↓GH.gs_eq, ↓GH.gs_ne, GH.push_next, GH.set_next, hsh]; first | done | exact rfl) (by simp +decide (disch := first | assumption | exact cellV_int _ _ | exact cellV_bool _ | omega | (simp only [GH.pn, GH.sn] <;> omega) | (with_reducible ((repeat (first | apply GH.ok_push | apply GH.ok_set)); assumption)) | ((try simp only [GH.push_hid, GH.set_hid]); first | assumption | (refine GH.vis ?_ ?_ <;> first | assumption | ((try simp only [GH.pn, GH.sn]) <;> omega)))) only [go_sem, ↓reduceIte, Nat.reduceEqDiff, Nat.reduceAdd, Int.reduceToNat, Int.reduceAdd, Int.reduceNeg, Int.reduceSub, Int.reduceMul, Int.reduceLT, Int.reduceLE, Int.reduceEq, ↓GH.gp_eq, ↓GH.gp_ne, ↓GH.gs_eq, ↓GH.gs_ne, GH.push_next, GH.set_next, hsh]; first | done | exact rfl) (Nat.le_refl _) (by omega) ?_
  simp +decide (disch := first | assumption | exact cellV_int _ _ | exact cellV_bool _ | omega | (simp only [GH.pn, GH.sn] <;> omega) | (with_reducible ((repeat (first | apply GH.ok_push | apply GH.ok_set)); assumption)) | ((try simp only [GH.push_hid, GH.set_hid]); first | assumption | (refine GH.vis ?_ ?_ <;> first | assumption | ((try simp only [GH.pn, GH.sn]) <;> omega)))) only [go_sem, ↓reduceIte, Nat.reduceEqDiff, Nat.reduceAdd, Int.reduceToNat, Int.reduceAdd, Int.reduceNeg, Int.reduceSub, Int.reduceMul, Int.reduceLT, Int.reduceLE, Int.reduceEq, ↓GH.gp_eq, ↓GH.gp_ne, ↓GH.gs_eq, ↓GH.gs_ne, GH.push_next, GH.set_next, hl, hsh]
  rw [hJ]
  refine Wk.loops (fun m e g' lo => g.next ≤ lo ∧ Kept g1 g' ∧ J < g'.next ∧ ∃ k : Nat, k + m = L.length ∧ (ev e (.s 0) = s ∧ ev e (.s 1) = .int .i64 (vn : Nat) ∧ ev e (.s 2) = .int .i64 (ln : Nat) ∧ ev e (.s 9) = .slice (some ⟨J, 0, none⟩) N N ∧ ev e (.s 10) = .int .i64 (k : Nat)) ∧ (∀ j, j < k → good (setF L) L.length vn ln j = false) ∧ ∃ T, g'.get J = cellsOb (ints T) 3 ∧ T.length = N ∧ TabM (setF L) L.length T L.length)
    (fun e g' lo => g.next ≤ lo ∧ ∀ j, j < L.length → good (setF L) L.length vn ln j = false) (n := L.length) ?_ ?_ ?_
  · exact ⟨by omega, (Kept.refl g1).push hok1 _, by rw [← hJ]; exact Nat.lt_succ_self _, 0, by omega, (by simp +decide (disch := first | assumption | (apply GH.ok_push; assumption) | exact cellV_int _ _ | exact cellV_bool _ | omega) only [go_sem, ↓reduceIte, Nat.reduceEqDiff, Nat.reduceAdd, Int.reduceToNat]; first | done | exact rfl), fun j hj => by omega, _, hget, by simp, TabM.zero _ _ _ _⟩
  · rintro e g' lo hog hlg ⟨hlo, hno⟩
    rw [move_none hno] at hr
    simp +decide (disch := first | assumption | exact cellV_int _ _ | exact cellV_bool _ | omega | (simp only [GH.pn, GH.sn] <;> omega) | (with_reducible ((repeat (first | apply GH.ok_push | apply GH.ok_set)); assumption)) | ((try simp only [GH.push_hid, GH.set_hid]); first | assumption | (refine GH.vis ?_ ?_ <;> first | assumption | ((try simp only [GH.pn, GH.sn]) <;> omega)))) only [go_sem, ↓reduceIte, Nat.reduceEqDiff, Nat.reduceAdd, Int.reduceToNat, Int.reduceAdd, Int.reduceNeg, Int.reduceSub, Int.reduceMul, Int.reduceLT, Int.reduceLE, Int.reduceEq, ↓GH.gp_eq, ↓GH.gp_ne, ↓GH.gs_eq, ↓GH.gs_ne, GH.push_next, GH.set_next]
    intro hx0
    exact ⟨hlo, by rw [hr]; rfl⟩
  · rintro m e g' lo ho' hl' ih out ⟨hlo, hk, hJ', k, hkm, he, hno, T, hget', hTl, hTab⟩
    by_cases ck : k < L.length
    case neg =>
      have ck' : ¬ (k : Int) < L.length := by omega
      simp +decide (disch := first | assumption | exact cellV_int _ _ | exact cellV_bool _ | omega | (simp only [GH.pn, GH.sn] <;> omega) | (with_reducible ((repeat (first | apply GH.ok_push | apply GH.ok_set)); assumption)) | ((try simp only [GH.push_hid, GH.set_hid]); first | assumption | (refine GH.vis ?_ ?_ <;> first | assumption | ((try simp only [GH.pn, GH.sn]) <;> omega)))) only [go_sem, ↓reduceIte, Nat.reduceEqDiff, Nat.reduceAdd, Int.reduceToNat, Int.reduceAdd, Int.reduceNeg, Int.reduceSub, Int.reduceMul, Int.reduceLT, Int.reduceLE, Int.reduceEq, ↓GH.gp_eq, ↓GH.gp_ne, ↓GH.gs_eq, ↓GH.gs_ne, GH.push_next, GH.set_next, he, hl, ck']
      have : k = L.length := by omega
      subst this
      exact out _ _ _ ⟨hlo, hno⟩
    have ck' : (k : Int) < L.length := by omega
    have n1 : ¬ (k : Int) < 0 := by omega
    obtain ⟨j2, o2, hj2, hq1, hq2⟩ := (hs1.kept hk).ptr (ints_get (D := L) (i := ln) hln)
    have hq1 := hq1 (ln : Int) rfl
    rw [hAl.1] at hq2
    have han := andn_i (a := setF L ln) (b := vn) (by omega) (by omega)
    have hab := andn_bit (a := setF L ln) (b := vn) (k := k) (by omega) (by omega)
    have r1 := shr_fact ((andn (setF L ln) vn : Nat) : Int) k (by omega)
    have r2 := rem_nat (andn (setF L ln) vn) k
    have hno' : good (setF L) L.length vn ln k = false → ∀ j, j < k + 1 → good (setF L) L.length vn ln j = false := fun h j hj => by
      rcases Nat.lt_succ_iff_lt_or_eq.1 hj with c | c
      · exact hno j c
      · rw [c]; exact h
    cases hb : ((setF L ln).testBit k && !vn.testBit k) with
    | false =>
      rw [hab, hb] at r2
      have r2' : (((andn (setF L ln) vn : Nat) : Int) / 2 ^ k).tmod 2 = 0 := r2
      have hg : good (setF L) L.length vn ln k = false := by unfold good; rw [hb]; rfl
      simp +decide (disch := first | assumption | exact cellV_int _ _ | exact cellV_bool _ | omega | (simp only [GH.pn, GH.sn] <;> omega) | (with_reducible ((repeat (first | apply GH.ok_push | apply GH.ok_set)); assumption)) | ((try simp only [GH.push_hid, GH.set_hid]); first | assumption | (refine GH.vis ?_ ?_ <;> first | assumption | ((try simp only [GH.pn, GH.sn]) <;> omega)))) only [go_sem, ↓reduceIte, Nat.reduceEqDiff, Nat.reduceAdd, Int.reduceToNat, Int.reduceAdd, Int.reduceNeg, Int.reduceSub, Int.reduceMul, Int.reduceLT, Int.reduceLE, Int.reduceEq, ↓GH.gp_eq, ↓GH.gp_ne, ↓GH.gs_eq, ↓GH.gs_ne, GH.push_next, GH.set_next, he, hl, ck', hq1, hq2, han, ib_shr n1, r1, r2']
      exact ih (m - 1) _ _ _ (by omega) ⟨hlo, hk, hJ', k + 1, by omega, (by simp +decide (disch := first | assumption | (apply GH.ok_push; assumption) | exact cellV_int _ _ | exact cellV_bool _ | omega) only [go_sem, ↓reduceIte, Nat.reduceEqDiff, Nat.reduceAdd, Int.reduceToNat, he]; first | done | exact rfl), hno' hg, T, hget', hTl, hTab⟩
    | true =>
      rw [hab, hb] at r2
      have r2' : (((andn (setF L ln) vn : Nat) : Int) / 2 ^ k).tmod 2 = 1 := r2
      have hs1 := shl_i (k := k) (by omega)
      have ht1 := two_lt (k := k) (by omega)
      have ho1 := or_i (a := vn) (b := 2 ^ k) (by omega) (by omega)
      have hrc := hrec (vn ||| 2 ^ k) k T g' (or_lt hv ck) ck hk hJ' hget' hTl (hTab.mono (hfull _))
      simp +decide (disch := first | assumption | exact cellV_int _ _ | exact cellV_bool _ | omega | (simp only [GH.pn, GH.sn] <;> omega) | (with_reducible ((repeat (first | apply GH.ok_push | apply GH.ok_set)); assumption)) | ((try simp only [GH.push_hid, GH.set_hid]); first | assumption | (refine GH.vis ?_ ?_ <;> first | assumption | ((try simp only [GH.pn, GH.sn]) <;> omega)))) only [go_sem, ↓reduceIte, Nat.reduceEqDiff, Nat.reduceAdd, Int.reduceToNat, Int.reduceAdd, Int.reduceNeg, Int.reduceSub, Int.reduceMul, Int.reduceLT, Int.reduceLE, Int.reduceEq, ↓GH.gp_eq, ↓GH.gp_ne, ↓GH.gs_eq, ↓GH.gs_ne, GH.push_next, GH.set_next, he, hl, ck', hq1, hq2, han, ib_shr n1, r1, r2', hs1, ho1]
      refine CallD.call hrc ?_
      rintro u g2 lo2 hx2 ⟨hlo2, rfl, hok2, hk2, hJ2, T2, hget2, hA2⟩
      cases hw : won (setF L) L.length (vn ||| 2 ^ k) k with
      | true =>
        have hg : good (setF L) L.length vn ln k = false := by unfold good; rw [hb, hw]; rfl
        simp +decide (disch := first | assumption | exact cellV_int _ _ | exact cellV_bool _ | omega | (simp only [GH.pn, GH.sn] <;> omega) | (with_reducible ((repeat (first | apply GH.ok_push | apply GH.ok_set)); assumption)) | ((try simp only [GH.push_hid, GH.set_hid]); first | assumption | (refine GH.vis ?_ ?_ <;> first | assumption | ((try simp only [GH.pn, GH.sn]) <;> omega)))) only [go_sem, ↓reduceIte, Nat.reduceEqDiff, Nat.reduceAdd, Int.reduceToNat, Int.reduceAdd, Int.reduceNeg, Int.reduceSub, Int.reduceMul, Int.reduceLT, Int.reduceLE, Int.reduceEq, ↓GH.gp_eq, ↓GH.gp_ne, ↓GH.gs_eq, ↓GH.gs_ne, GH.push_next, GH.set_next, he]
        exact ih (m - 1) _ _ _ (by omega) ⟨by omega, hk2, hJ2, k + 1, by omega, (by simp +decide (disch := first | assumption | (apply GH.ok_push; assumption) | exact cellV_int _ _ | exact cellV_bool _ | omega) only [go_sem, ↓reduceIte, Nat.reduceEqDiff, Nat.reduceAdd, Int.reduceToNat, he]; first | done | exact rfl), hno' hg, T2, hget2, hAlen hA2, hA2.full hTab⟩
      | false =>
        have hg : good (setF L) L.length vn ln k = true := by unfold good; rw [hb, hw]; rfl
        rw [move_found ck hno hg] at hr
        simp +decide (disch := first | assumption | exact cellV_int _ _ | exact cellV_bool _ | omega | (simp only [GH.pn, GH.sn] <;> omega) | (with_reducible ((repeat (first | apply GH.ok_push | apply GH.ok_set)); assumption)) | ((try simp only [GH.push_hid, GH.set_hid]); first | assumption | (refine GH.vis ?_ ?_ <;> first | assumption | ((try simp only [GH.pn, GH.sn]) <;> omega)))) only [go_sem, ↓reduceIte, Nat.reduceEqDiff, Nat.reduceAdd, Int.reduceToNat, Int.reduceAdd, Int.reduceNeg, Int.reduceSub, Int.reduceMul, Int.reduceLT, Int.reduceLE, Int.reduceEq, ↓GH.gp_eq, ↓GH.gp_ne, ↓GH.gs_eq, ↓GH.gs_ne, GH.push_next, GH.set_next, he]
        intro hx0
        exact ⟨by omega, by rw [hr]⟩
end Go.Proofs.YtnpapnpedcbfnaaDoor
set_option maxRecDepth 100000
set_option maxHeartbeats 4000000
set_option linter.unusedSimpArgs false
set_option linter.unusedVariables false
namespace Go.Proofs.YtnpapnpedcbfnaaDoor
open Go.Ds Go.Vs
theorem XA_emp : Xemp XA where
  e29 := fun s v l h hr => by
    have : knA 29 [s, .int .i64 v, .int .i64 l] h = none := by
      show (rdI h s).map _ = none
      rw [hr]; rfl
    unfold Go.Proofs.YtnpapnpedcbfnaaDoor.XA
    rw [this]
  e31 := fun s v l h hr => by
    have : knA 31 [s, .int .i64 v, .int .i64 l] h = none := by
      show (rdI h s).map _ = none
      rw [hr]; rfl
    unfold Go.Proofs.YtnpapnpedcbfnaaDoor.XA
    rw [this]
  e27 := fun s h hr => by
    have : knA 27 [s] h = none := by
      show (rdI h s).map _ = none
      rw [hr]; rfl
    unfold Go.Proofs.YtnpapnpedcbfnaaDoor.XA
    rw [this]
theorem winsV_two (L : List Int) (v l : Int) : ∃ a b, winsV L v l = .tuple #[.bool a, .int .i64 b] := by
  unfold winsV
  split
  · exact ⟨_, _, rfl⟩
  · exact ⟨_, _, rfl⟩
theorem mvV_two (L : List Int) (v l : Int) : ∃ a b, mvV L v l = .tuple #[.int .i64 a, .int .i64 b] := by
  unfold mvV
  split
  · split
    · exact ⟨_, _, rfl⟩
    · exact ⟨_, _, rfl⟩
  · exact ⟨_, _, rfl⟩
theorem eqB_self (a : Bool) : (a == a) = true := by cases a <;> rfl
theorem gamesLaw_rets {X : Caller} (hX : Xok X) (hE : Xemp X) (L : List Int) (s : Value) (v l : Int) (g : GH) (hT : HasTab g) (hs : SlR g s (ints L)) :
    Rets Tryd.prog X 5 [s, .int .i64 v, .int .i64 l] g (fun u g' lo => g.next ≤ lo ∧ u = .bool true) := by
  have hl := hs.len
  rw [ints_len] at hl
  have hfew := fun g => few_rets hX.toXfr s (.slice none 0 0) _ 0 hl rfl g
  refine Rets.run hX.pres p5 (hX.free 5 (by decide) _ _) rfl fun ho => ?_
  simp +decide (disch := first | assumption | exact cellV_int _ _ | exact cellV_bool _ | omega | (simp only [GH.pn, GH.sn] <;> omega) | (with_reducible ((repeat (first | apply GH.ok_push | apply GH.ok_set)); assumption)) | ((try simp only [GH.push_hid, GH.set_hid]); first | assumption | (refine GH.vis ?_ ?_ <;> first | assumption | ((try simp only [GH.pn, GH.sn]) <;> omega)))) only [go_sem, ↓reduceIte, Nat.reduceEqDiff, Nat.reduceAdd, Int.reduceToNat, Int.reduceAdd, Int.reduceNeg, Int.reduceSub, Int.reduceMul, Int.reduceLT, Int.reduceLE, Int.reduceEq, ↓GH.gp_eq, ↓GH.gp_ne, ↓GH.gs_eq, ↓GH.gs_ne, GH.push_next, GH.set_next]
  refine CallD.calm (hfew g) ?_
  rintro u g1 hx1 rfl
  have hn1 := hx1.next
  have hT1 := hT.ext hx1
  cases hf : (decide (L.length ≤ 40) && decide (0 ≤ 40)) with
  | false =>
    simp +decide (disch := first | assumption | exact cellV_int _ _ | exact cellV_bool _ | omega | (simp only [GH.pn, GH.sn] <;> omega) | (with_reducible ((repeat (first | apply GH.ok_push | apply GH.ok_set)); assumption)) | ((try simp only [GH.push_hid, GH.set_hid]); first | assumption | (refine GH.vis ?_ ?_ <;> first | assumption | ((try simp only [GH.pn, GH.sn]) <;> omega)))) only [go_sem, ↓reduceIte, Nat.reduceEqDiff, Nat.reduceAdd, Int.reduceToNat, Int.reduceAdd, Int.reduceNeg, Int.reduceSub, Int.reduceMul, Int.reduceLT, Int.reduceLE, Int.reduceEq, ↓GH.gp_eq, ↓GH.gp_ne, ↓GH.gs_eq, ↓GH.gs_ne, GH.push_next, GH.set_next]
    refine CallD.calm (hX.alive g1 hT1) ?_
    rintro u g2 hx2 rfl
    have hn2 := hx2.next
    simp +decide (disch := first | assumption | exact cellV_int _ _ | exact cellV_bool _ | omega | (simp only [GH.pn, GH.sn] <;> omega) | (with_reducible ((repeat (first | apply GH.ok_push | apply GH.ok_set)); assumption)) | ((try simp only [GH.push_hid, GH.set_hid]); first | assumption | (refine GH.vis ?_ ?_ <;> first | assumption | ((try simp only [GH.pn, GH.sn]) <;> omega)))) only [go_sem, ↓reduceIte, Nat.reduceEqDiff, Nat.reduceAdd, Int.reduceToNat, Int.reduceAdd, Int.reduceNeg, Int.reduceSub, Int.reduceMul, Int.reduceLT, Int.reduceLE, Int.reduceEq, ↓GH.gp_eq, ↓GH.gp_ne, ↓GH.gs_eq, ↓GH.gs_ne, GH.push_next, GH.set_next]
    intro hx0
    exact ⟨by omega, rfl⟩
  | true =>
  rw [Bool.and_eq_true, decide_eq_true_eq, decide_eq_true_eq] at hf
  have w1 := wins29 hX hE L hf.1 s v l g1 (hs.ext hx1)
  have w2 := fun (G : GH) (hk : Kept g G) => refWins_rets hX.toXfr L hf.1 s v l G (hs.kept hk)
  have m1 := fun (G : GH) (hk : Kept g G) => move31 hX hE L hf.1 s v l G (hs.kept hk)
  have m2 := fun (G : GH) (hk : Kept g G) => refMove_rets hX.toXfr L hf.1 s v l G (hs.kept hk)
  obtain ⟨a, b, hab⟩ := winsV_two L v l
  obtain ⟨c, d, hcd⟩ := mvV_two L v l
  rw [hab] at w1
  simp only [hab] at w2
  simp only [hcd] at m1 m2
  simp +decide (disch := first | assumption | exact cellV_int _ _ | exact cellV_bool _ | omega | (simp only [GH.pn, GH.sn] <;> omega) | (with_reducible ((repeat (first | apply GH.ok_push | apply GH.ok_set)); assumption)) | ((try simp only [GH.push_hid, GH.set_hid]); first | assumption | (refine GH.vis ?_ ?_ <;> first | assumption | ((try simp only [GH.pn, GH.sn]) <;> omega)))) only [go_sem, ↓reduceIte, Nat.reduceEqDiff, Nat.reduceAdd, Int.reduceToNat, Int.reduceAdd, Int.reduceNeg, Int.reduceSub, Int.reduceMul, Int.reduceLT, Int.reduceLE, Int.reduceEq, ↓GH.gp_eq, ↓GH.gp_ne, ↓GH.gs_eq, ↓GH.gs_ne, GH.push_next, GH.set_next]
  refine CallD.calm w1 ?_
  rintro u g2 hx2 rfl
  have hn2 := hx2.next
  have hk2 : Kept g g2 := hx1.kept.ext hx2
  simp +decide (disch := first | assumption | exact cellV_int _ _ | exact cellV_bool _ | omega | (simp only [GH.pn, GH.sn] <;> omega) | (with_reducible ((repeat (first | apply GH.ok_push | apply GH.ok_set)); assumption)) | ((try simp only [GH.push_hid, GH.set_hid]); first | assumption | (refine GH.vis ?_ ?_ <;> first | assumption | ((try simp only [GH.pn, GH.sn]) <;> omega)))) only [go_sem, ↓reduceIte, Nat.reduceEqDiff, Nat.reduceAdd, Int.reduceToNat, Int.reduceAdd, Int.reduceNeg, Int.reduceSub, Int.reduceMul, Int.reduceLT, Int.reduceLE, Int.reduceEq, ↓GH.gp_eq, ↓GH.gp_ne, ↓GH.gs_eq, ↓GH.gs_ne, GH.push_next, GH.set_next, ext20, ext21]
  refine CallD.calm (w2 g2 hk2) ?_
  rintro u g3 hx3 rfl
  have hn3 := hx3.next
  have hk3 : Kept g g3 := hk2.ext hx3
  simp +decide (disch := first | assumption | exact cellV_int _ _ | exact cellV_bool _ | omega | (simp only [GH.pn, GH.sn] <;> omega) | (with_reducible ((repeat (first | apply GH.ok_push | apply GH.ok_set)); assumption)) | ((try simp only [GH.push_hid, GH.set_hid]); first | assumption | (refine GH.vis ?_ ?_ <;> first | assumption | ((try simp only [GH.pn, GH.sn]) <;> omega)))) only [go_sem, ↓reduceIte, Nat.reduceEqDiff, Nat.reduceAdd, Int.reduceToNat, Int.reduceAdd, Int.reduceNeg, Int.reduceSub, Int.reduceMul, Int.reduceLT, Int.reduceLE, Int.reduceEq, ↓GH.gp_eq, ↓GH.gp_ne, ↓GH.gs_eq, ↓GH.gs_ne, GH.push_next, GH.set_next, ext20, ext21, eqB_self]
  refine CallD.calm (m1 g3 hk3) ?_
  rintro u g4 hx4 rfl
  have hn4 := hx4.next
  have hk4 : Kept g g4 := hk3.ext hx4
  simp +decide (disch := first | assumption | exact cellV_int _ _ | exact cellV_bool _ | omega | (simp only [GH.pn, GH.sn] <;> omega) | (with_reducible ((repeat (first | apply GH.ok_push | apply GH.ok_set)); assumption)) | ((try simp only [GH.push_hid, GH.set_hid]); first | assumption | (refine GH.vis ?_ ?_ <;> first | assumption | ((try simp only [GH.pn, GH.sn]) <;> omega)))) only [go_sem, ↓reduceIte, Nat.reduceEqDiff, Nat.reduceAdd, Int.reduceToNat, Int.reduceAdd, Int.reduceNeg, Int.reduceSub, Int.reduceMul, Int.reduceLT, Int.reduceLE, Int.reduceEq, ↓GH.gp_eq, ↓GH.gp_ne, ↓GH.gs_eq, ↓GH.gs_ne, GH.push_next, GH.set_next, ext20, ext21]
  refine CallD.calm (m2 g4 hk4) ?_
  rintro u g5 hx5 rfl
  have hn5 := hx5.next
  have hk5 : Kept g g5 := hk4.ext hx5
  simp +decide (disch := first | assumption | exact cellV_int _ _ | exact cellV_bool _ | omega | (simp only [GH.pn, GH.sn] <;> omega) | (with_reducible ((repeat (first | apply GH.ok_push | apply GH.ok_set)); assumption)) | ((try simp only [GH.push_hid, GH.set_hid]); first | assumption | (refine GH.vis ?_ ?_ <;> first | assumption | ((try simp only [GH.pn, GH.sn]) <;> omega)))) only [go_sem, ↓reduceIte, Nat.reduceEqDiff, Nat.reduceAdd, Int.reduceToNat, Int.reduceAdd, Int.reduceNeg, Int.reduceSub, Int.reduceMul, Int.reduceLT, Int.reduceLE, Int.reduceEq, ↓GH.gp_eq, ↓GH.gp_ne, ↓GH.gs_eq, ↓GH.gs_ne, GH.push_next, GH.set_next, ext20, ext21]
  refine CallD.calm (hX.alive g5 (hT.kept hk5)) ?_
  rintro u g6 hx6 rfl
  have hn6 := hx6.next
  simp +decide (disch := first | assumption | exact cellV_int _ _ | exact cellV_bool _ | omega | (simp only [GH.pn, GH.sn] <;> omega) | (with_reducible ((repeat (first | apply GH.ok_push | apply GH.ok_set)); assumption)) | ((try simp only [GH.push_hid, GH.set_hid]); first | assumption | (refine GH.vis ?_ ?_ <;> first | assumption | ((try simp only [GH.pn, GH.sn]) <;> omega)))) only [go_sem, ↓reduceIte, Nat.reduceEqDiff, Nat.reduceAdd, Int.reduceToNat, Int.reduceAdd, Int.reduceNeg, Int.reduceSub, Int.reduceMul, Int.reduceLT, Int.reduceLE, Int.reduceEq, ↓GH.gp_eq, ↓GH.gp_ne, ↓GH.gs_eq, ↓GH.gs_ne, GH.push_next, GH.set_next]
  intro hx0
  exact ⟨by omega, rfl⟩
end Go.Proofs.YtnpapnpedcbfnaaDoor
set_option maxRecDepth 100000
set_option maxHeartbeats 4000000
set_option linter.unusedSimpArgs false
set_option linter.unusedVariables false
namespace Go.Proofs.YtnpapnpedcbfnaaDoor
open Go.Ds Go.Vs
theorem add_or {x k : Nat} (h : x < 2 ^ k) : x + 2 ^ k = x ||| 2 ^ k := by
  have e := Nat.two_pow_add_eq_or_of_lt h 1
  rw [Nat.mul_one] at e
  rw [Nat.add_comm, e, Nat.or_comm]
theorem most_rets {X : Caller} (hX : Xfr X) (L : List Int) (hL : shopB L = true) (s : Value) (left : Nat) (hleft : left < 2 ^ L.length) (g : GH) (hs : SlR g s (ints L)) :
    Rets Tryd.prog X 47 [s, .int .i64 (left : Nat)] g (fun v g' lo => g.next ≤ lo ∧ v = .int .i64 (best (setF L) L.length left : Nat)) := by
  obtain ⟨hL1, hL10, hA⟩ := shop_ok hL
  have hl := hs.len
  rw [ints_len] at hl
  have hN1024 : 2 ^ L.length ≤ 1024 := Nat.pow_le_pow_right (by decide) hL10
  have hsh := shl_i (k := L.length) (by omega)
  have hbl : ∀ i, i ≠ 0 → i < 2 ^ L.length → low i < L.length := fun i h1 h2 => low_lt h1 h2
  obtain ⟨N, hNe⟩ : ∃ N, 2 ^ L.length = N := ⟨_, rfl⟩
  have hAb := fun i hi => (hA i hi).2.2.1
  rw [hNe] at hA hsh hleft hN1024 hbl
  obtain ⟨A, hAe⟩ : ∃ A, setF L = A := ⟨_, rfl⟩
  rw [hAe] at hA hAb ⊢
  refine Rets.run hX.pres p47 (hX.free 47 (by decide) _ _) rfl fun ho => ?_
  simp +decide (disch := first | assumption | exact cellV_int _ _ | exact cellV_bool _ | omega | (simp only [GH.pn, GH.sn] <;> omega) | (with_reducible ((repeat (first | apply GH.ok_push | apply GH.ok_set)); assumption)) | ((try simp only [GH.push_hid, GH.set_hid]); first | assumption | (refine GH.vis ?_ ?_ <;> first | assumption | ((try simp only [GH.pn, GH.sn]) <;> omega)))) only [go_sem, ↓reduceIte, Nat.reduceEqDiff, Nat.reduceAdd, Int.reduceToNat, Int.reduceAdd, Int.reduceNeg, Int.reduceSub, Int.reduceMul, Int.reduceLT, Int.reduceLE, Int.reduceEq, ↓GH.gp_eq, ↓GH.gp_ne, ↓GH.gs_eq, ↓GH.gs_ne, GH.push_next, GH.set_next, hl, hsh]
  refine Wk.mkslice (n := N) (c := N) (by simp +decide (disch := first | assumption | exact cellV_int _ _ | exact cellV_bool _ | omega | (simp only [GH.pn, GH.sn] <;> omega) | (with_reducible ((repeat (first | apply GH.ok_push | apply GH.ok_set)); assumption)) | ((try simp only [GH.push_hid, GH.set_hid]); first | assumption | (refine GH.vis ?_ ?_ <;> first | assumption | ((try simp only [GH.pn, GH.sn]) <;> omega)))) only [go_sem, ↓reduceIte, Nat.reduceEqDiff, Nat.reduceAdd, Int.reduceToNat, Int.reduceAdd, Int.reduceNeg, Int.reduceSub, Int.reduceMul, Int.reduceLT, Int.reduceLE, Int.reduceEq, ↓GH.gp_eq, ↓GH.gp_ne, ↓GH.gs_eq, ↓GH.gs_ne, GH.push_next, GH.set_next, hsh]; first | done | exact rfl) (by simp +decide (disch := first | assumption | exact cellV_int _ _ | exact cellV_bool _ | omega | (simp only [GH.pn, GH.sn] <;> omega) | (with_reducible ((repeat (first | apply GH.ok_push | apply GH.ok_set)); assumption)) | ((try simp only [GH.push_hid, GH.set_hid]); first | assumption | (refine GH.vis ?_ ?_ <;> first | assumption | ((try simp only [GH.pn, GH.sn]) <;> omega)))) only [go_sem, ↓reduceIte, Nat.reduceEqDiff, Nat.reduceAdd, Int.reduceToNat, Int.reduceAdd, Int.reduceNeg, Int.reduceSub, Int.reduceMul, Int.reduceLT, Int.reduceLE, Int.reduceEq, ↓GH.gp_eq, ↓GH.gp_ne, ↓GH.gs_eq, ↓GH.gs_ne, GH.push_next, GH.set_next, hsh]; first | done | exact rfl) (Nat.le_refl _) (by omega) ?_
  simp +decide (disch := first | assumption | exact cellV_int _ _ | exact cellV_bool _ | omega | (simp only [GH.pn, GH.sn] <;> omega) | (with_reducible ((repeat (first | apply GH.ok_push | apply GH.ok_set)); assumption)) | ((try simp only [GH.push_hid, GH.set_hid]); first | assumption | (refine GH.vis ?_ ?_ <;> first | assumption | ((try simp only [GH.pn, GH.sn]) <;> omega)))) only [go_sem, ↓reduceIte, Nat.reduceEqDiff, Nat.reduceAdd, Int.reduceToNat, Int.reduceAdd, Int.reduceNeg, Int.reduceSub, Int.reduceMul, Int.reduceLT, Int.reduceLE, Int.reduceEq, ↓GH.gp_eq, ↓GH.gp_ne, ↓GH.gs_eq, ↓GH.gs_ne, GH.push_next, GH.set_next, hl, hsh]
  obtain ⟨J, hJ⟩ : ∃ J, g.next = J := ⟨_, rfl⟩
  rw [hJ]
  have hJ0 : g.next ≤ J := by omega
  refine Wk.loops (fun m e g' lo => g.next ≤ lo ∧ Kept g g' ∧ J < g'.next ∧ ∃ i : Nat, i + m = left + 1 ∧ 1 ≤ i ∧ (ev e (.s 0) = s ∧ ev e (.s 1) = .int .i64 (left : Nat) ∧ ev e (.s 5) = .slice (some ⟨J, 0, none⟩) N N ∧ ev e (.s 6) = .int .i64 (i : Nat)) ∧ ∃ T : List Int, g'.get J = cellsOb (ints T) 3 ∧ T.length = N ∧ ∀ j, j < i → T.getD j 0 = (best A L.length j : Int))
    (fun e g' lo => g.next ≤ lo ∧ J < g'.next ∧ (ev e (.s 1) = .int .i64 (left : Nat) ∧ ev e (.s 5) = .slice (some ⟨J, 0, none⟩) N N) ∧ ∃ T : List Int, g'.get J = cellsOb (ints T) 3 ∧ T.length = N ∧ T.getD left 0 = (best A L.length left : Int)) (n := left) ?_ ?_ ?_
  · refine ⟨by omega, (Kept.refl g).push ho _, by rw [← hJ]; exact Nat.lt_succ_self _, 1, by omega, Nat.le_refl _, (by simp +decide (disch := first | assumption | (apply GH.ok_push; assumption) | exact cellV_int _ _ | exact cellV_bool _ | omega) only [go_sem, ↓reduceIte, Nat.reduceEqDiff, Nat.reduceAdd, Int.reduceToNat]; first | done | exact rfl), List.replicate N 0, ?_, by simp, fun j hj => ?_⟩
    · rw [GH.get_push ho, if_pos hJ, repeatN_ints]
    · rw [show j = 0 by omega, best_zero, List.getD_eq_getElem?_getD, List.getElem?_replicate]
      split <;> rfl
  · rintro e g' lo hog hlg ⟨hlo, hnx, he, T, hget, hTl, hT⟩
    have hp := iaddrS_at (j := J) (n := N) (c := N) (m := left) (x := (left : Nat)) rfl hleft
    have hc : (ints T)[left]? = some (.int .i64 (best A L.length left : Nat)) := by rw [ints_get (by omega), hT]
    simp +decide (disch := first | assumption | exact cellV_int _ _ | exact cellV_bool _ | omega | (simp only [GH.pn, GH.sn] <;> omega) | (with_reducible ((repeat (first | apply GH.ok_push | apply GH.ok_set)); assumption)) | ((try simp only [GH.push_hid, GH.set_hid]); first | assumption | (refine GH.vis ?_ ?_ <;> first | assumption | ((try simp only [GH.pn, GH.sn]) <;> omega)))) only [go_sem, ↓reduceIte, Nat.reduceEqDiff, Nat.reduceAdd, Int.reduceToNat, Int.reduceAdd, Int.reduceNeg, Int.reduceSub, Int.reduceMul, Int.reduceLT, Int.reduceLE, Int.reduceEq, ↓GH.gp_eq, ↓GH.gp_ne, ↓GH.gs_eq, ↓GH.gs_ne, GH.push_next, GH.set_next, he, hp, hget, hc]
    intro hx0
    exact ⟨by omega, rfl⟩
  · rintro m e g' lo ho' hl' ih out ⟨hlo, hk, hnx, i, hi, hi1, he, T, hget, hTl, hTb⟩
    have hkn := hk.next
    by_cases ci : i ≤ left
    case neg =>
      have ci' : ¬ (i : Int) ≤ left := by omega
      simp +decide (disch := first | assumption | exact cellV_int _ _ | exact cellV_bool _ | omega | (simp only [GH.pn, GH.sn] <;> omega) | (with_reducible ((repeat (first | apply GH.ok_push | apply GH.ok_set)); assumption)) | ((try simp only [GH.push_hid, GH.set_hid]); first | assumption | (refine GH.vis ?_ ?_ <;> first | assumption | ((try simp only [GH.pn, GH.sn]) <;> omega)))) only [go_sem, ↓reduceIte, Nat.reduceEqDiff, Nat.reduceAdd, Int.reduceToNat, Int.reduceAdd, Int.reduceNeg, Int.reduceSub, Int.reduceMul, Int.reduceLT, Int.reduceLE, Int.reduceEq, ↓GH.gp_eq, ↓GH.gp_ne, ↓GH.gs_eq, ↓GH.gs_ne, GH.push_next, GH.set_next, he, ci']
      exact out _ _ _ ⟨hlo, hnx, (by simp +decide (disch := first | assumption | (apply GH.ok_push; assumption) | exact cellV_int _ _ | exact cellV_bool _ | omega) only [go_sem, ↓reduceIte, Nat.reduceEqDiff, Nat.reduceAdd, Int.reduceToNat, he]; first | done | exact rfl), T, hget, hTl, hTb left (by omega)⟩
    have ci' : (i : Int) ≤ left := by omega
    have hi0 : i ≠ 0 := by omega
    have hlow := hbl i hi0 (by omega)
    have hlb := low_bit hi0
    have hll := fun j => @low_least i j hi0
    have hsub := bit_sub (low i) hlb
    have hbe := best_eq A L.length hi0
    have hAl := hA (low i) hlow
    have hAll := hAb (low i) hlow
    have hdb := del_bit i (low i)
    have hslo := shl_i (k := low i) (by omega)
    have htlo := two_lt (k := low i) (by omega)
    obtain ⟨w, hw⟩ : ∃ w, low i = w := ⟨_, rfl⟩
    rw [hw] at hlow hlb hll hsub hbe hAl hAll hdb hslo htlo
    obtain ⟨R, hR⟩ : ∃ R, del i w = R := ⟨_, rfl⟩
    rw [hR] at hsub hbe hdb
    obtain ⟨tp, htp⟩ : ∃ tp, 2 ^ w = tp := ⟨_, rfl⟩
    rw [htp] at hsub hslo htlo
    have htp0 : 0 < tp := by rw [← htp]; exact Nat.two_pow_pos _
    simp +decide (disch := first | assumption | exact cellV_int _ _ | exact cellV_bool _ | omega | (simp only [GH.pn, GH.sn] <;> omega) | (with_reducible ((repeat (first | apply GH.ok_push | apply GH.ok_set)); assumption)) | ((try simp only [GH.push_hid, GH.set_hid]); first | assumption | (refine GH.vis ?_ ?_ <;> first | assumption | ((try simp only [GH.pn, GH.sn]) <;> omega)))) only [go_sem, ↓reduceIte, Nat.reduceEqDiff, Nat.reduceAdd, Int.reduceToNat, Int.reduceAdd, Int.reduceNeg, Int.reduceSub, Int.reduceMul, Int.reduceLT, Int.reduceLE, Int.reduceEq, ↓GH.gp_eq, ↓GH.gp_ne, ↓GH.gs_eq, ↓GH.gs_ne, GH.push_next, GH.set_next, he, ci']
    refine Wk.loops (fun m' e' g'' lo' => g'' = g' ∧ g.next ≤ lo' ∧ ∃ p : Nat, p + m' = w ∧ (ev e' (.s 0) = s ∧ ev e' (.s 1) = .int .i64 (left : Nat) ∧ ev e' (.s 5) = .slice (some ⟨J, 0, none⟩) N N ∧ ev e' (.s 6) = .int .i64 (i : Nat) ∧ ev e' (.s 7) = .int .i64 (p : Nat)))
      (fun e' g'' lo' => g'' = g' ∧ g.next ≤ lo' ∧ (ev e' (.s 0) = s ∧ ev e' (.s 1) = .int .i64 (left : Nat) ∧ ev e' (.s 5) = .slice (some ⟨J, 0, none⟩) N N ∧ ev e' (.s 6) = .int .i64 (i : Nat) ∧ ev e' (.s 7) = .int .i64 (w : Nat))) (n := w) ?_ ?_ ?_
    · exact ⟨rfl, hlo, 0, by omega, (by simp +decide (disch := first | assumption | (apply GH.ok_push; assumption) | exact cellV_int _ _ | exact cellV_bool _ | omega) only [go_sem, ↓reduceIte, Nat.reduceEqDiff, Nat.reduceAdd, Int.reduceToNat, he]; first | done | exact rfl)⟩
    · rintro e' g'' lo' - - ⟨rfl, hlo', he'⟩
      have hRi : R < i := by omega
      have hpa := iaddrS_at (j := J) (n := N) (c := N) (m := R) (x := (i : Int) - (tp : Int)) (by omega) (by omega)
      have hpb := iaddrS_at (j := J) (n := N) (c := N) (m := i) (x := (i : Nat)) rfl (by omega)
      have hcell : (ints T)[R]? = some (.int .i64 (best A L.length R : Nat)) := by rw [ints_get (by omega), hTb _ hRi]
      have hlenT : (ints T).length = N := by rw [ints_len, hTl]
      simp +decide (disch := first | assumption | exact cellV_int _ _ | exact cellV_bool _ | omega | (simp only [GH.pn, GH.sn] <;> omega) | (with_reducible ((repeat (first | apply GH.ok_push | apply GH.ok_set)); assumption)) | ((try simp only [GH.push_hid, GH.set_hid]); first | assumption | (refine GH.vis ?_ ?_ <;> first | assumption | ((try simp only [GH.pn, GH.sn]) <;> omega)))) only [go_sem, ↓reduceIte, Nat.reduceEqDiff, Nat.reduceAdd, Int.reduceToNat, Int.reduceAdd, Int.reduceNeg, Int.reduceSub, Int.reduceMul, Int.reduceLT, Int.reduceLE, Int.reduceEq, ↓GH.gp_eq, ↓GH.gp_ne, ↓GH.gs_eq, ↓GH.gs_ne, GH.push_next, GH.set_next, he', hslo, hpa, hpb, hget, hcell, hlenT, hl]
      have hw1 := Wrote.set (o := cellsOb (splice i (ints T) [.int .i64 (best A L.length R : Nat)]) 3) hget Nat.one_ne_zero ho'
      have hkw := hw1.kept hk hJ0
      have hgw := hw1.get.trans (congrArg (fun z => cellsOb z 3) (show splice i (ints T) [.int .i64 (best A L.length R : Nat)] = ints (T.set i (best A L.length R : Nat)) by rw [splice_set _ _ _ (by rw [hlenT]; omega), ints_set]))
      have hnw := hw1.next
      refine Wk.loops (fun m' e' g' lo' => g.next ≤ lo' ∧ Kept g g' ∧ J < g'.next ∧ ∃ k : Nat, k + m' = L.length ∧ (ev e' (.s 0) = s ∧ ev e' (.s 1) = .int .i64 (left : Nat) ∧ ev e' (.s 5) = .slice (some ⟨J, 0, none⟩) N N ∧ ev e' (.s 6) = .int .i64 (i : Nat) ∧ ev e' (.s 7) = .int .i64 (w : Nat) ∧ ev e' (.s 8) = .int .i64 (k : Nat)) ∧ ∃ T : List Int, g'.get J = cellsOb (ints T) 3 ∧ T.length = N ∧ (∀ j, j < i → T.getD j 0 = (best A L.length j : Int)) ∧ T.getD i 0 = (mxs (fun k => (R &&& A w).testBit k) (fun k => best A L.length (del R k) + 1) (best A L.length R) k : Nat))
        (fun e' g' lo' => g.next ≤ lo' ∧ Kept g g' ∧ J < g'.next ∧ (ev e' (.s 0) = s ∧ ev e' (.s 1) = .int .i64 (left : Nat) ∧ ev e' (.s 5) = .slice (some ⟨J, 0, none⟩) N N ∧ ev e' (.s 6) = .int .i64 (i : Nat)) ∧ ∃ T : List Int, g'.get J = cellsOb (ints T) 3 ∧ T.length = N ∧ ∀ j, j < i + 1 → T.getD j 0 = (best A L.length j : Int)) (n := L.length) ?_ ?_ ?_
      · refine ⟨by omega, hkw, by omega, 0, by omega, (by simp +decide (disch := first | assumption | (apply GH.ok_push; assumption) | exact cellV_int _ _ | exact cellV_bool _ | omega) only [go_sem, ↓reduceIte, Nat.reduceEqDiff, Nat.reduceAdd, Int.reduceToNat, he']; first | done | exact rfl), _, hgw, by simp [hTl], fun j hj => ?_, ?_⟩
        · rw [getD_set _ _ _ _ (by omega), if_neg (by omega)]; exact hTb j hj
        · rw [getD_set _ _ _ _ (by omega), if_pos rfl]; rfl
      · rintro e2 g2 lo2 - - ⟨hlo2, hk2, hnx2, he2, T2, hget2, hTl2, hTb2⟩
        simp +decide (disch := first | assumption | exact cellV_int _ _ | exact cellV_bool _ | omega | (simp only [GH.pn, GH.sn] <;> omega) | (with_reducible ((repeat (first | apply GH.ok_push | apply GH.ok_set)); assumption)) | ((try simp only [GH.push_hid, GH.set_hid]); first | assumption | (refine GH.vis ?_ ?_ <;> first | assumption | ((try simp only [GH.pn, GH.sn]) <;> omega)))) only [go_sem, ↓reduceIte, Nat.reduceEqDiff, Nat.reduceAdd, Int.reduceToNat, Int.reduceAdd, Int.reduceNeg, Int.reduceSub, Int.reduceMul, Int.reduceLT, Int.reduceLE, Int.reduceEq, ↓GH.gp_eq, ↓GH.gp_ne, ↓GH.gs_eq, ↓GH.gs_ne, GH.push_next, GH.set_next, he2]
        exact ih (m - 1) _ _ _ (by omega) ⟨hlo2, hk2, hnx2, i + 1, by omega, by omega, (by simp +decide (disch := first | assumption | (apply GH.ok_push; assumption) | exact cellV_int _ _ | exact cellV_bool _ | omega) only [go_sem, ↓reduceIte, Nat.reduceEqDiff, Nat.reduceAdd, Int.reduceToNat, he2]; first | done | exact rfl), T2, hget2, hTl2, hTb2⟩
      · rintro m2 e2 g2 lo2 ho2 hl2 ih2 out2 ⟨hlo2, hk2, hnx2, k, hkm, he2, T2, hget2, hTl2, hTb2, hTi2⟩
        have hkn2 := hk2.next
        by_cases ck : k < L.length
        case neg =>
          have ck' : ¬ (k : Int) < L.length := by omega
          simp +decide (disch := first | assumption | exact cellV_int _ _ | exact cellV_bool _ | omega | (simp only [GH.pn, GH.sn] <;> omega) | (with_reducible ((repeat (first | apply GH.ok_push | apply GH.ok_set)); assumption)) | ((try simp only [GH.push_hid, GH.set_hid]); first | assumption | (refine GH.vis ?_ ?_ <;> first | assumption | ((try simp only [GH.pn, GH.sn]) <;> omega)))) only [go_sem, ↓reduceIte, Nat.reduceEqDiff, Nat.reduceAdd, Int.reduceToNat, Int.reduceAdd, Int.reduceNeg, Int.reduceSub, Int.reduceMul, Int.reduceLT, Int.reduceLE, Int.reduceEq, ↓GH.gp_eq, ↓GH.gp_ne, ↓GH.gs_eq, ↓GH.gs_ne, GH.push_next, GH.set_next, he2, hl, ck']
          have : k = L.length := by omega
          subst this
          rw [← hbe] at hTi2
          refine out2 _ _ _ ⟨hlo2, hk2, hnx2, (by simp +decide (disch := first | assumption | (apply GH.ok_push; assumption) | exact cellV_int _ _ | exact cellV_bool _ | omega) only [go_sem, ↓reduceIte, Nat.reduceEqDiff, Nat.reduceAdd, Int.reduceToNat, he2]; first | done | exact rfl), T2, hget2, hTl2, fun j hj => ?_⟩
          rcases Nat.lt_succ_iff_lt_or_eq.1 hj with c | c
          · exact hTb2 j c
          · rw [c]; exact hTi2
        have ck' : (k : Int) < L.length := by omega
        have n1 : ¬ (k : Int) < 0 := by omega
        obtain ⟨j2, o2, hj2, hq1, hq2⟩ := (hs.kept hk2).ptr (ints_get (D := L) (i := w) hlow)
        have hq1 := hq1 (w : Int) rfl
        rw [hAl.1] at hq2
        have hAw := hAl.2.1
        have hand := and_i (a := A w) (b := i) (by omega) (by omega)
        have r1 := shr_fact ((A w &&& i : Nat) : Int) k (by omega)
        have r2 := rem_nat (A w &&& i) k
        have hbit : (R &&& A w).testBit k = (A w &&& i).testBit k := by
          rw [Nat.testBit_and, Nat.testBit_and, hdb]
          by_cases c : k = w
          · rw [c, hAll]; simp
          · rw [decide_eq_false c, Bool.not_false, Bool.and_true, Bool.and_comm]
        rw [← hbit] at r2
        cases cb : (R &&& A w).testBit k with
        | false =>
          rw [cb] at r2
          have r2' : (((A w &&& i : Nat) : Int) / 2 ^ k).tmod 2 = 0 := r2
          simp +decide (disch := first | assumption | exact cellV_int _ _ | exact cellV_bool _ | omega | (simp only [GH.pn, GH.sn] <;> omega) | (with_reducible ((repeat (first | apply GH.ok_push | apply GH.ok_set)); assumption)) | ((try simp only [GH.push_hid, GH.set_hid]); first | assumption | (refine GH.vis ?_ ?_ <;> first | assumption | ((try simp only [GH.pn, GH.sn]) <;> omega)))) only [go_sem, ↓reduceIte, Nat.reduceEqDiff, Nat.reduceAdd, Int.reduceToNat, Int.reduceAdd, Int.reduceNeg, Int.reduceSub, Int.reduceMul, Int.reduceLT, Int.reduceLE, Int.reduceEq, ↓GH.gp_eq, ↓GH.gp_ne, ↓GH.gs_eq, ↓GH.gs_ne, GH.push_next, GH.set_next, he2, hl, ck', hq1, hq2, hand, ib_shr n1, r1, r2']
          refine ih2 (m2 - 1) _ _ _ (by omega) ⟨hlo2, hk2, hnx2, k + 1, by omega, (by simp +decide (disch := first | assumption | (apply GH.ok_push; assumption) | exact cellV_int _ _ | exact cellV_bool _ | omega) only [go_sem, ↓reduceIte, Nat.reduceEqDiff, Nat.reduceAdd, Int.reduceToNat, he2]; first | done | exact rfl), T2, hget2, hTl2, hTb2, ?_⟩
          rw [hTi2, mxs, cb]; rfl
        | true =>
          rw [cb] at r2
          have r2' : (((A w &&& i : Nat) : Int) / 2 ^ k).tmod 2 = 1 := r2
          have hkR : R.testBit k = true := by rw [Nat.testBit_and, Bool.and_eq_true] at cb; exact cb.1
          have hsubk := bit_sub k hkR
          have hsk := shl_i (k := k) (by omega)
          have htk := two_lt (k := k) (by omega)
          have hlenT2 : (ints T2).length = N := by rw [ints_len, hTl2]
          have hDi : del R k < i := Nat.lt_of_le_of_lt (del_le R k) hRi
          have hbs := best_small A L.length (del R k)
          have hmz : mxs (fun k => (R &&& A w).testBit k) (fun k => best A L.length (del R k) + 1) (best A L.length R) (k + 1) = max (mxs (fun k => (R &&& A w).testBit k) (fun k => best A L.length (del R k) + 1) (best A L.length R) k) (best A L.length (del R k) + 1) := by
            rw [mxs, if_pos cb]
          have hci : (ints T2)[i]? = some (.int .i64 (mxs (fun k => (R &&& A w).testBit k) (fun k => best A L.length (del R k) + 1) (best A L.length R) k : Nat)) := by
            rw [ints_get (by omega), hTi2]
          have hcd : (ints T2)[del R k]? = some (.int .i64 (best A L.length (del R k) : Nat)) := by
            rw [ints_get (by omega), hTb2 _ hDi]
          generalize mxs (fun k => (R &&& A w).testBit k) (fun k => best A L.length (del R k) + 1) (best A L.length R) k = mk at *
          generalize hBk : best A L.length (del R k) = bk at *
          obtain ⟨tk, htke⟩ : ∃ tk, 2 ^ k = tk := ⟨_, rfl⟩
          rw [htke] at hsubk hsk htk
          obtain ⟨D, hD⟩ : ∃ D, del R k = D := ⟨_, rfl⟩
          rw [hD] at hsubk hDi hcd hbs
          have hmx := mx_ints (mk : Int) ((bk : Int) + 1)
          have hpd := iaddrS_at (j := J) (n := N) (c := N) (m := D) (x := (i : Int) - (tp : Int) - (tk : Int)) (by omega) (by omega)
          simp +decide (disch := first | assumption | exact cellV_int _ _ | exact cellV_bool _ | omega | (simp only [GH.pn, GH.sn] <;> omega) | (with_reducible ((repeat (first | apply GH.ok_push | apply GH.ok_set)); assumption)) | ((try simp only [GH.push_hid, GH.set_hid]); first | assumption | (refine GH.vis ?_ ?_ <;> first | assumption | ((try simp only [GH.pn, GH.sn]) <;> omega)))) only [go_sem, ↓reduceIte, Nat.reduceEqDiff, Nat.reduceAdd, Int.reduceToNat, Int.reduceAdd, Int.reduceNeg, Int.reduceSub, Int.reduceMul, Int.reduceLT, Int.reduceLE, Int.reduceEq, ↓GH.gp_eq, ↓GH.gp_ne, ↓GH.gs_eq, ↓GH.gs_ne, GH.push_next, GH.set_next, he2, hl, ck', hq1, hq2, hand, ib_shr n1, r1, r2', hslo, hsk, hpb, hpd, hget2, hci, hcd, hmx, hlenT2]
          have hw5 := Wrote.set (o := cellsOb (splice i (ints T2) [.int .i64 (if (mk : Int) < (bk : Int) + 1 then (bk : Int) + 1 else mk)]) 3) hget2 Nat.one_ne_zero ho2
          have hg5 := hw5.get.trans (congrArg (fun z => cellsOb z 3) (show splice i (ints T2) [.int .i64 (if (mk : Int) < (bk : Int) + 1 then (bk : Int) + 1 else mk)] = ints (T2.set i (if (mk : Int) < (bk : Int) + 1 then (bk : Int) + 1 else mk)) by rw [splice_set _ _ _ (by rw [hlenT2]; omega), ints_set]))
          refine ih2 (m2 - 1) _ _ _ (by omega) ⟨by omega, hw5.kept hk2 hJ0, by rw [hw5.next]; omega, k + 1, by omega, (by simp +decide (disch := first | assumption | (apply GH.ok_push; assumption) | exact cellV_int _ _ | exact cellV_bool _ | omega) only [go_sem, ↓reduceIte, Nat.reduceEqDiff, Nat.reduceAdd, Int.reduceToNat, he2]; first | done | exact rfl), _, hg5, by simp [hTl2], fun j hj => ?_, ?_⟩
          · rw [getD_set _ _ _ _ (by omega), if_neg (by omega)]; exact hTb2 j hj
          · rw [getD_set _ _ _ _ (by omega), if_pos rfl, hmz]
            split <;> omega
    · rintro m' e' g'' lo' ho'' hl'' ih' out' ⟨rfl, hlo', p, hpm, he'⟩
      have n1 : ¬ (p : Int) < 0 := by omega
      have r1 := shr_fact ((i : Nat) : Int) p (by omega)
      have r2 := rem_nat i p
      by_cases cp : p < w
      · rw [hll p cp] at r2
        have r2' : ((i : Int) / 2 ^ p).tmod 2 = 0 := r2
        simp +decide (disch := first | assumption | exact cellV_int _ _ | exact cellV_bool _ | omega | (simp only [GH.pn, GH.sn] <;> omega) | (with_reducible ((repeat (first | apply GH.ok_push | apply GH.ok_set)); assumption)) | ((try simp only [GH.push_hid, GH.set_hid]); first | assumption | (refine GH.vis ?_ ?_ <;> first | assumption | ((try simp only [GH.pn, GH.sn]) <;> omega)))) only [go_sem, ↓reduceIte, Nat.reduceEqDiff, Nat.reduceAdd, Int.reduceToNat, Int.reduceAdd, Int.reduceNeg, Int.reduceSub, Int.reduceMul, Int.reduceLT, Int.reduceLE, Int.reduceEq, ↓GH.gp_eq, ↓GH.gp_ne, ↓GH.gs_eq, ↓GH.gs_ne, GH.push_next, GH.set_next, he', ib_shr n1, r1, r2']
        exact ih' (m' - 1) _ _ _ (by omega) ⟨rfl, hlo', p + 1, by omega, (by simp +decide (disch := first | assumption | (apply GH.ok_push; assumption) | exact cellV_int _ _ | exact cellV_bool _ | omega) only [go_sem, ↓reduceIte, Nat.reduceEqDiff, Nat.reduceAdd, Int.reduceToNat, he']; first | done | exact rfl)⟩
      · have : p = w := by omega
        subst this
        rw [hlb] at r2
        have r2' : ((i : Int) / 2 ^ p).tmod 2 = 1 := r2
        simp +decide (disch := first | assumption | exact cellV_int _ _ | exact cellV_bool _ | omega | (simp only [GH.pn, GH.sn] <;> omega) | (with_reducible ((repeat (first | apply GH.ok_push | apply GH.ok_set)); assumption)) | ((try simp only [GH.push_hid, GH.set_hid]); first | assumption | (refine GH.vis ?_ ?_ <;> first | assumption | ((try simp only [GH.pn, GH.sn]) <;> omega)))) only [go_sem, ↓reduceIte, Nat.reduceEqDiff, Nat.reduceAdd, Int.reduceToNat, Int.reduceAdd, Int.reduceNeg, Int.reduceSub, Int.reduceMul, Int.reduceLT, Int.reduceLE, Int.reduceEq, ↓GH.gp_eq, ↓GH.gp_ne, ↓GH.gs_eq, ↓GH.gs_ne, GH.push_next, GH.set_next, he', ib_shr n1, r1, r2']
        exact out' _ _ _ ⟨rfl, hlo', (by simp +decide (disch := first | assumption | (apply GH.ok_push; assumption) | exact cellV_int _ _ | exact cellV_bool _ | omega) only [go_sem, ↓reduceIte, Nat.reduceEqDiff, Nat.reduceAdd, Int.reduceToNat, he']; first | done | exact rfl)⟩
end Go.Proofs.YtnpapnpedcbfnaaDoor
set_option maxRecDepth 100000
set_option maxHeartbeats 4000000
set_option linter.unusedSimpArgs false
set_option linter.unusedVariables false
namespace Go.Proofs.YtnpapnpedcbfnaaDoor
open Go.Ds Go.Vs
def needW (L : List Int) : Value := if shopB L = true then needV L else .tuple #[.int .i64 0, eArg]
theorem needed25 {X : Caller} (hX : Xok X) (L : List Int) (hL : L.length ≤ 40) (s : Value) (g : GH) (hT : HasTab g) (hs : SlR g s (ints L)) :
    Rets Tryd.prog X 25 [s] g (fun v g' lo => g.next ≤ lo ∧ v = needW L) := by
  unfold needW
  cases hz : shopB L with
  | true =>
    rw [if_pos rfl]
    exact needed_rets hX L hz s g hT hs
  | false =>
    rw [if_neg (by simp)]
    have hsh := IsShop_rets hX.toXfr L hL s g hs
    rw [hz] at hsh
    refine Rets.run hX.pres p25 (hX.free 25 (by decide) _ _) rfl fun ho => ?_
    simp +decide (disch := first | assumption | exact cellV_int _ _ | exact cellV_bool _ | omega | (simp only [GH.pn, GH.sn] <;> omega) | (with_reducible ((repeat (first | apply GH.ok_push | apply GH.ok_set)); assumption)) | ((try simp only [GH.push_hid, GH.set_hid]); first | assumption | (refine GH.vis ?_ ?_ <;> first | assumption | ((try simp only [GH.pn, GH.sn]) <;> omega)))) only [go_sem, ↓reduceIte, Nat.reduceEqDiff, Nat.reduceAdd, Int.reduceToNat, Int.reduceAdd, Int.reduceNeg, Int.reduceSub, Int.reduceMul, Int.reduceLT, Int.reduceLE, Int.reduceEq, ↓GH.gp_eq, ↓GH.gp_ne, ↓GH.gs_eq, ↓GH.gs_ne, GH.push_next, GH.set_next]
    refine CallD.calm hsh ?_
    rintro v g1 hx1 rfl
    have hn1 := hx1.next
    simp +decide (disch := first | assumption | exact cellV_int _ _ | exact cellV_bool _ | omega | (simp only [GH.pn, GH.sn] <;> omega) | (with_reducible ((repeat (first | apply GH.ok_push | apply GH.ok_set)); assumption)) | ((try simp only [GH.push_hid, GH.set_hid]); first | assumption | (refine GH.vis ?_ ?_ <;> first | assumption | ((try simp only [GH.pn, GH.sn]) <;> omega)))) only [go_sem, ↓reduceIte, Nat.reduceEqDiff, Nat.reduceAdd, Int.reduceToNat, Int.reduceAdd, Int.reduceNeg, Int.reduceSub, Int.reduceMul, Int.reduceLT, Int.reduceLE, Int.reduceEq, ↓GH.gp_eq, ↓GH.gp_ne, ↓GH.gs_eq, ↓GH.gs_ne, GH.push_next, GH.set_next]
    intro hx0
    exact ⟨by omega, rfl⟩
theorem refNeeded_rets {X : Caller} (hX : Xfr X) (L : List Int) (hL : L.length ≤ 40) (s : Value) (g : GH) (hs : SlR g s (ints L)) :
    Rets Tryd.prog X 26 [s] g (fun v g' lo => g.next ≤ lo ∧ v = needW L) := by
  have hl := hs.len
  rw [ints_len] at hl
  have hish := refIsShop_rets hX L hL s g hs
  generalize hr : needW L = r
  refine Rets.run hX.pres p26 (hX.free 26 (by decide) _ _) rfl fun ho => ?_
  simp +decide (disch := first | assumption | exact cellV_int _ _ | exact cellV_bool _ | omega | (simp only [GH.pn, GH.sn] <;> omega) | (with_reducible ((repeat (first | apply GH.ok_push | apply GH.ok_set)); assumption)) | ((try simp only [GH.push_hid, GH.set_hid]); first | assumption | (refine GH.vis ?_ ?_ <;> first | assumption | ((try simp only [GH.pn, GH.sn]) <;> omega)))) only [go_sem, ↓reduceIte, Nat.reduceEqDiff, Nat.reduceAdd, Int.reduceToNat, Int.reduceAdd, Int.reduceNeg, Int.reduceSub, Int.reduceMul, Int.reduceLT, Int.reduceLE, Int.reduceEq, ↓GH.gp_eq, ↓GH.gp_ne, ↓GH.gs_eq, ↓GH.gs_ne, GH.push_next, GH.set_next]
  refine CallD.calm hish ?_
  rintro v g1 hx1 rfl
  have hn1 := hx1.next
  cases hz : shopB L with
  | false =>
    simp +decide (disch := first | assumption | exact cellV_int _ _ | exact cellV_bool _ | omega | (simp only [GH.pn, GH.sn] <;> omega) | (with_reducible ((repeat (first | apply GH.ok_push | apply GH.ok_set)); assumption)) | ((try simp only [GH.push_hid, GH.set_hid]); first | assumption | (refine GH.vis ?_ ?_ <;> first | assumption | ((try simp only [GH.pn, GH.sn]) <;> omega)))) only [go_sem, ↓reduceIte, Nat.reduceEqDiff, Nat.reduceAdd, Int.reduceToNat, Int.reduceAdd, Int.reduceNeg, Int.reduceSub, Int.reduceMul, Int.reduceLT, Int.reduceLE, Int.reduceEq, ↓GH.gp_eq, ↓GH.gp_ne, ↓GH.gs_eq, ↓GH.gs_ne, GH.push_next, GH.set_next]
    intro hx0
    exact ⟨by omega, by rw [← hr, needW, hz]; rfl⟩
  | true =>
  have hr : r = .tuple #[.int .i64 (needF (setF L) L.length L.length : Nat), .int .i64 0] := by rw [← hr, needW, hz]; rfl
  obtain ⟨hL1, hL10, hA⟩ := shop_ok hz
  have hs1 := hs.ext hx1
  have hN1024 : 2 ^ L.length ≤ 1024 := Nat.pow_le_pow_right (by decide) hL10
  have hsh := shl_i (k := L.length) (by omega)
  have hal := all_lt L.length
  have hall : allN L.length = 2 ^ L.length - 1 := rfl
  have hdel := fun i => del_lt (s := allN L.length) (k := i) (n := L.length) hal
  have hbs := fun i (hi : i < L.length) => bit_sub (s := allN L.length) i (by rw [all_bit, decide_eq_true hi])
  have hmost := fun (G : GH) (hk : Kept g1 G) left (h : left < 2 ^ L.length) => most_rets hX L hz s left h G (hs1.kept hk)
  have hnl := fun i => needF_lt (setF L) L.length i
  have hps := fun i (h : i ≤ L.length) => Nat.pow_le_pow_right (n := 2) (by decide) h
  have hnd : ∀ i, needF (setF L) L.length (i + 1) = if best (setF L) L.length (del (allN L.length) i) < best (setF L) L.length (allN L.length) then needF (setF L) L.length i ||| 2 ^ i else needF (setF L) L.length i := fun _ => rfl
  have hN0 := Nat.two_pow_pos L.length
  obtain ⟨N, hNe⟩ : ∃ N, 2 ^ L.length = N := ⟨_, rfl⟩
  rw [hNe] at hsh hN1024 hal hall hmost hdel hN0
  have hps := fun i (h : i ≤ L.length) => hNe ▸ hps i h
  generalize allN L.length = all at *
  have hsub : (N : Int) - 1 = (all : Int) := by omega
  simp +decide (disch := first | assumption | exact cellV_int _ _ | exact cellV_bool _ | omega | (simp only [GH.pn, GH.sn] <;> omega) | (with_reducible ((repeat (first | apply GH.ok_push | apply GH.ok_set)); assumption)) | ((try simp only [GH.push_hid, GH.set_hid]); first | assumption | (refine GH.vis ?_ ?_ <;> first | assumption | ((try simp only [GH.pn, GH.sn]) <;> omega)))) only [go_sem, ↓reduceIte, Nat.reduceEqDiff, Nat.reduceAdd, Int.reduceToNat, Int.reduceAdd, Int.reduceNeg, Int.reduceSub, Int.reduceMul, Int.reduceLT, Int.reduceLE, Int.reduceEq, ↓GH.gp_eq, ↓GH.gp_ne, ↓GH.gs_eq, ↓GH.gs_ne, GH.push_next, GH.set_next, hl, hsh, hsub]
  refine Wk.loops (fun m e g' lo => g.next ≤ lo ∧ Kept g1 g' ∧ ∃ i : Nat, i + m = L.length ∧ (ev e (.s 0) = s ∧ ev e (.s 4) = .int .i64 (all : Nat) ∧ ev e (.s 5) = .int .i64 (needF (setF L) L.length i : Nat) ∧ ev e (.s 6) = .int .i64 (i : Nat)))
    (fun e g' lo => g.next ≤ lo ∧ ev e (.s 5) = .int .i64 (needF (setF L) L.length L.length : Nat)) (n := L.length) ?_ ?_ ?_
  · exact ⟨by omega, Kept.refl _, 0, by omega, (by simp +decide (disch := first | assumption | (apply GH.ok_push; assumption) | exact cellV_int _ _ | exact cellV_bool _ | omega) only [go_sem, ↓reduceIte, Nat.reduceEqDiff, Nat.reduceAdd, Int.reduceToNat]; first | done | exact rfl)⟩
  · rintro e g' lo hog hlg ⟨hlo, he⟩
    simp +decide (disch := first | assumption | exact cellV_int _ _ | exact cellV_bool _ | omega | (simp only [GH.pn, GH.sn] <;> omega) | (with_reducible ((repeat (first | apply GH.ok_push | apply GH.ok_set)); assumption)) | ((try simp only [GH.push_hid, GH.set_hid]); first | assumption | (refine GH.vis ?_ ?_ <;> first | assumption | ((try simp only [GH.pn, GH.sn]) <;> omega)))) only [go_sem, ↓reduceIte, Nat.reduceEqDiff, Nat.reduceAdd, Int.reduceToNat, Int.reduceAdd, Int.reduceNeg, Int.reduceSub, Int.reduceMul, Int.reduceLT, Int.reduceLE, Int.reduceEq, ↓GH.gp_eq, ↓GH.gp_ne, ↓GH.gs_eq, ↓GH.gs_ne, GH.push_next, GH.set_next, he]
    intro hx0
    exact ⟨hlo, by rw [hr]⟩
  · rintro m e g' lo ho' hl' ih out ⟨hlo, hk, i, hi, he⟩
    have hkn := hk.next
    by_cases ci : i < L.length
    case neg =>
      have ci' : ¬ (i : Int) < L.length := by omega
      simp +decide (disch := first | assumption | exact cellV_int _ _ | exact cellV_bool _ | omega | (simp only [GH.pn, GH.sn] <;> omega) | (with_reducible ((repeat (first | apply GH.ok_push | apply GH.ok_set)); assumption)) | ((try simp only [GH.push_hid, GH.set_hid]); first | assumption | (refine GH.vis ?_ ?_ <;> first | assumption | ((try simp only [GH.pn, GH.sn]) <;> omega)))) only [go_sem, ↓reduceIte, Nat.reduceEqDiff, Nat.reduceAdd, Int.reduceToNat, Int.reduceAdd, Int.reduceNeg, Int.reduceSub, Int.reduceMul, Int.reduceLT, Int.reduceLE, Int.reduceEq, ↓GH.gp_eq, ↓GH.gp_ne, ↓GH.gs_eq, ↓GH.gs_ne, GH.push_next, GH.set_next, he, hl, ci']
      have : i = L.length := by omega
      subst this
      exact out _ _ _ ⟨hlo, (by simp +decide (disch := first | assumption | (apply GH.ok_push; assumption) | exact cellV_int _ _ | exact cellV_bool _ | omega) only [go_sem, ↓reduceIte, Nat.reduceEqDiff, Nat.reduceAdd, Int.reduceToNat, he]; first | done | exact rfl)⟩
    have ci' : (i : Int) < L.length := by omega
    have hbi := hbs i ci
    have hdi := hdel i
    have hsi := shl_i (k := i) (by omega)
    have hti := two_lt (k := i) (by omega)
    have hni := hnl i
    have hpi := hps i (by omega)
    have hnx := hnd i
    have hao := add_or hni
    obtain ⟨D, hD⟩ : ∃ D, del all i = D := ⟨_, rfl⟩
    rw [hD] at hbi hdi hnx
    obtain ⟨ti, htie⟩ : ∃ ti, 2 ^ i = ti := ⟨_, rfl⟩
    rw [htie] at hbi hsi hti hni hpi hnx hao
    have hsb : (all : Int) - (ti : Int) = (D : Int) := by omega
    have m1 := hmost g' hk D hdi
    simp +decide (disch := first | assumption | exact cellV_int _ _ | exact cellV_bool _ | omega | (simp only [GH.pn, GH.sn] <;> omega) | (with_reducible ((repeat (first | apply GH.ok_push | apply GH.ok_set)); assumption)) | ((try simp only [GH.push_hid, GH.set_hid]); first | assumption | (refine GH.vis ?_ ?_ <;> first | assumption | ((try simp only [GH.pn, GH.sn]) <;> omega)))) only [go_sem, ↓reduceIte, Nat.reduceEqDiff, Nat.reduceAdd, Int.reduceToNat, Int.reduceAdd, Int.reduceNeg, Int.reduceSub, Int.reduceMul, Int.reduceLT, Int.reduceLE, Int.reduceEq, ↓GH.gp_eq, ↓GH.gp_ne, ↓GH.gs_eq, ↓GH.gs_ne, GH.push_next, GH.set_next, he, hl, ci', hsi, hsb]
    refine CallD.calm m1 ?_
    rintro v g3 hx3 rfl
    have hn3 := hx3.next
    have hk3 := hk.ext hx3
    have m2 := hmost g3 hk3 all hal
    simp +decide (disch := first | assumption | exact cellV_int _ _ | exact cellV_bool _ | omega | (simp only [GH.pn, GH.sn] <;> omega) | (with_reducible ((repeat (first | apply GH.ok_push | apply GH.ok_set)); assumption)) | ((try simp only [GH.push_hid, GH.set_hid]); first | assumption | (refine GH.vis ?_ ?_ <;> first | assumption | ((try simp only [GH.pn, GH.sn]) <;> omega)))) only [go_sem, ↓reduceIte, Nat.reduceEqDiff, Nat.reduceAdd, Int.reduceToNat, Int.reduceAdd, Int.reduceNeg, Int.reduceSub, Int.reduceMul, Int.reduceLT, Int.reduceLE, Int.reduceEq, ↓GH.gp_eq, ↓GH.gp_ne, ↓GH.gs_eq, ↓GH.gs_ne, GH.push_next, GH.set_next, he]
    refine CallD.calm m2 ?_
    rintro v g4 hx4 rfl
    have hn4 := hx4.next
    have hk4 := hk3.ext hx4
    by_cases ce : best (setF L) L.length D < best (setF L) L.length all
    · have ce' : (best (setF L) L.length D : Int) < (best (setF L) L.length all : Int) := by omega
      rw [if_pos ce, ← hao] at hnx
      generalize needF (setF L) L.length i = ni at *
      simp +decide (disch := first | assumption | exact cellV_int _ _ | exact cellV_bool _ | omega | (simp only [GH.pn, GH.sn] <;> omega) | (with_reducible ((repeat (first | apply GH.ok_push | apply GH.ok_set)); assumption)) | ((try simp only [GH.push_hid, GH.set_hid]); first | assumption | (refine GH.vis ?_ ?_ <;> first | assumption | ((try simp only [GH.pn, GH.sn]) <;> omega)))) only [go_sem, ↓reduceIte, Nat.reduceEqDiff, Nat.reduceAdd, Int.reduceToNat, Int.reduceAdd, Int.reduceNeg, Int.reduceSub, Int.reduceMul, Int.reduceLT, Int.reduceLE, Int.reduceEq, ↓GH.gp_eq, ↓GH.gp_ne, ↓GH.gs_eq, ↓GH.gs_ne, GH.push_next, GH.set_next, he, hsi, ce']
      refine ih (m - 1) _ _ _ (by omega) ⟨hlo, hk4, i + 1, by omega, ?_⟩
      rw [hnx]
      exact (by simp +decide (disch := first | assumption | (apply GH.ok_push; assumption) | exact cellV_int _ _ | exact cellV_bool _ | omega) only [go_sem, ↓reduceIte, Nat.reduceEqDiff, Nat.reduceAdd, Int.reduceToNat, he]; first | done | exact rfl)
    · have ce' : ¬ (best (setF L) L.length D : Int) < (best (setF L) L.length all : Int) := by omega
      rw [if_neg ce] at hnx
      simp +decide (disch := first | assumption | exact cellV_int _ _ | exact cellV_bool _ | omega | (simp only [GH.pn, GH.sn] <;> omega) | (with_reducible ((repeat (first | apply GH.ok_push | apply GH.ok_set)); assumption)) | ((try simp only [GH.push_hid, GH.set_hid]); first | assumption | (refine GH.vis ?_ ?_ <;> first | assumption | ((try simp only [GH.pn, GH.sn]) <;> omega)))) only [go_sem, ↓reduceIte, Nat.reduceEqDiff, Nat.reduceAdd, Int.reduceToNat, Int.reduceAdd, Int.reduceNeg, Int.reduceSub, Int.reduceMul, Int.reduceLT, Int.reduceLE, Int.reduceEq, ↓GH.gp_eq, ↓GH.gp_ne, ↓GH.gs_eq, ↓GH.gs_ne, GH.push_next, GH.set_next, he, ce']
      refine ih (m - 1) _ _ _ (by omega) ⟨hlo, hk4, i + 1, by omega, ?_⟩
      rw [hnx]
      exact (by simp +decide (disch := first | assumption | (apply GH.ok_push; assumption) | exact cellV_int _ _ | exact cellV_bool _ | omega) only [go_sem, ↓reduceIte, Nat.reduceEqDiff, Nat.reduceAdd, Int.reduceToNat, he]; first | done | exact rfl)
theorem begF_lt (A : Nat → Nat) (n : Nat) : ∀ i, begF A n i < 2 ^ i
  | 0 => by unfold begF; decide
  | i + 1 => by
    have ih := begF_lt A n i
    unfold begF
    have hp : 2 ^ (i + 1) = 2 ^ i + 2 ^ i := by rw [Nat.pow_succ]; omega
    split
    · omega
    · exact Nat.or_lt_two_pow (by omega) (by have := Nat.two_pow_pos i; omega)
theorem refStarts_rets {X : Caller} (hX : Xfr X) (L : List Int) (hL : L.length ≤ 40) (s : Value) (g : GH) (hs : SlR g s (ints L)) :
    Rets Tryd.prog X 28 [s] g (fun u g' lo => g.next ≤ lo ∧ u = stV L) := by
  have hl := hs.len
  rw [ints_len] at hl
  have hish := refIsShop_rets hX L hL s g hs
  generalize hr : stV L = r
  refine Rets.run hX.pres p28 (hX.free 28 (by decide) _ _) rfl fun ho => ?_
  simp +decide (disch := first | assumption | exact cellV_int _ _ | exact cellV_bool _ | omega | (simp only [GH.pn, GH.sn] <;> omega) | (with_reducible ((repeat (first | apply GH.ok_push | apply GH.ok_set)); assumption)) | ((try simp only [GH.push_hid, GH.set_hid]); first | assumption | (refine GH.vis ?_ ?_ <;> first | assumption | ((try simp only [GH.pn, GH.sn]) <;> omega)))) only [go_sem, ↓reduceIte, Nat.reduceEqDiff, Nat.reduceAdd, Int.reduceToNat, Int.reduceAdd, Int.reduceNeg, Int.reduceSub, Int.reduceMul, Int.reduceLT, Int.reduceLE, Int.reduceEq, ↓GH.gp_eq, ↓GH.gp_ne, ↓GH.gs_eq, ↓GH.gs_ne, GH.push_next, GH.set_next]
  refine CallD.calm hish ?_
  rintro v g1 hx1 rfl
  have hn1 := hx1.next
  have hok1 := hx1.ok ho
  cases hz : shopB L with
  | false =>
    simp +decide (disch := first | assumption | exact cellV_int _ _ | exact cellV_bool _ | omega | (simp only [GH.pn, GH.sn] <;> omega) | (with_reducible ((repeat (first | apply GH.ok_push | apply GH.ok_set)); assumption)) | ((try simp only [GH.push_hid, GH.set_hid]); first | assumption | (refine GH.vis ?_ ?_ <;> first | assumption | ((try simp only [GH.pn, GH.sn]) <;> omega)))) only [go_sem, ↓reduceIte, Nat.reduceEqDiff, Nat.reduceAdd, Int.reduceToNat, Int.reduceAdd, Int.reduceNeg, Int.reduceSub, Int.reduceMul, Int.reduceLT, Int.reduceLE, Int.reduceEq, ↓GH.gp_eq, ↓GH.gp_ne, ↓GH.gs_eq, ↓GH.gs_ne, GH.push_next, GH.set_next]
    intro hx0
    exact ⟨by omega, by rw [← hr, stV, hz]; rfl⟩
  | true =>
  have hr : r = .tuple #[.int .i64 (begF (setF L) L.length L.length : Nat), .int .i64 0] := by rw [← hr, stV, hz]; rfl
  obtain ⟨hL1, hL10, hA⟩ := shop_ok hz
  have hP : 2 ^ L.length ≤ 1024 := Nat.pow_le_pow_right (by decide) hL10
  have hNb : L.length * 2 ^ L.length ≤ 10 * 1024 := Nat.mul_le_mul hL10 hP
  have hsh := shl_n hL10
  have hs1 := hs.ext hx1
  obtain ⟨J, hJ⟩ : ∃ J, g1.next = J := ⟨_, rfl⟩
  have hget : (g1.push (cellsOb (repeatN [Value.int .i64 0] (L.length * 2 ^ L.length)) 3)).get J = cellsOb (ints (List.replicate (L.length * 2 ^ L.length) 0)) 3 := by
    rw [GH.get_push hok1, if_pos hJ, repeatN_ints]
  have hrec := fun v l T g hv hl hk hJn hget hTl hTab => known_rets hX L hz s g1 hs1 J (by omega) _ v l T g rfl hv hl hk hJn hget hTl hTab
  have hfull : ∀ x, un L.length x ≤ L.length := fun x => by
    unfold un
    have := List.countP_le_length (p := fun k => !x.testBit k) (l := List.range L.length)
    rwa [List.length_range] at this
  have hnl := fun i => begF_lt (setF L) L.length i
  have hps := fun i (h : i < L.length) => Nat.pow_lt_pow_right (a := 2) (by decide) h
  have hnd : ∀ i, begF (setF L) L.length (i + 1) = if won (setF L) L.length (2 ^ i) i = true then begF (setF L) L.length i else begF (setF L) L.length i ||| 2 ^ i := fun _ => rfl
  obtain ⟨N, hN⟩ : ∃ N, L.length * 2 ^ L.length = N := ⟨_, rfl⟩
  have hAlen : ∀ {v l T T'}, AftM (setF L) L.length v l T T' → T'.length = N := fun h => by rw [h.len, hN]
  rw [hN] at hrec hget hsh hNb
  simp +decide (disch := first | assumption | exact cellV_int _ _ | exact cellV_bool _ | omega | (simp only [GH.pn, GH.sn] <;> omega) | (with_reducible ((repeat (first | apply GH.ok_push | apply GH.ok_set)); assumption)) | ((try simp only [GH.push_hid, GH.set_hid]); first | assumption | (refine GH.vis ?_ ?_ <;> first | assumption | ((try simp only [GH.pn, GH.sn]) <;> omega)))) only [go_sem, ↓reduceIte, Nat.reduceEqDiff, Nat.reduceAdd, Int.reduceToNat, Int.reduceAdd, Int.reduceNeg, Int.reduceSub, Int.reduceMul, Int.reduceLT, Int.reduceLE, Int.reduceEq, ↓GH.gp_eq, ↓GH.gp_ne, ↓GH.gs_eq, ↓GH.gs_ne, GH.push_next, GH.set_next, hl, hsh]
  refine Wk.mkslice (n := N) (c := N) (by simp +decide (disch := first | assumption | exact cellV_int _ _ | exact cellV_bool _ | omega | (simp only [GH.pn, GH.sn] <;> omega) | (with_reducible ((repeat (first | apply GH.ok_push | apply GH.ok_set)); assumption)) | ((try simp only [GH.push_hid, GH.set_hid]); first | assumption | (refine GH.vis ?_ ?_ <;> first | assumption | ((try simp only [GH.pn, GH.sn]) <;> omega)))) only [go_sem, ↓reduceIte, Nat.reduceEqDiff, Nat.reduceAdd, Int.reduceToNat, Int.reduceAdd, Int.reduceNeg, Int.reduceSub, Int.reduceMul, Int.reduceLT, Int.reduceLE, Int.reduceEq, ↓GH.gp_eq, ↓GH.gp_ne, ↓GH.gs_eq, ↓GH.gs_ne, GH.push_next, GH.set_next, hsh]; first | done | exact rfl) (by simp +decide (disch := first | assumption | exact cellV_int _ _ | exact cellV_bool _ | omega | (simp only [GH.pn, GH.sn] <;> omega) | (with_reducible ((repeat (first | apply GH.ok_push | apply GH.ok_set)); assumption)) | ((try simp only [GH.push_hid, GH.set_hid]); first | assumption | (refine GH.vis ?_ ?_ <;> first | assumption | ((try simp only [GH.pn, GH.sn]) <;> omega)))) only [go_sem, ↓reduceIte, Nat.reduceEqDiff, Nat.reduceAdd, Int.reduceToNat, Int.reduceAdd, Int.reduceNeg, Int.reduceSub, Int.reduceMul, Int.reduceLT, Int.reduceLE, Int.reduceEq, ↓GH.gp_eq, ↓GH.gp_ne, ↓GH.gs_eq, ↓GH.gs_ne, GH.push_next, GH.set_next, hsh]; first | done | exact rfl) (Nat.le_refl _) (by omega) ?_
  simp +decide (disch := first | assumption | exact cellV_int _ _ | exact cellV_bool _ | omega | (simp only [GH.pn, GH.sn] <;> omega) | (with_reducible ((repeat (first | apply GH.ok_push | apply GH.ok_set)); assumption)) | ((try simp only [GH.push_hid, GH.set_hid]); first | assumption | (refine GH.vis ?_ ?_ <;> first | assumption | ((try simp only [GH.pn, GH.sn]) <;> omega)))) only [go_sem, ↓reduceIte, Nat.reduceEqDiff, Nat.reduceAdd, Int.reduceToNat, Int.reduceAdd, Int.reduceNeg, Int.reduceSub, Int.reduceMul, Int.reduceLT, Int.reduceLE, Int.reduceEq, ↓GH.gp_eq, ↓GH.gp_ne, ↓GH.gs_eq, ↓GH.gs_ne, GH.push_next, GH.set_next, hl, hsh]
  rw [hJ]
  refine Wk.loops (fun m e g' lo => g.next ≤ lo ∧ Kept g1 g' ∧ J < g'.next ∧ ∃ k : Nat, k + m = L.length ∧ (ev e (.s 0) = s ∧ ev e (.s 4) = .slice (some ⟨J, 0, none⟩) N N ∧ ev e (.s 5) = .int .i64 (begF (setF L) L.length k : Nat) ∧ ev e (.s 6) = .int .i64 (k : Nat)) ∧ ∃ T, g'.get J = cellsOb (ints T) 3 ∧ T.length = N ∧ TabM (setF L) L.length T L.length)
    (fun e g' lo => g.next ≤ lo ∧ ev e (.s 5) = .int .i64 (begF (setF L) L.length L.length : Nat)) (n := L.length) ?_ ?_ ?_
  · exact ⟨by omega, (Kept.refl g1).push hok1 _, by rw [← hJ]; exact Nat.lt_succ_self _, 0, by omega, (by simp +decide (disch := first | assumption | (apply GH.ok_push; assumption) | exact cellV_int _ _ | exact cellV_bool _ | omega) only [go_sem, ↓reduceIte, Nat.reduceEqDiff, Nat.reduceAdd, Int.reduceToNat]; first | done | exact rfl), _, hget, by simp, TabM.zero _ _ _ _⟩
  · rintro e g' lo hog hlg ⟨hlo, he⟩
    simp +decide (disch := first | assumption | exact cellV_int _ _ | exact cellV_bool _ | omega | (simp only [GH.pn, GH.sn] <;> omega) | (with_reducible ((repeat (first | apply GH.ok_push | apply GH.ok_set)); assumption)) | ((try simp only [GH.push_hid, GH.set_hid]); first | assumption | (refine GH.vis ?_ ?_ <;> first | assumption | ((try simp only [GH.pn, GH.sn]) <;> omega)))) only [go_sem, ↓reduceIte, Nat.reduceEqDiff, Nat.reduceAdd, Int.reduceToNat, Int.reduceAdd, Int.reduceNeg, Int.reduceSub, Int.reduceMul, Int.reduceLT, Int.reduceLE, Int.reduceEq, ↓GH.gp_eq, ↓GH.gp_ne, ↓GH.gs_eq, ↓GH.gs_ne, GH.push_next, GH.set_next, he]
    intro hx0
    exact ⟨hlo, by rw [hr]⟩
  · rintro m e g' lo ho' hl' ih out ⟨hlo, hk, hJ', k, hkm, he, T, hget', hTl, hTab⟩
    by_cases ck : k < L.length
    case neg =>
      have ck' : ¬ (k : Int) < L.length := by omega
      simp +decide (disch := first | assumption | exact cellV_int _ _ | exact cellV_bool _ | omega | (simp only [GH.pn, GH.sn] <;> omega) | (with_reducible ((repeat (first | apply GH.ok_push | apply GH.ok_set)); assumption)) | ((try simp only [GH.push_hid, GH.set_hid]); first | assumption | (refine GH.vis ?_ ?_ <;> first | assumption | ((try simp only [GH.pn, GH.sn]) <;> omega)))) only [go_sem, ↓reduceIte, Nat.reduceEqDiff, Nat.reduceAdd, Int.reduceToNat, Int.reduceAdd, Int.reduceNeg, Int.reduceSub, Int.reduceMul, Int.reduceLT, Int.reduceLE, Int.reduceEq, ↓GH.gp_eq, ↓GH.gp_ne, ↓GH.gs_eq, ↓GH.gs_ne, GH.push_next, GH.set_next, he, hl, ck']
      have : k = L.length := by omega
      subst this
      exact out _ _ _ ⟨hlo, (by simp +decide (disch := first | assumption | (apply GH.ok_push; assumption) | exact cellV_int _ _ | exact cellV_bool _ | omega) only [go_sem, ↓reduceIte, Nat.reduceEqDiff, Nat.reduceAdd, Int.reduceToNat, he]; first | done | exact rfl)⟩
    have ck' : (k : Int) < L.length := by omega
    have hsi := shl_i (k := k) (by omega)
    have hti := two_lt (k := k) (by omega)
    have hni := hnl k
    have hnx := hnd k
    have hao := add_or hni
    have hrc := hrec (2 ^ k) k T g' (hps k ck) ck hk hJ' hget' hTl (hTab.mono (hfull _))
    simp +decide (disch := first | assumption | exact cellV_int _ _ | exact cellV_bool _ | omega | (simp only [GH.pn, GH.sn] <;> omega) | (with_reducible ((repeat (first | apply GH.ok_push | apply GH.ok_set)); assumption)) | ((try simp only [GH.push_hid, GH.set_hid]); first | assumption | (refine GH.vis ?_ ?_ <;> first | assumption | ((try simp only [GH.pn, GH.sn]) <;> omega)))) only [go_sem, ↓reduceIte, Nat.reduceEqDiff, Nat.reduceAdd, Int.reduceToNat, Int.reduceAdd, Int.reduceNeg, Int.reduceSub, Int.reduceMul, Int.reduceLT, Int.reduceLE, Int.reduceEq, ↓GH.gp_eq, ↓GH.gp_ne, ↓GH.gs_eq, ↓GH.gs_ne, GH.push_next, GH.set_next, he, hl, ck', hsi]
    refine CallD.call hrc ?_
    rintro u g2 lo2 hx2 ⟨hlo2, rfl, hok2, hk2, hJ2, T2, hget2, hA2⟩
    have hf2 := hA2.full hTab
    have hl2 := hAlen hA2
    clear hA2 hrc
    cases hw : won (setF L) L.length (2 ^ k) k with
    | true =>
      rw [hw, if_pos rfl] at hnx
      simp +decide (disch := first | assumption | exact cellV_int _ _ | exact cellV_bool _ | omega | (simp only [GH.pn, GH.sn] <;> omega) | (with_reducible ((repeat (first | apply GH.ok_push | apply GH.ok_set)); assumption)) | ((try simp only [GH.push_hid, GH.set_hid]); first | assumption | (refine GH.vis ?_ ?_ <;> first | assumption | ((try simp only [GH.pn, GH.sn]) <;> omega)))) only [go_sem, ↓reduceIte, Nat.reduceEqDiff, Nat.reduceAdd, Int.reduceToNat, Int.reduceAdd, Int.reduceNeg, Int.reduceSub, Int.reduceMul, Int.reduceLT, Int.reduceLE, Int.reduceEq, ↓GH.gp_eq, ↓GH.gp_ne, ↓GH.gs_eq, ↓GH.gs_ne, GH.push_next, GH.set_next, he]
      refine ih (m - 1) _ _ _ (by omega) ⟨by omega, hk2, hJ2, k + 1, by omega, ?_, T2, hget2, hl2, hf2⟩
      rw [hnx]
      exact (by simp +decide (disch := first | assumption | (apply GH.ok_push; assumption) | exact cellV_int _ _ | exact cellV_bool _ | omega) only [go_sem, ↓reduceIte, Nat.reduceEqDiff, Nat.reduceAdd, Int.reduceToNat, he]; first | done | exact rfl)
    | false =>
      rw [hw, if_neg (by simp), ← hao] at hnx
      generalize begF (setF L) L.length k = nk at *
      generalize 2 ^ k = tk at *
      simp +decide (disch := first | assumption | exact cellV_int _ _ | exact cellV_bool _ | omega | (simp only [GH.pn, GH.sn] <;> omega) | (with_reducible ((repeat (first | apply GH.ok_push | apply GH.ok_set)); assumption)) | ((try simp only [GH.push_hid, GH.set_hid]); first | assumption | (refine GH.vis ?_ ?_ <;> first | assumption | ((try simp only [GH.pn, GH.sn]) <;> omega)))) only [go_sem, ↓reduceIte, Nat.reduceEqDiff, Nat.reduceAdd, Int.reduceToNat, Int.reduceAdd, Int.reduceNeg, Int.reduceSub, Int.reduceMul, Int.reduceLT, Int.reduceLE, Int.reduceEq, ↓GH.gp_eq, ↓GH.gp_ne, ↓GH.gs_eq, ↓GH.gs_ne, GH.push_next, GH.set_next, he, hsi]
      refine ih (m - 1) _ _ _ (by omega) ⟨by omega, hk2, hJ2, k + 1, by omega, ?_, T2, hget2, hl2, hf2⟩
      rw [hnx]
      exact (by simp +decide (disch := first | assumption | (apply GH.ok_push; assumption) | exact cellV_int _ _ | exact cellV_bool _ | omega) only [go_sem, ↓reduceIte, Nat.reduceEqDiff, Nat.reduceAdd, Int.reduceToNat, he]; first | done | exact rfl)
theorem needW_two (L : List Int) : ∃ a b, needW L = .tuple #[.int .i64 a, .int .i64 b] := by
  unfold needW
  split
  · exact ⟨_, _, rfl⟩
  · exact ⟨_, _, rfl⟩
theorem stV_two (L : List Int) : ∃ a b, stV L = .tuple #[.int .i64 a, .int .i64 b] := by
  unfold stV
  split
  · exact ⟨_, _, rfl⟩
  · exact ⟨_, _, rfl⟩
theorem needsLaw_rets {X : Caller} (hX : Xok X) (hE : Xemp X) (L : List Int) (s : Value) (g : GH) (hT : HasTab g) (hs : SlR g s (ints L)) :
    Rets Tryd.prog X 4 [s] g (fun u g' lo => g.next ≤ lo ∧ u = .bool true) := by
  have hl := hs.len
  rw [ints_len] at hl
  have hfew := fun g => few_rets hX.toXfr s (.slice none 0 0) _ 0 hl rfl g
  refine Rets.run hX.pres p4 (hX.free 4 (by decide) _ _) rfl fun ho => ?_
  simp +decide (disch := first | assumption | exact cellV_int _ _ | exact cellV_bool _ | omega | (simp only [GH.pn, GH.sn] <;> omega) | (with_reducible ((repeat (first | apply GH.ok_push | apply GH.ok_set)); assumption)) | ((try simp only [GH.push_hid, GH.set_hid]); first | assumption | (refine GH.vis ?_ ?_ <;> first | assumption | ((try simp only [GH.pn, GH.sn]) <;> omega)))) only [go_sem, ↓reduceIte, Nat.reduceEqDiff, Nat.reduceAdd, Int.reduceToNat, Int.reduceAdd, Int.reduceNeg, Int.reduceSub, Int.reduceMul, Int.reduceLT, Int.reduceLE, Int.reduceEq, ↓GH.gp_eq, ↓GH.gp_ne, ↓GH.gs_eq, ↓GH.gs_ne, GH.push_next, GH.set_next]
  refine CallD.calm (hfew g) ?_
  rintro u g1 hx1 rfl
  have hn1 := hx1.next
  have hT1 := hT.ext hx1
  cases hf : (decide (L.length ≤ 40) && decide (0 ≤ 40)) with
  | false =>
    simp +decide (disch := first | assumption | exact cellV_int _ _ | exact cellV_bool _ | omega | (simp only [GH.pn, GH.sn] <;> omega) | (with_reducible ((repeat (first | apply GH.ok_push | apply GH.ok_set)); assumption)) | ((try simp only [GH.push_hid, GH.set_hid]); first | assumption | (refine GH.vis ?_ ?_ <;> first | assumption | ((try simp only [GH.pn, GH.sn]) <;> omega)))) only [go_sem, ↓reduceIte, Nat.reduceEqDiff, Nat.reduceAdd, Int.reduceToNat, Int.reduceAdd, Int.reduceNeg, Int.reduceSub, Int.reduceMul, Int.reduceLT, Int.reduceLE, Int.reduceEq, ↓GH.gp_eq, ↓GH.gp_ne, ↓GH.gs_eq, ↓GH.gs_ne, GH.push_next, GH.set_next]
    refine CallD.calm (hX.alive g1 hT1) ?_
    rintro u g2 hx2 rfl
    have hn2 := hx2.next
    simp +decide (disch := first | assumption | exact cellV_int _ _ | exact cellV_bool _ | omega | (simp only [GH.pn, GH.sn] <;> omega) | (with_reducible ((repeat (first | apply GH.ok_push | apply GH.ok_set)); assumption)) | ((try simp only [GH.push_hid, GH.set_hid]); first | assumption | (refine GH.vis ?_ ?_ <;> first | assumption | ((try simp only [GH.pn, GH.sn]) <;> omega)))) only [go_sem, ↓reduceIte, Nat.reduceEqDiff, Nat.reduceAdd, Int.reduceToNat, Int.reduceAdd, Int.reduceNeg, Int.reduceSub, Int.reduceMul, Int.reduceLT, Int.reduceLE, Int.reduceEq, ↓GH.gp_eq, ↓GH.gp_ne, ↓GH.gs_eq, ↓GH.gs_ne, GH.push_next, GH.set_next]
    intro hx0
    exact ⟨by omega, rfl⟩
  | true =>
  rw [Bool.and_eq_true, decide_eq_true_eq, decide_eq_true_eq] at hf
  have w1 := needed25 hX L hf.1 s g1 hT1 (hs.ext hx1)
  have w2 := fun (G : GH) (hk : Kept g G) => refNeeded_rets hX.toXfr L hf.1 s G (hs.kept hk)
  have m1 := fun (G : GH) (hk : Kept g G) => starts27 hX hE L hf.1 s G (hs.kept hk)
  have m2 := fun (G : GH) (hk : Kept g G) => refStarts_rets hX.toXfr L hf.1 s G (hs.kept hk)
  obtain ⟨a, b, hab⟩ := needW_two L
  obtain ⟨c, d, hcd⟩ := stV_two L
  rw [hab] at w1
  simp only [hab] at w2
  simp only [hcd] at m1 m2
  simp +decide (disch := first | assumption | exact cellV_int _ _ | exact cellV_bool _ | omega | (simp only [GH.pn, GH.sn] <;> omega) | (with_reducible ((repeat (first | apply GH.ok_push | apply GH.ok_set)); assumption)) | ((try simp only [GH.push_hid, GH.set_hid]); first | assumption | (refine GH.vis ?_ ?_ <;> first | assumption | ((try simp only [GH.pn, GH.sn]) <;> omega)))) only [go_sem, ↓reduceIte, Nat.reduceEqDiff, Nat.reduceAdd, Int.reduceToNat, Int.reduceAdd, Int.reduceNeg, Int.reduceSub, Int.reduceMul, Int.reduceLT, Int.reduceLE, Int.reduceEq, ↓GH.gp_eq, ↓GH.gp_ne, ↓GH.gs_eq, ↓GH.gs_ne, GH.push_next, GH.set_next]
  refine CallD.calm w1 ?_
  rintro u g2 hx2 rfl
  have hn2 := hx2.next
  have hk2 : Kept g g2 := hx1.kept.ext hx2
  simp +decide (disch := first | assumption | exact cellV_int _ _ | exact cellV_bool _ | omega | (simp only [GH.pn, GH.sn] <;> omega) | (with_reducible ((repeat (first | apply GH.ok_push | apply GH.ok_set)); assumption)) | ((try simp only [GH.push_hid, GH.set_hid]); first | assumption | (refine GH.vis ?_ ?_ <;> first | assumption | ((try simp only [GH.pn, GH.sn]) <;> omega)))) only [go_sem, ↓reduceIte, Nat.reduceEqDiff, Nat.reduceAdd, Int.reduceToNat, Int.reduceAdd, Int.reduceNeg, Int.reduceSub, Int.reduceMul, Int.reduceLT, Int.reduceLE, Int.reduceEq, ↓GH.gp_eq, ↓GH.gp_ne, ↓GH.gs_eq, ↓GH.gs_ne, GH.push_next, GH.set_next, ext20, ext21]
  refine CallD.calm (w2 g2 hk2) ?_
  rintro u g3 hx3 rfl
  have hn3 := hx3.next
  have hk3 : Kept g g3 := hk2.ext hx3
  simp +decide (disch := first | assumption | exact cellV_int _ _ | exact cellV_bool _ | omega | (simp only [GH.pn, GH.sn] <;> omega) | (with_reducible ((repeat (first | apply GH.ok_push | apply GH.ok_set)); assumption)) | ((try simp only [GH.push_hid, GH.set_hid]); first | assumption | (refine GH.vis ?_ ?_ <;> first | assumption | ((try simp only [GH.pn, GH.sn]) <;> omega)))) only [go_sem, ↓reduceIte, Nat.reduceEqDiff, Nat.reduceAdd, Int.reduceToNat, Int.reduceAdd, Int.reduceNeg, Int.reduceSub, Int.reduceMul, Int.reduceLT, Int.reduceLE, Int.reduceEq, ↓GH.gp_eq, ↓GH.gp_ne, ↓GH.gs_eq, ↓GH.gs_ne, GH.push_next, GH.set_next, ext20, ext21]
  refine CallD.calm (m1 g3 hk3) ?_
  rintro u g4 hx4 rfl
  have hn4 := hx4.next
  have hk4 : Kept g g4 := hk3.ext hx4
  simp +decide (disch := first | assumption | exact cellV_int _ _ | exact cellV_bool _ | omega | (simp only [GH.pn, GH.sn] <;> omega) | (with_reducible ((repeat (first | apply GH.ok_push | apply GH.ok_set)); assumption)) | ((try simp only [GH.push_hid, GH.set_hid]); first | assumption | (refine GH.vis ?_ ?_ <;> first | assumption | ((try simp only [GH.pn, GH.sn]) <;> omega)))) only [go_sem, ↓reduceIte, Nat.reduceEqDiff, Nat.reduceAdd, Int.reduceToNat, Int.reduceAdd, Int.reduceNeg, Int.reduceSub, Int.reduceMul, Int.reduceLT, Int.reduceLE, Int.reduceEq, ↓GH.gp_eq, ↓GH.gp_ne, ↓GH.gs_eq, ↓GH.gs_ne, GH.push_next, GH.set_next, ext20, ext21]
  refine CallD.calm (m2 g4 hk4) ?_
  rintro u g5 hx5 rfl
  have hn5 := hx5.next
  have hk5 : Kept g g5 := hk4.ext hx5
  simp +decide (disch := first | assumption | exact cellV_int _ _ | exact cellV_bool _ | omega | (simp only [GH.pn, GH.sn] <;> omega) | (with_reducible ((repeat (first | apply GH.ok_push | apply GH.ok_set)); assumption)) | ((try simp only [GH.push_hid, GH.set_hid]); first | assumption | (refine GH.vis ?_ ?_ <;> first | assumption | ((try simp only [GH.pn, GH.sn]) <;> omega)))) only [go_sem, ↓reduceIte, Nat.reduceEqDiff, Nat.reduceAdd, Int.reduceToNat, Int.reduceAdd, Int.reduceNeg, Int.reduceSub, Int.reduceMul, Int.reduceLT, Int.reduceLE, Int.reduceEq, ↓GH.gp_eq, ↓GH.gp_ne, ↓GH.gs_eq, ↓GH.gs_ne, GH.push_next, GH.set_next, ext20, ext21]
  refine CallD.calm (hX.alive g5 (hT.kept hk5)) ?_
  rintro u g6 hx6 rfl
  have hn6 := hx6.next
  simp +decide (disch := first | assumption | exact cellV_int _ _ | exact cellV_bool _ | omega | (simp only [GH.pn, GH.sn] <;> omega) | (with_reducible ((repeat (first | apply GH.ok_push | apply GH.ok_set)); assumption)) | ((try simp only [GH.push_hid, GH.set_hid]); first | assumption | (refine GH.vis ?_ ?_ <;> first | assumption | ((try simp only [GH.pn, GH.sn]) <;> omega)))) only [go_sem, ↓reduceIte, Nat.reduceEqDiff, Nat.reduceAdd, Int.reduceToNat, Int.reduceAdd, Int.reduceNeg, Int.reduceSub, Int.reduceMul, Int.reduceLT, Int.reduceLE, Int.reduceEq, ↓GH.gp_eq, ↓GH.gp_ne, ↓GH.gs_eq, ↓GH.gs_ne, GH.push_next, GH.set_next]
  intro hx0
  exact ⟨by omega, rfl⟩
end Go.Proofs.YtnpapnpedcbfnaaDoor
