import Derived.Test.YtieliilnnfjijaaK4
import Derived.Test.YtieliilnnfjijaaK1
set_option linter.all false
set_option linter.unusedSimpArgs false
set_option linter.unnecessarySimpa false
set_option linter.unusedVariables false
set_option linter.unusedSectionVars false
set_option maxRecDepth 100000
set_option maxHeartbeats 4000000
set_option linter.unusedSimpArgs false
set_option linter.unusedVariables false
namespace Go.Proofs.Ytieliilnnfjijaa
open Go.Ds
/-! ## Beads, descending -/
def Dsc (B : List Int) : Prop := B.Pairwise (fun a b => b < a) ∧ ∀ x ∈ B, 0 ≤ x
def tri : Nat → Int
  | 0 => 0
  | n + 1 => tri n + n
theorem Dsc.tail {x : Int} {B : List Int} (h : Dsc (x :: B)) : Dsc B := ⟨(List.pairwise_cons.1 h.1).2, fun y hy => h.2 y (List.mem_cons_of_mem _ hy)⟩
theorem Dsc.head {x : Int} {B : List Int} (h : Dsc (x :: B)) : ∀ y ∈ B, y < x := (List.pairwise_cons.1 h.1).1
theorem Dsc.cons {x : Int} {B : List Int} (h : Dsc B) (hx : ∀ y ∈ B, y < x) (h0 : 0 ≤ x) : Dsc (x :: B) :=
  ⟨List.pairwise_cons.2 ⟨hx, h.1⟩, fun y hy => by rcases List.mem_cons.1 hy with rfl | hy; exact h0; exact h.2 y hy⟩
theorem Dsc.nil : Dsc [] := ⟨List.Pairwise.nil, fun x hx => by cases hx⟩
theorem Dsc.len_le : ∀ {B : List Int} {x : Int}, Dsc (x :: B) → (B.length : Int) ≤ x
  | [], x, h => by have := h.2 x List.mem_cons_self; simp; omega
  | y :: B, x, h => by
    have := Dsc.len_le h.tail
    have := h.head y List.mem_cons_self
    simp only [List.length_cons]; push_cast; omega
theorem rowOf_zero (x : Int) (B : List Int) : rowOf (x :: B) 0 = x - B.length := by
  simp [rowOf] <;> omega
theorem rowOf_succ (x : Int) (B : List Int) (r : Nat) : rowOf (x :: B) (r + 1) = rowOf B r := by
  simp [rowOf]; omega
theorem rng_cons (n : Nat) (f : Nat → Int) : rng (n + 1) f = f 0 :: rng n (fun i => f (i + 1)) := by
  unfold rng
  rw [List.range_succ_eq_map, List.map_cons, List.map_map]; rfl
theorem shapeL_cons (x : Int) (B : List Int) : shapeL (x :: B) = (if 0 < x - B.length then [x - B.length] else []) ++ shapeL B := by
  unfold shapeL shapeK
  rw [List.length_cons, rng_cons, List.filter_cons, rowOf_zero]
  have : rng B.length (fun i => rowOf (x :: B) (i + 1)) = rng B.length (rowOf B) := rng_congr fun i _ => rowOf_succ x B i
  rw [this]
  simp only [decide_eq_true_eq]
  split <;> simp
theorem shapeL_nil : shapeL [] = [] := rfl
theorem shapeL_low : ∀ {B : List Int} {x : Int}, Dsc (x :: B) → x ≤ B.length → shapeL B = []
  | [], x, _, _ => rfl
  | y :: B, x, h, hx => by
    have h1 := h.head y List.mem_cons_self
    simp only [List.length_cons] at hx
    push_cast at hx
    rw [shapeL_cons, if_neg (by omega), shapeL_low h.tail (by omega)]; rfl
theorem shapeL_sum : ∀ {B : List Int}, Dsc B → sumL (shapeL B) = sumL B - tri B.length
  | [], _ => rfl
  | x :: B, h => by
    have h1 := h.len_le
    have ih := shapeL_sum h.tail
    rw [shapeL_cons, sumL_app, ih]
    simp only [List.length_cons, tri, sumL]
    split
    · simp only [sumL]; omega
    · simp only [sumL]; omega
theorem beadsR_cons (y : Int) (L : List Int) (n : Nat) : beadsR (y :: L) (n + 1) = (y + n) :: beadsR L n := by
  unfold beadsR
  rw [rng_cons]
  congr 1
  · simp; omega
  · refine rng_congr fun i _ => ?_
    simp; omega
theorem beadsR_nil_succ (n : Nat) : beadsR [] (n + 1) = (n : Int) :: beadsR [] n := by
  unfold beadsR
  rw [rng_cons]
  congr 1
  · simp <;> omega
  · refine rng_congr fun i _ => ?_
    simp <;> omega
theorem shapeL_back : ∀ {B : List Int}, Dsc B → beadsR (shapeL B) B.length = B
  | [], _ => rfl
  | x :: B, h => by
    have h1 := h.len_le
    have ih := shapeL_back h.tail
    rw [shapeL_cons, List.length_cons]
    by_cases c : 0 < x - (B.length : Int)
    · rw [if_pos c, List.singleton_append, beadsR_cons, ih]
      congr 1; omega
    · rw [if_neg c, List.nil_append, shapeL_low h (by omega), beadsR_nil_succ]
      rw [shapeL_low h (by omega)] at ih
      rw [ih]
      congr 1 <;> omega
theorem beadsR_nil_shape : ∀ n, shapeL (beadsR [] n) = []
  | 0 => rfl
  | n + 1 => by
    rw [beadsR_nil_succ, shapeL_cons, beadsR_len, if_neg (by omega), beadsR_nil_shape n]; rfl
theorem shapeL_beads : ∀ {L : List Int} {m : Int} {n : Nat}, desc m L = true → L.length ≤ n → shapeL (beadsR L n) = L
  | [], m, n, _, _ => beadsR_nil_shape n
  | y :: L, m, 0, _, h => by simp at h
  | y :: L, m, n + 1, hd, h => by
    simp only [desc, Bool.and_eq_true, decide_eq_true_eq] at hd
    rw [beadsR_cons, shapeL_cons, beadsR_len, if_pos (by omega), shapeL_beads hd.2 (by simpa using h), List.singleton_append]
    congr 1; omega
theorem beadsR_lt : ∀ {L : List Int} {m : Int} {n : Nat}, 0 ≤ m → desc m L = true → ∀ x ∈ beadsR L n, 0 ≤ x ∧ x < m + n
  | L, m, 0, _, _, x, hx => by simp [beadsR, rng] at hx
  | [], m, n + 1, h0, _, x, hx => by
    rw [beadsR_nil_succ] at hx
    rcases List.mem_cons.1 hx with rfl | hx
    · push_cast; omega
    · have := beadsR_lt (L := []) (m := m) (n := n) h0 rfl x hx
      push_cast; omega
  | y :: L, m, n + 1, h0, hd, x, hx => by
    simp only [desc, Bool.and_eq_true, decide_eq_true_eq] at hd
    rw [beadsR_cons] at hx
    rcases List.mem_cons.1 hx with rfl | hx
    · push_cast; omega
    · have := beadsR_lt (L := L) (m := y) (n := n) (by omega) hd.2 x hx
      push_cast; omega
theorem beadsR_dsc : ∀ {L : List Int} {m : Int} {n : Nat}, desc m L = true → Dsc (beadsR L n)
  | L, m, 0, _ => Dsc.nil
  | [], m, n + 1, _ => by
    rw [beadsR_nil_succ]
    refine Dsc.cons (beadsR_dsc (L := []) (m := m) rfl) (fun y hy => ?_) (by omega)
    have := beadsR_lt (L := []) (m := 0) (n := n) (by omega) rfl y hy
    omega
  | y :: L, m, n + 1, hd => by
    simp only [desc, Bool.and_eq_true, decide_eq_true_eq] at hd
    rw [beadsR_cons]
    refine Dsc.cons (beadsR_dsc hd.2) (fun x hx => ?_) (by omega)
    have := beadsR_lt (L := L) (m := y) (n := n) (by omega) hd.2 x hx
    omega
/-- The rows of a shape of beads descend. -/
theorem shapeL_desc : ∀ {B : List Int} {m : Int}, Dsc B → (∀ x ∈ B, x < m + B.length) → desc m (shapeL B) = true
  | [], m, _, _ => rfl
  | x :: B, m, h, hm => by
    have h1 := h.len_le
    have hx := hm x List.mem_cons_self
    simp only [List.length_cons] at hx
    push_cast at hx
    rw [shapeL_cons]
    by_cases c : 0 < x - (B.length : Int)
    · rw [if_pos c, List.singleton_append, desc]
      have ih := shapeL_desc (B := B) (m := x - B.length) h.tail fun y hy => by have := h.head y hy; omega
      rw [ih, Bool.and_true, Bool.and_eq_true, decide_eq_true_eq, decide_eq_true_eq]
      omega
    · rw [if_neg c, List.nil_append, shapeL_low h (by omega)]; rfl
theorem desc_mono : ∀ {L : List Int} {m m' : Int}, desc m L = true → (∀ x ∈ L, x ≤ m') → desc m' L = true
  | [], _, _, _, _ => rfl
  | x :: L, m, m', h, k => by
    simp only [desc, Bool.and_eq_true, decide_eq_true_eq] at h ⊢
    exact ⟨⟨h.1.1, k x List.mem_cons_self⟩, h.2⟩
theorem mem_le_sum : ∀ {L : List Int} {m : Int}, desc m L = true → ∀ x ∈ L, x ≤ sumL L
  | y :: L, m, h, x, hx => by
    simp only [desc, Bool.and_eq_true, decide_eq_true_eq] at h
    have h0 := sumL_nonneg h.2
    simp only [sumL]
    rcases List.mem_cons.1 hx with rfl | hx
    · omega
    · have := mem_le_sum h.2 x hx; omega
/-- A shape of few beads whose sum is small. -/
theorem shapeL_isShape {B : List Int} (h : Dsc B) (hn : B.length ≤ 12) (hs : sumL (shapeL B) ≤ 40) : isShape (shapeL B) = true := by
  obtain ⟨M, hM⟩ : ∃ M : Int, ∀ x ∈ B, x < M + B.length := by
    cases B with
    | nil => exact ⟨0, fun x hx => by cases hx⟩
    | cons y B =>
      refine ⟨y, fun x hx => ?_⟩
      simp only [List.length_cons]
      rcases List.mem_cons.1 hx with rfl | hx
      · push_cast; omega
      · have := h.head x hx; push_cast; omega
  have hd := shapeL_desc h hM
  have hd40 := desc_mono (m' := 40) hd fun x hx => by have := mem_le_sum hd x hx; omega
  have hl := shapeK_len B B.length
  unfold isShape
  rw [hd40, decide_eq_true (show (shapeL B).length ≤ 12 from Nat.le_trans hl hn), decide_eq_true hs]; rfl
theorem Dsc.ext : ∀ {A B : List Int}, Dsc A → Dsc B → (∀ x, x ∈ A ↔ x ∈ B) → A = B
  | [], [], _, _, _ => rfl
  | [], y :: B, _, _, h => by have := (h y).2 List.mem_cons_self; cases this
  | x :: A, [], _, _, h => by have := (h x).1 List.mem_cons_self; cases this
  | x :: A, y :: B, ha, hb, h => by
    have e : x = y := by
      have h1 := (h x).1 List.mem_cons_self
      have h2 := (h y).2 List.mem_cons_self
      rcases List.mem_cons.1 h1 with h1 | h1
      · exact h1
      · rcases List.mem_cons.1 h2 with h2 | h2
        · exact h2.symm
        · have := ha.head y h2; have := hb.head x h1; omega
    subst e
    congr 1
    refine Dsc.ext ha.tail hb.tail fun z => ?_
    have := h z
    simp only [List.mem_cons] at this
    constructor
    · intro hz
      have hne := ha.head z hz
      rcases this.1 (.inr hz) with q | q
      · omega
      · exact q
    · intro hz
      have hne := hb.head z hz
      rcases this.2 (.inr hz) with q | q
      · omega
      · exact q
theorem sortD_dsc {B : List Int} (hn : B.Nodup) (h0 : ∀ x ∈ B, 0 ≤ x) : Dsc (sortD B) := by
  refine ⟨?_, fun x hx => h0 x (sortD_mem.1 hx)⟩
  have hnd : (sortD B).Nodup := (sortD_perm B).nodup_iff.2 hn
  have hs := (sortD_srt B).pairwise
  have := List.Pairwise.and hs hnd
  refine this.imp ?_
  rintro a b ⟨h1, h2⟩
  have : b ≤ a := h1
  omega
theorem Dsc.nodup {B : List Int} (h : Dsc B) : B.Nodup := h.1.imp fun h e => by omega
theorem sortD_self {B : List Int} (h : Dsc B) : sortD B = B :=
  Dsc.ext (sortD_dsc h.nodup h.2) h fun x => sortD_mem
theorem sumL_perm {A B : List Int} (h : A.Perm B) : sumL A = sumL B := by
  induction h with
  | nil => rfl
  | cons x _ ih => simp only [sumL, ih]
  | swap x y l => simp only [sumL]; omega
  | trans _ _ h1 h2 => rw [h1, h2]
end Go.Proofs.Ytieliilnnfjijaa
set_option maxRecDepth 100000
set_option maxHeartbeats 4000000
set_option linter.unusedSimpArgs false
set_option linter.unusedVariables false
namespace Go.Proofs.Ytieliilnnfjijaa
open Go.Ds
theorem td {b : Int} (hb : 0 ≤ b) (t : Int) : b.tmod t = b % t ∧ b.tdiv t = b / t := ⟨Int.tmod_eq_emod_of_nonneg hb, Int.tdiv_eq_ediv_of_nonneg hb⟩
theorem five {T : Nat} (hT : 2 ≤ T ∧ T ≤ 6) : T = 2 ∨ T = 3 ∨ T = 4 ∨ T = 5 ∨ T = 6 := by omega
/-- Arithmetic on wires. -/
theorem ar_lt {T : Nat} (hT : 2 ≤ T ∧ T ≤ 6) {a b : Int} (ha : 0 ≤ a) (hb : 0 ≤ b) (h : b < a) (e : a.tmod T = b.tmod T) : b.tdiv T < a.tdiv T := by
  rw [(td ha _).1, (td hb _).1] at e
  rw [(td ha _).2, (td hb _).2]
  rcases five hT with rfl | rfl | rfl | rfl | rfl <;> omega
theorem ar_eq {T : Nat} (hT : 2 ≤ T ∧ T ≤ 6) {b : Int} {k : Nat} (hb : 0 ≤ b) (e : b.tmod T = k) : b = b.tdiv T * T + k ∧ 0 ≤ b.tdiv T := by
  rw [(td hb _).1] at e
  rw [(td hb _).2]
  rcases five hT with rfl | rfl | rfl | rfl | rfl <;> omega
theorem ar_at {T : Nat} (hT : 2 ≤ T ∧ T ≤ 6) {h : Int} {k : Nat} (h0 : 0 ≤ h) (hk : k < T) : (h * T + k).tmod T = (k : Int) ∧ (h * T + k).tdiv T = h ∧ 0 ≤ h * T + k := by
  have : 0 ≤ h * (T : Int) := Int.mul_nonneg h0 (Int.natCast_nonneg _)
  rw [(td (by omega) _).1, (td (by omega) _).2]
  rcases five hT with rfl | rfl | rfl | rfl | rfl <;> omega
theorem ar_down {T : Nat} (hT : 2 ≤ T ∧ T ≤ 6) {b : Int} (hb : (T : Int) ≤ b) : (b - T).tmod T = b.tmod T ∧ (b - T).tdiv T = b.tdiv T - 1 := by
  rw [(td (by omega) _).1, (td (by omega) _).2, (td (by omega) _).1, (td (by omega) _).2]
  rcases five hT with rfl | rfl | rfl | rfl | rfl <;> omega
theorem ar_up0 {T : Nat} (hT : 2 ≤ T ∧ T ≤ 6) {b : Int} (hb : 0 ≤ b) : ((b + 1).tmod T = ((0 : Nat) : Int) ↔ b.tmod T = ((T - 1 : Nat) : Int)) ∧ (b.tmod T = ((T - 1 : Nat) : Int) → (b + 1).tdiv T = b.tdiv T + 1) := by
  rw [(td (by omega) _).1, (td (by omega) _).2, (td (by omega) _).1, (td (by omega) _).2]
  rcases five hT with rfl | rfl | rfl | rfl | rfl <;> omega
theorem ar_up1 {T : Nat} (hT : 2 ≤ T ∧ T ≤ 6) {b : Int} {k : Nat} (hb : 0 ≤ b) (hk : k + 1 < T) : ((b + 1).tmod T = ((k + 1 : Nat) : Int) ↔ b.tmod T = (k : Int)) ∧ (b.tmod T = (k : Int) → (b + 1).tdiv T = b.tdiv T) := by
  rw [(td (by omega) _).1, (td (by omega) _).2, (td (by omega) _).1, (td (by omega) _).2]
  rcases five hT with rfl | rfl | rfl | rfl | rfl <;> omega
section
variable {T : Nat} (hT : 2 ≤ T ∧ T ≤ 6)
include hT
theorem wireL_dsc {B : List Int} (h : Dsc B) (k : Nat) : Dsc (wireL B T k) := by
  constructor
  · unfold wireL
    rw [List.pairwise_map]
    refine (h.1.filter _).imp_of_mem ?_
    intro a b ha hb hab
    simp only [List.mem_filter, decide_eq_true_eq] at ha hb
    exact ar_lt hT (h.2 a ha.1) (h.2 b hb.1) hab (by rw [ha.2, hb.2])
  · intro x hx
    simp only [wireL, List.mem_map, List.mem_filter, decide_eq_true_eq] at hx
    obtain ⟨b, ⟨hb, e⟩, rfl⟩ := hx
    exact (ar_eq hT (h.2 b hb) e).2
theorem mem_wire {B : List Int} (h : ∀ x ∈ B, 0 ≤ x) {k : Nat} (hk : k < T) {w : Int} (hw : 0 ≤ w) : w ∈ wireL B T k ↔ w * T + k ∈ B := by
  simp only [wireL, List.mem_map, List.mem_filter, decide_eq_true_eq]
  obtain ⟨a1, a2, a3⟩ := ar_at hT hw hk
  constructor
  · rintro ⟨b, ⟨hb, e⟩, rfl⟩
    rw [← (ar_eq hT (h b hb) e).1]; exact hb
  · intro hm
    exact ⟨_, ⟨hm, a1⟩, a2⟩
/-- Beads are told by their wires. -/
theorem wires_ext {A B : List Int} (ha : Dsc A) (hb : Dsc B) (h : ∀ k, k < T → wireL A T k = wireL B T k) : A = B := by
  refine Dsc.ext ha hb fun x => ?_
  have key : ∀ {A B : List Int}, Dsc A → Dsc B → (∀ k, k < T → wireL A T k = wireL B T k) → x ∈ A → x ∈ B := by
    intro A B ha hb h hx
    obtain ⟨k, e, hk, _⟩ := tmod_bnd (b := x) (T := T) (ha.2 x hx) (by omega)
    obtain ⟨q1, q2⟩ := ar_eq hT (ha.2 x hx) e
    have : x.tdiv T ∈ wireL A T k := (mem_wire hT ha.2 hk q2).2 (by rw [← q1]; exact hx)
    rw [h k hk] at this
    have := (mem_wire hT hb.2 hk q2).1 this
    rwa [← q1] at this
  exact ⟨key ha hb h, key hb ha fun k hk => (h k hk).symm⟩
end
theorem mem_zeros {h : Int} : ∀ {n : Nat}, h ∈ beadsR [] n ↔ 0 ≤ h ∧ h < n
  | 0 => by simp [beadsR, rng] <;> omega
  | n + 1 => by
    rw [beadsR_nil_succ, List.mem_cons, mem_zeros (n := n)]
    push_cast; omega
theorem zeros_dsc (n : Nat) : Dsc (beadsR [] n) := beadsR_dsc (L := []) (m := 0) rfl
theorem zeros_sum : ∀ n, sumL (beadsR [] n) = tri n
  | 0 => rfl
  | n + 1 => by rw [beadsR_nil_succ, sumL, zeros_sum n, tri]; omega
/-! ## What is on the wires -/
def termB (B : List Int) (T k : Nat) : Int := sumL (wireL B T k) - tri (wireL B T k).length
def valB (B : List Int) (T : Nat) : Int := sumL (rng T (termB B T))
theorem manyB_val {T : Nat} (hT : 2 ≤ T ∧ T ≤ 6) {B : List Int} (h : Dsc B) : manyB B T = valB B T := by
  unfold manyB blocksIn valB
  congr 1
  refine rng_congr fun k hk => ?_
  rw [wiresL_getD B hk, shapeL_sum (wireL_dsc hT h k)]; rfl
theorem sum_zero_of {n : Nat} {f : Nat → Int} (h0 : ∀ i, i < n → 0 ≤ f i) : 0 ≤ sumL (rng n f) ∧ (sumL (rng n f) = 0 ↔ ∀ i, i < n → f i = 0) := by
  induction n with
  | zero => simp [rng, sumL]
  | succ n ih =>
    obtain ⟨a, b⟩ := ih fun i hi => h0 i (by omega)
    rw [rng_succ, sumL_app]
    have := h0 n (by omega)
    simp only [sumL]
    refine ⟨by omega, ?_, ?_⟩
    · intro h i hi
      by_cases c : i = n
      · subst c; omega
      · exact b.1 (by omega) i (by omega)
    · intro h
      have h1 := b.2 fun i hi => h i (by omega)
      have h2 := h n (by omega)
      omega
theorem pos_sum_nil {m : Int} {L : List Int} (h : desc m L = true) (h0 : sumL L = 0) : L = [] := by
  cases L with
  | nil => rfl
  | cons x L =>
    simp only [desc, Bool.and_eq_true, decide_eq_true_eq] at h
    have := sumL_nonneg h.2
    simp only [sumL] at h0; omega
theorem shapeL_desc' {B : List Int} (h : Dsc B) : ∃ m, desc m (shapeL B) = true := by
  cases B with
  | nil => exact ⟨0, rfl⟩
  | cons y B =>
    refine ⟨y, shapeL_desc h fun x hx => ?_⟩
    simp only [List.length_cons]
    rcases List.mem_cons.1 hx with rfl | hx
    · push_cast; omega
    · have := h.head x hx; push_cast; omega
def Bottom (B : List Int) (T : Nat) : Prop := ∀ k, k < T → wireL B T k = beadsR [] (wireL B T k).length
section
variable {T : Nat} (hT : 2 ≤ T ∧ T ≤ 6)
include hT
theorem termB_nonneg {B : List Int} (h : Dsc B) (k : Nat) : 0 ≤ termB B T k ∧ (termB B T k = 0 ↔ wireL B T k = beadsR [] (wireL B T k).length) := by
  have hw := wireL_dsc hT h k
  obtain ⟨m, hm⟩ := shapeL_desc' hw
  have e : termB B T k = sumL (shapeL (wireL B T k)) := (shapeL_sum hw).symm
  refine ⟨by rw [e]; exact sumL_nonneg hm, ?_, ?_⟩
  · intro h0
    rw [e] at h0
    have := shapeL_back hw
    rw [pos_sum_nil hm h0] at this
    exact this.symm
  · intro h0
    rw [e, h0, beadsR_nil_shape]; rfl
theorem val_zero {B : List Int} (h : Dsc B) : 0 ≤ valB B T ∧ (valB B T = 0 ↔ Bottom B T) := by
  obtain ⟨a, b⟩ := sum_zero_of (n := T) (f := termB B T) fun i _ => (termB_nonneg hT h i).1
  exact ⟨a, b.trans ⟨fun q k hk => (termB_nonneg hT h k).2.1 (q k hk), fun q k hk => (termB_nonneg hT h k).2.2 (q k hk)⟩⟩
/-! ## The core's beads -/
theorem cores_nodup (B : List Int) : ∀ k, k ≤ T → (onK (coresL B T) T k).Nodup
  | 0, _ => List.nodup_nil
  | k + 1, hk => by
    rw [onK_succ, List.nodup_append]
    refine ⟨cores_nodup B k (by omega), ?_, ?_⟩
    · rw [coresL_getD B (by omega)]
      unfold onW
      rw [List.nodup_iff_pairwise_ne, List.pairwise_map]
      refine (zeros_dsc _).1.imp ?_
      intro a b hab e
      rcases five hT with rfl | rfl | rfl | rfl | rfl <;> omega
    · intro a ha b hb e
      obtain ⟨j, hj, h, hh, rfl⟩ := onK_mem.1 ha
      unfold onW at hb
      rw [List.mem_map] at hb
      obtain ⟨h', _, rfl⟩ := hb
      rcases five hT with rfl | rfl | rfl | rfl | rfl <;> omega
def coreS (B : List Int) (T : Nat) : List Int := sortD (onK (coresL B T) T T)
theorem coreS_mem {B : List Int} {x : Int} : x ∈ coreS B T ↔ ∃ j, j < T ∧ ∃ h : Int, (0 ≤ h ∧ h < (wireL B T j).length) ∧ x = h * T + j := by
  unfold coreS
  rw [sortD_mem, onK_mem]
  constructor
  · rintro ⟨j, hj, h, hh, e⟩
    rw [coresL_getD B hj, mem_zeros] at hh
    exact ⟨j, hj, h, hh, e⟩
  · rintro ⟨j, hj, h, hh, e⟩
    exact ⟨j, hj, h, by rw [coresL_getD B hj, mem_zeros]; exact hh, e⟩
theorem coreS_dsc (B : List Int) : Dsc (coreS B T) := by
  refine sortD_dsc (cores_nodup hT B T (Nat.le_refl _)) fun x hx => ?_
  obtain ⟨j, hj, h, hh, rfl⟩ := (coreS_mem hT).1 (sortD_mem.2 hx)
  exact (ar_at hT hh.1 hj).2.2
theorem coreS_wire (B : List Int) {k : Nat} (hk : k < T) : wireL (coreS B T) T k = beadsR [] (wireL B T k).length := by
  refine Dsc.ext (wireL_dsc hT (coreS_dsc hT B) k) (zeros_dsc _) fun w => ?_
  rw [mem_zeros]
  constructor
  · intro hw
    have h0 := (wireL_dsc hT (coreS_dsc hT B) k).2 w hw
    have := (mem_wire hT (coreS_dsc hT B).2 hk h0).1 hw
    obtain ⟨j, hj, h, hh, e⟩ := (coreS_mem hT).1 this
    obtain ⟨a1, a2, a3⟩ := ar_at hT h0 hk
    obtain ⟨b1, b2, b3⟩ := ar_at hT hh.1 hj
    rw [e] at a1 a2
    have : j = k := by omega
    subst this
    omega
  · rintro ⟨h0, h1⟩
    exact (mem_wire hT (coreS_dsc hT B).2 hk h0).2 ((coreS_mem hT).2 ⟨k, hk, w, ⟨h0, h1⟩, rfl⟩)
theorem coreS_len {B : List Int} (h : ∀ x ∈ B, 0 ≤ x) : (coreS B T).length = B.length := by
  unfold coreS
  rw [(sortD_perm _).length_eq, onK_cores_len B T T (Nat.le_refl _), wires_total (by omega) h]
theorem coreS_bottom (B : List Int) : Bottom (coreS B T) T := fun k hk => by rw [coreS_wire hT B hk, beadsR_len]
theorem bottom_core {B : List Int} (h : Dsc B) (hb : Bottom B T) : coreS B T = B :=
  wires_ext hT (coreS_dsc hT B) h fun k hk => by rw [coreS_wire hT B hk, ← hb k hk]
end
end Go.Proofs.Ytieliilnnfjijaa
set_option maxRecDepth 100000
set_option maxHeartbeats 4000000
set_option linter.unusedSimpArgs false
set_option linter.unusedVariables false
namespace Go.Proofs.Ytieliilnnfjijaa
open Go.Ds
theorem wireL_app (A B : List Int) (t : Int) (k : Nat) : wireL (A ++ B) t k = wireL A t k ++ wireL B t k := by
  simp [wireL, List.filter_append]
theorem wireL_perm {A B : List Int} (h : A.Perm B) (t : Int) (k : Nat) : (wireL A t k).Perm (wireL B t k) := (h.filter _).map _
theorem set_split {B : List Int} {i : Nat} (h : i < B.length) (x : Int) : B.set i x = B.take i ++ x :: B.drop (i + 1) := by
  rw [List.set_eq_take_append_cons_drop, if_pos h]
theorem self_split {B : List Int} {i : Nat} (h : i < B.length) : B = B.take i ++ B.getD i 0 :: B.drop (i + 1) := by
  conv => lhs; rw [← List.take_append_drop i B, List.drop_eq_getElem_cons h]
  rw [getD_get h]
theorem sumL_rng_sub (n : Nat) (f : Nat → Int) (c : Nat) (hc : c < n) : sumL (rng n (fun k => f k - (if c = k then 1 else 0))) = sumL (rng n f) - 1 := by
  induction n with
  | zero => omega
  | succ n ih =>
    rw [rng_succ, rng_succ, sumL_app, sumL_app]
    simp only [sumL]
    by_cases h : c = n
    · subst h
      rw [if_pos rfl]
      have : rng c (fun k => f k - if c = k then 1 else 0) = rng c f := rng_congr fun i hi => by rw [if_neg (by omega), Int.sub_zero]
      rw [this]; omega
    · rw [ih (by omega), if_neg h]; omega
section
variable {T : Nat} (hT : 2 ≤ T ∧ T ≤ 6)
include hT
/-- A bead moved down by one place on its wire. -/
theorem moved_wire {B : List Int} {i : Nat} (hi : i < B.length) (h0 : 0 ≤ B.getD i 0) (hb : (T : Int) ≤ B.getD i 0) (k : Nat) :
    (wireL (movedL B i T) T k).length = (wireL B T k).length ∧ sumL (wireL (movedL B i T) T k) = sumL (wireL B T k) - (if (B.getD i 0).tmod T = (k : Int) then 1 else 0) := by
  obtain ⟨e1, e2⟩ := ar_down hT hb
  have hB := self_split hi
  generalize hbx : B.getD i 0 = b at *
  have hM : movedL B i T = B.take i ++ (b - T) :: B.drop (i + 1) := by rw [movedL, hbx, set_split hi]
  have h1 : wireL (movedL B i T) T k = wireL (B.take i) T k ++ ((if b.tmod T = (k : Int) then [b.tdiv T - 1] else []) ++ wireL (B.drop (i + 1)) T k) := by
    rw [hM, wireL_app, wireL_cons, e1, e2]
  have h2 : wireL B T k = wireL (B.take i) T k ++ ((if b.tmod T = (k : Int) then [b.tdiv T] else []) ++ wireL (B.drop (i + 1)) T k) := by
    conv => lhs; rw [hB]
    rw [wireL_app, wireL_cons]
  rw [h1, h2]
  by_cases c : b.tmod T = (k : Int)
  · simp only [if_pos c]
    refine ⟨by simp, ?_⟩
    simp only [sumL_app, sumL, List.cons_append, List.nil_append]; omega
  · simp only [if_neg c]
    exact ⟨by simp, by simp [sumL_app]⟩
theorem moved_val {B : List Int} (hB : ∀ x ∈ B, 0 ≤ x) {i : Nat} (hi : i < B.length) (hb : (T : Int) ≤ B.getD i 0) : valB (sortD (movedL B i T)) T = valB B T - 1 ∧ coreS (sortD (movedL B i T)) T = coreS B T := by
  have h0 := hB _ (mem_getD hi)
  obtain ⟨c, hc1, hc2, _⟩ := tmod_bnd (b := B.getD i 0) (T := T) h0 (by omega)
  have hl : ∀ k, (wireL (sortD (movedL B i T)) T k).length = (wireL B T k).length := fun k => by
    rw [(wireL_perm (sortD_perm _) T k).length_eq, (moved_wire hT hi h0 hb k).1]
  constructor
  · unfold valB
    rw [← sumL_rng_sub T (termB B T) c hc2]
    congr 1
    refine rng_congr fun k hk => ?_
    unfold termB
    rw [hl k, sumL_perm (wireL_perm (sortD_perm _) T k), (moved_wire hT hi h0 hb k).2, hc1]
    by_cases e : c = k
    · rw [if_pos e, if_pos (by omega)]; omega
    · rw [if_neg e, if_neg (by omega)]; omega
  · unfold coreS
    have : coresL (sortD (movedL B i T)) T = coresL B T := by
      unfold coresL
      apply List.map_congr_left
      intro k _
      rw [hl k]
    rw [this]
theorem moved_dsc {B : List Int} (hB : Dsc B) {i : Nat} (hi : i < B.length) (hb : (T : Int) ≤ B.getD i 0) (hn : B.getD i 0 - T ∉ B) : Dsc (sortD (movedL B i T)) ∧ (sortD (movedL B i T)).length = B.length ∧ sumL (sortD (movedL B i T)) = sumL B - T := by
  have hs := self_split hi
  have hM : movedL B i T = B.take i ++ (B.getD i 0 - T) :: B.drop (i + 1) := by rw [movedL, set_split hi]
  refine ⟨sortD_dsc ?_ ?_, ?_, ?_⟩
  · have hnd : (B.take i ++ B.getD i 0 :: B.drop (i + 1)).Nodup := by rw [← hs]; exact hB.nodup
    rw [hM]
    rw [List.nodup_append, List.nodup_cons] at hnd ⊢
    obtain ⟨a, ⟨b, c⟩, d⟩ := hnd
    have hn1 : B.getD i 0 - T ∉ B.take i := fun h => hn (List.mem_of_mem_take h)
    have hn2 : B.getD i 0 - T ∉ B.drop (i + 1) := fun h => hn (List.mem_of_mem_drop h)
    refine ⟨a, ⟨hn2, c⟩, fun x hx y hy => ?_⟩
    rcases List.mem_cons.1 hy with rfl | hy
    · intro e; rw [e] at hx; exact hn1 hx
    · exact d x hx y (List.mem_cons_of_mem _ hy)
  · intro x hx
    rw [movedL] at hx
    rcases List.mem_or_eq_of_mem_set hx with hx | hx
    · exact hB.2 x hx
    · omega
  · rw [(sortD_perm _).length_eq, movedL_len]
  · rw [sumL_perm (sortD_perm _), hM]
    conv => rhs; rw [hs]
    rw [sumL_app, sumL_app]; simp only [sumL]; omega
/-! ## A row of no blocks more -/
def upB (B : List Int) : List Int := B.map (· + 1) ++ [0]
theorem upB_wire0 {B : List Int} (hB : ∀ x ∈ B, 0 ≤ x) : wireL (upB B) T 0 = (wireL B T (T - 1)).map (· + 1) ++ [0] := by
  unfold upB
  rw [wireL_app]
  congr 1
  · induction B with
    | nil => rfl
    | cons b B ih =>
      obtain ⟨a1, a2⟩ := ar_up0 hT (hB b List.mem_cons_self)
      rw [List.map_cons, wireL_cons, wireL_cons, List.map_append, ih fun x hx => hB x (List.mem_cons_of_mem _ hx)]
      congr 1
      by_cases c : b.tmod T = ((T - 1 : Nat) : Int)
      · rw [if_pos c, if_pos (a1.2 c), a2 c]; rfl
      · rw [if_neg c, if_neg fun h => c (a1.1 h)]; rfl
  · rw [wireL_cons, if_pos (by simp)]; simp [wireL]
theorem upB_wire1 {B : List Int} (hB : ∀ x ∈ B, 0 ≤ x) {k : Nat} (hk : k + 1 < T) : wireL (upB B) T (k + 1) = wireL B T k := by
  unfold upB
  rw [wireL_app]
  have h0 : wireL [0] T (k + 1) = [] := by
    rw [wireL_cons, if_neg (by simp; omega)]; rfl
  rw [h0, List.append_nil]
  induction B with
  | nil => rfl
  | cons b B ih =>
    obtain ⟨a1, a2⟩ := ar_up1 hT (hB b List.mem_cons_self) hk
    rw [List.map_cons, wireL_cons, wireL_cons, ih fun x hx => hB x (List.mem_cons_of_mem _ hx)]
    congr 1
    by_cases c : b.tmod T = (k : Int)
    · rw [if_pos c, if_pos (a1.2 c), a2 c]
    · rw [if_neg c, if_neg fun h => c (a1.1 h)]
theorem upB_dsc {B : List Int} (h : Dsc B) : Dsc (upB B) := by
  constructor
  · unfold upB
    rw [List.pairwise_append]
    refine ⟨?_, List.pairwise_singleton _ _, ?_⟩
    · rw [List.pairwise_map]
      exact h.1.imp fun h => by omega
    · intro a ha b hb
      rw [List.mem_map] at ha
      obtain ⟨x, hx, rfl⟩ := ha
      have := h.2 x hx
      simp at hb; omega
  · intro x hx
    unfold upB at hx
    rw [List.mem_append, List.mem_map] at hx
    rcases hx with ⟨y, hy, rfl⟩ | hx
    · have := h.2 y hy; omega
    · simp at hx; omega
theorem sum_up (W : List Int) : sumL (W.map (· + 1)) = sumL W + W.length := by
  induction W with
  | nil => rfl
  | cons x W ih => simp only [List.map_cons, sumL, ih, List.length_cons]; push_cast; omega
theorem upB_val {B : List Int} (hB : ∀ x ∈ B, 0 ≤ x) : valB (upB B) T = valB B T := by
  obtain ⟨n, rfl⟩ : ∃ n, T = n + 1 := ⟨T - 1, by omega⟩
  unfold valB
  rw [rng_cons, rng_succ, sumL_app]
  have e : rng n (fun i => termB (upB B) (n + 1) (i + 1)) = rng n (termB B (n + 1)) := rng_congr fun k hk => by
    unfold termB; rw [upB_wire1 hT hB (by omega)]
  have e0 : termB (upB B) (n + 1) 0 = termB B (n + 1) n := by
    unfold termB
    rw [upB_wire0 hT hB, Nat.add_sub_cancel, sumL_app, List.length_append, List.length_map, sum_up hT, List.length_singleton, tri]
    simp only [sumL]; omega
  rw [e, e0]; simp only [sumL]; omega
theorem zeros_up (n : Nat) : (beadsR [] n).map (· + 1) ++ [0] = beadsR [] (n + 1) := by
  induction n with
  | zero => rfl
  | succ n ih =>
    rw [beadsR_nil_succ (n + 1)]
    conv => lhs; rw [beadsR_nil_succ n]
    rw [List.map_cons, List.cons_append, ih]
    push_cast; rfl
theorem upB_core {B : List Int} (hB : Dsc B) : coreS (upB B) T = upB (coreS B T) := by
  refine wires_ext hT (coreS_dsc hT _) (upB_dsc hT (coreS_dsc hT B)) fun k hk => ?_
  rw [coreS_wire hT _ hk]
  cases k with
  | zero =>
    rw [upB_wire0 hT hB.2, upB_wire0 hT (coreS_dsc hT B).2, coreS_wire hT B (by omega), zeros_up hT, List.length_append, List.length_map]; rfl
  | succ k =>
    rw [upB_wire1 hT hB.2 hk, upB_wire1 hT (coreS_dsc hT B).2 hk, coreS_wire hT B (by omega)]
theorem upB_shape : ∀ (B : List Int), shapeL (upB B) = shapeL B
  | [] => rfl
  | x :: B => by
    have ih := upB_shape B
    unfold upB at ih ⊢
    rw [List.map_cons, List.cons_append, shapeL_cons, shapeL_cons, ih]
    have e : x + 1 - (((B.map (· + 1) ++ [0]).length : Nat) : Int) = x - B.length := by simp; omega
    rw [e]
theorem beadsR_up {L : List Int} {n : Nat} (h : L.length ≤ n) : beadsR L (n + 1) = upB (beadsR L n) := by
  unfold beadsR upB
  rw [rng_succ]
  congr 1
  · unfold rng
    rw [List.map_map]
    apply List.map_congr_left
    intro r _
    simp; omega
  · rw [List.getD_eq_getElem?_getD, List.getElem?_eq_none (by omega)]
    simp
/-- The beads of a shape, however many rows of no blocks are added. -/
theorem pad {L : List Int} {m : Int} (hd : desc m L = true) : ∀ d, valB (beadsR L (L.length + d)) T = valB (beadsR L L.length) T ∧ shapeL (coreS (beadsR L (L.length + d)) T) = shapeL (coreS (beadsR L L.length) T)
  | 0 => ⟨rfl, rfl⟩
  | d + 1 => by
    obtain ⟨a, b⟩ := pad hd d
    have hD := beadsR_dsc (n := L.length + d) hd
    rw [← Nat.add_assoc, beadsR_up hT (by omega), upB_val hT hD.2, upB_core hT hD, upB_shape hT]
    exact ⟨a, b⟩
end
end Go.Proofs.Ytieliilnnfjijaa
set_option maxRecDepth 100000
set_option maxHeartbeats 4000000
set_option linter.unusedSimpArgs false
set_option linter.unusedVariables false
namespace Go.Proofs.Ytieliilnnfjijaa
open Go.Ds
def coreM (L : List Int) (T : Nat) : List Int := coreB (beadsR L L.length) T
def manyM (L : List Int) (T : Nat) : Int := manyB (beadsR L L.length) T
def stripsM (L : List Int) (T : Nat) : List (List Int) := stripsB (beadsR L L.length) T
theorem coreM_eq (L : List Int) (T : Nat) : coreM L T = shapeL (coreS (beadsR L L.length) T) := rfl
theorem shape_dsc {L : List Int} (h : isShape L = true) : Dsc (beadsR L L.length) := beadsR_dsc (shape_facts h).2.1
section
variable {T : Nat} (hT : 2 ≤ T ∧ T ≤ 6)
include hT
theorem manyM_eq {L : List Int} (h : isShape L = true) : manyM L T = valB (beadsR L L.length) T := manyB_val hT (shape_dsc h)
/-- A wire whose beads stand without gaps from the bottom on. -/
theorem down_zeros : ∀ {W : List Int}, Dsc W → (∀ w ∈ W, 1 ≤ w → w - 1 ∈ W) → W = beadsR [] W.length
  | [], _, _ => rfl
  | x :: W, h, hd => by
    have ih := down_zeros (W := W) h.tail fun w hw h1 => by
      have := hd w (List.mem_cons_of_mem _ hw) h1
      rcases List.mem_cons.1 this with e | e
      · have := h.head w hw; omega
      · exact e
    have hle := h.len_le
    have hx : x = W.length := by
      by_cases c : 1 ≤ x
      · have := hd x List.mem_cons_self c
        rcases List.mem_cons.1 this with e | e
        · omega
        · rw [ih, mem_zeros] at e; omega
      · have := h.2 x List.mem_cons_self; omega
    rw [List.length_cons, beadsR_nil_succ, ← ih, hx]
theorem strips_nil {B : List Int} (hB : Dsc B) : stripsB B T = [] ↔ Bottom B T := by
  have e : stripsB B T = [] ↔ ∀ b ∈ B, (T : Int) ≤ b → b - T ∈ B := by
    unfold stripsB stripsK
    rw [List.map_eq_nil_iff, List.filter_eq_nil_iff]
    constructor
    · intro h b hb hle
      obtain ⟨i, hi, rfl⟩ := List.mem_iff_getElem.1 hb
      have := h i (List.mem_range.2 hi)
      rw [← getD_get hi] at hle ⊢
      simp only [canB, Bool.and_eq_true, decide_eq_true_eq, Bool.not_eq_true', decide_eq_false_iff_not] at this
      exact Classical.byContradiction fun hn => this ⟨hle, hn⟩
    · intro h i hi
      rw [List.mem_range] at hi
      simp only [canB, Bool.and_eq_true, decide_eq_true_eq, Bool.not_eq_true', decide_eq_false_iff_not]
      rintro ⟨h1, h2⟩
      exact h2 (h _ (mem_getD hi) h1)
  rw [e]
  constructor
  · intro h k hk
    refine down_zeros hT (wireL_dsc hT hB k) fun w hw h1 => ?_
    have hm := (mem_wire hT hB.2 hk (by omega)).1 hw
    refine (mem_wire hT hB.2 hk (by omega)).2 ?_
    have hle : (T : Int) ≤ w * T + k := by
      have : 1 * (T : Int) ≤ w * T := Int.mul_le_mul_of_nonneg_right h1 (by omega)
      omega
    have := h _ hm hle
    rw [Int.sub_mul, Int.one_mul]
    rwa [show w * (T : Int) - T + k = w * T + k - T by omega]
  · intro h b hb hle
    obtain ⟨k, hk1, hk2, _⟩ := tmod_bnd (b := b) (T := T) (hB.2 b hb) (by omega)
    obtain ⟨q1, q2⟩ := ar_eq hT (hB.2 b hb) hk1
    have hm := (mem_wire hT hB.2 hk2 q2).2 (by rw [← q1]; exact hb)
    have hq : 1 ≤ b.tdiv T := by
      rcases Int.lt_or_le (b.tdiv T) 1 with c | c
      · have : b.tdiv T = 0 := by omega
        rw [this] at q1; omega
      · exact c
    rw [h k hk2, mem_zeros] at hm
    have hm2 : b.tdiv T - 1 ∈ wireL B T k := by rw [h k hk2, mem_zeros]; omega
    have := (mem_wire hT hB.2 hk2 (by omega)).1 hm2
    rw [Int.sub_mul, Int.one_mul] at this
    rwa [show b.tdiv T * (T : Int) - T + k = b - T by omega] at this
theorem strip_facts {L : List Int} (hS : isShape L = true) {M : List Int} (hM : M ∈ stripsM L T) : isShape M = true ∧ sumL M = sumL L - T ∧ coreM M T = coreM L T ∧ manyM M T = manyM L T - 1 := by
  have hB := shape_dsc hS
  have hB2 := beadsR_beads hS
  unfold stripsM stripsB stripsK at hM
  rw [List.mem_map] at hM
  obtain ⟨i, hi, rfl⟩ := hM
  rw [List.mem_filter, List.mem_range] at hi
  obtain ⟨hi, hc⟩ := hi
  simp only [canB, Bool.and_eq_true, decide_eq_true_eq, Bool.not_eq_true', decide_eq_false_iff_not] at hc
  obtain ⟨m1, m2, m3⟩ := moved_dsc hT hB hi hc.1 hc.2
  obtain ⟨v1, v2⟩ := moved_val hT hB.2 hi hc.1
  have hsum : sumL (leftB (beadsR L L.length) T i) = sumL L - T := by
    unfold leftB
    rw [shapeL_sum m1, m2, m3]
    have := shapeL_sum hB
    rw [shapeL_beads (shape_facts hS).2.1 (Nat.le_refl _)] at this
    omega
  have hS2 : isShape (leftB (beadsR L L.length) T i) = true := shapeL_isShape m1 (by rw [m2]; exact hB2.len) (by have := (shape_facts hS).2.2; unfold leftB at hsum; omega)
  have hlen : (leftB (beadsR L L.length) T i).length ≤ L.length := by
    have := shapeK_len (sortD (movedL (beadsR L L.length) i T)) (sortD (movedL (beadsR L L.length) i T)).length
    unfold leftB shapeL
    rw [m2, beadsR_len] at this
    rw [m2, beadsR_len]
    exact this
  have hback := shapeL_back m1
  rw [m2, beadsR_len] at hback
  obtain ⟨p1, p2⟩ := pad hT (shape_facts hS2).2.1 (L.length - (leftB (beadsR L L.length) T i).length)
  rw [show (leftB (beadsR L L.length) T i).length + (L.length - (leftB (beadsR L L.length) T i).length) = L.length by omega] at p1 p2
  have hb2 : beadsR (leftB (beadsR L L.length) T i) L.length = sortD (movedL (beadsR L L.length) i T) := hback
  rw [hb2] at p1 p2
  refine ⟨hS2, hsum, ?_, ?_⟩
  · rw [coreM_eq, coreM_eq, ← p2, v2]
  · rw [manyM_eq hT hS2, manyM_eq hT hS, ← p1, v1]
theorem many_nonneg {L : List Int} (hS : isShape L = true) : 0 ≤ manyM L T := by
  rw [manyM_eq hT hS]; exact (val_zero hT (shape_dsc hS)).1
theorem many_zero {L : List Int} (hS : isShape L = true) : manyM L T = 0 ↔ stripsM L T = [] := by
  rw [manyM_eq hT hS, (val_zero hT (shape_dsc hS)).2]
  exact (strips_nil hT (shape_dsc hS)).symm
theorem core_self {L : List Int} (hS : isShape L = true) (h : stripsM L T = []) : coreM L T = L := by
  rw [coreM_eq, bottom_core hT (shape_dsc hS) ((strips_nil hT (shape_dsc hS)).1 h), shapeL_beads (shape_facts hS).2.1 (Nat.le_refl _)]
theorem core_facts : ∀ (n : Nat) {L : List Int}, isShape L = true → manyM L T = n → isShape (coreM L T) = true ∧ manyM (coreM L T) T = 0 ∧ sumL (coreM L T) = sumL L - T * n
  | 0, L, hS, hn => by
    have h0 : manyM L T = 0 := by simpa using hn
    have h := core_self hT hS ((many_zero hT hS).1 h0)
    rw [h]
    exact ⟨hS, h0, by simp⟩
  | n + 1, L, hS, hn => by
    have hne : stripsM L T ≠ [] := fun h => by
      have := (many_zero hT hS).2 h
      rw [this] at hn; push_cast at hn; omega
    obtain ⟨M, hM⟩ := List.exists_mem_of_ne_nil _ hne
    obtain ⟨q1, q2, q3, q4⟩ := strip_facts hT hS hM
    obtain ⟨r1, r2, r3⟩ := core_facts n q1 (by rw [q4, hn]; push_cast; omega)
    rw [q3] at r1 r2 r3
    refine ⟨r1, r2, ?_⟩
    rw [r3, q2]
    have : (T : Int) * ((n + 1 : Nat) : Int) = T * n + T := by push_cast; rw [Int.mul_add, Int.mul_one]
    omega
theorem core_all {L : List Int} (hS : isShape L = true) : isShape (coreM L T) = true ∧ manyM (coreM L T) T = 0 ∧ sumL (coreM L T) = sumL L - T * manyM L T := by
  have h0 := many_nonneg hT hS
  have := core_facts hT (manyM L T).toNat hS (by omega)
  rwa [show (((manyM L T).toNat : Nat) : Int) = manyM L T by omega] at this
theorem core_iff {L : List Int} (hS : isShape L = true) : (coreM L T = L ↔ manyM L T = 0) ∧ (stripsM L T = [] ↔ manyM L T = 0) := by
  refine ⟨⟨fun h => ?_, fun h => core_self hT hS ((many_zero hT hS).1 h)⟩, (many_zero hT hS).symm⟩
  have h1 := (core_all hT hS).2.2
  rw [h] at h1
  have h2 : (T : Int) * manyM L T = 0 := by omega
  rcases Int.mul_eq_zero.1 h2 with h3 | h3
  · omega
  · exact h3
theorem many_le {L : List Int} (hS : isShape L = true) : manyM L T ≤ 40 := by
  have h1 := core_all hT hS
  have h2 := sumL_nonneg (shape_facts h1.1).2.1
  have h3 := (shape_facts hS).2.2
  have h4 := many_nonneg hT hS
  have h5 : 1 * manyM L T ≤ (T : Int) * manyM L T := Int.mul_le_mul_of_nonneg_right (by omega) h4
  omega
end
end Go.Proofs.Ytieliilnnfjijaa
set_option maxRecDepth 100000
set_option maxHeartbeats 8000000
set_option linter.unusedSimpArgs false
set_option linter.unusedVariables false
namespace Go.Proofs.Ytieliilnnfjijaa
open Go.Ds
def coreT (L : List Int) (t : Int) : List Int × Int × Int := if isShape L = true ∧ isWires t = true then (coreM L t.toNat, manyM L t.toNat, 0) else ([], 0, 2)
def isCoreT (L : List Int) (t : Int) : Bool × Int := if isShape L = true ∧ isWires t = true then (decide (manyM L t.toNat = 0), 0) else (false, 2)
def Ret3 (g : GH) (v : Value) (r : List Int × Int × Int) : Prop := ∃ u, v = .tuple #[u, .int .i64 r.2.1, .int .i64 r.2.2] ∧ SlR g u (ints r.1)
theorem wires_nat {t : Int} (h : isWires t = true) : ∃ T : Nat, t = T ∧ t.toNat = T ∧ 2 ≤ T ∧ T ≤ 6 := by
  simp only [isWires, Bool.and_eq_true, decide_eq_true_eq] at h
  exact ⟨t.toNat, by omega, rfl, by omega, by omega⟩
theorem isCore_rets {X : Caller} (hX : Xok X) (L : List Int) (hS : isShape L = true) (T : Nat) (hT : 2 ≤ T ∧ T ≤ 6) (s : Value) (g : GH) (hs : SlR g s (ints L)) :
    Rets Try.prog X 58 [s, .int .i64 T] g (fun v g' lo => g.next ≤ lo ∧ v = .bool (decide (manyM L T = 0))) := by
  refine Rets.run hX.pres p58 (hX.free 58 (by decide) _ _) rfl fun ho => ?_
  simp +decide (disch := first | assumption | (apply GH.ok_push; assumption) | exact cellV_int _ _ | exact cellV_bool _ | omega) only [go_sem, ↓reduceIte, Nat.reduceEqDiff, Nat.reduceAdd, Int.reduceToNat]
  refine CallD.calm (coreOf_rets hX L hS T hT s g hs) ?_
  rintro v G hx ⟨u, rfl, hu⟩
  have hn := hx.next
  simp +decide (disch := first | assumption | (apply GH.ok_push; assumption) | exact cellV_int _ _ | exact cellV_bool _ | omega) only [go_sem, ↓reduceIte, Nat.reduceEqDiff, Nat.reduceAdd, Int.reduceToNat, ext0, ext1]
  intro hx0
  exact ⟨by omega, rfl⟩
theorem refCore_rets {X : Caller} (hX : Xok X) (L : List Int) (hS : isShape L = true) (T : Nat) (hT : 2 ≤ T ∧ T ≤ 6) (s : Value) (g : GH) (hs : SlR g s (ints L)) :
    Rets Try.prog X 57 [s, .int .i64 T] g (fun v g' lo => g.next ≤ lo ∧ ∃ u, v = .tuple #[u, .int .i64 (manyM L T)] ∧ SlR g' u (ints (coreM L T))) := by
  refine Rets.run hX.pres p57 (hX.free 57 (by decide) _ _) rfl fun ho => ?_
  obtain ⟨c1, c2, c3⟩ := shape_facts hS
  have hm0 := many_nonneg hT hS
  have hm40 := many_le hT hS
  have main : ∀ (u : Value) (G : GH) (lo0 : Nat) (e0 : Env) (ks : List Fr), g.next ≤ lo0 → Kept g G → SlR G u (ints L) → (ev e0 (.s 1) = .int .i64 T ∧ ev e0 (.s 6) = u ∧ ev e0 (.s 7) = .int .i64 0) →
      Wk Try.prog X (Qr r57 g (fun v g' lo => g.next ≤ lo ∧ ∃ u, v = .tuple #[u, .int .i64 (manyM L T)] ∧ SlR g' u (ints (coreM L T)))) (.C (.loop b57_0) (.blk 0 :: ks) e0 G lo0) := by
    intro u G lo0 e0 ks hlo0 hkG hu he0
    refine Wk.loops (fun m e g' lo => g.next ≤ lo ∧ Kept g g' ∧ ∃ (M : List Int) (k : Nat) (u : Value), isShape M = true ∧ manyM M T = m ∧ (k : Int) + m = manyM L T ∧ coreM M T = coreM L T ∧ (ev e (.s 1) = .int .i64 T ∧ ev e (.s 6) = u ∧ ev e (.s 7) = .int .i64 k) ∧ SlR g' u (ints M))
      (fun e g' lo => False) (n := (manyM L T).toNat) ?_ ?_ ?_
    · exact ⟨hlo0, hkG, L, 0, u, hS, by omega, by omega, rfl, he0, hu⟩
    · rintro e g' lo - - h
      exact h.elim
    · rintro m e g' lo ho' hl' ih out ⟨hlo, hk, M, k, u, hM, hm, hkm, hc, he, hu⟩
      have hgn := hk.next
      have hit := core_iff hT hM
      simp +decide (disch := first | assumption | (apply GH.ok_push; assumption) | exact cellV_int _ _ | exact cellV_bool _ | omega) only [go_sem, ↓reduceIte, Nat.reduceEqDiff, Nat.reduceAdd, Int.reduceToNat, he]
      refine CallD.calm (refStrips_rets hX M hM T (by omega) u g' hu) ?_
      rintro v G2 hx2 hv
      have hn2 := hx2.next
      have hlv := hv.len
      have hst : stripsB (beadsR M M.length) T = stripsM M T := rfl
      rw [hst] at hlv hv
      by_cases c : stripsM M T = []
      · have h0 := hit.2.1 c
        have h1 := hit.1.2 h0
        have hlz : ((stripsM M T).length : Int) = 0 := by rw [c]; rfl
        simp +decide (disch := first | assumption | (apply GH.ok_push; assumption) | exact cellV_int _ _ | exact cellV_bool _ | omega) only [go_sem, ↓reduceIte, Nat.reduceEqDiff, Nat.reduceAdd, Int.reduceToNat, he, hlv, hlz]
        intro hx0
        refine ⟨by omega, u, ?_, ?_⟩
        · rw [show manyM L T = k by omega]
        · rw [← hc, h1]; exact hu.ext hx2
      · have hpos : 0 < (stripsM M T).length := List.length_pos_iff.2 c
        obtain ⟨w, j1, o1, hj1, hp1, hp2, hw⟩ := hv.ptr hpos
        have hp1 := hp1 0 rfl
        have hmem : (stripsM M T).getD 0 [] ∈ stripsM M T := by rw [List.getD_eq_getElem?_getD, List.getElem?_eq_getElem hpos]; exact List.getElem_mem _
        obtain ⟨q1, q2, q3, q4⟩ := strip_facts hT hM hmem
        have h0 := many_nonneg hT q1
        simp +decide (disch := first | assumption | (apply GH.ok_push; assumption) | exact cellV_int _ _ | exact cellV_bool _ | omega) only [go_sem, ↓reduceIte, Nat.reduceEqDiff, Nat.reduceAdd, Int.reduceToNat, he, hlv, hp1, hp2]
        exact ih (manyM ((stripsM M T).getD 0 []) T).toNat _ _ _ (by omega) ⟨hlo, hk.ext hx2, _, k + 1, w, q1, by omega, by omega, by rw [q3, hc], (by simp +decide (disch := first | assumption | (apply GH.ok_push; assumption) | exact cellV_int _ _ | exact cellV_bool _ | omega) only [go_sem, ↓reduceIte, Nat.reduceEqDiff, Nat.reduceAdd, Int.reduceToNat, he]; first | done | exact rfl), hw⟩
  by_cases c : L = []
  · have hs0 := hs
    rw [c] at hs0
    simp +decide (disch := first | assumption | (apply GH.ok_push; assumption) | exact cellV_int _ _ | exact cellV_bool _ | omega) only [go_sem, ↓reduceIte, Nat.reduceEqDiff, Nat.reduceAdd, Int.reduceToNat]
    refine AppD.none hs0 (by omega) ?_
    simp +decide (disch := first | assumption | (apply GH.ok_push; assumption) | exact cellV_int _ _ | exact cellV_bool _ | omega) only [go_sem, ↓reduceIte, Nat.reduceEqDiff, Nat.reduceAdd, Int.reduceToNat]
    exact main _ _ _ _ _ (Nat.le_refl _) (Kept.refl g) (by rw [c]; exact SlR.nil) (by simp +decide (disch := first | assumption | (apply GH.ok_push; assumption) | exact cellV_int _ _ | exact cellV_bool _ | omega) only [go_sem, ↓reduceIte, Nat.reduceEqDiff, Nat.reduceAdd, Int.reduceToNat]; first | done | exact rfl)
  · simp +decide (disch := first | assumption | (apply GH.ok_push; assumption) | exact cellV_int _ _ | exact cellV_bool _ | omega) only [go_sem, ↓reduceIte, Nat.reduceEqDiff, Nat.reduceAdd, Int.reduceToNat]
    refine AppD.own2 (vs := []) (base := g.next) (lw := g.next) Own.nil hs (by simpa [ints] using c) (ints_cell _) (by rw [ints_len]; simp; omega) (Nat.le_refl _) (Nat.le_refl _) (Nat.le_refl _) ho (fun s' g2 lo2 sp wr hgr hlo2 => ?_)
    simp +decide (disch := first | assumption | (apply GH.ok_push; assumption) | exact cellV_int _ _ | exact cellV_bool _ | omega) only [go_sem, ↓reduceIte, Nat.reduceEqDiff, Nat.reduceAdd, Int.reduceToNat]
    have hown := hgr.own.read
    rw [List.nil_append] at hown
    exact main _ _ _ _ _ hlo2 ((Kept.refl g).grew2 hgr (Nat.le_refl _)) hown (by simp +decide (disch := first | assumption | (apply GH.ok_push; assumption) | exact cellV_int _ _ | exact cellV_bool _ | omega) only [go_sem, ↓reduceIte, Nat.reduceEqDiff, Nat.reduceAdd, Int.reduceToNat]; first | done | exact rfl)
section
variable {X : Caller} (hX : Xok X) (L : List Int) (hL : L.length < 1000000) (t : Int) (s : Value) (g : GH) (hs : SlR g s (ints L))
include hX hL hs
theorem coreT_rets : Rets Try.prog X 29 [s, .int .i64 t] g (fun v g' lo => g.next ≤ lo ∧ Ret3 g' v (coreT L t)) := by
  refine Rets.run hX.pres p29 (hX.free 29 (by decide) _ _) rfl fun ho => ?_
  simp +decide (disch := first | assumption | (apply GH.ok_push; assumption) | exact cellV_int _ _ | exact cellV_bool _ | omega) only [go_sem, ↓reduceIte, Nat.reduceEqDiff, Nat.reduceAdd, Int.reduceToNat]
  refine CallD.calm (isShape_rets hX L hL s g hs) ?_
  rintro v G hx rfl
  have hn := hx.next
  by_cases c : isShape L = true
  case neg =>
    have c' : isShape L = false := by simpa using c
    have hC : coreT L t = ([], 0, 2) := by rw [coreT, if_neg (fun h => c h.1)]
    simp +decide (disch := first | assumption | (apply GH.ok_push; assumption) | exact cellV_int _ _ | exact cellV_bool _ | omega) only [go_sem, ↓reduceIte, Nat.reduceEqDiff, Nat.reduceAdd, Int.reduceToNat, c']
    intro hx0
    exact ⟨by omega, _, by rw [hC], by rw [hC]; exact SlR.nil⟩
  simp +decide (disch := first | assumption | (apply GH.ok_push; assumption) | exact cellV_int _ _ | exact cellV_bool _ | omega) only [go_sem, ↓reduceIte, Nat.reduceEqDiff, Nat.reduceAdd, Int.reduceToNat, c]
  refine CallD.calm (wires_rets hX t G) ?_
  rintro v G1 hx1 rfl
  have hn1 := hx1.next
  by_cases d : isWires t = true
  case neg =>
    have d' : isWires t = false := by simpa using d
    have hC : coreT L t = ([], 0, 2) := by rw [coreT, if_neg (fun h => d h.2)]
    simp +decide (disch := first | assumption | (apply GH.ok_push; assumption) | exact cellV_int _ _ | exact cellV_bool _ | omega) only [go_sem, ↓reduceIte, Nat.reduceEqDiff, Nat.reduceAdd, Int.reduceToNat, d']
    intro hx0
    exact ⟨by omega, _, by rw [hC], by rw [hC]; exact SlR.nil⟩
  obtain ⟨T, hT1, hT2, hT3⟩ := wires_nat d
  have hC : coreT L t = (coreM L T, manyM L T, 0) := by rw [coreT, if_pos ⟨c, d⟩, hT2]
  simp +decide (disch := first | assumption | (apply GH.ok_push; assumption) | exact cellV_int _ _ | exact cellV_bool _ | omega) only [go_sem, ↓reduceIte, Nat.reduceEqDiff, Nat.reduceAdd, Int.reduceToNat, d]
  rw [hT1]
  refine CallD.calm (coreOf_rets hX L c T hT3 s G1 ((hs.ext hx).ext hx1)) ?_
  rintro v G2 hx2 ⟨u, rfl, hu⟩
  have hn2 := hx2.next
  simp +decide (disch := first | assumption | (apply GH.ok_push; assumption) | exact cellV_int _ _ | exact cellV_bool _ | omega) only [go_sem, ↓reduceIte, Nat.reduceEqDiff, Nat.reduceAdd, Int.reduceToNat, ext0, ext1]
  intro hx0
  refine ⟨by omega, u, ?_, ?_⟩
  · rw [← hT1, hC] <;> rfl
  · rw [← hT1, hC]; exact hu
theorem isCoreT_rets : Rets Try.prog X 31 [s, .int .i64 t] g (fun v g' lo => g.next ≤ lo ∧ v = .tuple #[.bool (isCoreT L t).1, .int .i64 (isCoreT L t).2]) := by
  refine Rets.run hX.pres p31 (hX.free 31 (by decide) _ _) rfl fun ho => ?_
  simp +decide (disch := first | assumption | (apply GH.ok_push; assumption) | exact cellV_int _ _ | exact cellV_bool _ | omega) only [go_sem, ↓reduceIte, Nat.reduceEqDiff, Nat.reduceAdd, Int.reduceToNat]
  refine CallD.calm (isShape_rets hX L hL s g hs) ?_
  rintro v G hx rfl
  have hn := hx.next
  by_cases c : isShape L = true
  case neg =>
    have c' : isShape L = false := by simpa using c
    have hC : isCoreT L t = (false, 2) := by rw [isCoreT, if_neg (fun h => c h.1)]
    simp +decide (disch := first | assumption | (apply GH.ok_push; assumption) | exact cellV_int _ _ | exact cellV_bool _ | omega) only [go_sem, ↓reduceIte, Nat.reduceEqDiff, Nat.reduceAdd, Int.reduceToNat, c']
    intro hx0
    exact ⟨by omega, by rw [hC]⟩
  simp +decide (disch := first | assumption | (apply GH.ok_push; assumption) | exact cellV_int _ _ | exact cellV_bool _ | omega) only [go_sem, ↓reduceIte, Nat.reduceEqDiff, Nat.reduceAdd, Int.reduceToNat, c]
  refine CallD.calm (wires_rets hX t G) ?_
  rintro v G1 hx1 rfl
  have hn1 := hx1.next
  by_cases d : isWires t = true
  case neg =>
    have d' : isWires t = false := by simpa using d
    have hC : isCoreT L t = (false, 2) := by rw [isCoreT, if_neg (fun h => d h.2)]
    simp +decide (disch := first | assumption | (apply GH.ok_push; assumption) | exact cellV_int _ _ | exact cellV_bool _ | omega) only [go_sem, ↓reduceIte, Nat.reduceEqDiff, Nat.reduceAdd, Int.reduceToNat, d']
    intro hx0
    exact ⟨by omega, by rw [hC]⟩
  obtain ⟨T, hT1, hT2, hT3⟩ := wires_nat d
  have hC : isCoreT L t = (decide (manyM L T = 0), 0) := by rw [isCoreT, if_pos ⟨c, d⟩, hT2]
  simp +decide (disch := first | assumption | (apply GH.ok_push; assumption) | exact cellV_int _ _ | exact cellV_bool _ | omega) only [go_sem, ↓reduceIte, Nat.reduceEqDiff, Nat.reduceAdd, Int.reduceToNat, d]
  rw [hT1]
  refine CallD.calm (isCore_rets hX L c T hT3 s G1 ((hs.ext hx).ext hx1)) ?_
  rintro v G2 hx2 rfl
  have hn2 := hx2.next
  simp +decide (disch := first | assumption | (apply GH.ok_push; assumption) | exact cellV_int _ _ | exact cellV_bool _ | omega) only [go_sem, ↓reduceIte, Nat.reduceEqDiff, Nat.reduceAdd, Int.reduceToNat]
  intro hx0
  refine ⟨by omega, ?_⟩
  rw [← hT1, hC]
theorem refCoreT_rets : Rets Try.prog X 30 [s, .int .i64 t] g (fun v g' lo => g.next ≤ lo ∧ Ret3 g' v (coreT L t)) := by
  refine Rets.run hX.pres p30 (hX.free 30 (by decide) _ _) rfl fun ho => ?_
  simp +decide (disch := first | assumption | (apply GH.ok_push; assumption) | exact cellV_int _ _ | exact cellV_bool _ | omega) only [go_sem, ↓reduceIte, Nat.reduceEqDiff, Nat.reduceAdd, Int.reduceToNat]
  refine CallD.calm (refIsShape_rets hX L hL s g hs) ?_
  rintro v G hx rfl
  have hn := hx.next
  by_cases c : isShape L = true
  case neg =>
    have c' : isShape L = false := by simpa using c
    have hC : coreT L t = ([], 0, 2) := by rw [coreT, if_neg (fun h => c h.1)]
    simp +decide (disch := first | assumption | (apply GH.ok_push; assumption) | exact cellV_int _ _ | exact cellV_bool _ | omega) only [go_sem, ↓reduceIte, Nat.reduceEqDiff, Nat.reduceAdd, Int.reduceToNat, c']
    intro hx0
    exact ⟨by omega, _, by rw [hC], by rw [hC]; exact SlR.nil⟩
  simp +decide (disch := first | assumption | (apply GH.ok_push; assumption) | exact cellV_int _ _ | exact cellV_bool _ | omega) only [go_sem, ↓reduceIte, Nat.reduceEqDiff, Nat.reduceAdd, Int.reduceToNat, c]
  refine CallD.calm (refWires_rets hX t G) ?_
  rintro v G1 hx1 rfl
  have hn1 := hx1.next
  by_cases d : isWires t = true
  case neg =>
    have d' : isWires t = false := by simpa using d
    have hC : coreT L t = ([], 0, 2) := by rw [coreT, if_neg (fun h => d h.2)]
    simp +decide (disch := first | assumption | (apply GH.ok_push; assumption) | exact cellV_int _ _ | exact cellV_bool _ | omega) only [go_sem, ↓reduceIte, Nat.reduceEqDiff, Nat.reduceAdd, Int.reduceToNat, d']
    intro hx0
    exact ⟨by omega, _, by rw [hC], by rw [hC]; exact SlR.nil⟩
  obtain ⟨T, hT1, hT2, hT3⟩ := wires_nat d
  have hC : coreT L t = (coreM L T, manyM L T, 0) := by rw [coreT, if_pos ⟨c, d⟩, hT2]
  simp +decide (disch := first | assumption | (apply GH.ok_push; assumption) | exact cellV_int _ _ | exact cellV_bool _ | omega) only [go_sem, ↓reduceIte, Nat.reduceEqDiff, Nat.reduceAdd, Int.reduceToNat, d]
  rw [hT1]
  refine CallD.calm (refCore_rets hX L c T hT3 s G1 ((hs.ext hx).ext hx1)) ?_
  rintro v G2 hx2 ⟨u, rfl, hu⟩
  have hn2 := hx2.next
  simp +decide (disch := first | assumption | (apply GH.ok_push; assumption) | exact cellV_int _ _ | exact cellV_bool _ | omega) only [go_sem, ↓reduceIte, Nat.reduceEqDiff, Nat.reduceAdd, Int.reduceToNat, ext0, ext1]
  intro hx0
  refine ⟨by omega, u, ?_, ?_⟩
  · rw [← hT1, hC] <;> rfl
  · rw [← hT1, hC]; exact hu
end
end Go.Proofs.Ytieliilnnfjijaa
set_option maxRecDepth 100000
set_option maxHeartbeats 8000000
set_option linter.unusedSimpArgs false
set_option linter.unusedVariables false
namespace Go.Proofs.Ytieliilnnfjijaa
open Go.Ds
theorem ext30 (u w z : Value) : extF (.tuple #[u, w, z]) 0 = some u := rfl
theorem ext31 (u w z : Value) : extF (.tuple #[u, w, z]) 1 = some w := rfl
theorem ext32 (u w z : Value) : extF (.tuple #[u, w, z]) 2 = some z := rfl
theorem isCoreT_strips (L : List Int) (t : Int) : isCoreT L t = (decide ((stripsT L t).1 = [] ∧ (stripsT L t).2 = 0), (stripsT L t).2) := by
  unfold isCoreT stripsT
  by_cases c : isShape L = true ∧ isWires t = true
  · rw [if_pos c, if_pos c]
    obtain ⟨T, hT1, hT2, hT3⟩ := wires_nat c.2
    rw [hT2, hT1]
    have := (core_iff hT3 c.1).2
    unfold stripsM at this
    simp only [and_true]
    congr 1
    exact decide_eq_decide.2 this.symm
  · rw [if_neg c, if_neg c]; rfl
theorem stripsT_small (L : List Int) (t : Int) : (stripsT L t).1.length < 1000000 ∧ ∀ M ∈ (stripsT L t).1, M.length < 1000000 := by
  unfold stripsT
  split
  · rename_i c
    obtain ⟨T, hT1, hT2, hT3⟩ := wires_nat c.2
    have hB := (beadsR_beads c.1).len
    refine ⟨?_, fun M hM => ?_⟩
    · have := stripsK_len (beadsR L L.length) t (beadsR L L.length).length
      show (stripsK _ _ _).length < _
      omega
    · rw [hT1] at hM
      have := (shape_facts (strip_facts hT3 c.1 hM).1).1
      omega
  · simp
theorem coreT_small (L : List Int) (t : Int) : (coreT L t).1.length < 1000000 := by
  unfold coreT
  split
  · rename_i c
    obtain ⟨T, hT1, hT2, hT3⟩ := wires_nat c.2
    rw [hT2]
    have := (shape_facts (core_all hT3 c.1).1).1
    show (coreM L T).length < _
    omega
  · simp
/-- The law of the strips. -/
theorem stripsLaw_rets {X : Caller} (hX : Xok X) (L : List Int) (t : Int) (s : Value) (g : GH) (hs : SlR g s (ints L)) :
    Rets Try.prog X 4 [s, .int .i64 t] g (fun v g' lo => g.next ≤ lo ∧ v = .bool true) := by
  refine Rets.run hX.pres p4 (hX.free 4 (by decide) _ _) rfl fun ho => ?_
  simp +decide (disch := first | assumption | (apply GH.ok_push; assumption) | exact cellV_int _ _ | exact cellV_bool _ | omega) only [go_sem, ↓reduceIte, Nat.reduceEqDiff, Nat.reduceAdd, Int.reduceToNat]
  refine CallD.calm (few_rets hX L [] s _ g hs Sl2.nil) ?_
  rintro v G hx rfl
  have hn := hx.next
  have hs1 := hs.ext hx
  by_cases c : L.length ≤ 60
  case neg =>
    have hf : fewB L [] = false := by simp [fewB, c]
    simp +decide (disch := first | assumption | (apply GH.ok_push; assumption) | exact cellV_int _ _ | exact cellV_bool _ | omega) only [go_sem, ↓reduceIte, Nat.reduceEqDiff, Nat.reduceAdd, Int.reduceToNat, hf]
    refine CallD.calm (hX.alive G) ?_
    rintro v G1 hx1 rfl
    have hn1 := hx1.next
    simp +decide (disch := first | assumption | (apply GH.ok_push; assumption) | exact cellV_int _ _ | exact cellV_bool _ | omega) only [go_sem, ↓reduceIte, Nat.reduceEqDiff, Nat.reduceAdd, Int.reduceToNat]
    intro hx0
    exact ⟨by omega, rfl⟩
  have hf : fewB L [] = true := by simp [fewB, c]
  simp +decide (disch := first | assumption | (apply GH.ok_push; assumption) | exact cellV_int _ _ | exact cellV_bool _ | omega) only [go_sem, ↓reduceIte, Nat.reduceEqDiff, Nat.reduceAdd, Int.reduceToNat, hf]
  refine CallD.calm (stripsT_rets hX L (by omega) t s G hs1) ?_
  rintro v G1 hx1 ⟨a, rfl, ha⟩
  have hn1 := hx1.next
  have hs2 := hs1.ext hx1
  simp +decide (disch := first | assumption | (apply GH.ok_push; assumption) | exact cellV_int _ _ | exact cellV_bool _ | omega) only [go_sem, ↓reduceIte, Nat.reduceEqDiff, Nat.reduceAdd, Int.reduceToNat, ext0, ext1]
  refine CallD.calm (refStripsT_rets hX L (by omega) t s G1 hs2) ?_
  rintro v G2 hx2 ⟨b, rfl, hb⟩
  have hn2 := hx2.next
  have hs3 := hs2.ext hx2
  obtain ⟨m1, m2⟩ := stripsT_small L t
  simp +decide (disch := first | assumption | (apply GH.ok_push; assumption) | exact cellV_int _ _ | exact cellV_bool _ | omega) only [go_sem, ↓reduceIte, Nat.reduceEqDiff, Nat.reduceAdd, Int.reduceToNat, ext0, ext1]
  refine CallD.calm (shapes_rets hX _ _ m1 m1 m2 m2 a b G2 (ha.kept hx2.kept) hb) ?_
  rintro v G3 hx3 rfl
  have hn3 := hx3.next
  have hs4 := hs3.ext hx3
  rw [decide_eq_true rfl]
  simp +decide (disch := first | assumption | (apply GH.ok_push; assumption) | exact cellV_int _ _ | exact cellV_bool _ | omega) only [go_sem, ↓reduceIte, Nat.reduceEqDiff, Nat.reduceAdd, Int.reduceToNat]
  refine CallD.calm (coreT_rets hX L (by omega) t s G3 hs4) ?_
  rintro v G4 hx4 ⟨a2, rfl, ha2⟩
  have hn4 := hx4.next
  have hs5 := hs4.ext hx4
  simp +decide (disch := first | assumption | (apply GH.ok_push; assumption) | exact cellV_int _ _ | exact cellV_bool _ | omega) only [go_sem, ↓reduceIte, Nat.reduceEqDiff, Nat.reduceAdd, Int.reduceToNat, ext30, ext31, ext32]
  refine CallD.calm (refCoreT_rets hX L (by omega) t s G4 hs5) ?_
  rintro v G5 hx5 ⟨b2, rfl, hb2⟩
  have hn5 := hx5.next
  have hs6 := hs5.ext hx5
  simp +decide (disch := first | assumption | (apply GH.ok_push; assumption) | exact cellV_int _ _ | exact cellV_bool _ | omega) only [go_sem, ↓reduceIte, Nat.reduceEqDiff, Nat.reduceAdd, Int.reduceToNat, ext30, ext31, ext32]
  refine CallD.calm (same_rets hX _ _ (coreT_small L t) (coreT_small L t) a2 b2 G5 (ha2.kept hx5.kept) hb2) ?_
  rintro v G6 hx6 rfl
  have hn6 := hx6.next
  have hs7 := hs6.ext hx6
  rw [decide_eq_true rfl]
  simp +decide (disch := first | assumption | (apply GH.ok_push; assumption) | exact cellV_int _ _ | exact cellV_bool _ | omega) only [go_sem, ↓reduceIte, Nat.reduceEqDiff, Nat.reduceAdd, Int.reduceToNat]
  refine CallD.calm (isCoreT_rets hX L (by omega) t s G6 hs7) ?_
  rintro v G7 hx7 rfl
  have hn7 := hx7.next
  have hs8 := hs7.ext hx7
  simp +decide (disch := first | assumption | (apply GH.ok_push; assumption) | exact cellV_int _ _ | exact cellV_bool _ | omega) only [go_sem, ↓reduceIte, Nat.reduceEqDiff, Nat.reduceAdd, Int.reduceToNat, ext0, ext1]
  refine CallD.calm (refIsCoreT_rets hX L (by omega) t s G7 hs8) ?_
  rintro v G8 hx8 rfl
  have hn8 := hx8.next
  rw [isCoreT_strips]
  obtain ⟨z, hz⟩ : ∃ z, decide ((stripsT L t).1 = [] ∧ (stripsT L t).2 = 0) = z := ⟨_, rfl⟩
  rw [hz]
  have heq : eqBF false (.bool z) (.bool z) = some (.bool true) := by cases z <;> rfl
  simp +decide (disch := first | assumption | (apply GH.ok_push; assumption) | exact cellV_int _ _ | exact cellV_bool _ | omega) only [go_sem, ↓reduceIte, Nat.reduceEqDiff, Nat.reduceAdd, Int.reduceToNat, ext0, ext1, heq]
  refine CallD.calm (hX.alive G8) ?_
  rintro v G9 hx9 rfl
  have hn9 := hx9.next
  simp +decide (disch := first | assumption | (apply GH.ok_push; assumption) | exact cellV_int _ _ | exact cellV_bool _ | omega) only [go_sem, ↓reduceIte, Nat.reduceEqDiff, Nat.reduceAdd, Int.reduceToNat]
  intro hx0
  exact ⟨by omega, rfl⟩
end Go.Proofs.Ytieliilnnfjijaa
set_option maxRecDepth 100000
set_option maxHeartbeats 8000000
set_option linter.unusedSimpArgs false
set_option linter.unusedVariables false
namespace Go.Proofs.Ytieliilnnfjijaa
open Go.Ds
theorem wireNo_rets {X : Caller} (hX : Xok X) (w : Int) (h0 : 0 ≤ w) (h1 : w < 256) (g : GH) : Rets Try.prog X 41 [.int .u8 w] g (fun v g' lo => g.next ≤ lo ∧ ∃ T : Nat, v = .int .i64 T ∧ 2 ≤ T ∧ T ≤ 6) := by
  refine Rets.run hX.pres p41 (hX.free 41 (by decide) _ _) rfl fun ho => ?_
  obtain ⟨n, rfl⟩ := Int.eq_ofNat_of_zero_le h0
  have e : ((n : Nat) : Int).tmod 5 = ((n % 5 : Nat) : Int) := rfl
  have hlt : n % 5 < 5 := Nat.mod_lt _ (by decide)
  have hc : convF .i64 (.int .u8 ((n % 5 : Nat) : Int)) = some (.int .i64 ((n % 5 : Nat) : Int)) := by
    show some (Value.int .i64 (wrapF .i64 _)) = _
    rw [wr64 (by omega) (by omega)]
  obtain ⟨k, hk⟩ : ∃ k, n % 5 = k := ⟨_, rfl⟩
  rw [hk] at e hc hlt
  simp +decide (disch := first | assumption | (apply GH.ok_push; assumption) | exact cellV_int _ _ | exact cellV_bool _ | omega) only [go_sem, ↓reduceIte, Nat.reduceEqDiff, Nat.reduceAdd, Int.reduceToNat, e, hc]
  intro hx
  refine ⟨Nat.le_refl _, 2 + k, ?_, by omega, by omega⟩
  push_cast; rfl
theorem eqB_tt : eqBF true (.bool true) (.bool true) = some (.bool false) := rfl
theorem eqB_ff : eqBF true (.bool false) (.bool false) = some (.bool false) := rfl
theorem sumL_shape {L : List Int} (h : isShape L = true) : Fits L := desc_fits (shape_facts h).2.1 (by have := (shape_facts h).1; omega)
/-- The law of Nakayama. -/
theorem nakayamaLaw_rets {X : Caller} (hX : Xok X) (L : List Int) (w : Int) (w0 : 0 ≤ w) (w1 : w < 256) (s : Value) (g : GH) (hs : SlR g s (ints L)) :
    Rets Try.prog X 8 [s, .int .u8 w] g (fun v g' lo => g.next ≤ lo ∧ v = .bool true) := by
  refine Rets.run hX.pres p8 (hX.free 8 (by decide) _ _) rfl fun ho => ?_
  simp +decide (disch := first | assumption | (apply GH.ok_push; assumption) | exact cellV_int _ _ | exact cellV_bool _ | omega) only [go_sem, ↓reduceIte, Nat.reduceEqDiff, Nat.reduceAdd, Int.reduceToNat]
  refine CallD.calm (few_rets hX L [] s _ g hs Sl2.nil) ?_
  rintro v G hx rfl
  have hn := hx.next
  have hs1 := hs.ext hx
  by_cases c : L.length ≤ 60
  case neg =>
    have hf : fewB L [] = false := by simp [fewB, c]
    simp +decide (disch := first | assumption | (apply GH.ok_push; assumption) | exact cellV_int _ _ | exact cellV_bool _ | omega) only [go_sem, ↓reduceIte, Nat.reduceEqDiff, Nat.reduceAdd, Int.reduceToNat, hf]
    refine CallD.calm (hX.alive G) ?_
    rintro v G1 hx1 rfl
    have hn1 := hx1.next
    simp +decide (disch := first | assumption | (apply GH.ok_push; assumption) | exact cellV_int _ _ | exact cellV_bool _ | omega) only [go_sem, ↓reduceIte, Nat.reduceEqDiff, Nat.reduceAdd, Int.reduceToNat]
    intro hx0
    exact ⟨by omega, rfl⟩
  have hf : fewB L [] = true := by simp [fewB, c]
  simp +decide (disch := first | assumption | (apply GH.ok_push; assumption) | exact cellV_int _ _ | exact cellV_bool _ | omega) only [go_sem, ↓reduceIte, Nat.reduceEqDiff, Nat.reduceAdd, Int.reduceToNat, hf]
  refine CallD.calm (refIsShape_rets hX L (by omega) s G hs1) ?_
  rintro v G1 hx1 rfl
  have hn1 := hx1.next
  have hs2 := hs1.ext hx1
  by_cases cS : isShape L = true
  case neg =>
    have cS' : isShape L = false := by simpa using cS
    simp +decide (disch := first | assumption | (apply GH.ok_push; assumption) | exact cellV_int _ _ | exact cellV_bool _ | omega) only [go_sem, ↓reduceIte, Nat.reduceEqDiff, Nat.reduceAdd, Int.reduceToNat, cS']
    refine CallD.calm (hX.alive G1) ?_
    rintro v G2 hx2 rfl
    have hn2 := hx2.next
    simp +decide (disch := first | assumption | (apply GH.ok_push; assumption) | exact cellV_int _ _ | exact cellV_bool _ | omega) only [go_sem, ↓reduceIte, Nat.reduceEqDiff, Nat.reduceAdd, Int.reduceToNat]
    intro hx0
    exact ⟨by omega, rfl⟩
  simp +decide (disch := first | assumption | (apply GH.ok_push; assumption) | exact cellV_int _ _ | exact cellV_bool _ | omega) only [go_sem, ↓reduceIte, Nat.reduceEqDiff, Nat.reduceAdd, Int.reduceToNat, cS]
  refine CallD.calm (wireNo_rets hX w w0 w1 G1) ?_
  rintro v G2 hx2 ⟨T, rfl, hT1, hT2⟩
  have hn2 := hx2.next
  have hs3 := hs2.ext hx2
  have hT : 2 ≤ T ∧ T ≤ 6 := ⟨hT1, hT2⟩
  have hW : isWires (T : Int) = true := by simp [isWires]; omega
  have hTn : ((T : Nat) : Int).toNat = T := Int.toNat_natCast T
  obtain ⟨k1, k2, k3⟩ := core_all hT cS
  have kit := core_iff hT cS
  have k40 := many_le hT cS
  have k0 := many_nonneg hT cS
  have eC : coreT L T = (coreM L T, manyM L T, 0) := by rw [coreT, if_pos ⟨cS, hW⟩, hTn]
  have eS : stripsT L T = (stripsM L T, 0) := by rw [stripsT, if_pos ⟨cS, hW⟩]; rfl
  have eI : isCoreT L T = (decide (manyM L T = 0), 0) := by rw [isCoreT, if_pos ⟨cS, hW⟩, hTn]
  have eJ : isCoreT (coreM L T) T = (true, 0) := by rw [isCoreT, if_pos ⟨k1, hW⟩, hTn, decide_eq_true k2]
  have hcl := (shape_facts k1).1
  simp +decide (disch := first | assumption | (apply GH.ok_push; assumption) | exact cellV_int _ _ | exact cellV_bool _ | omega) only [go_sem, ↓reduceIte, Nat.reduceEqDiff, Nat.reduceAdd, Int.reduceToNat]
  refine CallD.calm (coreT_rets hX L (by omega) T s G2 hs3) ?_
  rintro v G3 hx3 ⟨a, rfl, ha⟩
  have hn3 := hx3.next
  have hs4 := hs3.ext hx3
  rw [eC] at ha ⊢
  simp +decide (disch := first | assumption | (apply GH.ok_push; assumption) | exact cellV_int _ _ | exact cellV_bool _ | omega) only [go_sem, ↓reduceIte, Nat.reduceEqDiff, Nat.reduceAdd, Int.reduceToNat, ext30, ext31, ext32]
  refine CallD.calm (stripsT_rets hX L (by omega) T s G3 hs4) ?_
  rintro v G4 hx4 ⟨b, rfl, hb⟩
  have hn4 := hx4.next
  have hs5 := hs4.ext hx4
  have ha4 := ha.kept hx4.kept
  have hsm := stripsT_small L T
  rw [eS] at hb hsm ⊢
  simp +decide (disch := first | assumption | (apply GH.ok_push; assumption) | exact cellV_int _ _ | exact cellV_bool _ | omega) only [go_sem, ↓reduceIte, Nat.reduceEqDiff, Nat.reduceAdd, Int.reduceToNat, ext0, ext1]
  refine CallD.calm (isCoreT_rets hX L (by omega) T s G4 hs5) ?_
  rintro v G5 hx5 rfl
  have hn5 := hx5.next
  have hs6 := hs5.ext hx5
  have ha5 := ha4.kept hx5.kept
  have hb5 := hb.kept hx5.kept
  rw [eI]
  simp +decide (disch := first | assumption | (apply GH.ok_push; assumption) | exact cellV_int _ _ | exact cellV_bool _ | omega) only [go_sem, ↓reduceIte, Nat.reduceEqDiff, Nat.reduceAdd, Int.reduceToNat, ext0, ext1]
  refine CallD.calm (isCoreT_rets hX (coreM L T) (by omega) T a G5 ha5) ?_
  rintro v G6 hx6 rfl
  have hn6 := hx6.next
  have hs7 := hs6.ext hx6
  have ha6 := ha5.kept hx6.kept
  have hb6 := hb5.kept hx6.kept
  have hlb := hb6.len
  rw [eJ]
  simp only at hlb ha6 hb6 hsm
  have fin : ∀ (G7 : GH) (e0 : Env) (lo0 : Nat) (ks : List Fr), Kept G6 G7 → g.next ≤ lo0 → (ev e0 (.s 0) = s ∧ ev e0 (.s 5) = .int .i64 T ∧ ev e0 (.s 6) = a ∧ ev e0 (.s 7) = .int .i64 (manyM L T) ∧ ev e0 (.s 9) = b ∧ ev e0 (.s 15) = .int .i64 0) →
      (∀ e G lo, G.ok → lo ≤ G.next → g.next ≤ G.next → g.next ≤ lo → Wk Try.prog X (Qr r8 g (fun v g' lo => g.next ≤ lo ∧ v = .bool true)) (.O .normal ks e G lo)) →
      Wk Try.prog X (Qr r8 g (fun v g' lo => g.next ≤ lo ∧ v = .bool true)) (.C (.loop b8_0) (.blk 0 :: ks) e0 G7 lo0) := by
    intro G7 e0 lo0 ks hk7 hlo0 he0 hend
    refine Wk.loops (fun m e g' lo => Kept G6 g' ∧ g.next ≤ lo ∧ ∃ i : Nat, i + m = (stripsM L T).length ∧ (ev e (.s 0) = s ∧ ev e (.s 5) = .int .i64 T ∧ ev e (.s 6) = a ∧ ev e (.s 7) = .int .i64 (manyM L T) ∧ ev e (.s 9) = b ∧ ev e (.s 15) = .int .i64 i))
      (fun e g' lo => Kept G6 g' ∧ g.next ≤ lo) (n := (stripsM L T).length) ?_ ?_ ?_
    · exact ⟨hk7, hlo0, 0, by omega, he0⟩
    · rintro e g' lo h1 h2 ⟨hk, hlo⟩
      exact hend e g' lo h1 h2 (by have := hk.next; omega) hlo
    · rintro m e g' lo ho' hl' ih out ⟨hk, hlo, i, hi, he⟩
      have hkn := hk.next
      by_cases ci : i < (stripsM L T).length
      · obtain ⟨u, j1, o1, hj1, hp1, hp2, hu⟩ := (hb6.kept hk).ptr ci
        have hp1 := hp1 (i : Int) rfl
        have hmem : (stripsM L T).getD i [] ∈ stripsM L T := by rw [List.getD_eq_getElem?_getD, List.getElem?_eq_getElem ci]; exact List.getElem_mem _
        obtain ⟨q1, q2, q3, q4⟩ := strip_facts hT cS hmem
        obtain ⟨M, hM⟩ : ∃ M, (stripsM L T).getD i [] = M := ⟨_, rfl⟩
        rw [hM] at hu q1 q2 q3 q4 hmem
        have hMl := (shape_facts q1).1
        have hL3 := (shape_facts cS).2.2
        have hL0 := sumL_nonneg (shape_facts cS).2.1
        simp +decide (disch := first | assumption | (apply GH.ok_push; assumption) | exact cellV_int _ _ | exact cellV_bool _ | omega) only [go_sem, ↓reduceIte, Nat.reduceEqDiff, Nat.reduceAdd, Int.reduceToNat, he, hlb, hp1, hp2]
        refine CallD.calm (refIsShape_rets hX M (by omega) u g' hu) ?_
        rintro v G8 hx8 rfl
        have hn8 := hx8.next
        have hk8 := hk.ext hx8
        have hu8 := hu.ext hx8
        obtain ⟨j2, o2, hj2, hr1, hr2, _⟩ : ∃ j o, j < G8.next ∧ (∀ n : Int, n = i → iaddrSF 1 b (.int .i64 n) = some (.pointer (some ⟨j, o, none⟩))) ∧ (∀ lo, loadF none (G8.at lo) (.pointer (some ⟨j, o, none⟩)) = some u) ∧ True := by
          refine ⟨j1, o1, by omega, fun n hn => by rw [hn]; exact hp1, fun lo => ?_, trivial⟩
          have := hp2 lo
          rw [load_eq] at this ⊢
          rw [hx8.gets _ hj1]; exact this
        have hr1 := hr1 (i : Int) rfl
        simp +decide (disch := first | assumption | (apply GH.ok_push; assumption) | exact cellV_int _ _ | exact cellV_bool _ | omega) only [go_sem, ↓reduceIte, Nat.reduceEqDiff, Nat.reduceAdd, Int.reduceToNat, he, q1, hr1, hr2]
        refine CallD.calm (refSum_rets hX M (sumL_shape q1) u G8 hu8) ?_
        rintro v G9 hx9 rfl
        have hn9 := hx9.next
        have hk9 := hk8.ext hx9
        have hu9 := hu8.ext hx9
        simp +decide (disch := first | assumption | (apply GH.ok_push; assumption) | exact cellV_int _ _ | exact cellV_bool _ | omega) only [go_sem, ↓reduceIte, Nat.reduceEqDiff, Nat.reduceAdd, Int.reduceToNat, he]
        refine CallD.calm (refSum_rets hX L (sumL_shape cS) s G9 (hs7.kept hk9)) ?_
        rintro v G10 hx10 rfl
        have hn10 := hx10.next
        have hk10 := hk9.ext hx10
        have hu10 := hu9.ext hx10
        have hr3 : ∀ lo, loadF none (G10.at lo) (.pointer (some ⟨j2, o2, none⟩)) = some u := fun lo => by
          have := hr2 lo
          rw [load_eq] at this ⊢
          rw [hx10.gets _ (by omega), hx9.gets _ hj2]; exact this
        have eM : coreT M T = (coreM L T, manyM L T - 1, 0) := by rw [coreT, if_pos ⟨q1, hW⟩, hTn, q3, q4]
        simp +decide (disch := first | assumption | (apply GH.ok_push; assumption) | exact cellV_int _ _ | exact cellV_bool _ | omega) only [go_sem, ↓reduceIte, Nat.reduceEqDiff, Nat.reduceAdd, Int.reduceToNat, he, q2, hr1, hr3]
        refine CallD.calm (coreT_rets hX M (by omega) T u G10 hu10) ?_
        rintro v G11 hx11 ⟨d, rfl, hd⟩
        have hn11 := hx11.next
        have hk11 := hk10.ext hx11
        rw [eM] at hd ⊢
        simp +decide (disch := first | assumption | (apply GH.ok_push; assumption) | exact cellV_int _ _ | exact cellV_bool _ | omega) only [go_sem, ↓reduceIte, Nat.reduceEqDiff, Nat.reduceAdd, Int.reduceToNat, he, ext30, ext31, ext32]
        refine CallD.calm (same_rets hX (coreM L T) (coreM L T) (by omega) (by omega) a d G11 (ha6.kept hk11) hd) ?_
        rintro v G12 hx12 rfl
        have hn12 := hx12.next
        rw [decide_eq_true rfl]
        simp +decide (disch := first | assumption | (apply GH.ok_push; assumption) | exact cellV_int _ _ | exact cellV_bool _ | omega) only [go_sem, ↓reduceIte, Nat.reduceEqDiff, Nat.reduceAdd, Int.reduceToNat, he]
        exact ih (m - 1) _ _ _ (by omega) ⟨hk11.ext hx12, by omega, i + 1, by omega, (by simp +decide (disch := first | assumption | (apply GH.ok_push; assumption) | exact cellV_int _ _ | exact cellV_bool _ | omega) only [go_sem, ↓reduceIte, Nat.reduceEqDiff, Nat.reduceAdd, Int.reduceToNat, he]; first | done | exact rfl)⟩
      · simp +decide (disch := first | assumption | (apply GH.ok_push; assumption) | exact cellV_int _ _ | exact cellV_bool _ | omega) only [go_sem, ↓reduceIte, Nat.reduceEqDiff, Nat.reduceAdd, Int.reduceToNat, he, hlb]
        exact out _ _ _ ⟨hk, hlo⟩
  by_cases z : manyM L T = 0
  · have z1 := kit.2.2 z
    have z2 := kit.1.2 z
    have hlz : ((stripsM L T).length : Int) = 0 := by rw [z1]; rfl
    rw [decide_eq_true z]
    simp +decide (disch := first | assumption | (apply GH.ok_push; assumption) | exact cellV_int _ _ | exact cellV_bool _ | omega) only [go_sem, ↓reduceIte, Nat.reduceEqDiff, Nat.reduceAdd, Int.reduceToNat, ext0, ext1, hlb, hlz, z, eqB_tt, eqB_ff]
    refine CallD.calm (same_rets hX (coreM L T) L (by omega) (by omega) a s G6 ha6 hs7) ?_
    rintro v G7 hx7 rfl
    have hn7 := hx7.next
    rw [decide_eq_true z2]
    simp +decide (disch := first | assumption | (apply GH.ok_push; assumption) | exact cellV_int _ _ | exact cellV_bool _ | omega) only [go_sem, ↓reduceIte, Nat.reduceEqDiff, Nat.reduceAdd, Int.reduceToNat, eqB_tt, eqB_ff]
    refine fin G7 _ _ _ hx7.kept (by omega) (by simp +decide (disch := first | assumption | (apply GH.ok_push; assumption) | exact cellV_int _ _ | exact cellV_bool _ | omega) only [go_sem, ↓reduceIte, Nat.reduceEqDiff, Nat.reduceAdd, Int.reduceToNat, z]; first | done | exact rfl) ?_
    intro e G lo hoG hlG hnG hloG
    simp +decide (disch := first | assumption | (apply GH.ok_push; assumption) | exact cellV_int _ _ | exact cellV_bool _ | omega) only [go_sem, ↓reduceIte, Nat.reduceEqDiff, Nat.reduceAdd, Int.reduceToNat]
    refine CallD.calm (hX.alive G) ?_
    rintro v G8 hx8 rfl
    have hn8 := hx8.next
    simp +decide (disch := first | assumption | (apply GH.ok_push; assumption) | exact cellV_int _ _ | exact cellV_bool _ | omega) only [go_sem, ↓reduceIte, Nat.reduceEqDiff, Nat.reduceAdd, Int.reduceToNat]
    intro hx0
    exact ⟨by omega, rfl⟩
  · have z1 : stripsM L T ≠ [] := fun h => z (kit.2.1 h)
    have z2 : ¬ coreM L T = L := fun h => z (kit.1.1 h)
    have hlz : ¬ ((stripsM L T).length : Int) = 0 := by have := List.length_pos_iff.2 z1; omega
    rw [decide_eq_false z]
    simp +decide (disch := first | assumption | (apply GH.ok_push; assumption) | exact cellV_int _ _ | exact cellV_bool _ | omega) only [go_sem, ↓reduceIte, Nat.reduceEqDiff, Nat.reduceAdd, Int.reduceToNat, ext0, ext1, hlb, hlz, z, eqB_tt, eqB_ff]
    refine CallD.calm (same_rets hX (coreM L T) L (by omega) (by omega) a s G6 ha6 hs7) ?_
    rintro v G7 hx7 rfl
    have hn7 := hx7.next
    rw [decide_eq_false z2]
    simp +decide (disch := first | assumption | (apply GH.ok_push; assumption) | exact cellV_int _ _ | exact cellV_bool _ | omega) only [go_sem, ↓reduceIte, Nat.reduceEqDiff, Nat.reduceAdd, Int.reduceToNat, eqB_tt, eqB_ff]
    refine fin G7 _ _ _ hx7.kept (by omega) (by simp +decide (disch := first | assumption | (apply GH.ok_push; assumption) | exact cellV_int _ _ | exact cellV_bool _ | omega) only [go_sem, ↓reduceIte, Nat.reduceEqDiff, Nat.reduceAdd, Int.reduceToNat]; first | done | exact rfl) ?_
    intro e G lo hoG hlG hnG hloG
    simp +decide (disch := first | assumption | (apply GH.ok_push; assumption) | exact cellV_int _ _ | exact cellV_bool _ | omega) only [go_sem, ↓reduceIte, Nat.reduceEqDiff, Nat.reduceAdd, Int.reduceToNat]
    refine CallD.calm (hX.alive G) ?_
    rintro v G8 hx8 rfl
    have hn8 := hx8.next
    simp +decide (disch := first | assumption | (apply GH.ok_push; assumption) | exact cellV_int _ _ | exact cellV_bool _ | omega) only [go_sem, ↓reduceIte, Nat.reduceEqDiff, Nat.reduceAdd, Int.reduceToNat]
    intro hx0
    exact ⟨by omega, rfl⟩
end Go.Proofs.Ytieliilnnfjijaa
