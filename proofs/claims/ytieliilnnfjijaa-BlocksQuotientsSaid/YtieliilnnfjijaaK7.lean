import Derived.Test.YtieliilnnfjijaaK6
set_option linter.all false
set_option linter.unusedSimpArgs false
set_option linter.unnecessarySimpa false
set_option linter.unusedVariables false
set_option linter.unusedSectionVars false
set_option maxRecDepth 100000
set_option maxHeartbeats 4000000
set_option linter.unusedSimpArgs false
set_option linter.unusedVariables false
namespace Go.Proofs.Ytieliilnnfjijaa
open Go.Ds
/-! ## Hooks and beads -/
theorem hooks_consI {y : Int} {L : List Int} (hd : desc y L = true) : hooksL (y :: L) = rng y.toNat (fun c => y - c + cnt L c) :: hooksL L := by
  unfold hooksL
  rw [List.length_cons, List.range_succ_eq_map, List.map_cons, List.map_map]
  congr 1
  · unfold hookRow
    simp only [List.getD_cons_zero]
    refine rng_congr fun c hc => ?_
    unfold hookV
    simp only [List.getD_cons_zero, cnt]
    rw [if_pos (by omega)]; omega
  · apply List.map_congr_left
    intro r hr
    rw [List.mem_range] at hr
    show hookRow (y :: L) (r + 1) = hookRow L r
    unfold hookRow
    simp only [List.getD_cons_succ]
    refine rng_congr fun c hc => ?_
    unfold hookV
    simp only [List.getD_cons_succ, cnt]
    have := (desc_getD hd hr).2
    rw [if_pos (by omega)]; push_cast; omega
/-- Where the hooks of a row on top end. -/
def endsX (L : List Int) (n y : Nat) : List Int := rng y (fun c => (n : Int) + c - cnt L c)
theorem cnt_zero : ∀ {L : List Int} {m : Int}, desc m L = true → ∀ c, m ≤ c → cnt L c = 0
  | [], _, _, _, _ => rfl
  | x :: L, m, h, c, hc => by
    simp only [desc, Bool.and_eq_true, decide_eq_true_eq] at h
    rw [cnt, if_neg (by omega), cnt_zero h.2 c (by omega)]; rfl
theorem rng_add (a b : Nat) (f : Nat → Int) : rng (a + b) f = rng a f ++ rng b (fun i => f (a + i)) := by
  induction b with
  | zero => simp [rng]
  | succ b ih => rw [← Nat.add_assoc, rng_succ, ih, rng_succ, List.append_assoc]
theorem beads_ends (p : Int → Bool) : ∀ {L : List Int} {y : Nat}, desc y L = true → (beadsR L L.length).countP p + (endsX L L.length y).countP p = (rng (L.length + y) (fun i => (i : Int))).countP p
  | [], y, _ => by
    have : endsX [] 0 y = rng (0 + y) (fun i => (i : Int)) := by
      unfold endsX
      rw [Nat.zero_add]
      exact rng_congr fun c _ => by simp [cnt]
    rw [show ([] : List Int).length = 0 from rfl, this]; simp [beadsR, rng]
  | z :: L, y, h => by
    simp only [desc, Bool.and_eq_true, decide_eq_true_eq] at h
    obtain ⟨Z, rfl⟩ := Int.eq_ofNat_of_zero_le (show 0 ≤ z by omega)
    obtain ⟨d, hd⟩ : ∃ d, y = Z + d := ⟨y - Z, by omega⟩
    have ih := beads_ends p (L := L) (y := Z) h.2
    rw [List.length_cons, beadsR_cons]
    have e1 : endsX (Z :: L) (L.length + 1) y = endsX L L.length Z ++ rng d (fun i => (L.length : Int) + 1 + (Z + i)) := by
      unfold endsX
      rw [hd, rng_add]
      congr 1
      · refine rng_congr fun c hc => ?_
        rw [cnt, if_pos (by omega)]; push_cast; omega
      · refine rng_congr fun c hc => ?_
        rw [cnt, if_neg (by push_cast; omega), cnt_zero h.2 _ (by push_cast; omega)]; push_cast; omega
    have e2 : rng (L.length + 1 + y) (fun i => (i : Int)) = rng (L.length + Z) (fun i => (i : Int)) ++ ((Z : Int) + L.length) :: rng d (fun i => (L.length : Int) + 1 + (Z + i)) := by
      rw [show L.length + 1 + y = (L.length + Z) + (d + 1) by omega, rng_add, rng_cons]
      congr 1
      congr 1
      · push_cast; omega
      · exact rng_congr fun i _ => by push_cast; omega
    rw [e1, e2, List.countP_cons, List.countP_append, List.countP_append, List.countP_cons, ← ih]
    omega
theorem count_one : ∀ {B : List Int} {a : Int}, B.Nodup → a ∈ B → B.count a = 1
  | [], a, _, h => by cases h
  | x :: B, a, hn, h => by
    rw [List.nodup_cons] at hn
    by_cases c : x = a
    · subst c
      rw [List.count_cons_self, List.count_eq_zero.2 hn.1]
    · rw [List.count_cons_of_ne c]
      rcases List.mem_cons.1 h with q | q
      · exact absurd q.symm c
      · exact count_one hn.2 q
theorem rng_map (n : Nat) (f : Nat → Int) (h : Int → Int) : (rng n f).map h = rng n (fun i => h (f i)) := by
  unfold rng; rw [List.map_map]; rfl
theorem countP_rng_congr {n : Nat} {f : Nat → Int} {p q : Int → Bool} (h : ∀ i, i < n → p (f i) = q (f i)) : (rng n f).countP p = (rng n f).countP q := by
  apply List.countP_congr
  intro x hx
  simp only [rng, List.mem_map, List.mem_range] at hx
  obtain ⟨i, hi, rfl⟩ := hx
  rw [h i hi]
section
variable {T : Nat} (hT : 2 ≤ T ∧ T ≤ 6)
include hT
/-- Numbers below b that b is over by a number divisible by T. -/
theorem below_div : ∀ b : Nat, ((rng b (fun i => (i : Int))).countP (fun x => decide (((b : Int) - x) % T = 0)) : Int) = (b : Int) / T
  | 0 => by simp [rng]
  | b + 1 => by
    have ih := below_div b
    have e : rng (b + 1) (fun i => (i : Int)) = 0 :: (rng b (fun i => (i : Int))).map (· + 1) := by
      rw [rng_cons, rng_map]; congr 1
    rw [e, List.countP_cons, List.countP_map]
    have e2 : (rng b (fun i => (i : Int))).countP ((fun x => decide ((((b + 1 : Nat) : Int) - x) % T = 0)) ∘ (· + 1)) = (rng b (fun i => (i : Int))).countP (fun x => decide (((b : Int) - x) % T = 0)) := by
      apply List.countP_congr
      intro x _
      simp only [Function.comp, decide_eq_true_eq]
      rw [show ((b + 1 : Nat) : Int) - (x + 1) = (b : Int) - x by push_cast; omega]
    rw [e2]
    push_cast
    rw [ih]
    simp only [decide_eq_true_eq, Int.sub_zero]
    rcases five hT with rfl | rfl | rfl | rfl | rfl <;> split <;> omega
theorem below_one (b : Nat) : (rng b (fun i => (i : Int))).countP (fun x => decide ((b : Int) - x = T)) = if T ≤ b then 1 else 0 := by
  have key : ∀ n : Nat, (rng n (fun i => (i : Int))).countP (fun x => decide ((b : Int) - x = T)) = if T ≤ b ∧ b < n + T then 1 else 0 := by
    intro n
    induction n with
    | zero => rw [if_neg (by omega)]; rfl
    | succ n ih =>
      rw [rng_succ, List.countP_append, ih, List.countP_singleton]
      simp only [decide_eq_true_eq]
      by_cases c : (b : Int) - n = T
      · rw [if_pos c, if_neg (by omega), if_pos (by omega)]
      · rw [if_neg c]
        by_cases d : T ≤ b ∧ b < n + T
        · rw [if_pos d, if_pos (by omega)]
        · rw [if_neg d, if_neg (by omega)]
  rw [key b]
  by_cases c : T ≤ b
  · rw [if_pos c, if_pos (by omega)]
  · rw [if_neg c, if_neg (by omega)]
theorem wire_count {B : List Int} (hB : ∀ x ∈ B, 0 ≤ x) (b : Nat) : B.countP (fun x => decide (((b : Int) - x) % T = 0)) = (wireL B T (b % T)).length := by
  unfold wireL
  rw [List.length_map, ← List.countP_eq_length_filter]
  apply List.countP_congr
  intro x hx
  have h0 := hB x hx
  simp only [decide_eq_true_eq]
  rw [(td h0 _).1]
  push_cast
  rcases five hT with rfl | rfl | rfl | rfl | rfl <;> omega
theorem countP_mem {B : List Int} (hB : B.Nodup) (b : Int) : B.countP (fun x => decide (b - x = T)) = if b - T ∈ B then 1 else 0 := by
  have e : B.countP (fun x => decide (b - x = T)) = B.count (b - T) := by
    rw [List.count]
    apply List.countP_congr
    intro x _
    simp only [decide_eq_true_eq, beq_iff_eq]
    omega
  rw [e]
  by_cases c : b - (T : Int) ∈ B
  · rw [if_pos c]
    exact count_one hB c
  · rw [if_neg c]
    exact List.count_eq_zero.2 c
/-- The hooks of a row on top. -/
theorem row_count {y : Int} {L : List Int} (hy : 0 ≤ y) (hd : desc y L = true) (q : Int → Bool) : (rng y.toNat (fun c => y - c + cnt L c)).countP q + (beadsR L L.length).countP (fun x => q (y + L.length - x)) = (rng (L.length + y.toNat) (fun i => (i : Int))).countP (fun x => q (y + L.length - x)) := by
  obtain ⟨Y, rfl⟩ := Int.eq_ofNat_of_zero_le hy
  have := beads_ends (fun x => q ((Y : Int) + L.length - x)) hd
  rw [Int.toNat_natCast]
  rw [← this, Nat.add_comm]
  congr 1
  have e : rng Y (fun c => (Y : Int) - c + cnt L c) = (endsX L L.length Y).map (fun x => (Y : Int) + L.length - x) := by
    unfold endsX
    rw [rng_map]
    exact rng_congr fun c _ => by omega
  rw [e, List.countP_map]; rfl
theorem val_cons {b : Nat} {B : List Int} (hB : ∀ x ∈ B, 0 ≤ x) : valB ((b : Int) :: B) T = valB B T + ((b : Int) / T - (wireL B T (b % T)).length) := by
  have hk : b % T < T := Nat.mod_lt _ (by omega)
  have hmod : ((b : Nat) : Int).tmod T = ((b % T : Nat) : Int) := rfl
  have hdiv : ((b : Nat) : Int).tdiv T = (b : Int) / T := (td (by omega) _).2
  have key : ∀ n, n ≤ T → sumL (rng n (termB ((b : Int) :: B) T)) = sumL (rng n (termB B T)) + (if b % T < n then ((b : Int) / T - (wireL B T (b % T)).length) else 0) := by
    intro n
    induction n with
    | zero => intro _; simp [rng, sumL]
    | succ n ih =>
      intro hn
      rw [rng_succ, rng_succ, sumL_app, sumL_app, ih (by omega)]
      simp only [sumL]
      unfold termB
      rw [wireL_cons, hmod, hdiv]
      by_cases c : b % T = n
      · rw [if_neg (by omega), if_pos (by omega), if_pos (by omega), List.singleton_append, sumL, List.length_cons, tri, c]
        omega
      · by_cases d : b % T < n
        · rw [if_pos d, if_neg (by omega), if_pos (by omega), List.nil_append]; omega
        · rw [if_neg d, if_neg (by omega), if_neg (by omega), List.nil_append]; omega
  unfold valB
  rw [key T (Nat.le_refl _), if_pos hk]
/-- As many hooks are divisible by T as strips are taken off. -/
theorem hooks_div : ∀ {L : List Int} {m : Int}, desc m L = true → ((hooksL L).flatten.countP (fun h : Int => decide (h % T = 0)) : Int) = valB (beadsR L L.length) T
  | [], m, _ => by
    have : valB (beadsR [] 0) T = 0 := (val_zero hT (zeros_dsc 0)).2.2 fun k hk => rfl
    rw [show ([] : List Int).length = 0 from rfl, this]; rfl
  | y :: L, m, h => by
    simp only [desc, Bool.and_eq_true, decide_eq_true_eq] at h
    have ih := hooks_div h.2
    obtain ⟨Y, rfl⟩ := Int.eq_ofNat_of_zero_le (show 0 ≤ y by omega)
    have hrow := row_count hT (y := (Y : Int)) (by omega) h.2 (fun h : Int => decide (h % T = 0))
    have hB := (beadsR_dsc (n := L.length) h.2).2
    rw [hooks_consI h.2, List.flatten_cons, List.countP_append, List.length_cons, beadsR_cons]
    have e : (Y : Int) + L.length = ((L.length + Y : Nat) : Int) := by push_cast; omega
    rw [e] at hrow ⊢
    rw [Int.toNat_natCast] at hrow ⊢
    rw [val_cons hT hB, ← ih]
    have h1 := below_div hT (L.length + Y)
    have h2 := wire_count hT hB (L.length + Y)
    omega
theorem canB_cons0 {b : Int} {B : List Int} : canB (b :: B) T 0 = (decide ((T : Int) ≤ b) && !decide (b - T ∈ B)) := by
  unfold canB
  simp only [List.getD_cons_zero]
  congr 2
  refine decide_eq_decide.2 ?_
  rw [List.mem_cons]
  exact ⟨fun h => h.resolve_left (by omega), .inr⟩
theorem canB_cons1 {b : Int} {B : List Int} (hb : ∀ x ∈ B, x < b) {i : Nat} (hi : i < B.length) : canB (b :: B) T (i + 1) = canB B T i := by
  unfold canB
  simp only [List.getD_cons_succ]
  have := hb _ (mem_getD hi)
  congr 2
  refine decide_eq_decide.2 ?_
  rw [List.mem_cons]
  exact ⟨fun h => h.resolve_left (by omega), .inr⟩
theorem strips_cons {b : Int} {B : List Int} (hb : ∀ x ∈ B, x < b) : (stripsB (b :: B) T).length = (if (T : Int) ≤ b ∧ b - T ∉ B then 1 else 0) + (stripsB B T).length := by
  unfold stripsB stripsK
  rw [List.length_map, List.length_map, List.length_cons, List.range_succ_eq_map, List.filter_cons, List.filter_map]
  have e : (List.range B.length).filter (canB (b :: B) T ∘ Nat.succ) = (List.range B.length).filter (canB B T) := by
    apply List.filter_congr
    intro i hi
    exact canB_cons1 hT hb (List.mem_range.1 hi)
  rw [e, canB_cons0 hT]
  by_cases c : (T : Int) ≤ b ∧ b - T ∉ B
  · rw [if_pos c, decide_eq_true c.1, decide_eq_false c.2]
    simp; omega
  · rw [if_neg c]
    have : (decide ((T : Int) ≤ b) && !decide (b - T ∈ B)) = false := by
      rcases Decidable.not_and_iff_or_not.1 c with h | h
      · rw [decide_eq_false h]; rfl
      · rw [decide_eq_true (Decidable.not_not.1 h)]; simp
    rw [this]; simp
theorem hooks_one : ∀ {L : List Int} {m : Int}, desc m L = true → (hooksL L).flatten.countP (fun h : Int => decide (h = T)) = (stripsB (beadsR L L.length) T).length
  | [], m, _ => rfl
  | y :: L, m, h => by
    simp only [desc, Bool.and_eq_true, decide_eq_true_eq] at h
    have ih := hooks_one h.2
    obtain ⟨Y, rfl⟩ := Int.eq_ofNat_of_zero_le (show 0 ≤ y by omega)
    have hrow := row_count hT (y := (Y : Int)) (by omega) h.2 (fun h : Int => decide (h = T))
    have hD := beadsR_dsc (n := L.length) h.2
    have hlt : ∀ x ∈ beadsR L L.length, x < (Y : Int) + L.length := fun x hx => (beadsR_lt (m := (Y : Int)) (by omega) h.2 x hx).2
    rw [hooks_consI h.2, List.flatten_cons, List.countP_append, List.length_cons, beadsR_cons, strips_cons hT hlt, ih]
    have e : (Y : Int) + L.length = ((L.length + Y : Nat) : Int) := by push_cast; omega
    rw [e] at hrow ⊢
    rw [Int.toNat_natCast] at hrow ⊢
    have h1 := below_one hT (L.length + Y)
    have h2 := countP_mem hT hD.nodup ((L.length + Y : Nat) : Int)
    rw [h1, h2] at hrow
    have hle : T ≤ L.length + Y ↔ (T : Int) ≤ ((L.length + Y : Nat) : Int) := by omega
    have hmem : (((L.length + Y : Nat) : Int) - T ∈ beadsR L L.length) → T ≤ L.length + Y := fun hm => by have := hD.2 _ hm; omega
    by_cases c : T ≤ L.length + Y
    · rw [if_pos c] at hrow
      by_cases d : ((L.length + Y : Nat) : Int) - T ∈ beadsR L L.length
      · rw [if_pos d] at hrow
        rw [if_neg fun q => q.2 d]; omega
      · rw [if_neg d] at hrow
        rw [if_pos ⟨hle.1 c, d⟩]; omega
    · rw [if_neg c] at hrow
      rw [if_neg fun q => c (hle.2 q.1)]; omega
end
end Go.Proofs.Ytieliilnnfjijaa
set_option maxRecDepth 100000
set_option maxHeartbeats 4000000
set_option linter.unusedSimpArgs false
set_option linter.unusedVariables false
namespace Go.Proofs.Ytieliilnnfjijaa
open Go.Ds
/-! ## Shapes turned -/
theorem rng_mem {n : Nat} {f : Nat → Int} {y : Int} : y ∈ rng n f ↔ ∃ i, i < n ∧ f i = y := by
  simp [rng, List.mem_map, List.mem_range]
theorem cnt_le_of {L : List Int} {c d : Int} (h : c ≤ d) : cnt L d ≤ cnt L c := by
  induction L with
  | nil => exact Int.le_refl _
  | cons x L ih => simp only [cnt]; split <;> split <;> omega
theorem zeros_count (p : Int → Bool) : ∀ m, (beadsR [] m).countP p = (rng m (fun i => (i : Int))).countP p
  | 0 => rfl
  | m + 1 => by rw [beadsR_nil_succ, rng_succ, List.countP_cons, List.countP_append, zeros_count p m, List.countP_singleton]
theorem beads_endsP (p : Int → Bool) : ∀ {L : List Int} {m y : Nat}, desc y L = true → L.length ≤ m → (beadsR L m).countP p + (endsX L m y).countP p = (rng (m + y) (fun i => (i : Int))).countP p
  | [], m, y, _, _ => by
    have : endsX [] m y = rng y (fun c => (m : Int) + c) := rng_congr fun c _ => by simp [cnt]
    rw [rng_add, List.countP_append, this, zeros_count]
    congr 1
  | z :: L, 0, y, _, h => by simp at h
  | z :: L, m + 1, y, h, hl => by
    simp only [desc, Bool.and_eq_true, decide_eq_true_eq] at h
    obtain ⟨Z, rfl⟩ := Int.eq_ofNat_of_zero_le (show 0 ≤ z by omega)
    obtain ⟨d, hd⟩ : ∃ d, y = Z + d := ⟨y - Z, by omega⟩
    have ih := beads_endsP p (L := L) (m := m) (y := Z) h.2 (by simpa using hl)
    rw [beadsR_cons]
    have e1 : endsX (Z :: L) (m + 1) y = endsX L m Z ++ rng d (fun i => (m : Int) + 1 + (Z + i)) := by
      unfold endsX
      rw [hd, rng_add]
      congr 1
      · refine rng_congr fun c hc => ?_
        rw [cnt, if_pos (by omega)]; push_cast; omega
      · refine rng_congr fun c hc => ?_
        rw [cnt, if_neg (by push_cast; omega), cnt_zero h.2 _ (by push_cast; omega)]; push_cast; omega
    have e2 : rng (m + 1 + y) (fun i => (i : Int)) = rng (m + Z) (fun i => (i : Int)) ++ ((Z : Int) + m) :: rng d (fun i => (m : Int) + 1 + (Z + i)) := by
      rw [show m + 1 + y = (m + Z) + (d + 1) by omega, rng_add, rng_cons]
      congr 1
      congr 1
      · push_cast; omega
      · exact rng_congr fun i _ => by push_cast; omega
    rw [e1, e2, List.countP_cons, List.countP_append, List.countP_append, List.countP_cons, ← ih]
    omega
theorem rng_one {n : Nat} {x : Int} (h0 : 0 ≤ x) (h1 : x < n) : (rng n (fun i => (i : Int))).countP (fun y => decide (y = x)) = 1 := by
  induction n with
  | zero => omega
  | succ n ih =>
    rw [rng_succ, List.countP_append, List.countP_singleton]
    simp only [decide_eq_true_eq]
    by_cases c : (n : Int) = x
    · rw [if_pos c]
      have : (rng n (fun i => (i : Int))).countP (fun y => decide (y = x)) = 0 := by
        rw [List.countP_eq_zero]
        intro y hy
        obtain ⟨i, hi, rfl⟩ := rng_mem.1 hy
        simp; omega
      omega
    · rw [if_neg c, ih (by omega)]
theorem mem_countP {B : List Int} {x : Int} : x ∈ B ↔ B.countP (fun y => decide (y = x)) ≠ 0 := by
  rw [Ne, List.countP_eq_zero]
  constructor
  · intro h q; exact q x h (by simp)
  · intro h
    refine Classical.byContradiction fun hn => h fun y hy q => ?_
    simp at q; subst q; exact hn hy
/-- Every number below is a bead or an end. -/
theorem bead_or_end {L : List Int} {m y : Nat} (hd : desc y L = true) (hl : L.length ≤ m) {x : Int} (h0 : 0 ≤ x) (h1 : x < (m : Int) + y) : x ∈ beadsR L m ↔ x ∉ endsX L m y := by
  have h := beads_endsP (fun z => decide (z = x)) hd hl
  rw [rng_one h0 (by push_cast; omega)] at h
  have hnd := (beadsR_dsc (n := m) hd).nodup
  rw [mem_countP, Ne, mem_countP, Ne]
  omega
theorem desc_rng : ∀ {k : Nat} {f : Nat → Int} {m : Int}, (∀ i, i < k → 1 ≤ f i) → (∀ i, i + 1 < k → f (i + 1) ≤ f i) → (0 < k → f 0 ≤ m) → desc m (rng k f) = true
  | 0, _, _, _, _, _ => rfl
  | k + 1, f, m, h1, h2, h3 => by
    rw [rng_cons, desc, desc_rng (k := k) (f := fun i => f (i + 1)) (m := f 0) (fun i hi => h1 (i + 1) (by omega)) (fun i hi => h2 (i + 1) (by omega)) (fun hk => h2 0 (by omega))]
    rw [decide_eq_true (h1 0 (by omega)), decide_eq_true (h3 (by omega))]; rfl
theorem desc_drop : ∀ {L : List Int} {m : Int} {r : Nat}, desc m L = true → r < L.length → desc (L.getD r 0) (L.drop r) = true
  | [], m, r, _, h => by simp at h
  | x :: L, m, 0, h, _ => by
    simp only [List.getD_cons_zero, List.drop_zero]
    refine desc_mono h fun y hy => ?_
    simp only [desc, Bool.and_eq_true, decide_eq_true_eq] at h
    rcases List.mem_cons.1 hy with rfl | hy
    · exact Int.le_refl _
    · exact (desc_le h.2 y hy).2
  | x :: L, m, r + 1, h, hr => by
    simp only [desc, Bool.and_eq_true, decide_eq_true_eq] at h
    simp only [List.getD_cons_succ, List.drop_succ_cons]
    exact desc_drop h.2 (by simpa using hr)
theorem cnt_iff {L : List Int} {m : Int} (hd : desc m L = true) {r : Nat} (hr : r < L.length) (c : Int) : (r : Int) < cnt L c ↔ c < L.getD r 0 := by
  constructor
  · intro h
    refine Classical.byContradiction fun hn => ?_
    have e : cnt L c = cnt (L.take r) c + cnt (L.drop r) c := by
      conv => lhs; rw [← List.take_append_drop r L]
      exact cnt_app _ _ _
    have h1 := (cnt_bnd (L.take r) c).2
    have h2 : (L.take r).length ≤ r := by simp; omega
    have h3 : cnt (L.drop r) c = 0 := by
      exact cnt_zero (desc_drop hd hr) c (by omega)
    omega
  · intro h
    have := cnt_above r c hd hr h
    omega
theorem head_eq {L : List Int} {m : Int} (hd : desc m L = true) (hl : 0 < L.length) : L.getD 0 0 = (head L : Int) ∧ 1 ≤ head L := by
  have := desc_getD hd hl
  simp only [head]; omega
theorem cnt_pos {L : List Int} {m : Int} (hd : desc m L = true) {c : Nat} (hc : c < head L) : 1 ≤ cnt L c := by
  have hl : 0 < L.length := by
    cases L with
    | nil => simp [head] at hc
    | cons x L => simp
  have h := head_eq hd hl
  have := (cnt_iff hd hl (c : Int)).2 (by omega)
  omega
theorem cnt_out {L : List Int} {m : Int} (hd : desc m L = true) {c : Nat} (hc : head L ≤ c) : cnt L c = 0 := by
  cases L with
  | nil => rfl
  | cons x L =>
    have h := head_eq hd (by simp)
    simp only [List.getD_cons_zero] at h
    have hd' := hd
    simp only [desc, Bool.and_eq_true, decide_eq_true_eq] at hd
    rw [cnt, if_neg (by omega), cnt_zero hd.2 _ (by omega)]; rfl
theorem colsL_getD' {L : List Int} {m : Int} (hd : desc m L = true) (c : Nat) : (colsL L).getD c 0 = cnt L c := by
  by_cases h : c < head L
  · rw [colsL, rng_get _ h]
  · rw [cnt_out hd (by omega), List.getD_eq_getElem?_getD, List.getElem?_eq_none (by rw [colsL, rng_len]; omega)]; rfl
theorem cols_desc {L : List Int} {m : Int} (hd : desc m L = true) : desc L.length (colsL L) = true :=
  desc_rng (fun i hi => cnt_pos hd hi) (fun i _ => cnt_le_of (by omega)) (fun _ => (cnt_bnd L _).2)
theorem cols_beads {L : List Int} {m0 : Int} (hd : desc m0 L = true) (m n : Nat) : beadsR (colsL L) n = (endsX L m n).map (fun x => (m : Int) + n - 1 - x) := by
  unfold beadsR endsX
  rw [rng_map]
  exact rng_congr fun c _ => by rw [colsL_getD' hd]; omega
/-- What stands at the other side where nothing stands at this one. -/
def Refl (W Z : List Int) (p : Nat) : Prop := ∀ y, y ∈ Z ↔ (0 ≤ y ∧ y < p ∧ (p : Int) - 1 - y ∉ W)
theorem cols_refl {L : List Int} {m n : Nat} (hd : desc n L = true) (hl : L.length ≤ m) : Refl (beadsR L m) (beadsR (colsL L) n) (m + n) := by
  intro y
  rw [cols_beads hd m n, List.mem_map]
  have hb : ∀ x ∈ endsX L m n, 0 ≤ x ∧ x < (m : Int) + n := by
    intro x hx
    obtain ⟨c, hc, rfl⟩ := rng_mem.1 hx
    have := cnt_bnd L c
    omega
  constructor
  · rintro ⟨x, hx, rfl⟩
    have := hb x hx
    refine ⟨by omega, by push_cast; omega, ?_⟩
    rw [show ((m + n : Nat) : Int) - 1 - ((m : Int) + n - 1 - x) = x by push_cast; omega, bead_or_end hd hl this.1 this.2]
    exact fun h => h hx
  · rintro ⟨h0, h1, h2⟩
    push_cast at h1 h2
    refine ⟨(m : Int) + n - 1 - y, ?_, by omega⟩
    rw [bead_or_end hd hl (by omega) (by omega)] at h2
    exact Classical.not_not.1 h2
theorem refl_shape {W Z : List Int} {p : Nat} (hW : Dsc W) (hZ : Dsc Z) (hb : ∀ x ∈ W, x < p) (h : Refl W Z p) : shapeL Z = colsL (shapeL W) ∧ Z.length + W.length = p := by
  have hm : W.length ≤ p := by
    cases W with
    | nil => exact Nat.zero_le _
    | cons x W =>
      have h1 := hW.len_le
      have h2 := hb x List.mem_cons_self
      simp only [List.length_cons]; omega
  have hd : desc ((p - W.length : Nat) : Int) (shapeL W) = true := shapeL_desc hW fun x hx => by have := hb x hx; omega
  have hl : (shapeL W).length ≤ W.length := shapeK_len W W.length
  have hr := cols_refl hd hl
  rw [shapeL_back hW, show W.length + (p - W.length) = p by omega] at hr
  have hcd := cols_desc hd
  have hZe : Z = beadsR (colsL (shapeL W)) (p - W.length) := Dsc.ext hZ (beadsR_dsc hcd) fun x => (h x).trans (hr x).symm
  have hhead : (colsL (shapeL W)).length ≤ p - W.length := by
    rw [colsL, rng_len]
    by_cases c : 0 < (shapeL W).length
    · have h1 := head_eq hd c
      have h2 := (desc_getD hd c).2
      omega
    · have : shapeL W = [] := List.eq_nil_of_length_eq_zero (by omega)
      rw [this]; simp [head]
  refine ⟨?_, ?_⟩
  · conv => lhs; rw [hZe]
    exact shapeL_beads hcd hhead
  · rw [hZe, beadsR_len]; omega
theorem cnt_rng : ∀ {k a : Nat} {f : Nat → Int} {r : Int}, a ≤ k → (∀ i, i < k → (r < f i ↔ i < a)) → cnt (rng k f) r = a
  | 0, a, f, r, ha, _ => by simp [rng, cnt]; omega
  | k + 1, a, f, r, ha, h => by
    rw [rng_succ, cnt_app]
    by_cases c : a = k + 1
    · have ih := cnt_rng (k := k) (a := k) (f := f) (r := r) (Nat.le_refl _) fun i hi => ⟨fun _ => hi, fun _ => (h i (by omega)).2 (by omega)⟩
      rw [ih]
      simp only [cnt]
      rw [if_pos ((h k (by omega)).2 (by omega))]; push_cast; omega
    · have ih := cnt_rng (k := k) (a := a) (f := f) (r := r) (by omega) fun i hi => h i (by omega)
      rw [ih]
      simp only [cnt]
      rw [if_neg fun q => by have := (h k (by omega)).1 q; omega]; omega
/-- Turned twice. -/
theorem cnt_cols {L : List Int} {m : Int} (hd : desc m L = true) {r : Nat} (hr : r < L.length) : cnt (colsL L) r = L.getD r 0 := by
  have h1 := desc_getD hd hr
  have hh := head_eq hd (by omega)
  have hle : L.getD r 0 ≤ head L := by
    have : ¬ (head L : Int) < L.getD r 0 := fun h => by
      have h2 := (cnt_iff hd hr (head L : Int)).2 h
      rw [cnt_out hd (Nat.le_refl _)] at h2; omega
    omega
  obtain ⟨a, ha⟩ := Int.eq_ofNat_of_zero_le (show 0 ≤ L.getD r 0 by omega)
  rw [ha] at hle ⊢
  unfold colsL
  refine cnt_rng (by omega) fun i _ => ?_
  rw [cnt_iff hd hr, ha]; omega
theorem head_cols {L : List Int} {m : Int} (hd : desc m L = true) : head (colsL L) = L.length := by
  unfold head
  rw [colsL_getD' hd]
  cases L with
  | nil => rfl
  | cons x L =>
    have h1 := (cnt_bnd (x :: L) ((0 : Nat) : Int)).2
    have h2 := (cnt_iff hd (r := L.length) (by simp) ((0 : Nat) : Int)).2 (by have := (desc_getD hd (i := L.length) (by simp)).1; omega)
    obtain ⟨z, hz⟩ : ∃ z, cnt (x :: L) ((0 : Nat) : Int) = z := ⟨_, rfl⟩
    rw [hz] at h1 h2 ⊢
    simp only [List.length_cons] at h1 ⊢
    omega
theorem cols_cols {L : List Int} {m : Int} (hd : desc m L = true) : colsL (colsL L) = L := by
  conv => lhs; unfold colsL
  rw [show rng (head L) (fun c => cnt L c) = colsL L from rfl, head_cols hd]
  conv => rhs; rw [list_rng L]
  exact rng_congr fun r hr => cnt_cols hd hr
theorem cols_sum : ∀ {L : List Int} {m : Int}, desc m L = true → sumL (colsL L) = sumL L
  | [], _, _ => rfl
  | x :: L, m, h => by
    have h' := h
    simp only [desc, Bool.and_eq_true, decide_eq_true_eq] at h
    obtain ⟨X, rfl⟩ := Int.eq_ofNat_of_zero_le (show 0 ≤ x by omega)
    have ih := cols_sum h.2
    have hh : head ((X : Int) :: L) = X := by simp [head]
    have hX : head L ≤ X := by
      cases L with
      | nil => simp [head]
      | cons y L =>
        have := h.2
        simp only [desc, Bool.and_eq_true, decide_eq_true_eq] at this
        simp [head]; omega
    obtain ⟨d, rfl⟩ : ∃ d, X = head L + d := ⟨X - head L, by omega⟩
    have add1 : ∀ (k : Nat) (f : Nat → Int), sumL (rng k (fun c => 1 + f c)) = k + sumL (rng k f) := by
      intro k f
      induction k with
      | zero => rfl
      | succ k ih => rw [rng_succ, rng_succ, sumL_app, sumL_app, ih]; simp only [sumL]; push_cast; omega
    have zero : ∀ (k : Nat) (f : Nat → Int), (∀ i, i < k → f i = 0) → sumL (rng k f) = 0 := by
      intro k f hf
      induction k with
      | zero => rfl
      | succ k ih => rw [rng_succ, sumL_app, ih fun i hi => hf i (by omega)]; simp only [sumL]; have := hf k (by omega); omega
    unfold colsL
    rw [hh]
    have e : rng (head L + d) (fun c => cnt ((head L + d : Nat) :: L) c) = rng (head L + d) (fun c => 1 + cnt L c) := rng_congr fun c hc => by
      rw [cnt, if_pos (by push_cast; omega)]
    have e2 : sumL (rng (head L + d) (fun c => cnt L c)) = sumL (colsL L) := by
      rw [rng_add, sumL_app, zero d _ fun i _ => cnt_out h.2 (by omega)]
      unfold colsL; omega
    show sumL (rng (head L + d) (fun c => cnt (((head L + d : Nat) : Int) :: L) c)) = _
    rw [e, add1, e2, ih]; rfl
end Go.Proofs.Ytieliilnnfjijaa
set_option maxRecDepth 100000
set_option maxHeartbeats 4000000
set_option linter.unusedSimpArgs false
set_option linter.unusedVariables false
namespace Go.Proofs.Ytieliilnnfjijaa
open Go.Ds
def divU (n T : Nat) : Nat := (n + T - 1) / T * T
def quotL (B : List Int) (T : Nat) : List (List Int) := (List.range T).map fun k => shapeL (wireL B T k)
def quotM (L : List Int) (T : Nat) : List (List Int) := quotL (beadsR L (divU L.length T)) T
theorem quotL_len (B : List Int) (T : Nat) : (quotL B T).length = T := by simp [quotL]
theorem quotL_get (B : List Int) {T k : Nat} (h : k < T) : (quotL B T)[k]? = some (shapeL (wireL B T k)) := by simp [quotL, h]
theorem quotL_getD (B : List Int) {T k : Nat} (h : k < T) : (quotL B T).getD k [] = shapeL (wireL B T k) := by
  rw [List.getD_eq_getElem?_getD, quotL_get B h]; rfl
section
variable {T : Nat} (hT : 2 ≤ T ∧ T ≤ 6)
include hT
theorem divU_facts (n : Nat) : n ≤ divU n T ∧ divU n T ≤ n + 5 ∧ ∃ q, divU n T = q * T := by
  unfold divU
  refine ⟨?_, ?_, _, rfl⟩ <;> rcases five hT with rfl | rfl | rfl | rfl | rfl <;> omega
theorem refl_wire {B C : List Int} (hB : ∀ x ∈ B, 0 ≤ x) (hC : ∀ x ∈ C, 0 ≤ x) {p : Nat} (h : Refl B C (p * T)) {k : Nat} (hk : k < T) (hD : Dsc (wireL C T (T - 1 - k))) : Refl (wireL B T k) (wireL C T (T - 1 - k)) p := by
  have hj : T - 1 - k < T := by omega
  intro y
  by_cases hy : 0 ≤ y
  · rw [mem_wire hT hC hj hy, h]
    have e : ((p * T : Nat) : Int) - 1 - (y * T + ((T - 1 - k : Nat) : Int)) = ((p : Int) - 1 - y) * T + k := by
      push_cast
      rw [Int.sub_mul, Int.sub_mul, Int.one_mul]
      omega
    rw [e]
    have hlt : (y * (T : Int) + ((T - 1 - k : Nat) : Int) < ((p * T : Nat) : Int)) ↔ y < p := by
      push_cast
      rcases five hT with rfl | rfl | rfl | rfl | rfl <;> omega
    have hnn : 0 ≤ y * (T : Int) + ((T - 1 - k : Nat) : Int) := by
      have := Int.mul_nonneg hy (Int.natCast_nonneg T)
      omega
    rw [hlt]
    constructor
    · rintro ⟨_, h1, h2⟩
      exact ⟨hy, h1, fun q => h2 ((mem_wire hT hB hk (by omega)).1 q)⟩
    · rintro ⟨_, h1, h2⟩
      exact ⟨hnn, h1, fun q => h2 ((mem_wire hT hB hk (by omega)).2 q)⟩
  · constructor
    · intro q; have := hD.2 y q; omega
    · intro q; omega
theorem wire_bound {B : List Int} (hB : Dsc B) {p : Nat} (hb : ∀ x ∈ B, x < ((p * T : Nat) : Int)) {k : Nat} (hk : k < T) : ∀ w ∈ wireL B T k, w < p := by
  intro w hw
  have h0 := (wireL_dsc hT hB k).2 w hw
  have := hb _ ((mem_wire hT hB.2 hk h0).1 hw)
  push_cast at this
  rcases five hT with rfl | rfl | rfl | rfl | rfl <;> omega
theorem core_refl {B C : List Int} (hB : Dsc B) (hC : Dsc C) {p : Nat} (hb : ∀ x ∈ B, x < ((p * T : Nat) : Int)) (h : Refl B C (p * T)) :
    Refl (coreS B T) (coreS C T) (p * T) ∧ ∀ x ∈ coreS B T, x < ((p * T : Nat) : Int) := by
  have hlen : ∀ k, k < T → (wireL C T (T - 1 - k)).length + (wireL B T k).length = p := fun k hk =>
    (refl_shape (wireL_dsc hT hB k) (wireL_dsc hT hC _) (wire_bound hT hB hb hk) (refl_wire hT hB.2 hC.2 h hk (wireL_dsc hT hC _))).2
  have hin : ∀ {A : List Int} {w : Int} {k : Nat}, k < T → 0 ≤ w → (w * T + k ∈ coreS A T ↔ w < (wireL A T k).length) := fun {A w k} hk hw => by
    rw [← mem_wire hT (coreS_dsc hT A).2 hk hw, coreS_wire hT A hk, mem_zeros]; omega
  have hbd : ∀ x ∈ coreS B T, x < ((p * T : Nat) : Int) := by
    intro x hx
    obtain ⟨j, hj, w, ⟨w0, w1⟩, rfl⟩ := (coreS_mem hT).1 hx
    have := hlen j hj
    push_cast
    rcases five hT with rfl | rfl | rfl | rfl | rfl <;> omega
  refine ⟨fun y => ?_, hbd⟩
  by_cases hy : 0 ≤ y
  · obtain ⟨j, hj1, hj2, _⟩ := tmod_bnd (b := y) (T := T) hy (by omega)
    obtain ⟨q1, q2⟩ := ar_eq hT hy hj1
    obtain ⟨w, hw⟩ : ∃ w, y.tdiv T = w := ⟨_, rfl⟩
    rw [hw] at q1 q2
    have hk : T - 1 - j < T := by omega
    have hl := hlen (T - 1 - j) hk
    rw [show T - 1 - (T - 1 - j) = j by omega] at hl
    have h1 := hin (A := C) (w := w) hj2 q2
    rw [← q1] at h1
    rw [h1]
    have e : ((p * T : Nat) : Int) - 1 - y = ((p : Int) - 1 - w) * T + ((T - 1 - j : Nat) : Int) := by
      rw [q1]; push_cast
      rw [Int.sub_mul, Int.sub_mul, Int.one_mul]
      omega
    have hlt : y < ((p * T : Nat) : Int) ↔ w < p := by
      rw [q1]; push_cast
      rcases five hT with rfl | rfl | rfl | rfl | rfl <;> omega
    rw [e, hlt]
    constructor
    · intro q
      refine ⟨hy, by omega, fun q3 => ?_⟩
      rw [hin hk (by omega)] at q3
      omega
    · rintro ⟨_, q3, q4⟩
      rw [hin hk (by omega)] at q4
      omega
  · constructor
    · intro q; have := (coreS_dsc hT C).2 y q; omega
    · intro q; omega
theorem wire_zeros (d k : Nat) (hk : k < T) : wireL (beadsR [] d) T k = beadsR [] (wireL (beadsR [] d) T k).length := by
  refine down_zeros hT (wireL_dsc hT (zeros_dsc d) k) fun w hw h1 => ?_
  have hm := (mem_wire hT (zeros_dsc d).2 hk (by omega)).1 hw
  refine (mem_wire hT (zeros_dsc d).2 hk (by omega)).2 ?_
  rw [mem_zeros] at hm ⊢
  rw [Int.sub_mul, Int.one_mul]
  have : 1 * (T : Int) ≤ w * T := Int.mul_le_mul_of_nonneg_right h1 (by omega)
  omega
theorem shapeL_app : ∀ (A : List Int) (e : Nat), (shapeL (A ++ beadsR [] e)).length ≤ A.length
  | [], e => by rw [List.nil_append, beadsR_nil_shape]; exact Nat.le_refl _
  | x :: A, e => by
    have ih := shapeL_app A e
    rw [List.cons_append, shapeL_cons, List.length_append, List.length_cons]
    split <;> simp <;> omega
theorem quot_rows {L : List Int} {m : Int} (hd : desc m L = true) {n : Nat} (hn : L.length ≤ n) {k : Nat} (hk : k < T) : (shapeL (wireL (beadsR L n) T k)).length ≤ L.length := by
  obtain ⟨d, rfl⟩ : ∃ d, n = L.length + d := ⟨n - L.length, by omega⟩
  have e : beadsR L (L.length + d) = rng L.length (fun r => L.getD r 0 + ((L.length + d : Nat) : Int) - 1 - r) ++ beadsR [] d := by
    unfold beadsR
    rw [rng_add]
    congr 1
    refine rng_congr fun i _ => ?_
    rw [List.getD_eq_getElem?_getD, List.getElem?_eq_none (by omega)]
    simp; omega
  rw [e, wireL_app, wire_zeros hT d k hk]
  have h1 := shapeL_app hT (wireL (rng L.length (fun r => L.getD r 0 + ((L.length + d : Nat) : Int) - 1 - r)) T k) (wireL (beadsR [] d) T k).length
  have h2 := wireL_len (rng L.length (fun r => L.getD r 0 + ((L.length + d : Nat) : Int) - 1 - r)) T k
  rw [rng_len] at h2
  omega
/-- What is said of a shape that is turned. -/
theorem turned_facts {L : List Int} (hS : isShape L = true) (hh : head L ≤ 12) :
    isShape (colsL L) = true ∧ coreM (colsL L) T = colsL (coreM L T) ∧ manyM (colsL L) T = manyM L T ∧ (∀ k, k < T → (quotM (colsL L) T).getD (T - 1 - k) [] = colsL ((quotM L T).getD k [])) ∧ ∀ k, k < T → isShape ((quotM L T).getD k []) = true := by
  obtain ⟨c1, c2, c3⟩ := shape_facts hS
  have hcd := cols_desc c2
  have hcs := cols_sum c2
  have hcl : (colsL L).length = head L := by rw [colsL, rng_len]
  have hX : isShape (colsL L) = true := by
    unfold isShape
    rw [desc_mono (m' := 40) hcd fun x hx => by have := (desc_le hcd x hx).2; omega, decide_eq_true (show (colsL L).length ≤ 12 by omega), decide_eq_true (show sumL (colsL L) ≤ 40 by omega)]; rfl
  obtain ⟨m1, m2, qm, m3⟩ := divU_facts hT L.length
  obtain ⟨n1, n2, qn, n3⟩ := divU_facts hT (head L)
  have hdn : desc ((divU (head L) T : Nat) : Int) L = true := desc_mono c2 fun x hx => by
    obtain ⟨i, hi, rfl⟩ := List.mem_iff_getElem.1 hx
    have := desc_head c2 hi
    rw [getD_get hi] at this; omega
  have hR := cols_refl (m := divU L.length T) (n := divU (head L) T) hdn m1
  have hN : divU L.length T + divU (head L) T = (qm + qn) * T := by rw [m3, n3, Nat.add_mul]
  rw [hN] at hR
  have hB := beadsR_dsc (n := divU L.length T) c2
  have hC := beadsR_dsc (n := divU (head L) T) hcd
  have hb : ∀ x ∈ beadsR L (divU L.length T), x < (((qm + qn) * T : Nat) : Int) := fun x hx => by
    have := (beadsR_lt (n := divU L.length T) (by omega) hdn x hx).2
    rw [← hN]; push_cast; omega
  obtain ⟨r1, r2⟩ := core_refl hT hB hC hb hR
  obtain ⟨s1, _⟩ := refl_shape (coreS_dsc hT _) (coreS_dsc hT _) r2 r1
  have p1 := (pad hT c2 (divU L.length T - L.length)).2
  rw [show L.length + (divU L.length T - L.length) = divU L.length T by omega] at p1
  have p2 := (pad hT hcd (divU (head L) T - (colsL L).length)).2
  rw [show (colsL L).length + (divU (head L) T - (colsL L).length) = divU (head L) T by omega] at p2
  have hcore : coreM (colsL L) T = colsL (coreM L T) := by rw [coreM_eq, coreM_eq, ← p1, ← p2, s1]
  have k1 := core_all hT hS
  have k2 := core_all hT hX
  have hmany : manyM (colsL L) T = manyM L T := by
    have e1 := k1.2.2
    have e2 := k2.2.2
    rw [hcore, cols_sum (shape_facts k1.1).2.1, hcs] at e2
    have e3 : (T : Int) * manyM (colsL L) T = T * manyM L T := by omega
    exact Int.eq_of_mul_eq_mul_left (by omega) e3
  refine ⟨hX, hcore, hmany, fun k hk => ?_, fun k hk => ?_⟩
  · unfold quotM
    rw [quotL_getD _ (by omega), quotL_getD _ hk, hcl]
    exact (refl_shape (wireL_dsc hT hB k) (wireL_dsc hT hC _) (wire_bound hT hB hb hk) (refl_wire hT hB.2 hC.2 hR hk (wireL_dsc hT hC _))).1
  · unfold quotM
    rw [quotL_getD _ hk]
    have hW := wireL_dsc hT hB k
    have hrows := quot_rows hT c2 m1 hk
    have hs1 := shapeL_sum hW
    have hval : valB (beadsR L (divU L.length T)) T = manyM L T := by
      have := (pad hT c2 (divU L.length T - L.length)).1
      rw [show L.length + (divU L.length T - L.length) = divU L.length T by omega] at this
      rw [this, manyM_eq hT hS]
    have h40 := many_le hT hS
    have hle : termB (beadsR L (divU L.length T)) T k ≤ valB (beadsR L (divU L.length T)) T := by
      unfold valB
      have key : ∀ n, n ≤ T → k < n → termB (beadsR L (divU L.length T)) T k ≤ sumL (rng n (termB (beadsR L (divU L.length T)) T)) := by
        intro n
        induction n with
        | zero => intro _ h; omega
        | succ n ih =>
          intro hn hkn
          rw [rng_succ, sumL_app]
          have h0 := (termB_nonneg hT hB n).1
          have hz := (sum_zero_of (n := n) (f := termB (beadsR L (divU L.length T)) T) fun i _ => (termB_nonneg hT hB i).1).1
          simp only [sumL]
          by_cases c : k = n
          · subst c; omega
          · have := ih (by omega) (by omega); omega
      exact key T (Nat.le_refl _) hk
    have hterm : sumL (shapeL (wireL (beadsR L (divU L.length T)) T k)) = termB (beadsR L (divU L.length T)) T k := hs1
    obtain ⟨m0, hm0⟩ := shapeL_desc' hW
    have hd40 := desc_mono (m' := 40) hm0 fun x hx => by have := mem_le_sum hm0 x hx; omega
    unfold isShape
    rw [hd40, decide_eq_true (show (shapeL (wireL (beadsR L (divU L.length T)) T k)).length ≤ 12 by omega), decide_eq_true (show sumL (shapeL (wireL (beadsR L (divU L.length T)) T k)) ≤ 40 by omega)]; rfl
end
end Go.Proofs.Ytieliilnnfjijaa
set_option maxRecDepth 100000
set_option maxHeartbeats 8000000
set_option linter.unusedSimpArgs false
set_option linter.unusedVariables false
namespace Go.Proofs.Ytieliilnnfjijaa
open Go.Ds
def quotT (L : List Int) (t : Int) : List (List Int) × Int := if isShape L = true ∧ isWires t = true then (quotM L t.toNat, 0) else ([], 2)
theorem divisible_rets {X : Caller} (hX : Xok X) (n T : Nat) (hn : n ≤ 1000) (hT : 2 ≤ T ∧ T ≤ 6) (g : GH) : Rets Try.prog X 60 [.int .i64 n, .int .i64 T] g (fun v g' lo => g.next ≤ lo ∧ v = .int .i64 (divU n T : Nat)) := by
  refine Rets.run hX.pres p60 (hX.free 60 (by decide) _ _) rfl fun ho => ?_
  have e : ((n : Int) + T - 1) = ((n + T - 1 : Nat) : Int) := by omega
  have eq : (((n + T - 1 : Nat) : Int)).tdiv T = (((n + T - 1) / T : Nat) : Int) := rfl
  have hle := Nat.div_le_self (n + T - 1) T
  have em : (((n + T - 1) / T : Nat) : Int) * (T : Int) = ((divU n T : Nat) : Int) := by unfold divU; push_cast; rfl
  have hd := divU_facts hT n
  have hT0 : ¬ (T : Int) = 0 := by omega
  obtain ⟨q, hq⟩ : ∃ q, (n + T - 1) / T = q := ⟨_, rfl⟩
  obtain ⟨d, hdd⟩ : ∃ d, divU n T = d := ⟨_, rfl⟩
  obtain ⟨z, hz⟩ : ∃ z, n + T - 1 = z := ⟨_, rfl⟩
  rw [hq] at eq em hle
  rw [hdd] at em hd ⊢
  rw [hz] at e eq hle
  simp +decide (disch := first | assumption | (apply GH.ok_push; assumption) | exact cellV_int _ _ | exact cellV_bool _ | omega) only [go_sem, ↓reduceIte, Nat.reduceEqDiff, Nat.reduceAdd, Int.reduceToNat, e, eq, em]
  intro hx
  exact ⟨Nat.le_refl _, rfl⟩
theorem own_away {g : GH} {s : Value} {vs : List Value} {t : TypeId} {base : Nat} (h : Own g s vs t base) : ∀ a l c, s = .slice (some a) l c → base ≤ a.block := by
  intro a l c e
  rcases h with ⟨rfl, _⟩ | ⟨j, fam, rfl, _, _, _, h5, h6, _⟩
  · cases e
  · cases e; show base ≤ j; omega
theorem quotT_rets {X : Caller} (hX : Xok X) (L : List Int) (hL : L.length < 1000000) (t : Int) (s : Value) (g : GH) (hs : SlR g s (ints L)) :
    Rets Try.prog X 33 [s, .int .i64 t] g (fun v g' lo => g.next ≤ lo ∧ Ret2 g' v (quotT L t)) := by
  refine Rets.run hX.pres p33 (hX.free 33 (by decide) _ _) rfl fun ho => ?_
  have hl := hs.len
  rw [ints_len] at hl
  simp +decide (disch := first | assumption | (apply GH.ok_push; assumption) | exact cellV_int _ _ | exact cellV_bool _ | omega) only [go_sem, ↓reduceIte, Nat.reduceEqDiff, Nat.reduceAdd, Int.reduceToNat]
  refine CallD.calm (isShape_rets hX L hL s g hs) ?_
  rintro v G hx rfl
  have hn := hx.next
  by_cases c : isShape L = true
  case neg =>
    have c' : isShape L = false := by simpa using c
    have hC : quotT L t = ([], 2) := by rw [quotT, if_neg (fun h => c h.1)]
    simp +decide (disch := first | assumption | (apply GH.ok_push; assumption) | exact cellV_int _ _ | exact cellV_bool _ | omega) only [go_sem, ↓reduceIte, Nat.reduceEqDiff, Nat.reduceAdd, Int.reduceToNat, c']
    intro hx0
    exact ⟨by omega, _, by rw [hC], by rw [hC]; exact Sl2.nil⟩
  simp +decide (disch := first | assumption | (apply GH.ok_push; assumption) | exact cellV_int _ _ | exact cellV_bool _ | omega) only [go_sem, ↓reduceIte, Nat.reduceEqDiff, Nat.reduceAdd, Int.reduceToNat, c]
  refine CallD.calm (wires_rets hX t G) ?_
  rintro v G1 hx1 rfl
  have hn1 := hx1.next
  have hok1 := hx1.ok (hx.ok ho)
  by_cases d : isWires t = true
  case neg =>
    have d' : isWires t = false := by simpa using d
    have hC : quotT L t = ([], 2) := by rw [quotT, if_neg (fun h => d h.2)]
    simp +decide (disch := first | assumption | (apply GH.ok_push; assumption) | exact cellV_int _ _ | exact cellV_bool _ | omega) only [go_sem, ↓reduceIte, Nat.reduceEqDiff, Nat.reduceAdd, Int.reduceToNat, d']
    intro hx0
    exact ⟨by omega, _, by rw [hC], by rw [hC]; exact Sl2.nil⟩
  obtain ⟨T, hT1, hT2, hT⟩ := wires_nat d
  have hC : quotT L t = (quotM L T, 0) := by rw [quotT, if_pos ⟨c, d⟩, hT2]
  rw [hC]
  obtain ⟨c1, c2, c3⟩ := shape_facts c
  subst hT1
  simp +decide (disch := first | assumption | (apply GH.ok_push; assumption) | exact cellV_int _ _ | exact cellV_bool _ | omega) only [go_sem, ↓reduceIte, Nat.reduceEqDiff, Nat.reduceAdd, Int.reduceToNat, d]
  refine Wk.mkslice (n := T) (c := T) (by simp +decide (disch := first | assumption | (apply GH.ok_push; assumption) | exact cellV_int _ _ | exact cellV_bool _ | omega) only [go_sem, ↓reduceIte, Nat.reduceEqDiff, Nat.reduceAdd, Int.reduceToNat]; first | done | exact rfl) (by simp +decide (disch := first | assumption | (apply GH.ok_push; assumption) | exact cellV_int _ _ | exact cellV_bool _ | omega) only [go_sem, ↓reduceIte, Nat.reduceEqDiff, Nat.reduceAdd, Int.reduceToNat]; first | done | exact rfl) (Nat.le_refl _) (by omega) ?_
  have hsP := ((hs.ext hx).ext hx1).push hok1 (cellsOb (repeatN [Value.slice none 0 0] T) 22)
  have hokP := GH.ok_push (o := cellsOb (repeatN [Value.slice none 0 0] T) 22) hok1
  have hgP : (G1.push (cellsOb (repeatN [Value.slice none 0 0] T) 22)).get G1.next = cellsOb (List.replicate T (.slice none 0 0)) 22 := by rw [GH.get_push hok1, if_pos rfl, repeatN_replicate]
  have hnP : (G1.push (cellsOb (repeatN [Value.slice none 0 0] T) 22)).next = G1.next + 1 := rfl
  have hkP : Kept G1 (G1.push (cellsOb (repeatN [Value.slice none 0 0] T) 22)) := (Kept.refl G1).push hok1 _
  obtain ⟨P, hP⟩ : ∃ P, G1.push (cellsOb (repeatN [Value.slice none 0 0] T) 22) = P := ⟨_, rfl⟩
  rw [hP] at hsP hokP hgP hnP hkP ⊢
  simp +decide (disch := first | assumption | (apply GH.ok_push; assumption) | exact cellV_int _ _ | exact cellV_bool _ | omega) only [go_sem, ↓reduceIte, Nat.reduceEqDiff, Nat.reduceAdd, Int.reduceToNat, hl]
  refine CallD.calm (divisible_rets hX L.length T (by omega) hT P) ?_
  rintro v G2 hx2 rfl
  have hn2 := hx2.next
  have hd := divU_facts hT L.length
  simp +decide (disch := first | assumption | (apply GH.ok_push; assumption) | exact cellV_int _ _ | exact cellV_bool _ | omega) only [go_sem, ↓reduceIte, Nat.reduceEqDiff, Nat.reduceAdd, Int.reduceToNat]
  refine CallD.calm (beads_rets hX L (desc_fits c2 (by omega)) (divU L.length T) hd.1 (by omega) s G2 (hsP.ext hx2)) ?_
  rintro b G3 hx3 hb
  have hn3 := hx3.next
  have hD := beadsR_dsc (n := divU L.length T) c2
  have hlt := beadsR_lt (n := divU L.length T) (by omega) c2
  have hqM : quotM L T = quotL (beadsR L (divU L.length T)) T := rfl
  rw [hqM]
  obtain ⟨B, hB⟩ : ∃ B, beadsR L (divU L.length T) = B := ⟨_, rfl⟩
  have hBl : B.length ≤ 1000 := by rw [← hB, beadsR_len]; omega
  rw [hB] at hb hD hlt ⊢
  have hBb : ∀ x ∈ B, 0 ≤ x ∧ x ≤ 100000 := fun x hx => by have := hlt x hx; omega
  simp +decide (disch := first | assumption | (apply GH.ok_push; assumption) | exact cellV_int _ _ | exact cellV_bool _ | omega) only [go_sem, ↓reduceIte, Nat.reduceEqDiff, Nat.reduceAdd, Int.reduceToNat]
  refine CallD.calm (wires_rets2 hX B hBl hBb T hT b G3 hb) ?_
  rintro w G4 hx4 ⟨hk4, hok4, rfl, vs0, F, hW⟩
  have hn4 := hx4.next
  have hWlt := hW.lt
  have hkPG := ((hx2.kept.ext hx3).trans hk4)
  have hg4 : G4.get G1.next = cellsOb (List.replicate T (.slice none 0 0)) 22 := (hkPG.gets _ (by omega)).trans hgP
  have hH : ∀ k, Hts (wireL B T k) := by
    intro k
    have h1 := wireL_len B T k
    refine ⟨by omega, fun x hx => ?_⟩
    have h0 := (wireL_dsc hT hD k).2 x hx
    simp only [wireL, List.mem_map, List.mem_filter] at hx
    obtain ⟨y, ⟨hy, _⟩, rfl⟩ := hx
    obtain ⟨k', _, _, q, hq, hle⟩ := tmod_bnd (b := y) (T := T) (hBb y hy).1 (by omega)
    have := hBb y hy
    omega
  simp +decide (disch := first | assumption | (apply GH.ok_push; assumption) | exact cellV_int _ _ | exact cellV_bool _ | omega) only [go_sem, ↓reduceIte, Nat.reduceEqDiff, Nat.reduceAdd, Int.reduceToNat, lenL_slice]
  refine Wk.loops (fun m e g' lo => g.next ≤ lo ∧ G4.next ≤ g'.next ∧ (∀ j, j < G4.next → j ≠ G1.next → g'.get j = G4.get j) ∧ ∃ i : Nat, i + m = T ∧ (ev e (.s 6) = .slice (some ⟨G1.next, 0, none⟩) T T ∧ ev e (.s 26) = .slice (some ⟨G3.next, 0, none⟩) T T ∧ ev e (.s 27) = .int .i64 T ∧ ev e (.s 28) = .int .i64 i) ∧
        ∃ vs, g'.get G1.next = cellsOb vs 22 ∧ vs.length = T ∧ ∀ k v, k < i → vs[k]? = some v → SlR g' v (ints (shapeL (wireL B T k))) ∧ ∀ a l c, v = .slice (some a) l c → a.block ≠ G1.next)
    (fun e g' lo => g.next ≤ lo ∧ ev e (.s 6) = .slice (some ⟨G1.next, 0, none⟩) T T ∧ Sl2 g' (.slice (some ⟨G1.next, 0, none⟩) T T) (quotL B T)) (n := T) ?_ ?_ ?_
  · exact ⟨by omega, Nat.le_refl _, fun _ _ _ => rfl, 0, by omega, (by simp +decide (disch := first | assumption | (apply GH.ok_push; assumption) | exact cellV_int _ _ | exact cellV_bool _ | omega) only [go_sem, ↓reduceIte, Nat.reduceEqDiff, Nat.reduceAdd, Int.reduceToNat]; first | done | exact rfl), _, hg4, by simp, fun k v h => by omega⟩
  · rintro e g' lo - - ⟨hlo, he, hsl⟩
    simp +decide (disch := first | assumption | (apply GH.ok_push; assumption) | exact cellV_int _ _ | exact cellV_bool _ | omega) only [go_sem, ↓reduceIte, Nat.reduceEqDiff, Nat.reduceAdd, Int.reduceToNat, he]
    intro hx0
    exact ⟨by omega, _, rfl, hsl⟩
  · rintro m e g' lo ho' hl' ih out ⟨hlo, hnx, hgets, i, hi, he, vs, hget, hvl, hvs⟩
    by_cases ci : i < T
    · have hvk := List.getElem?_eq_getElem (show i < vs0.length by rw [hW.len]; exact ci)
      obtain ⟨u, hu⟩ : ∃ u, vs0[i]'(by rw [hW.len]; exact ci) = u := ⟨_, rfl⟩
      rw [hu] at hvk
      have hown := hW.own i u hvk
      have hne : ∀ a l c, u = .slice (some a) l c → a.block ≠ G1.next := fun a l c e => by
        have := own_away hown.own a l c e; omega
      have hur : SlR g' u (ints (wireL B T i)) := hown.read.but hne hnx hgets
      have hgW : g'.get G3.next = cellsOb vs0 22 := by rw [hgets _ hWlt (by omega)]; exact hW.get
      have hia := iaddrS_at (j := G3.next) (n := T) (c := T) (m := i) (x := (i : Int)) rfl ci
      have hib := iaddrS_at (j := G1.next) (n := T) (c := T) (m := i) (x := (i : Int)) rfl ci
      simp +decide (disch := first | assumption | (apply GH.ok_push; assumption) | exact cellV_int _ _ | exact cellV_bool _ | omega) only [go_sem, ↓reduceIte, Nat.reduceEqDiff, Nat.reduceAdd, Int.reduceToNat, he, hia, hgW, hvk]
      refine CallD.calm (shapeOwn_rets hX _ (hH i).fits u g' hur) ?_
      rintro x G5 hx5 hxo
      have hn5 := hx5.next
      obtain ⟨sa, sn, sc, rfl⟩ := hxo.read.slice
      have hget5 : G5.get G1.next = cellsOb vs 22 := (hx5.gets _ (by omega)).trans hget
      have hlt5 : G1.next < G5.next := by omega
      simp +decide (disch := first | assumption | (apply GH.ok_push; assumption) | exact cellV_int _ _ | exact cellV_bool _ | omega) only [go_sem, ↓reduceIte, Nat.reduceEqDiff, Nat.reduceAdd, Int.reduceToNat, he, hib, hget5, hvl]
      have hw := Wrote.set (o := cellsOb (splice i vs [.slice sa sn sc]) 22) hget5 Nat.one_ne_zero (hx5.ok ho')
      rw [splice_set _ _ _ (by omega)] at hw ⊢
      have hnw := hw.next
      have hawy : ∀ a l c, (Value.slice sa sn sc) = .slice (some a) l c → a.block ≠ G1.next := fun a l c e => by
        have := own_away hxo a l c e; omega
      refine ih (m - 1) _ _ _ (by omega) ⟨by omega, by omega, fun j hj hne => ?_, i + 1, by omega, (by simp +decide (disch := first | assumption | (apply GH.ok_push; assumption) | exact cellV_int _ _ | exact cellV_bool _ | omega) only [go_sem, ↓reduceIte, Nat.reduceEqDiff, Nat.reduceAdd, Int.reduceToNat, he]; first | done | exact rfl), _, hw.get, by simp [hvl], fun k v hk hv => ?_⟩
      · rw [hw.others j hne, hx5.gets j (by omega)]
        exact hgets j hj hne
      · by_cases c : k = i
        · subst c
          rw [List.getElem?_set_self (by omega)] at hv
          cases hv
          exact ⟨hxo.read.wrote hw hawy, hawy⟩
        · rw [List.getElem?_set_ne (Ne.symm c)] at hv
          obtain ⟨q1, q2⟩ := hvs k v (by omega) hv
          exact ⟨(q1.ext hx5).wrote hw q2, q2⟩
    · simp +decide (disch := first | assumption | (apply GH.ok_push; assumption) | exact cellV_int _ _ | exact cellV_bool _ | omega) only [go_sem, ↓reduceIte, Nat.reduceEqDiff, Nat.reduceAdd, Int.reduceToNat, he]
      refine out _ _ _ ⟨hlo, (by simp +decide (disch := first | assumption | (apply GH.ok_push; assumption) | exact cellV_int _ _ | exact cellV_bool _ | omega) only [go_sem, ↓reduceIte, Nat.reduceEqDiff, Nat.reduceAdd, Int.reduceToNat, he]; first | done | exact rfl), vs, SlR.whole hget (by omega) hvl.symm, by rw [quotL_len]; exact hvl, fun k v M hv hM => ?_⟩
      have hkT : k < T := by have := (List.getElem?_eq_some_iff.1 hv).1; omega
      rw [quotL_get B hkT] at hM
      cases hM
      exact (hvs k v (by omega) hv).1
end Go.Proofs.Ytieliilnnfjijaa
