import Derived.Test.YtieliilnnfjijaaK6
set_option linter.all false
set_option linter.unusedSimpArgs false
set_option linter.unnecessarySimpa false
set_option linter.unusedVariables false
set_option linter.unusedSectionVars false
set_option maxRecDepth 100000
set_option maxHeartbeats 4000000
set_option linter.unusedSimpArgs false
set_option linter.unusedVariables false
namespace Go.Proofs.Ytieliilnnfjijaa
open Go.Ds
/-! ## Hooks and beads -/
theorem hooks_consI {y : Int} {L : List Int} (hd : desc y L = true) : hooksL (y :: L) = rng y.toNat (fun c => y - c + cnt L c) :: hooksL L := by
  unfold hooksL
  rw [List.length_cons, List.range_succ_eq_map, List.map_cons, List.map_map]
  congr 1
  · unfold hookRow
    simp only [List.getD_cons_zero]
    refine rng_congr fun c hc => ?_
    unfold hookV
    simp only [List.getD_cons_zero, cnt]
    rw [if_pos (by omega)]; omega
  · apply List.map_congr_left
    intro r hr
    rw [List.mem_range] at hr
    show hookRow (y :: L) (r + 1) = hookRow L r
    unfold hookRow
    simp only [List.getD_cons_succ]
    refine rng_congr fun c hc => ?_
    unfold hookV
    simp only [List.getD_cons_succ, cnt]
    have := (desc_getD hd hr).2
    rw [if_pos (by omega)]; push_cast; omega
/-- Where the hooks of a row on top end. -/
def endsX (L : List Int) (n y : Nat) : List Int := rng y (fun c => (n : Int) + c - cnt L c)
theorem cnt_zero : ∀ {L : List Int} {m : Int}, desc m L = true → ∀ c, m ≤ c → cnt L c = 0
  | [], _, _, _, _ => rfl
  | x :: L, m, h, c, hc => by
    simp only [desc, Bool.and_eq_true, decide_eq_true_eq] at h
    rw [cnt, if_neg (by omega), cnt_zero h.2 c (by omega)]; rfl
theorem rng_add (a b : Nat) (f : Nat → Int) : rng (a + b) f = rng a f ++ rng b (fun i => f (a + i)) := by
  induction b with
  | zero => simp [rng]
  | succ b ih => rw [← Nat.add_assoc, rng_succ, ih, rng_succ, List.append_assoc]
theorem beads_ends (p : Int → Bool) : ∀ {L : List Int} {y : Nat}, desc y L = true → (beadsR L L.length).countP p + (endsX L L.length y).countP p = (rng (L.length + y) (fun i => (i : Int))).countP p
  | [], y, _ => by
    have : endsX [] 0 y = rng (0 + y) (fun i => (i : Int)) := by
      unfold endsX
      rw [Nat.zero_add]
      exact rng_congr fun c _ => by simp [cnt]
    rw [show ([] : List Int).length = 0 from rfl, this]; simp [beadsR, rng]
  | z :: L, y, h => by
    simp only [desc, Bool.and_eq_true, decide_eq_true_eq] at h
    obtain ⟨Z, rfl⟩ := Int.eq_ofNat_of_zero_le (show 0 ≤ z by omega)
    obtain ⟨d, hd⟩ : ∃ d, y = Z + d := ⟨y - Z, by omega⟩
    have ih := beads_ends p (L := L) (y := Z) h.2
    rw [List.length_cons, beadsR_cons]
    have e1 : endsX (Z :: L) (L.length + 1) y = endsX L L.length Z ++ rng d (fun i => (L.length : Int) + 1 + (Z + i)) := by
      unfold endsX
      rw [hd, rng_add]
      congr 1
      · refine rng_congr fun c hc => ?_
        rw [cnt, if_pos (by omega)]; push_cast; omega
      · refine rng_congr fun c hc => ?_
        rw [cnt, if_neg (by push_cast; omega), cnt_zero h.2 _ (by push_cast; omega)]; push_cast; omega
    have e2 : rng (L.length + 1 + y) (fun i => (i : Int)) = rng (L.length + Z) (fun i => (i : Int)) ++ ((Z : Int) + L.length) :: rng d (fun i => (L.length : Int) + 1 + (Z + i)) := by
      rw [show L.length + 1 + y = (L.length + Z) + (d + 1) by omega, rng_add, rng_cons]
      congr 1
      congr 1
      · push_cast; omega
      · exact rng_congr fun i _ => by push_cast; omega
    rw [e1, e2, List.countP_cons, List.countP_append, List.countP_append, List.countP_cons, ← ih]
    omega
theorem count_one : ∀ {B : List Int} {a : Int}, B.Nodup → a ∈ B → B.count a = 1
  | [], a, _, h => by cases h
  | x :: B, a, hn, h => by
    rw [List.nodup_cons] at hn
    by_cases c : x = a
    · subst c
      rw [List.count_cons_self, List.count_eq_zero.2 hn.1]
    · rw [List.count_cons_of_ne c]
      rcases List.mem_cons.1 h with q | q
      · exact absurd q.symm c
      · exact count_one hn.2 q
theorem rng_map (n : Nat) (f : Nat → Int) (h : Int → Int) : (rng n f).map h = rng n (fun i => h (f i)) := by
  unfold rng; rw [List.map_map]; rfl
theorem countP_rng_congr {n : Nat} {f : Nat → Int} {p q : Int → Bool} (h : ∀ i, i < n → p (f i) = q (f i)) : (rng n f).countP p = (rng n f).countP q := by
  apply List.countP_congr
  intro x hx
  simp only [rng, List.mem_map, List.mem_range] at hx
  obtain ⟨i, hi, rfl⟩ := hx
  rw [h i hi]
section
variable {T : Nat} (hT : 2 ≤ T ∧ T ≤ 6)
include hT
/-- Numbers below b that b is over by a number divisible by T. -/
theorem below_div : ∀ b : Nat, ((rng b (fun i => (i : Int))).countP (fun x => decide (((b : Int) - x) % T = 0)) : Int) = (b : Int) / T
  | 0 => by simp [rng]
  | b + 1 => by
    have ih := below_div b
    have e : rng (b + 1) (fun i => (i : Int)) = 0 :: (rng b (fun i => (i : Int))).map (· + 1) := by
      rw [rng_cons, rng_map]; congr 1
    rw [e, List.countP_cons, List.countP_map]
    have e2 : (rng b (fun i => (i : Int))).countP ((fun x => decide ((((b + 1 : Nat) : Int) - x) % T = 0)) ∘ (· + 1)) = (rng b (fun i => (i : Int))).countP (fun x => decide (((b : Int) - x) % T = 0)) := by
      apply List.countP_congr
      intro x _
      simp only [Function.comp, decide_eq_true_eq]
      rw [show ((b + 1 : Nat) : Int) - (x + 1) = (b : Int) - x by push_cast; omega]
    rw [e2]
    push_cast
    rw [ih]
    simp only [decide_eq_true_eq, Int.sub_zero]
    rcases five hT with rfl | rfl | rfl | rfl | rfl <;> split <;> omega
theorem below_one (b : Nat) : (rng b (fun i => (i : Int))).countP (fun x => decide ((b : Int) - x = T)) = if T ≤ b then 1 else 0 := by
  have key : ∀ n : Nat, (rng n (fun i => (i : Int))).countP (fun x => decide ((b : Int) - x = T)) = if T ≤ b ∧ b < n + T then 1 else 0 := by
    intro n
    induction n with
    | zero => rw [if_neg (by omega)]; rfl
    | succ n ih =>
      rw [rng_succ, List.countP_append, ih, List.countP_singleton]
      simp only [decide_eq_true_eq]
      by_cases c : (b : Int) - n = T
      · rw [if_pos c, if_neg (by omega), if_pos (by omega)]
      · rw [if_neg c]
        by_cases d : T ≤ b ∧ b < n + T
        · rw [if_pos d, if_pos (by omega)]
        · rw [if_neg d, if_neg (by omega)]
  rw [key b]
  by_cases c : T ≤ b
  · rw [if_pos c, if_pos (by omega)]
  · rw [if_neg c, if_neg (by omega)]
theorem wire_count {B : List Int} (hB : ∀ x ∈ B, 0 ≤ x) (b : Nat) : B.countP (fun x => decide (((b : Int) - x) % T = 0)) = (wireL B T (b % T)).length := by
  unfold wireL
  rw [List.length_map, ← List.countP_eq_length_filter]
  apply List.countP_congr
  intro x hx
  have h0 := hB x hx
  simp only [decide_eq_true_eq]
  rw [(td h0 _).1]
  push_cast
  rcases five hT with rfl | rfl | rfl | rfl | rfl <;> omega
theorem countP_mem {B : List Int} (hB : B.Nodup) (b : Int) : B.countP (fun x => decide (b - x = T)) = if b - T ∈ B then 1 else 0 := by
  have e : B.countP (fun x => decide (b - x = T)) = B.count (b - T) := by
    rw [List.count]
    apply List.countP_congr
    intro x _
    simp only [decide_eq_true_eq, beq_iff_eq]
    omega
  rw [e]
  by_cases c : b - (T : Int) ∈ B
  · rw [if_pos c]
    exact count_one hB c
  · rw [if_neg c]
    exact List.count_eq_zero.2 c
/-- The hooks of a row on top. -/
theorem row_count {y : Int} {L : List Int} (hy : 0 ≤ y) (hd : desc y L = true) (q : Int → Bool) : (rng y.toNat (fun c => y - c + cnt L c)).countP q + (beadsR L L.length).countP (fun x => q (y + L.length - x)) = (rng (L.length + y.toNat) (fun i => (i : Int))).countP (fun x => q (y + L.length - x)) := by
  obtain ⟨Y, rfl⟩ := Int.eq_ofNat_of_zero_le hy
  have := beads_ends (fun x => q ((Y : Int) + L.length - x)) hd
  rw [Int.toNat_natCast]
  rw [← this, Nat.add_comm]
  congr 1
  have e : rng Y (fun c => (Y : Int) - c + cnt L c) = (endsX L L.length Y).map (fun x => (Y : Int) + L.length - x) := by
    unfold endsX
    rw [rng_map]
    exact rng_congr fun c _ => by omega
  rw [e, List.countP_map]; rfl
theorem val_cons {b : Nat} {B : List Int} (hB : ∀ x ∈ B, 0 ≤ x) : valB ((b : Int) :: B) T = valB B T + ((b : Int) / T - (wireL B T (b % T)).length) := by
  have hk : b % T < T := Nat.mod_lt _ (by omega)
  have hmod : ((b : Nat) : Int).tmod T = ((b % T : Nat) : Int) := rfl
  have hdiv : ((b : Nat) : Int).tdiv T = (b : Int) / T := (td (by omega) _).2
  have key : ∀ n, n ≤ T → sumL (rng n (termB ((b : Int) :: B) T)) = sumL (rng n (termB B T)) + (if b % T < n then ((b : Int) / T - (wireL B T (b % T)).length) else 0) := by
    intro n
    induction n with
    | zero => intro _; simp [rng, sumL]
    | succ n ih =>
      intro hn
      rw [rng_succ, rng_succ, sumL_app, sumL_app, ih (by omega)]
      simp only [sumL]
      unfold termB
      rw [wireL_cons, hmod, hdiv]
      by_cases c : b % T = n
      · rw [if_neg (by omega), if_pos (by omega), if_pos (by omega), List.singleton_append, sumL, List.length_cons, tri, c]
        omega
      · by_cases d : b % T < n
        · rw [if_pos d, if_neg (by omega), if_pos (by omega), List.nil_append]; omega
        · rw [if_neg d, if_neg (by omega), if_neg (by omega), List.nil_append]; omega
  unfold valB
  rw [key T (Nat.le_refl _), if_pos hk]
/-- As many hooks are divisible by T as strips are taken off. -/
theorem hooks_div : ∀ {L : List Int} {m : Int}, desc m L = true → ((hooksL L).flatten.countP (fun h : Int => decide (h % T = 0)) : Int) = valB (beadsR L L.length) T
  | [], m, _ => by
    have : valB (beadsR [] 0) T = 0 := (val_zero hT (zeros_dsc 0)).2.2 fun k hk => rfl
    rw [show ([] : List Int).length = 0 from rfl, this]; rfl
  | y :: L, m, h => by
    simp only [desc, Bool.and_eq_true, decide_eq_true_eq] at h
    have ih := hooks_div h.2
    obtain ⟨Y, rfl⟩ := Int.eq_ofNat_of_zero_le (show 0 ≤ y by omega)
    have hrow := row_count hT (y := (Y : Int)) (by omega) h.2 (fun h : Int => decide (h % T = 0))
    have hB := (beadsR_dsc (n := L.length) h.2).2
    rw [hooks_consI h.2, List.flatten_cons, List.countP_append, List.length_cons, beadsR_cons]
    have e : (Y : Int) + L.length = ((L.length + Y : Nat) : Int) := by push_cast; omega
    rw [e] at hrow ⊢
    rw [Int.toNat_natCast] at hrow ⊢
    rw [val_cons hT hB, ← ih]
    have h1 := below_div hT (L.length + Y)
    have h2 := wire_count hT hB (L.length + Y)
    omega
theorem canB_cons0 {b : Int} {B : List Int} : canB (b :: B) T 0 = (decide ((T : Int) ≤ b) && !decide (b - T ∈ B)) := by
  unfold canB
  simp only [List.getD_cons_zero]
  congr 2
  refine decide_eq_decide.2 ?_
  rw [List.mem_cons]
  exact ⟨fun h => h.resolve_left (by omega), .inr⟩
theorem canB_cons1 {b : Int} {B : List Int} (hb : ∀ x ∈ B, x < b) {i : Nat} (hi : i < B.length) : canB (b :: B) T (i + 1) = canB B T i := by
  unfold canB
  simp only [List.getD_cons_succ]
  have := hb _ (mem_getD hi)
  congr 2
  refine decide_eq_decide.2 ?_
  rw [List.mem_cons]
  exact ⟨fun h => h.resolve_left (by omega), .inr⟩
theorem strips_cons {b : Int} {B : List Int} (hb : ∀ x ∈ B, x < b) : (stripsB (b :: B) T).length = (if (T : Int) ≤ b ∧ b - T ∉ B then 1 else 0) + (stripsB B T).length := by
  unfold stripsB stripsK
  rw [List.length_map, List.length_map, List.length_cons, List.range_succ_eq_map, List.filter_cons, List.filter_map]
  have e : (List.range B.length).filter (canB (b :: B) T ∘ Nat.succ) = (List.range B.length).filter (canB B T) := by
    apply List.filter_congr
    intro i hi
    exact canB_cons1 hT hb (List.mem_range.1 hi)
  rw [e, canB_cons0 hT]
  by_cases c : (T : Int) ≤ b ∧ b - T ∉ B
  · rw [if_pos c, decide_eq_true c.1, decide_eq_false c.2]
    simp; omega
  · rw [if_neg c]
    have : (decide ((T : Int) ≤ b) && !decide (b - T ∈ B)) = false := by
      rcases Decidable.not_and_iff_or_not.1 c with h | h
      · rw [decide_eq_false h]; rfl
      · rw [decide_eq_true (Decidable.not_not.1 h)]; simp
    rw [this]; simp
theorem hooks_one : ∀ {L : List Int} {m : Int}, desc m L = true → (hooksL L).flatten.countP (fun h : Int => decide (h = T)) = (stripsB (beadsR L L.length) T).length
  | [], m, _ => rfl
  | y :: L, m, h => by
    simp only [desc, Bool.and_eq_true, decide_eq_true_eq] at h
    have ih := hooks_one h.2
    obtain ⟨Y, rfl⟩ := Int.eq_ofNat_of_zero_le (show 0 ≤ y by omega)
    have hrow := row_count hT (y := (Y : Int)) (by omega) h.2 (fun h : Int => decide (h = T))
    have hD := beadsR_dsc (n := L.length) h.2
    have hlt : ∀ x ∈ beadsR L L.length, x < (Y : Int) + L.length := fun x hx => (beadsR_lt (m := (Y : Int)) (by omega) h.2 x hx).2
    rw [hooks_consI h.2, List.flatten_cons, List.countP_append, List.length_cons, beadsR_cons, strips_cons hT hlt, ih]
    have e : (Y : Int) + L.length = ((L.length + Y : Nat) : Int) := by push_cast; omega
    rw [e] at hrow ⊢
    rw [Int.toNat_natCast] at hrow ⊢
    have h1 := below_one hT (L.length + Y)
    have h2 := countP_mem hT hD.nodup ((L.length + Y : Nat) : Int)
    rw [h1, h2] at hrow
    have hle : T ≤ L.length + Y ↔ (T : Int) ≤ ((L.length + Y : Nat) : Int) := by omega
    have hmem : (((L.length + Y : Nat) : Int) - T ∈ beadsR L L.length) → T ≤ L.length + Y := fun hm => by have := hD.2 _ hm; omega
    by_cases c : T ≤ L.length + Y
    · rw [if_pos c] at hrow
      by_cases d : ((L.length + Y : Nat) : Int) - T ∈ beadsR L L.length
      · rw [if_pos d] at hrow
        rw [if_neg fun q => q.2 d]; omega
      · rw [if_neg d] at hrow
        rw [if_pos ⟨hle.1 c, d⟩]; omega
    · rw [if_neg c] at hrow
      rw [if_neg fun q => c (hle.2 q.1)]; omega
end
end Go.Proofs.Ytieliilnnfjijaa
set_option maxRecDepth 100000
set_option maxHeartbeats 8000000
set_option linter.unusedSimpArgs false
set_option linter.unusedVariables false
namespace Go.Proofs.Ytieliilnnfjijaa
open Go.Ds
theorem countP_snoc (p : Int → Bool) (L : List Int) (i : Nat) (h : i < L.length) : (L.take (i + 1)).countP p = (L.take i).countP p + if p (L.getD i 0) = true then 1 else 0 := by
  rw [take_snoc L i h, List.countP_append, List.countP_singleton]
theorem eqF_tt : eqBF false (.bool true) (.bool true) = some (.bool true) := rfl
theorem eqF_ff : eqBF false (.bool false) (.bool false) = some (.bool true) := rfl
/-- The law of the hooks. -/
theorem hookedLaw_rets {X : Caller} (hX : Xok X) (L : List Int) (w : Int) (w0 : 0 ≤ w) (w1 : w < 256) (s : Value) (g : GH) (hs : SlR g s (ints L)) :
    Rets Try.prog X 11 [s, .int .u8 w] g (fun v g' lo => g.next ≤ lo ∧ v = .bool true) := by
  refine Rets.run hX.pres p11 (hX.free 11 (by decide) _ _) rfl fun ho => ?_
  have hl := hs.len
  rw [ints_len] at hl
  simp +decide (disch := first | assumption | (apply GH.ok_push; assumption) | exact cellV_int _ _ | exact cellV_bool _ | omega) only [go_sem, ↓reduceIte, Nat.reduceEqDiff, Nat.reduceAdd, Int.reduceToNat]
  refine CallD.calm (few_rets hX L [] s _ g hs Sl2.nil) ?_
  rintro v G hx rfl
  have hn := hx.next
  have hs1 := hs.ext hx
  by_cases c : L.length ≤ 60
  case neg =>
    have hf : fewB L [] = false := by simp [fewB, c]
    simp +decide (disch := first | assumption | (apply GH.ok_push; assumption) | exact cellV_int _ _ | exact cellV_bool _ | omega) only [go_sem, ↓reduceIte, Nat.reduceEqDiff, Nat.reduceAdd, Int.reduceToNat, hf]
    refine CallD.calm (hX.alive G) ?_
    rintro v G1 hx1 rfl
    have hn1 := hx1.next
    simp +decide (disch := first | assumption | (apply GH.ok_push; assumption) | exact cellV_int _ _ | exact cellV_bool _ | omega) only [go_sem, ↓reduceIte, Nat.reduceEqDiff, Nat.reduceAdd, Int.reduceToNat]
    intro hx0
    exact ⟨by omega, rfl⟩
  have hf : fewB L [] = true := by simp [fewB, c]
  simp +decide (disch := first | assumption | (apply GH.ok_push; assumption) | exact cellV_int _ _ | exact cellV_bool _ | omega) only [go_sem, ↓reduceIte, Nat.reduceEqDiff, Nat.reduceAdd, Int.reduceToNat, hf]
  refine CallD.calm (refIsShape_rets hX L (by omega) s G hs1) ?_
  rintro v G1 hx1 rfl
  have hn1 := hx1.next
  have hs2 := hs1.ext hx1
  by_cases cS : isShape L = true
  case neg =>
    have cS' : isShape L = false := by simpa using cS
    simp +decide (disch := first | assumption | (apply GH.ok_push; assumption) | exact cellV_int _ _ | exact cellV_bool _ | omega) only [go_sem, ↓reduceIte, Nat.reduceEqDiff, Nat.reduceAdd, Int.reduceToNat, cS']
    refine CallD.calm (hX.alive G1) ?_
    rintro v G2 hx2 rfl
    have hn2 := hx2.next
    simp +decide (disch := first | assumption | (apply GH.ok_push; assumption) | exact cellV_int _ _ | exact cellV_bool _ | omega) only [go_sem, ↓reduceIte, Nat.reduceEqDiff, Nat.reduceAdd, Int.reduceToNat]
    intro hx0
    exact ⟨by omega, rfl⟩
  simp +decide (disch := first | assumption | (apply GH.ok_push; assumption) | exact cellV_int _ _ | exact cellV_bool _ | omega) only [go_sem, ↓reduceIte, Nat.reduceEqDiff, Nat.reduceAdd, Int.reduceToNat, cS]
  refine CallD.calm (wireNo_rets hX w w0 w1 G1) ?_
  rintro v G2 hx2 ⟨T, rfl, hT1, hT2⟩
  have hn2 := hx2.next
  have hs3 := hs2.ext hx2
  have hT : 2 ≤ T ∧ T ≤ 6 := ⟨hT1, hT2⟩
  have hW : isWires (T : Int) = true := by simp [isWires]; omega
  have hTn : ((T : Nat) : Int).toNat = T := Int.toNat_natCast T
  have kit := core_iff hT cS
  have k40 := many_le hT cS
  have k0 := many_nonneg hT cS
  obtain ⟨c1, c2, c3⟩ := shape_facts cS
  have eC : coreT L T = (coreM L T, manyM L T, 0) := by rw [coreT, if_pos ⟨cS, hW⟩, hTn]
  have eS : stripsT L T = (stripsM L T, 0) := by rw [stripsT, if_pos ⟨cS, hW⟩]; rfl
  have eI : isCoreT L T = (decide (manyM L T = 0), 0) := by rw [isCoreT, if_pos ⟨cS, hW⟩, hTn]
  have eH : hooksT L = (hooksL L, 0) := by rw [hooksT, if_pos cS]
  have hdiv : ((hooksL L).flatten.countP (fun h : Int => decide (h % T = 0)) : Int) = manyM L T := by rw [hooks_div hT c2, manyM_eq hT cS]
  have hone : (hooksL L).flatten.countP (fun h : Int => decide (h = T)) = (stripsM L T).length := hooks_one hT c2
  simp +decide (disch := first | assumption | (apply GH.ok_push; assumption) | exact cellV_int _ _ | exact cellV_bool _ | omega) only [go_sem, ↓reduceIte, Nat.reduceEqDiff, Nat.reduceAdd, Int.reduceToNat]
  refine CallD.calm (hooksT_rets hX L (by omega) s G2 hs3) ?_
  rintro v G3 hx3 ⟨h, rfl, hh⟩
  have hn3 := hx3.next
  have hs4 := hs3.ext hx3
  rw [eH] at hh ⊢
  simp +decide (disch := first | assumption | (apply GH.ok_push; assumption) | exact cellV_int _ _ | exact cellV_bool _ | omega) only [go_sem, ↓reduceIte, Nat.reduceEqDiff, Nat.reduceAdd, Int.reduceToNat, ext0, ext1]
  refine CallD.calm (coreT_rets hX L (by omega) T s G3 hs4) ?_
  rintro v G4 hx4 ⟨a, rfl, ha⟩
  have hn4 := hx4.next
  have hs5 := hs4.ext hx4
  have hh4 := hh.kept hx4.kept
  rw [eC] at ha ⊢
  simp +decide (disch := first | assumption | (apply GH.ok_push; assumption) | exact cellV_int _ _ | exact cellV_bool _ | omega) only [go_sem, ↓reduceIte, Nat.reduceEqDiff, Nat.reduceAdd, Int.reduceToNat, ext30, ext31, ext32]
  refine CallD.calm (stripsT_rets hX L (by omega) T s G4 hs5) ?_
  rintro v G5 hx5 ⟨b, rfl, hb⟩
  have hn5 := hx5.next
  have hs6 := hs5.ext hx5
  have hh5 := hh4.kept hx5.kept
  rw [eS] at hb ⊢
  simp +decide (disch := first | assumption | (apply GH.ok_push; assumption) | exact cellV_int _ _ | exact cellV_bool _ | omega) only [go_sem, ↓reduceIte, Nat.reduceEqDiff, Nat.reduceAdd, Int.reduceToNat, ext0, ext1]
  refine CallD.calm (isCoreT_rets hX L (by omega) T s G5 hs6) ?_
  rintro v G6 hx6 rfl
  have hn6 := hx6.next
  have hs7 := hs6.ext hx6
  have hh6 := hh5.kept hx6.kept
  have hb6 := hb.kept hx6.kept
  have hlb := hb6.len
  have hlh := hh6.len
  rw [eI]
  simp only at hlb hh6 hlh
  rw [hooksL_len] at hlh
  simp +decide (disch := first | assumption | (apply GH.ok_push; assumption) | exact cellV_int _ _ | exact cellV_bool _ | omega) only [go_sem, ↓reduceIte, Nat.reduceEqDiff, Nat.reduceAdd, Int.reduceToNat, ext0, ext1, hlh, hl]
  refine Wk.loops (fun m e g' lo => g' = G6 ∧ g.next ≤ lo ∧ ∃ i : Nat, i + m = L.length ∧ (ev e (.s 0) = s ∧ ev e (.s 5) = .int .i64 T ∧ ev e (.s 6) = h ∧ ev e (.s 9) = .int .i64 (manyM L T) ∧ ev e (.s 11) = b ∧ ev e (.s 13) = .bool (decide (manyM L T = 0)) ∧ ev e (.s 15) = .int .i64 (((hooksL L).take i).flatten.countP (fun h : Int => decide (h % T = 0))) ∧ ev e (.s 16) = .int .i64 (((hooksL L).take i).flatten.countP (fun h : Int => decide (h = T))) ∧ ev e (.s 17) = .int .i64 i) ∧ ((hooksL L).take i).flatten.length ≤ 40 * i)
    (fun e g' lo => g' = G6 ∧ g.next ≤ lo ∧ (ev e (.s 9) = .int .i64 (manyM L T) ∧ ev e (.s 11) = b ∧ ev e (.s 13) = .bool (decide (manyM L T = 0)) ∧ ev e (.s 15) = .int .i64 (manyM L T) ∧ ev e (.s 16) = .int .i64 (stripsM L T).length)) (n := L.length) ?_ ?_ ?_
  · exact ⟨rfl, by omega, 0, by omega, (by simp +decide (disch := first | assumption | (apply GH.ok_push; assumption) | exact cellV_int _ _ | exact cellV_bool _ | omega) only [go_sem, ↓reduceIte, Nat.reduceEqDiff, Nat.reduceAdd, Int.reduceToNat, List.take_zero, List.flatten_nil, List.countP_nil]; first | done | exact rfl), by simp⟩
  · rintro e g' lo - - ⟨rfl, hlo, he⟩
    by_cases z : manyM L T = 0
    · have z1 := kit.2.2 z
      have hlz : ((stripsM L T).length : Int) = 0 := by rw [z1]; rfl
      rw [z, decide_eq_true rfl, hlz] at he
      simp +decide (disch := first | assumption | (apply GH.ok_push; assumption) | exact cellV_int _ _ | exact cellV_bool _ | omega) only [go_sem, ↓reduceIte, Nat.reduceEqDiff, Nat.reduceAdd, Int.reduceToNat, he, hlb, hlz, eqF_tt, eqF_ff]
      refine CallD.calm (hX.alive _) ?_
      rintro v G7 hx7 rfl
      have hn7 := hx7.next
      simp +decide (disch := first | assumption | (apply GH.ok_push; assumption) | exact cellV_int _ _ | exact cellV_bool _ | omega) only [go_sem, ↓reduceIte, Nat.reduceEqDiff, Nat.reduceAdd, Int.reduceToNat]
      intro hx0
      exact ⟨by omega, rfl⟩
    · have z1 : stripsM L T ≠ [] := fun h => z (kit.2.1 h)
      have hlz : ¬ ((stripsM L T).length : Int) = 0 := by have := List.length_pos_iff.2 z1; omega
      rw [decide_eq_false z] at he
      simp +decide (disch := first | assumption | (apply GH.ok_push; assumption) | exact cellV_int _ _ | exact cellV_bool _ | omega) only [go_sem, ↓reduceIte, Nat.reduceEqDiff, Nat.reduceAdd, Int.reduceToNat, he, hlb, hlz, z, eqF_tt, eqF_ff]
      refine CallD.calm (hX.alive _) ?_
      rintro v G7 hx7 rfl
      have hn7 := hx7.next
      simp +decide (disch := first | assumption | (apply GH.ok_push; assumption) | exact cellV_int _ _ | exact cellV_bool _ | omega) only [go_sem, ↓reduceIte, Nat.reduceEqDiff, Nat.reduceAdd, Int.reduceToNat]
      intro hx0
      exact ⟨by omega, rfl⟩
  · rintro m e g' lo ho' hl' ih out ⟨rfl, hlo, i, hi, he, hfl⟩
    by_cases ci : i < L.length
    · obtain ⟨u, j1, o1, hj1, hp1, hp2, hu⟩ := hh6.ptr (i := i) (by rw [hooksL_len]; exact ci)
      have hp1 := hp1 (i : Int) rfl
      rw [hooksL_getD ci] at hu
      have hlu := hu.len
      rw [ints_len, hookRow, rng_len] at hlu
      have hrow := desc_getD c2 ci
      obtain ⟨n, hn1, hn2⟩ : ∃ n : Nat, L.getD i 0 = n ∧ (L.getD i 0).toNat = n := ⟨(L.getD i 0).toNat, by omega, rfl⟩
      rw [hn2] at hlu
      obtain ⟨j5, o5, hj5, hr1, hr2⟩ := hs7.ptr (ints_get (D := L) (i := i) ci)
      have hr1 := hr1 (i : Int) rfl
      rw [hn1] at hr2
      have hfs : ((hooksL L).take (i + 1)).flatten = ((hooksL L).take i).flatten ++ hookRow L i := by
        rw [take_snocL _ i (by rw [hooksL_len]; exact ci), hooksL_getD ci, List.flatten_append]; simp
      have hrl : (hookRow L i).length = n := by rw [hookRow, rng_len, hn2]
      simp +decide (disch := first | assumption | (apply GH.ok_push; assumption) | exact cellV_int _ _ | exact cellV_bool _ | omega) only [go_sem, ↓reduceIte, Nat.reduceEqDiff, Nat.reduceAdd, Int.reduceToNat, he, hlh, hp1, hp2, hlu, hr1, hr2]
      obtain ⟨D, hD⟩ : ∃ D, ((hooksL L).take i).flatten.countP (fun h : Int => decide (h % T = 0)) = D := ⟨_, rfl⟩
      obtain ⟨E, hE⟩ : ∃ E, ((hooksL L).take i).flatten.countP (fun h : Int => decide (h = T)) = E := ⟨_, rfl⟩
      have hD2 : D ≤ 40 * i := by rw [← hD]; exact Nat.le_trans (List.countP_le_length) hfl
      have hE2 : E ≤ 40 * i := by rw [← hE]; exact Nat.le_trans (List.countP_le_length) hfl
      rw [hD, hE] at he
      refine Wk.loops (fun m e g2 lo2 => g2 = g' ∧ g.next ≤ lo2 ∧ ∃ k : Nat, k + m = n ∧ (ev e (.s 0) = s ∧ ev e (.s 5) = .int .i64 T ∧ ev e (.s 6) = h ∧ ev e (.s 9) = .int .i64 (manyM L T) ∧ ev e (.s 11) = b ∧ ev e (.s 13) = .bool (decide (manyM L T = 0)) ∧ ev e (.s 15) = .int .i64 ((D + ((hookRow L i).take k).countP (fun h : Int => decide (h % T = 0)) : Nat) : Int) ∧ ev e (.s 16) = .int .i64 ((E + ((hookRow L i).take k).countP (fun h : Int => decide (h = T)) : Nat) : Int) ∧ ev e (.s 17) = .int .i64 i ∧ ev e (.s 18) = .int .i64 k))
        (fun e g2 lo2 => g2 = g' ∧ g.next ≤ lo2 ∧ (ev e (.s 0) = s ∧ ev e (.s 5) = .int .i64 T ∧ ev e (.s 6) = h ∧ ev e (.s 9) = .int .i64 (manyM L T) ∧ ev e (.s 11) = b ∧ ev e (.s 13) = .bool (decide (manyM L T = 0)) ∧ ev e (.s 15) = .int .i64 ((D + (hookRow L i).countP (fun h : Int => decide (h % T = 0)) : Nat) : Int) ∧ ev e (.s 16) = .int .i64 ((E + (hookRow L i).countP (fun h : Int => decide (h = T)) : Nat) : Int) ∧ ev e (.s 17) = .int .i64 i)) (n := n) ?_ ?_ ?_
      · exact ⟨rfl, hlo, 0, by omega, (by simp +decide (disch := first | assumption | (apply GH.ok_push; assumption) | exact cellV_int _ _ | exact cellV_bool _ | omega) only [go_sem, ↓reduceIte, Nat.reduceEqDiff, Nat.reduceAdd, Int.reduceToNat, he, List.take_zero, List.countP_nil, Nat.add_zero]; first | done | exact rfl)⟩
      · rintro e g2 lo2 - - ⟨rfl, hlo2, he⟩
        simp +decide (disch := first | assumption | (apply GH.ok_push; assumption) | exact cellV_int _ _ | exact cellV_bool _ | omega) only [go_sem, ↓reduceIte, Nat.reduceEqDiff, Nat.reduceAdd, Int.reduceToNat, he]
        refine ih (m - 1) _ _ _ (by omega) ⟨rfl, hlo2, i + 1, by omega, ?_, ?_⟩
        · rw [hfs, List.countP_append, List.countP_append, hD, hE]
          exact (by simp +decide (disch := first | assumption | (apply GH.ok_push; assumption) | exact cellV_int _ _ | exact cellV_bool _ | omega) only [go_sem, ↓reduceIte, Nat.reduceEqDiff, Nat.reduceAdd, Int.reduceToNat, he]; first | done | exact rfl)
        · rw [hfs, List.length_append, hrl]; omega
      · rintro m2 e g2 lo2 ho2 hl2 ih2 out2 ⟨rfl, hlo2, k, hk, he⟩
        by_cases ck : k < n
        · obtain ⟨q1, q2, q3⟩ := hookRow_get (L := L) (r := i) (c := k) (by omega)
          obtain ⟨j2, o2, hj2, hv1, hv2⟩ := hu.ptr q1
          have hv1 := hv1 (k : Int) rfl
          have hpos := hookV_pos c2 ci (c := k) (by omega)
          have s1 := countP_snoc (fun h : Int => decide (h % T = 0)) (hookRow L i) k q3
          have s2 := countP_snoc (fun h : Int => decide (h = T)) (hookRow L i) k q3
          rw [q2] at s1 s2
          simp only [decide_eq_true_eq] at s1 s2
          have b1 : ((hookRow L i).take k).countP (fun h : Int => decide (h % T = 0)) ≤ n := Nat.le_trans List.countP_le_length (by simp; omega)
          have b2 : ((hookRow L i).take k).countP (fun h : Int => decide (h = T)) ≤ n := Nat.le_trans List.countP_le_length (by simp; omega)
          obtain ⟨x, hxv⟩ : ∃ x, hookV L i k = x := ⟨_, rfl⟩
          rw [hxv] at hv2 hpos s1 s2
          have hmod : x.tmod T = x % T := (td (by omega) _).1
          have hT0 : ¬ (T : Int) = 0 := by omega
          obtain ⟨P1, hP1⟩ : ∃ P1, ((hookRow L i).take k).countP (fun h : Int => decide (h % T = 0)) = P1 := ⟨_, rfl⟩
          obtain ⟨P2, hP2⟩ : ∃ P2, ((hookRow L i).take k).countP (fun h : Int => decide (h = T)) = P2 := ⟨_, rfl⟩
          rw [hP1] at s1 b1
          rw [hP2] at s2 b2
          rw [hP1, hP2] at he
          by_cases d1 : x % (T : Int) = 0
          · have d1' : x.tmod T = 0 := by rw [hmod]; exact d1
            rw [if_pos d1] at s1
            by_cases d2 : x = T
            · have d2' : (decide (x = (T : Int))) = true := decide_eq_true d2
              rw [if_pos d2] at s2
              simp +decide (disch := first | assumption | (apply GH.ok_push; assumption) | exact cellV_int _ _ | exact cellV_bool _ | omega) only [go_sem, ↓reduceIte, Nat.reduceEqDiff, Nat.reduceAdd, Int.reduceToNat, he, hp1, hp2, hlu, hv1, hv2, d1', d2']
              refine ih2 (m2 - 1) _ _ _ (by omega) ⟨rfl, hlo2, k + 1, by omega, ?_⟩
              rw [s1, s2]
              exact (by simp +decide (disch := first | assumption | (apply GH.ok_push; assumption) | exact cellV_int _ _ | exact cellV_bool _ | omega) only [go_sem, ↓reduceIte, Nat.reduceEqDiff, Nat.reduceAdd, Int.reduceToNat, he, Int.add_assoc]; first | done | exact rfl)
            · have d2' : (decide (x = (T : Int))) = false := decide_eq_false d2
              rw [if_neg d2] at s2
              simp +decide (disch := first | assumption | (apply GH.ok_push; assumption) | exact cellV_int _ _ | exact cellV_bool _ | omega) only [go_sem, ↓reduceIte, Nat.reduceEqDiff, Nat.reduceAdd, Int.reduceToNat, he, hp1, hp2, hlu, hv1, hv2, d1', d2']
              refine ih2 (m2 - 1) _ _ _ (by omega) ⟨rfl, hlo2, k + 1, by omega, ?_⟩
              rw [s1, s2]
              exact (by simp +decide (disch := first | assumption | (apply GH.ok_push; assumption) | exact cellV_int _ _ | exact cellV_bool _ | omega) only [go_sem, ↓reduceIte, Nat.reduceEqDiff, Nat.reduceAdd, Int.reduceToNat, he, Int.add_assoc, Nat.add_zero]; first | done | exact rfl)
          · have d1' : ¬ x.tmod T = 0 := by rw [hmod]; exact d1
            rw [if_neg d1] at s1
            by_cases d2 : x = T
            · exfalso
              rw [d2] at d1
              simp at d1
            · have d2' : (decide (x = (T : Int))) = false := decide_eq_false d2
              rw [if_neg d2] at s2
              simp +decide (disch := first | assumption | (apply GH.ok_push; assumption) | exact cellV_int _ _ | exact cellV_bool _ | omega) only [go_sem, ↓reduceIte, Nat.reduceEqDiff, Nat.reduceAdd, Int.reduceToNat, he, hp1, hp2, hlu, hv1, hv2, d1', d2']
              refine ih2 (m2 - 1) _ _ _ (by omega) ⟨rfl, hlo2, k + 1, by omega, ?_⟩
              rw [s1, s2]
              exact (by simp +decide (disch := first | assumption | (apply GH.ok_push; assumption) | exact cellV_int _ _ | exact cellV_bool _ | omega) only [go_sem, ↓reduceIte, Nat.reduceEqDiff, Nat.reduceAdd, Int.reduceToNat, he, Nat.add_zero]; first | done | exact rfl)
        · have htk : (hookRow L i).take k = hookRow L i := List.take_of_length_le (by omega)
          rw [htk] at he
          simp +decide (disch := first | assumption | (apply GH.ok_push; assumption) | exact cellV_int _ _ | exact cellV_bool _ | omega) only [go_sem, ↓reduceIte, Nat.reduceEqDiff, Nat.reduceAdd, Int.reduceToNat, he, hp1, hp2, hlu]
          exact out2 _ _ _ ⟨rfl, hlo2, (by simp +decide (disch := first | assumption | (apply GH.ok_push; assumption) | exact cellV_int _ _ | exact cellV_bool _ | omega) only [go_sem, ↓reduceIte, Nat.reduceEqDiff, Nat.reduceAdd, Int.reduceToNat, he]; first | done | exact rfl)⟩
    · have htk : (hooksL L).take i = hooksL L := List.take_of_length_le (by rw [hooksL_len]; omega)
      rw [htk, hdiv, hone] at he
      simp +decide (disch := first | assumption | (apply GH.ok_push; assumption) | exact cellV_int _ _ | exact cellV_bool _ | omega) only [go_sem, ↓reduceIte, Nat.reduceEqDiff, Nat.reduceAdd, Int.reduceToNat, he, hlh]
      exact out _ _ _ ⟨rfl, hlo, (by simp +decide (disch := first | assumption | (apply GH.ok_push; assumption) | exact cellV_int _ _ | exact cellV_bool _ | omega) only [go_sem, ↓reduceIte, Nat.reduceEqDiff, Nat.reduceAdd, Int.reduceToNat, he]; first | done | exact rfl)⟩
end Go.Proofs.Ytieliilnnfjijaa
