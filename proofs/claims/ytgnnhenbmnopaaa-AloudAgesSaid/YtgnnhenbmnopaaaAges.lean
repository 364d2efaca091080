/- the law Ages: ages go up and down by one -/
import Derived.Test.YtgnnhenbmnopaaaK5
import Derived.Test.YtgnnhenbmnopaaaK7
import Derived.Test.YtgnnhenbmnopaaaKa
import Derived.Test.YtgnnhenbmnopaaaKp
set_option linter.all false
set_option linter.unusedSimpArgs false
set_option linter.unnecessarySimpa false
set_option linter.unusedVariables false
set_option linter.unusedSectionVars false
set_option maxRecDepth 100000
set_option maxHeartbeats 8000000
set_option linter.unusedSimpArgs false
set_option linter.unusedVariables false
namespace Go.Proofs.Ytgnnhenbmnopaaa
open Go.Ds Go.Aw
theorem few_rets {X : Caller} (hX : Xfr X) (a b : ByteArray) (g : GH) : Rets Try.prog X 16 [.string a, .string b] g (fun v g' lo => g.next ≤ lo ∧ v = .bool (decide (a.size ≤ 1000) && decide (b.size ≤ 1000)) ∧ g' = g) := by
  refine Rets.run hX.pres p16 (hX.free 16 (by decide) _ _) rfl fun ho => ?_
  by_cases h1 : a.size ≤ 1000
  · by_cases h2 : b.size ≤ 1000
    · simp +decide (disch := first | assumption | (apply GH.ok_push; assumption) | exact cellV_int _ _ | exact cellV_bool _ | omega) only [go_sem, ↓reduceIte, Nat.reduceEqDiff, Nat.reduceAdd, Int.reduceToNat, h1, h2]
      intro hx
      exact ⟨Nat.le_refl _, by simp [h1, h2], rfl⟩
    · simp +decide (disch := first | assumption | (apply GH.ok_push; assumption) | exact cellV_int _ _ | exact cellV_bool _ | omega) only [go_sem, ↓reduceIte, Nat.reduceEqDiff, Nat.reduceAdd, Int.reduceToNat, h1, h2]
      intro hx
      exact ⟨Nat.le_refl _, by simp [h1, h2], rfl⟩
  · simp +decide (disch := first | assumption | (apply GH.ok_push; assumption) | exact cellV_int _ _ | exact cellV_bool _ | omega) only [go_sem, ↓reduceIte, Nat.reduceEqDiff, Nat.reduceAdd, Int.reduceToNat, h1]
    intro hx
    exact ⟨Nat.le_refl _, by simp [h1], rfl⟩
theorem sayV_form (s : ByteArray) : ∃ a n, sayV s = .tuple #[.string a, .int .i64 n] := by
  unfold sayV
  split <;> exact ⟨_, _, rfl⟩
theorem beforeV_form (s : ByteArray) : ∃ a n, beforeV s = .tuple #[.string a, .int .i64 n] := by
  unfold beforeV
  split
  · split <;> exact ⟨_, _, rfl⟩
  · exact ⟨_, _, rfl⟩
theorem ageV_form (s : ByteArray) : ∃ a n, ageV s = .tuple #[.int .i64 a, .int .i64 n] := by
  unfold ageV
  split
  · split <;> exact ⟨_, _, rfl⟩
  · exact ⟨_, _, rfl⟩
theorem saysLaw_rets {X : Caller} (hX : Xok X) (s : ByteArray) (g : GH) : Rets Try.prog X 5 [.string s] g (fun v g' lo => g.next ≤ lo ∧ v = .bool true) := by
  refine Rets.run hX.pres p5 (hX.free 5 (by decide) _ _) rfl fun ho => ?_
  simp +decide (disch := first | assumption | (apply GH.ok_push; assumption) | exact cellV_int _ _ | exact cellV_bool _ | omega) only [go_sem, ↓reduceIte, Nat.reduceEqDiff, Nat.reduceAdd, Int.reduceToNat]
  refine CallD.calm (few_rets hX.toXfr _ _ _) ?_
  rintro v g1 hx1 ⟨rfl, rfl⟩
  cases q : (decide (s.size ≤ 1000) && decide ((⟨#[]⟩ : ByteArray).size ≤ 1000)) with
  | false =>
    simp +decide (disch := first | assumption | (apply GH.ok_push; assumption) | exact cellV_int _ _ | exact cellV_bool _ | omega) only [go_sem, ↓reduceIte, Nat.reduceEqDiff, Nat.reduceAdd, Int.reduceToNat]
    refine CallD.calm (hX.alive _) ?_
    rintro v g2 hx2 ⟨rfl, rfl⟩
    simp +decide (disch := first | assumption | (apply GH.ok_push; assumption) | exact cellV_int _ _ | exact cellV_bool _ | omega) only [go_sem, ↓reduceIte, Nat.reduceEqDiff, Nat.reduceAdd, Int.reduceToNat]
    intro hx
    exact ⟨Nat.le_refl _, rfl⟩
  | true =>
    simp +decide (disch := first | assumption | (apply GH.ok_push; assumption) | exact cellV_int _ _ | exact cellV_bool _ | omega) only [go_sem, ↓reduceIte, Nat.reduceEqDiff, Nat.reduceAdd, Int.reduceToNat]
    obtain ⟨a1, n1, f1⟩ := sayV_form s
    obtain ⟨a2, n2, f2⟩ := beforeV_form s
    obtain ⟨a3, n3, f3⟩ := ageV_form s
    refine CallD.calm (say_rets hX s _) ?_
    rintro v g2 hx2 rfl
    have hn2 := hx2.next
    rw [f1]
    simp +decide (disch := first | assumption | (apply GH.ok_push; assumption) | exact cellV_int _ _ | exact cellV_bool _ | omega) only [go_sem, ↓reduceIte, Nat.reduceEqDiff, Nat.reduceAdd, Int.reduceToNat]
    refine CallD.calm (refSay_rets hX s _) ?_
    rintro v g3 hx3 rfl
    have hn3 := hx3.next
    rw [f1]
    simp +decide (disch := first | assumption | (apply GH.ok_push; assumption) | exact cellV_int _ _ | exact cellV_bool _ | omega) only [go_sem, ↓reduceIte, Nat.reduceEqDiff, Nat.reduceAdd, Int.reduceToNat]
    refine CallD.calm (beforeP_rets hX s _) ?_
    rintro v g4 hx4 rfl
    have hn4 := hx4.next
    rw [f2]
    simp +decide (disch := first | assumption | (apply GH.ok_push; assumption) | exact cellV_int _ _ | exact cellV_bool _ | omega) only [go_sem, ↓reduceIte, Nat.reduceEqDiff, Nat.reduceAdd, Int.reduceToNat]
    refine CallD.calm (refBefore_rets hX s _) ?_
    rintro v g5 hx5 rfl
    have hn5 := hx5.next
    rw [f2]
    simp +decide (disch := first | assumption | (apply GH.ok_push; assumption) | exact cellV_int _ _ | exact cellV_bool _ | omega) only [go_sem, ↓reduceIte, Nat.reduceEqDiff, Nat.reduceAdd, Int.reduceToNat]
    refine CallD.calm (age_rets hX s _) ?_
    rintro v g6 hx6 rfl
    have hn6 := hx6.next
    rw [f3]
    simp +decide (disch := first | assumption | (apply GH.ok_push; assumption) | exact cellV_int _ _ | exact cellV_bool _ | omega) only [go_sem, ↓reduceIte, Nat.reduceEqDiff, Nat.reduceAdd, Int.reduceToNat]
    refine CallD.calm (refAge_rets hX s _) ?_
    rintro v g7 hx7 rfl
    have hn7 := hx7.next
    rw [f3]
    simp +decide (disch := first | assumption | (apply GH.ok_push; assumption) | exact cellV_int _ _ | exact cellV_bool _ | omega) only [go_sem, ↓reduceIte, Nat.reduceEqDiff, Nat.reduceAdd, Int.reduceToNat]
    refine CallD.calm (hX.alive _) ?_
    rintro v g8 hx8 ⟨rfl, rfl⟩
    simp +decide (disch := first | assumption | (apply GH.ok_push; assumption) | exact cellV_int _ _ | exact cellV_bool _ | omega) only [go_sem, ↓reduceIte, Nat.reduceEqDiff, Nat.reduceAdd, Int.reduceToNat]
    intro hx
    exact ⟨by first | exact Nat.le_refl _ | omega, rfl⟩
end Go.Proofs.Ytgnnhenbmnopaaa
set_option maxRecDepth 100000
set_option maxHeartbeats 8000000
set_option linter.unusedSimpArgs false
set_option linter.unusedVariables false
namespace Go.Proofs.Ytgnnhenbmnopaaa
open Go.Ds Go.Aw
theorem few_word {ds : List Nat} (h : Wd ds) : (decide ((Try.txt ds).size ≤ 1000) && decide ((⟨#[]⟩ : ByteArray).size ≤ 1000)) = true := by
  have := h.len
  have h0 : (⟨#[]⟩ : ByteArray).size = 0 := rfl
  rw [Try.txt_size, h0, decide_eq_true (by omega)]
  rfl
theorem aErr_nat {k : Nat} (hk : k ≤ 40) {ds : List Nat} (h : Wd ds) : aErr (k : Int) (Try.txt ds) = derr k ds := by
  rw [aErr_word h, dErr_days (by unfold daysE; rw [if_neg (by omega)])]
  rfl
theorem daysV_word {k : Nat} (hk : k ≤ 40) {ds : List Nat} (h : Wd ds) : daysV (k : Int) (Try.txt ds) = if derr k ds = 0 then .tuple #[.string (Try.txt (wd k ds)), .int .i64 0] else .tuple #[.string ⟨#[]⟩, .int .i64 (derr k ds)] := by
  unfold daysV
  rw [aErr_nat hk h, digs_txt h.dig]
  rfl
theorem wd_dig0 {ds : List Nat} (h : Wd ds) {k : Nat} (hk : derr k ds = 0) : Dig (wd k ds) := wd_dig h.dig (derr_zero.1 hk)
theorem eqB_same (a : Bool) : eqBF false (.bool a) (.bool a) = some (.bool true) := by cases a <;> rfl
theorem conv_u8 (m k : Nat) (hk : 0 < k) (h : k < 256) : convF .i64 (.int .u8 ((m : Int).tmod (k : Int))) = some (.int .i64 ((m % k : Nat) : Int)) := by
  have e : ((m : Int).tmod (k : Int)) = ((m % k : Nat) : Int) := (Int.ofNat_tmod m k).symm
  have := Nat.mod_lt m hk
  rw [e]
  show some (Value.int .i64 (wrapF .i64 _)) = _
  rw [wr64 (by omega) (by omega)]
theorem Wd.say {ds : List Nat} (h : Wd ds) (hs : Sayable ds) (hl : (Aw.say ds).length ≤ 200) : Wd (Aw.say ds) := ⟨say_dig h.dig hs, say_ne h.ne, hl⟩
/-- No word but 22 comes again. -/
theorem neverLaw_rets {X : Caller} (hX : Xok X) (s : ByteArray) (n : Int) (hn : 0 ≤ n) (hn2 : n < 256) (g : GH) : Rets Try.prog X 13 [.string s, .int .u8 n] g (fun v g' lo => g.next ≤ lo ∧ v = .bool true) := by
  refine Rets.run hX.pres p13 (hX.free 13 (by decide) _ _) rfl fun ho => ?_
  simp +decide (disch := first | assumption | (apply GH.ok_push; assumption) | exact cellV_int _ _ | exact cellV_bool _ | omega) only [go_sem, ↓reduceIte, Nat.reduceEqDiff, Nat.reduceAdd, Int.reduceToNat]
  refine CallD.calm (few_rets hX.toXfr _ _ _) ?_
  rintro v g1 hx1 ⟨rfl, rfl⟩
  cases q : (decide (s.size ≤ 1000) && decide ((⟨#[]⟩ : ByteArray).size ≤ 1000)) with
  | false =>
    simp +decide (disch := first | assumption | (apply GH.ok_push; assumption) | exact cellV_int _ _ | exact cellV_bool _ | omega) only [go_sem, ↓reduceIte, Nat.reduceEqDiff, Nat.reduceAdd, Int.reduceToNat]
    refine CallD.calm (hX.alive _) ?_
    rintro v g2 hx2 ⟨rfl, rfl⟩
    simp +decide (disch := first | assumption | (apply GH.ok_push; assumption) | exact cellV_int _ _ | exact cellV_bool _ | omega) only [go_sem, ↓reduceIte, Nat.reduceEqDiff, Nat.reduceAdd, Int.reduceToNat]
    intro hx
    exact ⟨Nat.le_refl _, rfl⟩
  | true =>
    simp +decide (disch := first | assumption | (apply GH.ok_push; assumption) | exact cellV_int _ _ | exact cellV_bool _ | omega) only [go_sem, ↓reduceIte, Nat.reduceEqDiff, Nat.reduceAdd, Int.reduceToNat]
    refine CallD.calm (refWord_rets hX.toXfr s _) ?_
    rintro v g2 hx2 ⟨rfl, rfl⟩
    by_cases hz : werr s = 0
    · obtain ⟨ds, hw, rfl⟩ := werr_word hz
      obtain ⟨m, rfl⟩ : ∃ m : Nat, n = m := ⟨n.toNat, by omega⟩
      have hcv := conv_u8 m 20 (by omega) (by omega)
      have hm := Nat.mod_lt m (show 0 < 20 by omega)
      obtain ⟨k, hk⟩ : ∃ k : Nat, k = 1 + m % 20 := ⟨_, rfl⟩
      have hkc : (1 + ((m % 20 : Nat) : Int)) = (k : Int) := by omega
      have hcv' : convF .i64 (.int .u8 ((m : Int).tmod 20)) = some (.int .i64 ((m % 20 : Nat) : Int)) := hcv
      simp +decide (disch := first | assumption | (apply GH.ok_push; assumption) | exact cellV_int _ _ | exact cellV_bool _ | omega) only [go_sem, ↓reduceIte, Nat.reduceEqDiff, Nat.reduceAdd, Int.reduceToNat, hz, hcv', hkc]
      refine CallD.calm (days_rets hX (Try.txt ds) k _) ?_
      rintro v g3 hx3 rfl
      have hn3 := hx3.next
      rw [daysV_word (by omega) hw]
      have h22 := is22 hw.dig
      by_cases hE : derr k ds = 0
      · rw [if_pos hE]
        have hdk := wd_dig0 hw hE
        by_cases c : ds = [2, 2]
        · have e1 : decide (Try.txt (wd k ds) = Try.txt ds) = true := decide_eq_true (by rw [c, wd_22])
          have e2 : decide (Try.txt ds = (⟨#[50, 50]⟩ : ByteArray)) = true := decide_eq_true (h22.2 c)
          have e3 := eqB_same true
          simp +decide (disch := first | assumption | (apply GH.ok_push; assumption) | exact cellV_int _ _ | exact cellV_bool _ | omega) only [go_sem, ↓reduceIte, Nat.reduceEqDiff, Nat.reduceAdd, Int.reduceToNat, e1, e2, e3]
          refine CallD.calm (hX.alive _) ?_
          rintro v g4 hx4 ⟨rfl, rfl⟩
          simp +decide (disch := first | assumption | (apply GH.ok_push; assumption) | exact cellV_int _ _ | exact cellV_bool _ | omega) only [go_sem, ↓reduceIte, Nat.reduceEqDiff, Nat.reduceAdd, Int.reduceToNat]
          intro hx
          exact ⟨by first | exact Nat.le_refl _ | omega, rfl⟩
        · have e1 : decide (Try.txt (wd k ds) = Try.txt ds) = false := decide_eq_false (fun z => never hw.dig hw.ne c (by omega) ((txt_inj hdk hw.dig).1 z))
          have e2 : decide (Try.txt ds = (⟨#[50, 50]⟩ : ByteArray)) = false := decide_eq_false (fun z => c (h22.1 z))
          have e3 := eqB_same false
          simp +decide (disch := first | assumption | (apply GH.ok_push; assumption) | exact cellV_int _ _ | exact cellV_bool _ | omega) only [go_sem, ↓reduceIte, Nat.reduceEqDiff, Nat.reduceAdd, Int.reduceToNat, e1, e2, e3]
          refine CallD.calm (hX.alive _) ?_
          rintro v g4 hx4 ⟨rfl, rfl⟩
          simp +decide (disch := first | assumption | (apply GH.ok_push; assumption) | exact cellV_int _ _ | exact cellV_bool _ | omega) only [go_sem, ↓reduceIte, Nat.reduceEqDiff, Nat.reduceAdd, Int.reduceToNat]
          intro hx
          exact ⟨by first | exact Nat.le_refl _ | omega, rfl⟩
      · rw [if_neg hE]
        have c : ds ≠ [2, 2] := fun z => hE (by rw [z]; exact derr_22 k)
        have e2 : decide (Try.txt ds = (⟨#[50, 50]⟩ : ByteArray)) = false := decide_eq_false (fun z => c (h22.1 z))
        rcases derr_vals k ds with z | z | z
        · exact absurd z hE
        · rw [z]
          simp +decide (disch := first | assumption | (apply GH.ok_push; assumption) | exact cellV_int _ _ | exact cellV_bool _ | omega) only [go_sem, ↓reduceIte, Nat.reduceEqDiff, Nat.reduceAdd, Int.reduceToNat, e2]
          refine CallD.calm (hX.alive _) ?_
          rintro v g4 hx4 ⟨rfl, rfl⟩
          simp +decide (disch := first | assumption | (apply GH.ok_push; assumption) | exact cellV_int _ _ | exact cellV_bool _ | omega) only [go_sem, ↓reduceIte, Nat.reduceEqDiff, Nat.reduceAdd, Int.reduceToNat]
          intro hx
          exact ⟨by first | exact Nat.le_refl _ | omega, rfl⟩
        · rw [z]
          simp +decide (disch := first | assumption | (apply GH.ok_push; assumption) | exact cellV_int _ _ | exact cellV_bool _ | omega) only [go_sem, ↓reduceIte, Nat.reduceEqDiff, Nat.reduceAdd, Int.reduceToNat, e2]
          refine CallD.calm (hX.alive _) ?_
          rintro v g4 hx4 ⟨rfl, rfl⟩
          simp +decide (disch := first | assumption | (apply GH.ok_push; assumption) | exact cellV_int _ _ | exact cellV_bool _ | omega) only [go_sem, ↓reduceIte, Nat.reduceEqDiff, Nat.reduceAdd, Int.reduceToNat]
          intro hx
          exact ⟨by first | exact Nat.le_refl _ | omega, rfl⟩
    · have hz' : ¬ (werr s = 0) := hz
      simp +decide (disch := first | assumption | (apply GH.ok_push; assumption) | exact cellV_int _ _ | exact cellV_bool _ | omega) only [go_sem, ↓reduceIte, Nat.reduceEqDiff, Nat.reduceAdd, Int.reduceToNat, hz']
      refine CallD.calm (hX.alive _) ?_
      rintro v g3 hx3 ⟨rfl, rfl⟩
      simp +decide (disch := first | assumption | (apply GH.ok_push; assumption) | exact cellV_int _ _ | exact cellV_bool _ | omega) only [go_sem, ↓reduceIte, Nat.reduceEqDiff, Nat.reduceAdd, Int.reduceToNat]
      intro hx
      exact ⟨Nat.le_refl _, rfl⟩
end Go.Proofs.Ytgnnhenbmnopaaa
set_option maxRecDepth 100000
set_option maxHeartbeats 8000000
set_option linter.unusedSimpArgs false
set_option linter.unusedVariables false
namespace Go.Proofs.Ytgnnhenbmnopaaa
open Go.Ds Go.Aw
theorem saidV_ok {ds : List Nat} (h : Sayable ds) : Try.saidV ds = .tuple #[.string (Try.txt (Aw.say ds)), .int .i64 0] := by
  unfold Try.saidV; rw [if_pos h, if_pos h]
theorem saidV_no {ds : List Nat} (h : ¬ Sayable ds) : Try.saidV ds = .tuple #[.string ⟨#[]⟩, .int .i64 4] := by
  unfold Try.saidV; rw [if_neg h, if_neg h]
/-- Ages go up and down by one. -/
theorem agesLaw_rets {X : Caller} (hX : Xok X) (s : ByteArray) (g : GH) : Rets Try.prog X 14 [.string s] g (fun v g' lo => g.next ≤ lo ∧ v = .bool true) := by
  refine Rets.run hX.pres p14 (hX.free 14 (by decide) _ _) rfl fun ho => ?_
  simp +decide (disch := first | assumption | (apply GH.ok_push; assumption) | exact cellV_int _ _ | exact cellV_bool _ | omega) only [go_sem, ↓reduceIte, Nat.reduceEqDiff, Nat.reduceAdd, Int.reduceToNat]
  refine CallD.calm (few_rets hX.toXfr _ _ _) ?_
  rintro v g1 hx1 ⟨rfl, rfl⟩
  cases q : (decide (s.size ≤ 1000) && decide ((⟨#[]⟩ : ByteArray).size ≤ 1000)) with
  | false =>
    simp +decide (disch := first | assumption | (apply GH.ok_push; assumption) | exact cellV_int _ _ | exact cellV_bool _ | omega) only [go_sem, ↓reduceIte, Nat.reduceEqDiff, Nat.reduceAdd, Int.reduceToNat]
    refine CallD.calm (hX.alive _) ?_
    rintro v g2 hx2 ⟨rfl, rfl⟩
    simp +decide (disch := first | assumption | (apply GH.ok_push; assumption) | exact cellV_int _ _ | exact cellV_bool _ | omega) only [go_sem, ↓reduceIte, Nat.reduceEqDiff, Nat.reduceAdd, Int.reduceToNat]
    intro hx
    exact ⟨Nat.le_refl _, rfl⟩
  | true =>
    simp +decide (disch := first | assumption | (apply GH.ok_push; assumption) | exact cellV_int _ _ | exact cellV_bool _ | omega) only [go_sem, ↓reduceIte, Nat.reduceEqDiff, Nat.reduceAdd, Int.reduceToNat]
    refine CallD.calm (refWord_rets hX.toXfr s _) ?_
    rintro v g2 hx2 ⟨rfl, rfl⟩
    by_cases hz : werr s = 0
    · obtain ⟨ds, hw, rfl⟩ := werr_word hz
      have h22 := is22 hw.dig
      have hwl := hw.len
      simp +decide (disch := first | assumption | (apply GH.ok_push; assumption) | exact cellV_int _ _ | exact cellV_bool _ | omega) only [go_sem, ↓reduceIte, Nat.reduceEqDiff, Nat.reduceAdd, Int.reduceToNat, hz]
      refine CallD.calm (age_rets hX (Try.txt ds) _) ?_
      rintro v g3 hx3 rfl
      have hn3 := hx3.next
      by_cases c : ds = [2, 2]
      · have e2 : decide (Try.txt ds = (⟨#[50, 50]⟩ : ByteArray)) = true := decide_eq_true (h22.2 c)
        rw [ageV_22 hw c]
        simp +decide (disch := first | assumption | (apply GH.ok_push; assumption) | exact cellV_int _ _ | exact cellV_bool _ | omega) only [go_sem, ↓reduceIte, Nat.reduceEqDiff, Nat.reduceAdd, Int.reduceToNat, e2]
        refine CallD.calm (hX.alive _) ?_
        rintro v g4 hx4 ⟨rfl, rfl⟩
        simp +decide (disch := first | assumption | (apply GH.ok_push; assumption) | exact cellV_int _ _ | exact cellV_bool _ | omega) only [go_sem, ↓reduceIte, Nat.reduceEqDiff, Nat.reduceAdd, Int.reduceToNat]
        intro hx
        exact ⟨by first | exact Nat.le_refl _ | omega, rfl⟩
      · have e2 : decide (Try.txt ds = (⟨#[50, 50]⟩ : ByteArray)) = false := decide_eq_false (fun z => c (h22.1 z))
        obtain ⟨m, hm, hch⟩ := chain_any hw.dig hw.ne c
        rw [ageV_n hw c hch]
        have hm0 : ¬ ((m : Int) < 0) := by omega
        simp +decide (disch := first | assumption | (apply GH.ok_push; assumption) | exact cellV_int _ _ | exact cellV_bool _ | omega) only [go_sem, ↓reduceIte, Nat.reduceEqDiff, Nat.reduceAdd, Int.reduceToNat, e2]
        refine CallD.calm (beforeP_rets hX _ _) ?_
        rintro v g4 hx4 rfl
        have hn4 := hx4.next
        rw [beforeV_word hw]
        cases hh : heard ds with
        | some v =>
          obtain ⟨k, rfl, hk⟩ : ∃ k, m = k + 1 ∧ Chain v k := by
            cases m with
            | zero => rw [show heard ds = none from hch] at hh; cases hh
            | succ k =>
              obtain ⟨u, hu, hk⟩ := hch
              rw [hh] at hu; cases hu
              exact ⟨k, rfl, hk⟩
          have hp0 : decide ((((k + 1 : Nat) : Int)) > 0) = true := decide_eq_true (by omega)
          have e3 := eqB_same true
          have vsz := Try.txt_size v
          by_cases vl : v.length ≤ 200
          · have d1 : ((Try.txt v).size : Int) ≤ 200 := by omega
            have hwv : Wd v := ⟨heard_dig hw.dig hh, heard_ne hw.dig hw.ne hh, vl⟩
            simp +decide (disch := first | assumption | (apply GH.ok_push; assumption) | exact cellV_int _ _ | exact cellV_bool _ | omega) only [go_sem, ↓reduceIte, Nat.reduceEqDiff, Nat.reduceAdd, Int.reduceToNat, hm0, hp0, e3, d1]
            refine CallD.calm (age_rets hX _ _) ?_
            rintro v gC hxC rfl
            have hnC := hxC.next
            rw [ageV_n hwv (fun z => c (heard_22 (by rw [hh, z]))) hk]
            have wk : wrapF .i64 ((((k + 1 : Nat)) : Int) - 1) = ((k : Nat) : Int) := by rw [wr64 (by omega) (by omega)]; omega
            simp +decide (disch := first | assumption | (apply GH.ok_push; assumption) | exact cellV_int _ _ | exact cellV_bool _ | omega) only [go_sem, ↓reduceIte, Nat.reduceEqDiff, Nat.reduceAdd, Int.reduceToNat, wk]
            refine CallD.calm (say_rets hX _ _) ?_
            rintro v gA hxA rfl
            have hnA := hxA.next
            rw [sayV_word hw]
            by_cases sy : Sayable ds
            · rw [saidV_ok sy]
              have ssz := Try.txt_size (Aw.say ds)
              by_cases sl : (Aw.say ds).length ≤ 200
              · have d1 : ¬ ((200 : Int) < ((Try.txt (Aw.say ds)).size : Int)) := by omega
                simp +decide (disch := first | assumption | (apply GH.ok_push; assumption) | exact cellV_int _ _ | exact cellV_bool _ | omega) only [go_sem, ↓reduceIte, Nat.reduceEqDiff, Nat.reduceAdd, Int.reduceToNat, d1]
                refine CallD.calm (age_rets hX _ _) ?_
                rintro v gB hxB rfl
                have hnB := hxB.next
                rw [ageV_n (hw.say sy sl) (say_not22 c) (show Chain (Aw.say ds) ((k + 1) + 1) from ⟨ds, say_heard ds, hch⟩)]
                have wq : wrapF .i64 ((((k + 1) : Nat) : Int) + 1) = ((((k + 1) + 1 : Nat)) : Int) := by rw [wr64 (by omega) (by omega)]; omega
                simp +decide (disch := first | assumption | (apply GH.ok_push; assumption) | exact cellV_int _ _ | exact cellV_bool _ | omega) only [go_sem, ↓reduceIte, Nat.reduceEqDiff, Nat.reduceAdd, Int.reduceToNat, wq]
                refine CallD.calm (hX.alive _) ?_
                rintro v gz hxz ⟨rfl, rfl⟩
                simp +decide (disch := first | assumption | (apply GH.ok_push; assumption) | exact cellV_int _ _ | exact cellV_bool _ | omega) only [go_sem, ↓reduceIte, Nat.reduceEqDiff, Nat.reduceAdd, Int.reduceToNat]
                intro hx
                exact ⟨by first | exact Nat.le_refl _ | omega, rfl⟩
              · have d1 : (200 : Int) < ((Try.txt (Aw.say ds)).size : Int) := by omega
                simp +decide (disch := first | assumption | (apply GH.ok_push; assumption) | exact cellV_int _ _ | exact cellV_bool _ | omega) only [go_sem, ↓reduceIte, Nat.reduceEqDiff, Nat.reduceAdd, Int.reduceToNat, d1]
                refine CallD.calm (hX.alive _) ?_
                rintro v gz hxz ⟨rfl, rfl⟩
                simp +decide (disch := first | assumption | (apply GH.ok_push; assumption) | exact cellV_int _ _ | exact cellV_bool _ | omega) only [go_sem, ↓reduceIte, Nat.reduceEqDiff, Nat.reduceAdd, Int.reduceToNat]
                intro hx
                exact ⟨by first | exact Nat.le_refl _ | omega, rfl⟩
            · rw [saidV_no sy]
              simp +decide (disch := first | assumption | (apply GH.ok_push; assumption) | exact cellV_int _ _ | exact cellV_bool _ | omega) only [go_sem, ↓reduceIte, Nat.reduceEqDiff, Nat.reduceAdd, Int.reduceToNat]
              refine CallD.calm (hX.alive _) ?_
              rintro v gz hxz ⟨rfl, rfl⟩
              simp +decide (disch := first | assumption | (apply GH.ok_push; assumption) | exact cellV_int _ _ | exact cellV_bool _ | omega) only [go_sem, ↓reduceIte, Nat.reduceEqDiff, Nat.reduceAdd, Int.reduceToNat]
              intro hx
              exact ⟨by first | exact Nat.le_refl _ | omega, rfl⟩
          · have d1 : ¬ (((Try.txt v).size : Int) ≤ 200) := by omega
            simp +decide (disch := first | assumption | (apply GH.ok_push; assumption) | exact cellV_int _ _ | exact cellV_bool _ | omega) only [go_sem, ↓reduceIte, Nat.reduceEqDiff, Nat.reduceAdd, Int.reduceToNat, hm0, hp0, e3, d1]
            refine CallD.calm (say_rets hX _ _) ?_
            rintro v gA hxA rfl
            have hnA := hxA.next
            rw [sayV_word hw]
            by_cases sy : Sayable ds
            · rw [saidV_ok sy]
              have ssz := Try.txt_size (Aw.say ds)
              by_cases sl : (Aw.say ds).length ≤ 200
              · have d1 : ¬ ((200 : Int) < ((Try.txt (Aw.say ds)).size : Int)) := by omega
                simp +decide (disch := first | assumption | (apply GH.ok_push; assumption) | exact cellV_int _ _ | exact cellV_bool _ | omega) only [go_sem, ↓reduceIte, Nat.reduceEqDiff, Nat.reduceAdd, Int.reduceToNat, d1]
                refine CallD.calm (age_rets hX _ _) ?_
                rintro v gB hxB rfl
                have hnB := hxB.next
                rw [ageV_n (hw.say sy sl) (say_not22 c) (show Chain (Aw.say ds) ((k + 1) + 1) from ⟨ds, say_heard ds, hch⟩)]
                have wq : wrapF .i64 ((((k + 1) : Nat) : Int) + 1) = ((((k + 1) + 1 : Nat)) : Int) := by rw [wr64 (by omega) (by omega)]; omega
                simp +decide (disch := first | assumption | (apply GH.ok_push; assumption) | exact cellV_int _ _ | exact cellV_bool _ | omega) only [go_sem, ↓reduceIte, Nat.reduceEqDiff, Nat.reduceAdd, Int.reduceToNat, wq]
                refine CallD.calm (hX.alive _) ?_
                rintro v gz hxz ⟨rfl, rfl⟩
                simp +decide (disch := first | assumption | (apply GH.ok_push; assumption) | exact cellV_int _ _ | exact cellV_bool _ | omega) only [go_sem, ↓reduceIte, Nat.reduceEqDiff, Nat.reduceAdd, Int.reduceToNat]
                intro hx
                exact ⟨by first | exact Nat.le_refl _ | omega, rfl⟩
              · have d1 : (200 : Int) < ((Try.txt (Aw.say ds)).size : Int) := by omega
                simp +decide (disch := first | assumption | (apply GH.ok_push; assumption) | exact cellV_int _ _ | exact cellV_bool _ | omega) only [go_sem, ↓reduceIte, Nat.reduceEqDiff, Nat.reduceAdd, Int.reduceToNat, d1]
                refine CallD.calm (hX.alive _) ?_
                rintro v gz hxz ⟨rfl, rfl⟩
                simp +decide (disch := first | assumption | (apply GH.ok_push; assumption) | exact cellV_int _ _ | exact cellV_bool _ | omega) only [go_sem, ↓reduceIte, Nat.reduceEqDiff, Nat.reduceAdd, Int.reduceToNat]
                intro hx
                exact ⟨by first | exact Nat.le_refl _ | omega, rfl⟩
            · rw [saidV_no sy]
              simp +decide (disch := first | assumption | (apply GH.ok_push; assumption) | exact cellV_int _ _ | exact cellV_bool _ | omega) only [go_sem, ↓reduceIte, Nat.reduceEqDiff, Nat.reduceAdd, Int.reduceToNat]
              refine CallD.calm (hX.alive _) ?_
              rintro v gz hxz ⟨rfl, rfl⟩
              simp +decide (disch := first | assumption | (apply GH.ok_push; assumption) | exact cellV_int _ _ | exact cellV_bool _ | omega) only [go_sem, ↓reduceIte, Nat.reduceEqDiff, Nat.reduceAdd, Int.reduceToNat]
              intro hx
              exact ⟨by first | exact Nat.le_refl _ | omega, rfl⟩
        | none =>
          obtain rfl : m = 0 := by
            cases m with
            | zero => rfl
            | succ k =>
              obtain ⟨u, hu, hk⟩ := hch
              rw [hh] at hu; cases hu
          have e3 := eqB_same false
          simp +decide (disch := first | assumption | (apply GH.ok_push; assumption) | exact cellV_int _ _ | exact cellV_bool _ | omega) only [go_sem, ↓reduceIte, Nat.reduceEqDiff, Nat.reduceAdd, Int.reduceToNat, hm0, e3]
          refine CallD.calm (say_rets hX _ _) ?_
          rintro v gA hxA rfl
          have hnA := hxA.next
          rw [sayV_word hw]
          by_cases sy : Sayable ds
          · rw [saidV_ok sy]
            have ssz := Try.txt_size (Aw.say ds)
            by_cases sl : (Aw.say ds).length ≤ 200
            · have d1 : ¬ ((200 : Int) < ((Try.txt (Aw.say ds)).size : Int)) := by omega
              simp +decide (disch := first | assumption | (apply GH.ok_push; assumption) | exact cellV_int _ _ | exact cellV_bool _ | omega) only [go_sem, ↓reduceIte, Nat.reduceEqDiff, Nat.reduceAdd, Int.reduceToNat, d1]
              refine CallD.calm (age_rets hX _ _) ?_
              rintro v gB hxB rfl
              have hnB := hxB.next
              rw [ageV_n (hw.say sy sl) (say_not22 c) (show Chain (Aw.say ds) (0 + 1) from ⟨ds, say_heard ds, hch⟩)]
              have wq : wrapF .i64 (((0 : Nat) : Int) + 1) = (((0 + 1 : Nat)) : Int) := by rw [wr64 (by omega) (by omega)]; omega
              simp +decide (disch := first | assumption | (apply GH.ok_push; assumption) | exact cellV_int _ _ | exact cellV_bool _ | omega) only [go_sem, ↓reduceIte, Nat.reduceEqDiff, Nat.reduceAdd, Int.reduceToNat, wq]
              refine CallD.calm (hX.alive _) ?_
              rintro v gz hxz ⟨rfl, rfl⟩
              simp +decide (disch := first | assumption | (apply GH.ok_push; assumption) | exact cellV_int _ _ | exact cellV_bool _ | omega) only [go_sem, ↓reduceIte, Nat.reduceEqDiff, Nat.reduceAdd, Int.reduceToNat]
              intro hx
              exact ⟨by first | exact Nat.le_refl _ | omega, rfl⟩
            · have d1 : (200 : Int) < ((Try.txt (Aw.say ds)).size : Int) := by omega
              simp +decide (disch := first | assumption | (apply GH.ok_push; assumption) | exact cellV_int _ _ | exact cellV_bool _ | omega) only [go_sem, ↓reduceIte, Nat.reduceEqDiff, Nat.reduceAdd, Int.reduceToNat, d1]
              refine CallD.calm (hX.alive _) ?_
              rintro v gz hxz ⟨rfl, rfl⟩
              simp +decide (disch := first | assumption | (apply GH.ok_push; assumption) | exact cellV_int _ _ | exact cellV_bool _ | omega) only [go_sem, ↓reduceIte, Nat.reduceEqDiff, Nat.reduceAdd, Int.reduceToNat]
              intro hx
              exact ⟨by first | exact Nat.le_refl _ | omega, rfl⟩
          · rw [saidV_no sy]
            simp +decide (disch := first | assumption | (apply GH.ok_push; assumption) | exact cellV_int _ _ | exact cellV_bool _ | omega) only [go_sem, ↓reduceIte, Nat.reduceEqDiff, Nat.reduceAdd, Int.reduceToNat]
            refine CallD.calm (hX.alive _) ?_
            rintro v gz hxz ⟨rfl, rfl⟩
            simp +decide (disch := first | assumption | (apply GH.ok_push; assumption) | exact cellV_int _ _ | exact cellV_bool _ | omega) only [go_sem, ↓reduceIte, Nat.reduceEqDiff, Nat.reduceAdd, Int.reduceToNat]
            intro hx
            exact ⟨by first | exact Nat.le_refl _ | omega, rfl⟩
    · have hz' : ¬ (werr s = 0) := hz
      simp +decide (disch := first | assumption | (apply GH.ok_push; assumption) | exact cellV_int _ _ | exact cellV_bool _ | omega) only [go_sem, ↓reduceIte, Nat.reduceEqDiff, Nat.reduceAdd, Int.reduceToNat, hz']
      refine CallD.calm (hX.alive _) ?_
      rintro v g3 hx3 ⟨rfl, rfl⟩
      simp +decide (disch := first | assumption | (apply GH.ok_push; assumption) | exact cellV_int _ _ | exact cellV_bool _ | omega) only [go_sem, ↓reduceIte, Nat.reduceEqDiff, Nat.reduceAdd, Int.reduceToNat]
      intro hx
      exact ⟨Nat.le_refl _, rfl⟩
end Go.Proofs.Ytgnnhenbmnopaaa
namespace Go.Proofs.Ytgnnhenbmnopaaa
open Go.ChangeShapes Go.WideShapes Go.ChangeAt Go.RowKit
set_option linter.unusedVariables false
set_option maxRecDepth 100000
open Go.Ds in
theorem aloudAges_calls (s0 : ByteArray) (w : World) :
    Calls Try.prog 14 #[.string s0] w fun e w' => e = .returned (.bool true) ∧ RowKit.Below w.heap.size w w' :=
  Rets.calls X0_orac mixedO (args := [.string s0]) rfl (X0_free (by decide) _ _) rfl ((agesLaw_rets X0_ok s0 GH.zero).mono fun _ _ _ _ h => h.2) w
namespace aloudAges
set_option maxRecDepth 100000 in
theorem lifted (os : Os) (started : os.Started) (H : Type) (enc : TypeId × Value → H) :
    ReturnsInHanded {} Try.checked os 14 .any (Rows.aloudAgesSpec.pre6 enc Try.prog Try.f14 Rows.aloudAgesRow.domain false) (Rows.aloudAgesSpec.post enc Try.prog Try.f14 false true false false) := by
  refine returnsInHanded_of_change (C := Try.checked) ownNone started (by kernel_rfl) Try.func14
    (ChangeSpec.witness6 (enc := enc) (C := Try.checked) false ⟨#[], #[.string ⟨#[]⟩], []⟩ 8 (by kernel_rfl) (by kernel_rfl) (by kernel_rfl) (by kernel_rfl)) ?_
  intro W base args ds gs before hval0 hW hcnd _
  have hval : ∀ (j : Nat) t v, Try.f14.params[j]? = some t → args[j]? = some v → Value.okWide Try.prog W .any base t v := hval0
  have hW' := hW
  obtain ⟨p, q, hA0, hV, rfl, hfz, hnd⟩ := hW
  have hA : DataW.TrodAll enc Try.prog W 0 (fun _ => true) true Try.f14.params.toList args.toList ds p := hA0
  rw [Try.params14] at hA hval
  obtain ⟨v0, vs0, d0, ds0, p0, q0, hargs, rfl, rfl, h0, r0⟩ := trodAll_cons hA
  obtain ⟨rfl, rfl, rfl⟩ := trodAll_nil r0
  obtain rfl : args = #[v0] := by cases args; simp_all
  obtain ⟨rfl, rfl⟩ := trodVars_none hV
  have k0 := h0
  have lt0 : ∀ x ∈ p0, x.block < W.heap.size := by obtain ⟨m, hm⟩ := k0; exact DataW.trod_lt m _ _ _ hm
  obtain ⟨s0, rfl, rfl, rfl, ls0⟩ := Go.ChangeMaps.open_string Try.underlying9 (hval 0 9 v0 rfl rfl) h0
  clear hA0 hval0
  refine (aloudAges_calls s0 W).mono fun e W' ⟨he, bel⟩ => ?_
  subst he
  exact ⟨_, rfl, _, _, _, [], _, [], hW', trodAll_mk1 (shut_bool Try.underlying4 _), (trodAll_cons_mk (Below.trod laidOut (by kernel_rfl) (of_decide_eq_true (by kernel_rfl)) k0 bel lt0) trodAll_mk0), rfl, bel.frame _, fun h => by cases h⟩
theorem over : Rows.aloudAgesRow.holds Try.pinned (OpenSpec.ofChange Rows.aloudAgesSpec) :=
  OpenClaim.holds_of_wide 14 Try.f14 rfl rfl rfl rfl rfl rfl rfl ⟨rfl, rfl, rfl, rfl, rfl⟩ rfl rfl rfl rfl rfl (by kernel_rfl) Try.func14 (by kernel_rfl)
    (of_decide_eq_true (by kernel_rfl)) (by unfold Func.isWrapper; first | (rw [if_pos (by decide +kernel)]; kernel_rfl) | (rw [if_neg (by decide +kernel)]; exact ⟨rfl, rfl⟩))
    (fun os started H enc _ => lifted os started H enc)
/-- The statement. -/
theorem proved : Rows.AloudAgesSaid := over
#print axioms proved
end aloudAges
end Go.Proofs.Ytgnnhenbmnopaaa
