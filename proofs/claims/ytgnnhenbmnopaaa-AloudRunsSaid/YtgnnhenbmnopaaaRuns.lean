/- the law Runs: what is said has short runs -/
import Derived.Test.YtgnnhenbmnopaaaK5
import Derived.Test.YtgnnhenbmnopaaaK7
import Derived.Test.YtgnnhenbmnopaaaKa
import Derived.Test.YtgnnhenbmnopaaaKp
set_option linter.all false
set_option linter.unusedSimpArgs false
set_option linter.unnecessarySimpa false
set_option linter.unusedVariables false
set_option linter.unusedSectionVars false
set_option maxRecDepth 100000
set_option maxHeartbeats 8000000
set_option linter.unusedSimpArgs false
set_option linter.unusedVariables false
namespace Go.Proofs.Ytgnnhenbmnopaaa
open Go.Ds Go.Aw
theorem few_rets {X : Caller} (hX : Xfr X) (a b : ByteArray) (g : GH) : Rets Try.prog X 16 [.string a, .string b] g (fun v g' lo => g.next ≤ lo ∧ v = .bool (decide (a.size ≤ 1000) && decide (b.size ≤ 1000)) ∧ g' = g) := by
  refine Rets.run hX.pres p16 (hX.free 16 (by decide) _ _) rfl fun ho => ?_
  by_cases h1 : a.size ≤ 1000
  · by_cases h2 : b.size ≤ 1000
    · simp +decide (disch := first | assumption | (apply GH.ok_push; assumption) | exact cellV_int _ _ | exact cellV_bool _ | omega) only [go_sem, ↓reduceIte, Nat.reduceEqDiff, Nat.reduceAdd, Int.reduceToNat, h1, h2]
      intro hx
      exact ⟨Nat.le_refl _, by simp [h1, h2], rfl⟩
    · simp +decide (disch := first | assumption | (apply GH.ok_push; assumption) | exact cellV_int _ _ | exact cellV_bool _ | omega) only [go_sem, ↓reduceIte, Nat.reduceEqDiff, Nat.reduceAdd, Int.reduceToNat, h1, h2]
      intro hx
      exact ⟨Nat.le_refl _, by simp [h1, h2], rfl⟩
  · simp +decide (disch := first | assumption | (apply GH.ok_push; assumption) | exact cellV_int _ _ | exact cellV_bool _ | omega) only [go_sem, ↓reduceIte, Nat.reduceEqDiff, Nat.reduceAdd, Int.reduceToNat, h1]
    intro hx
    exact ⟨Nat.le_refl _, by simp [h1], rfl⟩
theorem sayV_form (s : ByteArray) : ∃ a n, sayV s = .tuple #[.string a, .int .i64 n] := by
  unfold sayV
  split <;> exact ⟨_, _, rfl⟩
theorem beforeV_form (s : ByteArray) : ∃ a n, beforeV s = .tuple #[.string a, .int .i64 n] := by
  unfold beforeV
  split
  · split <;> exact ⟨_, _, rfl⟩
  · exact ⟨_, _, rfl⟩
theorem ageV_form (s : ByteArray) : ∃ a n, ageV s = .tuple #[.int .i64 a, .int .i64 n] := by
  unfold ageV
  split
  · split <;> exact ⟨_, _, rfl⟩
  · exact ⟨_, _, rfl⟩
theorem saysLaw_rets {X : Caller} (hX : Xok X) (s : ByteArray) (g : GH) : Rets Try.prog X 5 [.string s] g (fun v g' lo => g.next ≤ lo ∧ v = .bool true) := by
  refine Rets.run hX.pres p5 (hX.free 5 (by decide) _ _) rfl fun ho => ?_
  simp +decide (disch := first | assumption | (apply GH.ok_push; assumption) | exact cellV_int _ _ | exact cellV_bool _ | omega) only [go_sem, ↓reduceIte, Nat.reduceEqDiff, Nat.reduceAdd, Int.reduceToNat]
  refine CallD.calm (few_rets hX.toXfr _ _ _) ?_
  rintro v g1 hx1 ⟨rfl, rfl⟩
  cases q : (decide (s.size ≤ 1000) && decide ((⟨#[]⟩ : ByteArray).size ≤ 1000)) with
  | false =>
    simp +decide (disch := first | assumption | (apply GH.ok_push; assumption) | exact cellV_int _ _ | exact cellV_bool _ | omega) only [go_sem, ↓reduceIte, Nat.reduceEqDiff, Nat.reduceAdd, Int.reduceToNat]
    refine CallD.calm (hX.alive _) ?_
    rintro v g2 hx2 ⟨rfl, rfl⟩
    simp +decide (disch := first | assumption | (apply GH.ok_push; assumption) | exact cellV_int _ _ | exact cellV_bool _ | omega) only [go_sem, ↓reduceIte, Nat.reduceEqDiff, Nat.reduceAdd, Int.reduceToNat]
    intro hx
    exact ⟨Nat.le_refl _, rfl⟩
  | true =>
    simp +decide (disch := first | assumption | (apply GH.ok_push; assumption) | exact cellV_int _ _ | exact cellV_bool _ | omega) only [go_sem, ↓reduceIte, Nat.reduceEqDiff, Nat.reduceAdd, Int.reduceToNat]
    obtain ⟨a1, n1, f1⟩ := sayV_form s
    obtain ⟨a2, n2, f2⟩ := beforeV_form s
    obtain ⟨a3, n3, f3⟩ := ageV_form s
    refine CallD.calm (say_rets hX s _) ?_
    rintro v g2 hx2 rfl
    have hn2 := hx2.next
    rw [f1]
    simp +decide (disch := first | assumption | (apply GH.ok_push; assumption) | exact cellV_int _ _ | exact cellV_bool _ | omega) only [go_sem, ↓reduceIte, Nat.reduceEqDiff, Nat.reduceAdd, Int.reduceToNat]
    refine CallD.calm (refSay_rets hX s _) ?_
    rintro v g3 hx3 rfl
    have hn3 := hx3.next
    rw [f1]
    simp +decide (disch := first | assumption | (apply GH.ok_push; assumption) | exact cellV_int _ _ | exact cellV_bool _ | omega) only [go_sem, ↓reduceIte, Nat.reduceEqDiff, Nat.reduceAdd, Int.reduceToNat]
    refine CallD.calm (beforeP_rets hX s _) ?_
    rintro v g4 hx4 rfl
    have hn4 := hx4.next
    rw [f2]
    simp +decide (disch := first | assumption | (apply GH.ok_push; assumption) | exact cellV_int _ _ | exact cellV_bool _ | omega) only [go_sem, ↓reduceIte, Nat.reduceEqDiff, Nat.reduceAdd, Int.reduceToNat]
    refine CallD.calm (refBefore_rets hX s _) ?_
    rintro v g5 hx5 rfl
    have hn5 := hx5.next
    rw [f2]
    simp +decide (disch := first | assumption | (apply GH.ok_push; assumption) | exact cellV_int _ _ | exact cellV_bool _ | omega) only [go_sem, ↓reduceIte, Nat.reduceEqDiff, Nat.reduceAdd, Int.reduceToNat]
    refine CallD.calm (age_rets hX s _) ?_
    rintro v g6 hx6 rfl
    have hn6 := hx6.next
    rw [f3]
    simp +decide (disch := first | assumption | (apply GH.ok_push; assumption) | exact cellV_int _ _ | exact cellV_bool _ | omega) only [go_sem, ↓reduceIte, Nat.reduceEqDiff, Nat.reduceAdd, Int.reduceToNat]
    refine CallD.calm (refAge_rets hX s _) ?_
    rintro v g7 hx7 rfl
    have hn7 := hx7.next
    rw [f3]
    simp +decide (disch := first | assumption | (apply GH.ok_push; assumption) | exact cellV_int _ _ | exact cellV_bool _ | omega) only [go_sem, ↓reduceIte, Nat.reduceEqDiff, Nat.reduceAdd, Int.reduceToNat]
    refine CallD.calm (hX.alive _) ?_
    rintro v g8 hx8 ⟨rfl, rfl⟩
    simp +decide (disch := first | assumption | (apply GH.ok_push; assumption) | exact cellV_int _ _ | exact cellV_bool _ | omega) only [go_sem, ↓reduceIte, Nat.reduceEqDiff, Nat.reduceAdd, Int.reduceToNat]
    intro hx
    exact ⟨by first | exact Nat.le_refl _ | omega, rfl⟩
end Go.Proofs.Ytgnnhenbmnopaaa
set_option maxRecDepth 100000
set_option maxHeartbeats 8000000
set_option linter.unusedSimpArgs false
set_option linter.unusedVariables false
namespace Go.Proofs.Ytgnnhenbmnopaaa
open Go.Ds Go.Aw
theorem few_word {ds : List Nat} (h : Wd ds) : (decide ((Try.txt ds).size ≤ 1000) && decide ((⟨#[]⟩ : ByteArray).size ≤ 1000)) = true := by
  have := h.len
  have h0 : (⟨#[]⟩ : ByteArray).size = 0 := rfl
  rw [Try.txt_size, h0, decide_eq_true (by omega)]
  rfl
theorem aErr_nat {k : Nat} (hk : k ≤ 40) {ds : List Nat} (h : Wd ds) : aErr (k : Int) (Try.txt ds) = derr k ds := by
  rw [aErr_word h, dErr_days (by unfold daysE; rw [if_neg (by omega)])]
  rfl
theorem daysV_word {k : Nat} (hk : k ≤ 40) {ds : List Nat} (h : Wd ds) : daysV (k : Int) (Try.txt ds) = if derr k ds = 0 then .tuple #[.string (Try.txt (wd k ds)), .int .i64 0] else .tuple #[.string ⟨#[]⟩, .int .i64 (derr k ds)] := by
  unfold daysV
  rw [aErr_nat hk h, digs_txt h.dig]
  rfl
theorem wd_dig0 {ds : List Nat} (h : Wd ds) {k : Nat} (hk : derr k ds = 0) : Dig (wd k ds) := wd_dig h.dig (derr_zero.1 hk)
theorem eqB_same (a : Bool) : eqBF false (.bool a) (.bool a) = some (.bool true) := by cases a <;> rfl
theorem conv_u8 (m k : Nat) (hk : 0 < k) (h : k < 256) : convF .i64 (.int .u8 ((m : Int).tmod (k : Int))) = some (.int .i64 ((m % k : Nat) : Int)) := by
  have e : ((m : Int).tmod (k : Int)) = ((m % k : Nat) : Int) := (Int.ofNat_tmod m k).symm
  have := Nat.mod_lt m hk
  rw [e]
  show some (Value.int .i64 (wrapF .i64 _)) = _
  rw [wr64 (by omega) (by omega)]
theorem Wd.say {ds : List Nat} (h : Wd ds) (hs : Sayable ds) (hl : (Aw.say ds).length ≤ 200) : Wd (Aw.say ds) := ⟨say_dig h.dig hs, say_ne h.ne, hl⟩
/-- No word but 22 comes again. -/
theorem neverLaw_rets {X : Caller} (hX : Xok X) (s : ByteArray) (n : Int) (hn : 0 ≤ n) (hn2 : n < 256) (g : GH) : Rets Try.prog X 13 [.string s, .int .u8 n] g (fun v g' lo => g.next ≤ lo ∧ v = .bool true) := by
  refine Rets.run hX.pres p13 (hX.free 13 (by decide) _ _) rfl fun ho => ?_
  simp +decide (disch := first | assumption | (apply GH.ok_push; assumption) | exact cellV_int _ _ | exact cellV_bool _ | omega) only [go_sem, ↓reduceIte, Nat.reduceEqDiff, Nat.reduceAdd, Int.reduceToNat]
  refine CallD.calm (few_rets hX.toXfr _ _ _) ?_
  rintro v g1 hx1 ⟨rfl, rfl⟩
  cases q : (decide (s.size ≤ 1000) && decide ((⟨#[]⟩ : ByteArray).size ≤ 1000)) with
  | false =>
    simp +decide (disch := first | assumption | (apply GH.ok_push; assumption) | exact cellV_int _ _ | exact cellV_bool _ | omega) only [go_sem, ↓reduceIte, Nat.reduceEqDiff, Nat.reduceAdd, Int.reduceToNat]
    refine CallD.calm (hX.alive _) ?_
    rintro v g2 hx2 ⟨rfl, rfl⟩
    simp +decide (disch := first | assumption | (apply GH.ok_push; assumption) | exact cellV_int _ _ | exact cellV_bool _ | omega) only [go_sem, ↓reduceIte, Nat.reduceEqDiff, Nat.reduceAdd, Int.reduceToNat]
    intro hx
    exact ⟨Nat.le_refl _, rfl⟩
  | true =>
    simp +decide (disch := first | assumption | (apply GH.ok_push; assumption) | exact cellV_int _ _ | exact cellV_bool _ | omega) only [go_sem, ↓reduceIte, Nat.reduceEqDiff, Nat.reduceAdd, Int.reduceToNat]
    refine CallD.calm (refWord_rets hX.toXfr s _) ?_
    rintro v g2 hx2 ⟨rfl, rfl⟩
    by_cases hz : werr s = 0
    · obtain ⟨ds, hw, rfl⟩ := werr_word hz
      obtain ⟨m, rfl⟩ : ∃ m : Nat, n = m := ⟨n.toNat, by omega⟩
      have hcv := conv_u8 m 20 (by omega) (by omega)
      have hm := Nat.mod_lt m (show 0 < 20 by omega)
      obtain ⟨k, hk⟩ : ∃ k : Nat, k = 1 + m % 20 := ⟨_, rfl⟩
      have hkc : (1 + ((m % 20 : Nat) : Int)) = (k : Int) := by omega
      have hcv' : convF .i64 (.int .u8 ((m : Int).tmod 20)) = some (.int .i64 ((m % 20 : Nat) : Int)) := hcv
      simp +decide (disch := first | assumption | (apply GH.ok_push; assumption) | exact cellV_int _ _ | exact cellV_bool _ | omega) only [go_sem, ↓reduceIte, Nat.reduceEqDiff, Nat.reduceAdd, Int.reduceToNat, hz, hcv', hkc]
      refine CallD.calm (days_rets hX (Try.txt ds) k _) ?_
      rintro v g3 hx3 rfl
      have hn3 := hx3.next
      rw [daysV_word (by omega) hw]
      have h22 := is22 hw.dig
      by_cases hE : derr k ds = 0
      · rw [if_pos hE]
        have hdk := wd_dig0 hw hE
        by_cases c : ds = [2, 2]
        · have e1 : decide (Try.txt (wd k ds) = Try.txt ds) = true := decide_eq_true (by rw [c, wd_22])
          have e2 : decide (Try.txt ds = (⟨#[50, 50]⟩ : ByteArray)) = true := decide_eq_true (h22.2 c)
          have e3 := eqB_same true
          simp +decide (disch := first | assumption | (apply GH.ok_push; assumption) | exact cellV_int _ _ | exact cellV_bool _ | omega) only [go_sem, ↓reduceIte, Nat.reduceEqDiff, Nat.reduceAdd, Int.reduceToNat, e1, e2, e3]
          refine CallD.calm (hX.alive _) ?_
          rintro v g4 hx4 ⟨rfl, rfl⟩
          simp +decide (disch := first | assumption | (apply GH.ok_push; assumption) | exact cellV_int _ _ | exact cellV_bool _ | omega) only [go_sem, ↓reduceIte, Nat.reduceEqDiff, Nat.reduceAdd, Int.reduceToNat]
          intro hx
          exact ⟨by first | exact Nat.le_refl _ | omega, rfl⟩
        · have e1 : decide (Try.txt (wd k ds) = Try.txt ds) = false := decide_eq_false (fun z => never hw.dig hw.ne c (by omega) ((txt_inj hdk hw.dig).1 z))
          have e2 : decide (Try.txt ds = (⟨#[50, 50]⟩ : ByteArray)) = false := decide_eq_false (fun z => c (h22.1 z))
          have e3 := eqB_same false
          simp +decide (disch := first | assumption | (apply GH.ok_push; assumption) | exact cellV_int _ _ | exact cellV_bool _ | omega) only [go_sem, ↓reduceIte, Nat.reduceEqDiff, Nat.reduceAdd, Int.reduceToNat, e1, e2, e3]
          refine CallD.calm (hX.alive _) ?_
          rintro v g4 hx4 ⟨rfl, rfl⟩
          simp +decide (disch := first | assumption | (apply GH.ok_push; assumption) | exact cellV_int _ _ | exact cellV_bool _ | omega) only [go_sem, ↓reduceIte, Nat.reduceEqDiff, Nat.reduceAdd, Int.reduceToNat]
          intro hx
          exact ⟨by first | exact Nat.le_refl _ | omega, rfl⟩
      · rw [if_neg hE]
        have c : ds ≠ [2, 2] := fun z => hE (by rw [z]; exact derr_22 k)
        have e2 : decide (Try.txt ds = (⟨#[50, 50]⟩ : ByteArray)) = false := decide_eq_false (fun z => c (h22.1 z))
        rcases derr_vals k ds with z | z | z
        · exact absurd z hE
        · rw [z]
          simp +decide (disch := first | assumption | (apply GH.ok_push; assumption) | exact cellV_int _ _ | exact cellV_bool _ | omega) only [go_sem, ↓reduceIte, Nat.reduceEqDiff, Nat.reduceAdd, Int.reduceToNat, e2]
          refine CallD.calm (hX.alive _) ?_
          rintro v g4 hx4 ⟨rfl, rfl⟩
          simp +decide (disch := first | assumption | (apply GH.ok_push; assumption) | exact cellV_int _ _ | exact cellV_bool _ | omega) only [go_sem, ↓reduceIte, Nat.reduceEqDiff, Nat.reduceAdd, Int.reduceToNat]
          intro hx
          exact ⟨by first | exact Nat.le_refl _ | omega, rfl⟩
        · rw [z]
          simp +decide (disch := first | assumption | (apply GH.ok_push; assumption) | exact cellV_int _ _ | exact cellV_bool _ | omega) only [go_sem, ↓reduceIte, Nat.reduceEqDiff, Nat.reduceAdd, Int.reduceToNat, e2]
          refine CallD.calm (hX.alive _) ?_
          rintro v g4 hx4 ⟨rfl, rfl⟩
          simp +decide (disch := first | assumption | (apply GH.ok_push; assumption) | exact cellV_int _ _ | exact cellV_bool _ | omega) only [go_sem, ↓reduceIte, Nat.reduceEqDiff, Nat.reduceAdd, Int.reduceToNat]
          intro hx
          exact ⟨by first | exact Nat.le_refl _ | omega, rfl⟩
    · have hz' : ¬ (werr s = 0) := hz
      simp +decide (disch := first | assumption | (apply GH.ok_push; assumption) | exact cellV_int _ _ | exact cellV_bool _ | omega) only [go_sem, ↓reduceIte, Nat.reduceEqDiff, Nat.reduceAdd, Int.reduceToNat, hz']
      refine CallD.calm (hX.alive _) ?_
      rintro v g3 hx3 ⟨rfl, rfl⟩
      simp +decide (disch := first | assumption | (apply GH.ok_push; assumption) | exact cellV_int _ _ | exact cellV_bool _ | omega) only [go_sem, ↓reduceIte, Nat.reduceEqDiff, Nat.reduceAdd, Int.reduceToNat]
      intro hx
      exact ⟨Nat.le_refl _, rfl⟩
end Go.Proofs.Ytgnnhenbmnopaaa
set_option maxRecDepth 100000
set_option maxHeartbeats 8000000
set_option linter.unusedSimpArgs false
set_option linter.unusedVariables false
namespace Go.Proofs.Ytgnnhenbmnopaaa
open Go.Ds Go.Aw
theorem saidV_ok {ds : List Nat} (h : Sayable ds) : Try.saidV ds = .tuple #[.string (Try.txt (Aw.say ds)), .int .i64 0] := by
  unfold Try.saidV; rw [if_pos h, if_pos h]
theorem saidV_no {ds : List Nat} (h : ¬ Sayable ds) : Try.saidV ds = .tuple #[.string ⟨#[]⟩, .int .i64 4] := by
  unfold Try.saidV; rw [if_neg h, if_neg h]
/-- Ages go up and down by one. -/
theorem agesLaw_rets {X : Caller} (hX : Xok X) (s : ByteArray) (g : GH) : Rets Try.prog X 14 [.string s] g (fun v g' lo => g.next ≤ lo ∧ v = .bool true) := by
  refine Rets.run hX.pres p14 (hX.free 14 (by decide) _ _) rfl fun ho => ?_
  simp +decide (disch := first | assumption | (apply GH.ok_push; assumption) | exact cellV_int _ _ | exact cellV_bool _ | omega) only [go_sem, ↓reduceIte, Nat.reduceEqDiff, Nat.reduceAdd, Int.reduceToNat]
  refine CallD.calm (few_rets hX.toXfr _ _ _) ?_
  rintro v g1 hx1 ⟨rfl, rfl⟩
  cases q : (decide (s.size ≤ 1000) && decide ((⟨#[]⟩ : ByteArray).size ≤ 1000)) with
  | false =>
    simp +decide (disch := first | assumption | (apply GH.ok_push; assumption) | exact cellV_int _ _ | exact cellV_bool _ | omega) only [go_sem, ↓reduceIte, Nat.reduceEqDiff, Nat.reduceAdd, Int.reduceToNat]
    refine CallD.calm (hX.alive _) ?_
    rintro v g2 hx2 ⟨rfl, rfl⟩
    simp +decide (disch := first | assumption | (apply GH.ok_push; assumption) | exact cellV_int _ _ | exact cellV_bool _ | omega) only [go_sem, ↓reduceIte, Nat.reduceEqDiff, Nat.reduceAdd, Int.reduceToNat]
    intro hx
    exact ⟨Nat.le_refl _, rfl⟩
  | true =>
    simp +decide (disch := first | assumption | (apply GH.ok_push; assumption) | exact cellV_int _ _ | exact cellV_bool _ | omega) only [go_sem, ↓reduceIte, Nat.reduceEqDiff, Nat.reduceAdd, Int.reduceToNat]
    refine CallD.calm (refWord_rets hX.toXfr s _) ?_
    rintro v g2 hx2 ⟨rfl, rfl⟩
    by_cases hz : werr s = 0
    · obtain ⟨ds, hw, rfl⟩ := werr_word hz
      have h22 := is22 hw.dig
      have hwl := hw.len
      simp +decide (disch := first | assumption | (apply GH.ok_push; assumption) | exact cellV_int _ _ | exact cellV_bool _ | omega) only [go_sem, ↓reduceIte, Nat.reduceEqDiff, Nat.reduceAdd, Int.reduceToNat, hz]
      refine CallD.calm (age_rets hX (Try.txt ds) _) ?_
      rintro v g3 hx3 rfl
      have hn3 := hx3.next
      by_cases c : ds = [2, 2]
      · have e2 : decide (Try.txt ds = (⟨#[50, 50]⟩ : ByteArray)) = true := decide_eq_true (h22.2 c)
        rw [ageV_22 hw c]
        simp +decide (disch := first | assumption | (apply GH.ok_push; assumption) | exact cellV_int _ _ | exact cellV_bool _ | omega) only [go_sem, ↓reduceIte, Nat.reduceEqDiff, Nat.reduceAdd, Int.reduceToNat, e2]
        refine CallD.calm (hX.alive _) ?_
        rintro v g4 hx4 ⟨rfl, rfl⟩
        simp +decide (disch := first | assumption | (apply GH.ok_push; assumption) | exact cellV_int _ _ | exact cellV_bool _ | omega) only [go_sem, ↓reduceIte, Nat.reduceEqDiff, Nat.reduceAdd, Int.reduceToNat]
        intro hx
        exact ⟨by first | exact Nat.le_refl _ | omega, rfl⟩
      · have e2 : decide (Try.txt ds = (⟨#[50, 50]⟩ : ByteArray)) = false := decide_eq_false (fun z => c (h22.1 z))
        obtain ⟨m, hm, hch⟩ := chain_any hw.dig hw.ne c
        rw [ageV_n hw c hch]
        have hm0 : ¬ ((m : Int) < 0) := by omega
        simp +decide (disch := first | assumption | (apply GH.ok_push; assumption) | exact cellV_int _ _ | exact cellV_bool _ | omega) only [go_sem, ↓reduceIte, Nat.reduceEqDiff, Nat.reduceAdd, Int.reduceToNat, e2]
        refine CallD.calm (beforeP_rets hX _ _) ?_
        rintro v g4 hx4 rfl
        have hn4 := hx4.next
        rw [beforeV_word hw]
        cases hh : heard ds with
        | some v =>
          obtain ⟨k, rfl, hk⟩ : ∃ k, m = k + 1 ∧ Chain v k := by
            cases m with
            | zero => rw [show heard ds = none from hch] at hh; cases hh
            | succ k =>
              obtain ⟨u, hu, hk⟩ := hch
              rw [hh] at hu; cases hu
              exact ⟨k, rfl, hk⟩
          have hp0 : decide ((((k + 1 : Nat) : Int)) > 0) = true := decide_eq_true (by omega)
          have e3 := eqB_same true
          have vsz := Try.txt_size v
          by_cases vl : v.length ≤ 200
          · have d1 : ((Try.txt v).size : Int) ≤ 200 := by omega
            have hwv : Wd v := ⟨heard_dig hw.dig hh, heard_ne hw.dig hw.ne hh, vl⟩
            simp +decide (disch := first | assumption | (apply GH.ok_push; assumption) | exact cellV_int _ _ | exact cellV_bool _ | omega) only [go_sem, ↓reduceIte, Nat.reduceEqDiff, Nat.reduceAdd, Int.reduceToNat, hm0, hp0, e3, d1]
            refine CallD.calm (age_rets hX _ _) ?_
            rintro v gC hxC rfl
            have hnC := hxC.next
            rw [ageV_n hwv (fun z => c (heard_22 (by rw [hh, z]))) hk]
            have wk : wrapF .i64 ((((k + 1 : Nat)) : Int) - 1) = ((k : Nat) : Int) := by rw [wr64 (by omega) (by omega)]; omega
            simp +decide (disch := first | assumption | (apply GH.ok_push; assumption) | exact cellV_int _ _ | exact cellV_bool _ | omega) only [go_sem, ↓reduceIte, Nat.reduceEqDiff, Nat.reduceAdd, Int.reduceToNat, wk]
            refine CallD.calm (say_rets hX _ _) ?_
            rintro v gA hxA rfl
            have hnA := hxA.next
            rw [sayV_word hw]
            by_cases sy : Sayable ds
            · rw [saidV_ok sy]
              have ssz := Try.txt_size (Aw.say ds)
              by_cases sl : (Aw.say ds).length ≤ 200
              · have d1 : ¬ ((200 : Int) < ((Try.txt (Aw.say ds)).size : Int)) := by omega
                simp +decide (disch := first | assumption | (apply GH.ok_push; assumption) | exact cellV_int _ _ | exact cellV_bool _ | omega) only [go_sem, ↓reduceIte, Nat.reduceEqDiff, Nat.reduceAdd, Int.reduceToNat, d1]
                refine CallD.calm (age_rets hX _ _) ?_
                rintro v gB hxB rfl
                have hnB := hxB.next
                rw [ageV_n (hw.say sy sl) (say_not22 c) (show Chain (Aw.say ds) ((k + 1) + 1) from ⟨ds, say_heard ds, hch⟩)]
                have wq : wrapF .i64 ((((k + 1) : Nat) : Int) + 1) = ((((k + 1) + 1 : Nat)) : Int) := by rw [wr64 (by omega) (by omega)]; omega
                simp +decide (disch := first | assumption | (apply GH.ok_push; assumption) | exact cellV_int _ _ | exact cellV_bool _ | omega) only [go_sem, ↓reduceIte, Nat.reduceEqDiff, Nat.reduceAdd, Int.reduceToNat, wq]
                refine CallD.calm (hX.alive _) ?_
                rintro v gz hxz ⟨rfl, rfl⟩
                simp +decide (disch := first | assumption | (apply GH.ok_push; assumption) | exact cellV_int _ _ | exact cellV_bool _ | omega) only [go_sem, ↓reduceIte, Nat.reduceEqDiff, Nat.reduceAdd, Int.reduceToNat]
                intro hx
                exact ⟨by first | exact Nat.le_refl _ | omega, rfl⟩
              · have d1 : (200 : Int) < ((Try.txt (Aw.say ds)).size : Int) := by omega
                simp +decide (disch := first | assumption | (apply GH.ok_push; assumption) | exact cellV_int _ _ | exact cellV_bool _ | omega) only [go_sem, ↓reduceIte, Nat.reduceEqDiff, Nat.reduceAdd, Int.reduceToNat, d1]
                refine CallD.calm (hX.alive _) ?_
                rintro v gz hxz ⟨rfl, rfl⟩
                simp +decide (disch := first | assumption | (apply GH.ok_push; assumption) | exact cellV_int _ _ | exact cellV_bool _ | omega) only [go_sem, ↓reduceIte, Nat.reduceEqDiff, Nat.reduceAdd, Int.reduceToNat]
                intro hx
                exact ⟨by first | exact Nat.le_refl _ | omega, rfl⟩
            · rw [saidV_no sy]
              simp +decide (disch := first | assumption | (apply GH.ok_push; assumption) | exact cellV_int _ _ | exact cellV_bool _ | omega) only [go_sem, ↓reduceIte, Nat.reduceEqDiff, Nat.reduceAdd, Int.reduceToNat]
              refine CallD.calm (hX.alive _) ?_
              rintro v gz hxz ⟨rfl, rfl⟩
              simp +decide (disch := first | assumption | (apply GH.ok_push; assumption) | exact cellV_int _ _ | exact cellV_bool _ | omega) only [go_sem, ↓reduceIte, Nat.reduceEqDiff, Nat.reduceAdd, Int.reduceToNat]
              intro hx
              exact ⟨by first | exact Nat.le_refl _ | omega, rfl⟩
          · have d1 : ¬ (((Try.txt v).size : Int) ≤ 200) := by omega
            simp +decide (disch := first | assumption | (apply GH.ok_push; assumption) | exact cellV_int _ _ | exact cellV_bool _ | omega) only [go_sem, ↓reduceIte, Nat.reduceEqDiff, Nat.reduceAdd, Int.reduceToNat, hm0, hp0, e3, d1]
            refine CallD.calm (say_rets hX _ _) ?_
            rintro v gA hxA rfl
            have hnA := hxA.next
            rw [sayV_word hw]
            by_cases sy : Sayable ds
            · rw [saidV_ok sy]
              have ssz := Try.txt_size (Aw.say ds)
              by_cases sl : (Aw.say ds).length ≤ 200
              · have d1 : ¬ ((200 : Int) < ((Try.txt (Aw.say ds)).size : Int)) := by omega
                simp +decide (disch := first | assumption | (apply GH.ok_push; assumption) | exact cellV_int _ _ | exact cellV_bool _ | omega) only [go_sem, ↓reduceIte, Nat.reduceEqDiff, Nat.reduceAdd, Int.reduceToNat, d1]
                refine CallD.calm (age_rets hX _ _) ?_
                rintro v gB hxB rfl
                have hnB := hxB.next
                rw [ageV_n (hw.say sy sl) (say_not22 c) (show Chain (Aw.say ds) ((k + 1) + 1) from ⟨ds, say_heard ds, hch⟩)]
                have wq : wrapF .i64 ((((k + 1) : Nat) : Int) + 1) = ((((k + 1) + 1 : Nat)) : Int) := by rw [wr64 (by omega) (by omega)]; omega
                simp +decide (disch := first | assumption | (apply GH.ok_push; assumption) | exact cellV_int _ _ | exact cellV_bool _ | omega) only [go_sem, ↓reduceIte, Nat.reduceEqDiff, Nat.reduceAdd, Int.reduceToNat, wq]
                refine CallD.calm (hX.alive _) ?_
                rintro v gz hxz ⟨rfl, rfl⟩
                simp +decide (disch := first | assumption | (apply GH.ok_push; assumption) | exact cellV_int _ _ | exact cellV_bool _ | omega) only [go_sem, ↓reduceIte, Nat.reduceEqDiff, Nat.reduceAdd, Int.reduceToNat]
                intro hx
                exact ⟨by first | exact Nat.le_refl _ | omega, rfl⟩
              · have d1 : (200 : Int) < ((Try.txt (Aw.say ds)).size : Int) := by omega
                simp +decide (disch := first | assumption | (apply GH.ok_push; assumption) | exact cellV_int _ _ | exact cellV_bool _ | omega) only [go_sem, ↓reduceIte, Nat.reduceEqDiff, Nat.reduceAdd, Int.reduceToNat, d1]
                refine CallD.calm (hX.alive _) ?_
                rintro v gz hxz ⟨rfl, rfl⟩
                simp +decide (disch := first | assumption | (apply GH.ok_push; assumption) | exact cellV_int _ _ | exact cellV_bool _ | omega) only [go_sem, ↓reduceIte, Nat.reduceEqDiff, Nat.reduceAdd, Int.reduceToNat]
                intro hx
                exact ⟨by first | exact Nat.le_refl _ | omega, rfl⟩
            · rw [saidV_no sy]
              simp +decide (disch := first | assumption | (apply GH.ok_push; assumption) | exact cellV_int _ _ | exact cellV_bool _ | omega) only [go_sem, ↓reduceIte, Nat.reduceEqDiff, Nat.reduceAdd, Int.reduceToNat]
              refine CallD.calm (hX.alive _) ?_
              rintro v gz hxz ⟨rfl, rfl⟩
              simp +decide (disch := first | assumption | (apply GH.ok_push; assumption) | exact cellV_int _ _ | exact cellV_bool _ | omega) only [go_sem, ↓reduceIte, Nat.reduceEqDiff, Nat.reduceAdd, Int.reduceToNat]
              intro hx
              exact ⟨by first | exact Nat.le_refl _ | omega, rfl⟩
        | none =>
          obtain rfl : m = 0 := by
            cases m with
            | zero => rfl
            | succ k =>
              obtain ⟨u, hu, hk⟩ := hch
              rw [hh] at hu; cases hu
          have e3 := eqB_same false
          simp +decide (disch := first | assumption | (apply GH.ok_push; assumption) | exact cellV_int _ _ | exact cellV_bool _ | omega) only [go_sem, ↓reduceIte, Nat.reduceEqDiff, Nat.reduceAdd, Int.reduceToNat, hm0, e3]
          refine CallD.calm (say_rets hX _ _) ?_
          rintro v gA hxA rfl
          have hnA := hxA.next
          rw [sayV_word hw]
          by_cases sy : Sayable ds
          · rw [saidV_ok sy]
            have ssz := Try.txt_size (Aw.say ds)
            by_cases sl : (Aw.say ds).length ≤ 200
            · have d1 : ¬ ((200 : Int) < ((Try.txt (Aw.say ds)).size : Int)) := by omega
              simp +decide (disch := first | assumption | (apply GH.ok_push; assumption) | exact cellV_int _ _ | exact cellV_bool _ | omega) only [go_sem, ↓reduceIte, Nat.reduceEqDiff, Nat.reduceAdd, Int.reduceToNat, d1]
              refine CallD.calm (age_rets hX _ _) ?_
              rintro v gB hxB rfl
              have hnB := hxB.next
              rw [ageV_n (hw.say sy sl) (say_not22 c) (show Chain (Aw.say ds) (0 + 1) from ⟨ds, say_heard ds, hch⟩)]
              have wq : wrapF .i64 (((0 : Nat) : Int) + 1) = (((0 + 1 : Nat)) : Int) := by rw [wr64 (by omega) (by omega)]; omega
              simp +decide (disch := first | assumption | (apply GH.ok_push; assumption) | exact cellV_int _ _ | exact cellV_bool _ | omega) only [go_sem, ↓reduceIte, Nat.reduceEqDiff, Nat.reduceAdd, Int.reduceToNat, wq]
              refine CallD.calm (hX.alive _) ?_
              rintro v gz hxz ⟨rfl, rfl⟩
              simp +decide (disch := first | assumption | (apply GH.ok_push; assumption) | exact cellV_int _ _ | exact cellV_bool _ | omega) only [go_sem, ↓reduceIte, Nat.reduceEqDiff, Nat.reduceAdd, Int.reduceToNat]
              intro hx
              exact ⟨by first | exact Nat.le_refl _ | omega, rfl⟩
            · have d1 : (200 : Int) < ((Try.txt (Aw.say ds)).size : Int) := by omega
              simp +decide (disch := first | assumption | (apply GH.ok_push; assumption) | exact cellV_int _ _ | exact cellV_bool _ | omega) only [go_sem, ↓reduceIte, Nat.reduceEqDiff, Nat.reduceAdd, Int.reduceToNat, d1]
              refine CallD.calm (hX.alive _) ?_
              rintro v gz hxz ⟨rfl, rfl⟩
              simp +decide (disch := first | assumption | (apply GH.ok_push; assumption) | exact cellV_int _ _ | exact cellV_bool _ | omega) only [go_sem, ↓reduceIte, Nat.reduceEqDiff, Nat.reduceAdd, Int.reduceToNat]
              intro hx
              exact ⟨by first | exact Nat.le_refl _ | omega, rfl⟩
          · rw [saidV_no sy]
            simp +decide (disch := first | assumption | (apply GH.ok_push; assumption) | exact cellV_int _ _ | exact cellV_bool _ | omega) only [go_sem, ↓reduceIte, Nat.reduceEqDiff, Nat.reduceAdd, Int.reduceToNat]
            refine CallD.calm (hX.alive _) ?_
            rintro v gz hxz ⟨rfl, rfl⟩
            simp +decide (disch := first | assumption | (apply GH.ok_push; assumption) | exact cellV_int _ _ | exact cellV_bool _ | omega) only [go_sem, ↓reduceIte, Nat.reduceEqDiff, Nat.reduceAdd, Int.reduceToNat]
            intro hx
            exact ⟨by first | exact Nat.le_refl _ | omega, rfl⟩
    · have hz' : ¬ (werr s = 0) := hz
      simp +decide (disch := first | assumption | (apply GH.ok_push; assumption) | exact cellV_int _ _ | exact cellV_bool _ | omega) only [go_sem, ↓reduceIte, Nat.reduceEqDiff, Nat.reduceAdd, Int.reduceToNat, hz']
      refine CallD.calm (hX.alive _) ?_
      rintro v g3 hx3 ⟨rfl, rfl⟩
      simp +decide (disch := first | assumption | (apply GH.ok_push; assumption) | exact cellV_int _ _ | exact cellV_bool _ | omega) only [go_sem, ↓reduceIte, Nat.reduceEqDiff, Nat.reduceAdd, Int.reduceToNat]
      intro hx
      exact ⟨Nat.le_refl _, rfl⟩
end Go.Proofs.Ytgnnhenbmnopaaa
set_option maxRecDepth 100000
set_option maxHeartbeats 8000000
set_option linter.unusedSimpArgs false
set_option linter.unusedVariables false
namespace Go.Proofs.Ytgnnhenbmnopaaa
open Go.Ds Go.Aw
open Classical in
theorem apartV_ok {n : Nat} (hn : n ≤ 40) {l r : ByteArray} (h : apErr (n : Int) l r = 0) : ∃ a b, Wd a ∧ Wd b ∧ l = Try.txt a ∧ r = Try.txt b ∧ a.length + b.length ≤ 200 ∧ derr n a = 0 ∧ derr n b = 0 ∧ derr n (a ++ b) = 0 ∧ apartV (n : Int) l r = .tuple #[.bool (decide (ApartL a b n)), .int .i64 0] := by
  have h0 := h
  unfold apErr at h
  split at h
  · rename_i h1
    obtain ⟨a, b, ha, hb, rfl, rfl, hd, hl⟩ := apE_zero h1
    rw [digs_txt ha.dig, digs_txt hb.dig] at h
    have en : ((n : Int)).toNat = n := rfl
    rw [en] at h
    split at h
    · rename_i h2
      split at h
      · rename_i h3
        refine ⟨a, b, ha, hb, rfl, rfl, hl, h2, h3, h, ?_⟩
        unfold apartV
        rw [h0, digs_txt ha.dig, digs_txt hb.dig, en]
        congr 3
        simp
      · rename_i h3; exact absurd h h3
    · rename_i h2; exact absurd h h2
  · rename_i h1; exact absurd h h1
theorem countV_word {k : Nat} (hk : k ≤ 40) {ds : List Nat} (h : Wd ds) (h0 : derr k ds = 0) : countV (k : Int) (Try.txt ds) = .tuple #[.agg (cn3 (wd k ds)).toArray, .int .i64 0] := by
  unfold countV
  rw [aErr_nat hk h, if_pos h0, digs_txt h.dig]
  rfl
theorem cn3_app (a b : List Nat) : cn3 (a ++ b) = [.int .i64 ((a.count 1 + b.count 1 : Nat)), .int .i64 ((a.count 2 + b.count 2 : Nat)), .int .i64 ((a.count 3 + b.count 3 : Nat))] := by
  simp only [cn3, List.count_append]
open Classical in
theorem apartV_word {n : Nat} (hn : n ≤ 40) {a b : List Nat} (ha : Wd a) (hb : Wd b) (hl : a.length + b.length ≤ 200) (d1 : derr n a = 0) (d2 : derr n b = 0) (d3 : derr n (a ++ b) = 0) : apartV (n : Int) (Try.txt a) (Try.txt b) = .tuple #[.bool (decide (ApartL a b n)), .int .i64 0] := by
  have h1 : daysE (n : Int) = 0 := by unfold daysE; rw [if_neg (by omega)]
  have h0 : apE (n : Int) (Try.txt a) (Try.txt b) = 0 := by
    unfold apE
    rw [if_pos ha.werr, if_pos hb.werr, if_pos h1, Try.txt_size, Try.txt_size, if_neg (by omega)]
  have en : ((n : Int)).toNat = n := rfl
  have h2 : apErr (n : Int) (Try.txt a) (Try.txt b) = 0 := by
    unfold apErr
    rw [if_pos h0, digs_txt ha.dig, digs_txt hb.dig, en, if_pos d1, if_pos d2, d3]
  unfold apartV
  rw [h2, digs_txt ha.dig, digs_txt hb.dig, en]
  congr 3
  simp
theorem conv_byte {p : Nat} (h : p < 256) : convF .i64 (.int .u8 (p : Int)) = some (.int .i64 (p : Int)) := by
  show some (Value.int .i64 (wrapF .i64 _)) = _
  rw [wr64 (by omega) (by omega)]
open Classical in
/-- The laws of the counts. -/
theorem addedLaw_rets {X : Caller} (hX : Xok X) (l r : ByteArray) (n : Int) (hn : 0 ≤ n) (hn2 : n < 256) (w : Int) (hw : 0 ≤ w) (hw2 : w < 256) (g : GH) : Rets Try.prog X 15 [.string l, .string r, .int .u8 n, .int .u8 w] g (fun v g' lo => g.next ≤ lo ∧ v = .bool true) := by
  refine Rets.run hX.pres p15 (hX.free 15 (by decide) _ _) rfl fun ho => ?_
  simp +decide (disch := first | assumption | (apply GH.ok_push; assumption) | exact cellV_int _ _ | exact cellV_bool _ | omega) only [go_sem, ↓reduceIte, Nat.reduceEqDiff, Nat.reduceAdd, Int.reduceToNat]
  refine CallD.calm (few_rets hX.toXfr _ _ _) ?_
  rintro v g1 hx1 ⟨rfl, rfl⟩
  cases q : (decide (l.size ≤ 1000) && decide (r.size ≤ 1000)) with
  | false =>
    simp +decide (disch := first | assumption | (apply GH.ok_push; assumption) | exact cellV_int _ _ | exact cellV_bool _ | omega) only [go_sem, ↓reduceIte, Nat.reduceEqDiff, Nat.reduceAdd, Int.reduceToNat]
    refine CallD.calm (hX.alive _) ?_
    rintro v g2 hx2 ⟨rfl, rfl⟩
    simp +decide (disch := first | assumption | (apply GH.ok_push; assumption) | exact cellV_int _ _ | exact cellV_bool _ | omega) only [go_sem, ↓reduceIte, Nat.reduceEqDiff, Nat.reduceAdd, Int.reduceToNat]
    intro hx
    exact ⟨Nat.le_refl _, rfl⟩
  | true =>
    obtain ⟨m, rfl⟩ : ∃ m : Nat, n = m := ⟨n.toNat, by omega⟩
    obtain ⟨p, rfl⟩ : ∃ p : Nat, w = p := ⟨w.toNat, by omega⟩
    have hm := Nat.mod_lt m (show 0 < 20 by omega)
    obtain ⟨k, hk⟩ : ∃ k : Nat, k = m % 20 := ⟨_, rfl⟩
    have hcv : convF .i64 (.int .u8 ((m : Int).tmod 20)) = some (.int .i64 (k : Int)) := by rw [hk]; exact conv_u8 m 20 (by omega) (by omega)
    simp +decide (disch := first | assumption | (apply GH.ok_push; assumption) | exact cellV_int _ _ | exact cellV_bool _ | omega) only [go_sem, ↓reduceIte, Nat.reduceEqDiff, Nat.reduceAdd, Int.reduceToNat, hcv]
    refine CallD.calm (apart_rets hX l r k _) ?_
    rintro v g2 hx2 rfl
    have hn2 := hx2.next
    have hok2 := hx2.ok (hx1.ok ho)
    by_cases hE : apErr (k : Int) l r = 0
    · obtain ⟨a, b, ha, hb, rfl, rfl, hl, d1, d2, d3, hv⟩ := apartV_ok (by omega) hE
      rw [hv]
      by_cases hA : ApartL a b k
      · rw [decide_eq_true hA]
        simp +decide (disch := first | assumption | exact cellV_int _ _ | exact cellV_bool _ | omega | (simp only [GH.pn, GH.sn] <;> omega) | (with_reducible ((repeat (first | apply GH.ok_push | apply GH.ok_set)); assumption)) | ((try simp only [GH.push_hid, GH.set_hid]); first | assumption | (refine GH.vis ?_ ?_ <;> first | assumption | ((try simp only [GH.pn, GH.sn]) <;> omega)))) only [go_sem, ↓reduceIte, Nat.reduceEqDiff, Nat.reduceAdd, Int.reduceToNat, Int.reduceAdd, Int.reduceNeg, Int.reduceSub, Int.reduceMul, Int.reduceLT, Int.reduceLE, Int.reduceEq, ↓GH.gp_eq, ↓GH.gp_ne, ↓GH.gs_eq, ↓GH.gs_ne, GH.push_next, GH.set_next]
        refine CallD.calm (count_rets hX _ _ _) ?_
        rintro v g3 hx3 rfl
        have hn3 := hx3.next
        rw [countV_word (by omega) ha d1]
        have ho3 := hx3.ok hok2
        simp +decide (disch := first | assumption | exact cellV_int _ _ | exact cellV_bool _ | omega | (simp only [GH.pn, GH.sn] <;> omega) | (with_reducible ((repeat (first | apply GH.ok_push | apply GH.ok_set)); assumption)) | ((try simp only [GH.push_hid, GH.set_hid]); first | assumption | (refine GH.vis ?_ ?_ <;> first | assumption | ((try simp only [GH.pn, GH.sn]) <;> omega)))) only [go_sem, ↓reduceIte, Nat.reduceEqDiff, Nat.reduceAdd, Int.reduceToNat, Int.reduceAdd, Int.reduceNeg, Int.reduceSub, Int.reduceMul, Int.reduceLT, Int.reduceLE, Int.reduceEq, ↓GH.gp_eq, ↓GH.gp_ne, ↓GH.gs_eq, ↓GH.gs_ne, GH.push_next, GH.set_next]
        refine CallD.calm (count_rets hX _ _ _) ?_
        rintro v g4 hx4 rfl
        have hn4 := hx4.next
        simp only [GH.pn, GH.sn] at hn4
        have ho4 := hx4.ok (by with_reducible ((repeat (first | apply GH.ok_push | apply GH.ok_set)); assumption))
        have q4 : g4.get g3.next = cellsOb (cn3 (wd k a)) 38 := (hx4.kept.gets _ (by simp only [GH.pn, GH.sn]; omega)).trans (by simp (disch := first | assumption | exact cellV_int _ _ | exact cellV_bool _ | omega | (simp only [GH.pn, GH.sn] <;> omega) | (with_reducible ((repeat (first | apply GH.ok_push | apply GH.ok_set)); assumption)) | ((try simp only [GH.push_hid, GH.set_hid]); first | assumption | (refine GH.vis ?_ ?_ <;> first | assumption | ((try simp only [GH.pn, GH.sn]) <;> omega)))) only [↓GH.gp_eq, ↓GH.gp_ne, ↓GH.gs_eq, ↓GH.gs_ne, GH.push_next, GH.set_next]; first | done | exact rfl)
        rw [countV_word (by omega) hb d2]
        have hadd : strB .add (Try.txt a) (Try.txt b) = some (.string (Try.txt (a ++ b))) := by rw [str_add (by rw [Try.txt_size, Try.txt_size]; omega), txt_app]
        simp +decide (disch := first | assumption | exact cellV_int _ _ | exact cellV_bool _ | omega | (simp only [GH.pn, GH.sn] <;> omega) | (with_reducible ((repeat (first | apply GH.ok_push | apply GH.ok_set)); assumption)) | ((try simp only [GH.push_hid, GH.set_hid]); first | assumption | (refine GH.vis ?_ ?_ <;> first | assumption | ((try simp only [GH.pn, GH.sn]) <;> omega)))) only [go_sem, ↓reduceIte, Nat.reduceEqDiff, Nat.reduceAdd, Int.reduceToNat, Int.reduceAdd, Int.reduceNeg, Int.reduceSub, Int.reduceMul, Int.reduceLT, Int.reduceLE, Int.reduceEq, ↓GH.gp_eq, ↓GH.gp_ne, ↓GH.gs_eq, ↓GH.gs_ne, GH.push_next, GH.set_next, hadd]
        refine CallD.calm (count_rets hX _ _ _) ?_
        rintro v g5 hx5 rfl
        have hn5 := hx5.next
        simp only [GH.pn, GH.sn] at hn5
        have ho5 := hx5.ok (by with_reducible ((repeat (first | apply GH.ok_push | apply GH.ok_set)); assumption))
        have q5 : g5.get g3.next = cellsOb (cn3 (wd k a)) 38 := (hx5.kept.gets _ (by simp only [GH.pn, GH.sn]; omega)).trans (Eq.trans (by simp (disch := first | assumption | exact cellV_int _ _ | exact cellV_bool _ | omega | (simp only [GH.pn, GH.sn] <;> omega) | (with_reducible ((repeat (first | apply GH.ok_push | apply GH.ok_set)); assumption)) | ((try simp only [GH.push_hid, GH.set_hid]); first | assumption | (refine GH.vis ?_ ?_ <;> first | assumption | ((try simp only [GH.pn, GH.sn]) <;> omega)))) only [↓GH.gp_eq, ↓GH.gp_ne, ↓GH.gs_eq, ↓GH.gs_ne, GH.push_next, GH.set_next]; first | done | exact rfl) q4)
        have q6 : g5.get g4.next = cellsOb (cn3 (wd k b)) 38 := (hx5.kept.gets _ (by simp only [GH.pn, GH.sn]; omega)).trans (by simp (disch := first | assumption | exact cellV_int _ _ | exact cellV_bool _ | omega | (simp only [GH.pn, GH.sn] <;> omega) | (with_reducible ((repeat (first | apply GH.ok_push | apply GH.ok_set)); assumption)) | ((try simp only [GH.push_hid, GH.set_hid]); first | assumption | (refine GH.vis ?_ ?_ <;> first | assumption | ((try simp only [GH.pn, GH.sn]) <;> omega)))) only [↓GH.gp_eq, ↓GH.gp_ne, ↓GH.gs_eq, ↓GH.gs_ne, GH.push_next, GH.set_next]; first | done | exact rfl)
        rw [countV_word (by omega) (ha.app hb hl) d3, hA k (Nat.le_refl k), cn3_app]
        have la := wd_len ha.len (derr_zero.1 d1)
        have lb := wd_len hb.len (derr_zero.1 d2)
        obtain ⟨x1, x2, x3, hx⟩ : ∃ x1 x2 x3, x1 = (wd k a).count 1 ∧ x2 = (wd k a).count 2 ∧ x3 = (wd k a).count 3 := ⟨_, _, _, rfl, rfl, rfl⟩
        obtain ⟨y1, y2, y3, hy⟩ : ∃ x1 x2 x3, x1 = (wd k b).count 1 ∧ x2 = (wd k b).count 2 ∧ x3 = (wd k b).count 3 := ⟨_, _, _, rfl, rfl, rfl⟩
        have bx1 : x1 ≤ 100000 := by rw [hx.1]; exact Nat.le_trans List.count_le_length la
        have bx2 : x2 ≤ 100000 := by rw [hx.2.1]; exact Nat.le_trans List.count_le_length la
        have bx3 : x3 ≤ 100000 := by rw [hx.2.2]; exact Nat.le_trans List.count_le_length la
        have by1 : y1 ≤ 100000 := by rw [hy.1]; exact Nat.le_trans List.count_le_length lb
        have by2 : y2 ≤ 100000 := by rw [hy.2.1]; exact Nat.le_trans List.count_le_length lb
        have by3 : y3 ≤ 100000 := by rw [hy.2.2]; exact Nat.le_trans List.count_le_length lb
        rw [cn3, ← hx.1, ← hx.2.1, ← hx.2.2] at q5
        rw [cn3, ← hy.1, ← hy.2.1, ← hy.2.2] at q6
        rw [← hx.1, ← hx.2.1, ← hx.2.2, ← hy.1, ← hy.2.1, ← hy.2.2]
        have z1 : wrapF .i64 ((x1 : Int) + (y1 : Int)) = ((x1 + y1 : Nat) : Int) := by rw [wr64 (by omega) (by omega)]; omega
        have z2 : wrapF .i64 ((x2 : Int) + (y2 : Int)) = ((x2 + y2 : Nat) : Int) := by rw [wr64 (by omega) (by omega)]; omega
        have z3 : wrapF .i64 ((x3 : Int) + (y3 : Int)) = ((x3 + y3 : Nat) : Int) := by rw [wr64 (by omega) (by omega)]; omega
        simp +decide (disch := first | assumption | exact cellV_int _ _ | exact cellV_bool _ | omega | (simp only [GH.pn, GH.sn] <;> omega) | (with_reducible ((repeat (first | apply GH.ok_push | apply GH.ok_set)); assumption)) | ((try simp only [GH.push_hid, GH.set_hid]); first | assumption | (refine GH.vis ?_ ?_ <;> first | assumption | ((try simp only [GH.pn, GH.sn]) <;> omega)))) only [go_sem, ↓reduceIte, Nat.reduceEqDiff, Nat.reduceAdd, Int.reduceToNat, Int.reduceAdd, Int.reduceNeg, Int.reduceSub, Int.reduceMul, Int.reduceLT, Int.reduceLE, Int.reduceEq, ↓GH.gp_eq, ↓GH.gp_ne, ↓GH.gs_eq, ↓GH.gs_ne, GH.push_next, GH.set_next]
        refine Wk.loops (fun m e g' lo => g1.next ≤ lo ∧ ∃ i : Int, (0 ≤ i ∧ i ≤ 3 ∧ m = (3 - i).toNat) ∧ (g'.get g3.next = cellsOb [.int .i64 x1, .int .i64 x2, .int .i64 x3] 38 ∧ g'.get g4.next = cellsOb [.int .i64 y1, .int .i64 y2, .int .i64 y3] 38 ∧ g'.get g5.next = cellsOb [.int .i64 (x1 + y1 : Nat), .int .i64 (x2 + y2 : Nat), .int .i64 (x3 + y3 : Nat)] 38 ∧ g5.next < g'.next) ∧ (ev e (.s 12) = ptrTo g3.next ∧ ev e (.s 13) = ptrTo g4.next ∧ ev e (.s 15) = ptrTo g5.next ∧ ev e (.s 0) = .string (Try.txt a) ∧ ev e (.s 1) = .string (Try.txt b) ∧ ev e (.s 3) = .int .u8 p ∧ ev e (.s 9) = .int .i64 k ∧ ev e (.s 17) = .int .i64 i))
          (fun e g' lo => g1.next ≤ lo ∧ (ev e (.s 0) = .string (Try.txt a) ∧ ev e (.s 1) = .string (Try.txt b) ∧ ev e (.s 3) = .int .u8 p ∧ ev e (.s 9) = .int .i64 k)) (n := 3) ?_ ?_ ?_
        · refine ⟨by first | exact Nat.le_refl _ | omega, 0, ⟨by omega, by omega, rfl⟩, ⟨?_, ?_, ?_, ?_⟩, (by simp +decide (disch := first | assumption | (apply GH.ok_push; assumption) | exact cellV_int _ _ | exact cellV_bool _ | omega) only [go_sem, ↓reduceIte, Nat.reduceEqDiff, Nat.reduceAdd, Int.reduceToNat]; first | done | exact rfl)⟩
          · refine Eq.trans ?_ q5
            exact (by simp (disch := first | assumption | exact cellV_int _ _ | exact cellV_bool _ | omega | (simp only [GH.pn, GH.sn] <;> omega) | (with_reducible ((repeat (first | apply GH.ok_push | apply GH.ok_set)); assumption)) | ((try simp only [GH.push_hid, GH.set_hid]); first | assumption | (refine GH.vis ?_ ?_ <;> first | assumption | ((try simp only [GH.pn, GH.sn]) <;> omega)))) only [↓GH.gp_eq, ↓GH.gp_ne, ↓GH.gs_eq, ↓GH.gs_ne, GH.push_next, GH.set_next]; first | done | exact rfl)
          · refine Eq.trans ?_ q6
            exact (by simp (disch := first | assumption | exact cellV_int _ _ | exact cellV_bool _ | omega | (simp only [GH.pn, GH.sn] <;> omega) | (with_reducible ((repeat (first | apply GH.ok_push | apply GH.ok_set)); assumption)) | ((try simp only [GH.push_hid, GH.set_hid]); first | assumption | (refine GH.vis ?_ ?_ <;> first | assumption | ((try simp only [GH.pn, GH.sn]) <;> omega)))) only [↓GH.gp_eq, ↓GH.gp_ne, ↓GH.gs_eq, ↓GH.gs_ne, GH.push_next, GH.set_next]; first | done | exact rfl)
          · exact (by simp (disch := first | assumption | exact cellV_int _ _ | exact cellV_bool _ | omega | (simp only [GH.pn, GH.sn] <;> omega) | (with_reducible ((repeat (first | apply GH.ok_push | apply GH.ok_set)); assumption)) | ((try simp only [GH.push_hid, GH.set_hid]); first | assumption | (refine GH.vis ?_ ?_ <;> first | assumption | ((try simp only [GH.pn, GH.sn]) <;> omega)))) only [↓GH.gp_eq, ↓GH.gp_ne, ↓GH.gs_eq, ↓GH.gs_ne, GH.push_next, GH.set_next]; first | done | exact rfl)
          · simp only [GH.pn, GH.sn]; omega
        · rintro e g' lo ho' - ⟨hlo, he⟩
          have hp : p < 256 := by omega
          have hcp := conv_byte hp
          obtain ⟨t, hrt⟩ : ∃ t, t = p % (k + 1) := ⟨_, rfl⟩
          have hlt := Nat.mod_lt p (show 0 < k + 1 by omega)
          have ht : ((p : Int).tmod ((k : Int) + 1)) = (t : Int) := by rw [hrt]; exact (Int.ofNat_tmod p (k + 1)).symm
          have hw1 : wrapF .i64 ((k : Int) + 1) = ((k : Int) + 1) := wr64 (by omega) (by omega)
          have hnz : ¬ ((k : Int) + 1 = 0) := by omega
          have hwt : wrapF .i64 (t : Int) = (t : Int) := wr64 (by omega) (by omega)
          simp +decide (disch := first | assumption | exact cellV_int _ _ | exact cellV_bool _ | omega | (simp only [GH.pn, GH.sn] <;> omega) | (with_reducible ((repeat (first | apply GH.ok_push | apply GH.ok_set)); assumption)) | ((try simp only [GH.push_hid, GH.set_hid]); first | assumption | (refine GH.vis ?_ ?_ <;> first | assumption | ((try simp only [GH.pn, GH.sn]) <;> omega)))) only [go_sem, ↓reduceIte, Nat.reduceEqDiff, Nat.reduceAdd, Int.reduceToNat, Int.reduceAdd, Int.reduceNeg, Int.reduceSub, Int.reduceMul, Int.reduceLT, Int.reduceLE, Int.reduceEq, ↓GH.gp_eq, ↓GH.gp_ne, ↓GH.gs_eq, ↓GH.gs_ne, GH.push_next, GH.set_next, he, hcp, hw1, hnz, ht, hwt]
          refine CallD.calm (apart_rets hX _ _ _ _) ?_
          rintro v g7 hx7 rfl
          have hn7 := hx7.next
          rw [apartV_word (n := t) (by omega) ha hb hl (derr_mono d1 (by omega)) (derr_mono d2 (by omega)) (derr_mono d3 (by omega)), decide_eq_true (show ApartL a b t from fun d hd => hA d (by omega))]
          simp +decide (disch := first | assumption | (apply GH.ok_push; assumption) | exact cellV_int _ _ | exact cellV_bool _ | omega) only [go_sem, ↓reduceIte, Nat.reduceEqDiff, Nat.reduceAdd, Int.reduceToNat]
          refine CallD.calm (hX.alive _) ?_
          rintro v g8 hx8 ⟨rfl, rfl⟩
          simp +decide (disch := first | assumption | (apply GH.ok_push; assumption) | exact cellV_int _ _ | exact cellV_bool _ | omega) only [go_sem, ↓reduceIte, Nat.reduceEqDiff, Nat.reduceAdd, Int.reduceToNat]
          intro hx
          exact ⟨by first | exact Nat.le_refl _ | omega, rfl⟩
        · rintro m e g' lo ho' hl' ih out ⟨hlo, i, ⟨hi, hi3, hm⟩, ⟨b1, b2, b3, b4⟩, he⟩
          have w1 := GH.seen b1 Nat.one_ne_zero
          have w2 := GH.seen b2 Nat.one_ne_zero
          have w3 := GH.seen b3 Nat.one_ne_zero
          rcases (show i = 0 ∨ i = 1 ∨ i = 2 ∨ i = 3 by omega) with rfl | rfl | rfl | rfl
          · have i1 := ia3u g3.next
            have i2 := ia3u g4.next
            have i3 := ia3u g5.next
            simp +decide (disch := first | assumption | exact cellV_int _ _ | exact cellV_bool _ | omega | (simp only [GH.pn, GH.sn] <;> omega) | (with_reducible ((repeat (first | apply GH.ok_push | apply GH.ok_set)); assumption)) | ((try simp only [GH.push_hid, GH.set_hid]); first | assumption | (refine GH.vis ?_ ?_ <;> first | assumption | ((try simp only [GH.pn, GH.sn]) <;> omega)))) only [go_sem, ↓reduceIte, Nat.reduceEqDiff, Nat.reduceAdd, Int.reduceToNat, Int.reduceAdd, Int.reduceNeg, Int.reduceSub, Int.reduceMul, Int.reduceLT, Int.reduceLE, Int.reduceEq, ↓GH.gp_eq, ↓GH.gp_ne, ↓GH.gs_eq, ↓GH.gs_ne, GH.push_next, GH.set_next, he, b1, b2, b3, i1, i2, i3, z1]
            refine ih (m - 1) _ _ _ (by omega) ⟨by omega, _, ⟨?_, ?_, ?_⟩, ⟨b1, b2, b3, b4⟩, (by simp +decide (disch := first | assumption | (apply GH.ok_push; assumption) | exact cellV_int _ _ | exact cellV_bool _ | omega) only [go_sem, ↓reduceIte, Nat.reduceEqDiff, Nat.reduceAdd, Int.reduceToNat, he]; first | done | exact rfl)⟩ <;> first | omega | decide
          · have i1 := ia3u g3.next
            have i2 := ia3u g4.next
            have i3 := ia3u g5.next
            simp +decide (disch := first | assumption | exact cellV_int _ _ | exact cellV_bool _ | omega | (simp only [GH.pn, GH.sn] <;> omega) | (with_reducible ((repeat (first | apply GH.ok_push | apply GH.ok_set)); assumption)) | ((try simp only [GH.push_hid, GH.set_hid]); first | assumption | (refine GH.vis ?_ ?_ <;> first | assumption | ((try simp only [GH.pn, GH.sn]) <;> omega)))) only [go_sem, ↓reduceIte, Nat.reduceEqDiff, Nat.reduceAdd, Int.reduceToNat, Int.reduceAdd, Int.reduceNeg, Int.reduceSub, Int.reduceMul, Int.reduceLT, Int.reduceLE, Int.reduceEq, ↓GH.gp_eq, ↓GH.gp_ne, ↓GH.gs_eq, ↓GH.gs_ne, GH.push_next, GH.set_next, he, b1, b2, b3, i1, i2, i3, z2]
            refine ih (m - 1) _ _ _ (by omega) ⟨by omega, _, ⟨?_, ?_, ?_⟩, ⟨b1, b2, b3, b4⟩, (by simp +decide (disch := first | assumption | (apply GH.ok_push; assumption) | exact cellV_int _ _ | exact cellV_bool _ | omega) only [go_sem, ↓reduceIte, Nat.reduceEqDiff, Nat.reduceAdd, Int.reduceToNat, he]; first | done | exact rfl)⟩ <;> first | omega | decide
          · have i1 := ia3u g3.next
            have i2 := ia3u g4.next
            have i3 := ia3u g5.next
            simp +decide (disch := first | assumption | exact cellV_int _ _ | exact cellV_bool _ | omega | (simp only [GH.pn, GH.sn] <;> omega) | (with_reducible ((repeat (first | apply GH.ok_push | apply GH.ok_set)); assumption)) | ((try simp only [GH.push_hid, GH.set_hid]); first | assumption | (refine GH.vis ?_ ?_ <;> first | assumption | ((try simp only [GH.pn, GH.sn]) <;> omega)))) only [go_sem, ↓reduceIte, Nat.reduceEqDiff, Nat.reduceAdd, Int.reduceToNat, Int.reduceAdd, Int.reduceNeg, Int.reduceSub, Int.reduceMul, Int.reduceLT, Int.reduceLE, Int.reduceEq, ↓GH.gp_eq, ↓GH.gp_ne, ↓GH.gs_eq, ↓GH.gs_ne, GH.push_next, GH.set_next, he, b1, b2, b3, i1, i2, i3, z3]
            refine ih (m - 1) _ _ _ (by omega) ⟨by omega, _, ⟨?_, ?_, ?_⟩, ⟨b1, b2, b3, b4⟩, (by simp +decide (disch := first | assumption | (apply GH.ok_push; assumption) | exact cellV_int _ _ | exact cellV_bool _ | omega) only [go_sem, ↓reduceIte, Nat.reduceEqDiff, Nat.reduceAdd, Int.reduceToNat, he]; first | done | exact rfl)⟩ <;> first | omega | decide
          · simp +decide (disch := first | assumption | exact cellV_int _ _ | exact cellV_bool _ | omega | (simp only [GH.pn, GH.sn] <;> omega) | (with_reducible ((repeat (first | apply GH.ok_push | apply GH.ok_set)); assumption)) | ((try simp only [GH.push_hid, GH.set_hid]); first | assumption | (refine GH.vis ?_ ?_ <;> first | assumption | ((try simp only [GH.pn, GH.sn]) <;> omega)))) only [go_sem, ↓reduceIte, Nat.reduceEqDiff, Nat.reduceAdd, Int.reduceToNat, Int.reduceAdd, Int.reduceNeg, Int.reduceSub, Int.reduceMul, Int.reduceLT, Int.reduceLE, Int.reduceEq, ↓GH.gp_eq, ↓GH.gp_ne, ↓GH.gs_eq, ↓GH.gs_ne, GH.push_next, GH.set_next, he]
            exact out _ _ _ ⟨hlo, (by simp +decide (disch := first | assumption | (apply GH.ok_push; assumption) | exact cellV_int _ _ | exact cellV_bool _ | omega) only [go_sem, ↓reduceIte, Nat.reduceEqDiff, Nat.reduceAdd, Int.reduceToNat, he]; first | done | exact rfl)⟩
      · rw [decide_eq_false hA]
        simp +decide (disch := first | assumption | (apply GH.ok_push; assumption) | exact cellV_int _ _ | exact cellV_bool _ | omega) only [go_sem, ↓reduceIte, Nat.reduceEqDiff, Nat.reduceAdd, Int.reduceToNat]
        refine CallD.calm (hX.alive _) ?_
        rintro v g4 hx4 ⟨rfl, rfl⟩
        simp +decide (disch := first | assumption | (apply GH.ok_push; assumption) | exact cellV_int _ _ | exact cellV_bool _ | omega) only [go_sem, ↓reduceIte, Nat.reduceEqDiff, Nat.reduceAdd, Int.reduceToNat]
        intro hx
        exact ⟨by first | exact Nat.le_refl _ | omega, rfl⟩
    · obtain ⟨e, he⟩ : ∃ e, apErr (k : Int) l r = e := ⟨_, rfl⟩
      rw [he] at hE
      rw [apartV_err he hE]
      have hE' : ¬ (e = 0) := hE
      simp +decide (disch := first | assumption | (apply GH.ok_push; assumption) | exact cellV_int _ _ | exact cellV_bool _ | omega) only [go_sem, ↓reduceIte, Nat.reduceEqDiff, Nat.reduceAdd, Int.reduceToNat, hE']
      refine CallD.calm (hX.alive _) ?_
      rintro v g4 hx4 ⟨rfl, rfl⟩
      simp +decide (disch := first | assumption | (apply GH.ok_push; assumption) | exact cellV_int _ _ | exact cellV_bool _ | omega) only [go_sem, ↓reduceIte, Nat.reduceEqDiff, Nat.reduceAdd, Int.reduceToNat]
      intro hx
      exact ⟨by first | exact Nat.le_refl _ | omega, rfl⟩
end Go.Proofs.Ytgnnhenbmnopaaa
set_option maxRecDepth 100000
set_option maxHeartbeats 8000000
set_option linter.unusedSimpArgs false
set_option linter.unusedVariables false
namespace Go.Proofs.Ytgnnhenbmnopaaa
open Go.Ds Go.Aw
theorem eqB_any (a b : Bool) : eqBF false (.bool a) (.bool b) = some (.bool (decide (a = b))) := by cases a <;> cases b <;> rfl
theorem head_last {u a : List Nat} (hu : u ≠ []) (ha : a ≠ []) : (u.head? ≠ a.getLast?) ↔ u[0]'(List.length_pos_iff.2 hu) ≠ a[a.length - 1]'(by have := List.length_pos_iff.2 ha; omega) := by
  rw [List.head?_eq_getElem?, List.getLast?_eq_getElem?, List.getElem?_eq_getElem (List.length_pos_iff.2 hu), List.getElem?_eq_getElem (by have := List.length_pos_iff.2 ha; omega)]
  simp
open Classical in
theorem meetsLaw_rets {X : Caller} (hX : Xok X) (l r : ByteArray) (n : Int) (hn : 0 ≤ n) (hn2 : n < 256) (g : GH) : Rets Try.prog X 12 [.string l, .string r, .int .u8 n] g (fun v g' lo => g.next ≤ lo ∧ v = .bool true) := by
  refine Rets.run hX.pres p12 (hX.free 12 (by decide) _ _) rfl fun ho => ?_
  simp +decide (disch := first | assumption | (apply GH.ok_push; assumption) | exact cellV_int _ _ | exact cellV_bool _ | omega) only [go_sem, ↓reduceIte, Nat.reduceEqDiff, Nat.reduceAdd, Int.reduceToNat]
  refine CallD.calm (few_rets hX.toXfr _ _ _) ?_
  rintro v g1 hx1 ⟨rfl, rfl⟩
  cases q : (decide (l.size ≤ 1000) && decide (r.size ≤ 1000)) with
  | false =>
    simp +decide (disch := first | assumption | (apply GH.ok_push; assumption) | exact cellV_int _ _ | exact cellV_bool _ | omega) only [go_sem, ↓reduceIte, Nat.reduceEqDiff, Nat.reduceAdd, Int.reduceToNat]
    refine CallD.calm (hX.alive _) ?_
    rintro v g2 hx2 ⟨rfl, rfl⟩
    simp +decide (disch := first | assumption | (apply GH.ok_push; assumption) | exact cellV_int _ _ | exact cellV_bool _ | omega) only [go_sem, ↓reduceIte, Nat.reduceEqDiff, Nat.reduceAdd, Int.reduceToNat]
    intro hx
    exact ⟨Nat.le_refl _, rfl⟩
  | true =>
    obtain ⟨m, rfl⟩ : ∃ m : Nat, n = m := ⟨n.toNat, by omega⟩
    have hm := Nat.mod_lt m (show 0 < 16 by omega)
    obtain ⟨k, hk⟩ : ∃ k : Nat, k = m % 16 := ⟨_, rfl⟩
    have hcv : convF .i64 (.int .u8 ((m : Int).tmod 16)) = some (.int .i64 (k : Int)) := by rw [hk]; exact conv_u8 m 16 (by omega) (by omega)
    simp +decide (disch := first | assumption | (apply GH.ok_push; assumption) | exact cellV_int _ _ | exact cellV_bool _ | omega) only [go_sem, ↓reduceIte, Nat.reduceEqDiff, Nat.reduceAdd, Int.reduceToNat, hcv]
    refine CallD.calm (apart_rets hX l r k _) ?_
    rintro v g2 hx2 rfl
    have hn2 := hx2.next
    have hok2 := hx2.ok (hx1.ok ho)
    by_cases hE : apErr (k : Int) l r = 0
    · obtain ⟨a, b, ha, hb, rfl, rfl, hl, d1, d2, d3, hv⟩ := apartV_ok (by omega) hE
      rw [hv]
      have hiff := apart_iff ha.ne hb.ne k
      have hal : 0 < a.length := List.length_pos_iff.2 ha.ne
      have hasz := Try.txt_size a
      simp +decide (disch := first | assumption | (apply GH.ok_push; assumption) | exact cellV_int _ _ | exact cellV_bool _ | omega) only [go_sem, ↓reduceIte, Nat.reduceEqDiff, Nat.reduceAdd, Int.reduceToNat]
      refine Wk.loops (fun m e g' lo => g1.next ≤ lo ∧ ∃ i : Nat, (i ≤ k ∧ m = k - i) ∧ (ev e (.s 0) = .string (Try.txt a) ∧ ev e (.s 1) = .string (Try.txt b) ∧ ev e (.s 7) = .int .i64 k ∧ ev e (.s 8) = .bool (decide (ApartL a b k)) ∧ ev e (.s 10) = .bool (decide (∀ d, d < i → (wd d b).head? ≠ a.getLast?)) ∧ ev e (.s 11) = .int .i64 i))
          (fun e g' lo => g1.next ≤ lo ∧ (ev e (.s 8) = .bool (decide (ApartL a b k)) ∧ ev e (.s 10) = .bool (decide (∀ d, d < k → (wd d b).head? ≠ a.getLast?)))) (n := k) ?_ ?_ ?_
      · refine ⟨by first | exact Nat.le_refl _ | omega, 0, ⟨by omega, rfl⟩, (by simp +decide (disch := first | assumption | (apply GH.ok_push; assumption) | exact cellV_int _ _ | exact cellV_bool _ | omega) only [go_sem, ↓reduceIte, Nat.reduceEqDiff, Nat.reduceAdd, Int.reduceToNat]; first | done | exact rfl)⟩
      · rintro e g' lo ho' - ⟨hlo, he⟩
        have e1 : decide (∀ d, d < k → (wd d b).head? ≠ a.getLast?) = decide (ApartL a b k) := decide_eq_decide.2 hiff.symm
        rw [e1] at he
        have e2 := eqB_same (decide (ApartL a b k))
        simp +decide (disch := first | assumption | (apply GH.ok_push; assumption) | exact cellV_int _ _ | exact cellV_bool _ | omega) only [go_sem, ↓reduceIte, Nat.reduceEqDiff, Nat.reduceAdd, Int.reduceToNat, he, e2]
        refine CallD.calm (hX.alive _) ?_
        rintro v g4 hx4 ⟨rfl, rfl⟩
        simp +decide (disch := first | assumption | (apply GH.ok_push; assumption) | exact cellV_int _ _ | exact cellV_bool _ | omega) only [go_sem, ↓reduceIte, Nat.reduceEqDiff, Nat.reduceAdd, Int.reduceToNat]
        intro hx
        exact ⟨by first | exact Nat.le_refl _ | omega, rfl⟩
      · rintro m e g' lo ho' hl' ih out ⟨hlo, i, ⟨hi, hm⟩, he⟩
        by_cases c : i < k
        · simp +decide (disch := first | assumption | (apply GH.ok_push; assumption) | exact cellV_int _ _ | exact cellV_bool _ | omega) only [go_sem, ↓reduceIte, Nat.reduceEqDiff, Nat.reduceAdd, Int.reduceToNat, he, c]
          refine CallD.calm (days_rets hX _ _ _) ?_
          rintro v g4 hx4 rfl
          have hn4 := hx4.next
          have di := derr_mono d2 (show i ≤ k by omega)
          rw [daysV_word (by omega) hb, if_pos di]
          obtain ⟨u, hu⟩ : ∃ u, wd i b = u := ⟨_, rfl⟩
          have hud : Dig u := hu ▸ wd_dig0 hb di
          have hun : u ≠ [] := hu ▸ wd_ne hb.ne
          have hul : u.length ≤ 100000 := hu ▸ wd_len hb.len (derr_zero.1 di)
          have hu0 : 0 < u.length := List.length_pos_iff.2 hun
          rw [hu]
          have husz := Try.txt_size u
          have hz0 : ¬ (((Try.txt u).size : Int) = 0) := by omega
          have hg1 := idx_w hud 0 hu0 0 rfl
          have hg2 := idx_w ha.dig (a.length - 1) (by omega) ((a.length : Int) - 1) (by omega)
          have hstep : (∀ d, d < i + 1 → (wd d b).head? ≠ a.getLast?) ↔ ((∀ d, d < i → (wd d b).head? ≠ a.getLast?) ∧ u[0] ≠ a[a.length - 1]) := by
            rw [← head_last hun ha.ne, ← hu]
            constructor
            · exact fun h => ⟨fun d hd => h d (by omega), h i (by omega)⟩
            · rintro ⟨h1, h2⟩ d hd
              by_cases z : d = i
              · subst z; exact h2
              · exact h1 d (by omega)
          have wl : wrapF .i64 ((a.length : Int) - 1) = (a.length : Int) - 1 := by have := ha.len; exact wr64 (by omega) (by omega)
          by_cases cw : ∀ d, d < i → (wd d b).head? ≠ a.getLast?
          · have hw' : ev e (.s 10) = .bool true := by rw [he.2.2.2.2.1, decide_eq_true cw]
            by_cases c2 : u[0] = a[a.length - 1]
            · have cc : (48 + (u[0] : Int)) = 48 + (a[a.length - 1] : Int) := by omega
              simp +decide (disch := first | assumption | (apply GH.ok_push; assumption) | exact cellV_int _ _ | exact cellV_bool _ | omega) only [go_sem, ↓reduceIte, Nat.reduceEqDiff, Nat.reduceAdd, Int.reduceToNat, hw', he.1, he.2.1, he.2.2.1, he.2.2.2.1, he.2.2.2.2.2, hz0, hg1, hg2, hasz, wl, cc]
              refine ih (k - (i + 1)) _ _ _ (by omega) ⟨by omega, i + 1, ⟨by omega, rfl⟩, ?_⟩
              rw [decide_eq_false (fun z => (hstep.1 z).2 c2)]
              exact (by simp +decide (disch := first | assumption | (apply GH.ok_push; assumption) | exact cellV_int _ _ | exact cellV_bool _ | omega) only [go_sem, ↓reduceIte, Nat.reduceEqDiff, Nat.reduceAdd, Int.reduceToNat, hw', he.1, he.2.1, he.2.2.1, he.2.2.2.1, he.2.2.2.2.2]; first | done | exact rfl)
            · have cc : ¬ ((48 + (u[0] : Int)) = 48 + (a[a.length - 1] : Int)) := by omega
              simp +decide (disch := first | assumption | (apply GH.ok_push; assumption) | exact cellV_int _ _ | exact cellV_bool _ | omega) only [go_sem, ↓reduceIte, Nat.reduceEqDiff, Nat.reduceAdd, Int.reduceToNat, hw', he.1, he.2.1, he.2.2.1, he.2.2.2.1, he.2.2.2.2.2, hz0, hg1, hg2, hasz, wl, cc]
              refine ih (k - (i + 1)) _ _ _ (by omega) ⟨by omega, i + 1, ⟨by omega, rfl⟩, ?_⟩
              rw [decide_eq_true (hstep.2 ⟨cw, c2⟩)]
              exact (by simp +decide (disch := first | assumption | (apply GH.ok_push; assumption) | exact cellV_int _ _ | exact cellV_bool _ | omega) only [go_sem, ↓reduceIte, Nat.reduceEqDiff, Nat.reduceAdd, Int.reduceToNat, hw', he.1, he.2.1, he.2.2.1, he.2.2.2.1, he.2.2.2.2.2]; first | done | exact rfl)
          · have hw' : ev e (.s 10) = .bool false := by rw [he.2.2.2.2.1, decide_eq_false cw]
            simp +decide (disch := first | assumption | (apply GH.ok_push; assumption) | exact cellV_int _ _ | exact cellV_bool _ | omega) only [go_sem, ↓reduceIte, Nat.reduceEqDiff, Nat.reduceAdd, Int.reduceToNat, hw', he.1, he.2.1, he.2.2.1, he.2.2.2.1, he.2.2.2.2.2, hz0, hg1, hg2, hasz, wl, hasz]
            refine ih (k - (i + 1)) _ _ _ (by omega) ⟨by omega, i + 1, ⟨by omega, rfl⟩, ?_⟩
            rw [decide_eq_false (fun z => cw (hstep.1 z).1)]
            exact (by simp +decide (disch := first | assumption | (apply GH.ok_push; assumption) | exact cellV_int _ _ | exact cellV_bool _ | omega) only [go_sem, ↓reduceIte, Nat.reduceEqDiff, Nat.reduceAdd, Int.reduceToNat, hw', he.1, he.2.1, he.2.2.1, he.2.2.2.1, he.2.2.2.2.2]; first | done | exact rfl)
        · have hie : i = k := by omega
          subst hie
          simp +decide (disch := first | assumption | (apply GH.ok_push; assumption) | exact cellV_int _ _ | exact cellV_bool _ | omega) only [go_sem, ↓reduceIte, Nat.reduceEqDiff, Nat.reduceAdd, Int.reduceToNat, he]
          exact out _ _ _ ⟨hlo, (by simp +decide (disch := first | assumption | (apply GH.ok_push; assumption) | exact cellV_int _ _ | exact cellV_bool _ | omega) only [go_sem, ↓reduceIte, Nat.reduceEqDiff, Nat.reduceAdd, Int.reduceToNat, he]; first | done | exact rfl)⟩
    · obtain ⟨e, he⟩ : ∃ e, apErr (k : Int) l r = e := ⟨_, rfl⟩
      rw [he] at hE
      rw [apartV_err he hE]
      have hE' : ¬ (e = 0) := hE
      simp +decide (disch := first | assumption | (apply GH.ok_push; assumption) | exact cellV_int _ _ | exact cellV_bool _ | omega) only [go_sem, ↓reduceIte, Nat.reduceEqDiff, Nat.reduceAdd, Int.reduceToNat, hE']
      refine CallD.calm (hX.alive _) ?_
      rintro v g4 hx4 ⟨rfl, rfl⟩
      simp +decide (disch := first | assumption | (apply GH.ok_push; assumption) | exact cellV_int _ _ | exact cellV_bool _ | omega) only [go_sem, ↓reduceIte, Nat.reduceEqDiff, Nat.reduceAdd, Int.reduceToNat]
      intro hx
      exact ⟨by first | exact Nat.le_refl _ | omega, rfl⟩
end Go.Proofs.Ytgnnhenbmnopaaa
set_option maxRecDepth 100000
set_option maxHeartbeats 8000000
set_option linter.unusedSimpArgs false
set_option linter.unusedVariables false
namespace Go.Proofs.Ytgnnhenbmnopaaa
open Go.Ds Go.Aw
theorem touch_iff {a b : List Nat} (ha : a ≠ []) (hb : b ≠ []) : (∀ y, a.getLast? = some y → b.head? ≠ some y) ↔ a[a.length - 1]'(by have := List.length_pos_iff.2 ha; omega) ≠ b[0]'(List.length_pos_iff.2 hb) := by
  rw [List.head?_eq_getElem?, List.getLast?_eq_getElem?, List.getElem?_eq_getElem (List.length_pos_iff.2 hb), List.getElem?_eq_getElem (by have := List.length_pos_iff.2 ha; omega)]
  simp
  exact ⟨fun h z => h z.symm, fun h z => h z.symm⟩
theorem partsLaw_rets {X : Caller} (hX : Xok X) (l r : ByteArray) (g : GH) : Rets Try.prog X 11 [.string l, .string r] g (fun v g' lo => g.next ≤ lo ∧ v = .bool true) := by
  refine Rets.run hX.pres p11 (hX.free 11 (by decide) _ _) rfl fun ho => ?_
  simp +decide (disch := first | assumption | (apply GH.ok_push; assumption) | exact cellV_int _ _ | exact cellV_bool _ | omega) only [go_sem, ↓reduceIte, Nat.reduceEqDiff, Nat.reduceAdd, Int.reduceToNat]
  refine CallD.calm (few_rets hX.toXfr _ _ _) ?_
  rintro v g1 hx1 ⟨rfl, rfl⟩
  cases q : (decide (l.size ≤ 1000) && decide (r.size ≤ 1000)) with
  | false =>
    simp +decide (disch := first | assumption | (apply GH.ok_push; assumption) | exact cellV_int _ _ | exact cellV_bool _ | omega) only [go_sem, ↓reduceIte, Nat.reduceEqDiff, Nat.reduceAdd, Int.reduceToNat]
    refine CallD.calm (hX.alive _) ?_
    rintro v g2 hx2 ⟨rfl, rfl⟩
    simp +decide (disch := first | assumption | (apply GH.ok_push; assumption) | exact cellV_int _ _ | exact cellV_bool _ | omega) only [go_sem, ↓reduceIte, Nat.reduceEqDiff, Nat.reduceAdd, Int.reduceToNat]
    intro hx
    exact ⟨Nat.le_refl _, rfl⟩
  | true =>
    simp +decide (disch := first | assumption | (apply GH.ok_push; assumption) | exact cellV_int _ _ | exact cellV_bool _ | omega) only [go_sem, ↓reduceIte, Nat.reduceEqDiff, Nat.reduceAdd, Int.reduceToNat]
    refine CallD.calm (refWord_rets hX.toXfr l _) ?_
    rintro v g2 hx2 ⟨rfl, rfl⟩
    by_cases hz : werr l = 0
    · obtain ⟨a, ha, rfl⟩ := werr_word hz
      simp +decide (disch := first | assumption | (apply GH.ok_push; assumption) | exact cellV_int _ _ | exact cellV_bool _ | omega) only [go_sem, ↓reduceIte, Nat.reduceEqDiff, Nat.reduceAdd, Int.reduceToNat, hz]
      refine CallD.calm (refWord_rets hX.toXfr r _) ?_
      rintro v g3 hx3 ⟨rfl, rfl⟩
      by_cases hz2 : werr r = 0
      · obtain ⟨b, hb, rfl⟩ := werr_word hz2
        have hasz := Try.txt_size a
        have hbsz := Try.txt_size b
        have hal := ha.len
        have hbl := hb.len
        have wl : wrapF .i64 ((a.length : Int) + (b.length : Int)) = (a.length : Int) + (b.length : Int) := wr64 (by omega) (by omega)
        by_cases hl : a.length + b.length ≤ 200
        · have hl' : ¬ (200 < (a.length : Int) + (b.length : Int)) := by omega
          simp +decide (disch := first | assumption | (apply GH.ok_push; assumption) | exact cellV_int _ _ | exact cellV_bool _ | omega) only [go_sem, ↓reduceIte, Nat.reduceEqDiff, Nat.reduceAdd, Int.reduceToNat, hz2, hasz, hbsz, wl, hl']
          refine CallD.calm (say_rets hX _ _) ?_
          rintro v g4 hx4 rfl
          have hn4 := hx4.next
          rw [sayV_word ha]
          have hadd : strB .add (Try.txt a) (Try.txt b) = some (.string (Try.txt (a ++ b))) := by rw [str_add (by omega), txt_app]
          have hpa := List.length_pos_iff.2 ha.ne
          have hpb := List.length_pos_iff.2 hb.ne
          have hg1 := idx_w ha.dig (a.length - 1) (by omega) ((a.length : Int) - 1) (by omega)
          have hg2 := idx_w hb.dig 0 hpb 0 rfl
          have wl1 : wrapF .i64 ((a.length : Int) - 1) = (a.length : Int) - 1 := wr64 (by omega) (by omega)
          have ht := touch_iff ha.ne hb.ne
          by_cases sa : Sayable a
          · by_cases sb : Sayable b
            · have hadd2 : strB .add (Try.txt (Aw.say a)) (Try.txt (Aw.say b)) = some (.string (Try.txt (Aw.say a ++ Aw.say b))) := by
                have h1 := say_length a
                have h2 := say_length b
                have h3 := runs_len a
                have h4 := runs_len b
                rw [str_add (by rw [Try.txt_size, Try.txt_size]; omega), txt_app]
              by_cases sab : Sayable (a ++ b)
              · have dab := say_dig (ha.app hb hl).dig sab
                have dd : Dig (Aw.say a ++ Aw.say b) := by
                  intro d hd
                  rcases List.mem_append.1 hd with z | z
                  · exact say_dig ha.dig sa d z
                  · exact say_dig hb.dig sb d z
                by_cases tc : a[a.length - 1] = b[0]
                · have cc : (48 + (a[a.length - 1] : Int)) = 48 + (b[0] : Int) := by omega
                  have hne : ¬ (Aw.say (a ++ b) = Aw.say a ++ Aw.say b) := by
                    refine say_touch (y := a[a.length - 1]) ?_ ?_
                    · rw [List.getLast?_eq_getElem?, List.getElem?_eq_getElem (by omega)]
                    · rw [List.head?_eq_getElem?, List.getElem?_eq_getElem hpb, tc]
                  have ed : decide (Try.txt (Aw.say (a ++ b)) = Try.txt (Aw.say a ++ Aw.say b)) = false := decide_eq_false (fun z => hne ((txt_inj dab dd).1 z))
                  have e3 := eqB_same false
                  rw [saidV_ok sa]
                  simp +decide (disch := first | assumption | (apply GH.ok_push; assumption) | exact cellV_int _ _ | exact cellV_bool _ | omega) only [go_sem, ↓reduceIte, Nat.reduceEqDiff, Nat.reduceAdd, Int.reduceToNat]
                  refine CallD.calm (say_rets hX _ _) ?_
                  rintro v g5 hx5 rfl
                  have hn5 := hx5.next
                  rw [sayV_word hb, saidV_ok sb]
                  simp +decide (disch := first | assumption | (apply GH.ok_push; assumption) | exact cellV_int _ _ | exact cellV_bool _ | omega) only [go_sem, ↓reduceIte, Nat.reduceEqDiff, Nat.reduceAdd, Int.reduceToNat, hadd]
                  refine CallD.calm (say_rets hX _ _) ?_
                  rintro v g6 hx6 rfl
                  have hn6 := hx6.next
                  rw [sayV_word (ha.app hb hl), saidV_ok sab]
                  simp +decide (disch := first | assumption | (apply GH.ok_push; assumption) | exact cellV_int _ _ | exact cellV_bool _ | omega) only [go_sem, ↓reduceIte, Nat.reduceEqDiff, Nat.reduceAdd, Int.reduceToNat, hg1, hg2, hasz, wl1, cc, hadd2, ed, e3]
                  refine CallD.calm (hX.alive _) ?_
                  rintro v gz hxz ⟨rfl, rfl⟩
                  simp +decide (disch := first | assumption | (apply GH.ok_push; assumption) | exact cellV_int _ _ | exact cellV_bool _ | omega) only [go_sem, ↓reduceIte, Nat.reduceEqDiff, Nat.reduceAdd, Int.reduceToNat]
                  intro hx
                  exact ⟨by first | exact Nat.le_refl _ | omega, rfl⟩
                · have cc : ¬ ((48 + (a[a.length - 1] : Int)) = 48 + (b[0] : Int)) := by omega
                  have heq : Aw.say (a ++ b) = Aw.say a ++ Aw.say b := say_apart (ht.2 tc)
                  have ed : decide (Try.txt (Aw.say (a ++ b)) = Try.txt (Aw.say a ++ Aw.say b)) = true := decide_eq_true (by rw [heq])
                  have e3 := eqB_same true
                  rw [saidV_ok sa]
                  simp +decide (disch := first | assumption | (apply GH.ok_push; assumption) | exact cellV_int _ _ | exact cellV_bool _ | omega) only [go_sem, ↓reduceIte, Nat.reduceEqDiff, Nat.reduceAdd, Int.reduceToNat]
                  refine CallD.calm (say_rets hX _ _) ?_
                  rintro v g5 hx5 rfl
                  have hn5 := hx5.next
                  rw [sayV_word hb, saidV_ok sb]
                  simp +decide (disch := first | assumption | (apply GH.ok_push; assumption) | exact cellV_int _ _ | exact cellV_bool _ | omega) only [go_sem, ↓reduceIte, Nat.reduceEqDiff, Nat.reduceAdd, Int.reduceToNat, hadd]
                  refine CallD.calm (say_rets hX _ _) ?_
                  rintro v g6 hx6 rfl
                  have hn6 := hx6.next
                  rw [sayV_word (ha.app hb hl), saidV_ok sab]
                  simp +decide (disch := first | assumption | (apply GH.ok_push; assumption) | exact cellV_int _ _ | exact cellV_bool _ | omega) only [go_sem, ↓reduceIte, Nat.reduceEqDiff, Nat.reduceAdd, Int.reduceToNat, hg1, hg2, hasz, wl1, cc, hadd2, ed, e3]
                  refine CallD.calm (hX.alive _) ?_
                  rintro v gz hxz ⟨rfl, rfl⟩
                  simp +decide (disch := first | assumption | (apply GH.ok_push; assumption) | exact cellV_int _ _ | exact cellV_bool _ | omega) only [go_sem, ↓reduceIte, Nat.reduceEqDiff, Nat.reduceAdd, Int.reduceToNat]
                  intro hx
                  exact ⟨by first | exact Nat.le_refl _ | omega, rfl⟩
              · have tc : a[a.length - 1] = b[0] := by
                  by_cases tc : a[a.length - 1] = b[0]
                  · exact tc
                  · exact absurd (sayable_apart (ht.2 tc) sa sb) sab
                have cc : (48 + (a[a.length - 1] : Int)) = 48 + (b[0] : Int) := by omega
                rw [saidV_ok sa]
                simp +decide (disch := first | assumption | (apply GH.ok_push; assumption) | exact cellV_int _ _ | exact cellV_bool _ | omega) only [go_sem, ↓reduceIte, Nat.reduceEqDiff, Nat.reduceAdd, Int.reduceToNat]
                refine CallD.calm (say_rets hX _ _) ?_
                rintro v g5 hx5 rfl
                have hn5 := hx5.next
                rw [sayV_word hb, saidV_ok sb]
                simp +decide (disch := first | assumption | (apply GH.ok_push; assumption) | exact cellV_int _ _ | exact cellV_bool _ | omega) only [go_sem, ↓reduceIte, Nat.reduceEqDiff, Nat.reduceAdd, Int.reduceToNat, hadd]
                refine CallD.calm (say_rets hX _ _) ?_
                rintro v g6 hx6 rfl
                have hn6 := hx6.next
                rw [sayV_word (ha.app hb hl), saidV_no sab]
                simp +decide (disch := first | assumption | (apply GH.ok_push; assumption) | exact cellV_int _ _ | exact cellV_bool _ | omega) only [go_sem, ↓reduceIte, Nat.reduceEqDiff, Nat.reduceAdd, Int.reduceToNat, hg1, hg2, hasz, wl1, cc]
                refine CallD.calm (hX.alive _) ?_
                rintro v gz hxz ⟨rfl, rfl⟩
                simp +decide (disch := first | assumption | (apply GH.ok_push; assumption) | exact cellV_int _ _ | exact cellV_bool _ | omega) only [go_sem, ↓reduceIte, Nat.reduceEqDiff, Nat.reduceAdd, Int.reduceToNat]
                intro hx
                exact ⟨by first | exact Nat.le_refl _ | omega, rfl⟩
            · have sab : ¬ Sayable (a ++ b) := fun z => sb (sayable_left z).2
              by_cases tc : a[a.length - 1] = b[0]
              · have cc : (48 + (a[a.length - 1] : Int)) = 48 + (b[0] : Int) := by omega
                rw [saidV_ok sa]
                simp +decide (disch := first | assumption | (apply GH.ok_push; assumption) | exact cellV_int _ _ | exact cellV_bool _ | omega) only [go_sem, ↓reduceIte, Nat.reduceEqDiff, Nat.reduceAdd, Int.reduceToNat]
                refine CallD.calm (say_rets hX _ _) ?_
                rintro v g5 hx5 rfl
                have hn5 := hx5.next
                rw [sayV_word hb, saidV_no sb]
                simp +decide (disch := first | assumption | (apply GH.ok_push; assumption) | exact cellV_int _ _ | exact cellV_bool _ | omega) only [go_sem, ↓reduceIte, Nat.reduceEqDiff, Nat.reduceAdd, Int.reduceToNat, hadd]
                refine CallD.calm (say_rets hX _ _) ?_
                rintro v g6 hx6 rfl
                have hn6 := hx6.next
                rw [sayV_word (ha.app hb hl), saidV_no sab]
                simp +decide (disch := first | assumption | (apply GH.ok_push; assumption) | exact cellV_int _ _ | exact cellV_bool _ | omega) only [go_sem, ↓reduceIte, Nat.reduceEqDiff, Nat.reduceAdd, Int.reduceToNat, hg1, hg2, hasz, wl1, cc]
                refine CallD.calm (hX.alive _) ?_
                rintro v gz hxz ⟨rfl, rfl⟩
                simp +decide (disch := first | assumption | (apply GH.ok_push; assumption) | exact cellV_int _ _ | exact cellV_bool _ | omega) only [go_sem, ↓reduceIte, Nat.reduceEqDiff, Nat.reduceAdd, Int.reduceToNat]
                intro hx
                exact ⟨by first | exact Nat.le_refl _ | omega, rfl⟩
              · have cc : ¬ ((48 + (a[a.length - 1] : Int)) = 48 + (b[0] : Int)) := by omega
                rw [saidV_ok sa]
                simp +decide (disch := first | assumption | (apply GH.ok_push; assumption) | exact cellV_int _ _ | exact cellV_bool _ | omega) only [go_sem, ↓reduceIte, Nat.reduceEqDiff, Nat.reduceAdd, Int.reduceToNat]
                refine CallD.calm (say_rets hX _ _) ?_
                rintro v g5 hx5 rfl
                have hn5 := hx5.next
                rw [sayV_word hb, saidV_no sb]
                simp +decide (disch := first | assumption | (apply GH.ok_push; assumption) | exact cellV_int _ _ | exact cellV_bool _ | omega) only [go_sem, ↓reduceIte, Nat.reduceEqDiff, Nat.reduceAdd, Int.reduceToNat, hadd]
                refine CallD.calm (say_rets hX _ _) ?_
                rintro v g6 hx6 rfl
                have hn6 := hx6.next
                rw [sayV_word (ha.app hb hl), saidV_no sab]
                simp +decide (disch := first | assumption | (apply GH.ok_push; assumption) | exact cellV_int _ _ | exact cellV_bool _ | omega) only [go_sem, ↓reduceIte, Nat.reduceEqDiff, Nat.reduceAdd, Int.reduceToNat, hg1, hg2, hasz, wl1, cc]
                refine CallD.calm (hX.alive _) ?_
                rintro v gz hxz ⟨rfl, rfl⟩
                simp +decide (disch := first | assumption | (apply GH.ok_push; assumption) | exact cellV_int _ _ | exact cellV_bool _ | omega) only [go_sem, ↓reduceIte, Nat.reduceEqDiff, Nat.reduceAdd, Int.reduceToNat]
                intro hx
                exact ⟨by first | exact Nat.le_refl _ | omega, rfl⟩
          · have sab : ¬ Sayable (a ++ b) := fun z => sa (sayable_left z).1
            obtain ⟨xb, eb, hb2⟩ : ∃ x e, Try.saidV b = .tuple #[.string x, .int .i64 e] := ⟨_, _, rfl⟩
            by_cases tc : a[a.length - 1] = b[0]
            · have cc : (48 + (a[a.length - 1] : Int)) = 48 + (b[0] : Int) := by omega
              rw [saidV_no sa]
              simp +decide (disch := first | assumption | (apply GH.ok_push; assumption) | exact cellV_int _ _ | exact cellV_bool _ | omega) only [go_sem, ↓reduceIte, Nat.reduceEqDiff, Nat.reduceAdd, Int.reduceToNat]
              refine CallD.calm (say_rets hX _ _) ?_
              rintro v g5 hx5 rfl
              have hn5 := hx5.next
              rw [sayV_word hb, hb2]
              simp +decide (disch := first | assumption | (apply GH.ok_push; assumption) | exact cellV_int _ _ | exact cellV_bool _ | omega) only [go_sem, ↓reduceIte, Nat.reduceEqDiff, Nat.reduceAdd, Int.reduceToNat, hadd]
              refine CallD.calm (say_rets hX _ _) ?_
              rintro v g6 hx6 rfl
              have hn6 := hx6.next
              rw [sayV_word (ha.app hb hl), saidV_no sab]
              simp +decide (disch := first | assumption | (apply GH.ok_push; assumption) | exact cellV_int _ _ | exact cellV_bool _ | omega) only [go_sem, ↓reduceIte, Nat.reduceEqDiff, Nat.reduceAdd, Int.reduceToNat, hg1, hg2, hasz, wl1, cc]
              refine CallD.calm (hX.alive _) ?_
              rintro v gz hxz ⟨rfl, rfl⟩
              simp +decide (disch := first | assumption | (apply GH.ok_push; assumption) | exact cellV_int _ _ | exact cellV_bool _ | omega) only [go_sem, ↓reduceIte, Nat.reduceEqDiff, Nat.reduceAdd, Int.reduceToNat]
              intro hx
              exact ⟨by first | exact Nat.le_refl _ | omega, rfl⟩
            · have cc : ¬ ((48 + (a[a.length - 1] : Int)) = 48 + (b[0] : Int)) := by omega
              rw [saidV_no sa]
              simp +decide (disch := first | assumption | (apply GH.ok_push; assumption) | exact cellV_int _ _ | exact cellV_bool _ | omega) only [go_sem, ↓reduceIte, Nat.reduceEqDiff, Nat.reduceAdd, Int.reduceToNat]
              refine CallD.calm (say_rets hX _ _) ?_
              rintro v g5 hx5 rfl
              have hn5 := hx5.next
              rw [sayV_word hb, hb2]
              simp +decide (disch := first | assumption | (apply GH.ok_push; assumption) | exact cellV_int _ _ | exact cellV_bool _ | omega) only [go_sem, ↓reduceIte, Nat.reduceEqDiff, Nat.reduceAdd, Int.reduceToNat, hadd]
              refine CallD.calm (say_rets hX _ _) ?_
              rintro v g6 hx6 rfl
              have hn6 := hx6.next
              rw [sayV_word (ha.app hb hl), saidV_no sab]
              simp +decide (disch := first | assumption | (apply GH.ok_push; assumption) | exact cellV_int _ _ | exact cellV_bool _ | omega) only [go_sem, ↓reduceIte, Nat.reduceEqDiff, Nat.reduceAdd, Int.reduceToNat, hg1, hg2, hasz, wl1, cc]
              refine CallD.calm (hX.alive _) ?_
              rintro v gz hxz ⟨rfl, rfl⟩
              simp +decide (disch := first | assumption | (apply GH.ok_push; assumption) | exact cellV_int _ _ | exact cellV_bool _ | omega) only [go_sem, ↓reduceIte, Nat.reduceEqDiff, Nat.reduceAdd, Int.reduceToNat]
              intro hx
              exact ⟨by first | exact Nat.le_refl _ | omega, rfl⟩
        · have hl' : (200 < (a.length : Int) + (b.length : Int)) := by omega
          simp +decide (disch := first | assumption | (apply GH.ok_push; assumption) | exact cellV_int _ _ | exact cellV_bool _ | omega) only [go_sem, ↓reduceIte, Nat.reduceEqDiff, Nat.reduceAdd, Int.reduceToNat, hz2, hasz, hbsz, wl, hl']
          refine CallD.calm (hX.alive _) ?_
          rintro v g3 hx3 ⟨rfl, rfl⟩
          simp +decide (disch := first | assumption | (apply GH.ok_push; assumption) | exact cellV_int _ _ | exact cellV_bool _ | omega) only [go_sem, ↓reduceIte, Nat.reduceEqDiff, Nat.reduceAdd, Int.reduceToNat]
          intro hx
          exact ⟨Nat.le_refl _, rfl⟩
      · have hz' : ¬ (werr r = 0) := hz2
        simp +decide (disch := first | assumption | (apply GH.ok_push; assumption) | exact cellV_int _ _ | exact cellV_bool _ | omega) only [go_sem, ↓reduceIte, Nat.reduceEqDiff, Nat.reduceAdd, Int.reduceToNat, hz']
        refine CallD.calm (hX.alive _) ?_
        rintro v g3 hx3 ⟨rfl, rfl⟩
        simp +decide (disch := first | assumption | (apply GH.ok_push; assumption) | exact cellV_int _ _ | exact cellV_bool _ | omega) only [go_sem, ↓reduceIte, Nat.reduceEqDiff, Nat.reduceAdd, Int.reduceToNat]
        intro hx
        exact ⟨Nat.le_refl _, rfl⟩
    · have hz' : ¬ (werr l = 0) := hz
      simp +decide (disch := first | assumption | (apply GH.ok_push; assumption) | exact cellV_int _ _ | exact cellV_bool _ | omega) only [go_sem, ↓reduceIte, Nat.reduceEqDiff, Nat.reduceAdd, Int.reduceToNat, hz']
      refine CallD.calm (hX.alive _) ?_
      rintro v g3 hx3 ⟨rfl, rfl⟩
      simp +decide (disch := first | assumption | (apply GH.ok_push; assumption) | exact cellV_int _ _ | exact cellV_bool _ | omega) only [go_sem, ↓reduceIte, Nat.reduceEqDiff, Nat.reduceAdd, Int.reduceToNat]
      intro hx
      exact ⟨Nat.le_refl _, rfl⟩
end Go.Proofs.Ytgnnhenbmnopaaa
set_option maxRecDepth 100000
set_option maxHeartbeats 8000000
set_option linter.unusedSimpArgs false
set_option linter.unusedVariables false
namespace Go.Proofs.Ytgnnhenbmnopaaa
open Go.Ds Go.Aw
/-- The digits of the last run. -/
def lastRun (l : List Nat) : Nat := ((runs l).getLast?.map (·.1)).getD 0
theorem lastRun_nil : lastRun [] = 0 := rfl
theorem lastRun_one (x : Nat) : lastRun [x] = 1 := rfl
theorem lastRun_snoc {l : List Nat} (hl : l ≠ []) (x : Nat) : lastRun (l ++ [x]) = if l.getLast? = some x then lastRun l + 1 else 1 := by
  obtain ⟨R, m, e, h1, h2, h3⟩ := runs_snoc hl x
  unfold lastRun
  rw [h3, h1, h2]
  by_cases c : x = e
  · rw [if_pos c, if_pos (by rw [c])]
    simp
  · rw [if_neg c, if_neg (fun z => c (by simpa using z.symm))]
    simp
theorem lastRun_le {w : List Nat} (h : ∀ z ∈ runs w, z.1 ≤ 3) {i : Nat} (hi : i ≤ w.length) : lastRun (w.take i) ≤ 3 := by
  have h2 := runs3_take h (w.length - i) i (by omega)
  unfold lastRun
  cases q : (runs (w.take i)).getLast? with
  | none => simp
  | some p => simpa using h2 p (List.mem_of_getLast? q)
theorem lastRun_step {w : List Nat} {i : Nat} (hi : i < w.length) (h0 : i ≠ 0) : lastRun (w.take (i + 1)) = if w[i]'hi = w[i - 1]'(by omega) then lastRun (w.take i) + 1 else 1 := by
  have e : w.take (i + 1) = w.take i ++ [w[i]] := by rw [List.take_add_one, List.getElem?_eq_getElem hi]; rfl
  have hne : w.take i ≠ [] := by
    intro z
    have h1 : (w.take i).length = 0 := congrArg List.length z
    rw [List.length_take] at h1
    omega
  have hl : (w.take i).getLast? = some (w[i - 1]'(by omega)) := by
    rw [List.getLast?_eq_getElem?, List.length_take, show min i w.length = i by omega, List.getElem?_take, if_pos (by omega), List.getElem?_eq_getElem (by omega)]
  rw [e, lastRun_snoc hne, hl]
  by_cases c : w[i] = w[i - 1]'(by omega)
  · rw [if_pos c, if_pos (by rw [c])]
  · rw [if_neg c, if_neg (fun z => c (by simpa using z.symm))]
theorem lastRun_first {w : List Nat} (h : 0 < w.length) : lastRun (w.take 1) = 1 := by
  cases w with
  | nil => simp at h
  | cons a w => simp [lastRun_one]
theorem say_len400 {w : List Nat} : (Aw.say w).length ≤ 2 * w.length := by
  have := say_length w
  have := runs_len w
  omega
theorem derr2 {ds : List Nat} (hw : Wd ds) (hs : Sayable ds) : derr 2 ds = 0 := by
  have h1 := @say_len400 ds
  have h2 := @say_len400 (Aw.say ds)
  have := hw.len
  have hs2 : Sayable (Aw.say ds) := fun p hp => Nat.le_trans (runs3_say ds p hp) (by omega)
  refine derr_zero.2 fun j hj => ?_
  rcases (show j = 0 ∨ j = 1 by omega) with rfl | rfl
  · exact stepE_zero.2 ⟨hs, by show (Aw.say ds).length ≤ _; omega⟩
  · exact stepE_zero.2 ⟨hs2, by show (Aw.say (Aw.say ds)).length ≤ _; omega⟩
theorem flat_even : ∀ (L : List (Nat × Nat)) (k : Nat) (h : 2 * k < (flat L).length), ∃ p ∈ L, (flat L)[2 * k] = p.1
  | [], k, h => by simp [flat] at h
  | p :: L, 0, h => ⟨p, List.mem_cons_self .., rfl⟩
  | p :: L, k + 1, h => by
    have e : flat (p :: L) = p.1 :: p.2 :: flat L := rfl
    have h2 : 2 * k < (flat L).length := by rw [e] at h; simp at h; omega
    obtain ⟨q, hq, hq2⟩ := flat_even L k h2
    refine ⟨q, List.mem_cons_of_mem _ hq, ?_⟩
    rw [← hq2]
    simp only [e, show 2 * (k + 1) = 2 * k + 1 + 1 by omega, List.getElem_cons_succ]
theorem said_even {ds : List Nat} (k : Nat) (h : 2 * k < (Aw.say (Aw.say ds)).length) : 1 ≤ (Aw.say (Aw.say ds))[2 * k] ∧ (Aw.say (Aw.say ds))[2 * k] ≤ 3 := by
  obtain ⟨p, hp, e⟩ := flat_even (runs (Aw.say ds)) k h
  show 1 ≤ (flat (runs (Aw.say ds)))[2 * k]'h ∧ (flat (runs (Aw.say ds)))[2 * k]'h ≤ 3
  rw [e]
  exact ⟨good_pos (good_runs _) p hp, runs3_say ds p hp⟩
/-- The laws of the runs. -/
theorem runsLaw_rets {X : Caller} (hX : Xok X) (s : ByteArray) (g : GH) : Rets Try.prog X 9 [.string s] g (fun v g' lo => g.next ≤ lo ∧ v = .bool true) := by
  refine Rets.run hX.pres p9 (hX.free 9 (by decide) _ _) rfl fun ho => ?_
  simp +decide (disch := first | assumption | (apply GH.ok_push; assumption) | exact cellV_int _ _ | exact cellV_bool _ | omega) only [go_sem, ↓reduceIte, Nat.reduceEqDiff, Nat.reduceAdd, Int.reduceToNat]
  refine CallD.calm (few_rets hX.toXfr _ _ _) ?_
  rintro v g1 hx1 ⟨rfl, rfl⟩
  cases q : (decide (s.size ≤ 1000) && decide ((⟨#[]⟩ : ByteArray).size ≤ 1000)) with
  | false =>
    simp +decide (disch := first | assumption | (apply GH.ok_push; assumption) | exact cellV_int _ _ | exact cellV_bool _ | omega) only [go_sem, ↓reduceIte, Nat.reduceEqDiff, Nat.reduceAdd, Int.reduceToNat]
    refine CallD.calm (hX.alive _) ?_
    rintro v g2 hx2 ⟨rfl, rfl⟩
    simp +decide (disch := first | assumption | (apply GH.ok_push; assumption) | exact cellV_int _ _ | exact cellV_bool _ | omega) only [go_sem, ↓reduceIte, Nat.reduceEqDiff, Nat.reduceAdd, Int.reduceToNat]
    intro hx
    exact ⟨Nat.le_refl _, rfl⟩
  | true =>
    simp +decide (disch := first | assumption | (apply GH.ok_push; assumption) | exact cellV_int _ _ | exact cellV_bool _ | omega) only [go_sem, ↓reduceIte, Nat.reduceEqDiff, Nat.reduceAdd, Int.reduceToNat]
    refine CallD.calm (refWord_rets hX.toXfr s _) ?_
    rintro v g2 hx2 ⟨rfl, rfl⟩
    by_cases hz : werr s = 0
    · obtain ⟨ds, hw, rfl⟩ := werr_word hz
      have hwl := hw.len
      simp +decide (disch := first | assumption | (apply GH.ok_push; assumption) | exact cellV_int _ _ | exact cellV_bool _ | omega) only [go_sem, ↓reduceIte, Nat.reduceEqDiff, Nat.reduceAdd, Int.reduceToNat, hz]
      refine CallD.calm (say_rets hX _ _) ?_
      rintro v g3 hx3 rfl
      have hn3 := hx3.next
      rw [sayV_word hw]
      by_cases sy : Sayable ds
      · rw [saidV_ok sy]
        obtain ⟨u, hu⟩ : ∃ u, Aw.say ds = u := ⟨_, rfl⟩
        have hul : u.length ≤ 400 := by have := @say_len400 ds; rw [hu] at this; omega
        have hud : Dig u := hu ▸ say_dig hw.dig sy
        have hr3 : ∀ z ∈ runs u, z.1 ≤ 3 := hu ▸ runs3_say ds
        have husz := Try.txt_size u
        rw [hu]
        simp +decide (disch := first | assumption | (apply GH.ok_push; assumption) | exact cellV_int _ _ | exact cellV_bool _ | omega) only [go_sem, ↓reduceIte, Nat.reduceEqDiff, Nat.reduceAdd, Int.reduceToNat]
        refine Wk.loops (fun m e g' lo => g2.next ≤ lo ∧ ∃ i : Nat, (i ≤ u.length ∧ m = u.length - i) ∧ (ev e (.s 0) = .string (Try.txt ds) ∧ ev e (.s 3) = .string (Try.txt u) ∧ ev e (.s 5) = .int .i64 (lastRun (u.take i) : Nat) ∧ ev e (.s 6) = .int .i64 i))
          (fun e g' lo => g2.next ≤ lo ∧ ev e (.s 0) = .string (Try.txt ds)) (n := u.length) ?_ ?_ ?_
        · refine ⟨by first | exact Nat.le_refl _ | omega, 0, ⟨by omega, rfl⟩, (by simp +decide (disch := first | assumption | (apply GH.ok_push; assumption) | exact cellV_int _ _ | exact cellV_bool _ | omega) only [go_sem, ↓reduceIte, Nat.reduceEqDiff, Nat.reduceAdd, Int.reduceToNat]; first | done | exact rfl)⟩
        · rintro e g' lo ho' - ⟨hlo, he⟩
          simp +decide (disch := first | assumption | (apply GH.ok_push; assumption) | exact cellV_int _ _ | exact cellV_bool _ | omega) only [go_sem, ↓reduceIte, Nat.reduceEqDiff, Nat.reduceAdd, Int.reduceToNat, he]
          refine CallD.calm (days_rets hX _ _ _) ?_
          rintro v g4 hx4 rfl
          have hn4 := hx4.next
          have hdv := daysV_word (k := 2) (by omega) hw
          rw [if_pos (derr2 hw sy)] at hdv
          have hdv' : daysV 2 (Try.txt ds) = .tuple #[.string (Try.txt (wd 2 ds)), .int .i64 0] := hdv
          rw [hdv']
          obtain ⟨t, ht⟩ : ∃ t, wd 2 ds = t := ⟨_, rfl⟩
          rw [ht]
          have htd : Dig t := ht ▸ wd_dig0 hw (derr2 hw sy)
          have htl : t.length ≤ 100000 := ht ▸ wd_len hw.len (derr_zero.1 (derr2 hw sy))
          have hte : ∀ (k : Nat) (h : 2 * k < t.length), 1 ≤ t[2 * k] ∧ t[2 * k] ≤ 3 := by
            subst ht
            exact fun k h => said_even k h
          have htev : t.length % 2 = 0 := by
            have := say_length (Aw.say ds)
            have e : t = Aw.say (Aw.say ds) := ht.symm
            rw [e]; omega
          have htsz := Try.txt_size t
          simp +decide (disch := first | assumption | (apply GH.ok_push; assumption) | exact cellV_int _ _ | exact cellV_bool _ | omega) only [go_sem, ↓reduceIte, Nat.reduceEqDiff, Nat.reduceAdd, Int.reduceToNat]
          refine Wk.loops (fun m e g' lo => g2.next ≤ lo ∧ ∃ i : Nat, (2 * i ≤ t.length ∧ m = t.length - 2 * i) ∧ (ev e (.s 7) = .string (Try.txt t) ∧ ev e (.s 8) = .int .i64 (2 * (i : Int))))
            (fun e g' lo => g2.next ≤ lo) (n := t.length) ?_ ?_ ?_
          · exact ⟨by first | exact Nat.le_refl _ | omega, 0, ⟨by omega, rfl⟩, (by simp +decide (disch := first | assumption | (apply GH.ok_push; assumption) | exact cellV_int _ _ | exact cellV_bool _ | omega) only [go_sem, ↓reduceIte, Nat.reduceEqDiff, Nat.reduceAdd, Int.reduceToNat]; first | done | exact rfl)⟩
          · rintro e g' lo ho' - hlo
            simp +decide (disch := first | assumption | (apply GH.ok_push; assumption) | exact cellV_int _ _ | exact cellV_bool _ | omega) only [go_sem, ↓reduceIte, Nat.reduceEqDiff, Nat.reduceAdd, Int.reduceToNat]
            refine CallD.calm (hX.alive _) ?_
            rintro v g5 hx5 ⟨rfl, rfl⟩
            simp +decide (disch := first | assumption | (apply GH.ok_push; assumption) | exact cellV_int _ _ | exact cellV_bool _ | omega) only [go_sem, ↓reduceIte, Nat.reduceEqDiff, Nat.reduceAdd, Int.reduceToNat]
            intro hx
            exact ⟨by first | exact Nat.le_refl _ | omega, rfl⟩
          · rintro m e g' lo ho' hl' ih out ⟨hlo, i, ⟨hi, hm⟩, he⟩
            by_cases c : 2 * i < t.length
            · have hg := idx_w htd (2 * i) c (2 * (i : Int)) (by omega)
              have hb := hte i c
              have c' : (2 * (i : Int) < (t.length : Int)) := by omega
              have c1 : ¬ (48 + (t[2 * i] : Int) < 49) := by omega
              have c2 : ¬ (51 < 48 + (t[2 * i] : Int)) := by omega
              have wi : wrapF .i64 (2 * (i : Int) + 2) = 2 * (((i + 1 : Nat)) : Int) := by rw [wr64 (by omega) (by omega)]; omega
              simp +decide (disch := first | assumption | (apply GH.ok_push; assumption) | exact cellV_int _ _ | exact cellV_bool _ | omega) only [go_sem, ↓reduceIte, Nat.reduceEqDiff, Nat.reduceAdd, Int.reduceToNat, he, htsz, c', hg, c1, c2, wi]
              refine ih (t.length - 2 * (i + 1)) _ _ _ (by omega) ⟨by omega, i + 1, ⟨by omega, rfl⟩, (by simp +decide (disch := first | assumption | (apply GH.ok_push; assumption) | exact cellV_int _ _ | exact cellV_bool _ | omega) only [go_sem, ↓reduceIte, Nat.reduceEqDiff, Nat.reduceAdd, Int.reduceToNat, he]; first | done | exact rfl)⟩
            · have c' : ¬ (2 * (i : Int) < (t.length : Int)) := by omega
              simp +decide (disch := first | assumption | (apply GH.ok_push; assumption) | exact cellV_int _ _ | exact cellV_bool _ | omega) only [go_sem, ↓reduceIte, Nat.reduceEqDiff, Nat.reduceAdd, Int.reduceToNat, he, htsz, c']
              exact out _ _ _ hlo
        · rintro m e g' lo ho' hl' ih out ⟨hlo, i, ⟨hi, hm⟩, he⟩
          by_cases c : i < u.length
          · have hg := idx_w hud i c i rfl
            have hle := lastRun_le hr3 (show i + 1 ≤ u.length by omega)
            have c' : ((i : Int) < (u.length : Int)) := by omega
            by_cases h0 : i = 0
            · subst h0
              have hf := lastRun_first (w := u) (by omega)
              have he' : ev e (.s 0) = .string (Try.txt ds) ∧ ev e (.s 3) = .string (Try.txt u) ∧ ev e (.s 5) = .int .i64 (0 : Int) ∧ ev e (.s 6) = .int .i64 (0 : Int) := he
              have c3 : (0 : Int) < (u.length : Int) := by omega
              simp +decide (disch := first | assumption | (apply GH.ok_push; assumption) | exact cellV_int _ _ | exact cellV_bool _ | omega) only [go_sem, ↓reduceIte, Nat.reduceEqDiff, Nat.reduceAdd, Int.reduceToNat, he', husz, c3, hg]
              refine ih (u.length - 1) _ _ _ (by omega) ⟨by omega, 1, ⟨by omega, rfl⟩, ?_⟩
              rw [hf]
              exact (by simp +decide (disch := first | assumption | (apply GH.ok_push; assumption) | exact cellV_int _ _ | exact cellV_bool _ | omega) only [go_sem, ↓reduceIte, Nat.reduceEqDiff, Nat.reduceAdd, Int.reduceToNat, he']; first | done | exact rfl)
            · have hs := lastRun_step c h0
              have hg2 := idx_w hud (i - 1) (by omega) ((i : Int) - 1) (by omega)
              have h0' : ¬ ((i : Int) = 0) := by omega
              have w1 : wrapF .i64 ((i : Int) - 1) = (i : Int) - 1 := wr64 (by omega) (by omega)
              by_cases cx : u[i] = u[i - 1]
              · have cc : (48 + (u[i] : Int)) = 48 + (u[i - 1] : Int) := by omega
                rw [if_pos cx] at hs
                have w2 : wrapF .i64 ((lastRun (u.take i) : Nat) + 1 : Int) = (lastRun (u.take (i + 1)) : Nat) := by rw [hs, wr64 (by omega) (by omega)]; omega
                have w3 : ¬ (3 < ((lastRun (u.take (i + 1)) : Nat) : Int)) := by omega
                simp +decide (disch := first | assumption | (apply GH.ok_push; assumption) | exact cellV_int _ _ | exact cellV_bool _ | omega) only [go_sem, ↓reduceIte, Nat.reduceEqDiff, Nat.reduceAdd, Int.reduceToNat, he, husz, c', hg, hg2, h0', w1, w2, w3, cc]
                refine ih (u.length - (i + 1)) _ _ _ (by omega) ⟨by omega, i + 1, ⟨by omega, rfl⟩, (by simp +decide (disch := first | assumption | (apply GH.ok_push; assumption) | exact cellV_int _ _ | exact cellV_bool _ | omega) only [go_sem, ↓reduceIte, Nat.reduceEqDiff, Nat.reduceAdd, Int.reduceToNat, he]; first | done | exact rfl)⟩
              · have cc : ¬ ((48 + (u[i] : Int)) = 48 + (u[i - 1] : Int)) := by omega
                rw [if_neg cx] at hs
                simp +decide (disch := first | assumption | (apply GH.ok_push; assumption) | exact cellV_int _ _ | exact cellV_bool _ | omega) only [go_sem, ↓reduceIte, Nat.reduceEqDiff, Nat.reduceAdd, Int.reduceToNat, he, husz, c', hg, hg2, h0', w1, cc]
                refine ih (u.length - (i + 1)) _ _ _ (by omega) ⟨by omega, i + 1, ⟨by omega, rfl⟩, ?_⟩
                rw [hs]
                exact (by simp +decide (disch := first | assumption | (apply GH.ok_push; assumption) | exact cellV_int _ _ | exact cellV_bool _ | omega) only [go_sem, ↓reduceIte, Nat.reduceEqDiff, Nat.reduceAdd, Int.reduceToNat, he]; first | done | exact rfl)
          · have hie : i = u.length := by omega
            subst hie
            simp +decide (disch := first | assumption | (apply GH.ok_push; assumption) | exact cellV_int _ _ | exact cellV_bool _ | omega) only [go_sem, ↓reduceIte, Nat.reduceEqDiff, Nat.reduceAdd, Int.reduceToNat, he, husz]
            exact out _ _ _ ⟨hlo, (by simp +decide (disch := first | assumption | (apply GH.ok_push; assumption) | exact cellV_int _ _ | exact cellV_bool _ | omega) only [go_sem, ↓reduceIte, Nat.reduceEqDiff, Nat.reduceAdd, Int.reduceToNat, he]; first | done | exact rfl)⟩
      · rw [saidV_no sy]
        simp +decide (disch := first | assumption | (apply GH.ok_push; assumption) | exact cellV_int _ _ | exact cellV_bool _ | omega) only [go_sem, ↓reduceIte, Nat.reduceEqDiff, Nat.reduceAdd, Int.reduceToNat]
        refine CallD.calm (hX.alive _) ?_
        rintro v g4 hx4 ⟨rfl, rfl⟩
        simp +decide (disch := first | assumption | (apply GH.ok_push; assumption) | exact cellV_int _ _ | exact cellV_bool _ | omega) only [go_sem, ↓reduceIte, Nat.reduceEqDiff, Nat.reduceAdd, Int.reduceToNat]
        intro hx
        exact ⟨by first | exact Nat.le_refl _ | omega, rfl⟩
    · have hz' : ¬ (werr s = 0) := hz
      simp +decide (disch := first | assumption | (apply GH.ok_push; assumption) | exact cellV_int _ _ | exact cellV_bool _ | omega) only [go_sem, ↓reduceIte, Nat.reduceEqDiff, Nat.reduceAdd, Int.reduceToNat, hz']
      refine CallD.calm (hX.alive _) ?_
      rintro v g3 hx3 ⟨rfl, rfl⟩
      simp +decide (disch := first | assumption | (apply GH.ok_push; assumption) | exact cellV_int _ _ | exact cellV_bool _ | omega) only [go_sem, ↓reduceIte, Nat.reduceEqDiff, Nat.reduceAdd, Int.reduceToNat]
      intro hx
      exact ⟨Nat.le_refl _, rfl⟩
end Go.Proofs.Ytgnnhenbmnopaaa
namespace Go.Proofs.Ytgnnhenbmnopaaa
open Go.ChangeShapes Go.WideShapes Go.ChangeAt Go.RowKit
set_option linter.unusedVariables false
set_option maxRecDepth 100000
open Go.Ds in
theorem aloudRuns_calls (s0 : ByteArray) (w : World) :
    Calls Try.prog 9 #[.string s0] w fun e w' => e = .returned (.bool true) ∧ RowKit.Below w.heap.size w w' :=
  Rets.calls X0_orac mixedO (args := [.string s0]) rfl (X0_free (by decide) _ _) rfl ((runsLaw_rets X0_ok s0 GH.zero).mono fun _ _ _ _ h => h.2) w
namespace aloudRuns
set_option maxRecDepth 100000 in
theorem lifted (os : Os) (started : os.Started) (H : Type) (enc : TypeId × Value → H) :
    ReturnsInHanded {} Try.checked os 9 .any (Rows.aloudRunsSpec.pre6 enc Try.prog Try.f9 Rows.aloudRunsRow.domain false) (Rows.aloudRunsSpec.post enc Try.prog Try.f9 false true false false) := by
  refine returnsInHanded_of_change (C := Try.checked) ownNone started (by kernel_rfl) Try.func9
    (ChangeSpec.witness6 (enc := enc) (C := Try.checked) false ⟨#[], #[.string ⟨#[]⟩], []⟩ 8 (by kernel_rfl) (by kernel_rfl) (by kernel_rfl) (by kernel_rfl)) ?_
  intro W base args ds gs before hval0 hW hcnd _
  have hval : ∀ (j : Nat) t v, Try.f9.params[j]? = some t → args[j]? = some v → Value.okWide Try.prog W .any base t v := hval0
  have hW' := hW
  obtain ⟨p, q, hA0, hV, rfl, hfz, hnd⟩ := hW
  have hA : DataW.TrodAll enc Try.prog W 0 (fun _ => true) true Try.f9.params.toList args.toList ds p := hA0
  rw [Try.params9] at hA hval
  obtain ⟨v0, vs0, d0, ds0, p0, q0, hargs, rfl, rfl, h0, r0⟩ := trodAll_cons hA
  obtain ⟨rfl, rfl, rfl⟩ := trodAll_nil r0
  obtain rfl : args = #[v0] := by cases args; simp_all
  obtain ⟨rfl, rfl⟩ := trodVars_none hV
  have k0 := h0
  have lt0 : ∀ x ∈ p0, x.block < W.heap.size := by obtain ⟨m, hm⟩ := k0; exact DataW.trod_lt m _ _ _ hm
  obtain ⟨s0, rfl, rfl, rfl, ls0⟩ := Go.ChangeMaps.open_string Try.underlying9 (hval 0 9 v0 rfl rfl) h0
  clear hA0 hval0
  refine (aloudRuns_calls s0 W).mono fun e W' ⟨he, bel⟩ => ?_
  subst he
  exact ⟨_, rfl, _, _, _, [], _, [], hW', trodAll_mk1 (shut_bool Try.underlying4 _), (trodAll_cons_mk (Below.trod laidOut (by kernel_rfl) (of_decide_eq_true (by kernel_rfl)) k0 bel lt0) trodAll_mk0), rfl, bel.frame _, fun h => by cases h⟩
theorem over : Rows.aloudRunsRow.holds Try.pinned (OpenSpec.ofChange Rows.aloudRunsSpec) :=
  OpenClaim.holds_of_wide 9 Try.f9 rfl rfl rfl rfl rfl rfl rfl ⟨rfl, rfl, rfl, rfl, rfl⟩ rfl rfl rfl rfl rfl (by kernel_rfl) Try.func9 (by kernel_rfl)
    (of_decide_eq_true (by kernel_rfl)) (by unfold Func.isWrapper; first | (rw [if_pos (by decide +kernel)]; kernel_rfl) | (rw [if_neg (by decide +kernel)]; exact ⟨rfl, rfl⟩))
    (fun os started H enc _ => lifted os started H enc)
/-- The statement. -/
theorem proved : Rows.AloudRunsSaid := over
#print axioms proved
end aloudRuns
end Go.Proofs.Ytgnnhenbmnopaaa
