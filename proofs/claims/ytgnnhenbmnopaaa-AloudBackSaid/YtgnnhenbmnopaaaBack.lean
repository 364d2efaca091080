/- the law Back: from a word and back -/
import Derived.Test.YtgnnhenbmnopaaaK5
import Derived.Test.YtgnnhenbmnopaaaK7
import Derived.Test.YtgnnhenbmnopaaaKa
import Derived.Test.YtgnnhenbmnopaaaK3
import Derived.Test.YtgnnhenbmnopaaaKp
set_option linter.all false
set_option linter.unusedSimpArgs false
set_option linter.unnecessarySimpa false
set_option linter.unusedVariables false
set_option linter.unusedSectionVars false
set_option maxRecDepth 100000
set_option maxHeartbeats 8000000
set_option linter.unusedSimpArgs false
set_option linter.unusedVariables false
namespace Go.Proofs.Ytgnnhenbmnopaaa
open Go.Ds Go.Aw
theorem few_rets {X : Caller} (hX : Xfr X) (a b : ByteArray) (g : GH) : Rets Try.prog X 16 [.string a, .string b] g (fun v g' lo => g.next ≤ lo ∧ v = .bool (decide (a.size ≤ 1000) && decide (b.size ≤ 1000)) ∧ g' = g) := by
  refine Rets.run hX.pres p16 (hX.free 16 (by decide) _ _) rfl fun ho => ?_
  by_cases h1 : a.size ≤ 1000
  · by_cases h2 : b.size ≤ 1000
    · simp +decide (disch := first | assumption | (apply GH.ok_push; assumption) | exact cellV_int _ _ | exact cellV_bool _ | omega) only [go_sem, ↓reduceIte, Nat.reduceEqDiff, Nat.reduceAdd, Int.reduceToNat, h1, h2]
      intro hx
      exact ⟨Nat.le_refl _, by simp [h1, h2], rfl⟩
    · simp +decide (disch := first | assumption | (apply GH.ok_push; assumption) | exact cellV_int _ _ | exact cellV_bool _ | omega) only [go_sem, ↓reduceIte, Nat.reduceEqDiff, Nat.reduceAdd, Int.reduceToNat, h1, h2]
      intro hx
      exact ⟨Nat.le_refl _, by simp [h1, h2], rfl⟩
  · simp +decide (disch := first | assumption | (apply GH.ok_push; assumption) | exact cellV_int _ _ | exact cellV_bool _ | omega) only [go_sem, ↓reduceIte, Nat.reduceEqDiff, Nat.reduceAdd, Int.reduceToNat, h1]
    intro hx
    exact ⟨Nat.le_refl _, by simp [h1], rfl⟩
theorem sayV_form (s : ByteArray) : ∃ a n, sayV s = .tuple #[.string a, .int .i64 n] := by
  unfold sayV
  split <;> exact ⟨_, _, rfl⟩
theorem beforeV_form (s : ByteArray) : ∃ a n, beforeV s = .tuple #[.string a, .int .i64 n] := by
  unfold beforeV
  split
  · split <;> exact ⟨_, _, rfl⟩
  · exact ⟨_, _, rfl⟩
theorem ageV_form (s : ByteArray) : ∃ a n, ageV s = .tuple #[.int .i64 a, .int .i64 n] := by
  unfold ageV
  split
  · split <;> exact ⟨_, _, rfl⟩
  · exact ⟨_, _, rfl⟩
theorem saysLaw_rets {X : Caller} (hX : Xok X) (s : ByteArray) (g : GH) : Rets Try.prog X 5 [.string s] g (fun v g' lo => g.next ≤ lo ∧ v = .bool true) := by
  refine Rets.run hX.pres p5 (hX.free 5 (by decide) _ _) rfl fun ho => ?_
  simp +decide (disch := first | assumption | (apply GH.ok_push; assumption) | exact cellV_int _ _ | exact cellV_bool _ | omega) only [go_sem, ↓reduceIte, Nat.reduceEqDiff, Nat.reduceAdd, Int.reduceToNat]
  refine CallD.calm (few_rets hX.toXfr _ _ _) ?_
  rintro v g1 hx1 ⟨rfl, rfl⟩
  cases q : (decide (s.size ≤ 1000) && decide ((⟨#[]⟩ : ByteArray).size ≤ 1000)) with
  | false =>
    simp +decide (disch := first | assumption | (apply GH.ok_push; assumption) | exact cellV_int _ _ | exact cellV_bool _ | omega) only [go_sem, ↓reduceIte, Nat.reduceEqDiff, Nat.reduceAdd, Int.reduceToNat]
    refine CallD.calm (hX.alive _) ?_
    rintro v g2 hx2 ⟨rfl, rfl⟩
    simp +decide (disch := first | assumption | (apply GH.ok_push; assumption) | exact cellV_int _ _ | exact cellV_bool _ | omega) only [go_sem, ↓reduceIte, Nat.reduceEqDiff, Nat.reduceAdd, Int.reduceToNat]
    intro hx
    exact ⟨Nat.le_refl _, rfl⟩
  | true =>
    simp +decide (disch := first | assumption | (apply GH.ok_push; assumption) | exact cellV_int _ _ | exact cellV_bool _ | omega) only [go_sem, ↓reduceIte, Nat.reduceEqDiff, Nat.reduceAdd, Int.reduceToNat]
    obtain ⟨a1, n1, f1⟩ := sayV_form s
    obtain ⟨a2, n2, f2⟩ := beforeV_form s
    obtain ⟨a3, n3, f3⟩ := ageV_form s
    refine CallD.calm (say_rets hX s _) ?_
    rintro v g2 hx2 rfl
    have hn2 := hx2.next
    rw [f1]
    simp +decide (disch := first | assumption | (apply GH.ok_push; assumption) | exact cellV_int _ _ | exact cellV_bool _ | omega) only [go_sem, ↓reduceIte, Nat.reduceEqDiff, Nat.reduceAdd, Int.reduceToNat]
    refine CallD.calm (refSay_rets hX s _) ?_
    rintro v g3 hx3 rfl
    have hn3 := hx3.next
    rw [f1]
    simp +decide (disch := first | assumption | (apply GH.ok_push; assumption) | exact cellV_int _ _ | exact cellV_bool _ | omega) only [go_sem, ↓reduceIte, Nat.reduceEqDiff, Nat.reduceAdd, Int.reduceToNat]
    refine CallD.calm (beforeP_rets hX s _) ?_
    rintro v g4 hx4 rfl
    have hn4 := hx4.next
    rw [f2]
    simp +decide (disch := first | assumption | (apply GH.ok_push; assumption) | exact cellV_int _ _ | exact cellV_bool _ | omega) only [go_sem, ↓reduceIte, Nat.reduceEqDiff, Nat.reduceAdd, Int.reduceToNat]
    refine CallD.calm (refBefore_rets hX s _) ?_
    rintro v g5 hx5 rfl
    have hn5 := hx5.next
    rw [f2]
    simp +decide (disch := first | assumption | (apply GH.ok_push; assumption) | exact cellV_int _ _ | exact cellV_bool _ | omega) only [go_sem, ↓reduceIte, Nat.reduceEqDiff, Nat.reduceAdd, Int.reduceToNat]
    refine CallD.calm (age_rets hX s _) ?_
    rintro v g6 hx6 rfl
    have hn6 := hx6.next
    rw [f3]
    simp +decide (disch := first | assumption | (apply GH.ok_push; assumption) | exact cellV_int _ _ | exact cellV_bool _ | omega) only [go_sem, ↓reduceIte, Nat.reduceEqDiff, Nat.reduceAdd, Int.reduceToNat]
    refine CallD.calm (refAge_rets hX s _) ?_
    rintro v g7 hx7 rfl
    have hn7 := hx7.next
    rw [f3]
    simp +decide (disch := first | assumption | (apply GH.ok_push; assumption) | exact cellV_int _ _ | exact cellV_bool _ | omega) only [go_sem, ↓reduceIte, Nat.reduceEqDiff, Nat.reduceAdd, Int.reduceToNat]
    refine CallD.calm (hX.alive _) ?_
    rintro v g8 hx8 ⟨rfl, rfl⟩
    simp +decide (disch := first | assumption | (apply GH.ok_push; assumption) | exact cellV_int _ _ | exact cellV_bool _ | omega) only [go_sem, ↓reduceIte, Nat.reduceEqDiff, Nat.reduceAdd, Int.reduceToNat]
    intro hx
    exact ⟨by first | exact Nat.le_refl _ | omega, rfl⟩
end Go.Proofs.Ytgnnhenbmnopaaa
set_option maxRecDepth 100000
set_option maxHeartbeats 8000000
set_option linter.unusedSimpArgs false
set_option linter.unusedVariables false
namespace Go.Proofs.Ytgnnhenbmnopaaa
open Go.Ds Go.Aw
theorem few_word {ds : List Nat} (h : Wd ds) : (decide ((Try.txt ds).size ≤ 1000) && decide ((⟨#[]⟩ : ByteArray).size ≤ 1000)) = true := by
  have := h.len
  have h0 : (⟨#[]⟩ : ByteArray).size = 0 := rfl
  rw [Try.txt_size, h0, decide_eq_true (by omega)]
  rfl
theorem aErr_nat {k : Nat} (hk : k ≤ 40) {ds : List Nat} (h : Wd ds) : aErr (k : Int) (Try.txt ds) = derr k ds := by
  rw [aErr_word h, dErr_days (by unfold daysE; rw [if_neg (by omega)])]
  rfl
theorem daysV_word {k : Nat} (hk : k ≤ 40) {ds : List Nat} (h : Wd ds) : daysV (k : Int) (Try.txt ds) = if derr k ds = 0 then .tuple #[.string (Try.txt (wd k ds)), .int .i64 0] else .tuple #[.string ⟨#[]⟩, .int .i64 (derr k ds)] := by
  unfold daysV
  rw [aErr_nat hk h, digs_txt h.dig]
  rfl
theorem wd_dig0 {ds : List Nat} (h : Wd ds) {k : Nat} (hk : derr k ds = 0) : Dig (wd k ds) := wd_dig h.dig (derr_zero.1 hk)
theorem eqB_same (a : Bool) : eqBF false (.bool a) (.bool a) = some (.bool true) := by cases a <;> rfl
theorem conv_u8 (m k : Nat) (hk : 0 < k) (h : k < 256) : convF .i64 (.int .u8 ((m : Int).tmod (k : Int))) = some (.int .i64 ((m % k : Nat) : Int)) := by
  have e : ((m : Int).tmod (k : Int)) = ((m % k : Nat) : Int) := (Int.ofNat_tmod m k).symm
  have := Nat.mod_lt m hk
  rw [e]
  show some (Value.int .i64 (wrapF .i64 _)) = _
  rw [wr64 (by omega) (by omega)]
theorem Wd.say {ds : List Nat} (h : Wd ds) (hs : Sayable ds) (hl : (Aw.say ds).length ≤ 200) : Wd (Aw.say ds) := ⟨say_dig h.dig hs, say_ne h.ne, hl⟩
/-- No word but 22 comes again. -/
theorem neverLaw_rets {X : Caller} (hX : Xok X) (s : ByteArray) (n : Int) (hn : 0 ≤ n) (hn2 : n < 256) (g : GH) : Rets Try.prog X 13 [.string s, .int .u8 n] g (fun v g' lo => g.next ≤ lo ∧ v = .bool true) := by
  refine Rets.run hX.pres p13 (hX.free 13 (by decide) _ _) rfl fun ho => ?_
  simp +decide (disch := first | assumption | (apply GH.ok_push; assumption) | exact cellV_int _ _ | exact cellV_bool _ | omega) only [go_sem, ↓reduceIte, Nat.reduceEqDiff, Nat.reduceAdd, Int.reduceToNat]
  refine CallD.calm (few_rets hX.toXfr _ _ _) ?_
  rintro v g1 hx1 ⟨rfl, rfl⟩
  cases q : (decide (s.size ≤ 1000) && decide ((⟨#[]⟩ : ByteArray).size ≤ 1000)) with
  | false =>
    simp +decide (disch := first | assumption | (apply GH.ok_push; assumption) | exact cellV_int _ _ | exact cellV_bool _ | omega) only [go_sem, ↓reduceIte, Nat.reduceEqDiff, Nat.reduceAdd, Int.reduceToNat]
    refine CallD.calm (hX.alive _) ?_
    rintro v g2 hx2 ⟨rfl, rfl⟩
    simp +decide (disch := first | assumption | (apply GH.ok_push; assumption) | exact cellV_int _ _ | exact cellV_bool _ | omega) only [go_sem, ↓reduceIte, Nat.reduceEqDiff, Nat.reduceAdd, Int.reduceToNat]
    intro hx
    exact ⟨Nat.le_refl _, rfl⟩
  | true =>
    simp +decide (disch := first | assumption | (apply GH.ok_push; assumption) | exact cellV_int _ _ | exact cellV_bool _ | omega) only [go_sem, ↓reduceIte, Nat.reduceEqDiff, Nat.reduceAdd, Int.reduceToNat]
    refine CallD.calm (refWord_rets hX.toXfr s _) ?_
    rintro v g2 hx2 ⟨rfl, rfl⟩
    by_cases hz : werr s = 0
    · obtain ⟨ds, hw, rfl⟩ := werr_word hz
      obtain ⟨m, rfl⟩ : ∃ m : Nat, n = m := ⟨n.toNat, by omega⟩
      have hcv := conv_u8 m 20 (by omega) (by omega)
      have hm := Nat.mod_lt m (show 0 < 20 by omega)
      obtain ⟨k, hk⟩ : ∃ k : Nat, k = 1 + m % 20 := ⟨_, rfl⟩
      have hkc : (1 + ((m % 20 : Nat) : Int)) = (k : Int) := by omega
      have hcv' : convF .i64 (.int .u8 ((m : Int).tmod 20)) = some (.int .i64 ((m % 20 : Nat) : Int)) := hcv
      simp +decide (disch := first | assumption | (apply GH.ok_push; assumption) | exact cellV_int _ _ | exact cellV_bool _ | omega) only [go_sem, ↓reduceIte, Nat.reduceEqDiff, Nat.reduceAdd, Int.reduceToNat, hz, hcv', hkc]
      refine CallD.calm (days_rets hX (Try.txt ds) k _) ?_
      rintro v g3 hx3 rfl
      have hn3 := hx3.next
      rw [daysV_word (by omega) hw]
      have h22 := is22 hw.dig
      by_cases hE : derr k ds = 0
      · rw [if_pos hE]
        have hdk := wd_dig0 hw hE
        by_cases c : ds = [2, 2]
        · have e1 : decide (Try.txt (wd k ds) = Try.txt ds) = true := decide_eq_true (by rw [c, wd_22])
          have e2 : decide (Try.txt ds = (⟨#[50, 50]⟩ : ByteArray)) = true := decide_eq_true (h22.2 c)
          have e3 := eqB_same true
          simp +decide (disch := first | assumption | (apply GH.ok_push; assumption) | exact cellV_int _ _ | exact cellV_bool _ | omega) only [go_sem, ↓reduceIte, Nat.reduceEqDiff, Nat.reduceAdd, Int.reduceToNat, e1, e2, e3]
          refine CallD.calm (hX.alive _) ?_
          rintro v g4 hx4 ⟨rfl, rfl⟩
          simp +decide (disch := first | assumption | (apply GH.ok_push; assumption) | exact cellV_int _ _ | exact cellV_bool _ | omega) only [go_sem, ↓reduceIte, Nat.reduceEqDiff, Nat.reduceAdd, Int.reduceToNat]
          intro hx
          exact ⟨by first | exact Nat.le_refl _ | omega, rfl⟩
        · have e1 : decide (Try.txt (wd k ds) = Try.txt ds) = false := decide_eq_false (fun z => never hw.dig hw.ne c (by omega) ((txt_inj hdk hw.dig).1 z))
          have e2 : decide (Try.txt ds = (⟨#[50, 50]⟩ : ByteArray)) = false := decide_eq_false (fun z => c (h22.1 z))
          have e3 := eqB_same false
          simp +decide (disch := first | assumption | (apply GH.ok_push; assumption) | exact cellV_int _ _ | exact cellV_bool _ | omega) only [go_sem, ↓reduceIte, Nat.reduceEqDiff, Nat.reduceAdd, Int.reduceToNat, e1, e2, e3]
          refine CallD.calm (hX.alive _) ?_
          rintro v g4 hx4 ⟨rfl, rfl⟩
          simp +decide (disch := first | assumption | (apply GH.ok_push; assumption) | exact cellV_int _ _ | exact cellV_bool _ | omega) only [go_sem, ↓reduceIte, Nat.reduceEqDiff, Nat.reduceAdd, Int.reduceToNat]
          intro hx
          exact ⟨by first | exact Nat.le_refl _ | omega, rfl⟩
      · rw [if_neg hE]
        have c : ds ≠ [2, 2] := fun z => hE (by rw [z]; exact derr_22 k)
        have e2 : decide (Try.txt ds = (⟨#[50, 50]⟩ : ByteArray)) = false := decide_eq_false (fun z => c (h22.1 z))
        rcases derr_vals k ds with z | z | z
        · exact absurd z hE
        · rw [z]
          simp +decide (disch := first | assumption | (apply GH.ok_push; assumption) | exact cellV_int _ _ | exact cellV_bool _ | omega) only [go_sem, ↓reduceIte, Nat.reduceEqDiff, Nat.reduceAdd, Int.reduceToNat, e2]
          refine CallD.calm (hX.alive _) ?_
          rintro v g4 hx4 ⟨rfl, rfl⟩
          simp +decide (disch := first | assumption | (apply GH.ok_push; assumption) | exact cellV_int _ _ | exact cellV_bool _ | omega) only [go_sem, ↓reduceIte, Nat.reduceEqDiff, Nat.reduceAdd, Int.reduceToNat]
          intro hx
          exact ⟨by first | exact Nat.le_refl _ | omega, rfl⟩
        · rw [z]
          simp +decide (disch := first | assumption | (apply GH.ok_push; assumption) | exact cellV_int _ _ | exact cellV_bool _ | omega) only [go_sem, ↓reduceIte, Nat.reduceEqDiff, Nat.reduceAdd, Int.reduceToNat, e2]
          refine CallD.calm (hX.alive _) ?_
          rintro v g4 hx4 ⟨rfl, rfl⟩
          simp +decide (disch := first | assumption | (apply GH.ok_push; assumption) | exact cellV_int _ _ | exact cellV_bool _ | omega) only [go_sem, ↓reduceIte, Nat.reduceEqDiff, Nat.reduceAdd, Int.reduceToNat]
          intro hx
          exact ⟨by first | exact Nat.le_refl _ | omega, rfl⟩
    · have hz' : ¬ (werr s = 0) := hz
      simp +decide (disch := first | assumption | (apply GH.ok_push; assumption) | exact cellV_int _ _ | exact cellV_bool _ | omega) only [go_sem, ↓reduceIte, Nat.reduceEqDiff, Nat.reduceAdd, Int.reduceToNat, hz']
      refine CallD.calm (hX.alive _) ?_
      rintro v g3 hx3 ⟨rfl, rfl⟩
      simp +decide (disch := first | assumption | (apply GH.ok_push; assumption) | exact cellV_int _ _ | exact cellV_bool _ | omega) only [go_sem, ↓reduceIte, Nat.reduceEqDiff, Nat.reduceAdd, Int.reduceToNat]
      intro hx
      exact ⟨Nat.le_refl _, rfl⟩
end Go.Proofs.Ytgnnhenbmnopaaa
set_option maxRecDepth 100000
set_option maxHeartbeats 8000000
set_option linter.unusedSimpArgs false
set_option linter.unusedVariables false
namespace Go.Proofs.Ytgnnhenbmnopaaa
open Go.Ds Go.Aw
theorem saidV_ok {ds : List Nat} (h : Sayable ds) : Try.saidV ds = .tuple #[.string (Try.txt (Aw.say ds)), .int .i64 0] := by
  unfold Try.saidV; rw [if_pos h, if_pos h]
theorem saidV_no {ds : List Nat} (h : ¬ Sayable ds) : Try.saidV ds = .tuple #[.string ⟨#[]⟩, .int .i64 4] := by
  unfold Try.saidV; rw [if_neg h, if_neg h]
/-- Ages go up and down by one. -/
theorem agesLaw_rets {X : Caller} (hX : Xok X) (s : ByteArray) (g : GH) : Rets Try.prog X 14 [.string s] g (fun v g' lo => g.next ≤ lo ∧ v = .bool true) := by
  refine Rets.run hX.pres p14 (hX.free 14 (by decide) _ _) rfl fun ho => ?_
  simp +decide (disch := first | assumption | (apply GH.ok_push; assumption) | exact cellV_int _ _ | exact cellV_bool _ | omega) only [go_sem, ↓reduceIte, Nat.reduceEqDiff, Nat.reduceAdd, Int.reduceToNat]
  refine CallD.calm (few_rets hX.toXfr _ _ _) ?_
  rintro v g1 hx1 ⟨rfl, rfl⟩
  cases q : (decide (s.size ≤ 1000) && decide ((⟨#[]⟩ : ByteArray).size ≤ 1000)) with
  | false =>
    simp +decide (disch := first | assumption | (apply GH.ok_push; assumption) | exact cellV_int _ _ | exact cellV_bool _ | omega) only [go_sem, ↓reduceIte, Nat.reduceEqDiff, Nat.reduceAdd, Int.reduceToNat]
    refine CallD.calm (hX.alive _) ?_
    rintro v g2 hx2 ⟨rfl, rfl⟩
    simp +decide (disch := first | assumption | (apply GH.ok_push; assumption) | exact cellV_int _ _ | exact cellV_bool _ | omega) only [go_sem, ↓reduceIte, Nat.reduceEqDiff, Nat.reduceAdd, Int.reduceToNat]
    intro hx
    exact ⟨Nat.le_refl _, rfl⟩
  | true =>
    simp +decide (disch := first | assumption | (apply GH.ok_push; assumption) | exact cellV_int _ _ | exact cellV_bool _ | omega) only [go_sem, ↓reduceIte, Nat.reduceEqDiff, Nat.reduceAdd, Int.reduceToNat]
    refine CallD.calm (refWord_rets hX.toXfr s _) ?_
    rintro v g2 hx2 ⟨rfl, rfl⟩
    by_cases hz : werr s = 0
    · obtain ⟨ds, hw, rfl⟩ := werr_word hz
      have h22 := is22 hw.dig
      have hwl := hw.len
      simp +decide (disch := first | assumption | (apply GH.ok_push; assumption) | exact cellV_int _ _ | exact cellV_bool _ | omega) only [go_sem, ↓reduceIte, Nat.reduceEqDiff, Nat.reduceAdd, Int.reduceToNat, hz]
      refine CallD.calm (age_rets hX (Try.txt ds) _) ?_
      rintro v g3 hx3 rfl
      have hn3 := hx3.next
      by_cases c : ds = [2, 2]
      · have e2 : decide (Try.txt ds = (⟨#[50, 50]⟩ : ByteArray)) = true := decide_eq_true (h22.2 c)
        rw [ageV_22 hw c]
        simp +decide (disch := first | assumption | (apply GH.ok_push; assumption) | exact cellV_int _ _ | exact cellV_bool _ | omega) only [go_sem, ↓reduceIte, Nat.reduceEqDiff, Nat.reduceAdd, Int.reduceToNat, e2]
        refine CallD.calm (hX.alive _) ?_
        rintro v g4 hx4 ⟨rfl, rfl⟩
        simp +decide (disch := first | assumption | (apply GH.ok_push; assumption) | exact cellV_int _ _ | exact cellV_bool _ | omega) only [go_sem, ↓reduceIte, Nat.reduceEqDiff, Nat.reduceAdd, Int.reduceToNat]
        intro hx
        exact ⟨by first | exact Nat.le_refl _ | omega, rfl⟩
      · have e2 : decide (Try.txt ds = (⟨#[50, 50]⟩ : ByteArray)) = false := decide_eq_false (fun z => c (h22.1 z))
        obtain ⟨m, hm, hch⟩ := chain_any hw.dig hw.ne c
        rw [ageV_n hw c hch]
        have hm0 : ¬ ((m : Int) < 0) := by omega
        simp +decide (disch := first | assumption | (apply GH.ok_push; assumption) | exact cellV_int _ _ | exact cellV_bool _ | omega) only [go_sem, ↓reduceIte, Nat.reduceEqDiff, Nat.reduceAdd, Int.reduceToNat, e2]
        refine CallD.calm (beforeP_rets hX _ _) ?_
        rintro v g4 hx4 rfl
        have hn4 := hx4.next
        rw [beforeV_word hw]
        cases hh : heard ds with
        | some v =>
          obtain ⟨k, rfl, hk⟩ : ∃ k, m = k + 1 ∧ Chain v k := by
            cases m with
            | zero => rw [show heard ds = none from hch] at hh; cases hh
            | succ k =>
              obtain ⟨u, hu, hk⟩ := hch
              rw [hh] at hu; cases hu
              exact ⟨k, rfl, hk⟩
          have hp0 : decide ((((k + 1 : Nat) : Int)) > 0) = true := decide_eq_true (by omega)
          have e3 := eqB_same true
          have vsz := Try.txt_size v
          by_cases vl : v.length ≤ 200
          · have d1 : ((Try.txt v).size : Int) ≤ 200 := by omega
            have hwv : Wd v := ⟨heard_dig hw.dig hh, heard_ne hw.dig hw.ne hh, vl⟩
            simp +decide (disch := first | assumption | (apply GH.ok_push; assumption) | exact cellV_int _ _ | exact cellV_bool _ | omega) only [go_sem, ↓reduceIte, Nat.reduceEqDiff, Nat.reduceAdd, Int.reduceToNat, hm0, hp0, e3, d1]
            refine CallD.calm (age_rets hX _ _) ?_
            rintro v gC hxC rfl
            have hnC := hxC.next
            rw [ageV_n hwv (fun z => c (heard_22 (by rw [hh, z]))) hk]
            have wk : wrapF .i64 ((((k + 1 : Nat)) : Int) - 1) = ((k : Nat) : Int) := by rw [wr64 (by omega) (by omega)]; omega
            simp +decide (disch := first | assumption | (apply GH.ok_push; assumption) | exact cellV_int _ _ | exact cellV_bool _ | omega) only [go_sem, ↓reduceIte, Nat.reduceEqDiff, Nat.reduceAdd, Int.reduceToNat, wk]
            refine CallD.calm (say_rets hX _ _) ?_
            rintro v gA hxA rfl
            have hnA := hxA.next
            rw [sayV_word hw]
            by_cases sy : Sayable ds
            · rw [saidV_ok sy]
              have ssz := Try.txt_size (Aw.say ds)
              by_cases sl : (Aw.say ds).length ≤ 200
              · have d1 : ¬ ((200 : Int) < ((Try.txt (Aw.say ds)).size : Int)) := by omega
                simp +decide (disch := first | assumption | (apply GH.ok_push; assumption) | exact cellV_int _ _ | exact cellV_bool _ | omega) only [go_sem, ↓reduceIte, Nat.reduceEqDiff, Nat.reduceAdd, Int.reduceToNat, d1]
                refine CallD.calm (age_rets hX _ _) ?_
                rintro v gB hxB rfl
                have hnB := hxB.next
                rw [ageV_n (hw.say sy sl) (say_not22 c) (show Chain (Aw.say ds) ((k + 1) + 1) from ⟨ds, say_heard ds, hch⟩)]
                have wq : wrapF .i64 ((((k + 1) : Nat) : Int) + 1) = ((((k + 1) + 1 : Nat)) : Int) := by rw [wr64 (by omega) (by omega)]; omega
                simp +decide (disch := first | assumption | (apply GH.ok_push; assumption) | exact cellV_int _ _ | exact cellV_bool _ | omega) only [go_sem, ↓reduceIte, Nat.reduceEqDiff, Nat.reduceAdd, Int.reduceToNat, wq]
                refine CallD.calm (hX.alive _) ?_
                rintro v gz hxz ⟨rfl, rfl⟩
                simp +decide (disch := first | assumption | (apply GH.ok_push; assumption) | exact cellV_int _ _ | exact cellV_bool _ | omega) only [go_sem, ↓reduceIte, Nat.reduceEqDiff, Nat.reduceAdd, Int.reduceToNat]
                intro hx
                exact ⟨by first | exact Nat.le_refl _ | omega, rfl⟩
              · have d1 : (200 : Int) < ((Try.txt (Aw.say ds)).size : Int) := by omega
                simp +decide (disch := first | assumption | (apply GH.ok_push; assumption) | exact cellV_int _ _ | exact cellV_bool _ | omega) only [go_sem, ↓reduceIte, Nat.reduceEqDiff, Nat.reduceAdd, Int.reduceToNat, d1]
                refine CallD.calm (hX.alive _) ?_
                rintro v gz hxz ⟨rfl, rfl⟩
                simp +decide (disch := first | assumption | (apply GH.ok_push; assumption) | exact cellV_int _ _ | exact cellV_bool _ | omega) only [go_sem, ↓reduceIte, Nat.reduceEqDiff, Nat.reduceAdd, Int.reduceToNat]
                intro hx
                exact ⟨by first | exact Nat.le_refl _ | omega, rfl⟩
            · rw [saidV_no sy]
              simp +decide (disch := first | assumption | (apply GH.ok_push; assumption) | exact cellV_int _ _ | exact cellV_bool _ | omega) only [go_sem, ↓reduceIte, Nat.reduceEqDiff, Nat.reduceAdd, Int.reduceToNat]
              refine CallD.calm (hX.alive _) ?_
              rintro v gz hxz ⟨rfl, rfl⟩
              simp +decide (disch := first | assumption | (apply GH.ok_push; assumption) | exact cellV_int _ _ | exact cellV_bool _ | omega) only [go_sem, ↓reduceIte, Nat.reduceEqDiff, Nat.reduceAdd, Int.reduceToNat]
              intro hx
              exact ⟨by first | exact Nat.le_refl _ | omega, rfl⟩
          · have d1 : ¬ (((Try.txt v).size : Int) ≤ 200) := by omega
            simp +decide (disch := first | assumption | (apply GH.ok_push; assumption) | exact cellV_int _ _ | exact cellV_bool _ | omega) only [go_sem, ↓reduceIte, Nat.reduceEqDiff, Nat.reduceAdd, Int.reduceToNat, hm0, hp0, e3, d1]
            refine CallD.calm (say_rets hX _ _) ?_
            rintro v gA hxA rfl
            have hnA := hxA.next
            rw [sayV_word hw]
            by_cases sy : Sayable ds
            · rw [saidV_ok sy]
              have ssz := Try.txt_size (Aw.say ds)
              by_cases sl : (Aw.say ds).length ≤ 200
              · have d1 : ¬ ((200 : Int) < ((Try.txt (Aw.say ds)).size : Int)) := by omega
                simp +decide (disch := first | assumption | (apply GH.ok_push; assumption) | exact cellV_int _ _ | exact cellV_bool _ | omega) only [go_sem, ↓reduceIte, Nat.reduceEqDiff, Nat.reduceAdd, Int.reduceToNat, d1]
                refine CallD.calm (age_rets hX _ _) ?_
                rintro v gB hxB rfl
                have hnB := hxB.next
                rw [ageV_n (hw.say sy sl) (say_not22 c) (show Chain (Aw.say ds) ((k + 1) + 1) from ⟨ds, say_heard ds, hch⟩)]
                have wq : wrapF .i64 ((((k + 1) : Nat) : Int) + 1) = ((((k + 1) + 1 : Nat)) : Int) := by rw [wr64 (by omega) (by omega)]; omega
                simp +decide (disch := first | assumption | (apply GH.ok_push; assumption) | exact cellV_int _ _ | exact cellV_bool _ | omega) only [go_sem, ↓reduceIte, Nat.reduceEqDiff, Nat.reduceAdd, Int.reduceToNat, wq]
                refine CallD.calm (hX.alive _) ?_
                rintro v gz hxz ⟨rfl, rfl⟩
                simp +decide (disch := first | assumption | (apply GH.ok_push; assumption) | exact cellV_int _ _ | exact cellV_bool _ | omega) only [go_sem, ↓reduceIte, Nat.reduceEqDiff, Nat.reduceAdd, Int.reduceToNat]
                intro hx
                exact ⟨by first | exact Nat.le_refl _ | omega, rfl⟩
              · have d1 : (200 : Int) < ((Try.txt (Aw.say ds)).size : Int) := by omega
                simp +decide (disch := first | assumption | (apply GH.ok_push; assumption) | exact cellV_int _ _ | exact cellV_bool _ | omega) only [go_sem, ↓reduceIte, Nat.reduceEqDiff, Nat.reduceAdd, Int.reduceToNat, d1]
                refine CallD.calm (hX.alive _) ?_
                rintro v gz hxz ⟨rfl, rfl⟩
                simp +decide (disch := first | assumption | (apply GH.ok_push; assumption) | exact cellV_int _ _ | exact cellV_bool _ | omega) only [go_sem, ↓reduceIte, Nat.reduceEqDiff, Nat.reduceAdd, Int.reduceToNat]
                intro hx
                exact ⟨by first | exact Nat.le_refl _ | omega, rfl⟩
            · rw [saidV_no sy]
              simp +decide (disch := first | assumption | (apply GH.ok_push; assumption) | exact cellV_int _ _ | exact cellV_bool _ | omega) only [go_sem, ↓reduceIte, Nat.reduceEqDiff, Nat.reduceAdd, Int.reduceToNat]
              refine CallD.calm (hX.alive _) ?_
              rintro v gz hxz ⟨rfl, rfl⟩
              simp +decide (disch := first | assumption | (apply GH.ok_push; assumption) | exact cellV_int _ _ | exact cellV_bool _ | omega) only [go_sem, ↓reduceIte, Nat.reduceEqDiff, Nat.reduceAdd, Int.reduceToNat]
              intro hx
              exact ⟨by first | exact Nat.le_refl _ | omega, rfl⟩
        | none =>
          obtain rfl : m = 0 := by
            cases m with
            | zero => rfl
            | succ k =>
              obtain ⟨u, hu, hk⟩ := hch
              rw [hh] at hu; cases hu
          have e3 := eqB_same false
          simp +decide (disch := first | assumption | (apply GH.ok_push; assumption) | exact cellV_int _ _ | exact cellV_bool _ | omega) only [go_sem, ↓reduceIte, Nat.reduceEqDiff, Nat.reduceAdd, Int.reduceToNat, hm0, e3]
          refine CallD.calm (say_rets hX _ _) ?_
          rintro v gA hxA rfl
          have hnA := hxA.next
          rw [sayV_word hw]
          by_cases sy : Sayable ds
          · rw [saidV_ok sy]
            have ssz := Try.txt_size (Aw.say ds)
            by_cases sl : (Aw.say ds).length ≤ 200
            · have d1 : ¬ ((200 : Int) < ((Try.txt (Aw.say ds)).size : Int)) := by omega
              simp +decide (disch := first | assumption | (apply GH.ok_push; assumption) | exact cellV_int _ _ | exact cellV_bool _ | omega) only [go_sem, ↓reduceIte, Nat.reduceEqDiff, Nat.reduceAdd, Int.reduceToNat, d1]
              refine CallD.calm (age_rets hX _ _) ?_
              rintro v gB hxB rfl
              have hnB := hxB.next
              rw [ageV_n (hw.say sy sl) (say_not22 c) (show Chain (Aw.say ds) (0 + 1) from ⟨ds, say_heard ds, hch⟩)]
              have wq : wrapF .i64 (((0 : Nat) : Int) + 1) = (((0 + 1 : Nat)) : Int) := by rw [wr64 (by omega) (by omega)]; omega
              simp +decide (disch := first | assumption | (apply GH.ok_push; assumption) | exact cellV_int _ _ | exact cellV_bool _ | omega) only [go_sem, ↓reduceIte, Nat.reduceEqDiff, Nat.reduceAdd, Int.reduceToNat, wq]
              refine CallD.calm (hX.alive _) ?_
              rintro v gz hxz ⟨rfl, rfl⟩
              simp +decide (disch := first | assumption | (apply GH.ok_push; assumption) | exact cellV_int _ _ | exact cellV_bool _ | omega) only [go_sem, ↓reduceIte, Nat.reduceEqDiff, Nat.reduceAdd, Int.reduceToNat]
              intro hx
              exact ⟨by first | exact Nat.le_refl _ | omega, rfl⟩
            · have d1 : (200 : Int) < ((Try.txt (Aw.say ds)).size : Int) := by omega
              simp +decide (disch := first | assumption | (apply GH.ok_push; assumption) | exact cellV_int _ _ | exact cellV_bool _ | omega) only [go_sem, ↓reduceIte, Nat.reduceEqDiff, Nat.reduceAdd, Int.reduceToNat, d1]
              refine CallD.calm (hX.alive _) ?_
              rintro v gz hxz ⟨rfl, rfl⟩
              simp +decide (disch := first | assumption | (apply GH.ok_push; assumption) | exact cellV_int _ _ | exact cellV_bool _ | omega) only [go_sem, ↓reduceIte, Nat.reduceEqDiff, Nat.reduceAdd, Int.reduceToNat]
              intro hx
              exact ⟨by first | exact Nat.le_refl _ | omega, rfl⟩
          · rw [saidV_no sy]
            simp +decide (disch := first | assumption | (apply GH.ok_push; assumption) | exact cellV_int _ _ | exact cellV_bool _ | omega) only [go_sem, ↓reduceIte, Nat.reduceEqDiff, Nat.reduceAdd, Int.reduceToNat]
            refine CallD.calm (hX.alive _) ?_
            rintro v gz hxz ⟨rfl, rfl⟩
            simp +decide (disch := first | assumption | (apply GH.ok_push; assumption) | exact cellV_int _ _ | exact cellV_bool _ | omega) only [go_sem, ↓reduceIte, Nat.reduceEqDiff, Nat.reduceAdd, Int.reduceToNat]
            intro hx
            exact ⟨by first | exact Nat.le_refl _ | omega, rfl⟩
    · have hz' : ¬ (werr s = 0) := hz
      simp +decide (disch := first | assumption | (apply GH.ok_push; assumption) | exact cellV_int _ _ | exact cellV_bool _ | omega) only [go_sem, ↓reduceIte, Nat.reduceEqDiff, Nat.reduceAdd, Int.reduceToNat, hz']
      refine CallD.calm (hX.alive _) ?_
      rintro v g3 hx3 ⟨rfl, rfl⟩
      simp +decide (disch := first | assumption | (apply GH.ok_push; assumption) | exact cellV_int _ _ | exact cellV_bool _ | omega) only [go_sem, ↓reduceIte, Nat.reduceEqDiff, Nat.reduceAdd, Int.reduceToNat]
      intro hx
      exact ⟨Nat.le_refl _, rfl⟩
end Go.Proofs.Ytgnnhenbmnopaaa
set_option maxRecDepth 100000
set_option linter.unusedVariables false
namespace Go.Proofs.Ytgnnhenbmnopaaa
open Go.Ds Go.Aw
theorem few_in (a b : ByteArray) (w : World) : Calls Try.prog 16 #[.string a, .string b] w fun e w' => e = .returned (.bool (decide (a.size ≤ 1000) && decide (b.size ≤ 1000))) ∧ RowKit.Below w.heap.size w w' :=
  have inst : Inhabited Bound := ⟨⟨0⟩⟩
  Rets.calls X0_orac mixedO (args := [.string a, .string b]) rfl (X0_free (by decide) _ _) rfl ((few_rets X0_ok.toXfr a b GH.zero).mono fun _ _ _ _ h => h.2.1) w
theorem word_in (s : ByteArray) (w : World) : Calls Try.prog 19 #[.string s] w fun e w' => e = .returned (.int .i64 (werr s)) ∧ RowKit.Below w.heap.size w w' :=
  have inst : Inhabited Bound := ⟨⟨0⟩⟩
  Rets.calls X0_orac mixedO (args := [.string s]) rfl (X0_free (by decide) _ _) rfl ((refWord_rets X0_ok.toXfr s GH.zero).mono fun _ _ _ _ h => h.2.1) w
theorem isWord_in (s : ByteArray) (w : World) : Calls Try.prog 18 #[.string s] w fun e w' => e = .returned (.bool (isW s)) ∧ RowKit.Below w.heap.size w w' :=
  have inst : Inhabited Bound := ⟨⟨0⟩⟩
  Rets.calls X0_orac mixedO (args := [.string s]) rfl (X0_free (by decide) _ _) rfl ((isWord_rets X0_ok.toXfr s GH.zero).mono fun _ _ _ _ h => h.2) w
theorem say_in (s : ByteArray) {v : Value} (hv : sayV s = v) (hp : plainC v = true) (w : World) : Calls Try.prog 27 #[.string s] w fun e w' => e = .returned v ∧ RowKit.Below w.heap.size w w' :=
  have inst : Inhabited Bound := ⟨⟨0⟩⟩
  Rets.calls X0_orac mixedO (args := [.string s]) rfl (X0_free (by decide) _ _) hp ((say_rets X0_ok s GH.zero).mono fun _ _ _ _ h => h.2.trans hv) w
theorem before_in (s : ByteArray) {v : Value} (hv : beforeV s = v) (hp : plainC v = true) (w : World) : Calls Try.prog 29 #[.string s] w fun e w' => e = .returned v ∧ RowKit.Below w.heap.size w w' :=
  have inst : Inhabited Bound := ⟨⟨0⟩⟩
  Rets.calls X0_orac mixedO (args := [.string s]) rfl (X0_free (by decide) _ _) hp ((beforeP_rets X0_ok s GH.zero).mono fun _ _ _ _ h => h.2.trans hv) w
theorem days_in (s : ByteArray) (n : Int) {v : Value} (hv : daysV n s = v) (hp : plainC v = true) (w : World) : Calls Try.prog 33 #[.string s, .int .i64 n] w fun e w' => e = .returned v ∧ RowKit.Below w.heap.size w w' :=
  have inst : Inhabited Bound := ⟨⟨0⟩⟩
  Rets.calls X0_orac mixedO (args := [.string s, .int .i64 n]) rfl (X0_free (by decide) _ _) hp ((days_rets X0_ok s n GH.zero).mono fun _ _ _ _ h => h.2.trans hv) w
theorem plainT (s : ByteArray) (n : Int) : plainC (.tuple #[.string s, .int .i64 n]) = true := rfl
end Go.Proofs.Ytgnnhenbmnopaaa
set_option maxRecDepth 100000
set_option maxHeartbeats 8000000
set_option linter.unusedSimpArgs false
set_option linter.unusedVariables false
namespace Go.Proofs.Ytgnnhenbmnopaaa
open Go.Ds Go.Aw
open Classical in
theorem apartV_ok {n : Nat} (hn : n ≤ 40) {l r : ByteArray} (h : apErr (n : Int) l r = 0) : ∃ a b, Wd a ∧ Wd b ∧ l = Try.txt a ∧ r = Try.txt b ∧ a.length + b.length ≤ 200 ∧ derr n a = 0 ∧ derr n b = 0 ∧ derr n (a ++ b) = 0 ∧ apartV (n : Int) l r = .tuple #[.bool (decide (ApartL a b n)), .int .i64 0] := by
  have h0 := h
  unfold apErr at h
  split at h
  · rename_i h1
    obtain ⟨a, b, ha, hb, rfl, rfl, hd, hl⟩ := apE_zero h1
    rw [digs_txt ha.dig, digs_txt hb.dig] at h
    have en : ((n : Int)).toNat = n := rfl
    rw [en] at h
    split at h
    · rename_i h2
      split at h
      · rename_i h3
        refine ⟨a, b, ha, hb, rfl, rfl, hl, h2, h3, h, ?_⟩
        unfold apartV
        rw [h0, digs_txt ha.dig, digs_txt hb.dig, en]
        congr 3
        simp
      · rename_i h3; exact absurd h h3
    · rename_i h2; exact absurd h h2
  · rename_i h1; exact absurd h h1
theorem countV_word {k : Nat} (hk : k ≤ 40) {ds : List Nat} (h : Wd ds) (h0 : derr k ds = 0) : countV (k : Int) (Try.txt ds) = .tuple #[.agg (cn3 (wd k ds)).toArray, .int .i64 0] := by
  unfold countV
  rw [aErr_nat hk h, if_pos h0, digs_txt h.dig]
  rfl
theorem cn3_app (a b : List Nat) : cn3 (a ++ b) = [.int .i64 ((a.count 1 + b.count 1 : Nat)), .int .i64 ((a.count 2 + b.count 2 : Nat)), .int .i64 ((a.count 3 + b.count 3 : Nat))] := by
  simp only [cn3, List.count_append]
open Classical in
theorem apartV_word {n : Nat} (hn : n ≤ 40) {a b : List Nat} (ha : Wd a) (hb : Wd b) (hl : a.length + b.length ≤ 200) (d1 : derr n a = 0) (d2 : derr n b = 0) (d3 : derr n (a ++ b) = 0) : apartV (n : Int) (Try.txt a) (Try.txt b) = .tuple #[.bool (decide (ApartL a b n)), .int .i64 0] := by
  have h1 : daysE (n : Int) = 0 := by unfold daysE; rw [if_neg (by omega)]
  have h0 : apE (n : Int) (Try.txt a) (Try.txt b) = 0 := by
    unfold apE
    rw [if_pos ha.werr, if_pos hb.werr, if_pos h1, Try.txt_size, Try.txt_size, if_neg (by omega)]
  have en : ((n : Int)).toNat = n := rfl
  have h2 : apErr (n : Int) (Try.txt a) (Try.txt b) = 0 := by
    unfold apErr
    rw [if_pos h0, digs_txt ha.dig, digs_txt hb.dig, en, if_pos d1, if_pos d2, d3]
  unfold apartV
  rw [h2, digs_txt ha.dig, digs_txt hb.dig, en]
  congr 3
  simp
theorem conv_byte {p : Nat} (h : p < 256) : convF .i64 (.int .u8 (p : Int)) = some (.int .i64 (p : Int)) := by
  show some (Value.int .i64 (wrapF .i64 _)) = _
  rw [wr64 (by omega) (by omega)]
open Classical in
/-- The laws of the counts. -/
theorem addedLaw_rets {X : Caller} (hX : Xok X) (l r : ByteArray) (n : Int) (hn : 0 ≤ n) (hn2 : n < 256) (w : Int) (hw : 0 ≤ w) (hw2 : w < 256) (g : GH) : Rets Try.prog X 15 [.string l, .string r, .int .u8 n, .int .u8 w] g (fun v g' lo => g.next ≤ lo ∧ v = .bool true) := by
  refine Rets.run hX.pres p15 (hX.free 15 (by decide) _ _) rfl fun ho => ?_
  simp +decide (disch := first | assumption | (apply GH.ok_push; assumption) | exact cellV_int _ _ | exact cellV_bool _ | omega) only [go_sem, ↓reduceIte, Nat.reduceEqDiff, Nat.reduceAdd, Int.reduceToNat]
  refine CallD.calm (few_rets hX.toXfr _ _ _) ?_
  rintro v g1 hx1 ⟨rfl, rfl⟩
  cases q : (decide (l.size ≤ 1000) && decide (r.size ≤ 1000)) with
  | false =>
    simp +decide (disch := first | assumption | (apply GH.ok_push; assumption) | exact cellV_int _ _ | exact cellV_bool _ | omega) only [go_sem, ↓reduceIte, Nat.reduceEqDiff, Nat.reduceAdd, Int.reduceToNat]
    refine CallD.calm (hX.alive _) ?_
    rintro v g2 hx2 ⟨rfl, rfl⟩
    simp +decide (disch := first | assumption | (apply GH.ok_push; assumption) | exact cellV_int _ _ | exact cellV_bool _ | omega) only [go_sem, ↓reduceIte, Nat.reduceEqDiff, Nat.reduceAdd, Int.reduceToNat]
    intro hx
    exact ⟨Nat.le_refl _, rfl⟩
  | true =>
    obtain ⟨m, rfl⟩ : ∃ m : Nat, n = m := ⟨n.toNat, by omega⟩
    obtain ⟨p, rfl⟩ : ∃ p : Nat, w = p := ⟨w.toNat, by omega⟩
    have hm := Nat.mod_lt m (show 0 < 20 by omega)
    obtain ⟨k, hk⟩ : ∃ k : Nat, k = m % 20 := ⟨_, rfl⟩
    have hcv : convF .i64 (.int .u8 ((m : Int).tmod 20)) = some (.int .i64 (k : Int)) := by rw [hk]; exact conv_u8 m 20 (by omega) (by omega)
    simp +decide (disch := first | assumption | (apply GH.ok_push; assumption) | exact cellV_int _ _ | exact cellV_bool _ | omega) only [go_sem, ↓reduceIte, Nat.reduceEqDiff, Nat.reduceAdd, Int.reduceToNat, hcv]
    refine CallD.calm (apart_rets hX l r k _) ?_
    rintro v g2 hx2 rfl
    have hn2 := hx2.next
    have hok2 := hx2.ok (hx1.ok ho)
    by_cases hE : apErr (k : Int) l r = 0
    · obtain ⟨a, b, ha, hb, rfl, rfl, hl, d1, d2, d3, hv⟩ := apartV_ok (by omega) hE
      rw [hv]
      by_cases hA : ApartL a b k
      · rw [decide_eq_true hA]
        simp +decide (disch := first | assumption | exact cellV_int _ _ | exact cellV_bool _ | omega | (simp only [GH.pn, GH.sn] <;> omega) | (with_reducible ((repeat (first | apply GH.ok_push | apply GH.ok_set)); assumption)) | ((try simp only [GH.push_hid, GH.set_hid]); first | assumption | (refine GH.vis ?_ ?_ <;> first | assumption | ((try simp only [GH.pn, GH.sn]) <;> omega)))) only [go_sem, ↓reduceIte, Nat.reduceEqDiff, Nat.reduceAdd, Int.reduceToNat, Int.reduceAdd, Int.reduceNeg, Int.reduceSub, Int.reduceMul, Int.reduceLT, Int.reduceLE, Int.reduceEq, ↓GH.gp_eq, ↓GH.gp_ne, ↓GH.gs_eq, ↓GH.gs_ne, GH.push_next, GH.set_next]
        refine CallD.calm (count_rets hX _ _ _) ?_
        rintro v g3 hx3 rfl
        have hn3 := hx3.next
        rw [countV_word (by omega) ha d1]
        have ho3 := hx3.ok hok2
        simp +decide (disch := first | assumption | exact cellV_int _ _ | exact cellV_bool _ | omega | (simp only [GH.pn, GH.sn] <;> omega) | (with_reducible ((repeat (first | apply GH.ok_push | apply GH.ok_set)); assumption)) | ((try simp only [GH.push_hid, GH.set_hid]); first | assumption | (refine GH.vis ?_ ?_ <;> first | assumption | ((try simp only [GH.pn, GH.sn]) <;> omega)))) only [go_sem, ↓reduceIte, Nat.reduceEqDiff, Nat.reduceAdd, Int.reduceToNat, Int.reduceAdd, Int.reduceNeg, Int.reduceSub, Int.reduceMul, Int.reduceLT, Int.reduceLE, Int.reduceEq, ↓GH.gp_eq, ↓GH.gp_ne, ↓GH.gs_eq, ↓GH.gs_ne, GH.push_next, GH.set_next]
        refine CallD.calm (count_rets hX _ _ _) ?_
        rintro v g4 hx4 rfl
        have hn4 := hx4.next
        simp only [GH.pn, GH.sn] at hn4
        have ho4 := hx4.ok (by with_reducible ((repeat (first | apply GH.ok_push | apply GH.ok_set)); assumption))
        have q4 : g4.get g3.next = cellsOb (cn3 (wd k a)) 38 := (hx4.kept.gets _ (by simp only [GH.pn, GH.sn]; omega)).trans (by simp (disch := first | assumption | exact cellV_int _ _ | exact cellV_bool _ | omega | (simp only [GH.pn, GH.sn] <;> omega) | (with_reducible ((repeat (first | apply GH.ok_push | apply GH.ok_set)); assumption)) | ((try simp only [GH.push_hid, GH.set_hid]); first | assumption | (refine GH.vis ?_ ?_ <;> first | assumption | ((try simp only [GH.pn, GH.sn]) <;> omega)))) only [↓GH.gp_eq, ↓GH.gp_ne, ↓GH.gs_eq, ↓GH.gs_ne, GH.push_next, GH.set_next]; first | done | exact rfl)
        rw [countV_word (by omega) hb d2]
        have hadd : strB .add (Try.txt a) (Try.txt b) = some (.string (Try.txt (a ++ b))) := by rw [str_add (by rw [Try.txt_size, Try.txt_size]; omega), txt_app]
        simp +decide (disch := first | assumption | exact cellV_int _ _ | exact cellV_bool _ | omega | (simp only [GH.pn, GH.sn] <;> omega) | (with_reducible ((repeat (first | apply GH.ok_push | apply GH.ok_set)); assumption)) | ((try simp only [GH.push_hid, GH.set_hid]); first | assumption | (refine GH.vis ?_ ?_ <;> first | assumption | ((try simp only [GH.pn, GH.sn]) <;> omega)))) only [go_sem, ↓reduceIte, Nat.reduceEqDiff, Nat.reduceAdd, Int.reduceToNat, Int.reduceAdd, Int.reduceNeg, Int.reduceSub, Int.reduceMul, Int.reduceLT, Int.reduceLE, Int.reduceEq, ↓GH.gp_eq, ↓GH.gp_ne, ↓GH.gs_eq, ↓GH.gs_ne, GH.push_next, GH.set_next, hadd]
        refine CallD.calm (count_rets hX _ _ _) ?_
        rintro v g5 hx5 rfl
        have hn5 := hx5.next
        simp only [GH.pn, GH.sn] at hn5
        have ho5 := hx5.ok (by with_reducible ((repeat (first | apply GH.ok_push | apply GH.ok_set)); assumption))
        have q5 : g5.get g3.next = cellsOb (cn3 (wd k a)) 38 := (hx5.kept.gets _ (by simp only [GH.pn, GH.sn]; omega)).trans (Eq.trans (by simp (disch := first | assumption | exact cellV_int _ _ | exact cellV_bool _ | omega | (simp only [GH.pn, GH.sn] <;> omega) | (with_reducible ((repeat (first | apply GH.ok_push | apply GH.ok_set)); assumption)) | ((try simp only [GH.push_hid, GH.set_hid]); first | assumption | (refine GH.vis ?_ ?_ <;> first | assumption | ((try simp only [GH.pn, GH.sn]) <;> omega)))) only [↓GH.gp_eq, ↓GH.gp_ne, ↓GH.gs_eq, ↓GH.gs_ne, GH.push_next, GH.set_next]; first | done | exact rfl) q4)
        have q6 : g5.get g4.next = cellsOb (cn3 (wd k b)) 38 := (hx5.kept.gets _ (by simp only [GH.pn, GH.sn]; omega)).trans (by simp (disch := first | assumption | exact cellV_int _ _ | exact cellV_bool _ | omega | (simp only [GH.pn, GH.sn] <;> omega) | (with_reducible ((repeat (first | apply GH.ok_push | apply GH.ok_set)); assumption)) | ((try simp only [GH.push_hid, GH.set_hid]); first | assumption | (refine GH.vis ?_ ?_ <;> first | assumption | ((try simp only [GH.pn, GH.sn]) <;> omega)))) only [↓GH.gp_eq, ↓GH.gp_ne, ↓GH.gs_eq, ↓GH.gs_ne, GH.push_next, GH.set_next]; first | done | exact rfl)
        rw [countV_word (by omega) (ha.app hb hl) d3, hA k (Nat.le_refl k), cn3_app]
        have la := wd_len ha.len (derr_zero.1 d1)
        have lb := wd_len hb.len (derr_zero.1 d2)
        obtain ⟨x1, x2, x3, hx⟩ : ∃ x1 x2 x3, x1 = (wd k a).count 1 ∧ x2 = (wd k a).count 2 ∧ x3 = (wd k a).count 3 := ⟨_, _, _, rfl, rfl, rfl⟩
        obtain ⟨y1, y2, y3, hy⟩ : ∃ x1 x2 x3, x1 = (wd k b).count 1 ∧ x2 = (wd k b).count 2 ∧ x3 = (wd k b).count 3 := ⟨_, _, _, rfl, rfl, rfl⟩
        have bx1 : x1 ≤ 100000 := by rw [hx.1]; exact Nat.le_trans List.count_le_length la
        have bx2 : x2 ≤ 100000 := by rw [hx.2.1]; exact Nat.le_trans List.count_le_length la
        have bx3 : x3 ≤ 100000 := by rw [hx.2.2]; exact Nat.le_trans List.count_le_length la
        have by1 : y1 ≤ 100000 := by rw [hy.1]; exact Nat.le_trans List.count_le_length lb
        have by2 : y2 ≤ 100000 := by rw [hy.2.1]; exact Nat.le_trans List.count_le_length lb
        have by3 : y3 ≤ 100000 := by rw [hy.2.2]; exact Nat.le_trans List.count_le_length lb
        rw [cn3, ← hx.1, ← hx.2.1, ← hx.2.2] at q5
        rw [cn3, ← hy.1, ← hy.2.1, ← hy.2.2] at q6
        rw [← hx.1, ← hx.2.1, ← hx.2.2, ← hy.1, ← hy.2.1, ← hy.2.2]
        have z1 : wrapF .i64 ((x1 : Int) + (y1 : Int)) = ((x1 + y1 : Nat) : Int) := by rw [wr64 (by omega) (by omega)]; omega
        have z2 : wrapF .i64 ((x2 : Int) + (y2 : Int)) = ((x2 + y2 : Nat) : Int) := by rw [wr64 (by omega) (by omega)]; omega
        have z3 : wrapF .i64 ((x3 : Int) + (y3 : Int)) = ((x3 + y3 : Nat) : Int) := by rw [wr64 (by omega) (by omega)]; omega
        simp +decide (disch := first | assumption | exact cellV_int _ _ | exact cellV_bool _ | omega | (simp only [GH.pn, GH.sn] <;> omega) | (with_reducible ((repeat (first | apply GH.ok_push | apply GH.ok_set)); assumption)) | ((try simp only [GH.push_hid, GH.set_hid]); first | assumption | (refine GH.vis ?_ ?_ <;> first | assumption | ((try simp only [GH.pn, GH.sn]) <;> omega)))) only [go_sem, ↓reduceIte, Nat.reduceEqDiff, Nat.reduceAdd, Int.reduceToNat, Int.reduceAdd, Int.reduceNeg, Int.reduceSub, Int.reduceMul, Int.reduceLT, Int.reduceLE, Int.reduceEq, ↓GH.gp_eq, ↓GH.gp_ne, ↓GH.gs_eq, ↓GH.gs_ne, GH.push_next, GH.set_next]
        refine Wk.loops (fun m e g' lo => g1.next ≤ lo ∧ ∃ i : Int, (0 ≤ i ∧ i ≤ 3 ∧ m = (3 - i).toNat) ∧ (g'.get g3.next = cellsOb [.int .i64 x1, .int .i64 x2, .int .i64 x3] 38 ∧ g'.get g4.next = cellsOb [.int .i64 y1, .int .i64 y2, .int .i64 y3] 38 ∧ g'.get g5.next = cellsOb [.int .i64 (x1 + y1 : Nat), .int .i64 (x2 + y2 : Nat), .int .i64 (x3 + y3 : Nat)] 38 ∧ g5.next < g'.next) ∧ (ev e (.s 12) = ptrTo g3.next ∧ ev e (.s 13) = ptrTo g4.next ∧ ev e (.s 15) = ptrTo g5.next ∧ ev e (.s 0) = .string (Try.txt a) ∧ ev e (.s 1) = .string (Try.txt b) ∧ ev e (.s 3) = .int .u8 p ∧ ev e (.s 9) = .int .i64 k ∧ ev e (.s 17) = .int .i64 i))
          (fun e g' lo => g1.next ≤ lo ∧ (ev e (.s 0) = .string (Try.txt a) ∧ ev e (.s 1) = .string (Try.txt b) ∧ ev e (.s 3) = .int .u8 p ∧ ev e (.s 9) = .int .i64 k)) (n := 3) ?_ ?_ ?_
        · refine ⟨by first | exact Nat.le_refl _ | omega, 0, ⟨by omega, by omega, rfl⟩, ⟨?_, ?_, ?_, ?_⟩, (by simp +decide (disch := first | assumption | (apply GH.ok_push; assumption) | exact cellV_int _ _ | exact cellV_bool _ | omega) only [go_sem, ↓reduceIte, Nat.reduceEqDiff, Nat.reduceAdd, Int.reduceToNat]; first | done | exact rfl)⟩
          · refine Eq.trans ?_ q5
            exact (by simp (disch := first | assumption | exact cellV_int _ _ | exact cellV_bool _ | omega | (simp only [GH.pn, GH.sn] <;> omega) | (with_reducible ((repeat (first | apply GH.ok_push | apply GH.ok_set)); assumption)) | ((try simp only [GH.push_hid, GH.set_hid]); first | assumption | (refine GH.vis ?_ ?_ <;> first | assumption | ((try simp only [GH.pn, GH.sn]) <;> omega)))) only [↓GH.gp_eq, ↓GH.gp_ne, ↓GH.gs_eq, ↓GH.gs_ne, GH.push_next, GH.set_next]; first | done | exact rfl)
          · refine Eq.trans ?_ q6
            exact (by simp (disch := first | assumption | exact cellV_int _ _ | exact cellV_bool _ | omega | (simp only [GH.pn, GH.sn] <;> omega) | (with_reducible ((repeat (first | apply GH.ok_push | apply GH.ok_set)); assumption)) | ((try simp only [GH.push_hid, GH.set_hid]); first | assumption | (refine GH.vis ?_ ?_ <;> first | assumption | ((try simp only [GH.pn, GH.sn]) <;> omega)))) only [↓GH.gp_eq, ↓GH.gp_ne, ↓GH.gs_eq, ↓GH.gs_ne, GH.push_next, GH.set_next]; first | done | exact rfl)
          · exact (by simp (disch := first | assumption | exact cellV_int _ _ | exact cellV_bool _ | omega | (simp only [GH.pn, GH.sn] <;> omega) | (with_reducible ((repeat (first | apply GH.ok_push | apply GH.ok_set)); assumption)) | ((try simp only [GH.push_hid, GH.set_hid]); first | assumption | (refine GH.vis ?_ ?_ <;> first | assumption | ((try simp only [GH.pn, GH.sn]) <;> omega)))) only [↓GH.gp_eq, ↓GH.gp_ne, ↓GH.gs_eq, ↓GH.gs_ne, GH.push_next, GH.set_next]; first | done | exact rfl)
          · simp only [GH.pn, GH.sn]; omega
        · rintro e g' lo ho' - ⟨hlo, he⟩
          have hp : p < 256 := by omega
          have hcp := conv_byte hp
          obtain ⟨t, hrt⟩ : ∃ t, t = p % (k + 1) := ⟨_, rfl⟩
          have hlt := Nat.mod_lt p (show 0 < k + 1 by omega)
          have ht : ((p : Int).tmod ((k : Int) + 1)) = (t : Int) := by rw [hrt]; exact (Int.ofNat_tmod p (k + 1)).symm
          have hw1 : wrapF .i64 ((k : Int) + 1) = ((k : Int) + 1) := wr64 (by omega) (by omega)
          have hnz : ¬ ((k : Int) + 1 = 0) := by omega
          have hwt : wrapF .i64 (t : Int) = (t : Int) := wr64 (by omega) (by omega)
          simp +decide (disch := first | assumption | exact cellV_int _ _ | exact cellV_bool _ | omega | (simp only [GH.pn, GH.sn] <;> omega) | (with_reducible ((repeat (first | apply GH.ok_push | apply GH.ok_set)); assumption)) | ((try simp only [GH.push_hid, GH.set_hid]); first | assumption | (refine GH.vis ?_ ?_ <;> first | assumption | ((try simp only [GH.pn, GH.sn]) <;> omega)))) only [go_sem, ↓reduceIte, Nat.reduceEqDiff, Nat.reduceAdd, Int.reduceToNat, Int.reduceAdd, Int.reduceNeg, Int.reduceSub, Int.reduceMul, Int.reduceLT, Int.reduceLE, Int.reduceEq, ↓GH.gp_eq, ↓GH.gp_ne, ↓GH.gs_eq, ↓GH.gs_ne, GH.push_next, GH.set_next, he, hcp, hw1, hnz, ht, hwt]
          refine CallD.calm (apart_rets hX _ _ _ _) ?_
          rintro v g7 hx7 rfl
          have hn7 := hx7.next
          rw [apartV_word (n := t) (by omega) ha hb hl (derr_mono d1 (by omega)) (derr_mono d2 (by omega)) (derr_mono d3 (by omega)), decide_eq_true (show ApartL a b t from fun d hd => hA d (by omega))]
          simp +decide (disch := first | assumption | (apply GH.ok_push; assumption) | exact cellV_int _ _ | exact cellV_bool _ | omega) only [go_sem, ↓reduceIte, Nat.reduceEqDiff, Nat.reduceAdd, Int.reduceToNat]
          refine CallD.calm (hX.alive _) ?_
          rintro v g8 hx8 ⟨rfl, rfl⟩
          simp +decide (disch := first | assumption | (apply GH.ok_push; assumption) | exact cellV_int _ _ | exact cellV_bool _ | omega) only [go_sem, ↓reduceIte, Nat.reduceEqDiff, Nat.reduceAdd, Int.reduceToNat]
          intro hx
          exact ⟨by first | exact Nat.le_refl _ | omega, rfl⟩
        · rintro m e g' lo ho' hl' ih out ⟨hlo, i, ⟨hi, hi3, hm⟩, ⟨b1, b2, b3, b4⟩, he⟩
          have w1 := GH.seen b1 Nat.one_ne_zero
          have w2 := GH.seen b2 Nat.one_ne_zero
          have w3 := GH.seen b3 Nat.one_ne_zero
          rcases (show i = 0 ∨ i = 1 ∨ i = 2 ∨ i = 3 by omega) with rfl | rfl | rfl | rfl
          · have i1 := ia3u g3.next
            have i2 := ia3u g4.next
            have i3 := ia3u g5.next
            simp +decide (disch := first | assumption | exact cellV_int _ _ | exact cellV_bool _ | omega | (simp only [GH.pn, GH.sn] <;> omega) | (with_reducible ((repeat (first | apply GH.ok_push | apply GH.ok_set)); assumption)) | ((try simp only [GH.push_hid, GH.set_hid]); first | assumption | (refine GH.vis ?_ ?_ <;> first | assumption | ((try simp only [GH.pn, GH.sn]) <;> omega)))) only [go_sem, ↓reduceIte, Nat.reduceEqDiff, Nat.reduceAdd, Int.reduceToNat, Int.reduceAdd, Int.reduceNeg, Int.reduceSub, Int.reduceMul, Int.reduceLT, Int.reduceLE, Int.reduceEq, ↓GH.gp_eq, ↓GH.gp_ne, ↓GH.gs_eq, ↓GH.gs_ne, GH.push_next, GH.set_next, he, b1, b2, b3, i1, i2, i3, z1]
            refine ih (m - 1) _ _ _ (by omega) ⟨by omega, _, ⟨?_, ?_, ?_⟩, ⟨b1, b2, b3, b4⟩, (by simp +decide (disch := first | assumption | (apply GH.ok_push; assumption) | exact cellV_int _ _ | exact cellV_bool _ | omega) only [go_sem, ↓reduceIte, Nat.reduceEqDiff, Nat.reduceAdd, Int.reduceToNat, he]; first | done | exact rfl)⟩ <;> first | omega | decide
          · have i1 := ia3u g3.next
            have i2 := ia3u g4.next
            have i3 := ia3u g5.next
            simp +decide (disch := first | assumption | exact cellV_int _ _ | exact cellV_bool _ | omega | (simp only [GH.pn, GH.sn] <;> omega) | (with_reducible ((repeat (first | apply GH.ok_push | apply GH.ok_set)); assumption)) | ((try simp only [GH.push_hid, GH.set_hid]); first | assumption | (refine GH.vis ?_ ?_ <;> first | assumption | ((try simp only [GH.pn, GH.sn]) <;> omega)))) only [go_sem, ↓reduceIte, Nat.reduceEqDiff, Nat.reduceAdd, Int.reduceToNat, Int.reduceAdd, Int.reduceNeg, Int.reduceSub, Int.reduceMul, Int.reduceLT, Int.reduceLE, Int.reduceEq, ↓GH.gp_eq, ↓GH.gp_ne, ↓GH.gs_eq, ↓GH.gs_ne, GH.push_next, GH.set_next, he, b1, b2, b3, i1, i2, i3, z2]
            refine ih (m - 1) _ _ _ (by omega) ⟨by omega, _, ⟨?_, ?_, ?_⟩, ⟨b1, b2, b3, b4⟩, (by simp +decide (disch := first | assumption | (apply GH.ok_push; assumption) | exact cellV_int _ _ | exact cellV_bool _ | omega) only [go_sem, ↓reduceIte, Nat.reduceEqDiff, Nat.reduceAdd, Int.reduceToNat, he]; first | done | exact rfl)⟩ <;> first | omega | decide
          · have i1 := ia3u g3.next
            have i2 := ia3u g4.next
            have i3 := ia3u g5.next
            simp +decide (disch := first | assumption | exact cellV_int _ _ | exact cellV_bool _ | omega | (simp only [GH.pn, GH.sn] <;> omega) | (with_reducible ((repeat (first | apply GH.ok_push | apply GH.ok_set)); assumption)) | ((try simp only [GH.push_hid, GH.set_hid]); first | assumption | (refine GH.vis ?_ ?_ <;> first | assumption | ((try simp only [GH.pn, GH.sn]) <;> omega)))) only [go_sem, ↓reduceIte, Nat.reduceEqDiff, Nat.reduceAdd, Int.reduceToNat, Int.reduceAdd, Int.reduceNeg, Int.reduceSub, Int.reduceMul, Int.reduceLT, Int.reduceLE, Int.reduceEq, ↓GH.gp_eq, ↓GH.gp_ne, ↓GH.gs_eq, ↓GH.gs_ne, GH.push_next, GH.set_next, he, b1, b2, b3, i1, i2, i3, z3]
            refine ih (m - 1) _ _ _ (by omega) ⟨by omega, _, ⟨?_, ?_, ?_⟩, ⟨b1, b2, b3, b4⟩, (by simp +decide (disch := first | assumption | (apply GH.ok_push; assumption) | exact cellV_int _ _ | exact cellV_bool _ | omega) only [go_sem, ↓reduceIte, Nat.reduceEqDiff, Nat.reduceAdd, Int.reduceToNat, he]; first | done | exact rfl)⟩ <;> first | omega | decide
          · simp +decide (disch := first | assumption | exact cellV_int _ _ | exact cellV_bool _ | omega | (simp only [GH.pn, GH.sn] <;> omega) | (with_reducible ((repeat (first | apply GH.ok_push | apply GH.ok_set)); assumption)) | ((try simp only [GH.push_hid, GH.set_hid]); first | assumption | (refine GH.vis ?_ ?_ <;> first | assumption | ((try simp only [GH.pn, GH.sn]) <;> omega)))) only [go_sem, ↓reduceIte, Nat.reduceEqDiff, Nat.reduceAdd, Int.reduceToNat, Int.reduceAdd, Int.reduceNeg, Int.reduceSub, Int.reduceMul, Int.reduceLT, Int.reduceLE, Int.reduceEq, ↓GH.gp_eq, ↓GH.gp_ne, ↓GH.gs_eq, ↓GH.gs_ne, GH.push_next, GH.set_next, he]
            exact out _ _ _ ⟨hlo, (by simp +decide (disch := first | assumption | (apply GH.ok_push; assumption) | exact cellV_int _ _ | exact cellV_bool _ | omega) only [go_sem, ↓reduceIte, Nat.reduceEqDiff, Nat.reduceAdd, Int.reduceToNat, he]; first | done | exact rfl)⟩
      · rw [decide_eq_false hA]
        simp +decide (disch := first | assumption | (apply GH.ok_push; assumption) | exact cellV_int _ _ | exact cellV_bool _ | omega) only [go_sem, ↓reduceIte, Nat.reduceEqDiff, Nat.reduceAdd, Int.reduceToNat]
        refine CallD.calm (hX.alive _) ?_
        rintro v g4 hx4 ⟨rfl, rfl⟩
        simp +decide (disch := first | assumption | (apply GH.ok_push; assumption) | exact cellV_int _ _ | exact cellV_bool _ | omega) only [go_sem, ↓reduceIte, Nat.reduceEqDiff, Nat.reduceAdd, Int.reduceToNat]
        intro hx
        exact ⟨by first | exact Nat.le_refl _ | omega, rfl⟩
    · obtain ⟨e, he⟩ : ∃ e, apErr (k : Int) l r = e := ⟨_, rfl⟩
      rw [he] at hE
      rw [apartV_err he hE]
      have hE' : ¬ (e = 0) := hE
      simp +decide (disch := first | assumption | (apply GH.ok_push; assumption) | exact cellV_int _ _ | exact cellV_bool _ | omega) only [go_sem, ↓reduceIte, Nat.reduceEqDiff, Nat.reduceAdd, Int.reduceToNat, hE']
      refine CallD.calm (hX.alive _) ?_
      rintro v g4 hx4 ⟨rfl, rfl⟩
      simp +decide (disch := first | assumption | (apply GH.ok_push; assumption) | exact cellV_int _ _ | exact cellV_bool _ | omega) only [go_sem, ↓reduceIte, Nat.reduceEqDiff, Nat.reduceAdd, Int.reduceToNat]
      intro hx
      exact ⟨by first | exact Nat.le_refl _ | omega, rfl⟩
end Go.Proofs.Ytgnnhenbmnopaaa
namespace Go.Proofs
open Go.RowKit Go.Shelf Go.Aw Go.Proofs.Ytgnnhenbmnopaaa
theorem below_low {n m : Nat} {w w' : World} (h : Below m w w') (hn : n ≤ m) : Below n w w' := ⟨h.1, h.2, h.3, h.4, fun k hk => h.5 k (by omega)⟩
end Go.Proofs
set_option maxRecDepth 100000
set_option maxHeartbeats 8000000
set_option linter.unusedSimpArgs false
set_option linter.unusedVariables false
namespace Go.Proofs.Ytgnnhenbmnopaaa
open Go.Ds Go.Aw
def lastD (L : List (Nat × Nat)) (i : Nat) : Nat := if h : 0 < i ∧ i - 1 < L.length then (L[i - 1]'h.2).2 else 0
theorem lastD_zero (L : List (Nat × Nat)) : lastD L 0 = 0 := rfl
theorem lastD_succ {L : List (Nat × Nat)} {i : Nat} (h : i < L.length) : lastD L (i + 1) = L[i].2 := by
  unfold lastD
  rw [dif_pos ⟨by omega, by simpa using h⟩]
  simp
theorem store2 (a b : Int) : ([Value.int .i64 a, .int .i64 b] : List Value).all cellV = true := rfl
theorem cellsP_drop : ∀ (L : List (Nat × Nat)) (i : Nat) (h : i < L.length), ((cellsP L).drop (i * 2)).take 2 = [.int .i64 L[i].1, .int .i64 L[i].2]
  | [], i, h => by simp at h
  | p :: L, 0, h => by simp [cellsP]
  | p :: L, i + 1, h => by
    have := cellsP_drop L i (by simpa using h)
    have e : cellsP (p :: L) = .int .i64 p.1 :: .int .i64 p.2 :: cellsP L := by simp [cellsP]
    rw [e, show (i + 1) * 2 = i * 2 + 1 + 1 by omega]
    simpa using this
/-- The program's word with the runs of a word. -/
theorem of_rets {X : Caller} (hX : Xok X) (L : List (Nat × Nat)) (hL : ∀ p ∈ L, 1 ≤ p.1 ∧ p.1 ≤ 200 ∧ 1 ≤ p.2 ∧ p.2 ≤ 9) (hG : Go.Aw.Good L) (hne : 0 < (spell L).length) (hlen : (spell L).length ≤ 200) (hll : L.length ≤ 200) (x : Value) (g : GH) (hs : SlQ g x 2 L.length (cellsP L)) :
    Rets Try.prog X 25 [x] g (fun v g' lo => g.next ≤ lo ∧ v = .tuple #[.string (Try.txt (spell L)), .int .i64 0]) := by
  refine Rets.run hX.pres p25 (hX.free 25 (by decide) _ _) rfl fun ho => ?_
  have hln := hs.len
  have hll' : ¬ (200 < (L.length : Int)) := by omega
  simp +decide (disch := first | assumption | (apply GH.ok_push; assumption) | exact cellV_int _ _ | exact cellV_bool _ | omega) only [go_sem, ↓reduceIte, Nat.reduceEqDiff, Nat.reduceAdd, Int.reduceToNat, hln, hll']
  refine Wk.loops (fun m e g' lo => g.next ≤ lo ∧ Kept g g' ∧ ∃ i : Nat, (i ≤ L.length ∧ m = L.length - i) ∧ (ev e (.s 0) = x ∧ ev e (.s 11) = x ∧ ev e (.s 12) = .int .i64 L.length ∧ ev e (.s 13) = .int .i64 i ∧ ev e (.s 4) = .int .i64 ((spell (L.take i)).length : Nat) ∧ ev e (.s 5) = .int .i64 (lastD L i : Nat)))
    (fun e g' lo => g.next ≤ lo ∧ Kept g g' ∧ (ev e (.s 0) = x ∧ ev e (.s 4) = .int .i64 ((spell L).length : Nat))) (n := L.length) ?_ ?_ ?_
  · have z1 : ((lastD L 0 : Nat) : Int) = 0 := rfl
    have z2 : (((spell (L.take 0)).length : Nat) : Int) = 0 := rfl
    have z3 : ((0 : Nat) : Int) = 0 := rfl
    exact ⟨Nat.le_refl _, Kept.refl g, 0, ⟨Nat.zero_le _, rfl⟩, (by simp +decide (disch := first | assumption | (apply GH.ok_push; assumption) | exact cellV_int _ _ | exact cellV_bool _ | omega) only [go_sem, ↓reduceIte, Nat.reduceEqDiff, Nat.reduceAdd, Int.reduceToNat, hln, z1, z2, z3]; first | done | exact rfl)⟩
  · rintro e g' lo ho' - ⟨hlo, hk, he⟩
    have c1 : ¬ (200 < (((spell L).length : Nat) : Int)) := by omega
    have c2 : ¬ ((((spell L).length : Nat) : Int) = 0) := by omega
    simp +decide (disch := first | assumption | (apply GH.ok_push; assumption) | exact cellV_int _ _ | exact cellV_bool _ | omega) only [go_sem, ↓reduceIte, Nat.reduceEqDiff, Nat.reduceAdd, Int.reduceToNat, he, c1, c2]
    refine CallD.calm (hX.written L x _ (hs.kept hk) ?_) ?_
    · unfold smallP
      simp only [Bool.and_eq_true, List.all_eq_true, Nat.ble_eq]
      exact ⟨by omega, fun p hp => ⟨by have := (hL p hp).2.1; omega, (hL p hp).2.2.2⟩⟩
    rintro v g4 hx4 ⟨rfl, rfl⟩
    simp +decide (disch := first | assumption | (apply GH.ok_push; assumption) | exact cellV_int _ _ | exact cellV_bool _ | omega) only [go_sem, ↓reduceIte, Nat.reduceEqDiff, Nat.reduceAdd, Int.reduceToNat, he]
    intro hx
    exact ⟨hlo, rfl⟩
  · rintro m e g' lo ho' hl' ih out ⟨hlo, hk, i, ⟨hi, hm⟩, he⟩
    have hkn := hk.next
    by_cases c : i < L.length
    · obtain ⟨j, a, hj, hp1, hp2, hp3⟩ := (hs.kept hk).ptr c
      have hp1 := hp1 (i : Int) rfl
      have hp9 := hL L[i] (List.getElem_mem c)
      have hag := cellsP_drop L i c
      rw [hag] at hp3
      have hls : (L[i].2 ≠ lastD L i) := by
        by_cases z : i = 0
        · subst z; rw [lastD_zero]; omega
        · obtain ⟨k, rfl⟩ : ∃ k, i = k + 1 := ⟨i - 1, by omega⟩
          rw [lastD_succ (by omega)]
          exact fun e => good_adj L k c hG e.symm
      have ht := take_pair c
      have hld := lastD_succ c
      obtain ⟨p, hp⟩ : ∃ p, L[i] = p := ⟨_, rfl⟩
      rw [hp] at hp9 ht hls hp3 hld
      have hsum : (spell (L.take (i + 1))).length = (spell (L.take i)).length + p.1 := by rw [ht, spell_snoc, List.length_append, List.length_replicate]
      have hsl : (spell (L.take (i + 1))).length ≤ 200 := by
        have e : spell L = spell (L.take (i + 1)) ++ spell (L.drop (i + 1)) := by
          unfold spell
          rw [← List.flatMap_append, List.take_append_drop]
        have := congrArg List.length e
        rw [List.length_append] at this
        omega
      have f1 : ¬ ((p.1 : Int) < 1) := by omega
      have f2 : ¬ (200 < (p.1 : Int)) := by omega
      have f3 : ¬ ((p.2 : Int) < 1) := by omega
      have f4 : ¬ (9 < (p.2 : Int)) := by omega
      have f5 : ¬ ((p.2 : Int) = (lastD L i : Int)) := by omega
      have hw1 : wrapF .i64 (((spell (L.take i)).length : Int) + (p.1 : Int)) = ((spell (L.take (i + 1))).length : Nat) := by rw [wr64 (by omega) (by omega), hsum]; omega
      simp +decide (maxSteps := 2000000) (disch := first | assumption | exact cellV_int _ _ | exact cellV_bool _ | omega | (simp only [GH.pn, GH.sn] <;> omega) | (with_reducible ((repeat (first | apply GH.ok_push | apply GH.ok_set)); assumption)) | ((try simp only [GH.push_hid, GH.set_hid]); first | assumption | (refine GH.vis ?_ ?_ <;> first | assumption | ((try simp only [GH.pn, GH.sn]) <;> omega)))) only [go_sem, ↓reduceIte, Nat.reduceEqDiff, Nat.reduceAdd, Int.reduceToNat, Int.reduceAdd, Int.reduceNeg, Int.reduceSub, Int.reduceMul, Int.reduceLT, Int.reduceLE, Int.reduceEq, ↓GH.gp_eq, ↓GH.gp_ne, ↓GH.gs_eq, ↓GH.gs_ne, GH.push_next, GH.set_next, he, c, hp1, hp3, f1, f2, f3, f4, f5, hw1]
      refine ih (L.length - (i + 1)) _ _ _ (by omega) ⟨?_, ?_, i + 1, ⟨by omega, rfl⟩, ?_⟩
      · omega
      · exact (by (repeat' first | exact Kept.refl _ | assumption | refine Kept.push ?_ ?_ _ | refine Kept.setV ?_ ?_ ?_ _) <;> (first | assumption | exact cellV_int _ _ | exact cellV_bool _ | omega | (simp only [GH.pn, GH.sn] <;> omega) | (with_reducible ((repeat (first | apply GH.ok_push | apply GH.ok_set)); assumption)) | ((try simp only [GH.push_hid, GH.set_hid]); first | assumption | (refine GH.vis ?_ ?_ <;> first | assumption | ((try simp only [GH.pn, GH.sn]) <;> omega)))))
      · rw [hld]
        exact (by simp +decide (disch := first | assumption | (apply GH.ok_push; assumption) | exact cellV_int _ _ | exact cellV_bool _ | omega) only [go_sem, ↓reduceIte, Nat.reduceEqDiff, Nat.reduceAdd, Int.reduceToNat, he]; first | done | exact rfl)
    · have hie : i = L.length := by omega
      subst hie
      simp +decide (disch := first | assumption | exact cellV_int _ _ | exact cellV_bool _ | omega | (simp only [GH.pn, GH.sn] <;> omega) | (with_reducible ((repeat (first | apply GH.ok_push | apply GH.ok_set)); assumption)) | ((try simp only [GH.push_hid, GH.set_hid]); first | assumption | (refine GH.vis ?_ ?_ <;> first | assumption | ((try simp only [GH.pn, GH.sn]) <;> omega)))) only [go_sem, ↓reduceIte, Nat.reduceEqDiff, Nat.reduceAdd, Int.reduceToNat, Int.reduceAdd, Int.reduceNeg, Int.reduceSub, Int.reduceMul, Int.reduceLT, Int.reduceLE, Int.reduceEq, ↓GH.gp_eq, ↓GH.gp_ne, ↓GH.gs_eq, ↓GH.gs_ne, GH.push_next, GH.set_next, he, hln]
      refine out _ _ _ ⟨hlo, hk, ?_⟩
      rw [List.take_length] at he
      exact (by simp +decide (disch := first | assumption | (apply GH.ok_push; assumption) | exact cellV_int _ _ | exact cellV_bool _ | omega) only [go_sem, ↓reduceIte, Nat.reduceEqDiff, Nat.reduceAdd, Int.reduceToNat, he]; first | done | exact rfl)
end Go.Proofs.Ytgnnhenbmnopaaa
set_option maxRecDepth 100000
set_option maxHeartbeats 4000000
set_option linter.unusedSimpArgs false
set_option linter.unusedVariables false
namespace Go.Proofs.Ytgnnhenbmnopaaa
open Go.Ds Go.Aw
theorem seen_own {W : World} {base : Nat} {v : Value} {L : List (Nat × Nat)} (hn : L ≠ []) (h : W.ownsRow base 52 2 v L.length (cellsP L)) :
    ∃ (u : Value) (rows : List (List Value)) (bs : List Nat), SeenIn W rows bs ∧ VRel (seenPhi bs) u v ∧ SlQ (seenG rows) u 2 L.length (cellsP L) := by
  obtain ⟨hl, h⟩ := h
  rcases h with ⟨_, h0⟩ | ⟨b, cap, cur, rfl, hb, hc, h1, h2, h3, h4⟩
  · exact absurd (List.eq_nil_of_length_eq_zero h0) hn
  · have hml : cap < OPEN := by unfold maxLen at h2; unfold OPEN; omega
    refine ⟨.slice (some ⟨0, 0, none⟩) L.length cap, [cellsP L], [b], ⟨rfl, ?_, ?_⟩, .slc 0 ⟨b, 0⟩ 0 L.length cap rfl hml h1, ⟨hl, .inr ⟨0, 0, cap, seenOb (cellsP L), rfl, by rw [seen_next]; exact Nat.one_pos, seen_get _ rfl, .inr ⟨rfl, ?_⟩, by simp [seenOb], by simp [seenOb]⟩⟩⟩
    · intro i j b' hi hj
      match i, j with
      | 0, 0 => rfl
      | 0, j + 1 => simp at hj
      | i + 1, _ => simp at hi
    · intro i r b' hr hb'
      match i with
      | i + 1 => simp at hr
      | 0 =>
        simp at hr hb'
        subst hr; subst hb'
        refine ⟨(Array.getElem?_eq_some_iff.1 hc).1, cur, 52, _, hc, fun k v hk => .inr ⟨?_, ?_⟩⟩
        · rw [← h4, List.getElem?_take] at hk
          split at hk
          · simpa using hk
          · cases hk
        · obtain ⟨n, rfl⟩ := cellsP_plain L v (List.mem_of_getElem? hk)
          rfl
    · rw [List.any_eq_false]
      intro x hx
      obtain ⟨n, rfl⟩ := cellsP_plain L x hx
      simp [isJ]
theorem of_in {W : World} {base : Nat} {v : Value} {ds : List Nat} (hw : Wd ds) (h : W.ownsRow base 52 2 v (runs ds).length (cellsP (runs ds))) :
    Calls Try.prog 25 #[v] W fun e w' => e = .returned (.tuple #[.string (Try.txt ds), .int .i64 0]) ∧ RowKit.Below W.heap.size W w' := by
  have hrn : runs ds ≠ [] := fun z => hw.ne (runs_nil z)
  obtain ⟨u, rows, bs, s1, s2, s3⟩ := seen_own hrn h
  have hsp := spell_runs ds
  have hp := List.length_pos_iff.2 hw.ne
  have hln := hw.len
  have hrl := runs_len ds
  have r := of_rets X0_ok (runs ds) (fun p hp => ?_) (good_runs ds) (by rw [hsp]; exact hp) (by rw [hsp]; exact hln) (by omega) u (seenG rows) s3
  · rw [hsp] at r
    have inst : Inhabited Bound := ⟨⟨0⟩⟩
    exact Rets.seen X0_orac mixedO (args := [u]) s1 (LRel.cons s2 LRel.nil) (fun h => X0_free (by decide) _ h) rfl (r.mono fun v g' lo _ ⟨h1, h2⟩ => ⟨by rw [← seen_next rows]; exact h1, h2⟩)
  · have h1 := good_pos (good_runs ds) p hp
    have h2 := runs_dig hw.dig p hp
    have h3 : p.1 ≤ (spell (runs ds)).length := by
      have : ∀ (L : List (Nat × Nat)), p ∈ L → p.1 ≤ (spell L).length := by
        intro L
        induction L with
        | nil => intro h; cases h
        | cons q L ih =>
          intro h
          have e : spell (q :: L) = List.replicate q.1 q.2 ++ spell L := rfl
          rw [e, List.length_append, List.length_replicate]
          rcases List.mem_cons.1 h with rfl | h
          · omega
          · have := ih h; omega
      exact this _ hp
    rw [hsp] at h3
    exact ⟨h1, by omega, h2.1, h2.2⟩
end Go.Proofs.Ytgnnhenbmnopaaa
set_option maxHeartbeats 1500000
namespace Go.Proofs
open Go.RowKit Go.Shelf Go.Aw Go.Proofs.Ytgnnhenbmnopaaa
attribute [local go_sem] Oper.semAt_some
set_option maxRecDepth 100000
set_option linter.unusedVariables false
theorem runs_own {ds : List Nat} (hw : Wd ds) (w : World) : Calls Try.prog 20 #[.string (Try.txt ds)] w fun e w' => (∃ v, e = .returned (.tuple #[v, .int .i64 0]) ∧ w'.ownsRow w.heap.size 52 2 v (runs ds).length (cellsP (runs ds))) ∧ Below w.heap.size w w' := by
  refine (Try.runs_in (Try.txt ds) w).mono ?_
  intro e w' h
  unfold Try.runsR at h
  rwa [if_pos hw.werr, digs_txt hw.dig] at h
theorem Try.backLaw_in (s : ByteArray) (w : World) : Calls Try.prog 8 #[.string s] w fun e w' => e = .returned (.bool true) ∧ Below w.heap.size w w' := by
  refine (callsIn_wide (n := 3)).1 ?_
  have hro : Fence.wide.round = none := rfl
  refine callsIn_of_wp_marks Try.func8 rfl trivial ?_ hro
  simp only [Try.ntmps8, List.size_toArray, List.length_cons, List.length_nil, Nat.reduceAdd, Nat.reduceSub, Array.replicate_succ, Array.replicate_zero, List.push_toArray, List.append_toArray, List.nil_append, List.cons_append]
  have h16 := few_in s ⟨#[]⟩
  cases q : (decide (s.size ≤ 1000) && decide ((⟨#[]⟩ : ByteArray).size ≤ 1000)) with
  | false =>
    rw [q] at h16
    gi_wp2
    refine ⟨trivial, ?_⟩
    gi_at_call 16
    refine (callsIn_wide.2 (h16 _)).mono ?_
    rintro e w1 ⟨rfl, b1⟩
    gi_wp2
    refine ⟨trivial, ?_⟩
    gi_wp2
    refine ⟨trivial, ?_⟩
    gi_at_call 17
    refine (callsIn_wide.2 (alive_calls _)).mono ?_
    rintro e w2 ⟨rfl, b2⟩
    gi_wp2
    exact ⟨_, results_tmp rfl _ _ _, rfl, (Below.trans b1 (below_low b2 b1.size))⟩
  | true =>
    rw [q] at h16
    have h19 := word_in s
    by_cases hz : werr s = 0
    · rw [hz] at h19
      obtain ⟨ds, hw, rfl⟩ := werr_word hz
      have h20 := runs_own hw
      have hbw := beforeV_word hw
      gi_wp2
      refine ⟨trivial, ?_⟩
      gi_at_call 16
      refine (callsIn_wide.2 (h16 _)).mono ?_
      rintro e w1 ⟨rfl, b1⟩
      gi_wp2
      refine ⟨trivial, ?_⟩
      gi_at_call 19
      refine (callsIn_wide.2 (h19 _)).mono ?_
      rintro e w2 ⟨rfl, b2⟩
      gi_wp2
      refine ⟨trivial, ?_⟩
      gi_at_call 20
      refine (callsIn_wide.2 (h20 _)).mono ?_
      rintro e w3 ⟨⟨v0, rfl, hown⟩, b3⟩
      have h25 := of_in hw hown
      gi_wp2
      refine ⟨trivial, ?_⟩
      gi_at_call 25
      refine (callsIn_wide.2 h25).mono ?_
      rintro e w4 ⟨rfl, b4⟩
      by_cases sy : Sayable ds
      · have h27 := say_in (Try.txt ds) ((sayV_word hw).trans (saidV_ok sy)) rfl
        have hws0 := fun h => hw.say sy h
        have hhs := say_heard ds
        generalize Aw.say ds = u at *
        have hss := Try.txt_size u
        by_cases sl : u.length ≤ 200
        · have hsn : ((Try.txt u).size : Int) ≤ 200 := by omega
          have hws := hws0 sl
          have h29s := before_in (Try.txt u) (v := .tuple #[.string (Try.txt ds), .int .i64 0]) (by rw [beforeV_word hws, hhs]) rfl
          gi_wp2
          refine ⟨trivial, ?_⟩
          gi_at_call 27
          refine (callsIn_wide.2 (h27 _)).mono ?_
          rintro e w5 ⟨rfl, b5⟩
          gi_wp2
          refine ⟨trivial, ?_⟩
          gi_at_call 29
          refine (callsIn_wide.2 (h29s _)).mono ?_
          rintro e w6 ⟨rfl, b6⟩
          cases hh : heard ds with
          | none =>
            rw [hh] at hbw
            have h29 := before_in (Try.txt ds) hbw rfl
            gi_wp2
            refine ⟨trivial, ?_⟩
            gi_at_call 29
            refine (callsIn_wide.2 (h29 _)).mono ?_
            rintro e w7 ⟨rfl, b7⟩
            gi_wp2
            refine ⟨trivial, ?_⟩
            gi_at_call 17
            refine (callsIn_wide.2 (alive_calls _)).mono ?_
            rintro e w8 ⟨rfl, b8⟩
            gi_wp2
            exact ⟨_, results_tmp rfl _ _ _, rfl, (Below.trans (Below.trans (Below.trans (Below.trans (Below.trans (Below.trans (Below.trans b1 (below_low b2 b1.size)) (below_low b3 (Nat.le_trans b1.size b2.size))) (below_low b4 (Nat.le_trans (Nat.le_trans b1.size b2.size) b3.size))) (below_low b5 (Nat.le_trans (Nat.le_trans (Nat.le_trans b1.size b2.size) b3.size) b4.size))) (below_low b6 (Nat.le_trans (Nat.le_trans (Nat.le_trans (Nat.le_trans b1.size b2.size) b3.size) b4.size) b5.size))) (below_low b7 (Nat.le_trans (Nat.le_trans (Nat.le_trans (Nat.le_trans (Nat.le_trans b1.size b2.size) b3.size) b4.size) b5.size) b6.size))) (below_low b8 (Nat.le_trans (Nat.le_trans (Nat.le_trans (Nat.le_trans (Nat.le_trans (Nat.le_trans b1.size b2.size) b3.size) b4.size) b5.size) b6.size) b7.size)))⟩
          | some v =>
            rw [hh] at hbw
            have h29 := before_in (Try.txt ds) hbw rfl
            have hvs := Try.txt_size v
            by_cases vl : v.length ≤ 200
            · have hwv : Wd v := ⟨heard_dig hw.dig hh, heard_ne hw.dig hw.ne hh, vl⟩
              obtain ⟨y1, y2⟩ := heard_say hw.dig hh
              have h27v := say_in (Try.txt v) ((sayV_word hwv).trans (saidV_ok y1)) rfl
              rw [y2] at h27v
              have hvn : ¬ (200 < ((Try.txt v).size : Int)) := by omega
              gi_wp2
              refine ⟨trivial, ?_⟩
              gi_at_call 29
              refine (callsIn_wide.2 (h29 _)).mono ?_
              rintro e w7 ⟨rfl, b7⟩
              gi_wp2
              refine ⟨trivial, ?_⟩
              gi_at_call 27
              refine (callsIn_wide.2 (h27v _)).mono ?_
              rintro e w8 ⟨rfl, b8⟩
              gi_wp2
              refine ⟨trivial, ?_⟩
              gi_at_call 17
              refine (callsIn_wide.2 (alive_calls _)).mono ?_
              rintro e w9 ⟨rfl, b9⟩
              gi_wp2
              exact ⟨_, results_tmp rfl _ _ _, rfl, (Below.trans (Below.trans (Below.trans (Below.trans (Below.trans (Below.trans (Below.trans (Below.trans b1 (below_low b2 b1.size)) (below_low b3 (Nat.le_trans b1.size b2.size))) (below_low b4 (Nat.le_trans (Nat.le_trans b1.size b2.size) b3.size))) (below_low b5 (Nat.le_trans (Nat.le_trans (Nat.le_trans b1.size b2.size) b3.size) b4.size))) (below_low b6 (Nat.le_trans (Nat.le_trans (Nat.le_trans (Nat.le_trans b1.size b2.size) b3.size) b4.size) b5.size))) (below_low b7 (Nat.le_trans (Nat.le_trans (Nat.le_trans (Nat.le_trans (Nat.le_trans b1.size b2.size) b3.size) b4.size) b5.size) b6.size))) (below_low b8 (Nat.le_trans (Nat.le_trans (Nat.le_trans (Nat.le_trans (Nat.le_trans (Nat.le_trans b1.size b2.size) b3.size) b4.size) b5.size) b6.size) b7.size))) (below_low b9 (Nat.le_trans (Nat.le_trans (Nat.le_trans (Nat.le_trans (Nat.le_trans (Nat.le_trans (Nat.le_trans b1.size b2.size) b3.size) b4.size) b5.size) b6.size) b7.size) b8.size)))⟩
            · have hvn : (200 < ((Try.txt v).size : Int)) := by omega
              gi_wp2
              refine ⟨trivial, ?_⟩
              gi_at_call 29
              refine (callsIn_wide.2 (h29 _)).mono ?_
              rintro e w7 ⟨rfl, b7⟩
              gi_wp2
              refine ⟨trivial, ?_⟩
              gi_at_call 17
              refine (callsIn_wide.2 (alive_calls _)).mono ?_
              rintro e w8 ⟨rfl, b8⟩
              gi_wp2
              exact ⟨_, results_tmp rfl _ _ _, rfl, (Below.trans (Below.trans (Below.trans (Below.trans (Below.trans (Below.trans (Below.trans b1 (below_low b2 b1.size)) (below_low b3 (Nat.le_trans b1.size b2.size))) (below_low b4 (Nat.le_trans (Nat.le_trans b1.size b2.size) b3.size))) (below_low b5 (Nat.le_trans (Nat.le_trans (Nat.le_trans b1.size b2.size) b3.size) b4.size))) (below_low b6 (Nat.le_trans (Nat.le_trans (Nat.le_trans (Nat.le_trans b1.size b2.size) b3.size) b4.size) b5.size))) (below_low b7 (Nat.le_trans (Nat.le_trans (Nat.le_trans (Nat.le_trans (Nat.le_trans b1.size b2.size) b3.size) b4.size) b5.size) b6.size))) (below_low b8 (Nat.le_trans (Nat.le_trans (Nat.le_trans (Nat.le_trans (Nat.le_trans (Nat.le_trans b1.size b2.size) b3.size) b4.size) b5.size) b6.size) b7.size)))⟩
        · have hsn : ¬ (((Try.txt u).size : Int) ≤ 200) := by omega
          gi_wp2
          refine ⟨trivial, ?_⟩
          gi_at_call 27
          refine (callsIn_wide.2 (h27 _)).mono ?_
          rintro e w5 ⟨rfl, b5⟩
          cases hh : heard ds with
          | none =>
            rw [hh] at hbw
            have h29 := before_in (Try.txt ds) hbw rfl
            gi_wp2
            refine ⟨trivial, ?_⟩
            gi_at_call 29
            refine (callsIn_wide.2 (h29 _)).mono ?_
            rintro e w6 ⟨rfl, b6⟩
            gi_wp2
            refine ⟨trivial, ?_⟩
            gi_at_call 17
            refine (callsIn_wide.2 (alive_calls _)).mono ?_
            rintro e w7 ⟨rfl, b7⟩
            gi_wp2
            exact ⟨_, results_tmp rfl _ _ _, rfl, (Below.trans (Below.trans (Below.trans (Below.trans (Below.trans (Below.trans b1 (below_low b2 b1.size)) (below_low b3 (Nat.le_trans b1.size b2.size))) (below_low b4 (Nat.le_trans (Nat.le_trans b1.size b2.size) b3.size))) (below_low b5 (Nat.le_trans (Nat.le_trans (Nat.le_trans b1.size b2.size) b3.size) b4.size))) (below_low b6 (Nat.le_trans (Nat.le_trans (Nat.le_trans (Nat.le_trans b1.size b2.size) b3.size) b4.size) b5.size))) (below_low b7 (Nat.le_trans (Nat.le_trans (Nat.le_trans (Nat.le_trans (Nat.le_trans b1.size b2.size) b3.size) b4.size) b5.size) b6.size)))⟩
          | some v =>
            rw [hh] at hbw
            have h29 := before_in (Try.txt ds) hbw rfl
            have hvs := Try.txt_size v
            by_cases vl : v.length ≤ 200
            · have hwv : Wd v := ⟨heard_dig hw.dig hh, heard_ne hw.dig hw.ne hh, vl⟩
              obtain ⟨y1, y2⟩ := heard_say hw.dig hh
              have h27v := say_in (Try.txt v) ((sayV_word hwv).trans (saidV_ok y1)) rfl
              rw [y2] at h27v
              have hvn : ¬ (200 < ((Try.txt v).size : Int)) := by omega
              gi_wp2
              refine ⟨trivial, ?_⟩
              gi_at_call 29
              refine (callsIn_wide.2 (h29 _)).mono ?_
              rintro e w6 ⟨rfl, b6⟩
              gi_wp2
              refine ⟨trivial, ?_⟩
              gi_at_call 27
              refine (callsIn_wide.2 (h27v _)).mono ?_
              rintro e w7 ⟨rfl, b7⟩
              gi_wp2
              refine ⟨trivial, ?_⟩
              gi_at_call 17
              refine (callsIn_wide.2 (alive_calls _)).mono ?_
              rintro e w8 ⟨rfl, b8⟩
              gi_wp2
              exact ⟨_, results_tmp rfl _ _ _, rfl, (Below.trans (Below.trans (Below.trans (Below.trans (Below.trans (Below.trans (Below.trans b1 (below_low b2 b1.size)) (below_low b3 (Nat.le_trans b1.size b2.size))) (below_low b4 (Nat.le_trans (Nat.le_trans b1.size b2.size) b3.size))) (below_low b5 (Nat.le_trans (Nat.le_trans (Nat.le_trans b1.size b2.size) b3.size) b4.size))) (below_low b6 (Nat.le_trans (Nat.le_trans (Nat.le_trans (Nat.le_trans b1.size b2.size) b3.size) b4.size) b5.size))) (below_low b7 (Nat.le_trans (Nat.le_trans (Nat.le_trans (Nat.le_trans (Nat.le_trans b1.size b2.size) b3.size) b4.size) b5.size) b6.size))) (below_low b8 (Nat.le_trans (Nat.le_trans (Nat.le_trans (Nat.le_trans (Nat.le_trans (Nat.le_trans b1.size b2.size) b3.size) b4.size) b5.size) b6.size) b7.size)))⟩
            · have hvn : (200 < ((Try.txt v).size : Int)) := by omega
              gi_wp2
              refine ⟨trivial, ?_⟩
              gi_at_call 29
              refine (callsIn_wide.2 (h29 _)).mono ?_
              rintro e w6 ⟨rfl, b6⟩
              gi_wp2
              refine ⟨trivial, ?_⟩
              gi_at_call 17
              refine (callsIn_wide.2 (alive_calls _)).mono ?_
              rintro e w7 ⟨rfl, b7⟩
              gi_wp2
              exact ⟨_, results_tmp rfl _ _ _, rfl, (Below.trans (Below.trans (Below.trans (Below.trans (Below.trans (Below.trans b1 (below_low b2 b1.size)) (below_low b3 (Nat.le_trans b1.size b2.size))) (below_low b4 (Nat.le_trans (Nat.le_trans b1.size b2.size) b3.size))) (below_low b5 (Nat.le_trans (Nat.le_trans (Nat.le_trans b1.size b2.size) b3.size) b4.size))) (below_low b6 (Nat.le_trans (Nat.le_trans (Nat.le_trans (Nat.le_trans b1.size b2.size) b3.size) b4.size) b5.size))) (below_low b7 (Nat.le_trans (Nat.le_trans (Nat.le_trans (Nat.le_trans (Nat.le_trans b1.size b2.size) b3.size) b4.size) b5.size) b6.size)))⟩
      · have h27 := say_in (Try.txt ds) ((sayV_word hw).trans (saidV_no sy)) rfl
        gi_wp2
        refine ⟨trivial, ?_⟩
        gi_at_call 27
        refine (callsIn_wide.2 (h27 _)).mono ?_
        rintro e w5 ⟨rfl, b5⟩
        cases hh : heard ds with
        | none =>
          rw [hh] at hbw
          have h29 := before_in (Try.txt ds) hbw rfl
          gi_wp2
          refine ⟨trivial, ?_⟩
          gi_at_call 29
          refine (callsIn_wide.2 (h29 _)).mono ?_
          rintro e w6 ⟨rfl, b6⟩
          gi_wp2
          refine ⟨trivial, ?_⟩
          gi_at_call 17
          refine (callsIn_wide.2 (alive_calls _)).mono ?_
          rintro e w7 ⟨rfl, b7⟩
          gi_wp2
          exact ⟨_, results_tmp rfl _ _ _, rfl, (Below.trans (Below.trans (Below.trans (Below.trans (Below.trans (Below.trans b1 (below_low b2 b1.size)) (below_low b3 (Nat.le_trans b1.size b2.size))) (below_low b4 (Nat.le_trans (Nat.le_trans b1.size b2.size) b3.size))) (below_low b5 (Nat.le_trans (Nat.le_trans (Nat.le_trans b1.size b2.size) b3.size) b4.size))) (below_low b6 (Nat.le_trans (Nat.le_trans (Nat.le_trans (Nat.le_trans b1.size b2.size) b3.size) b4.size) b5.size))) (below_low b7 (Nat.le_trans (Nat.le_trans (Nat.le_trans (Nat.le_trans (Nat.le_trans b1.size b2.size) b3.size) b4.size) b5.size) b6.size)))⟩
        | some v =>
          rw [hh] at hbw
          have h29 := before_in (Try.txt ds) hbw rfl
          have hvs := Try.txt_size v
          by_cases vl : v.length ≤ 200
          · have hwv : Wd v := ⟨heard_dig hw.dig hh, heard_ne hw.dig hw.ne hh, vl⟩
            obtain ⟨y1, y2⟩ := heard_say hw.dig hh
            have h27v := say_in (Try.txt v) ((sayV_word hwv).trans (saidV_ok y1)) rfl
            rw [y2] at h27v
            have hvn : ¬ (200 < ((Try.txt v).size : Int)) := by omega
            gi_wp2
            refine ⟨trivial, ?_⟩
            gi_at_call 29
            refine (callsIn_wide.2 (h29 _)).mono ?_
            rintro e w6 ⟨rfl, b6⟩
            gi_wp2
            refine ⟨trivial, ?_⟩
            gi_at_call 27
            refine (callsIn_wide.2 (h27v _)).mono ?_
            rintro e w7 ⟨rfl, b7⟩
            gi_wp2
            refine ⟨trivial, ?_⟩
            gi_at_call 17
            refine (callsIn_wide.2 (alive_calls _)).mono ?_
            rintro e w8 ⟨rfl, b8⟩
            gi_wp2
            exact ⟨_, results_tmp rfl _ _ _, rfl, (Below.trans (Below.trans (Below.trans (Below.trans (Below.trans (Below.trans (Below.trans b1 (below_low b2 b1.size)) (below_low b3 (Nat.le_trans b1.size b2.size))) (below_low b4 (Nat.le_trans (Nat.le_trans b1.size b2.size) b3.size))) (below_low b5 (Nat.le_trans (Nat.le_trans (Nat.le_trans b1.size b2.size) b3.size) b4.size))) (below_low b6 (Nat.le_trans (Nat.le_trans (Nat.le_trans (Nat.le_trans b1.size b2.size) b3.size) b4.size) b5.size))) (below_low b7 (Nat.le_trans (Nat.le_trans (Nat.le_trans (Nat.le_trans (Nat.le_trans b1.size b2.size) b3.size) b4.size) b5.size) b6.size))) (below_low b8 (Nat.le_trans (Nat.le_trans (Nat.le_trans (Nat.le_trans (Nat.le_trans (Nat.le_trans b1.size b2.size) b3.size) b4.size) b5.size) b6.size) b7.size)))⟩
          · have hvn : (200 < ((Try.txt v).size : Int)) := by omega
            gi_wp2
            refine ⟨trivial, ?_⟩
            gi_at_call 29
            refine (callsIn_wide.2 (h29 _)).mono ?_
            rintro e w6 ⟨rfl, b6⟩
            gi_wp2
            refine ⟨trivial, ?_⟩
            gi_at_call 17
            refine (callsIn_wide.2 (alive_calls _)).mono ?_
            rintro e w7 ⟨rfl, b7⟩
            gi_wp2
            exact ⟨_, results_tmp rfl _ _ _, rfl, (Below.trans (Below.trans (Below.trans (Below.trans (Below.trans (Below.trans b1 (below_low b2 b1.size)) (below_low b3 (Nat.le_trans b1.size b2.size))) (below_low b4 (Nat.le_trans (Nat.le_trans b1.size b2.size) b3.size))) (below_low b5 (Nat.le_trans (Nat.le_trans (Nat.le_trans b1.size b2.size) b3.size) b4.size))) (below_low b6 (Nat.le_trans (Nat.le_trans (Nat.le_trans (Nat.le_trans b1.size b2.size) b3.size) b4.size) b5.size))) (below_low b7 (Nat.le_trans (Nat.le_trans (Nat.le_trans (Nat.le_trans (Nat.le_trans b1.size b2.size) b3.size) b4.size) b5.size) b6.size)))⟩
    · have hne : ((werr s != 0) = true) := by simpa using hz
      gi_wp2
      refine ⟨trivial, ?_⟩
      gi_at_call 16
      refine (callsIn_wide.2 (h16 _)).mono ?_
      rintro e w1 ⟨rfl, b1⟩
      gi_wp2
      refine ⟨trivial, ?_⟩
      gi_at_call 19
      refine (callsIn_wide.2 (h19 _)).mono ?_
      rintro e w2 ⟨rfl, b2⟩
      gi_wp2
      refine ⟨trivial, ?_⟩
      gi_at_call 17
      refine (callsIn_wide.2 (alive_calls _)).mono ?_
      rintro e w3 ⟨rfl, b3⟩
      gi_wp2
      exact ⟨_, results_tmp rfl _ _ _, rfl, (Below.trans (Below.trans b1 (below_low b2 b1.size)) (below_low b3 (Nat.le_trans b1.size b2.size)))⟩
end Go.Proofs
namespace Go.Proofs.Ytgnnhenbmnopaaa
open Go.ChangeShapes Go.WideShapes Go.ChangeAt Go.RowKit
set_option linter.unusedVariables false
set_option maxRecDepth 100000
open Go.Ds in
theorem aloudBack_calls (s0 : ByteArray) (w : World) :
    Calls Try.prog 8 #[.string s0] w fun e w' => e = .returned (.bool true) ∧ RowKit.Below w.heap.size w w' :=
  Try.backLaw_in s0 w
namespace aloudBack
set_option maxRecDepth 100000 in
theorem lifted (os : Os) (started : os.Started) (H : Type) (enc : TypeId × Value → H) :
    ReturnsInHanded {} Try.checked os 8 .any (Rows.aloudBackSpec.pre6 enc Try.prog Try.f8 Rows.aloudBackRow.domain false) (Rows.aloudBackSpec.post enc Try.prog Try.f8 false true false false) := by
  refine returnsInHanded_of_change (C := Try.checked) ownNone started (by kernel_rfl) Try.func8
    (ChangeSpec.witness6 (enc := enc) (C := Try.checked) false ⟨#[], #[.string ⟨#[]⟩], []⟩ 8 (by kernel_rfl) (by kernel_rfl) (by kernel_rfl) (by kernel_rfl)) ?_
  intro W base args ds gs before hval0 hW hcnd _
  have hval : ∀ (j : Nat) t v, Try.f8.params[j]? = some t → args[j]? = some v → Value.okWide Try.prog W .any base t v := hval0
  have hW' := hW
  obtain ⟨p, q, hA0, hV, rfl, hfz, hnd⟩ := hW
  have hA : DataW.TrodAll enc Try.prog W 0 (fun _ => true) true Try.f8.params.toList args.toList ds p := hA0
  rw [Try.params8] at hA hval
  obtain ⟨v0, vs0, d0, ds0, p0, q0, hargs, rfl, rfl, h0, r0⟩ := trodAll_cons hA
  obtain ⟨rfl, rfl, rfl⟩ := trodAll_nil r0
  obtain rfl : args = #[v0] := by cases args; simp_all
  obtain ⟨rfl, rfl⟩ := trodVars_none hV
  have k0 := h0
  have lt0 : ∀ x ∈ p0, x.block < W.heap.size := by obtain ⟨m, hm⟩ := k0; exact DataW.trod_lt m _ _ _ hm
  obtain ⟨s0, rfl, rfl, rfl, ls0⟩ := Go.ChangeMaps.open_string Try.underlying9 (hval 0 9 v0 rfl rfl) h0
  clear hA0 hval0
  refine (aloudBack_calls s0 W).mono fun e W' ⟨he, bel⟩ => ?_
  subst he
  exact ⟨_, rfl, _, _, _, [], _, [], hW', trodAll_mk1 (shut_bool Try.underlying4 _), (trodAll_cons_mk (Below.trod laidOut (by kernel_rfl) (of_decide_eq_true (by kernel_rfl)) k0 bel lt0) trodAll_mk0), rfl, bel.frame _, fun h => by cases h⟩
theorem over : Rows.aloudBackRow.holds Try.pinned (OpenSpec.ofChange Rows.aloudBackSpec) :=
  OpenClaim.holds_of_wide 8 Try.f8 rfl rfl rfl rfl rfl rfl rfl ⟨rfl, rfl, rfl, rfl, rfl⟩ rfl rfl rfl rfl rfl (by kernel_rfl) Try.func8 (by kernel_rfl)
    (of_decide_eq_true (by kernel_rfl)) (by unfold Func.isWrapper; first | (rw [if_pos (by decide +kernel)]; kernel_rfl) | (rw [if_neg (by decide +kernel)]; exact ⟨rfl, rfl⟩))
    (fun os started H enc _ => lifted os started H enc)
/-- The statement. -/
theorem proved : Rows.AloudBackSaid := over
#print axioms proved
end aloudBack
end Go.Proofs.Ytgnnhenbmnopaaa
