/- the law Last: the last digit stays -/
import Derived.Test.YtgnnhenbmnopaaaK5
import Derived.Test.YtgnnhenbmnopaaaK7
import Derived.Test.YtgnnhenbmnopaaaKa
import Derived.Test.YtgnnhenbmnopaaaK3
import Derived.StillTailTactics
import Derived.Test.YtgnnhenbmnopaaaKp
set_option linter.all false
set_option linter.unusedSimpArgs false
set_option linter.unnecessarySimpa false
set_option linter.unusedVariables false
set_option linter.unusedSectionVars false
set_option maxRecDepth 100000
set_option maxHeartbeats 8000000
set_option linter.unusedSimpArgs false
set_option linter.unusedVariables false
namespace Go.Proofs.Ytgnnhenbmnopaaa
open Go.Ds Go.Aw
theorem few_rets {X : Caller} (hX : Xfr X) (a b : ByteArray) (g : GH) : Rets Try.prog X 16 [.string a, .string b] g (fun v g' lo => g.next ≤ lo ∧ v = .bool (decide (a.size ≤ 1000) && decide (b.size ≤ 1000)) ∧ g' = g) := by
  refine Rets.run hX.pres p16 (hX.free 16 (by decide) _ _) rfl fun ho => ?_
  by_cases h1 : a.size ≤ 1000
  · by_cases h2 : b.size ≤ 1000
    · simp +decide (disch := first | assumption | (apply GH.ok_push; assumption) | exact cellV_int _ _ | exact cellV_bool _ | omega) only [go_sem, ↓reduceIte, Nat.reduceEqDiff, Nat.reduceAdd, Int.reduceToNat, h1, h2]
      intro hx
      exact ⟨Nat.le_refl _, by simp [h1, h2], rfl⟩
    · simp +decide (disch := first | assumption | (apply GH.ok_push; assumption) | exact cellV_int _ _ | exact cellV_bool _ | omega) only [go_sem, ↓reduceIte, Nat.reduceEqDiff, Nat.reduceAdd, Int.reduceToNat, h1, h2]
      intro hx
      exact ⟨Nat.le_refl _, by simp [h1, h2], rfl⟩
  · simp +decide (disch := first | assumption | (apply GH.ok_push; assumption) | exact cellV_int _ _ | exact cellV_bool _ | omega) only [go_sem, ↓reduceIte, Nat.reduceEqDiff, Nat.reduceAdd, Int.reduceToNat, h1]
    intro hx
    exact ⟨Nat.le_refl _, by simp [h1], rfl⟩
theorem sayV_form (s : ByteArray) : ∃ a n, sayV s = .tuple #[.string a, .int .i64 n] := by
  unfold sayV
  split <;> exact ⟨_, _, rfl⟩
theorem beforeV_form (s : ByteArray) : ∃ a n, beforeV s = .tuple #[.string a, .int .i64 n] := by
  unfold beforeV
  split
  · split <;> exact ⟨_, _, rfl⟩
  · exact ⟨_, _, rfl⟩
theorem ageV_form (s : ByteArray) : ∃ a n, ageV s = .tuple #[.int .i64 a, .int .i64 n] := by
  unfold ageV
  split
  · split <;> exact ⟨_, _, rfl⟩
  · exact ⟨_, _, rfl⟩
theorem saysLaw_rets {X : Caller} (hX : Xok X) (s : ByteArray) (g : GH) : Rets Try.prog X 5 [.string s] g (fun v g' lo => g.next ≤ lo ∧ v = .bool true) := by
  refine Rets.run hX.pres p5 (hX.free 5 (by decide) _ _) rfl fun ho => ?_
  simp +decide (disch := first | assumption | (apply GH.ok_push; assumption) | exact cellV_int _ _ | exact cellV_bool _ | omega) only [go_sem, ↓reduceIte, Nat.reduceEqDiff, Nat.reduceAdd, Int.reduceToNat]
  refine CallD.calm (few_rets hX.toXfr _ _ _) ?_
  rintro v g1 hx1 ⟨rfl, rfl⟩
  cases q : (decide (s.size ≤ 1000) && decide ((⟨#[]⟩ : ByteArray).size ≤ 1000)) with
  | false =>
    simp +decide (disch := first | assumption | (apply GH.ok_push; assumption) | exact cellV_int _ _ | exact cellV_bool _ | omega) only [go_sem, ↓reduceIte, Nat.reduceEqDiff, Nat.reduceAdd, Int.reduceToNat]
    refine CallD.calm (hX.alive _) ?_
    rintro v g2 hx2 ⟨rfl, rfl⟩
    simp +decide (disch := first | assumption | (apply GH.ok_push; assumption) | exact cellV_int _ _ | exact cellV_bool _ | omega) only [go_sem, ↓reduceIte, Nat.reduceEqDiff, Nat.reduceAdd, Int.reduceToNat]
    intro hx
    exact ⟨Nat.le_refl _, rfl⟩
  | true =>
    simp +decide (disch := first | assumption | (apply GH.ok_push; assumption) | exact cellV_int _ _ | exact cellV_bool _ | omega) only [go_sem, ↓reduceIte, Nat.reduceEqDiff, Nat.reduceAdd, Int.reduceToNat]
    obtain ⟨a1, n1, f1⟩ := sayV_form s
    obtain ⟨a2, n2, f2⟩ := beforeV_form s
    obtain ⟨a3, n3, f3⟩ := ageV_form s
    refine CallD.calm (say_rets hX s _) ?_
    rintro v g2 hx2 rfl
    have hn2 := hx2.next
    rw [f1]
    simp +decide (disch := first | assumption | (apply GH.ok_push; assumption) | exact cellV_int _ _ | exact cellV_bool _ | omega) only [go_sem, ↓reduceIte, Nat.reduceEqDiff, Nat.reduceAdd, Int.reduceToNat]
    refine CallD.calm (refSay_rets hX s _) ?_
    rintro v g3 hx3 rfl
    have hn3 := hx3.next
    rw [f1]
    simp +decide (disch := first | assumption | (apply GH.ok_push; assumption) | exact cellV_int _ _ | exact cellV_bool _ | omega) only [go_sem, ↓reduceIte, Nat.reduceEqDiff, Nat.reduceAdd, Int.reduceToNat]
    refine CallD.calm (beforeP_rets hX s _) ?_
    rintro v g4 hx4 rfl
    have hn4 := hx4.next
    rw [f2]
    simp +decide (disch := first | assumption | (apply GH.ok_push; assumption) | exact cellV_int _ _ | exact cellV_bool _ | omega) only [go_sem, ↓reduceIte, Nat.reduceEqDiff, Nat.reduceAdd, Int.reduceToNat]
    refine CallD.calm (refBefore_rets hX s _) ?_
    rintro v g5 hx5 rfl
    have hn5 := hx5.next
    rw [f2]
    simp +decide (disch := first | assumption | (apply GH.ok_push; assumption) | exact cellV_int _ _ | exact cellV_bool _ | omega) only [go_sem, ↓reduceIte, Nat.reduceEqDiff, Nat.reduceAdd, Int.reduceToNat]
    refine CallD.calm (age_rets hX s _) ?_
    rintro v g6 hx6 rfl
    have hn6 := hx6.next
    rw [f3]
    simp +decide (disch := first | assumption | (apply GH.ok_push; assumption) | exact cellV_int _ _ | exact cellV_bool _ | omega) only [go_sem, ↓reduceIte, Nat.reduceEqDiff, Nat.reduceAdd, Int.reduceToNat]
    refine CallD.calm (refAge_rets hX s _) ?_
    rintro v g7 hx7 rfl
    have hn7 := hx7.next
    rw [f3]
    simp +decide (disch := first | assumption | (apply GH.ok_push; assumption) | exact cellV_int _ _ | exact cellV_bool _ | omega) only [go_sem, ↓reduceIte, Nat.reduceEqDiff, Nat.reduceAdd, Int.reduceToNat]
    refine CallD.calm (hX.alive _) ?_
    rintro v g8 hx8 ⟨rfl, rfl⟩
    simp +decide (disch := first | assumption | (apply GH.ok_push; assumption) | exact cellV_int _ _ | exact cellV_bool _ | omega) only [go_sem, ↓reduceIte, Nat.reduceEqDiff, Nat.reduceAdd, Int.reduceToNat]
    intro hx
    exact ⟨by first | exact Nat.le_refl _ | omega, rfl⟩
end Go.Proofs.Ytgnnhenbmnopaaa
set_option maxRecDepth 100000
set_option maxHeartbeats 8000000
set_option linter.unusedSimpArgs false
set_option linter.unusedVariables false
namespace Go.Proofs.Ytgnnhenbmnopaaa
open Go.Ds Go.Aw
theorem few_word {ds : List Nat} (h : Wd ds) : (decide ((Try.txt ds).size ≤ 1000) && decide ((⟨#[]⟩ : ByteArray).size ≤ 1000)) = true := by
  have := h.len
  have h0 : (⟨#[]⟩ : ByteArray).size = 0 := rfl
  rw [Try.txt_size, h0, decide_eq_true (by omega)]
  rfl
theorem aErr_nat {k : Nat} (hk : k ≤ 40) {ds : List Nat} (h : Wd ds) : aErr (k : Int) (Try.txt ds) = derr k ds := by
  rw [aErr_word h, dErr_days (by unfold daysE; rw [if_neg (by omega)])]
  rfl
theorem daysV_word {k : Nat} (hk : k ≤ 40) {ds : List Nat} (h : Wd ds) : daysV (k : Int) (Try.txt ds) = if derr k ds = 0 then .tuple #[.string (Try.txt (wd k ds)), .int .i64 0] else .tuple #[.string ⟨#[]⟩, .int .i64 (derr k ds)] := by
  unfold daysV
  rw [aErr_nat hk h, digs_txt h.dig]
  rfl
theorem wd_dig0 {ds : List Nat} (h : Wd ds) {k : Nat} (hk : derr k ds = 0) : Dig (wd k ds) := wd_dig h.dig (derr_zero.1 hk)
theorem eqB_same (a : Bool) : eqBF false (.bool a) (.bool a) = some (.bool true) := by cases a <;> rfl
theorem conv_u8 (m k : Nat) (hk : 0 < k) (h : k < 256) : convF .i64 (.int .u8 ((m : Int).tmod (k : Int))) = some (.int .i64 ((m % k : Nat) : Int)) := by
  have e : ((m : Int).tmod (k : Int)) = ((m % k : Nat) : Int) := (Int.ofNat_tmod m k).symm
  have := Nat.mod_lt m hk
  rw [e]
  show some (Value.int .i64 (wrapF .i64 _)) = _
  rw [wr64 (by omega) (by omega)]
theorem Wd.say {ds : List Nat} (h : Wd ds) (hs : Sayable ds) (hl : (Aw.say ds).length ≤ 200) : Wd (Aw.say ds) := ⟨say_dig h.dig hs, say_ne h.ne, hl⟩
/-- No word but 22 comes again. -/
theorem neverLaw_rets {X : Caller} (hX : Xok X) (s : ByteArray) (n : Int) (hn : 0 ≤ n) (hn2 : n < 256) (g : GH) : Rets Try.prog X 13 [.string s, .int .u8 n] g (fun v g' lo => g.next ≤ lo ∧ v = .bool true) := by
  refine Rets.run hX.pres p13 (hX.free 13 (by decide) _ _) rfl fun ho => ?_
  simp +decide (disch := first | assumption | (apply GH.ok_push; assumption) | exact cellV_int _ _ | exact cellV_bool _ | omega) only [go_sem, ↓reduceIte, Nat.reduceEqDiff, Nat.reduceAdd, Int.reduceToNat]
  refine CallD.calm (few_rets hX.toXfr _ _ _) ?_
  rintro v g1 hx1 ⟨rfl, rfl⟩
  cases q : (decide (s.size ≤ 1000) && decide ((⟨#[]⟩ : ByteArray).size ≤ 1000)) with
  | false =>
    simp +decide (disch := first | assumption | (apply GH.ok_push; assumption) | exact cellV_int _ _ | exact cellV_bool _ | omega) only [go_sem, ↓reduceIte, Nat.reduceEqDiff, Nat.reduceAdd, Int.reduceToNat]
    refine CallD.calm (hX.alive _) ?_
    rintro v g2 hx2 ⟨rfl, rfl⟩
    simp +decide (disch := first | assumption | (apply GH.ok_push; assumption) | exact cellV_int _ _ | exact cellV_bool _ | omega) only [go_sem, ↓reduceIte, Nat.reduceEqDiff, Nat.reduceAdd, Int.reduceToNat]
    intro hx
    exact ⟨Nat.le_refl _, rfl⟩
  | true =>
    simp +decide (disch := first | assumption | (apply GH.ok_push; assumption) | exact cellV_int _ _ | exact cellV_bool _ | omega) only [go_sem, ↓reduceIte, Nat.reduceEqDiff, Nat.reduceAdd, Int.reduceToNat]
    refine CallD.calm (refWord_rets hX.toXfr s _) ?_
    rintro v g2 hx2 ⟨rfl, rfl⟩
    by_cases hz : werr s = 0
    · obtain ⟨ds, hw, rfl⟩ := werr_word hz
      obtain ⟨m, rfl⟩ : ∃ m : Nat, n = m := ⟨n.toNat, by omega⟩
      have hcv := conv_u8 m 20 (by omega) (by omega)
      have hm := Nat.mod_lt m (show 0 < 20 by omega)
      obtain ⟨k, hk⟩ : ∃ k : Nat, k = 1 + m % 20 := ⟨_, rfl⟩
      have hkc : (1 + ((m % 20 : Nat) : Int)) = (k : Int) := by omega
      have hcv' : convF .i64 (.int .u8 ((m : Int).tmod 20)) = some (.int .i64 ((m % 20 : Nat) : Int)) := hcv
      simp +decide (disch := first | assumption | (apply GH.ok_push; assumption) | exact cellV_int _ _ | exact cellV_bool _ | omega) only [go_sem, ↓reduceIte, Nat.reduceEqDiff, Nat.reduceAdd, Int.reduceToNat, hz, hcv', hkc]
      refine CallD.calm (days_rets hX (Try.txt ds) k _) ?_
      rintro v g3 hx3 rfl
      have hn3 := hx3.next
      rw [daysV_word (by omega) hw]
      have h22 := is22 hw.dig
      by_cases hE : derr k ds = 0
      · rw [if_pos hE]
        have hdk := wd_dig0 hw hE
        by_cases c : ds = [2, 2]
        · have e1 : decide (Try.txt (wd k ds) = Try.txt ds) = true := decide_eq_true (by rw [c, wd_22])
          have e2 : decide (Try.txt ds = (⟨#[50, 50]⟩ : ByteArray)) = true := decide_eq_true (h22.2 c)
          have e3 := eqB_same true
          simp +decide (disch := first | assumption | (apply GH.ok_push; assumption) | exact cellV_int _ _ | exact cellV_bool _ | omega) only [go_sem, ↓reduceIte, Nat.reduceEqDiff, Nat.reduceAdd, Int.reduceToNat, e1, e2, e3]
          refine CallD.calm (hX.alive _) ?_
          rintro v g4 hx4 ⟨rfl, rfl⟩
          simp +decide (disch := first | assumption | (apply GH.ok_push; assumption) | exact cellV_int _ _ | exact cellV_bool _ | omega) only [go_sem, ↓reduceIte, Nat.reduceEqDiff, Nat.reduceAdd, Int.reduceToNat]
          intro hx
          exact ⟨by first | exact Nat.le_refl _ | omega, rfl⟩
        · have e1 : decide (Try.txt (wd k ds) = Try.txt ds) = false := decide_eq_false (fun z => never hw.dig hw.ne c (by omega) ((txt_inj hdk hw.dig).1 z))
          have e2 : decide (Try.txt ds = (⟨#[50, 50]⟩ : ByteArray)) = false := decide_eq_false (fun z => c (h22.1 z))
          have e3 := eqB_same false
          simp +decide (disch := first | assumption | (apply GH.ok_push; assumption) | exact cellV_int _ _ | exact cellV_bool _ | omega) only [go_sem, ↓reduceIte, Nat.reduceEqDiff, Nat.reduceAdd, Int.reduceToNat, e1, e2, e3]
          refine CallD.calm (hX.alive _) ?_
          rintro v g4 hx4 ⟨rfl, rfl⟩
          simp +decide (disch := first | assumption | (apply GH.ok_push; assumption) | exact cellV_int _ _ | exact cellV_bool _ | omega) only [go_sem, ↓reduceIte, Nat.reduceEqDiff, Nat.reduceAdd, Int.reduceToNat]
          intro hx
          exact ⟨by first | exact Nat.le_refl _ | omega, rfl⟩
      · rw [if_neg hE]
        have c : ds ≠ [2, 2] := fun z => hE (by rw [z]; exact derr_22 k)
        have e2 : decide (Try.txt ds = (⟨#[50, 50]⟩ : ByteArray)) = false := decide_eq_false (fun z => c (h22.1 z))
        rcases derr_vals k ds with z | z | z
        · exact absurd z hE
        · rw [z]
          simp +decide (disch := first | assumption | (apply GH.ok_push; assumption) | exact cellV_int _ _ | exact cellV_bool _ | omega) only [go_sem, ↓reduceIte, Nat.reduceEqDiff, Nat.reduceAdd, Int.reduceToNat, e2]
          refine CallD.calm (hX.alive _) ?_
          rintro v g4 hx4 ⟨rfl, rfl⟩
          simp +decide (disch := first | assumption | (apply GH.ok_push; assumption) | exact cellV_int _ _ | exact cellV_bool _ | omega) only [go_sem, ↓reduceIte, Nat.reduceEqDiff, Nat.reduceAdd, Int.reduceToNat]
          intro hx
          exact ⟨by first | exact Nat.le_refl _ | omega, rfl⟩
        · rw [z]
          simp +decide (disch := first | assumption | (apply GH.ok_push; assumption) | exact cellV_int _ _ | exact cellV_bool _ | omega) only [go_sem, ↓reduceIte, Nat.reduceEqDiff, Nat.reduceAdd, Int.reduceToNat, e2]
          refine CallD.calm (hX.alive _) ?_
          rintro v g4 hx4 ⟨rfl, rfl⟩
          simp +decide (disch := first | assumption | (apply GH.ok_push; assumption) | exact cellV_int _ _ | exact cellV_bool _ | omega) only [go_sem, ↓reduceIte, Nat.reduceEqDiff, Nat.reduceAdd, Int.reduceToNat]
          intro hx
          exact ⟨by first | exact Nat.le_refl _ | omega, rfl⟩
    · have hz' : ¬ (werr s = 0) := hz
      simp +decide (disch := first | assumption | (apply GH.ok_push; assumption) | exact cellV_int _ _ | exact cellV_bool _ | omega) only [go_sem, ↓reduceIte, Nat.reduceEqDiff, Nat.reduceAdd, Int.reduceToNat, hz']
      refine CallD.calm (hX.alive _) ?_
      rintro v g3 hx3 ⟨rfl, rfl⟩
      simp +decide (disch := first | assumption | (apply GH.ok_push; assumption) | exact cellV_int _ _ | exact cellV_bool _ | omega) only [go_sem, ↓reduceIte, Nat.reduceEqDiff, Nat.reduceAdd, Int.reduceToNat]
      intro hx
      exact ⟨Nat.le_refl _, rfl⟩
end Go.Proofs.Ytgnnhenbmnopaaa
set_option maxRecDepth 100000
set_option maxHeartbeats 8000000
set_option linter.unusedSimpArgs false
set_option linter.unusedVariables false
namespace Go.Proofs.Ytgnnhenbmnopaaa
open Go.Ds Go.Aw
theorem saidV_ok {ds : List Nat} (h : Sayable ds) : Try.saidV ds = .tuple #[.string (Try.txt (Aw.say ds)), .int .i64 0] := by
  unfold Try.saidV; rw [if_pos h, if_pos h]
theorem saidV_no {ds : List Nat} (h : ¬ Sayable ds) : Try.saidV ds = .tuple #[.string ⟨#[]⟩, .int .i64 4] := by
  unfold Try.saidV; rw [if_neg h, if_neg h]
/-- Ages go up and down by one. -/
theorem agesLaw_rets {X : Caller} (hX : Xok X) (s : ByteArray) (g : GH) : Rets Try.prog X 14 [.string s] g (fun v g' lo => g.next ≤ lo ∧ v = .bool true) := by
  refine Rets.run hX.pres p14 (hX.free 14 (by decide) _ _) rfl fun ho => ?_
  simp +decide (disch := first | assumption | (apply GH.ok_push; assumption) | exact cellV_int _ _ | exact cellV_bool _ | omega) only [go_sem, ↓reduceIte, Nat.reduceEqDiff, Nat.reduceAdd, Int.reduceToNat]
  refine CallD.calm (few_rets hX.toXfr _ _ _) ?_
  rintro v g1 hx1 ⟨rfl, rfl⟩
  cases q : (decide (s.size ≤ 1000) && decide ((⟨#[]⟩ : ByteArray).size ≤ 1000)) with
  | false =>
    simp +decide (disch := first | assumption | (apply GH.ok_push; assumption) | exact cellV_int _ _ | exact cellV_bool _ | omega) only [go_sem, ↓reduceIte, Nat.reduceEqDiff, Nat.reduceAdd, Int.reduceToNat]
    refine CallD.calm (hX.alive _) ?_
    rintro v g2 hx2 ⟨rfl, rfl⟩
    simp +decide (disch := first | assumption | (apply GH.ok_push; assumption) | exact cellV_int _ _ | exact cellV_bool _ | omega) only [go_sem, ↓reduceIte, Nat.reduceEqDiff, Nat.reduceAdd, Int.reduceToNat]
    intro hx
    exact ⟨Nat.le_refl _, rfl⟩
  | true =>
    simp +decide (disch := first | assumption | (apply GH.ok_push; assumption) | exact cellV_int _ _ | exact cellV_bool _ | omega) only [go_sem, ↓reduceIte, Nat.reduceEqDiff, Nat.reduceAdd, Int.reduceToNat]
    refine CallD.calm (refWord_rets hX.toXfr s _) ?_
    rintro v g2 hx2 ⟨rfl, rfl⟩
    by_cases hz : werr s = 0
    · obtain ⟨ds, hw, rfl⟩ := werr_word hz
      have h22 := is22 hw.dig
      have hwl := hw.len
      simp +decide (disch := first | assumption | (apply GH.ok_push; assumption) | exact cellV_int _ _ | exact cellV_bool _ | omega) only [go_sem, ↓reduceIte, Nat.reduceEqDiff, Nat.reduceAdd, Int.reduceToNat, hz]
      refine CallD.calm (age_rets hX (Try.txt ds) _) ?_
      rintro v g3 hx3 rfl
      have hn3 := hx3.next
      by_cases c : ds = [2, 2]
      · have e2 : decide (Try.txt ds = (⟨#[50, 50]⟩ : ByteArray)) = true := decide_eq_true (h22.2 c)
        rw [ageV_22 hw c]
        simp +decide (disch := first | assumption | (apply GH.ok_push; assumption) | exact cellV_int _ _ | exact cellV_bool _ | omega) only [go_sem, ↓reduceIte, Nat.reduceEqDiff, Nat.reduceAdd, Int.reduceToNat, e2]
        refine CallD.calm (hX.alive _) ?_
        rintro v g4 hx4 ⟨rfl, rfl⟩
        simp +decide (disch := first | assumption | (apply GH.ok_push; assumption) | exact cellV_int _ _ | exact cellV_bool _ | omega) only [go_sem, ↓reduceIte, Nat.reduceEqDiff, Nat.reduceAdd, Int.reduceToNat]
        intro hx
        exact ⟨by first | exact Nat.le_refl _ | omega, rfl⟩
      · have e2 : decide (Try.txt ds = (⟨#[50, 50]⟩ : ByteArray)) = false := decide_eq_false (fun z => c (h22.1 z))
        obtain ⟨m, hm, hch⟩ := chain_any hw.dig hw.ne c
        rw [ageV_n hw c hch]
        have hm0 : ¬ ((m : Int) < 0) := by omega
        simp +decide (disch := first | assumption | (apply GH.ok_push; assumption) | exact cellV_int _ _ | exact cellV_bool _ | omega) only [go_sem, ↓reduceIte, Nat.reduceEqDiff, Nat.reduceAdd, Int.reduceToNat, e2]
        refine CallD.calm (beforeP_rets hX _ _) ?_
        rintro v g4 hx4 rfl
        have hn4 := hx4.next
        rw [beforeV_word hw]
        cases hh : heard ds with
        | some v =>
          obtain ⟨k, rfl, hk⟩ : ∃ k, m = k + 1 ∧ Chain v k := by
            cases m with
            | zero => rw [show heard ds = none from hch] at hh; cases hh
            | succ k =>
              obtain ⟨u, hu, hk⟩ := hch
              rw [hh] at hu; cases hu
              exact ⟨k, rfl, hk⟩
          have hp0 : decide ((((k + 1 : Nat) : Int)) > 0) = true := decide_eq_true (by omega)
          have e3 := eqB_same true
          have vsz := Try.txt_size v
          by_cases vl : v.length ≤ 200
          · have d1 : ((Try.txt v).size : Int) ≤ 200 := by omega
            have hwv : Wd v := ⟨heard_dig hw.dig hh, heard_ne hw.dig hw.ne hh, vl⟩
            simp +decide (disch := first | assumption | (apply GH.ok_push; assumption) | exact cellV_int _ _ | exact cellV_bool _ | omega) only [go_sem, ↓reduceIte, Nat.reduceEqDiff, Nat.reduceAdd, Int.reduceToNat, hm0, hp0, e3, d1]
            refine CallD.calm (age_rets hX _ _) ?_
            rintro v gC hxC rfl
            have hnC := hxC.next
            rw [ageV_n hwv (fun z => c (heard_22 (by rw [hh, z]))) hk]
            have wk : wrapF .i64 ((((k + 1 : Nat)) : Int) - 1) = ((k : Nat) : Int) := by rw [wr64 (by omega) (by omega)]; omega
            simp +decide (disch := first | assumption | (apply GH.ok_push; assumption) | exact cellV_int _ _ | exact cellV_bool _ | omega) only [go_sem, ↓reduceIte, Nat.reduceEqDiff, Nat.reduceAdd, Int.reduceToNat, wk]
            refine CallD.calm (say_rets hX _ _) ?_
            rintro v gA hxA rfl
            have hnA := hxA.next
            rw [sayV_word hw]
            by_cases sy : Sayable ds
            · rw [saidV_ok sy]
              have ssz := Try.txt_size (Aw.say ds)
              by_cases sl : (Aw.say ds).length ≤ 200
              · have d1 : ¬ ((200 : Int) < ((Try.txt (Aw.say ds)).size : Int)) := by omega
                simp +decide (disch := first | assumption | (apply GH.ok_push; assumption) | exact cellV_int _ _ | exact cellV_bool _ | omega) only [go_sem, ↓reduceIte, Nat.reduceEqDiff, Nat.reduceAdd, Int.reduceToNat, d1]
                refine CallD.calm (age_rets hX _ _) ?_
                rintro v gB hxB rfl
                have hnB := hxB.next
                rw [ageV_n (hw.say sy sl) (say_not22 c) (show Chain (Aw.say ds) ((k + 1) + 1) from ⟨ds, say_heard ds, hch⟩)]
                have wq : wrapF .i64 ((((k + 1) : Nat) : Int) + 1) = ((((k + 1) + 1 : Nat)) : Int) := by rw [wr64 (by omega) (by omega)]; omega
                simp +decide (disch := first | assumption | (apply GH.ok_push; assumption) | exact cellV_int _ _ | exact cellV_bool _ | omega) only [go_sem, ↓reduceIte, Nat.reduceEqDiff, Nat.reduceAdd, Int.reduceToNat, wq]
                refine CallD.calm (hX.alive _) ?_
                rintro v gz hxz ⟨rfl, rfl⟩
                simp +decide (disch := first | assumption | (apply GH.ok_push; assumption) | exact cellV_int _ _ | exact cellV_bool _ | omega) only [go_sem, ↓reduceIte, Nat.reduceEqDiff, Nat.reduceAdd, Int.reduceToNat]
                intro hx
                exact ⟨by first | exact Nat.le_refl _ | omega, rfl⟩
              · have d1 : (200 : Int) < ((Try.txt (Aw.say ds)).size : Int) := by omega
                simp +decide (disch := first | assumption | (apply GH.ok_push; assumption) | exact cellV_int _ _ | exact cellV_bool _ | omega) only [go_sem, ↓reduceIte, Nat.reduceEqDiff, Nat.reduceAdd, Int.reduceToNat, d1]
                refine CallD.calm (hX.alive _) ?_
                rintro v gz hxz ⟨rfl, rfl⟩
                simp +decide (disch := first | assumption | (apply GH.ok_push; assumption) | exact cellV_int _ _ | exact cellV_bool _ | omega) only [go_sem, ↓reduceIte, Nat.reduceEqDiff, Nat.reduceAdd, Int.reduceToNat]
                intro hx
                exact ⟨by first | exact Nat.le_refl _ | omega, rfl⟩
            · rw [saidV_no sy]
              simp +decide (disch := first | assumption | (apply GH.ok_push; assumption) | exact cellV_int _ _ | exact cellV_bool _ | omega) only [go_sem, ↓reduceIte, Nat.reduceEqDiff, Nat.reduceAdd, Int.reduceToNat]
              refine CallD.calm (hX.alive _) ?_
              rintro v gz hxz ⟨rfl, rfl⟩
              simp +decide (disch := first | assumption | (apply GH.ok_push; assumption) | exact cellV_int _ _ | exact cellV_bool _ | omega) only [go_sem, ↓reduceIte, Nat.reduceEqDiff, Nat.reduceAdd, Int.reduceToNat]
              intro hx
              exact ⟨by first | exact Nat.le_refl _ | omega, rfl⟩
          · have d1 : ¬ (((Try.txt v).size : Int) ≤ 200) := by omega
            simp +decide (disch := first | assumption | (apply GH.ok_push; assumption) | exact cellV_int _ _ | exact cellV_bool _ | omega) only [go_sem, ↓reduceIte, Nat.reduceEqDiff, Nat.reduceAdd, Int.reduceToNat, hm0, hp0, e3, d1]
            refine CallD.calm (say_rets hX _ _) ?_
            rintro v gA hxA rfl
            have hnA := hxA.next
            rw [sayV_word hw]
            by_cases sy : Sayable ds
            · rw [saidV_ok sy]
              have ssz := Try.txt_size (Aw.say ds)
              by_cases sl : (Aw.say ds).length ≤ 200
              · have d1 : ¬ ((200 : Int) < ((Try.txt (Aw.say ds)).size : Int)) := by omega
                simp +decide (disch := first | assumption | (apply GH.ok_push; assumption) | exact cellV_int _ _ | exact cellV_bool _ | omega) only [go_sem, ↓reduceIte, Nat.reduceEqDiff, Nat.reduceAdd, Int.reduceToNat, d1]
                refine CallD.calm (age_rets hX _ _) ?_
                rintro v gB hxB rfl
                have hnB := hxB.next
                rw [ageV_n (hw.say sy sl) (say_not22 c) (show Chain (Aw.say ds) ((k + 1) + 1) from ⟨ds, say_heard ds, hch⟩)]
                have wq : wrapF .i64 ((((k + 1) : Nat) : Int) + 1) = ((((k + 1) + 1 : Nat)) : Int) := by rw [wr64 (by omega) (by omega)]; omega
                simp +decide (disch := first | assumption | (apply GH.ok_push; assumption) | exact cellV_int _ _ | exact cellV_bool _ | omega) only [go_sem, ↓reduceIte, Nat.reduceEqDiff, Nat.reduceAdd, Int.reduceToNat, wq]
                refine CallD.calm (hX.alive _) ?_
                rintro v gz hxz ⟨rfl, rfl⟩
                simp +decide (disch := first | assumption | (apply GH.ok_push; assumption) | exact cellV_int _ _ | exact cellV_bool _ | omega) only [go_sem, ↓reduceIte, Nat.reduceEqDiff, Nat.reduceAdd, Int.reduceToNat]
                intro hx
                exact ⟨by first | exact Nat.le_refl _ | omega, rfl⟩
              · have d1 : (200 : Int) < ((Try.txt (Aw.say ds)).size : Int) := by omega
                simp +decide (disch := first | assumption | (apply GH.ok_push; assumption) | exact cellV_int _ _ | exact cellV_bool _ | omega) only [go_sem, ↓reduceIte, Nat.reduceEqDiff, Nat.reduceAdd, Int.reduceToNat, d1]
                refine CallD.calm (hX.alive _) ?_
                rintro v gz hxz ⟨rfl, rfl⟩
                simp +decide (disch := first | assumption | (apply GH.ok_push; assumption) | exact cellV_int _ _ | exact cellV_bool _ | omega) only [go_sem, ↓reduceIte, Nat.reduceEqDiff, Nat.reduceAdd, Int.reduceToNat]
                intro hx
                exact ⟨by first | exact Nat.le_refl _ | omega, rfl⟩
            · rw [saidV_no sy]
              simp +decide (disch := first | assumption | (apply GH.ok_push; assumption) | exact cellV_int _ _ | exact cellV_bool _ | omega) only [go_sem, ↓reduceIte, Nat.reduceEqDiff, Nat.reduceAdd, Int.reduceToNat]
              refine CallD.calm (hX.alive _) ?_
              rintro v gz hxz ⟨rfl, rfl⟩
              simp +decide (disch := first | assumption | (apply GH.ok_push; assumption) | exact cellV_int _ _ | exact cellV_bool _ | omega) only [go_sem, ↓reduceIte, Nat.reduceEqDiff, Nat.reduceAdd, Int.reduceToNat]
              intro hx
              exact ⟨by first | exact Nat.le_refl _ | omega, rfl⟩
        | none =>
          obtain rfl : m = 0 := by
            cases m with
            | zero => rfl
            | succ k =>
              obtain ⟨u, hu, hk⟩ := hch
              rw [hh] at hu; cases hu
          have e3 := eqB_same false
          simp +decide (disch := first | assumption | (apply GH.ok_push; assumption) | exact cellV_int _ _ | exact cellV_bool _ | omega) only [go_sem, ↓reduceIte, Nat.reduceEqDiff, Nat.reduceAdd, Int.reduceToNat, hm0, e3]
          refine CallD.calm (say_rets hX _ _) ?_
          rintro v gA hxA rfl
          have hnA := hxA.next
          rw [sayV_word hw]
          by_cases sy : Sayable ds
          · rw [saidV_ok sy]
            have ssz := Try.txt_size (Aw.say ds)
            by_cases sl : (Aw.say ds).length ≤ 200
            · have d1 : ¬ ((200 : Int) < ((Try.txt (Aw.say ds)).size : Int)) := by omega
              simp +decide (disch := first | assumption | (apply GH.ok_push; assumption) | exact cellV_int _ _ | exact cellV_bool _ | omega) only [go_sem, ↓reduceIte, Nat.reduceEqDiff, Nat.reduceAdd, Int.reduceToNat, d1]
              refine CallD.calm (age_rets hX _ _) ?_
              rintro v gB hxB rfl
              have hnB := hxB.next
              rw [ageV_n (hw.say sy sl) (say_not22 c) (show Chain (Aw.say ds) (0 + 1) from ⟨ds, say_heard ds, hch⟩)]
              have wq : wrapF .i64 (((0 : Nat) : Int) + 1) = (((0 + 1 : Nat)) : Int) := by rw [wr64 (by omega) (by omega)]; omega
              simp +decide (disch := first | assumption | (apply GH.ok_push; assumption) | exact cellV_int _ _ | exact cellV_bool _ | omega) only [go_sem, ↓reduceIte, Nat.reduceEqDiff, Nat.reduceAdd, Int.reduceToNat, wq]
              refine CallD.calm (hX.alive _) ?_
              rintro v gz hxz ⟨rfl, rfl⟩
              simp +decide (disch := first | assumption | (apply GH.ok_push; assumption) | exact cellV_int _ _ | exact cellV_bool _ | omega) only [go_sem, ↓reduceIte, Nat.reduceEqDiff, Nat.reduceAdd, Int.reduceToNat]
              intro hx
              exact ⟨by first | exact Nat.le_refl _ | omega, rfl⟩
            · have d1 : (200 : Int) < ((Try.txt (Aw.say ds)).size : Int) := by omega
              simp +decide (disch := first | assumption | (apply GH.ok_push; assumption) | exact cellV_int _ _ | exact cellV_bool _ | omega) only [go_sem, ↓reduceIte, Nat.reduceEqDiff, Nat.reduceAdd, Int.reduceToNat, d1]
              refine CallD.calm (hX.alive _) ?_
              rintro v gz hxz ⟨rfl, rfl⟩
              simp +decide (disch := first | assumption | (apply GH.ok_push; assumption) | exact cellV_int _ _ | exact cellV_bool _ | omega) only [go_sem, ↓reduceIte, Nat.reduceEqDiff, Nat.reduceAdd, Int.reduceToNat]
              intro hx
              exact ⟨by first | exact Nat.le_refl _ | omega, rfl⟩
          · rw [saidV_no sy]
            simp +decide (disch := first | assumption | (apply GH.ok_push; assumption) | exact cellV_int _ _ | exact cellV_bool _ | omega) only [go_sem, ↓reduceIte, Nat.reduceEqDiff, Nat.reduceAdd, Int.reduceToNat]
            refine CallD.calm (hX.alive _) ?_
            rintro v gz hxz ⟨rfl, rfl⟩
            simp +decide (disch := first | assumption | (apply GH.ok_push; assumption) | exact cellV_int _ _ | exact cellV_bool _ | omega) only [go_sem, ↓reduceIte, Nat.reduceEqDiff, Nat.reduceAdd, Int.reduceToNat]
            intro hx
            exact ⟨by first | exact Nat.le_refl _ | omega, rfl⟩
    · have hz' : ¬ (werr s = 0) := hz
      simp +decide (disch := first | assumption | (apply GH.ok_push; assumption) | exact cellV_int _ _ | exact cellV_bool _ | omega) only [go_sem, ↓reduceIte, Nat.reduceEqDiff, Nat.reduceAdd, Int.reduceToNat, hz']
      refine CallD.calm (hX.alive _) ?_
      rintro v g3 hx3 ⟨rfl, rfl⟩
      simp +decide (disch := first | assumption | (apply GH.ok_push; assumption) | exact cellV_int _ _ | exact cellV_bool _ | omega) only [go_sem, ↓reduceIte, Nat.reduceEqDiff, Nat.reduceAdd, Int.reduceToNat]
      intro hx
      exact ⟨Nat.le_refl _, rfl⟩
end Go.Proofs.Ytgnnhenbmnopaaa
set_option maxRecDepth 100000
set_option linter.unusedVariables false
namespace Go.Proofs.Ytgnnhenbmnopaaa
open Go.Ds Go.Aw
theorem few_in (a b : ByteArray) (w : World) : Calls Try.prog 16 #[.string a, .string b] w fun e w' => e = .returned (.bool (decide (a.size ≤ 1000) && decide (b.size ≤ 1000))) ∧ RowKit.Below w.heap.size w w' :=
  have inst : Inhabited Bound := ⟨⟨0⟩⟩
  Rets.calls X0_orac mixedO (args := [.string a, .string b]) rfl (X0_free (by decide) _ _) rfl ((few_rets X0_ok.toXfr a b GH.zero).mono fun _ _ _ _ h => h.2.1) w
theorem word_in (s : ByteArray) (w : World) : Calls Try.prog 19 #[.string s] w fun e w' => e = .returned (.int .i64 (werr s)) ∧ RowKit.Below w.heap.size w w' :=
  have inst : Inhabited Bound := ⟨⟨0⟩⟩
  Rets.calls X0_orac mixedO (args := [.string s]) rfl (X0_free (by decide) _ _) rfl ((refWord_rets X0_ok.toXfr s GH.zero).mono fun _ _ _ _ h => h.2.1) w
theorem isWord_in (s : ByteArray) (w : World) : Calls Try.prog 18 #[.string s] w fun e w' => e = .returned (.bool (isW s)) ∧ RowKit.Below w.heap.size w w' :=
  have inst : Inhabited Bound := ⟨⟨0⟩⟩
  Rets.calls X0_orac mixedO (args := [.string s]) rfl (X0_free (by decide) _ _) rfl ((isWord_rets X0_ok.toXfr s GH.zero).mono fun _ _ _ _ h => h.2) w
theorem say_in (s : ByteArray) {v : Value} (hv : sayV s = v) (hp : plainC v = true) (w : World) : Calls Try.prog 27 #[.string s] w fun e w' => e = .returned v ∧ RowKit.Below w.heap.size w w' :=
  have inst : Inhabited Bound := ⟨⟨0⟩⟩
  Rets.calls X0_orac mixedO (args := [.string s]) rfl (X0_free (by decide) _ _) hp ((say_rets X0_ok s GH.zero).mono fun _ _ _ _ h => h.2.trans hv) w
theorem before_in (s : ByteArray) {v : Value} (hv : beforeV s = v) (hp : plainC v = true) (w : World) : Calls Try.prog 29 #[.string s] w fun e w' => e = .returned v ∧ RowKit.Below w.heap.size w w' :=
  have inst : Inhabited Bound := ⟨⟨0⟩⟩
  Rets.calls X0_orac mixedO (args := [.string s]) rfl (X0_free (by decide) _ _) hp ((beforeP_rets X0_ok s GH.zero).mono fun _ _ _ _ h => h.2.trans hv) w
theorem days_in (s : ByteArray) (n : Int) {v : Value} (hv : daysV n s = v) (hp : plainC v = true) (w : World) : Calls Try.prog 33 #[.string s, .int .i64 n] w fun e w' => e = .returned v ∧ RowKit.Below w.heap.size w w' :=
  have inst : Inhabited Bound := ⟨⟨0⟩⟩
  Rets.calls X0_orac mixedO (args := [.string s, .int .i64 n]) rfl (X0_free (by decide) _ _) hp ((days_rets X0_ok s n GH.zero).mono fun _ _ _ _ h => h.2.trans hv) w
theorem plainT (s : ByteArray) (n : Int) : plainC (.tuple #[.string s, .int .i64 n]) = true := rfl
end Go.Proofs.Ytgnnhenbmnopaaa
set_option maxRecDepth 100000
set_option maxHeartbeats 8000000
set_option linter.unusedSimpArgs false
set_option linter.unusedVariables false
namespace Go.Proofs.Ytgnnhenbmnopaaa
open Go.Ds Go.Aw
open Classical in
theorem apartV_ok {n : Nat} (hn : n ≤ 40) {l r : ByteArray} (h : apErr (n : Int) l r = 0) : ∃ a b, Wd a ∧ Wd b ∧ l = Try.txt a ∧ r = Try.txt b ∧ a.length + b.length ≤ 200 ∧ derr n a = 0 ∧ derr n b = 0 ∧ derr n (a ++ b) = 0 ∧ apartV (n : Int) l r = .tuple #[.bool (decide (ApartL a b n)), .int .i64 0] := by
  have h0 := h
  unfold apErr at h
  split at h
  · rename_i h1
    obtain ⟨a, b, ha, hb, rfl, rfl, hd, hl⟩ := apE_zero h1
    rw [digs_txt ha.dig, digs_txt hb.dig] at h
    have en : ((n : Int)).toNat = n := rfl
    rw [en] at h
    split at h
    · rename_i h2
      split at h
      · rename_i h3
        refine ⟨a, b, ha, hb, rfl, rfl, hl, h2, h3, h, ?_⟩
        unfold apartV
        rw [h0, digs_txt ha.dig, digs_txt hb.dig, en]
        congr 3
        simp
      · rename_i h3; exact absurd h h3
    · rename_i h2; exact absurd h h2
  · rename_i h1; exact absurd h h1
theorem countV_word {k : Nat} (hk : k ≤ 40) {ds : List Nat} (h : Wd ds) (h0 : derr k ds = 0) : countV (k : Int) (Try.txt ds) = .tuple #[.agg (cn3 (wd k ds)).toArray, .int .i64 0] := by
  unfold countV
  rw [aErr_nat hk h, if_pos h0, digs_txt h.dig]
  rfl
theorem cn3_app (a b : List Nat) : cn3 (a ++ b) = [.int .i64 ((a.count 1 + b.count 1 : Nat)), .int .i64 ((a.count 2 + b.count 2 : Nat)), .int .i64 ((a.count 3 + b.count 3 : Nat))] := by
  simp only [cn3, List.count_append]
open Classical in
theorem apartV_word {n : Nat} (hn : n ≤ 40) {a b : List Nat} (ha : Wd a) (hb : Wd b) (hl : a.length + b.length ≤ 200) (d1 : derr n a = 0) (d2 : derr n b = 0) (d3 : derr n (a ++ b) = 0) : apartV (n : Int) (Try.txt a) (Try.txt b) = .tuple #[.bool (decide (ApartL a b n)), .int .i64 0] := by
  have h1 : daysE (n : Int) = 0 := by unfold daysE; rw [if_neg (by omega)]
  have h0 : apE (n : Int) (Try.txt a) (Try.txt b) = 0 := by
    unfold apE
    rw [if_pos ha.werr, if_pos hb.werr, if_pos h1, Try.txt_size, Try.txt_size, if_neg (by omega)]
  have en : ((n : Int)).toNat = n := rfl
  have h2 : apErr (n : Int) (Try.txt a) (Try.txt b) = 0 := by
    unfold apErr
    rw [if_pos h0, digs_txt ha.dig, digs_txt hb.dig, en, if_pos d1, if_pos d2, d3]
  unfold apartV
  rw [h2, digs_txt ha.dig, digs_txt hb.dig, en]
  congr 3
  simp
theorem conv_byte {p : Nat} (h : p < 256) : convF .i64 (.int .u8 (p : Int)) = some (.int .i64 (p : Int)) := by
  show some (Value.int .i64 (wrapF .i64 _)) = _
  rw [wr64 (by omega) (by omega)]
open Classical in
/-- The laws of the counts. -/
theorem addedLaw_rets {X : Caller} (hX : Xok X) (l r : ByteArray) (n : Int) (hn : 0 ≤ n) (hn2 : n < 256) (w : Int) (hw : 0 ≤ w) (hw2 : w < 256) (g : GH) : Rets Try.prog X 15 [.string l, .string r, .int .u8 n, .int .u8 w] g (fun v g' lo => g.next ≤ lo ∧ v = .bool true) := by
  refine Rets.run hX.pres p15 (hX.free 15 (by decide) _ _) rfl fun ho => ?_
  simp +decide (disch := first | assumption | (apply GH.ok_push; assumption) | exact cellV_int _ _ | exact cellV_bool _ | omega) only [go_sem, ↓reduceIte, Nat.reduceEqDiff, Nat.reduceAdd, Int.reduceToNat]
  refine CallD.calm (few_rets hX.toXfr _ _ _) ?_
  rintro v g1 hx1 ⟨rfl, rfl⟩
  cases q : (decide (l.size ≤ 1000) && decide (r.size ≤ 1000)) with
  | false =>
    simp +decide (disch := first | assumption | (apply GH.ok_push; assumption) | exact cellV_int _ _ | exact cellV_bool _ | omega) only [go_sem, ↓reduceIte, Nat.reduceEqDiff, Nat.reduceAdd, Int.reduceToNat]
    refine CallD.calm (hX.alive _) ?_
    rintro v g2 hx2 ⟨rfl, rfl⟩
    simp +decide (disch := first | assumption | (apply GH.ok_push; assumption) | exact cellV_int _ _ | exact cellV_bool _ | omega) only [go_sem, ↓reduceIte, Nat.reduceEqDiff, Nat.reduceAdd, Int.reduceToNat]
    intro hx
    exact ⟨Nat.le_refl _, rfl⟩
  | true =>
    obtain ⟨m, rfl⟩ : ∃ m : Nat, n = m := ⟨n.toNat, by omega⟩
    obtain ⟨p, rfl⟩ : ∃ p : Nat, w = p := ⟨w.toNat, by omega⟩
    have hm := Nat.mod_lt m (show 0 < 20 by omega)
    obtain ⟨k, hk⟩ : ∃ k : Nat, k = m % 20 := ⟨_, rfl⟩
    have hcv : convF .i64 (.int .u8 ((m : Int).tmod 20)) = some (.int .i64 (k : Int)) := by rw [hk]; exact conv_u8 m 20 (by omega) (by omega)
    simp +decide (disch := first | assumption | (apply GH.ok_push; assumption) | exact cellV_int _ _ | exact cellV_bool _ | omega) only [go_sem, ↓reduceIte, Nat.reduceEqDiff, Nat.reduceAdd, Int.reduceToNat, hcv]
    refine CallD.calm (apart_rets hX l r k _) ?_
    rintro v g2 hx2 rfl
    have hn2 := hx2.next
    have hok2 := hx2.ok (hx1.ok ho)
    by_cases hE : apErr (k : Int) l r = 0
    · obtain ⟨a, b, ha, hb, rfl, rfl, hl, d1, d2, d3, hv⟩ := apartV_ok (by omega) hE
      rw [hv]
      by_cases hA : ApartL a b k
      · rw [decide_eq_true hA]
        simp +decide (disch := first | assumption | exact cellV_int _ _ | exact cellV_bool _ | omega | (simp only [GH.pn, GH.sn] <;> omega) | (with_reducible ((repeat (first | apply GH.ok_push | apply GH.ok_set)); assumption)) | ((try simp only [GH.push_hid, GH.set_hid]); first | assumption | (refine GH.vis ?_ ?_ <;> first | assumption | ((try simp only [GH.pn, GH.sn]) <;> omega)))) only [go_sem, ↓reduceIte, Nat.reduceEqDiff, Nat.reduceAdd, Int.reduceToNat, Int.reduceAdd, Int.reduceNeg, Int.reduceSub, Int.reduceMul, Int.reduceLT, Int.reduceLE, Int.reduceEq, ↓GH.gp_eq, ↓GH.gp_ne, ↓GH.gs_eq, ↓GH.gs_ne, GH.push_next, GH.set_next]
        refine CallD.calm (count_rets hX _ _ _) ?_
        rintro v g3 hx3 rfl
        have hn3 := hx3.next
        rw [countV_word (by omega) ha d1]
        have ho3 := hx3.ok hok2
        simp +decide (disch := first | assumption | exact cellV_int _ _ | exact cellV_bool _ | omega | (simp only [GH.pn, GH.sn] <;> omega) | (with_reducible ((repeat (first | apply GH.ok_push | apply GH.ok_set)); assumption)) | ((try simp only [GH.push_hid, GH.set_hid]); first | assumption | (refine GH.vis ?_ ?_ <;> first | assumption | ((try simp only [GH.pn, GH.sn]) <;> omega)))) only [go_sem, ↓reduceIte, Nat.reduceEqDiff, Nat.reduceAdd, Int.reduceToNat, Int.reduceAdd, Int.reduceNeg, Int.reduceSub, Int.reduceMul, Int.reduceLT, Int.reduceLE, Int.reduceEq, ↓GH.gp_eq, ↓GH.gp_ne, ↓GH.gs_eq, ↓GH.gs_ne, GH.push_next, GH.set_next]
        refine CallD.calm (count_rets hX _ _ _) ?_
        rintro v g4 hx4 rfl
        have hn4 := hx4.next
        simp only [GH.pn, GH.sn] at hn4
        have ho4 := hx4.ok (by with_reducible ((repeat (first | apply GH.ok_push | apply GH.ok_set)); assumption))
        have q4 : g4.get g3.next = cellsOb (cn3 (wd k a)) 38 := (hx4.kept.gets _ (by simp only [GH.pn, GH.sn]; omega)).trans (by simp (disch := first | assumption | exact cellV_int _ _ | exact cellV_bool _ | omega | (simp only [GH.pn, GH.sn] <;> omega) | (with_reducible ((repeat (first | apply GH.ok_push | apply GH.ok_set)); assumption)) | ((try simp only [GH.push_hid, GH.set_hid]); first | assumption | (refine GH.vis ?_ ?_ <;> first | assumption | ((try simp only [GH.pn, GH.sn]) <;> omega)))) only [↓GH.gp_eq, ↓GH.gp_ne, ↓GH.gs_eq, ↓GH.gs_ne, GH.push_next, GH.set_next]; first | done | exact rfl)
        rw [countV_word (by omega) hb d2]
        have hadd : strB .add (Try.txt a) (Try.txt b) = some (.string (Try.txt (a ++ b))) := by rw [str_add (by rw [Try.txt_size, Try.txt_size]; omega), txt_app]
        simp +decide (disch := first | assumption | exact cellV_int _ _ | exact cellV_bool _ | omega | (simp only [GH.pn, GH.sn] <;> omega) | (with_reducible ((repeat (first | apply GH.ok_push | apply GH.ok_set)); assumption)) | ((try simp only [GH.push_hid, GH.set_hid]); first | assumption | (refine GH.vis ?_ ?_ <;> first | assumption | ((try simp only [GH.pn, GH.sn]) <;> omega)))) only [go_sem, ↓reduceIte, Nat.reduceEqDiff, Nat.reduceAdd, Int.reduceToNat, Int.reduceAdd, Int.reduceNeg, Int.reduceSub, Int.reduceMul, Int.reduceLT, Int.reduceLE, Int.reduceEq, ↓GH.gp_eq, ↓GH.gp_ne, ↓GH.gs_eq, ↓GH.gs_ne, GH.push_next, GH.set_next, hadd]
        refine CallD.calm (count_rets hX _ _ _) ?_
        rintro v g5 hx5 rfl
        have hn5 := hx5.next
        simp only [GH.pn, GH.sn] at hn5
        have ho5 := hx5.ok (by with_reducible ((repeat (first | apply GH.ok_push | apply GH.ok_set)); assumption))
        have q5 : g5.get g3.next = cellsOb (cn3 (wd k a)) 38 := (hx5.kept.gets _ (by simp only [GH.pn, GH.sn]; omega)).trans (Eq.trans (by simp (disch := first | assumption | exact cellV_int _ _ | exact cellV_bool _ | omega | (simp only [GH.pn, GH.sn] <;> omega) | (with_reducible ((repeat (first | apply GH.ok_push | apply GH.ok_set)); assumption)) | ((try simp only [GH.push_hid, GH.set_hid]); first | assumption | (refine GH.vis ?_ ?_ <;> first | assumption | ((try simp only [GH.pn, GH.sn]) <;> omega)))) only [↓GH.gp_eq, ↓GH.gp_ne, ↓GH.gs_eq, ↓GH.gs_ne, GH.push_next, GH.set_next]; first | done | exact rfl) q4)
        have q6 : g5.get g4.next = cellsOb (cn3 (wd k b)) 38 := (hx5.kept.gets _ (by simp only [GH.pn, GH.sn]; omega)).trans (by simp (disch := first | assumption | exact cellV_int _ _ | exact cellV_bool _ | omega | (simp only [GH.pn, GH.sn] <;> omega) | (with_reducible ((repeat (first | apply GH.ok_push | apply GH.ok_set)); assumption)) | ((try simp only [GH.push_hid, GH.set_hid]); first | assumption | (refine GH.vis ?_ ?_ <;> first | assumption | ((try simp only [GH.pn, GH.sn]) <;> omega)))) only [↓GH.gp_eq, ↓GH.gp_ne, ↓GH.gs_eq, ↓GH.gs_ne, GH.push_next, GH.set_next]; first | done | exact rfl)
        rw [countV_word (by omega) (ha.app hb hl) d3, hA k (Nat.le_refl k), cn3_app]
        have la := wd_len ha.len (derr_zero.1 d1)
        have lb := wd_len hb.len (derr_zero.1 d2)
        obtain ⟨x1, x2, x3, hx⟩ : ∃ x1 x2 x3, x1 = (wd k a).count 1 ∧ x2 = (wd k a).count 2 ∧ x3 = (wd k a).count 3 := ⟨_, _, _, rfl, rfl, rfl⟩
        obtain ⟨y1, y2, y3, hy⟩ : ∃ x1 x2 x3, x1 = (wd k b).count 1 ∧ x2 = (wd k b).count 2 ∧ x3 = (wd k b).count 3 := ⟨_, _, _, rfl, rfl, rfl⟩
        have bx1 : x1 ≤ 100000 := by rw [hx.1]; exact Nat.le_trans List.count_le_length la
        have bx2 : x2 ≤ 100000 := by rw [hx.2.1]; exact Nat.le_trans List.count_le_length la
        have bx3 : x3 ≤ 100000 := by rw [hx.2.2]; exact Nat.le_trans List.count_le_length la
        have by1 : y1 ≤ 100000 := by rw [hy.1]; exact Nat.le_trans List.count_le_length lb
        have by2 : y2 ≤ 100000 := by rw [hy.2.1]; exact Nat.le_trans List.count_le_length lb
        have by3 : y3 ≤ 100000 := by rw [hy.2.2]; exact Nat.le_trans List.count_le_length lb
        rw [cn3, ← hx.1, ← hx.2.1, ← hx.2.2] at q5
        rw [cn3, ← hy.1, ← hy.2.1, ← hy.2.2] at q6
        rw [← hx.1, ← hx.2.1, ← hx.2.2, ← hy.1, ← hy.2.1, ← hy.2.2]
        have z1 : wrapF .i64 ((x1 : Int) + (y1 : Int)) = ((x1 + y1 : Nat) : Int) := by rw [wr64 (by omega) (by omega)]; omega
        have z2 : wrapF .i64 ((x2 : Int) + (y2 : Int)) = ((x2 + y2 : Nat) : Int) := by rw [wr64 (by omega) (by omega)]; omega
        have z3 : wrapF .i64 ((x3 : Int) + (y3 : Int)) = ((x3 + y3 : Nat) : Int) := by rw [wr64 (by omega) (by omega)]; omega
        simp +decide (disch := first | assumption | exact cellV_int _ _ | exact cellV_bool _ | omega | (simp only [GH.pn, GH.sn] <;> omega) | (with_reducible ((repeat (first | apply GH.ok_push | apply GH.ok_set)); assumption)) | ((try simp only [GH.push_hid, GH.set_hid]); first | assumption | (refine GH.vis ?_ ?_ <;> first | assumption | ((try simp only [GH.pn, GH.sn]) <;> omega)))) only [go_sem, ↓reduceIte, Nat.reduceEqDiff, Nat.reduceAdd, Int.reduceToNat, Int.reduceAdd, Int.reduceNeg, Int.reduceSub, Int.reduceMul, Int.reduceLT, Int.reduceLE, Int.reduceEq, ↓GH.gp_eq, ↓GH.gp_ne, ↓GH.gs_eq, ↓GH.gs_ne, GH.push_next, GH.set_next]
        refine Wk.loops (fun m e g' lo => g1.next ≤ lo ∧ ∃ i : Int, (0 ≤ i ∧ i ≤ 3 ∧ m = (3 - i).toNat) ∧ (g'.get g3.next = cellsOb [.int .i64 x1, .int .i64 x2, .int .i64 x3] 38 ∧ g'.get g4.next = cellsOb [.int .i64 y1, .int .i64 y2, .int .i64 y3] 38 ∧ g'.get g5.next = cellsOb [.int .i64 (x1 + y1 : Nat), .int .i64 (x2 + y2 : Nat), .int .i64 (x3 + y3 : Nat)] 38 ∧ g5.next < g'.next) ∧ (ev e (.s 12) = ptrTo g3.next ∧ ev e (.s 13) = ptrTo g4.next ∧ ev e (.s 15) = ptrTo g5.next ∧ ev e (.s 0) = .string (Try.txt a) ∧ ev e (.s 1) = .string (Try.txt b) ∧ ev e (.s 3) = .int .u8 p ∧ ev e (.s 9) = .int .i64 k ∧ ev e (.s 17) = .int .i64 i))
          (fun e g' lo => g1.next ≤ lo ∧ (ev e (.s 0) = .string (Try.txt a) ∧ ev e (.s 1) = .string (Try.txt b) ∧ ev e (.s 3) = .int .u8 p ∧ ev e (.s 9) = .int .i64 k)) (n := 3) ?_ ?_ ?_
        · refine ⟨by first | exact Nat.le_refl _ | omega, 0, ⟨by omega, by omega, rfl⟩, ⟨?_, ?_, ?_, ?_⟩, (by simp +decide (disch := first | assumption | (apply GH.ok_push; assumption) | exact cellV_int _ _ | exact cellV_bool _ | omega) only [go_sem, ↓reduceIte, Nat.reduceEqDiff, Nat.reduceAdd, Int.reduceToNat]; first | done | exact rfl)⟩
          · refine Eq.trans ?_ q5
            exact (by simp (disch := first | assumption | exact cellV_int _ _ | exact cellV_bool _ | omega | (simp only [GH.pn, GH.sn] <;> omega) | (with_reducible ((repeat (first | apply GH.ok_push | apply GH.ok_set)); assumption)) | ((try simp only [GH.push_hid, GH.set_hid]); first | assumption | (refine GH.vis ?_ ?_ <;> first | assumption | ((try simp only [GH.pn, GH.sn]) <;> omega)))) only [↓GH.gp_eq, ↓GH.gp_ne, ↓GH.gs_eq, ↓GH.gs_ne, GH.push_next, GH.set_next]; first | done | exact rfl)
          · refine Eq.trans ?_ q6
            exact (by simp (disch := first | assumption | exact cellV_int _ _ | exact cellV_bool _ | omega | (simp only [GH.pn, GH.sn] <;> omega) | (with_reducible ((repeat (first | apply GH.ok_push | apply GH.ok_set)); assumption)) | ((try simp only [GH.push_hid, GH.set_hid]); first | assumption | (refine GH.vis ?_ ?_ <;> first | assumption | ((try simp only [GH.pn, GH.sn]) <;> omega)))) only [↓GH.gp_eq, ↓GH.gp_ne, ↓GH.gs_eq, ↓GH.gs_ne, GH.push_next, GH.set_next]; first | done | exact rfl)
          · exact (by simp (disch := first | assumption | exact cellV_int _ _ | exact cellV_bool _ | omega | (simp only [GH.pn, GH.sn] <;> omega) | (with_reducible ((repeat (first | apply GH.ok_push | apply GH.ok_set)); assumption)) | ((try simp only [GH.push_hid, GH.set_hid]); first | assumption | (refine GH.vis ?_ ?_ <;> first | assumption | ((try simp only [GH.pn, GH.sn]) <;> omega)))) only [↓GH.gp_eq, ↓GH.gp_ne, ↓GH.gs_eq, ↓GH.gs_ne, GH.push_next, GH.set_next]; first | done | exact rfl)
          · simp only [GH.pn, GH.sn]; omega
        · rintro e g' lo ho' - ⟨hlo, he⟩
          have hp : p < 256 := by omega
          have hcp := conv_byte hp
          obtain ⟨t, hrt⟩ : ∃ t, t = p % (k + 1) := ⟨_, rfl⟩
          have hlt := Nat.mod_lt p (show 0 < k + 1 by omega)
          have ht : ((p : Int).tmod ((k : Int) + 1)) = (t : Int) := by rw [hrt]; exact (Int.ofNat_tmod p (k + 1)).symm
          have hw1 : wrapF .i64 ((k : Int) + 1) = ((k : Int) + 1) := wr64 (by omega) (by omega)
          have hnz : ¬ ((k : Int) + 1 = 0) := by omega
          have hwt : wrapF .i64 (t : Int) = (t : Int) := wr64 (by omega) (by omega)
          simp +decide (disch := first | assumption | exact cellV_int _ _ | exact cellV_bool _ | omega | (simp only [GH.pn, GH.sn] <;> omega) | (with_reducible ((repeat (first | apply GH.ok_push | apply GH.ok_set)); assumption)) | ((try simp only [GH.push_hid, GH.set_hid]); first | assumption | (refine GH.vis ?_ ?_ <;> first | assumption | ((try simp only [GH.pn, GH.sn]) <;> omega)))) only [go_sem, ↓reduceIte, Nat.reduceEqDiff, Nat.reduceAdd, Int.reduceToNat, Int.reduceAdd, Int.reduceNeg, Int.reduceSub, Int.reduceMul, Int.reduceLT, Int.reduceLE, Int.reduceEq, ↓GH.gp_eq, ↓GH.gp_ne, ↓GH.gs_eq, ↓GH.gs_ne, GH.push_next, GH.set_next, he, hcp, hw1, hnz, ht, hwt]
          refine CallD.calm (apart_rets hX _ _ _ _) ?_
          rintro v g7 hx7 rfl
          have hn7 := hx7.next
          rw [apartV_word (n := t) (by omega) ha hb hl (derr_mono d1 (by omega)) (derr_mono d2 (by omega)) (derr_mono d3 (by omega)), decide_eq_true (show ApartL a b t from fun d hd => hA d (by omega))]
          simp +decide (disch := first | assumption | (apply GH.ok_push; assumption) | exact cellV_int _ _ | exact cellV_bool _ | omega) only [go_sem, ↓reduceIte, Nat.reduceEqDiff, Nat.reduceAdd, Int.reduceToNat]
          refine CallD.calm (hX.alive _) ?_
          rintro v g8 hx8 ⟨rfl, rfl⟩
          simp +decide (disch := first | assumption | (apply GH.ok_push; assumption) | exact cellV_int _ _ | exact cellV_bool _ | omega) only [go_sem, ↓reduceIte, Nat.reduceEqDiff, Nat.reduceAdd, Int.reduceToNat]
          intro hx
          exact ⟨by first | exact Nat.le_refl _ | omega, rfl⟩
        · rintro m e g' lo ho' hl' ih out ⟨hlo, i, ⟨hi, hi3, hm⟩, ⟨b1, b2, b3, b4⟩, he⟩
          have w1 := GH.seen b1 Nat.one_ne_zero
          have w2 := GH.seen b2 Nat.one_ne_zero
          have w3 := GH.seen b3 Nat.one_ne_zero
          rcases (show i = 0 ∨ i = 1 ∨ i = 2 ∨ i = 3 by omega) with rfl | rfl | rfl | rfl
          · have i1 := ia3u g3.next
            have i2 := ia3u g4.next
            have i3 := ia3u g5.next
            simp +decide (disch := first | assumption | exact cellV_int _ _ | exact cellV_bool _ | omega | (simp only [GH.pn, GH.sn] <;> omega) | (with_reducible ((repeat (first | apply GH.ok_push | apply GH.ok_set)); assumption)) | ((try simp only [GH.push_hid, GH.set_hid]); first | assumption | (refine GH.vis ?_ ?_ <;> first | assumption | ((try simp only [GH.pn, GH.sn]) <;> omega)))) only [go_sem, ↓reduceIte, Nat.reduceEqDiff, Nat.reduceAdd, Int.reduceToNat, Int.reduceAdd, Int.reduceNeg, Int.reduceSub, Int.reduceMul, Int.reduceLT, Int.reduceLE, Int.reduceEq, ↓GH.gp_eq, ↓GH.gp_ne, ↓GH.gs_eq, ↓GH.gs_ne, GH.push_next, GH.set_next, he, b1, b2, b3, i1, i2, i3, z1]
            refine ih (m - 1) _ _ _ (by omega) ⟨by omega, _, ⟨?_, ?_, ?_⟩, ⟨b1, b2, b3, b4⟩, (by simp +decide (disch := first | assumption | (apply GH.ok_push; assumption) | exact cellV_int _ _ | exact cellV_bool _ | omega) only [go_sem, ↓reduceIte, Nat.reduceEqDiff, Nat.reduceAdd, Int.reduceToNat, he]; first | done | exact rfl)⟩ <;> first | omega | decide
          · have i1 := ia3u g3.next
            have i2 := ia3u g4.next
            have i3 := ia3u g5.next
            simp +decide (disch := first | assumption | exact cellV_int _ _ | exact cellV_bool _ | omega | (simp only [GH.pn, GH.sn] <;> omega) | (with_reducible ((repeat (first | apply GH.ok_push | apply GH.ok_set)); assumption)) | ((try simp only [GH.push_hid, GH.set_hid]); first | assumption | (refine GH.vis ?_ ?_ <;> first | assumption | ((try simp only [GH.pn, GH.sn]) <;> omega)))) only [go_sem, ↓reduceIte, Nat.reduceEqDiff, Nat.reduceAdd, Int.reduceToNat, Int.reduceAdd, Int.reduceNeg, Int.reduceSub, Int.reduceMul, Int.reduceLT, Int.reduceLE, Int.reduceEq, ↓GH.gp_eq, ↓GH.gp_ne, ↓GH.gs_eq, ↓GH.gs_ne, GH.push_next, GH.set_next, he, b1, b2, b3, i1, i2, i3, z2]
            refine ih (m - 1) _ _ _ (by omega) ⟨by omega, _, ⟨?_, ?_, ?_⟩, ⟨b1, b2, b3, b4⟩, (by simp +decide (disch := first | assumption | (apply GH.ok_push; assumption) | exact cellV_int _ _ | exact cellV_bool _ | omega) only [go_sem, ↓reduceIte, Nat.reduceEqDiff, Nat.reduceAdd, Int.reduceToNat, he]; first | done | exact rfl)⟩ <;> first | omega | decide
          · have i1 := ia3u g3.next
            have i2 := ia3u g4.next
            have i3 := ia3u g5.next
            simp +decide (disch := first | assumption | exact cellV_int _ _ | exact cellV_bool _ | omega | (simp only [GH.pn, GH.sn] <;> omega) | (with_reducible ((repeat (first | apply GH.ok_push | apply GH.ok_set)); assumption)) | ((try simp only [GH.push_hid, GH.set_hid]); first | assumption | (refine GH.vis ?_ ?_ <;> first | assumption | ((try simp only [GH.pn, GH.sn]) <;> omega)))) only [go_sem, ↓reduceIte, Nat.reduceEqDiff, Nat.reduceAdd, Int.reduceToNat, Int.reduceAdd, Int.reduceNeg, Int.reduceSub, Int.reduceMul, Int.reduceLT, Int.reduceLE, Int.reduceEq, ↓GH.gp_eq, ↓GH.gp_ne, ↓GH.gs_eq, ↓GH.gs_ne, GH.push_next, GH.set_next, he, b1, b2, b3, i1, i2, i3, z3]
            refine ih (m - 1) _ _ _ (by omega) ⟨by omega, _, ⟨?_, ?_, ?_⟩, ⟨b1, b2, b3, b4⟩, (by simp +decide (disch := first | assumption | (apply GH.ok_push; assumption) | exact cellV_int _ _ | exact cellV_bool _ | omega) only [go_sem, ↓reduceIte, Nat.reduceEqDiff, Nat.reduceAdd, Int.reduceToNat, he]; first | done | exact rfl)⟩ <;> first | omega | decide
          · simp +decide (disch := first | assumption | exact cellV_int _ _ | exact cellV_bool _ | omega | (simp only [GH.pn, GH.sn] <;> omega) | (with_reducible ((repeat (first | apply GH.ok_push | apply GH.ok_set)); assumption)) | ((try simp only [GH.push_hid, GH.set_hid]); first | assumption | (refine GH.vis ?_ ?_ <;> first | assumption | ((try simp only [GH.pn, GH.sn]) <;> omega)))) only [go_sem, ↓reduceIte, Nat.reduceEqDiff, Nat.reduceAdd, Int.reduceToNat, Int.reduceAdd, Int.reduceNeg, Int.reduceSub, Int.reduceMul, Int.reduceLT, Int.reduceLE, Int.reduceEq, ↓GH.gp_eq, ↓GH.gp_ne, ↓GH.gs_eq, ↓GH.gs_ne, GH.push_next, GH.set_next, he]
            exact out _ _ _ ⟨hlo, (by simp +decide (disch := first | assumption | (apply GH.ok_push; assumption) | exact cellV_int _ _ | exact cellV_bool _ | omega) only [go_sem, ↓reduceIte, Nat.reduceEqDiff, Nat.reduceAdd, Int.reduceToNat, he]; first | done | exact rfl)⟩
      · rw [decide_eq_false hA]
        simp +decide (disch := first | assumption | (apply GH.ok_push; assumption) | exact cellV_int _ _ | exact cellV_bool _ | omega) only [go_sem, ↓reduceIte, Nat.reduceEqDiff, Nat.reduceAdd, Int.reduceToNat]
        refine CallD.calm (hX.alive _) ?_
        rintro v g4 hx4 ⟨rfl, rfl⟩
        simp +decide (disch := first | assumption | (apply GH.ok_push; assumption) | exact cellV_int _ _ | exact cellV_bool _ | omega) only [go_sem, ↓reduceIte, Nat.reduceEqDiff, Nat.reduceAdd, Int.reduceToNat]
        intro hx
        exact ⟨by first | exact Nat.le_refl _ | omega, rfl⟩
    · obtain ⟨e, he⟩ : ∃ e, apErr (k : Int) l r = e := ⟨_, rfl⟩
      rw [he] at hE
      rw [apartV_err he hE]
      have hE' : ¬ (e = 0) := hE
      simp +decide (disch := first | assumption | (apply GH.ok_push; assumption) | exact cellV_int _ _ | exact cellV_bool _ | omega) only [go_sem, ↓reduceIte, Nat.reduceEqDiff, Nat.reduceAdd, Int.reduceToNat, hE']
      refine CallD.calm (hX.alive _) ?_
      rintro v g4 hx4 ⟨rfl, rfl⟩
      simp +decide (disch := first | assumption | (apply GH.ok_push; assumption) | exact cellV_int _ _ | exact cellV_bool _ | omega) only [go_sem, ↓reduceIte, Nat.reduceEqDiff, Nat.reduceAdd, Int.reduceToNat]
      intro hx
      exact ⟨by first | exact Nat.le_refl _ | omega, rfl⟩
end Go.Proofs.Ytgnnhenbmnopaaa
namespace Go.Proofs
open Go.RowKit Go.Shelf Go.Aw Go.Proofs.Ytgnnhenbmnopaaa
theorem below_low {n m : Nat} {w w' : World} (h : Below m w w') (hn : n ≤ m) : Below n w w' := ⟨h.1, h.2, h.3, h.4, fun k hk => h.5 k (by omega)⟩
end Go.Proofs
set_option maxHeartbeats 4000000
namespace Go.Proofs
open Go.RowKit Go.Shelf Go.Aw Go.Proofs.Ytgnnhenbmnopaaa
attribute [local go_sem] Oper.semAt_some
set_option maxRecDepth 100000
set_option linter.unusedVariables false

theorem runs_ok {ds : List Nat} (hw : Wd ds) {N : Nat} (hN : (runs ds).length = N + 1) (w : World) : Calls Try.prog 20 #[.string (Try.txt ds)] w fun e w' => (∃ B cap, e = .returned (.tuple #[.slice (some ⟨B, 0, none⟩) (N + 1) cap, .int .i64 0])) ∧ Below w.heap.size w w' := by
  refine (Try.runs_in (Try.txt ds) w).mono ?_
  intro e w' h
  unfold Try.runsR at h
  rw [if_pos hw.werr, digs_txt hw.dig, hN] at h
  obtain ⟨⟨v, rfl, hown⟩, hb⟩ := h
  obtain ⟨B, cap, rfl⟩ := ownsRow_succ hown
  exact ⟨⟨B, cap, rfl⟩, hb⟩
theorem wrap_id (n : Int) (h : -9223372036854775808 ≤ n) (h2 : n ≤ 9223372036854775807) : IntKind.i64.wrap n = n := by
  simp [IntKind.wrap, IntKind.bits, IntKind.signed]
  omega
theorem bcat {w a b : World} (h : Below w.heap.size w a) (k : Below a.heap.size a b) : Below w.heap.size w b := h.trans (below_low k h.size)
theorem run_last {t : List Nat} (hd : Dig t) (h : 0 < t.length) (hl : t.length ≤ 100000) (w : World) : Sem.run Try.prog (Instr.index 9 (.string (Try.txt t)) (.int .i64 (IntKind.i64.wrap ((t.length : Int) - 1)))) w = .ok (.int .u8 ((48 + t[t.length - 1] : Nat) : Int)) w := by
  have hs := Try.txt_size t
  have hw : IntKind.i64.wrap ((t.length : Int) - 1) = (t.length : Int) - 1 := wrap_id _ (by omega) (by omega)
  have hi : (((t.length : Int) - 1)).toNat = t.length - 1 := by omega
  rw [hw, run_index_string w 9 _ .i64 _ Try.underlying9, dif_pos ⟨by omega, by omega⟩]
  have hg := Try.txt_get hd (t.length - 1) (by omega)
  simp only [hi, hg]
theorem Try.lastLaw_in (s : ByteArray) (n : Int) (hn0 : 0 ≤ n) (hn1 : n < 256) (w : World) : Calls Try.prog 10 #[.string s, .int .u8 n] w fun e w' => e = .returned (.bool true) ∧ Below w.heap.size w w' := by
  go_enter Try.func10, Try.ntmps10
  have h16 := few_in s ⟨#[]⟩
  cases q : (decide (s.size ≤ 1000) && decide ((⟨#[]⟩ : ByteArray).size ≤ 1000)) with
  | false =>
    rw [q] at h16
    go_wp2_with (go_at_call 16; refine (h16 _).mono ?_; rintro e w1 ⟨rfl, b1⟩)
    go_wp2_with (go_at_call 17; refine (alive_calls _).mono ?_; rintro e w2 ⟨rfl, b2⟩)
    go_ret
    exact ⟨rfl, b1.trans (below_low b2 b1.size)⟩
  | true =>
    rw [q] at h16
    have h19 := word_in s
    by_cases hz : werr s = 0
    · rw [hz] at h19
      obtain ⟨ds, hw, rfl⟩ := werr_word hz
      obtain ⟨N, hN⟩ : ∃ N, (runs ds).length = N + 1 := by
        have : (runs ds).length ≠ 0 := fun z => by
          have h1 := say_length ds
          exact say_ne hw.ne (List.eq_nil_of_length_eq_zero (by omega))
        exact ⟨(runs ds).length - 1, by omega⟩
      have h20 := runs_ok hw hN
      have h27 := say_in (Try.txt ds) (sayV_word hw) rfl
      obtain ⟨k, hk⟩ : ∃ k : Nat, n % 20 = k := ⟨(n % 20).toNat, by omega⟩
      have hk20 : k < 20 := by omega
      have hdv := daysV_word (k := k) (by omega) hw
      go_wp2_with (go_at_call 16; refine (h16 _).mono ?_; rintro e w1 ⟨rfl, b1⟩)
      go_wp2_with (go_at_call 19; refine (h19 _).mono ?_; rintro e w2 ⟨rfl, b2⟩)
      go_wp2_with (go_at_call 20; refine (h20 _).mono ?_; rintro e w3 ⟨⟨B, cap, rfl⟩, b3⟩)
      by_cases sy : Sayable ds
      · rw [saidV_ok sy] at h27
        have hl2 : (((Try.txt (Aw.say ds)).size : Int) != wrap64 (2 * ((N : Int) + 1))) = false := by
          have h1 := say_length ds
          have h2 := runs_len ds
          have h3 := hw.len
          have h4 := Try.txt_size (Aw.say ds)
          have h5 : wrap64 (2 * ((N : Int) + 1)) = 2 * ((N : Int) + 1) := Try.w64 (by omega) (by omega)
          rw [h5]
          simp
          omega
        by_cases hE : derr k ds = 0
        · rw [if_pos hE] at hdv
          obtain ⟨t, ht⟩ : ∃ t, wd k ds = t := ⟨_, rfl⟩
          rw [ht] at hdv
          have h33 : ∀ (x : Int), x = k → ∀ w, Calls Try.prog 33 #[.string (Try.txt ds), .int .i64 x] w fun e w' => e = .returned (.tuple #[.string (Try.txt t), .int .i64 0]) ∧ Below w.heap.size w w' := by
            rintro x rfl w
            exact days_in (Try.txt ds) k hdv rfl w
          go_wp2_with (go_at_call 27; refine (h27 _).mono ?_; rintro e w4 ⟨rfl, b4⟩)
          go_wp2_with (go_at_call 33; refine (h33 _ (by first | exact hk | omega) _).mono ?_; rintro e w5 ⟨rfl, b5⟩)
          have hszt : (Try.txt t).size = t.length := Try.txt_size t
          have hszd : (Try.txt ds).size = ds.length := Try.txt_size ds
          have hp1 : 0 < t.length := by rw [← ht]; exact List.length_pos_iff.2 (wd_ne hw.ne (n := k))
          have hp2 : 0 < ds.length := List.length_pos_iff.2 hw.ne
          have hsz0 : decide (0 < (Try.txt t).size) = true := decide_eq_true (by omega)
          have hsz1 : 0 < (Try.txt t).size := by omega
          have hsz2 : 0 < (Try.txt ds).size := by omega
          have hl1 : t.length ≤ 100000 := by rw [← ht]; exact wd_len hw.len (derr_zero.1 hE)
          have hl3 := hw.len
          have htd : Dig t := by rw [← ht]; exact wd_dig0 hw hE
          have hlast : t[t.length - 1] = ds[ds.length - 1] := by
            have h1 := last_wd hw.ne k
            rw [ht, List.getLast?_eq_getElem?, List.getLast?_eq_getElem?, List.getElem?_eq_getElem (by omega), List.getElem?_eq_getElem (by omega)] at h1
            simpa using h1
          have hi1 := run_last htd hp1 hl1
          have hi2 := run_last hw.dig hp2 (by omega)
          rw [hlast] at hi1
          clear ht
          go_wp2
          go_still_tail 17, (by kernel_rfl)
          all_goals
            have b6 : Below w5.heap.size w5 w5.drew := ⟨rfl, rfl, rfl, Nat.le_refl _, fun _ _ => rfl⟩
            change wpList _ _ _ _ _ w5.drew
            generalize w5.drew = w6 at *
            go_wp2_with (go_at_call 17; refine (alive_calls _).mono ?_; rintro e w7 ⟨rfl, b7⟩)
            go_ret
            exact ⟨rfl, bcat (bcat (bcat (bcat (bcat (bcat b1 b2) b3) b4) b5) b6) b7⟩
        · rw [if_neg hE] at hdv
          have hz2 : ∃ z : Int, (z = 4 ∨ z = 8) ∧ derr k ds = z := by
            rcases derr_vals k ds with z | z | z
            · exact absurd z hE
            · exact ⟨4, .inl rfl, z⟩
            · exact ⟨8, .inr rfl, z⟩
          obtain ⟨z, hz3, hz4⟩ := hz2
          rw [hz4] at hdv
          have h33 : ∀ (x : Int), x = k → ∀ w, Calls Try.prog 33 #[.string (Try.txt ds), .int .i64 x] w fun e w' => e = .returned (.tuple #[.string ⟨#[]⟩, .int .i64 z]) ∧ Below w.heap.size w w' := by
            rintro x rfl w
            exact days_in (Try.txt ds) k hdv rfl w
          clear hdv hz4 hE
          rcases hz3 with rfl | rfl
          all_goals
            go_wp2_with (go_at_call 27; refine (h27 _).mono ?_; rintro e w4 ⟨rfl, b4⟩)
            go_wp2_with (go_at_call 33; refine (h33 _ (by first | exact hk | omega) _).mono ?_; rintro e w5 ⟨rfl, b5⟩)
            all_goals
              go_wp2_with (go_at_call 17; refine (alive_calls _).mono ?_; rintro e w7 ⟨rfl, b7⟩)
              go_ret
              exact ⟨rfl, bcat (bcat (bcat (bcat (bcat b1 b2) b3) b4) b5) b7⟩
      · rw [saidV_no sy] at h27
        by_cases hE : derr k ds = 0
        · rw [if_pos hE] at hdv
          obtain ⟨t, ht⟩ : ∃ t, wd k ds = t := ⟨_, rfl⟩
          rw [ht] at hdv
          have h33 : ∀ (x : Int), x = k → ∀ w, Calls Try.prog 33 #[.string (Try.txt ds), .int .i64 x] w fun e w' => e = .returned (.tuple #[.string (Try.txt t), .int .i64 0]) ∧ Below w.heap.size w w' := by
            rintro x rfl w
            exact days_in (Try.txt ds) k hdv rfl w
          go_wp2_with (go_at_call 27; refine (h27 _).mono ?_; rintro e w4 ⟨rfl, b4⟩)
          go_wp2_with (go_at_call 33; refine (h33 _ (by first | exact hk | omega) _).mono ?_; rintro e w5 ⟨rfl, b5⟩)
          have hszt : (Try.txt t).size = t.length := Try.txt_size t
          have hszd : (Try.txt ds).size = ds.length := Try.txt_size ds
          have hp1 : 0 < t.length := by rw [← ht]; exact List.length_pos_iff.2 (wd_ne hw.ne (n := k))
          have hp2 : 0 < ds.length := List.length_pos_iff.2 hw.ne
          have hsz0 : decide (0 < (Try.txt t).size) = true := decide_eq_true (by omega)
          have hsz1 : 0 < (Try.txt t).size := by omega
          have hsz2 : 0 < (Try.txt ds).size := by omega
          have hl1 : t.length ≤ 100000 := by rw [← ht]; exact wd_len hw.len (derr_zero.1 hE)
          have hl3 := hw.len
          have htd : Dig t := by rw [← ht]; exact wd_dig0 hw hE
          have hlast : t[t.length - 1] = ds[ds.length - 1] := by
            have h1 := last_wd hw.ne k
            rw [ht, List.getLast?_eq_getElem?, List.getLast?_eq_getElem?, List.getElem?_eq_getElem (by omega), List.getElem?_eq_getElem (by omega)] at h1
            simpa using h1
          have hi1 := run_last htd hp1 hl1
          have hi2 := run_last hw.dig hp2 (by omega)
          rw [hlast] at hi1
          clear ht
          go_wp2
          go_still_tail 17, (by kernel_rfl)
          all_goals
            have b6 : Below w5.heap.size w5 w5.drew := ⟨rfl, rfl, rfl, Nat.le_refl _, fun _ _ => rfl⟩
            change wpList _ _ _ _ _ w5.drew
            generalize w5.drew = w6 at *
            go_wp2_with (go_at_call 17; refine (alive_calls _).mono ?_; rintro e w7 ⟨rfl, b7⟩)
            go_ret
            exact ⟨rfl, bcat (bcat (bcat (bcat (bcat (bcat b1 b2) b3) b4) b5) b6) b7⟩
        · rw [if_neg hE] at hdv
          have hz2 : ∃ z : Int, (z = 4 ∨ z = 8) ∧ derr k ds = z := by
            rcases derr_vals k ds with z | z | z
            · exact absurd z hE
            · exact ⟨4, .inl rfl, z⟩
            · exact ⟨8, .inr rfl, z⟩
          obtain ⟨z, hz3, hz4⟩ := hz2
          rw [hz4] at hdv
          have h33 : ∀ (x : Int), x = k → ∀ w, Calls Try.prog 33 #[.string (Try.txt ds), .int .i64 x] w fun e w' => e = .returned (.tuple #[.string ⟨#[]⟩, .int .i64 z]) ∧ Below w.heap.size w w' := by
            rintro x rfl w
            exact days_in (Try.txt ds) k hdv rfl w
          clear hdv hz4 hE
          rcases hz3 with rfl | rfl
          all_goals
            go_wp2_with (go_at_call 27; refine (h27 _).mono ?_; rintro e w4 ⟨rfl, b4⟩)
            go_wp2_with (go_at_call 33; refine (h33 _ (by first | exact hk | omega) _).mono ?_; rintro e w5 ⟨rfl, b5⟩)
            all_goals
              go_wp2_with (go_at_call 17; refine (alive_calls _).mono ?_; rintro e w7 ⟨rfl, b7⟩)
              go_ret
              exact ⟨rfl, bcat (bcat (bcat (bcat (bcat b1 b2) b3) b4) b5) b7⟩
    · have hne : ((werr s != 0) = true) := by simpa using hz
      go_wp2_with (go_at_call 16; refine (h16 _).mono ?_; rintro e w1 ⟨rfl, b1⟩)
      go_wp2_with (go_at_call 19; refine (h19 _).mono ?_; rintro e w2 ⟨rfl, b2⟩)
      go_wp2_with (go_at_call 17; refine (alive_calls _).mono ?_; rintro e w3 ⟨rfl, b3⟩)
      go_ret
      exact ⟨rfl, bcat (bcat b1 b2) b3⟩
end Go.Proofs
namespace Go.Proofs.Ytgnnhenbmnopaaa
open Go.ChangeShapes Go.WideShapes Go.ChangeAt Go.RowKit
set_option linter.unusedVariables false
set_option maxRecDepth 100000
open Go.Ds in
theorem aloudLast_calls (s0 : ByteArray) (i1 : Int) (hi1 : 0 ≤ i1 ∧ i1 < 256) (w : World) :
    Calls Try.prog 10 #[.string s0, .int .u8 i1] w fun e w' => e = .returned (.bool true) ∧ RowKit.Below w.heap.size w w' :=
  Try.lastLaw_in s0 i1 hi1.1 hi1.2 w
namespace aloudLast
set_option maxRecDepth 100000 in
theorem lifted (os : Os) (started : os.Started) (H : Type) (enc : TypeId × Value → H) :
    ReturnsInHanded {} Try.checked os 10 .any (Rows.aloudLastSpec.pre6 enc Try.prog Try.f10 Rows.aloudLastRow.domain false) (Rows.aloudLastSpec.post enc Try.prog Try.f10 false true false false) := by
  refine returnsInHanded_of_change (C := Try.checked) ownNone started (by kernel_rfl) Try.func10
    (ChangeSpec.witness6 (enc := enc) (C := Try.checked) false ⟨#[], #[.string ⟨#[]⟩, .int .u8 0], []⟩ 8 (by kernel_rfl) (by kernel_rfl) (by kernel_rfl) (by kernel_rfl)) ?_
  intro W base args ds gs before hval0 hW hcnd _
  have hval : ∀ (j : Nat) t v, Try.f10.params[j]? = some t → args[j]? = some v → Value.okWide Try.prog W .any base t v := hval0
  have hW' := hW
  obtain ⟨p, q, hA0, hV, rfl, hfz, hnd⟩ := hW
  have hA : DataW.TrodAll enc Try.prog W 0 (fun _ => true) true Try.f10.params.toList args.toList ds p := hA0
  rw [Try.params10] at hA hval
  obtain ⟨v0, vs0, d0, ds0, p0, q0, hargs, rfl, rfl, h0, r0⟩ := trodAll_cons hA
  obtain ⟨v1, vs1, d1, ds1, p1, q1, rfl, rfl, rfl, h1, r1⟩ := trodAll_cons r0
  obtain ⟨rfl, rfl, rfl⟩ := trodAll_nil r1
  obtain rfl : args = #[v0, v1] := by cases args; simp_all
  obtain ⟨rfl, rfl⟩ := trodVars_none hV
  have k0 := h0
  have lt0 : ∀ x ∈ p0, x.block < W.heap.size := by obtain ⟨m, hm⟩ := k0; exact DataW.trod_lt m _ _ _ hm
  have k1 := h1
  have lt1 : ∀ x ∈ p1, x.block < W.heap.size := by obtain ⟨m, hm⟩ := k1; exact DataW.trod_lt m _ _ _ hm
  obtain ⟨s0, rfl, rfl, rfl, ls0⟩ := Go.ChangeMaps.open_string Try.underlying9 (hval 0 9 v0 rfl rfl) h0
  obtain ⟨i1, rfl, rfl, rfl, wi1⟩ := open_int Try.underlying5 (hval 1 5 v1 rfl rfl) h1
  have bd1 := bounds_u8 wi1
  clear hA0 hval0
  refine (aloudLast_calls s0 i1 (by omega) W).mono fun e W' ⟨he, bel⟩ => ?_
  subst he
  exact ⟨_, rfl, _, _, _, [], _, [], hW', trodAll_mk1 (shut_bool Try.underlying4 _), (trodAll_cons_mk (Below.trod laidOut (by kernel_rfl) (of_decide_eq_true (by kernel_rfl)) k0 bel lt0) (trodAll_cons_mk (Below.trod laidOut (by kernel_rfl) (of_decide_eq_true (by kernel_rfl)) k1 bel lt1) trodAll_mk0)), rfl, bel.frame _, fun h => by cases h⟩
theorem over : Rows.aloudLastRow.holds Try.pinned (OpenSpec.ofChange Rows.aloudLastSpec) :=
  OpenClaim.holds_of_wide 10 Try.f10 rfl rfl rfl rfl rfl rfl rfl ⟨rfl, rfl, rfl, rfl, rfl⟩ rfl rfl rfl rfl rfl (by kernel_rfl) Try.func10 (by kernel_rfl)
    (of_decide_eq_true (by kernel_rfl)) (by unfold Func.isWrapper; first | (rw [if_pos (by decide +kernel)]; kernel_rfl) | (rw [if_neg (by decide +kernel)]; exact ⟨rfl, rfl⟩))
    (fun os started H enc _ => lifted os started H enc)
/-- The statement. -/
theorem proved : Rows.AloudLastSaid := over
#print axioms proved
end aloudLast
end Go.Proofs.Ytgnnhenbmnopaaa
