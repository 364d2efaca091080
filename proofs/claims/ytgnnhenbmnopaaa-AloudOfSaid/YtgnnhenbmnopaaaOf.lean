/- the law Of: the word with some runs -/
import Derived.Test.YtgnnhenbmnopaaaK5
import Derived.Test.YtgnnhenbmnopaaaK7
import Derived.Test.YtgnnhenbmnopaaaKa
import Derived.Test.YtgnnhenbmnopaaaK3
import Derived.Test.YtgnnhenbmnopaaaDtO
import Derived.Deep.SlicePairs
import Derived.Maps.AppendAt
import Derived.Test.YtgnnhenbmnopaaaKp
set_option linter.all false
set_option linter.unusedSimpArgs false
set_option linter.unnecessarySimpa false
set_option linter.unusedVariables false
set_option linter.unusedSectionVars false
set_option maxRecDepth 100000
set_option maxHeartbeats 8000000
set_option linter.unusedSimpArgs false
set_option linter.unusedVariables false
namespace Go.Proofs.Ytgnnhenbmnopaaa
open Go.Ds Go.Aw
theorem few_rets {X : Caller} (hX : Xfr X) (a b : ByteArray) (g : GH) : Rets Try.prog X 16 [.string a, .string b] g (fun v g' lo => g.next ≤ lo ∧ v = .bool (decide (a.size ≤ 1000) && decide (b.size ≤ 1000)) ∧ g' = g) := by
  refine Rets.run hX.pres p16 (hX.free 16 (by decide) _ _) rfl fun ho => ?_
  by_cases h1 : a.size ≤ 1000
  · by_cases h2 : b.size ≤ 1000
    · simp +decide (disch := first | assumption | (apply GH.ok_push; assumption) | exact cellV_int _ _ | exact cellV_bool _ | omega) only [go_sem, ↓reduceIte, Nat.reduceEqDiff, Nat.reduceAdd, Int.reduceToNat, h1, h2]
      intro hx
      exact ⟨Nat.le_refl _, by simp [h1, h2], rfl⟩
    · simp +decide (disch := first | assumption | (apply GH.ok_push; assumption) | exact cellV_int _ _ | exact cellV_bool _ | omega) only [go_sem, ↓reduceIte, Nat.reduceEqDiff, Nat.reduceAdd, Int.reduceToNat, h1, h2]
      intro hx
      exact ⟨Nat.le_refl _, by simp [h1, h2], rfl⟩
  · simp +decide (disch := first | assumption | (apply GH.ok_push; assumption) | exact cellV_int _ _ | exact cellV_bool _ | omega) only [go_sem, ↓reduceIte, Nat.reduceEqDiff, Nat.reduceAdd, Int.reduceToNat, h1]
    intro hx
    exact ⟨Nat.le_refl _, by simp [h1], rfl⟩
theorem sayV_form (s : ByteArray) : ∃ a n, sayV s = .tuple #[.string a, .int .i64 n] := by
  unfold sayV
  split <;> exact ⟨_, _, rfl⟩
theorem beforeV_form (s : ByteArray) : ∃ a n, beforeV s = .tuple #[.string a, .int .i64 n] := by
  unfold beforeV
  split
  · split <;> exact ⟨_, _, rfl⟩
  · exact ⟨_, _, rfl⟩
theorem ageV_form (s : ByteArray) : ∃ a n, ageV s = .tuple #[.int .i64 a, .int .i64 n] := by
  unfold ageV
  split
  · split <;> exact ⟨_, _, rfl⟩
  · exact ⟨_, _, rfl⟩
theorem saysLaw_rets {X : Caller} (hX : Xok X) (s : ByteArray) (g : GH) : Rets Try.prog X 5 [.string s] g (fun v g' lo => g.next ≤ lo ∧ v = .bool true) := by
  refine Rets.run hX.pres p5 (hX.free 5 (by decide) _ _) rfl fun ho => ?_
  simp +decide (disch := first | assumption | (apply GH.ok_push; assumption) | exact cellV_int _ _ | exact cellV_bool _ | omega) only [go_sem, ↓reduceIte, Nat.reduceEqDiff, Nat.reduceAdd, Int.reduceToNat]
  refine CallD.calm (few_rets hX.toXfr _ _ _) ?_
  rintro v g1 hx1 ⟨rfl, rfl⟩
  cases q : (decide (s.size ≤ 1000) && decide ((⟨#[]⟩ : ByteArray).size ≤ 1000)) with
  | false =>
    simp +decide (disch := first | assumption | (apply GH.ok_push; assumption) | exact cellV_int _ _ | exact cellV_bool _ | omega) only [go_sem, ↓reduceIte, Nat.reduceEqDiff, Nat.reduceAdd, Int.reduceToNat]
    refine CallD.calm (hX.alive _) ?_
    rintro v g2 hx2 ⟨rfl, rfl⟩
    simp +decide (disch := first | assumption | (apply GH.ok_push; assumption) | exact cellV_int _ _ | exact cellV_bool _ | omega) only [go_sem, ↓reduceIte, Nat.reduceEqDiff, Nat.reduceAdd, Int.reduceToNat]
    intro hx
    exact ⟨Nat.le_refl _, rfl⟩
  | true =>
    simp +decide (disch := first | assumption | (apply GH.ok_push; assumption) | exact cellV_int _ _ | exact cellV_bool _ | omega) only [go_sem, ↓reduceIte, Nat.reduceEqDiff, Nat.reduceAdd, Int.reduceToNat]
    obtain ⟨a1, n1, f1⟩ := sayV_form s
    obtain ⟨a2, n2, f2⟩ := beforeV_form s
    obtain ⟨a3, n3, f3⟩ := ageV_form s
    refine CallD.calm (say_rets hX s _) ?_
    rintro v g2 hx2 rfl
    have hn2 := hx2.next
    rw [f1]
    simp +decide (disch := first | assumption | (apply GH.ok_push; assumption) | exact cellV_int _ _ | exact cellV_bool _ | omega) only [go_sem, ↓reduceIte, Nat.reduceEqDiff, Nat.reduceAdd, Int.reduceToNat]
    refine CallD.calm (refSay_rets hX s _) ?_
    rintro v g3 hx3 rfl
    have hn3 := hx3.next
    rw [f1]
    simp +decide (disch := first | assumption | (apply GH.ok_push; assumption) | exact cellV_int _ _ | exact cellV_bool _ | omega) only [go_sem, ↓reduceIte, Nat.reduceEqDiff, Nat.reduceAdd, Int.reduceToNat]
    refine CallD.calm (beforeP_rets hX s _) ?_
    rintro v g4 hx4 rfl
    have hn4 := hx4.next
    rw [f2]
    simp +decide (disch := first | assumption | (apply GH.ok_push; assumption) | exact cellV_int _ _ | exact cellV_bool _ | omega) only [go_sem, ↓reduceIte, Nat.reduceEqDiff, Nat.reduceAdd, Int.reduceToNat]
    refine CallD.calm (refBefore_rets hX s _) ?_
    rintro v g5 hx5 rfl
    have hn5 := hx5.next
    rw [f2]
    simp +decide (disch := first | assumption | (apply GH.ok_push; assumption) | exact cellV_int _ _ | exact cellV_bool _ | omega) only [go_sem, ↓reduceIte, Nat.reduceEqDiff, Nat.reduceAdd, Int.reduceToNat]
    refine CallD.calm (age_rets hX s _) ?_
    rintro v g6 hx6 rfl
    have hn6 := hx6.next
    rw [f3]
    simp +decide (disch := first | assumption | (apply GH.ok_push; assumption) | exact cellV_int _ _ | exact cellV_bool _ | omega) only [go_sem, ↓reduceIte, Nat.reduceEqDiff, Nat.reduceAdd, Int.reduceToNat]
    refine CallD.calm (refAge_rets hX s _) ?_
    rintro v g7 hx7 rfl
    have hn7 := hx7.next
    rw [f3]
    simp +decide (disch := first | assumption | (apply GH.ok_push; assumption) | exact cellV_int _ _ | exact cellV_bool _ | omega) only [go_sem, ↓reduceIte, Nat.reduceEqDiff, Nat.reduceAdd, Int.reduceToNat]
    refine CallD.calm (hX.alive _) ?_
    rintro v g8 hx8 ⟨rfl, rfl⟩
    simp +decide (disch := first | assumption | (apply GH.ok_push; assumption) | exact cellV_int _ _ | exact cellV_bool _ | omega) only [go_sem, ↓reduceIte, Nat.reduceEqDiff, Nat.reduceAdd, Int.reduceToNat]
    intro hx
    exact ⟨by first | exact Nat.le_refl _ | omega, rfl⟩
end Go.Proofs.Ytgnnhenbmnopaaa
set_option maxRecDepth 100000
set_option maxHeartbeats 8000000
set_option linter.unusedSimpArgs false
set_option linter.unusedVariables false
namespace Go.Proofs.Ytgnnhenbmnopaaa
open Go.Ds Go.Aw
theorem few_word {ds : List Nat} (h : Wd ds) : (decide ((Try.txt ds).size ≤ 1000) && decide ((⟨#[]⟩ : ByteArray).size ≤ 1000)) = true := by
  have := h.len
  have h0 : (⟨#[]⟩ : ByteArray).size = 0 := rfl
  rw [Try.txt_size, h0, decide_eq_true (by omega)]
  rfl
theorem aErr_nat {k : Nat} (hk : k ≤ 40) {ds : List Nat} (h : Wd ds) : aErr (k : Int) (Try.txt ds) = derr k ds := by
  rw [aErr_word h, dErr_days (by unfold daysE; rw [if_neg (by omega)])]
  rfl
theorem daysV_word {k : Nat} (hk : k ≤ 40) {ds : List Nat} (h : Wd ds) : daysV (k : Int) (Try.txt ds) = if derr k ds = 0 then .tuple #[.string (Try.txt (wd k ds)), .int .i64 0] else .tuple #[.string ⟨#[]⟩, .int .i64 (derr k ds)] := by
  unfold daysV
  rw [aErr_nat hk h, digs_txt h.dig]
  rfl
theorem wd_dig0 {ds : List Nat} (h : Wd ds) {k : Nat} (hk : derr k ds = 0) : Dig (wd k ds) := wd_dig h.dig (derr_zero.1 hk)
theorem eqB_same (a : Bool) : eqBF false (.bool a) (.bool a) = some (.bool true) := by cases a <;> rfl
theorem conv_u8 (m k : Nat) (hk : 0 < k) (h : k < 256) : convF .i64 (.int .u8 ((m : Int).tmod (k : Int))) = some (.int .i64 ((m % k : Nat) : Int)) := by
  have e : ((m : Int).tmod (k : Int)) = ((m % k : Nat) : Int) := (Int.ofNat_tmod m k).symm
  have := Nat.mod_lt m hk
  rw [e]
  show some (Value.int .i64 (wrapF .i64 _)) = _
  rw [wr64 (by omega) (by omega)]
theorem Wd.say {ds : List Nat} (h : Wd ds) (hs : Sayable ds) (hl : (Aw.say ds).length ≤ 200) : Wd (Aw.say ds) := ⟨say_dig h.dig hs, say_ne h.ne, hl⟩
/-- No word but 22 comes again. -/
theorem neverLaw_rets {X : Caller} (hX : Xok X) (s : ByteArray) (n : Int) (hn : 0 ≤ n) (hn2 : n < 256) (g : GH) : Rets Try.prog X 13 [.string s, .int .u8 n] g (fun v g' lo => g.next ≤ lo ∧ v = .bool true) := by
  refine Rets.run hX.pres p13 (hX.free 13 (by decide) _ _) rfl fun ho => ?_
  simp +decide (disch := first | assumption | (apply GH.ok_push; assumption) | exact cellV_int _ _ | exact cellV_bool _ | omega) only [go_sem, ↓reduceIte, Nat.reduceEqDiff, Nat.reduceAdd, Int.reduceToNat]
  refine CallD.calm (few_rets hX.toXfr _ _ _) ?_
  rintro v g1 hx1 ⟨rfl, rfl⟩
  cases q : (decide (s.size ≤ 1000) && decide ((⟨#[]⟩ : ByteArray).size ≤ 1000)) with
  | false =>
    simp +decide (disch := first | assumption | (apply GH.ok_push; assumption) | exact cellV_int _ _ | exact cellV_bool _ | omega) only [go_sem, ↓reduceIte, Nat.reduceEqDiff, Nat.reduceAdd, Int.reduceToNat]
    refine CallD.calm (hX.alive _) ?_
    rintro v g2 hx2 ⟨rfl, rfl⟩
    simp +decide (disch := first | assumption | (apply GH.ok_push; assumption) | exact cellV_int _ _ | exact cellV_bool _ | omega) only [go_sem, ↓reduceIte, Nat.reduceEqDiff, Nat.reduceAdd, Int.reduceToNat]
    intro hx
    exact ⟨Nat.le_refl _, rfl⟩
  | true =>
    simp +decide (disch := first | assumption | (apply GH.ok_push; assumption) | exact cellV_int _ _ | exact cellV_bool _ | omega) only [go_sem, ↓reduceIte, Nat.reduceEqDiff, Nat.reduceAdd, Int.reduceToNat]
    refine CallD.calm (refWord_rets hX.toXfr s _) ?_
    rintro v g2 hx2 ⟨rfl, rfl⟩
    by_cases hz : werr s = 0
    · obtain ⟨ds, hw, rfl⟩ := werr_word hz
      obtain ⟨m, rfl⟩ : ∃ m : Nat, n = m := ⟨n.toNat, by omega⟩
      have hcv := conv_u8 m 20 (by omega) (by omega)
      have hm := Nat.mod_lt m (show 0 < 20 by omega)
      obtain ⟨k, hk⟩ : ∃ k : Nat, k = 1 + m % 20 := ⟨_, rfl⟩
      have hkc : (1 + ((m % 20 : Nat) : Int)) = (k : Int) := by omega
      have hcv' : convF .i64 (.int .u8 ((m : Int).tmod 20)) = some (.int .i64 ((m % 20 : Nat) : Int)) := hcv
      simp +decide (disch := first | assumption | (apply GH.ok_push; assumption) | exact cellV_int _ _ | exact cellV_bool _ | omega) only [go_sem, ↓reduceIte, Nat.reduceEqDiff, Nat.reduceAdd, Int.reduceToNat, hz, hcv', hkc]
      refine CallD.calm (days_rets hX (Try.txt ds) k _) ?_
      rintro v g3 hx3 rfl
      have hn3 := hx3.next
      rw [daysV_word (by omega) hw]
      have h22 := is22 hw.dig
      by_cases hE : derr k ds = 0
      · rw [if_pos hE]
        have hdk := wd_dig0 hw hE
        by_cases c : ds = [2, 2]
        · have e1 : decide (Try.txt (wd k ds) = Try.txt ds) = true := decide_eq_true (by rw [c, wd_22])
          have e2 : decide (Try.txt ds = (⟨#[50, 50]⟩ : ByteArray)) = true := decide_eq_true (h22.2 c)
          have e3 := eqB_same true
          simp +decide (disch := first | assumption | (apply GH.ok_push; assumption) | exact cellV_int _ _ | exact cellV_bool _ | omega) only [go_sem, ↓reduceIte, Nat.reduceEqDiff, Nat.reduceAdd, Int.reduceToNat, e1, e2, e3]
          refine CallD.calm (hX.alive _) ?_
          rintro v g4 hx4 ⟨rfl, rfl⟩
          simp +decide (disch := first | assumption | (apply GH.ok_push; assumption) | exact cellV_int _ _ | exact cellV_bool _ | omega) only [go_sem, ↓reduceIte, Nat.reduceEqDiff, Nat.reduceAdd, Int.reduceToNat]
          intro hx
          exact ⟨by first | exact Nat.le_refl _ | omega, rfl⟩
        · have e1 : decide (Try.txt (wd k ds) = Try.txt ds) = false := decide_eq_false (fun z => never hw.dig hw.ne c (by omega) ((txt_inj hdk hw.dig).1 z))
          have e2 : decide (Try.txt ds = (⟨#[50, 50]⟩ : ByteArray)) = false := decide_eq_false (fun z => c (h22.1 z))
          have e3 := eqB_same false
          simp +decide (disch := first | assumption | (apply GH.ok_push; assumption) | exact cellV_int _ _ | exact cellV_bool _ | omega) only [go_sem, ↓reduceIte, Nat.reduceEqDiff, Nat.reduceAdd, Int.reduceToNat, e1, e2, e3]
          refine CallD.calm (hX.alive _) ?_
          rintro v g4 hx4 ⟨rfl, rfl⟩
          simp +decide (disch := first | assumption | (apply GH.ok_push; assumption) | exact cellV_int _ _ | exact cellV_bool _ | omega) only [go_sem, ↓reduceIte, Nat.reduceEqDiff, Nat.reduceAdd, Int.reduceToNat]
          intro hx
          exact ⟨by first | exact Nat.le_refl _ | omega, rfl⟩
      · rw [if_neg hE]
        have c : ds ≠ [2, 2] := fun z => hE (by rw [z]; exact derr_22 k)
        have e2 : decide (Try.txt ds = (⟨#[50, 50]⟩ : ByteArray)) = false := decide_eq_false (fun z => c (h22.1 z))
        rcases derr_vals k ds with z | z | z
        · exact absurd z hE
        · rw [z]
          simp +decide (disch := first | assumption | (apply GH.ok_push; assumption) | exact cellV_int _ _ | exact cellV_bool _ | omega) only [go_sem, ↓reduceIte, Nat.reduceEqDiff, Nat.reduceAdd, Int.reduceToNat, e2]
          refine CallD.calm (hX.alive _) ?_
          rintro v g4 hx4 ⟨rfl, rfl⟩
          simp +decide (disch := first | assumption | (apply GH.ok_push; assumption) | exact cellV_int _ _ | exact cellV_bool _ | omega) only [go_sem, ↓reduceIte, Nat.reduceEqDiff, Nat.reduceAdd, Int.reduceToNat]
          intro hx
          exact ⟨by first | exact Nat.le_refl _ | omega, rfl⟩
        · rw [z]
          simp +decide (disch := first | assumption | (apply GH.ok_push; assumption) | exact cellV_int _ _ | exact cellV_bool _ | omega) only [go_sem, ↓reduceIte, Nat.reduceEqDiff, Nat.reduceAdd, Int.reduceToNat, e2]
          refine CallD.calm (hX.alive _) ?_
          rintro v g4 hx4 ⟨rfl, rfl⟩
          simp +decide (disch := first | assumption | (apply GH.ok_push; assumption) | exact cellV_int _ _ | exact cellV_bool _ | omega) only [go_sem, ↓reduceIte, Nat.reduceEqDiff, Nat.reduceAdd, Int.reduceToNat]
          intro hx
          exact ⟨by first | exact Nat.le_refl _ | omega, rfl⟩
    · have hz' : ¬ (werr s = 0) := hz
      simp +decide (disch := first | assumption | (apply GH.ok_push; assumption) | exact cellV_int _ _ | exact cellV_bool _ | omega) only [go_sem, ↓reduceIte, Nat.reduceEqDiff, Nat.reduceAdd, Int.reduceToNat, hz']
      refine CallD.calm (hX.alive _) ?_
      rintro v g3 hx3 ⟨rfl, rfl⟩
      simp +decide (disch := first | assumption | (apply GH.ok_push; assumption) | exact cellV_int _ _ | exact cellV_bool _ | omega) only [go_sem, ↓reduceIte, Nat.reduceEqDiff, Nat.reduceAdd, Int.reduceToNat]
      intro hx
      exact ⟨Nat.le_refl _, rfl⟩
end Go.Proofs.Ytgnnhenbmnopaaa
set_option maxRecDepth 100000
set_option maxHeartbeats 8000000
set_option linter.unusedSimpArgs false
set_option linter.unusedVariables false
namespace Go.Proofs.Ytgnnhenbmnopaaa
open Go.Ds Go.Aw
theorem saidV_ok {ds : List Nat} (h : Sayable ds) : Try.saidV ds = .tuple #[.string (Try.txt (Aw.say ds)), .int .i64 0] := by
  unfold Try.saidV; rw [if_pos h, if_pos h]
theorem saidV_no {ds : List Nat} (h : ¬ Sayable ds) : Try.saidV ds = .tuple #[.string ⟨#[]⟩, .int .i64 4] := by
  unfold Try.saidV; rw [if_neg h, if_neg h]
/-- Ages go up and down by one. -/
theorem agesLaw_rets {X : Caller} (hX : Xok X) (s : ByteArray) (g : GH) : Rets Try.prog X 14 [.string s] g (fun v g' lo => g.next ≤ lo ∧ v = .bool true) := by
  refine Rets.run hX.pres p14 (hX.free 14 (by decide) _ _) rfl fun ho => ?_
  simp +decide (disch := first | assumption | (apply GH.ok_push; assumption) | exact cellV_int _ _ | exact cellV_bool _ | omega) only [go_sem, ↓reduceIte, Nat.reduceEqDiff, Nat.reduceAdd, Int.reduceToNat]
  refine CallD.calm (few_rets hX.toXfr _ _ _) ?_
  rintro v g1 hx1 ⟨rfl, rfl⟩
  cases q : (decide (s.size ≤ 1000) && decide ((⟨#[]⟩ : ByteArray).size ≤ 1000)) with
  | false =>
    simp +decide (disch := first | assumption | (apply GH.ok_push; assumption) | exact cellV_int _ _ | exact cellV_bool _ | omega) only [go_sem, ↓reduceIte, Nat.reduceEqDiff, Nat.reduceAdd, Int.reduceToNat]
    refine CallD.calm (hX.alive _) ?_
    rintro v g2 hx2 ⟨rfl, rfl⟩
    simp +decide (disch := first | assumption | (apply GH.ok_push; assumption) | exact cellV_int _ _ | exact cellV_bool _ | omega) only [go_sem, ↓reduceIte, Nat.reduceEqDiff, Nat.reduceAdd, Int.reduceToNat]
    intro hx
    exact ⟨Nat.le_refl _, rfl⟩
  | true =>
    simp +decide (disch := first | assumption | (apply GH.ok_push; assumption) | exact cellV_int _ _ | exact cellV_bool _ | omega) only [go_sem, ↓reduceIte, Nat.reduceEqDiff, Nat.reduceAdd, Int.reduceToNat]
    refine CallD.calm (refWord_rets hX.toXfr s _) ?_
    rintro v g2 hx2 ⟨rfl, rfl⟩
    by_cases hz : werr s = 0
    · obtain ⟨ds, hw, rfl⟩ := werr_word hz
      have h22 := is22 hw.dig
      have hwl := hw.len
      simp +decide (disch := first | assumption | (apply GH.ok_push; assumption) | exact cellV_int _ _ | exact cellV_bool _ | omega) only [go_sem, ↓reduceIte, Nat.reduceEqDiff, Nat.reduceAdd, Int.reduceToNat, hz]
      refine CallD.calm (age_rets hX (Try.txt ds) _) ?_
      rintro v g3 hx3 rfl
      have hn3 := hx3.next
      by_cases c : ds = [2, 2]
      · have e2 : decide (Try.txt ds = (⟨#[50, 50]⟩ : ByteArray)) = true := decide_eq_true (h22.2 c)
        rw [ageV_22 hw c]
        simp +decide (disch := first | assumption | (apply GH.ok_push; assumption) | exact cellV_int _ _ | exact cellV_bool _ | omega) only [go_sem, ↓reduceIte, Nat.reduceEqDiff, Nat.reduceAdd, Int.reduceToNat, e2]
        refine CallD.calm (hX.alive _) ?_
        rintro v g4 hx4 ⟨rfl, rfl⟩
        simp +decide (disch := first | assumption | (apply GH.ok_push; assumption) | exact cellV_int _ _ | exact cellV_bool _ | omega) only [go_sem, ↓reduceIte, Nat.reduceEqDiff, Nat.reduceAdd, Int.reduceToNat]
        intro hx
        exact ⟨by first | exact Nat.le_refl _ | omega, rfl⟩
      · have e2 : decide (Try.txt ds = (⟨#[50, 50]⟩ : ByteArray)) = false := decide_eq_false (fun z => c (h22.1 z))
        obtain ⟨m, hm, hch⟩ := chain_any hw.dig hw.ne c
        rw [ageV_n hw c hch]
        have hm0 : ¬ ((m : Int) < 0) := by omega
        simp +decide (disch := first | assumption | (apply GH.ok_push; assumption) | exact cellV_int _ _ | exact cellV_bool _ | omega) only [go_sem, ↓reduceIte, Nat.reduceEqDiff, Nat.reduceAdd, Int.reduceToNat, e2]
        refine CallD.calm (beforeP_rets hX _ _) ?_
        rintro v g4 hx4 rfl
        have hn4 := hx4.next
        rw [beforeV_word hw]
        cases hh : heard ds with
        | some v =>
          obtain ⟨k, rfl, hk⟩ : ∃ k, m = k + 1 ∧ Chain v k := by
            cases m with
            | zero => rw [show heard ds = none from hch] at hh; cases hh
            | succ k =>
              obtain ⟨u, hu, hk⟩ := hch
              rw [hh] at hu; cases hu
              exact ⟨k, rfl, hk⟩
          have hp0 : decide ((((k + 1 : Nat) : Int)) > 0) = true := decide_eq_true (by omega)
          have e3 := eqB_same true
          have vsz := Try.txt_size v
          by_cases vl : v.length ≤ 200
          · have d1 : ((Try.txt v).size : Int) ≤ 200 := by omega
            have hwv : Wd v := ⟨heard_dig hw.dig hh, heard_ne hw.dig hw.ne hh, vl⟩
            simp +decide (disch := first | assumption | (apply GH.ok_push; assumption) | exact cellV_int _ _ | exact cellV_bool _ | omega) only [go_sem, ↓reduceIte, Nat.reduceEqDiff, Nat.reduceAdd, Int.reduceToNat, hm0, hp0, e3, d1]
            refine CallD.calm (age_rets hX _ _) ?_
            rintro v gC hxC rfl
            have hnC := hxC.next
            rw [ageV_n hwv (fun z => c (heard_22 (by rw [hh, z]))) hk]
            have wk : wrapF .i64 ((((k + 1 : Nat)) : Int) - 1) = ((k : Nat) : Int) := by rw [wr64 (by omega) (by omega)]; omega
            simp +decide (disch := first | assumption | (apply GH.ok_push; assumption) | exact cellV_int _ _ | exact cellV_bool _ | omega) only [go_sem, ↓reduceIte, Nat.reduceEqDiff, Nat.reduceAdd, Int.reduceToNat, wk]
            refine CallD.calm (say_rets hX _ _) ?_
            rintro v gA hxA rfl
            have hnA := hxA.next
            rw [sayV_word hw]
            by_cases sy : Sayable ds
            · rw [saidV_ok sy]
              have ssz := Try.txt_size (Aw.say ds)
              by_cases sl : (Aw.say ds).length ≤ 200
              · have d1 : ¬ ((200 : Int) < ((Try.txt (Aw.say ds)).size : Int)) := by omega
                simp +decide (disch := first | assumption | (apply GH.ok_push; assumption) | exact cellV_int _ _ | exact cellV_bool _ | omega) only [go_sem, ↓reduceIte, Nat.reduceEqDiff, Nat.reduceAdd, Int.reduceToNat, d1]
                refine CallD.calm (age_rets hX _ _) ?_
                rintro v gB hxB rfl
                have hnB := hxB.next
                rw [ageV_n (hw.say sy sl) (say_not22 c) (show Chain (Aw.say ds) ((k + 1) + 1) from ⟨ds, say_heard ds, hch⟩)]
                have wq : wrapF .i64 ((((k + 1) : Nat) : Int) + 1) = ((((k + 1) + 1 : Nat)) : Int) := by rw [wr64 (by omega) (by omega)]; omega
                simp +decide (disch := first | assumption | (apply GH.ok_push; assumption) | exact cellV_int _ _ | exact cellV_bool _ | omega) only [go_sem, ↓reduceIte, Nat.reduceEqDiff, Nat.reduceAdd, Int.reduceToNat, wq]
                refine CallD.calm (hX.alive _) ?_
                rintro v gz hxz ⟨rfl, rfl⟩
                simp +decide (disch := first | assumption | (apply GH.ok_push; assumption) | exact cellV_int _ _ | exact cellV_bool _ | omega) only [go_sem, ↓reduceIte, Nat.reduceEqDiff, Nat.reduceAdd, Int.reduceToNat]
                intro hx
                exact ⟨by first | exact Nat.le_refl _ | omega, rfl⟩
              · have d1 : (200 : Int) < ((Try.txt (Aw.say ds)).size : Int) := by omega
                simp +decide (disch := first | assumption | (apply GH.ok_push; assumption) | exact cellV_int _ _ | exact cellV_bool _ | omega) only [go_sem, ↓reduceIte, Nat.reduceEqDiff, Nat.reduceAdd, Int.reduceToNat, d1]
                refine CallD.calm (hX.alive _) ?_
                rintro v gz hxz ⟨rfl, rfl⟩
                simp +decide (disch := first | assumption | (apply GH.ok_push; assumption) | exact cellV_int _ _ | exact cellV_bool _ | omega) only [go_sem, ↓reduceIte, Nat.reduceEqDiff, Nat.reduceAdd, Int.reduceToNat]
                intro hx
                exact ⟨by first | exact Nat.le_refl _ | omega, rfl⟩
            · rw [saidV_no sy]
              simp +decide (disch := first | assumption | (apply GH.ok_push; assumption) | exact cellV_int _ _ | exact cellV_bool _ | omega) only [go_sem, ↓reduceIte, Nat.reduceEqDiff, Nat.reduceAdd, Int.reduceToNat]
              refine CallD.calm (hX.alive _) ?_
              rintro v gz hxz ⟨rfl, rfl⟩
              simp +decide (disch := first | assumption | (apply GH.ok_push; assumption) | exact cellV_int _ _ | exact cellV_bool _ | omega) only [go_sem, ↓reduceIte, Nat.reduceEqDiff, Nat.reduceAdd, Int.reduceToNat]
              intro hx
              exact ⟨by first | exact Nat.le_refl _ | omega, rfl⟩
          · have d1 : ¬ (((Try.txt v).size : Int) ≤ 200) := by omega
            simp +decide (disch := first | assumption | (apply GH.ok_push; assumption) | exact cellV_int _ _ | exact cellV_bool _ | omega) only [go_sem, ↓reduceIte, Nat.reduceEqDiff, Nat.reduceAdd, Int.reduceToNat, hm0, hp0, e3, d1]
            refine CallD.calm (say_rets hX _ _) ?_
            rintro v gA hxA rfl
            have hnA := hxA.next
            rw [sayV_word hw]
            by_cases sy : Sayable ds
            · rw [saidV_ok sy]
              have ssz := Try.txt_size (Aw.say ds)
              by_cases sl : (Aw.say ds).length ≤ 200
              · have d1 : ¬ ((200 : Int) < ((Try.txt (Aw.say ds)).size : Int)) := by omega
                simp +decide (disch := first | assumption | (apply GH.ok_push; assumption) | exact cellV_int _ _ | exact cellV_bool _ | omega) only [go_sem, ↓reduceIte, Nat.reduceEqDiff, Nat.reduceAdd, Int.reduceToNat, d1]
                refine CallD.calm (age_rets hX _ _) ?_
                rintro v gB hxB rfl
                have hnB := hxB.next
                rw [ageV_n (hw.say sy sl) (say_not22 c) (show Chain (Aw.say ds) ((k + 1) + 1) from ⟨ds, say_heard ds, hch⟩)]
                have wq : wrapF .i64 ((((k + 1) : Nat) : Int) + 1) = ((((k + 1) + 1 : Nat)) : Int) := by rw [wr64 (by omega) (by omega)]; omega
                simp +decide (disch := first | assumption | (apply GH.ok_push; assumption) | exact cellV_int _ _ | exact cellV_bool _ | omega) only [go_sem, ↓reduceIte, Nat.reduceEqDiff, Nat.reduceAdd, Int.reduceToNat, wq]
                refine CallD.calm (hX.alive _) ?_
                rintro v gz hxz ⟨rfl, rfl⟩
                simp +decide (disch := first | assumption | (apply GH.ok_push; assumption) | exact cellV_int _ _ | exact cellV_bool _ | omega) only [go_sem, ↓reduceIte, Nat.reduceEqDiff, Nat.reduceAdd, Int.reduceToNat]
                intro hx
                exact ⟨by first | exact Nat.le_refl _ | omega, rfl⟩
              · have d1 : (200 : Int) < ((Try.txt (Aw.say ds)).size : Int) := by omega
                simp +decide (disch := first | assumption | (apply GH.ok_push; assumption) | exact cellV_int _ _ | exact cellV_bool _ | omega) only [go_sem, ↓reduceIte, Nat.reduceEqDiff, Nat.reduceAdd, Int.reduceToNat, d1]
                refine CallD.calm (hX.alive _) ?_
                rintro v gz hxz ⟨rfl, rfl⟩
                simp +decide (disch := first | assumption | (apply GH.ok_push; assumption) | exact cellV_int _ _ | exact cellV_bool _ | omega) only [go_sem, ↓reduceIte, Nat.reduceEqDiff, Nat.reduceAdd, Int.reduceToNat]
                intro hx
                exact ⟨by first | exact Nat.le_refl _ | omega, rfl⟩
            · rw [saidV_no sy]
              simp +decide (disch := first | assumption | (apply GH.ok_push; assumption) | exact cellV_int _ _ | exact cellV_bool _ | omega) only [go_sem, ↓reduceIte, Nat.reduceEqDiff, Nat.reduceAdd, Int.reduceToNat]
              refine CallD.calm (hX.alive _) ?_
              rintro v gz hxz ⟨rfl, rfl⟩
              simp +decide (disch := first | assumption | (apply GH.ok_push; assumption) | exact cellV_int _ _ | exact cellV_bool _ | omega) only [go_sem, ↓reduceIte, Nat.reduceEqDiff, Nat.reduceAdd, Int.reduceToNat]
              intro hx
              exact ⟨by first | exact Nat.le_refl _ | omega, rfl⟩
        | none =>
          obtain rfl : m = 0 := by
            cases m with
            | zero => rfl
            | succ k =>
              obtain ⟨u, hu, hk⟩ := hch
              rw [hh] at hu; cases hu
          have e3 := eqB_same false
          simp +decide (disch := first | assumption | (apply GH.ok_push; assumption) | exact cellV_int _ _ | exact cellV_bool _ | omega) only [go_sem, ↓reduceIte, Nat.reduceEqDiff, Nat.reduceAdd, Int.reduceToNat, hm0, e3]
          refine CallD.calm (say_rets hX _ _) ?_
          rintro v gA hxA rfl
          have hnA := hxA.next
          rw [sayV_word hw]
          by_cases sy : Sayable ds
          · rw [saidV_ok sy]
            have ssz := Try.txt_size (Aw.say ds)
            by_cases sl : (Aw.say ds).length ≤ 200
            · have d1 : ¬ ((200 : Int) < ((Try.txt (Aw.say ds)).size : Int)) := by omega
              simp +decide (disch := first | assumption | (apply GH.ok_push; assumption) | exact cellV_int _ _ | exact cellV_bool _ | omega) only [go_sem, ↓reduceIte, Nat.reduceEqDiff, Nat.reduceAdd, Int.reduceToNat, d1]
              refine CallD.calm (age_rets hX _ _) ?_
              rintro v gB hxB rfl
              have hnB := hxB.next
              rw [ageV_n (hw.say sy sl) (say_not22 c) (show Chain (Aw.say ds) (0 + 1) from ⟨ds, say_heard ds, hch⟩)]
              have wq : wrapF .i64 (((0 : Nat) : Int) + 1) = (((0 + 1 : Nat)) : Int) := by rw [wr64 (by omega) (by omega)]; omega
              simp +decide (disch := first | assumption | (apply GH.ok_push; assumption) | exact cellV_int _ _ | exact cellV_bool _ | omega) only [go_sem, ↓reduceIte, Nat.reduceEqDiff, Nat.reduceAdd, Int.reduceToNat, wq]
              refine CallD.calm (hX.alive _) ?_
              rintro v gz hxz ⟨rfl, rfl⟩
              simp +decide (disch := first | assumption | (apply GH.ok_push; assumption) | exact cellV_int _ _ | exact cellV_bool _ | omega) only [go_sem, ↓reduceIte, Nat.reduceEqDiff, Nat.reduceAdd, Int.reduceToNat]
              intro hx
              exact ⟨by first | exact Nat.le_refl _ | omega, rfl⟩
            · have d1 : (200 : Int) < ((Try.txt (Aw.say ds)).size : Int) := by omega
              simp +decide (disch := first | assumption | (apply GH.ok_push; assumption) | exact cellV_int _ _ | exact cellV_bool _ | omega) only [go_sem, ↓reduceIte, Nat.reduceEqDiff, Nat.reduceAdd, Int.reduceToNat, d1]
              refine CallD.calm (hX.alive _) ?_
              rintro v gz hxz ⟨rfl, rfl⟩
              simp +decide (disch := first | assumption | (apply GH.ok_push; assumption) | exact cellV_int _ _ | exact cellV_bool _ | omega) only [go_sem, ↓reduceIte, Nat.reduceEqDiff, Nat.reduceAdd, Int.reduceToNat]
              intro hx
              exact ⟨by first | exact Nat.le_refl _ | omega, rfl⟩
          · rw [saidV_no sy]
            simp +decide (disch := first | assumption | (apply GH.ok_push; assumption) | exact cellV_int _ _ | exact cellV_bool _ | omega) only [go_sem, ↓reduceIte, Nat.reduceEqDiff, Nat.reduceAdd, Int.reduceToNat]
            refine CallD.calm (hX.alive _) ?_
            rintro v gz hxz ⟨rfl, rfl⟩
            simp +decide (disch := first | assumption | (apply GH.ok_push; assumption) | exact cellV_int _ _ | exact cellV_bool _ | omega) only [go_sem, ↓reduceIte, Nat.reduceEqDiff, Nat.reduceAdd, Int.reduceToNat]
            intro hx
            exact ⟨by first | exact Nat.le_refl _ | omega, rfl⟩
    · have hz' : ¬ (werr s = 0) := hz
      simp +decide (disch := first | assumption | (apply GH.ok_push; assumption) | exact cellV_int _ _ | exact cellV_bool _ | omega) only [go_sem, ↓reduceIte, Nat.reduceEqDiff, Nat.reduceAdd, Int.reduceToNat, hz']
      refine CallD.calm (hX.alive _) ?_
      rintro v g3 hx3 ⟨rfl, rfl⟩
      simp +decide (disch := first | assumption | (apply GH.ok_push; assumption) | exact cellV_int _ _ | exact cellV_bool _ | omega) only [go_sem, ↓reduceIte, Nat.reduceEqDiff, Nat.reduceAdd, Int.reduceToNat]
      intro hx
      exact ⟨Nat.le_refl _, rfl⟩
end Go.Proofs.Ytgnnhenbmnopaaa
set_option maxRecDepth 100000
set_option linter.unusedVariables false
namespace Go.Proofs.Ytgnnhenbmnopaaa
open Go.Ds Go.Aw
theorem few_in (a b : ByteArray) (w : World) : Calls Try.prog 16 #[.string a, .string b] w fun e w' => e = .returned (.bool (decide (a.size ≤ 1000) && decide (b.size ≤ 1000))) ∧ RowKit.Below w.heap.size w w' :=
  have inst : Inhabited Bound := ⟨⟨0⟩⟩
  Rets.calls X0_orac mixedO (args := [.string a, .string b]) rfl (X0_free (by decide) _ _) rfl ((few_rets X0_ok.toXfr a b GH.zero).mono fun _ _ _ _ h => h.2.1) w
theorem word_in (s : ByteArray) (w : World) : Calls Try.prog 19 #[.string s] w fun e w' => e = .returned (.int .i64 (werr s)) ∧ RowKit.Below w.heap.size w w' :=
  have inst : Inhabited Bound := ⟨⟨0⟩⟩
  Rets.calls X0_orac mixedO (args := [.string s]) rfl (X0_free (by decide) _ _) rfl ((refWord_rets X0_ok.toXfr s GH.zero).mono fun _ _ _ _ h => h.2.1) w
theorem isWord_in (s : ByteArray) (w : World) : Calls Try.prog 18 #[.string s] w fun e w' => e = .returned (.bool (isW s)) ∧ RowKit.Below w.heap.size w w' :=
  have inst : Inhabited Bound := ⟨⟨0⟩⟩
  Rets.calls X0_orac mixedO (args := [.string s]) rfl (X0_free (by decide) _ _) rfl ((isWord_rets X0_ok.toXfr s GH.zero).mono fun _ _ _ _ h => h.2) w
theorem say_in (s : ByteArray) {v : Value} (hv : sayV s = v) (hp : plainC v = true) (w : World) : Calls Try.prog 27 #[.string s] w fun e w' => e = .returned v ∧ RowKit.Below w.heap.size w w' :=
  have inst : Inhabited Bound := ⟨⟨0⟩⟩
  Rets.calls X0_orac mixedO (args := [.string s]) rfl (X0_free (by decide) _ _) hp ((say_rets X0_ok s GH.zero).mono fun _ _ _ _ h => h.2.trans hv) w
theorem before_in (s : ByteArray) {v : Value} (hv : beforeV s = v) (hp : plainC v = true) (w : World) : Calls Try.prog 29 #[.string s] w fun e w' => e = .returned v ∧ RowKit.Below w.heap.size w w' :=
  have inst : Inhabited Bound := ⟨⟨0⟩⟩
  Rets.calls X0_orac mixedO (args := [.string s]) rfl (X0_free (by decide) _ _) hp ((beforeP_rets X0_ok s GH.zero).mono fun _ _ _ _ h => h.2.trans hv) w
theorem days_in (s : ByteArray) (n : Int) {v : Value} (hv : daysV n s = v) (hp : plainC v = true) (w : World) : Calls Try.prog 33 #[.string s, .int .i64 n] w fun e w' => e = .returned v ∧ RowKit.Below w.heap.size w w' :=
  have inst : Inhabited Bound := ⟨⟨0⟩⟩
  Rets.calls X0_orac mixedO (args := [.string s, .int .i64 n]) rfl (X0_free (by decide) _ _) hp ((days_rets X0_ok s n GH.zero).mono fun _ _ _ _ h => h.2.trans hv) w
theorem plainT (s : ByteArray) (n : Int) : plainC (.tuple #[.string s, .int .i64 n]) = true := rfl
end Go.Proofs.Ytgnnhenbmnopaaa
set_option maxRecDepth 100000
set_option maxHeartbeats 8000000
set_option linter.unusedSimpArgs false
set_option linter.unusedVariables false
namespace Go.Proofs.Ytgnnhenbmnopaaa
open Go.Ds Go.Aw
open Classical in
theorem apartV_ok {n : Nat} (hn : n ≤ 40) {l r : ByteArray} (h : apErr (n : Int) l r = 0) : ∃ a b, Wd a ∧ Wd b ∧ l = Try.txt a ∧ r = Try.txt b ∧ a.length + b.length ≤ 200 ∧ derr n a = 0 ∧ derr n b = 0 ∧ derr n (a ++ b) = 0 ∧ apartV (n : Int) l r = .tuple #[.bool (decide (ApartL a b n)), .int .i64 0] := by
  have h0 := h
  unfold apErr at h
  split at h
  · rename_i h1
    obtain ⟨a, b, ha, hb, rfl, rfl, hd, hl⟩ := apE_zero h1
    rw [digs_txt ha.dig, digs_txt hb.dig] at h
    have en : ((n : Int)).toNat = n := rfl
    rw [en] at h
    split at h
    · rename_i h2
      split at h
      · rename_i h3
        refine ⟨a, b, ha, hb, rfl, rfl, hl, h2, h3, h, ?_⟩
        unfold apartV
        rw [h0, digs_txt ha.dig, digs_txt hb.dig, en]
        congr 3
        simp
      · rename_i h3; exact absurd h h3
    · rename_i h2; exact absurd h h2
  · rename_i h1; exact absurd h h1
theorem countV_word {k : Nat} (hk : k ≤ 40) {ds : List Nat} (h : Wd ds) (h0 : derr k ds = 0) : countV (k : Int) (Try.txt ds) = .tuple #[.agg (cn3 (wd k ds)).toArray, .int .i64 0] := by
  unfold countV
  rw [aErr_nat hk h, if_pos h0, digs_txt h.dig]
  rfl
theorem cn3_app (a b : List Nat) : cn3 (a ++ b) = [.int .i64 ((a.count 1 + b.count 1 : Nat)), .int .i64 ((a.count 2 + b.count 2 : Nat)), .int .i64 ((a.count 3 + b.count 3 : Nat))] := by
  simp only [cn3, List.count_append]
open Classical in
theorem apartV_word {n : Nat} (hn : n ≤ 40) {a b : List Nat} (ha : Wd a) (hb : Wd b) (hl : a.length + b.length ≤ 200) (d1 : derr n a = 0) (d2 : derr n b = 0) (d3 : derr n (a ++ b) = 0) : apartV (n : Int) (Try.txt a) (Try.txt b) = .tuple #[.bool (decide (ApartL a b n)), .int .i64 0] := by
  have h1 : daysE (n : Int) = 0 := by unfold daysE; rw [if_neg (by omega)]
  have h0 : apE (n : Int) (Try.txt a) (Try.txt b) = 0 := by
    unfold apE
    rw [if_pos ha.werr, if_pos hb.werr, if_pos h1, Try.txt_size, Try.txt_size, if_neg (by omega)]
  have en : ((n : Int)).toNat = n := rfl
  have h2 : apErr (n : Int) (Try.txt a) (Try.txt b) = 0 := by
    unfold apErr
    rw [if_pos h0, digs_txt ha.dig, digs_txt hb.dig, en, if_pos d1, if_pos d2, d3]
  unfold apartV
  rw [h2, digs_txt ha.dig, digs_txt hb.dig, en]
  congr 3
  simp
theorem conv_byte {p : Nat} (h : p < 256) : convF .i64 (.int .u8 (p : Int)) = some (.int .i64 (p : Int)) := by
  show some (Value.int .i64 (wrapF .i64 _)) = _
  rw [wr64 (by omega) (by omega)]
open Classical in
/-- The laws of the counts. -/
theorem addedLaw_rets {X : Caller} (hX : Xok X) (l r : ByteArray) (n : Int) (hn : 0 ≤ n) (hn2 : n < 256) (w : Int) (hw : 0 ≤ w) (hw2 : w < 256) (g : GH) : Rets Try.prog X 15 [.string l, .string r, .int .u8 n, .int .u8 w] g (fun v g' lo => g.next ≤ lo ∧ v = .bool true) := by
  refine Rets.run hX.pres p15 (hX.free 15 (by decide) _ _) rfl fun ho => ?_
  simp +decide (disch := first | assumption | (apply GH.ok_push; assumption) | exact cellV_int _ _ | exact cellV_bool _ | omega) only [go_sem, ↓reduceIte, Nat.reduceEqDiff, Nat.reduceAdd, Int.reduceToNat]
  refine CallD.calm (few_rets hX.toXfr _ _ _) ?_
  rintro v g1 hx1 ⟨rfl, rfl⟩
  cases q : (decide (l.size ≤ 1000) && decide (r.size ≤ 1000)) with
  | false =>
    simp +decide (disch := first | assumption | (apply GH.ok_push; assumption) | exact cellV_int _ _ | exact cellV_bool _ | omega) only [go_sem, ↓reduceIte, Nat.reduceEqDiff, Nat.reduceAdd, Int.reduceToNat]
    refine CallD.calm (hX.alive _) ?_
    rintro v g2 hx2 ⟨rfl, rfl⟩
    simp +decide (disch := first | assumption | (apply GH.ok_push; assumption) | exact cellV_int _ _ | exact cellV_bool _ | omega) only [go_sem, ↓reduceIte, Nat.reduceEqDiff, Nat.reduceAdd, Int.reduceToNat]
    intro hx
    exact ⟨Nat.le_refl _, rfl⟩
  | true =>
    obtain ⟨m, rfl⟩ : ∃ m : Nat, n = m := ⟨n.toNat, by omega⟩
    obtain ⟨p, rfl⟩ : ∃ p : Nat, w = p := ⟨w.toNat, by omega⟩
    have hm := Nat.mod_lt m (show 0 < 20 by omega)
    obtain ⟨k, hk⟩ : ∃ k : Nat, k = m % 20 := ⟨_, rfl⟩
    have hcv : convF .i64 (.int .u8 ((m : Int).tmod 20)) = some (.int .i64 (k : Int)) := by rw [hk]; exact conv_u8 m 20 (by omega) (by omega)
    simp +decide (disch := first | assumption | (apply GH.ok_push; assumption) | exact cellV_int _ _ | exact cellV_bool _ | omega) only [go_sem, ↓reduceIte, Nat.reduceEqDiff, Nat.reduceAdd, Int.reduceToNat, hcv]
    refine CallD.calm (apart_rets hX l r k _) ?_
    rintro v g2 hx2 rfl
    have hn2 := hx2.next
    have hok2 := hx2.ok (hx1.ok ho)
    by_cases hE : apErr (k : Int) l r = 0
    · obtain ⟨a, b, ha, hb, rfl, rfl, hl, d1, d2, d3, hv⟩ := apartV_ok (by omega) hE
      rw [hv]
      by_cases hA : ApartL a b k
      · rw [decide_eq_true hA]
        simp +decide (disch := first | assumption | exact cellV_int _ _ | exact cellV_bool _ | omega | (simp only [GH.pn, GH.sn] <;> omega) | (with_reducible ((repeat (first | apply GH.ok_push | apply GH.ok_set)); assumption)) | ((try simp only [GH.push_hid, GH.set_hid]); first | assumption | (refine GH.vis ?_ ?_ <;> first | assumption | ((try simp only [GH.pn, GH.sn]) <;> omega)))) only [go_sem, ↓reduceIte, Nat.reduceEqDiff, Nat.reduceAdd, Int.reduceToNat, Int.reduceAdd, Int.reduceNeg, Int.reduceSub, Int.reduceMul, Int.reduceLT, Int.reduceLE, Int.reduceEq, ↓GH.gp_eq, ↓GH.gp_ne, ↓GH.gs_eq, ↓GH.gs_ne, GH.push_next, GH.set_next]
        refine CallD.calm (count_rets hX _ _ _) ?_
        rintro v g3 hx3 rfl
        have hn3 := hx3.next
        rw [countV_word (by omega) ha d1]
        have ho3 := hx3.ok hok2
        simp +decide (disch := first | assumption | exact cellV_int _ _ | exact cellV_bool _ | omega | (simp only [GH.pn, GH.sn] <;> omega) | (with_reducible ((repeat (first | apply GH.ok_push | apply GH.ok_set)); assumption)) | ((try simp only [GH.push_hid, GH.set_hid]); first | assumption | (refine GH.vis ?_ ?_ <;> first | assumption | ((try simp only [GH.pn, GH.sn]) <;> omega)))) only [go_sem, ↓reduceIte, Nat.reduceEqDiff, Nat.reduceAdd, Int.reduceToNat, Int.reduceAdd, Int.reduceNeg, Int.reduceSub, Int.reduceMul, Int.reduceLT, Int.reduceLE, Int.reduceEq, ↓GH.gp_eq, ↓GH.gp_ne, ↓GH.gs_eq, ↓GH.gs_ne, GH.push_next, GH.set_next]
        refine CallD.calm (count_rets hX _ _ _) ?_
        rintro v g4 hx4 rfl
        have hn4 := hx4.next
        simp only [GH.pn, GH.sn] at hn4
        have ho4 := hx4.ok (by with_reducible ((repeat (first | apply GH.ok_push | apply GH.ok_set)); assumption))
        have q4 : g4.get g3.next = cellsOb (cn3 (wd k a)) 38 := (hx4.kept.gets _ (by simp only [GH.pn, GH.sn]; omega)).trans (by simp (disch := first | assumption | exact cellV_int _ _ | exact cellV_bool _ | omega | (simp only [GH.pn, GH.sn] <;> omega) | (with_reducible ((repeat (first | apply GH.ok_push | apply GH.ok_set)); assumption)) | ((try simp only [GH.push_hid, GH.set_hid]); first | assumption | (refine GH.vis ?_ ?_ <;> first | assumption | ((try simp only [GH.pn, GH.sn]) <;> omega)))) only [↓GH.gp_eq, ↓GH.gp_ne, ↓GH.gs_eq, ↓GH.gs_ne, GH.push_next, GH.set_next]; first | done | exact rfl)
        rw [countV_word (by omega) hb d2]
        have hadd : strB .add (Try.txt a) (Try.txt b) = some (.string (Try.txt (a ++ b))) := by rw [str_add (by rw [Try.txt_size, Try.txt_size]; omega), txt_app]
        simp +decide (disch := first | assumption | exact cellV_int _ _ | exact cellV_bool _ | omega | (simp only [GH.pn, GH.sn] <;> omega) | (with_reducible ((repeat (first | apply GH.ok_push | apply GH.ok_set)); assumption)) | ((try simp only [GH.push_hid, GH.set_hid]); first | assumption | (refine GH.vis ?_ ?_ <;> first | assumption | ((try simp only [GH.pn, GH.sn]) <;> omega)))) only [go_sem, ↓reduceIte, Nat.reduceEqDiff, Nat.reduceAdd, Int.reduceToNat, Int.reduceAdd, Int.reduceNeg, Int.reduceSub, Int.reduceMul, Int.reduceLT, Int.reduceLE, Int.reduceEq, ↓GH.gp_eq, ↓GH.gp_ne, ↓GH.gs_eq, ↓GH.gs_ne, GH.push_next, GH.set_next, hadd]
        refine CallD.calm (count_rets hX _ _ _) ?_
        rintro v g5 hx5 rfl
        have hn5 := hx5.next
        simp only [GH.pn, GH.sn] at hn5
        have ho5 := hx5.ok (by with_reducible ((repeat (first | apply GH.ok_push | apply GH.ok_set)); assumption))
        have q5 : g5.get g3.next = cellsOb (cn3 (wd k a)) 38 := (hx5.kept.gets _ (by simp only [GH.pn, GH.sn]; omega)).trans (Eq.trans (by simp (disch := first | assumption | exact cellV_int _ _ | exact cellV_bool _ | omega | (simp only [GH.pn, GH.sn] <;> omega) | (with_reducible ((repeat (first | apply GH.ok_push | apply GH.ok_set)); assumption)) | ((try simp only [GH.push_hid, GH.set_hid]); first | assumption | (refine GH.vis ?_ ?_ <;> first | assumption | ((try simp only [GH.pn, GH.sn]) <;> omega)))) only [↓GH.gp_eq, ↓GH.gp_ne, ↓GH.gs_eq, ↓GH.gs_ne, GH.push_next, GH.set_next]; first | done | exact rfl) q4)
        have q6 : g5.get g4.next = cellsOb (cn3 (wd k b)) 38 := (hx5.kept.gets _ (by simp only [GH.pn, GH.sn]; omega)).trans (by simp (disch := first | assumption | exact cellV_int _ _ | exact cellV_bool _ | omega | (simp only [GH.pn, GH.sn] <;> omega) | (with_reducible ((repeat (first | apply GH.ok_push | apply GH.ok_set)); assumption)) | ((try simp only [GH.push_hid, GH.set_hid]); first | assumption | (refine GH.vis ?_ ?_ <;> first | assumption | ((try simp only [GH.pn, GH.sn]) <;> omega)))) only [↓GH.gp_eq, ↓GH.gp_ne, ↓GH.gs_eq, ↓GH.gs_ne, GH.push_next, GH.set_next]; first | done | exact rfl)
        rw [countV_word (by omega) (ha.app hb hl) d3, hA k (Nat.le_refl k), cn3_app]
        have la := wd_len ha.len (derr_zero.1 d1)
        have lb := wd_len hb.len (derr_zero.1 d2)
        obtain ⟨x1, x2, x3, hx⟩ : ∃ x1 x2 x3, x1 = (wd k a).count 1 ∧ x2 = (wd k a).count 2 ∧ x3 = (wd k a).count 3 := ⟨_, _, _, rfl, rfl, rfl⟩
        obtain ⟨y1, y2, y3, hy⟩ : ∃ x1 x2 x3, x1 = (wd k b).count 1 ∧ x2 = (wd k b).count 2 ∧ x3 = (wd k b).count 3 := ⟨_, _, _, rfl, rfl, rfl⟩
        have bx1 : x1 ≤ 100000 := by rw [hx.1]; exact Nat.le_trans List.count_le_length la
        have bx2 : x2 ≤ 100000 := by rw [hx.2.1]; exact Nat.le_trans List.count_le_length la
        have bx3 : x3 ≤ 100000 := by rw [hx.2.2]; exact Nat.le_trans List.count_le_length la
        have by1 : y1 ≤ 100000 := by rw [hy.1]; exact Nat.le_trans List.count_le_length lb
        have by2 : y2 ≤ 100000 := by rw [hy.2.1]; exact Nat.le_trans List.count_le_length lb
        have by3 : y3 ≤ 100000 := by rw [hy.2.2]; exact Nat.le_trans List.count_le_length lb
        rw [cn3, ← hx.1, ← hx.2.1, ← hx.2.2] at q5
        rw [cn3, ← hy.1, ← hy.2.1, ← hy.2.2] at q6
        rw [← hx.1, ← hx.2.1, ← hx.2.2, ← hy.1, ← hy.2.1, ← hy.2.2]
        have z1 : wrapF .i64 ((x1 : Int) + (y1 : Int)) = ((x1 + y1 : Nat) : Int) := by rw [wr64 (by omega) (by omega)]; omega
        have z2 : wrapF .i64 ((x2 : Int) + (y2 : Int)) = ((x2 + y2 : Nat) : Int) := by rw [wr64 (by omega) (by omega)]; omega
        have z3 : wrapF .i64 ((x3 : Int) + (y3 : Int)) = ((x3 + y3 : Nat) : Int) := by rw [wr64 (by omega) (by omega)]; omega
        simp +decide (disch := first | assumption | exact cellV_int _ _ | exact cellV_bool _ | omega | (simp only [GH.pn, GH.sn] <;> omega) | (with_reducible ((repeat (first | apply GH.ok_push | apply GH.ok_set)); assumption)) | ((try simp only [GH.push_hid, GH.set_hid]); first | assumption | (refine GH.vis ?_ ?_ <;> first | assumption | ((try simp only [GH.pn, GH.sn]) <;> omega)))) only [go_sem, ↓reduceIte, Nat.reduceEqDiff, Nat.reduceAdd, Int.reduceToNat, Int.reduceAdd, Int.reduceNeg, Int.reduceSub, Int.reduceMul, Int.reduceLT, Int.reduceLE, Int.reduceEq, ↓GH.gp_eq, ↓GH.gp_ne, ↓GH.gs_eq, ↓GH.gs_ne, GH.push_next, GH.set_next]
        refine Wk.loops (fun m e g' lo => g1.next ≤ lo ∧ ∃ i : Int, (0 ≤ i ∧ i ≤ 3 ∧ m = (3 - i).toNat) ∧ (g'.get g3.next = cellsOb [.int .i64 x1, .int .i64 x2, .int .i64 x3] 38 ∧ g'.get g4.next = cellsOb [.int .i64 y1, .int .i64 y2, .int .i64 y3] 38 ∧ g'.get g5.next = cellsOb [.int .i64 (x1 + y1 : Nat), .int .i64 (x2 + y2 : Nat), .int .i64 (x3 + y3 : Nat)] 38 ∧ g5.next < g'.next) ∧ (ev e (.s 12) = ptrTo g3.next ∧ ev e (.s 13) = ptrTo g4.next ∧ ev e (.s 15) = ptrTo g5.next ∧ ev e (.s 0) = .string (Try.txt a) ∧ ev e (.s 1) = .string (Try.txt b) ∧ ev e (.s 3) = .int .u8 p ∧ ev e (.s 9) = .int .i64 k ∧ ev e (.s 17) = .int .i64 i))
          (fun e g' lo => g1.next ≤ lo ∧ (ev e (.s 0) = .string (Try.txt a) ∧ ev e (.s 1) = .string (Try.txt b) ∧ ev e (.s 3) = .int .u8 p ∧ ev e (.s 9) = .int .i64 k)) (n := 3) ?_ ?_ ?_
        · refine ⟨by first | exact Nat.le_refl _ | omega, 0, ⟨by omega, by omega, rfl⟩, ⟨?_, ?_, ?_, ?_⟩, (by simp +decide (disch := first | assumption | (apply GH.ok_push; assumption) | exact cellV_int _ _ | exact cellV_bool _ | omega) only [go_sem, ↓reduceIte, Nat.reduceEqDiff, Nat.reduceAdd, Int.reduceToNat]; first | done | exact rfl)⟩
          · refine Eq.trans ?_ q5
            exact (by simp (disch := first | assumption | exact cellV_int _ _ | exact cellV_bool _ | omega | (simp only [GH.pn, GH.sn] <;> omega) | (with_reducible ((repeat (first | apply GH.ok_push | apply GH.ok_set)); assumption)) | ((try simp only [GH.push_hid, GH.set_hid]); first | assumption | (refine GH.vis ?_ ?_ <;> first | assumption | ((try simp only [GH.pn, GH.sn]) <;> omega)))) only [↓GH.gp_eq, ↓GH.gp_ne, ↓GH.gs_eq, ↓GH.gs_ne, GH.push_next, GH.set_next]; first | done | exact rfl)
          · refine Eq.trans ?_ q6
            exact (by simp (disch := first | assumption | exact cellV_int _ _ | exact cellV_bool _ | omega | (simp only [GH.pn, GH.sn] <;> omega) | (with_reducible ((repeat (first | apply GH.ok_push | apply GH.ok_set)); assumption)) | ((try simp only [GH.push_hid, GH.set_hid]); first | assumption | (refine GH.vis ?_ ?_ <;> first | assumption | ((try simp only [GH.pn, GH.sn]) <;> omega)))) only [↓GH.gp_eq, ↓GH.gp_ne, ↓GH.gs_eq, ↓GH.gs_ne, GH.push_next, GH.set_next]; first | done | exact rfl)
          · exact (by simp (disch := first | assumption | exact cellV_int _ _ | exact cellV_bool _ | omega | (simp only [GH.pn, GH.sn] <;> omega) | (with_reducible ((repeat (first | apply GH.ok_push | apply GH.ok_set)); assumption)) | ((try simp only [GH.push_hid, GH.set_hid]); first | assumption | (refine GH.vis ?_ ?_ <;> first | assumption | ((try simp only [GH.pn, GH.sn]) <;> omega)))) only [↓GH.gp_eq, ↓GH.gp_ne, ↓GH.gs_eq, ↓GH.gs_ne, GH.push_next, GH.set_next]; first | done | exact rfl)
          · simp only [GH.pn, GH.sn]; omega
        · rintro e g' lo ho' - ⟨hlo, he⟩
          have hp : p < 256 := by omega
          have hcp := conv_byte hp
          obtain ⟨t, hrt⟩ : ∃ t, t = p % (k + 1) := ⟨_, rfl⟩
          have hlt := Nat.mod_lt p (show 0 < k + 1 by omega)
          have ht : ((p : Int).tmod ((k : Int) + 1)) = (t : Int) := by rw [hrt]; exact (Int.ofNat_tmod p (k + 1)).symm
          have hw1 : wrapF .i64 ((k : Int) + 1) = ((k : Int) + 1) := wr64 (by omega) (by omega)
          have hnz : ¬ ((k : Int) + 1 = 0) := by omega
          have hwt : wrapF .i64 (t : Int) = (t : Int) := wr64 (by omega) (by omega)
          simp +decide (disch := first | assumption | exact cellV_int _ _ | exact cellV_bool _ | omega | (simp only [GH.pn, GH.sn] <;> omega) | (with_reducible ((repeat (first | apply GH.ok_push | apply GH.ok_set)); assumption)) | ((try simp only [GH.push_hid, GH.set_hid]); first | assumption | (refine GH.vis ?_ ?_ <;> first | assumption | ((try simp only [GH.pn, GH.sn]) <;> omega)))) only [go_sem, ↓reduceIte, Nat.reduceEqDiff, Nat.reduceAdd, Int.reduceToNat, Int.reduceAdd, Int.reduceNeg, Int.reduceSub, Int.reduceMul, Int.reduceLT, Int.reduceLE, Int.reduceEq, ↓GH.gp_eq, ↓GH.gp_ne, ↓GH.gs_eq, ↓GH.gs_ne, GH.push_next, GH.set_next, he, hcp, hw1, hnz, ht, hwt]
          refine CallD.calm (apart_rets hX _ _ _ _) ?_
          rintro v g7 hx7 rfl
          have hn7 := hx7.next
          rw [apartV_word (n := t) (by omega) ha hb hl (derr_mono d1 (by omega)) (derr_mono d2 (by omega)) (derr_mono d3 (by omega)), decide_eq_true (show ApartL a b t from fun d hd => hA d (by omega))]
          simp +decide (disch := first | assumption | (apply GH.ok_push; assumption) | exact cellV_int _ _ | exact cellV_bool _ | omega) only [go_sem, ↓reduceIte, Nat.reduceEqDiff, Nat.reduceAdd, Int.reduceToNat]
          refine CallD.calm (hX.alive _) ?_
          rintro v g8 hx8 ⟨rfl, rfl⟩
          simp +decide (disch := first | assumption | (apply GH.ok_push; assumption) | exact cellV_int _ _ | exact cellV_bool _ | omega) only [go_sem, ↓reduceIte, Nat.reduceEqDiff, Nat.reduceAdd, Int.reduceToNat]
          intro hx
          exact ⟨by first | exact Nat.le_refl _ | omega, rfl⟩
        · rintro m e g' lo ho' hl' ih out ⟨hlo, i, ⟨hi, hi3, hm⟩, ⟨b1, b2, b3, b4⟩, he⟩
          have w1 := GH.seen b1 Nat.one_ne_zero
          have w2 := GH.seen b2 Nat.one_ne_zero
          have w3 := GH.seen b3 Nat.one_ne_zero
          rcases (show i = 0 ∨ i = 1 ∨ i = 2 ∨ i = 3 by omega) with rfl | rfl | rfl | rfl
          · have i1 := ia3u g3.next
            have i2 := ia3u g4.next
            have i3 := ia3u g5.next
            simp +decide (disch := first | assumption | exact cellV_int _ _ | exact cellV_bool _ | omega | (simp only [GH.pn, GH.sn] <;> omega) | (with_reducible ((repeat (first | apply GH.ok_push | apply GH.ok_set)); assumption)) | ((try simp only [GH.push_hid, GH.set_hid]); first | assumption | (refine GH.vis ?_ ?_ <;> first | assumption | ((try simp only [GH.pn, GH.sn]) <;> omega)))) only [go_sem, ↓reduceIte, Nat.reduceEqDiff, Nat.reduceAdd, Int.reduceToNat, Int.reduceAdd, Int.reduceNeg, Int.reduceSub, Int.reduceMul, Int.reduceLT, Int.reduceLE, Int.reduceEq, ↓GH.gp_eq, ↓GH.gp_ne, ↓GH.gs_eq, ↓GH.gs_ne, GH.push_next, GH.set_next, he, b1, b2, b3, i1, i2, i3, z1]
            refine ih (m - 1) _ _ _ (by omega) ⟨by omega, _, ⟨?_, ?_, ?_⟩, ⟨b1, b2, b3, b4⟩, (by simp +decide (disch := first | assumption | (apply GH.ok_push; assumption) | exact cellV_int _ _ | exact cellV_bool _ | omega) only [go_sem, ↓reduceIte, Nat.reduceEqDiff, Nat.reduceAdd, Int.reduceToNat, he]; first | done | exact rfl)⟩ <;> first | omega | decide
          · have i1 := ia3u g3.next
            have i2 := ia3u g4.next
            have i3 := ia3u g5.next
            simp +decide (disch := first | assumption | exact cellV_int _ _ | exact cellV_bool _ | omega | (simp only [GH.pn, GH.sn] <;> omega) | (with_reducible ((repeat (first | apply GH.ok_push | apply GH.ok_set)); assumption)) | ((try simp only [GH.push_hid, GH.set_hid]); first | assumption | (refine GH.vis ?_ ?_ <;> first | assumption | ((try simp only [GH.pn, GH.sn]) <;> omega)))) only [go_sem, ↓reduceIte, Nat.reduceEqDiff, Nat.reduceAdd, Int.reduceToNat, Int.reduceAdd, Int.reduceNeg, Int.reduceSub, Int.reduceMul, Int.reduceLT, Int.reduceLE, Int.reduceEq, ↓GH.gp_eq, ↓GH.gp_ne, ↓GH.gs_eq, ↓GH.gs_ne, GH.push_next, GH.set_next, he, b1, b2, b3, i1, i2, i3, z2]
            refine ih (m - 1) _ _ _ (by omega) ⟨by omega, _, ⟨?_, ?_, ?_⟩, ⟨b1, b2, b3, b4⟩, (by simp +decide (disch := first | assumption | (apply GH.ok_push; assumption) | exact cellV_int _ _ | exact cellV_bool _ | omega) only [go_sem, ↓reduceIte, Nat.reduceEqDiff, Nat.reduceAdd, Int.reduceToNat, he]; first | done | exact rfl)⟩ <;> first | omega | decide
          · have i1 := ia3u g3.next
            have i2 := ia3u g4.next
            have i3 := ia3u g5.next
            simp +decide (disch := first | assumption | exact cellV_int _ _ | exact cellV_bool _ | omega | (simp only [GH.pn, GH.sn] <;> omega) | (with_reducible ((repeat (first | apply GH.ok_push | apply GH.ok_set)); assumption)) | ((try simp only [GH.push_hid, GH.set_hid]); first | assumption | (refine GH.vis ?_ ?_ <;> first | assumption | ((try simp only [GH.pn, GH.sn]) <;> omega)))) only [go_sem, ↓reduceIte, Nat.reduceEqDiff, Nat.reduceAdd, Int.reduceToNat, Int.reduceAdd, Int.reduceNeg, Int.reduceSub, Int.reduceMul, Int.reduceLT, Int.reduceLE, Int.reduceEq, ↓GH.gp_eq, ↓GH.gp_ne, ↓GH.gs_eq, ↓GH.gs_ne, GH.push_next, GH.set_next, he, b1, b2, b3, i1, i2, i3, z3]
            refine ih (m - 1) _ _ _ (by omega) ⟨by omega, _, ⟨?_, ?_, ?_⟩, ⟨b1, b2, b3, b4⟩, (by simp +decide (disch := first | assumption | (apply GH.ok_push; assumption) | exact cellV_int _ _ | exact cellV_bool _ | omega) only [go_sem, ↓reduceIte, Nat.reduceEqDiff, Nat.reduceAdd, Int.reduceToNat, he]; first | done | exact rfl)⟩ <;> first | omega | decide
          · simp +decide (disch := first | assumption | exact cellV_int _ _ | exact cellV_bool _ | omega | (simp only [GH.pn, GH.sn] <;> omega) | (with_reducible ((repeat (first | apply GH.ok_push | apply GH.ok_set)); assumption)) | ((try simp only [GH.push_hid, GH.set_hid]); first | assumption | (refine GH.vis ?_ ?_ <;> first | assumption | ((try simp only [GH.pn, GH.sn]) <;> omega)))) only [go_sem, ↓reduceIte, Nat.reduceEqDiff, Nat.reduceAdd, Int.reduceToNat, Int.reduceAdd, Int.reduceNeg, Int.reduceSub, Int.reduceMul, Int.reduceLT, Int.reduceLE, Int.reduceEq, ↓GH.gp_eq, ↓GH.gp_ne, ↓GH.gs_eq, ↓GH.gs_ne, GH.push_next, GH.set_next, he]
            exact out _ _ _ ⟨hlo, (by simp +decide (disch := first | assumption | (apply GH.ok_push; assumption) | exact cellV_int _ _ | exact cellV_bool _ | omega) only [go_sem, ↓reduceIte, Nat.reduceEqDiff, Nat.reduceAdd, Int.reduceToNat, he]; first | done | exact rfl)⟩
      · rw [decide_eq_false hA]
        simp +decide (disch := first | assumption | (apply GH.ok_push; assumption) | exact cellV_int _ _ | exact cellV_bool _ | omega) only [go_sem, ↓reduceIte, Nat.reduceEqDiff, Nat.reduceAdd, Int.reduceToNat]
        refine CallD.calm (hX.alive _) ?_
        rintro v g4 hx4 ⟨rfl, rfl⟩
        simp +decide (disch := first | assumption | (apply GH.ok_push; assumption) | exact cellV_int _ _ | exact cellV_bool _ | omega) only [go_sem, ↓reduceIte, Nat.reduceEqDiff, Nat.reduceAdd, Int.reduceToNat]
        intro hx
        exact ⟨by first | exact Nat.le_refl _ | omega, rfl⟩
    · obtain ⟨e, he⟩ : ∃ e, apErr (k : Int) l r = e := ⟨_, rfl⟩
      rw [he] at hE
      rw [apartV_err he hE]
      have hE' : ¬ (e = 0) := hE
      simp +decide (disch := first | assumption | (apply GH.ok_push; assumption) | exact cellV_int _ _ | exact cellV_bool _ | omega) only [go_sem, ↓reduceIte, Nat.reduceEqDiff, Nat.reduceAdd, Int.reduceToNat, hE']
      refine CallD.calm (hX.alive _) ?_
      rintro v g4 hx4 ⟨rfl, rfl⟩
      simp +decide (disch := first | assumption | (apply GH.ok_push; assumption) | exact cellV_int _ _ | exact cellV_bool _ | omega) only [go_sem, ↓reduceIte, Nat.reduceEqDiff, Nat.reduceAdd, Int.reduceToNat]
      intro hx
      exact ⟨by first | exact Nat.le_refl _ | omega, rfl⟩
end Go.Proofs.Ytgnnhenbmnopaaa
namespace Go.Proofs
open Go.RowKit Go.Shelf Go.Aw Go.Proofs.Ytgnnhenbmnopaaa
theorem below_low {n m : Nat} {w w' : World} (h : Below m w w') (hn : n ≤ m) : Below n w w' := ⟨h.1, h.2, h.3, h.4, fun k hk => h.5 k (by omega)⟩
end Go.Proofs
namespace Go.Proofs
open Go.RowKit Go.Shelf Go.Aw Go.Proofs.Ytgnnhenbmnopaaa
set_option linter.unusedVariables false
theorem bcat {w a b : World} (h : Below w.heap.size w a) (k : Below a.heap.size a b) : Below w.heap.size w b := h.trans (below_low k h.size)
theorem runs_own {ds : List Nat} (hw : Wd ds) (w : World) : Calls Try.prog 20 #[.string (Try.txt ds)] w fun e w' => (∃ v, e = .returned (.tuple #[v, .int .i64 0]) ∧ w'.ownsRow w.heap.size 52 2 v (runs ds).length (cellsP (runs ds))) ∧ Below w.heap.size w w' := by
  refine (Try.runs_in (Try.txt ds) w).mono ?_
  intro e w' h
  unfold Try.runsR at h
  rwa [if_pos hw.werr, digs_txt hw.dig] at h
end Go.Proofs
set_option maxRecDepth 100000
set_option maxHeartbeats 8000000
set_option linter.unusedSimpArgs false
set_option linter.unusedVariables false
namespace Go.Proofs.Ytgnnhenbmnopaaa
open Go.Ds Go.Aw
def lastD (L : List (Nat × Nat)) (i : Nat) : Nat := if h : 0 < i ∧ i - 1 < L.length then (L[i - 1]'h.2).2 else 0
theorem lastD_zero (L : List (Nat × Nat)) : lastD L 0 = 0 := rfl
theorem lastD_succ {L : List (Nat × Nat)} {i : Nat} (h : i < L.length) : lastD L (i + 1) = L[i].2 := by
  unfold lastD
  rw [dif_pos ⟨by omega, by simpa using h⟩]
  simp
theorem store2 (a b : Int) : ([Value.int .i64 a, .int .i64 b] : List Value).all cellV = true := rfl
theorem cellsP_drop : ∀ (L : List (Nat × Nat)) (i : Nat) (h : i < L.length), ((cellsP L).drop (i * 2)).take 2 = [.int .i64 L[i].1, .int .i64 L[i].2]
  | [], i, h => by simp at h
  | p :: L, 0, h => by simp [cellsP]
  | p :: L, i + 1, h => by
    have := cellsP_drop L i (by simpa using h)
    have e : cellsP (p :: L) = .int .i64 p.1 :: .int .i64 p.2 :: cellsP L := by simp [cellsP]
    rw [e, show (i + 1) * 2 = i * 2 + 1 + 1 by omega]
    simpa using this
/-- The program's word with the runs of a word. -/
theorem of_rets {X : Caller} (hX : Xok X) (L : List (Nat × Nat)) (hL : ∀ p ∈ L, 1 ≤ p.1 ∧ p.1 ≤ 200 ∧ 1 ≤ p.2 ∧ p.2 ≤ 9) (hG : Go.Aw.Good L) (hne : 0 < (spell L).length) (hlen : (spell L).length ≤ 200) (hll : L.length ≤ 200) (x : Value) (g : GH) (hs : SlQ g x 2 L.length (cellsP L)) :
    Rets Try.prog X 25 [x] g (fun v g' lo => g.next ≤ lo ∧ v = .tuple #[.string (Try.txt (spell L)), .int .i64 0]) := by
  refine Rets.run hX.pres p25 (hX.free 25 (by decide) _ _) rfl fun ho => ?_
  have hln := hs.len
  have hll' : ¬ (200 < (L.length : Int)) := by omega
  simp +decide (disch := first | assumption | (apply GH.ok_push; assumption) | exact cellV_int _ _ | exact cellV_bool _ | omega) only [go_sem, ↓reduceIte, Nat.reduceEqDiff, Nat.reduceAdd, Int.reduceToNat, hln, hll']
  refine Wk.loops (fun m e g' lo => g.next ≤ lo ∧ Kept g g' ∧ ∃ i : Nat, (i ≤ L.length ∧ m = L.length - i) ∧ (ev e (.s 0) = x ∧ ev e (.s 11) = x ∧ ev e (.s 12) = .int .i64 L.length ∧ ev e (.s 13) = .int .i64 i ∧ ev e (.s 4) = .int .i64 ((spell (L.take i)).length : Nat) ∧ ev e (.s 5) = .int .i64 (lastD L i : Nat)))
    (fun e g' lo => g.next ≤ lo ∧ Kept g g' ∧ (ev e (.s 0) = x ∧ ev e (.s 4) = .int .i64 ((spell L).length : Nat))) (n := L.length) ?_ ?_ ?_
  · have z1 : ((lastD L 0 : Nat) : Int) = 0 := rfl
    have z2 : (((spell (L.take 0)).length : Nat) : Int) = 0 := rfl
    have z3 : ((0 : Nat) : Int) = 0 := rfl
    exact ⟨Nat.le_refl _, Kept.refl g, 0, ⟨Nat.zero_le _, rfl⟩, (by simp +decide (disch := first | assumption | (apply GH.ok_push; assumption) | exact cellV_int _ _ | exact cellV_bool _ | omega) only [go_sem, ↓reduceIte, Nat.reduceEqDiff, Nat.reduceAdd, Int.reduceToNat, hln, z1, z2, z3]; first | done | exact rfl)⟩
  · rintro e g' lo ho' - ⟨hlo, hk, he⟩
    have c1 : ¬ (200 < (((spell L).length : Nat) : Int)) := by omega
    have c2 : ¬ ((((spell L).length : Nat) : Int) = 0) := by omega
    simp +decide (disch := first | assumption | (apply GH.ok_push; assumption) | exact cellV_int _ _ | exact cellV_bool _ | omega) only [go_sem, ↓reduceIte, Nat.reduceEqDiff, Nat.reduceAdd, Int.reduceToNat, he, c1, c2]
    refine CallD.calm (hX.written L x _ (hs.kept hk) ?_) ?_
    · unfold smallP
      simp only [Bool.and_eq_true, List.all_eq_true, Nat.ble_eq]
      exact ⟨by omega, fun p hp => ⟨by have := (hL p hp).2.1; omega, (hL p hp).2.2.2⟩⟩
    rintro v g4 hx4 ⟨rfl, rfl⟩
    simp +decide (disch := first | assumption | (apply GH.ok_push; assumption) | exact cellV_int _ _ | exact cellV_bool _ | omega) only [go_sem, ↓reduceIte, Nat.reduceEqDiff, Nat.reduceAdd, Int.reduceToNat, he]
    intro hx
    exact ⟨hlo, rfl⟩
  · rintro m e g' lo ho' hl' ih out ⟨hlo, hk, i, ⟨hi, hm⟩, he⟩
    have hkn := hk.next
    by_cases c : i < L.length
    · obtain ⟨j, a, hj, hp1, hp2, hp3⟩ := (hs.kept hk).ptr c
      have hp1 := hp1 (i : Int) rfl
      have hp9 := hL L[i] (List.getElem_mem c)
      have hag := cellsP_drop L i c
      rw [hag] at hp3
      have hls : (L[i].2 ≠ lastD L i) := by
        by_cases z : i = 0
        · subst z; rw [lastD_zero]; omega
        · obtain ⟨k, rfl⟩ : ∃ k, i = k + 1 := ⟨i - 1, by omega⟩
          rw [lastD_succ (by omega)]
          exact fun e => good_adj L k c hG e.symm
      have ht := take_pair c
      have hld := lastD_succ c
      obtain ⟨p, hp⟩ : ∃ p, L[i] = p := ⟨_, rfl⟩
      rw [hp] at hp9 ht hls hp3 hld
      have hsum : (spell (L.take (i + 1))).length = (spell (L.take i)).length + p.1 := by rw [ht, spell_snoc, List.length_append, List.length_replicate]
      have hsl : (spell (L.take (i + 1))).length ≤ 200 := by
        have e : spell L = spell (L.take (i + 1)) ++ spell (L.drop (i + 1)) := by
          unfold spell
          rw [← List.flatMap_append, List.take_append_drop]
        have := congrArg List.length e
        rw [List.length_append] at this
        omega
      have f1 : ¬ ((p.1 : Int) < 1) := by omega
      have f2 : ¬ (200 < (p.1 : Int)) := by omega
      have f3 : ¬ ((p.2 : Int) < 1) := by omega
      have f4 : ¬ (9 < (p.2 : Int)) := by omega
      have f5 : ¬ ((p.2 : Int) = (lastD L i : Int)) := by omega
      have hw1 : wrapF .i64 (((spell (L.take i)).length : Int) + (p.1 : Int)) = ((spell (L.take (i + 1))).length : Nat) := by rw [wr64 (by omega) (by omega), hsum]; omega
      simp +decide (maxSteps := 2000000) (disch := first | assumption | exact cellV_int _ _ | exact cellV_bool _ | omega | (simp only [GH.pn, GH.sn] <;> omega) | (with_reducible ((repeat (first | apply GH.ok_push | apply GH.ok_set)); assumption)) | ((try simp only [GH.push_hid, GH.set_hid]); first | assumption | (refine GH.vis ?_ ?_ <;> first | assumption | ((try simp only [GH.pn, GH.sn]) <;> omega)))) only [go_sem, ↓reduceIte, Nat.reduceEqDiff, Nat.reduceAdd, Int.reduceToNat, Int.reduceAdd, Int.reduceNeg, Int.reduceSub, Int.reduceMul, Int.reduceLT, Int.reduceLE, Int.reduceEq, ↓GH.gp_eq, ↓GH.gp_ne, ↓GH.gs_eq, ↓GH.gs_ne, GH.push_next, GH.set_next, he, c, hp1, hp3, f1, f2, f3, f4, f5, hw1]
      refine ih (L.length - (i + 1)) _ _ _ (by omega) ⟨?_, ?_, i + 1, ⟨by omega, rfl⟩, ?_⟩
      · omega
      · exact (by (repeat' first | exact Kept.refl _ | assumption | refine Kept.push ?_ ?_ _ | refine Kept.setV ?_ ?_ ?_ _) <;> (first | assumption | exact cellV_int _ _ | exact cellV_bool _ | omega | (simp only [GH.pn, GH.sn] <;> omega) | (with_reducible ((repeat (first | apply GH.ok_push | apply GH.ok_set)); assumption)) | ((try simp only [GH.push_hid, GH.set_hid]); first | assumption | (refine GH.vis ?_ ?_ <;> first | assumption | ((try simp only [GH.pn, GH.sn]) <;> omega)))))
      · rw [hld]
        exact (by simp +decide (disch := first | assumption | (apply GH.ok_push; assumption) | exact cellV_int _ _ | exact cellV_bool _ | omega) only [go_sem, ↓reduceIte, Nat.reduceEqDiff, Nat.reduceAdd, Int.reduceToNat, he]; first | done | exact rfl)
    · have hie : i = L.length := by omega
      subst hie
      simp +decide (disch := first | assumption | exact cellV_int _ _ | exact cellV_bool _ | omega | (simp only [GH.pn, GH.sn] <;> omega) | (with_reducible ((repeat (first | apply GH.ok_push | apply GH.ok_set)); assumption)) | ((try simp only [GH.push_hid, GH.set_hid]); first | assumption | (refine GH.vis ?_ ?_ <;> first | assumption | ((try simp only [GH.pn, GH.sn]) <;> omega)))) only [go_sem, ↓reduceIte, Nat.reduceEqDiff, Nat.reduceAdd, Int.reduceToNat, Int.reduceAdd, Int.reduceNeg, Int.reduceSub, Int.reduceMul, Int.reduceLT, Int.reduceLE, Int.reduceEq, ↓GH.gp_eq, ↓GH.gp_ne, ↓GH.gs_eq, ↓GH.gs_ne, GH.push_next, GH.set_next, he, hln]
      refine out _ _ _ ⟨hlo, hk, ?_⟩
      rw [List.take_length] at he
      exact (by simp +decide (disch := first | assumption | (apply GH.ok_push; assumption) | exact cellV_int _ _ | exact cellV_bool _ | omega) only [go_sem, ↓reduceIte, Nat.reduceEqDiff, Nat.reduceAdd, Int.reduceToNat, he]; first | done | exact rfl)
end Go.Proofs.Ytgnnhenbmnopaaa
set_option maxRecDepth 100000
set_option maxHeartbeats 4000000
set_option linter.unusedSimpArgs false
set_option linter.unusedVariables false
namespace Go.Proofs.Ytgnnhenbmnopaaa
open Go.Ds Go.Aw
theorem seen_own {W : World} {base : Nat} {v : Value} {L : List (Nat × Nat)} (hn : L ≠ []) (h : W.ownsRow base 52 2 v L.length (cellsP L)) :
    ∃ (u : Value) (rows : List (List Value)) (bs : List Nat), SeenIn W rows bs ∧ VRel (seenPhi bs) u v ∧ SlQ (seenG rows) u 2 L.length (cellsP L) := by
  obtain ⟨hl, h⟩ := h
  rcases h with ⟨_, h0⟩ | ⟨b, cap, cur, rfl, hb, hc, h1, h2, h3, h4⟩
  · exact absurd (List.eq_nil_of_length_eq_zero h0) hn
  · have hml : cap < OPEN := by unfold maxLen at h2; unfold OPEN; omega
    refine ⟨.slice (some ⟨0, 0, none⟩) L.length cap, [cellsP L], [b], ⟨rfl, ?_, ?_⟩, .slc 0 ⟨b, 0⟩ 0 L.length cap rfl hml h1, ⟨hl, .inr ⟨0, 0, cap, seenOb (cellsP L), rfl, by rw [seen_next]; exact Nat.one_pos, seen_get _ rfl, .inr ⟨rfl, ?_⟩, by simp [seenOb], by simp [seenOb]⟩⟩⟩
    · intro i j b' hi hj
      match i, j with
      | 0, 0 => rfl
      | 0, j + 1 => simp at hj
      | i + 1, _ => simp at hi
    · intro i r b' hr hb'
      match i with
      | i + 1 => simp at hr
      | 0 =>
        simp at hr hb'
        subst hr; subst hb'
        refine ⟨(Array.getElem?_eq_some_iff.1 hc).1, cur, 52, _, hc, fun k v hk => .inr ⟨?_, ?_⟩⟩
        · rw [← h4, List.getElem?_take] at hk
          split at hk
          · simpa using hk
          · cases hk
        · obtain ⟨n, rfl⟩ := cellsP_plain L v (List.mem_of_getElem? hk)
          rfl
    · rw [List.any_eq_false]
      intro x hx
      obtain ⟨n, rfl⟩ := cellsP_plain L x hx
      simp [isJ]
theorem of_in {W : World} {base : Nat} {v : Value} {ds : List Nat} (hw : Wd ds) (h : W.ownsRow base 52 2 v (runs ds).length (cellsP (runs ds))) :
    Calls Try.prog 25 #[v] W fun e w' => e = .returned (.tuple #[.string (Try.txt ds), .int .i64 0]) ∧ RowKit.Below W.heap.size W w' := by
  have hrn : runs ds ≠ [] := fun z => hw.ne (runs_nil z)
  obtain ⟨u, rows, bs, s1, s2, s3⟩ := seen_own hrn h
  have hsp := spell_runs ds
  have hp := List.length_pos_iff.2 hw.ne
  have hln := hw.len
  have hrl := runs_len ds
  have r := of_rets X0_ok (runs ds) (fun p hp => ?_) (good_runs ds) (by rw [hsp]; exact hp) (by rw [hsp]; exact hln) (by omega) u (seenG rows) s3
  · rw [hsp] at r
    have inst : Inhabited Bound := ⟨⟨0⟩⟩
    exact Rets.seen X0_orac mixedO (args := [u]) s1 (LRel.cons s2 LRel.nil) (fun h => X0_free (by decide) _ h) rfl (r.mono fun v g' lo _ ⟨h1, h2⟩ => ⟨by rw [← seen_next rows]; exact h1, h2⟩)
  · have h1 := good_pos (good_runs ds) p hp
    have h2 := runs_dig hw.dig p hp
    have h3 : p.1 ≤ (spell (runs ds)).length := by
      have : ∀ (L : List (Nat × Nat)), p ∈ L → p.1 ≤ (spell L).length := by
        intro L
        induction L with
        | nil => intro h; cases h
        | cons q L ih =>
          intro h
          have e : spell (q :: L) = List.replicate q.1 q.2 ++ spell L := rfl
          rw [e, List.length_append, List.length_replicate]
          rcases List.mem_cons.1 h with rfl | h
          · omega
          · have := ih h; omega
      exact this _ hp
    rw [hsp] at h3
    exact ⟨h1, by omega, h2.1, h2.2⟩
end Go.Proofs.Ytgnnhenbmnopaaa
set_option maxRecDepth 100000
set_option maxHeartbeats 8000000
set_option linter.unusedSimpArgs false
set_option linter.unusedVariables false
namespace Go.Proofs.Ytgnnhenbmnopaaa
open Go.Ds Go.Aw
/-- The specification's Runs: the error, or the runs in a row of their own. -/
def RunsQ (s : ByteArray) (base : Nat) (g' : GH) (v : Value) : Prop :=
  if werr s = 0 then ∃ o, v = .tuple #[o, .int .i64 0] ∧ OwnQ g' o 2 (runs (digs s)).length (cellsP (runs (digs s))) 52 base else v = .tuple #[.slice none 0 0, .int .i64 (werr s)]
theorem refRunsE_rets {X : Caller} (hX : Xfr X) (s : ByteArray) (g : GH) : Rets Try.prog X 21 [.string s] g (fun v g' lo => g.next ≤ lo ∧ RunsQ s g.next g' v) := by
  refine Rets.run hX.pres p21 (hX.free 21 (by decide) _ _) rfl fun ho => ?_
  simp +decide (disch := first | assumption | (apply GH.ok_push; assumption) | exact cellV_int _ _ | exact cellV_bool _ | omega) only [go_sem, ↓reduceIte, Nat.reduceEqDiff, Nat.reduceAdd, Int.reduceToNat]
  refine CallD.calm (refWord_rets hX s _) ?_
  rintro v g1 hx1 ⟨rfl, rfl⟩
  by_cases hz : werr s = 0
  · obtain ⟨ds, hw, rfl⟩ := werr_word hz
    simp +decide (disch := first | assumption | (apply GH.ok_push; assumption) | exact cellV_int _ _ | exact cellV_bool _ | omega) only [go_sem, ↓reduceIte, Nat.reduceEqDiff, Nat.reduceAdd, Int.reduceToNat, hz]
    refine CallD.calm (refRuns_rets hX ds hw.dig (by have := hw.len; omega) _) ?_
    rintro v g2 hx2 hown
    have hn2 := hx2.next
    have hc := hown.cell
    simp +decide (disch := first | assumption | (apply GH.ok_push; assumption) | exact cellV_int _ _ | exact cellV_bool _ | omega) only [go_sem, ↓reduceIte, Nat.reduceEqDiff, Nat.reduceAdd, Int.reduceToNat, hc]
    intro hx
    refine ⟨by first | exact Nat.le_refl _ | omega, ?_⟩
    unfold RunsQ
    rw [if_pos hz, digs_txt hw.dig]
    exact ⟨v, rfl, hown⟩
  · have hz' : ¬ (werr s = 0) := hz
    simp +decide (disch := first | assumption | (apply GH.ok_push; assumption) | exact cellV_int _ _ | exact cellV_bool _ | omega) only [go_sem, ↓reduceIte, Nat.reduceEqDiff, Nat.reduceAdd, Int.reduceToNat, hz']
    intro hx
    refine ⟨by first | exact Nat.le_refl _ | omega, ?_⟩
    unfold RunsQ
    rw [if_neg hz]
theorem mx64 (a b : Nat) : mxF (.int .i64 (a : Int)) (.int .i64 (b : Int)) = some (.int .i64 ((max a b : Nat) : Int)) := by
  simp only [mxF]
  rw [lt_i]
  by_cases c : (a : Int) < (b : Int)
  · rw [decide_eq_true c]
    have : max a b = b := by omega
    rw [this]; rfl
  · rw [decide_eq_false c]
    have : max a b = a := by omega
    rw [this]; rfl
theorem mxR_take {L : List (Nat × Nat)} {i : Nat} (h : i < L.length) : mxR (L.take (i + 1)) = max (mxR (L.take i)) L[i].1 := by
  rw [take_pair h, mxR_snoc]
/-- The specification's longest run. -/
theorem refLongest_rets {X : Caller} (hX : Xfr X) (s : ByteArray) (g : GH) : Rets Try.prog X 24 [.string s] g (fun v g' lo => g.next ≤ lo ∧ v = Try.longV s) := by
  refine Rets.run hX.pres p24 (hX.free 24 (by decide) _ _) rfl fun ho => ?_
  simp +decide (disch := first | assumption | (apply GH.ok_push; assumption) | exact cellV_int _ _ | exact cellV_bool _ | omega) only [go_sem, ↓reduceIte, Nat.reduceEqDiff, Nat.reduceAdd, Int.reduceToNat]
  refine CallD.calm (refRunsE_rets hX s _) ?_
  rintro v g1 hx1 hv
  have hn1 := hx1.next
  unfold RunsQ at hv
  by_cases hz : werr s = 0
  · rw [if_pos hz] at hv
    obtain ⟨o, rfl, hown⟩ := hv
    have hln := hown.len
    have hs := hown.read
    have hLl : (runs (digs s)).length ≤ 200 := by
      have h1 := runs_len (digs s)
      have h2 := (werr_zero hz).1
      rw [digs_len] at h1
      omega
    obtain ⟨L, hL⟩ : ∃ L, runs (digs s) = L := ⟨_, rfl⟩
    rw [hL] at hln hs hown hLl
    simp +decide (disch := first | assumption | (apply GH.ok_push; assumption) | exact cellV_int _ _ | exact cellV_bool _ | omega) only [go_sem, ↓reduceIte, Nat.reduceEqDiff, Nat.reduceAdd, Int.reduceToNat, hln]
    refine Wk.loops (fun m e g' lo => g.next ≤ lo ∧ Kept g1 g' ∧ ∃ i : Nat, (i ≤ L.length ∧ m = L.length - i) ∧ (ev e (.s 4) = o ∧ ev e (.s 5) = .int .i64 0 ∧ ev e (.s 6) = .int .i64 (mxR (L.take i) : Nat) ∧ ev e (.s 7) = .int .i64 i))
      (fun e g' lo => g.next ≤ lo ∧ (ev e (.s 5) = .int .i64 0 ∧ ev e (.s 6) = .int .i64 (mxR L : Nat))) (n := L.length) ?_ ?_ ?_
    · have z2 : ((mxR (L.take 0) : Nat) : Int) = 0 := rfl
      have z3 : ((0 : Nat) : Int) = 0 := rfl
      exact ⟨by first | exact Nat.le_refl _ | omega, Kept.refl _, 0, ⟨Nat.zero_le _, rfl⟩, (by simp +decide (disch := first | assumption | (apply GH.ok_push; assumption) | exact cellV_int _ _ | exact cellV_bool _ | omega) only [go_sem, ↓reduceIte, Nat.reduceEqDiff, Nat.reduceAdd, Int.reduceToNat, z2, z3]; first | done | exact rfl)⟩
    · rintro e g' lo ho' - ⟨hlo, he⟩
      simp +decide (disch := first | assumption | (apply GH.ok_push; assumption) | exact cellV_int _ _ | exact cellV_bool _ | omega) only [go_sem, ↓reduceIte, Nat.reduceEqDiff, Nat.reduceAdd, Int.reduceToNat, he]
      intro hx
      refine ⟨hlo, ?_⟩
      unfold Try.longV
      rw [if_pos hz, hL]
    · rintro m e g' lo ho' hl' ih out ⟨hlo, hk, i, ⟨hi, hm⟩, he⟩
      have hln2 := (hs.kept hk).len
      by_cases c : i < L.length
      · obtain ⟨j, a, hj, hp1, hp2, -⟩ := (hs.kept hk).ptr c
        have hp1 := hp1 (i : Int) rfl
        have q1 := (cellsP_get L i c).1
        have hv0 : ∀ lo, loadF none (g'.at lo) (.pointer (some ⟨j, a, none⟩)) = some (.int .i64 L[i].1) := fun lo => hp2 lo 0 _ (by omega) q1
        have hmx := mx64 (mxR (L.take i)) L[i].1
        have hmt := mxR_take c
        have hwi : wrapF .i64 ((i : Int) + 1) = (i : Int) + 1 := wr64 (by omega) (by omega)
        simp +decide (disch := first | assumption | exact cellV_int _ _ | exact cellV_bool _ | omega | (simp only [GH.pn, GH.sn] <;> omega) | (with_reducible ((repeat (first | apply GH.ok_push | apply GH.ok_set)); assumption)) | ((try simp only [GH.push_hid, GH.set_hid]); first | assumption | (refine GH.vis ?_ ?_ <;> first | assumption | ((try simp only [GH.pn, GH.sn]) <;> omega)))) only [go_sem, ↓reduceIte, Nat.reduceEqDiff, Nat.reduceAdd, Int.reduceToNat, Int.reduceAdd, Int.reduceNeg, Int.reduceSub, Int.reduceMul, Int.reduceLT, Int.reduceLE, Int.reduceEq, ↓GH.gp_eq, ↓GH.gp_ne, ↓GH.gs_eq, ↓GH.gs_ne, GH.push_next, GH.set_next, he, hln2, c, hp1, hv0, hmx]
        refine ih (m - 1) _ _ _ (by omega) ⟨hlo, hk, i + 1, ⟨by omega, by omega⟩, ?_⟩
        rw [hmt]
        exact (by simp +decide (disch := first | assumption | (apply GH.ok_push; assumption) | exact cellV_int _ _ | exact cellV_bool _ | omega) only [go_sem, ↓reduceIte, Nat.reduceEqDiff, Nat.reduceAdd, Int.reduceToNat, he]; first | done | exact rfl)
      · have hie : i = L.length := by omega
        subst hie
        rw [List.take_length] at he
        simp +decide (disch := first | assumption | exact cellV_int _ _ | exact cellV_bool _ | omega | (simp only [GH.pn, GH.sn] <;> omega) | (with_reducible ((repeat (first | apply GH.ok_push | apply GH.ok_set)); assumption)) | ((try simp only [GH.push_hid, GH.set_hid]); first | assumption | (refine GH.vis ?_ ?_ <;> first | assumption | ((try simp only [GH.pn, GH.sn]) <;> omega)))) only [go_sem, ↓reduceIte, Nat.reduceEqDiff, Nat.reduceAdd, Int.reduceToNat, Int.reduceAdd, Int.reduceNeg, Int.reduceSub, Int.reduceMul, Int.reduceLT, Int.reduceLE, Int.reduceEq, ↓GH.gp_eq, ↓GH.gp_ne, ↓GH.gs_eq, ↓GH.gs_ne, GH.push_next, GH.set_next, he, hln2]
        exact out _ _ _ ⟨hlo, (by simp +decide (disch := first | assumption | (apply GH.ok_push; assumption) | exact cellV_int _ _ | exact cellV_bool _ | omega) only [go_sem, ↓reduceIte, Nat.reduceEqDiff, Nat.reduceAdd, Int.reduceToNat, he]; first | done | exact rfl)⟩
  · rw [if_neg hz] at hv
    subst hv
    simp +decide (disch := first | assumption | (apply GH.ok_push; assumption) | exact cellV_int _ _ | exact cellV_bool _ | omega) only [go_sem, ↓reduceIte, Nat.reduceEqDiff, Nat.reduceAdd, Int.reduceToNat]
    refine Wk.loops (fun m e g' lo => g.next ≤ lo ∧ (ev e (.s 4) = .slice none 0 0 ∧ ev e (.s 5) = .int .i64 (werr s) ∧ ev e (.s 6) = .int .i64 0 ∧ ev e (.s 7) = .int .i64 0))
      (fun e g' lo => g.next ≤ lo ∧ (ev e (.s 5) = .int .i64 (werr s) ∧ ev e (.s 6) = .int .i64 0)) (n := 0) ?_ ?_ ?_
    · exact ⟨by first | exact Nat.le_refl _ | omega, (by simp +decide (disch := first | assumption | (apply GH.ok_push; assumption) | exact cellV_int _ _ | exact cellV_bool _ | omega) only [go_sem, ↓reduceIte, Nat.reduceEqDiff, Nat.reduceAdd, Int.reduceToNat]; first | done | exact rfl)⟩
    · rintro e g' lo ho' - ⟨hlo, he⟩
      simp +decide (disch := first | assumption | (apply GH.ok_push; assumption) | exact cellV_int _ _ | exact cellV_bool _ | omega) only [go_sem, ↓reduceIte, Nat.reduceEqDiff, Nat.reduceAdd, Int.reduceToNat, he]
      intro hx
      refine ⟨hlo, ?_⟩
      unfold Try.longV
      rw [if_neg hz]
    · rintro m e g' lo ho' hl' ih out ⟨hlo, he⟩
      simp +decide (disch := first | assumption | (apply GH.ok_push; assumption) | exact cellV_int _ _ | exact cellV_bool _ | omega) only [go_sem, ↓reduceIte, Nat.reduceEqDiff, Nat.reduceAdd, Int.reduceToNat, he]
      exact out _ _ _ ⟨hlo, (by simp +decide (disch := first | assumption | (apply GH.ok_push; assumption) | exact cellV_int _ _ | exact cellV_bool _ | omega) only [go_sem, ↓reduceIte, Nat.reduceEqDiff, Nat.reduceAdd, Int.reduceToNat, he]; first | done | exact rfl)⟩
theorem intEqs_same (a b : Int) : intEqs [.int .i64 a, .int .i64 b] [.int .i64 a, .int .i64 b] = some true := by
  simp only [intEqs]
  have h : ∀ n : Int, ieq n n = true := fun n => by rw [eq_i]; simp
  rw [h, h]
  rfl
/-- Two equal rows of pairs. -/
theorem pairs_rets {X : Caller} (hX : Xfr X) (L : List (Nat × Nat)) (hLl : L.length ≤ 100000) (x y : Value) (g : GH) (hx1 : SlQ g x 2 L.length (cellsP L)) (hy1 : SlQ g y 2 L.length (cellsP L)) : Rets Try.prog X 22 [x, y] g (fun v g' lo => g.next ≤ lo ∧ v = .bool true) := by
  refine Rets.run hX.pres p22 (hX.free 22 (by decide) _ _) rfl fun ho => ?_
  have hl1 := hx1.len
  have hl2 := hy1.len
  simp +decide (disch := first | assumption | (apply GH.ok_push; assumption) | exact cellV_int _ _ | exact cellV_bool _ | omega) only [go_sem, ↓reduceIte, Nat.reduceEqDiff, Nat.reduceAdd, Int.reduceToNat, hl1, hl2]
  refine Wk.loops (fun m e g' lo => g.next ≤ lo ∧ Kept g g' ∧ ∃ i : Nat, (i ≤ L.length ∧ m = L.length - i) ∧ (ev e (.s 0) = x ∧ ev e (.s 1) = y ∧ ev e (.s 5) = .int .i64 i))
    (fun e g' lo => g.next ≤ lo) (n := L.length) ?_ ?_ ?_
  · exact ⟨Nat.le_refl _, Kept.refl _, 0, ⟨Nat.zero_le _, rfl⟩, (by simp +decide (disch := first | assumption | (apply GH.ok_push; assumption) | exact cellV_int _ _ | exact cellV_bool _ | omega) only [go_sem, ↓reduceIte, Nat.reduceEqDiff, Nat.reduceAdd, Int.reduceToNat]; first | done | exact rfl)⟩
  · rintro e g' lo ho' - hlo
    simp +decide (disch := first | assumption | (apply GH.ok_push; assumption) | exact cellV_int _ _ | exact cellV_bool _ | omega) only [go_sem, ↓reduceIte, Nat.reduceEqDiff, Nat.reduceAdd, Int.reduceToNat]
    intro hx
    exact ⟨hlo, rfl⟩
  · rintro m e g' lo ho' hl' ih out ⟨hlo, hk, i, ⟨hi, hm⟩, he⟩
    by_cases c : i < L.length
    · obtain ⟨j, a, hj, hp1, -, hp3⟩ := (hx1.kept hk).ptr c
      obtain ⟨j2, a2, hj2, hq1, -, hq3⟩ := (hy1.kept hk).ptr c
      have hp1 := hp1 (i : Int) rfl
      have hq1 := hq1 (i : Int) rfl
      rw [cellsP_drop L i c] at hp3 hq3
      have heq : eqAF true 2 (.agg #[.int .i64 (L[i].1 : Int), .int .i64 (L[i].2 : Int)]) (.agg #[.int .i64 (L[i].1 : Int), .int .i64 (L[i].2 : Int)]) = some (.bool false) := by
        show (intEqs [_, _] [_, _]).map _ = _
        rw [intEqs_same]; rfl
      have hwi : wrapF .i64 ((i : Int) + 1) = (i : Int) + 1 := wr64 (by omega) (by omega)
      simp +decide (disch := first | assumption | exact cellV_int _ _ | exact cellV_bool _ | omega | (simp only [GH.pn, GH.sn] <;> omega) | (with_reducible ((repeat (first | apply GH.ok_push | apply GH.ok_set)); assumption)) | ((try simp only [GH.push_hid, GH.set_hid]); first | assumption | (refine GH.vis ?_ ?_ <;> first | assumption | ((try simp only [GH.pn, GH.sn]) <;> omega)))) only [go_sem, ↓reduceIte, Nat.reduceEqDiff, Nat.reduceAdd, Int.reduceToNat, Int.reduceAdd, Int.reduceNeg, Int.reduceSub, Int.reduceMul, Int.reduceLT, Int.reduceLE, Int.reduceEq, ↓GH.gp_eq, ↓GH.gp_ne, ↓GH.gs_eq, ↓GH.gs_ne, GH.push_next, GH.set_next, he, hl1, c, hp1, hq1, hp3, hq3, heq]
      exact ih (m - 1) _ _ _ (by omega) ⟨hlo, hk, i + 1, ⟨by omega, by omega⟩, (by simp +decide (disch := first | assumption | (apply GH.ok_push; assumption) | exact cellV_int _ _ | exact cellV_bool _ | omega) only [go_sem, ↓reduceIte, Nat.reduceEqDiff, Nat.reduceAdd, Int.reduceToNat, he]; first | done | exact rfl)⟩
    · have hie : i = L.length := by omega
      subst hie
      simp +decide (disch := first | assumption | exact cellV_int _ _ | exact cellV_bool _ | omega | (simp only [GH.pn, GH.sn] <;> omega) | (with_reducible ((repeat (first | apply GH.ok_push | apply GH.ok_set)); assumption)) | ((try simp only [GH.push_hid, GH.set_hid]); first | assumption | (refine GH.vis ?_ ?_ <;> first | assumption | ((try simp only [GH.pn, GH.sn]) <;> omega)))) only [go_sem, ↓reduceIte, Nat.reduceEqDiff, Nat.reduceAdd, Int.reduceToNat, Int.reduceAdd, Int.reduceNeg, Int.reduceSub, Int.reduceMul, Int.reduceLT, Int.reduceLE, Int.reduceEq, ↓GH.gp_eq, ↓GH.gp_ne, ↓GH.gs_eq, ↓GH.gs_ne, GH.push_next, GH.set_next, he, hl1]
      exact out _ _ _ hlo
end Go.Proofs.Ytgnnhenbmnopaaa
set_option maxRecDepth 100000
set_option maxHeartbeats 4000000
set_option linter.unusedSimpArgs false
set_option linter.unusedVariables false
namespace Go.Proofs.Ytgnnhenbmnopaaa
open Go.Ds Go.Aw
/-- Rows that came in, with the room that their slices say. -/
def phiR (bs rm : List Nat) : Phi := fun i => match bs[i]? with
  | some b => some ⟨b, rm.getD i 0⟩
  | none => none
theorem phiR_some {bs rm : List Nat} {i : Nat} {e : FE} (h : phiR bs rm i = some e) : bs[i]? = some e.blk := by
  unfold phiR at h
  split at h
  · rename_i b hb; cases h; exact hb
  · cases h
theorem embR {w : World} {rows : List (List Value)} {bs : List Nat} (rm : List Nat) (h : SeenIn w rows bs) (lo : Nat) [Inhabited Bound] (hL : rows.length ≤ LIM) : Emb (phiR bs rm) ((seenG rows).at lo) 0 w where
  dom := fun i e hi => by
    have := (List.getElem?_eq_some_iff.1 (phiR_some hi)).1
    show i < (seenG rows).next
    rw [seen_next, ← h.len]; exact this
  base := fun i e hi => by
    have hb := phiR_some hi
    have hlt := (List.getElem?_eq_some_iff.1 hb).1
    exact ⟨Nat.zero_le _, (h.rel i _ _ (List.getElem?_eq_getElem (by rw [← h.len]; exact hlt)) hb).1⟩
  obj := fun i hi hk => by
    have hi : i < rows.length := by rw [← seen_next rows]; exact hi
    have hr := List.getElem?_eq_getElem hi
    have hb := List.getElem?_eq_getElem (show i < bs.length by rw [h.len]; exact hi)
    obtain ⟨h1, c, t, fr, h2, h3⟩ := h.rel i _ _ hr hb
    refine ⟨⟨bs[i]'(by rw [h.len]; exact hi), rm.getD i 0⟩, by unfold phiR; rw [hb], ?_⟩
    have hg : ((seenG rows).at lo).get i = seenOb rows[i] := seen_get rows hr
    rw [hg]
    exact .inr (.inr (.inr ⟨rfl, ⟨rfl, .inl rfl⟩, c, t, fr, h2, fun k v hv => (h3 k v hv).imp id fun ⟨a, b⟩ => ⟨v, a, VRel.plainC b⟩⟩))
  apart := fun i j ei ej hi hj _ _ hne hb => by
    have h1 := phiR_some hi
    have h2 := phiR_some hj
    rw [← hb] at h2
    exact absurd (h.apart i j _ h1 h2) hne
  fam := fun i hi hk hs => by
    have hi : i < rows.length := by rw [← seen_next rows]; exact hi
    have hg : ((seenG rows).at lo).get i = seenOb rows[i] := seen_get rows (List.getElem?_eq_getElem hi)
    rw [hg] at hs; cases hs
  lim := by show (seenG rows).next ≤ _; rw [seen_next]; exact hL
  size := Nat.zero_le _
theorem Rets.seenRm {P : Program} {X : Caller} (hX : ∀ i, @Orac i P X) (hm : P.follows .mixedOrders = true) {f : FuncId} {args : List Value} {args' : Array Value} {rows : List (List Value)} {bs : List Nat} (rm : List Nat) {w : World} (hs : SeenIn w rows bs)
    (ha : LRel (phiR bs rm) args args'.toList) (hf : ∀ h, X f args h = none) {v : Value} (hv : plainC v = true) (h : Rets P X f args (seenG rows) (fun u _ lo => rows.length ≤ lo ∧ u = v)) :
    Calls P f args' w fun e w' => e = .returned v ∧ RowKit.Below w.heap.size w w' := by
  unfold Rets at h
  obtain ⟨u, g', lo, ⟨i, d, n, hr⟩, hx, hlo, rfl⟩ := h (seen_ok rows)
  let I := bnd (max (@LIM i) rows.length)
  have hL : @LIM i ≤ @LIM I := Nat.le_max_left _ _
  cases d with
  | zero => cases hr
  | succ d =>
    have hr : @evF I P X n (d + 1) f args ((seenG rows).at (seenG rows).next) = some (u, g'.at lo) := evF_mono hL (Nat.le_refl _) (Nat.le_refl _) _ _ _ _ hr
    have M := @embR w rows bs rm hs (seenG rows).next I (Nat.le_max_right _ _)
    rcases @evF_some I P X n d f args _ _ _ hr with hx | ⟨c, rs, ou, e, l, hp, hlen, hev, hne, hres, rfl⟩
    · rw [hf] at hx; cases hx
    · refine (@body_calls I P 0 _ (@evF_sound I P X (hX I) hm n 0 d) (@evF_pres I P X (hX I).pres n d) hm n f args _ _ _ w args' M ha c rs ou e l hp hlen hev hne hres).2 _ fun φ' v' w' r1 r2 r3 => ⟨by rw [plainC_inv r1 hv], ?_⟩
      refine ⟨r3.below.os, r3.below.tape, r3.below.output, r3.below.size, fun k hk => r3.frame k hk fun i e hi hb => ?_⟩
      have := (List.getElem?_eq_some_iff.1 (phiR_some hi)).1
      rw [hs.len] at this
      exact Nat.lt_of_lt_of_le this hlo
/-- A row that the machine's function has made, in the world. -/
structure RowO (W : World) (base : Nat) (t : TypeId) (sz : Nat) (v : Value) (n : Nat) (vs : List Value) : Prop where
  ex : ∃ b cap cur fr, v = .slice (some ⟨b, 0, none⟩) n cap ∧ base ≤ b ∧ W.heap[b]? = some (.cells cur t fr) ∧ cur.size = cap * sz ∧ n ≤ cap ∧ ∀ (k : Nat) x, vs[k]? = some x → cur[k]? = some x
theorem Rets.emb {P : Program} {X : Caller} (hX : ∀ i, @Orac i P X) (hm : P.follows .mixedOrders = true) {f : FuncId} {args : List Value} (ha : args.all plainC = true) (hf : X f args AH.zero = none) {Q : Value → GH → Nat → Prop} (h : Rets P X f args GH.zero Q) (w : World) :
    ∃ (i : Inhabited Bound) (v : Value) (g' : GH) (lo : Nat), Q v g' lo ∧ Calls P f args.toArray w fun e w' => (∃ φ' v', e = .returned v' ∧ VRel φ' v v' ∧ @Emb i φ' (g'.at lo) w.heap.size w') ∧ RowKit.Below w.heap.size w w' := by
  unfold Rets at h
  obtain ⟨u, g', lo, ⟨i, d, n, hr⟩, _, hq⟩ := h GH.ok_zero
  refine ⟨i, u, g', lo, hq, ?_⟩
  cases d with
  | zero => cases hr
  | succ d =>
    have M : @Emb i (fun _ => none) AH.zero w.heap.size w := by
      constructor
      · intro i e h; cases h
      · intro i e h; cases h
      · intro i hi; exact absurd hi (Nat.not_lt_zero _)
      · intro i j ei ej h; cases h
      · intro i hi; exact absurd hi (Nat.not_lt_zero _)
      · exact Nat.zero_le _
      · exact Nat.le_refl _
    rcases @evF_some i P X n d f args _ _ _ hr with hx | ⟨c, rs, ou, e, l, hp, hlen, hev, hne, hres, rfl⟩
    · have hx' : X f args AH.zero = some (u, g'.at lo) := hx
      rw [hf] at hx'; cases hx'
    · exact (@body_calls i P _ _ (@evF_sound i P X (hX i) hm n _ d) (@evF_pres i P X (hX i).pres n d) hm n f args _ _ _ w args.toArray M (LRel.plainCs ha) c rs ou e l hp hlen hev hne hres).2 _ fun φ' v' w' r1 r2 r3 => ⟨⟨φ', v', rfl, r1, r2⟩, r3.below⟩
theorem rowO_of {i : Inhabited Bound} {φ : Phi} {g' : GH} {lo B base : Nat} {W : World} {s s' : Value} {L : List (Nat × Nat)} (hL : L ≠ []) (hv : VRel φ s s') (hE : @Emb i φ (g'.at lo) B W) (ho : OwnQ g' s 2 L.length (cellsP L) 52 base) : RowO W B 52 2 s' L.length (cellsP L) := by
  rcases ho with ⟨_, _, h0⟩ | ⟨j, fam, rfl, hl, hj, hg, _⟩
  · exact absurd (List.eq_nil_of_length_eq_zero h0) hL
  · have hget : (g'.at lo).get j = slackOb (cellsP L) 52 fam := hg
    obtain ⟨e, he, hrel⟩ := hE.obj j hj (by rw [hget]; exact Nat.one_ne_zero)
    rw [hget] at hrel
    have hc : CellsRel φ (slackOb (cellsP L) 52 fam) e W := by
      rcases hrel with ⟨_, h⟩ | ⟨h, _⟩ | ⟨h, _⟩ | ⟨h, _⟩
      · exact h
      · cases h
      · cases h
      · cases h
    obtain ⟨c, fr, h1, h2, h3, h4, h5⟩ := hc.ex
    have hb := (hE.base j e he).1
    obtain ⟨C, hC⟩ : ∃ C, C = OPEN + 2 := ⟨_, rfl⟩
    rw [← hC] at hv
    have hLp := List.length_pos_iff.2 hL
    obtain ⟨N, hN⟩ : ∃ N, N = L.length := ⟨_, rfl⟩
    rw [← hN] at hv ⊢
    cases hv with
    | sdead a a' => omega
    | slc a e2 off l c2 h hc2 hl2 => exact absurd hc2 (by omega)
    | sopen a e2 off off' l c2 sz h hl2 hr =>
      obtain rfl : sz = 2 := by omega
      rw [he] at h
      cases h
      rcases hr with ⟨_, h0⟩ | ⟨rfl, hr⟩
      · omega
      · refine ⟨⟨e.blk, c2, c, fr, rfl, hb, h1, by omega, hl2, fun k x hx => ?_⟩⟩
        obtain ⟨v', g1, g2⟩ := h5 k x hx
        obtain ⟨n, rfl⟩ := cellsP_plain L x (List.mem_of_getElem? hx)
        cases g2
        exact g1
/-- The specification's Runs, with its row. -/
theorem refRuns_in {ds : List Nat} (hw : Wd ds) (w : World) : Calls Try.prog 21 #[.string (Try.txt ds)] w fun e w' => (∃ v, e = .returned (.tuple #[v, .int .i64 0]) ∧ RowO w' w.heap.size 52 2 v (runs ds).length (cellsP (runs ds))) ∧ RowKit.Below w.heap.size w w' := by
  have hrn : runs ds ≠ [] := fun z => hw.ne (runs_nil z)
  obtain ⟨i, v, g', lo, hq, hc⟩ := Rets.emb X0_orac mixedO (args := [.string (Try.txt ds)]) rfl (X0_free (by decide) _ _) (refRunsE_rets X0_ok.toXfr (Try.txt ds) GH.zero) w
  have hq2 := hq.2
  unfold RunsQ at hq2
  rw [if_pos hw.werr, digs_txt hw.dig] at hq2
  obtain ⟨o, rfl, hown⟩ := hq2
  refine hc.mono ?_
  rintro e w' ⟨⟨φ', v', rfl, hr, hE⟩, hb⟩
  refine ⟨?_, hb⟩
  cases hr with
  | tuple us us' hs h1 =>
    have hs2 : us'.size = 2 := hs.symm
    obtain ⟨x, y, rfl⟩ : ∃ x y, us' = #[x, y] := by
      match us' with
      | ⟨[x, y]⟩ => exact ⟨x, y, rfl⟩
    have hx := h1 0 o x rfl rfl
    have hy := h1 1 (.int .i64 0) y rfl rfl
    cases hy
    exact ⟨x, rfl, rowO_of hrn hx hE hown⟩
theorem refRuns_err {s : ByteArray} (hz : werr s ≠ 0) (w : World) : Calls Try.prog 21 #[.string s] w fun e w' => e = .returned (.tuple #[.slice none 0 0, .int .i64 (werr s)]) ∧ RowKit.Below w.heap.size w w' :=
  have inst : Inhabited Bound := ⟨⟨0⟩⟩
  Rets.calls X0_orac mixedO (args := [.string s]) rfl (X0_free (by decide) _ _) rfl ((refRunsE_rets X0_ok.toXfr s GH.zero).mono fun _ _ _ _ h => by have := h.2; unfold RunsQ at this; rwa [if_neg hz] at this) w
theorem longest_in2 (s : ByteArray) (w : World) : Calls Try.prog 24 #[.string s] w fun e w' => e = .returned (Try.longV s) ∧ RowKit.Below w.heap.size w w' :=
  have inst : Inhabited Bound := ⟨⟨0⟩⟩
  Rets.calls X0_orac mixedO (args := [.string s]) rfl (X0_free (by decide) _ _) (by unfold Try.longV; split <;> rfl) ((refLongest_rets X0_ok.toXfr s GH.zero).mono fun _ _ _ _ h => h.2) w
end Go.Proofs.Ytgnnhenbmnopaaa
set_option maxRecDepth 100000
set_option maxHeartbeats 4000000
set_option linter.unusedSimpArgs false
set_option linter.unusedVariables false
namespace Go.Proofs.Ytgnnhenbmnopaaa
open Go.Ds Go.Aw
theorem cells_at {W : World} {b : Nat} {cur : Array Value} {t : TypeId} {fr : Nat × Nat} {L : List (Nat × Nat)} (hc : W.heap[b]? = some (.cells cur t fr)) (hv : ∀ (k : Nat) x, (cellsP L)[k]? = some x → cur[k]? = some x) :
    b < W.heap.size ∧ ∃ c t fr, W.heap[b]? = some (.cells c t fr) ∧ ∀ (k : Nat) v, (cellsP L)[k]? = some v → isJ v = true ∨ (c[k]? = some v ∧ plainC v = true) := by
  refine ⟨(Array.getElem?_eq_some_iff.1 hc).1, cur, t, fr, hc, fun k v hk => .inr ⟨hv k v hk, ?_⟩⟩
  obtain ⟨n, rfl⟩ := cellsP_plain L v (List.mem_of_getElem? hk)
  rfl
theorem slq_seen {rows : List (List Value)} {i : Nat} {L : List (Nat × Nat)} {cap : Nat} (hr : rows[i]? = some (cellsP L)) : SlQ (seenG rows) (.slice (some ⟨i, 0, none⟩) L.length cap) 2 L.length (cellsP L) := by
  refine ⟨cellsP_len L, .inr ⟨i, 0, cap, seenOb (cellsP L), rfl, by rw [seen_next]; exact (List.getElem?_eq_some_iff.1 hr).1, seen_get _ hr, .inr ⟨rfl, ?_⟩, by simp [seenOb], by simp [seenOb]⟩⟩
  rw [List.any_eq_false]
  intro x hx
  obtain ⟨n, rfl⟩ := cellsP_plain L x hx
  simp [isJ]
theorem pairs_in {w W : World} {base : Nat} {v1 v2 : Value} {L : List (Nat × Nat)} (hL : L ≠ []) (hLl : L.length ≤ 100000) (h1 : w.ownsRow base 52 2 v1 L.length (cellsP L)) (hb : RowKit.Below w.heap.size w W) (h2 : RowO W w.heap.size 52 2 v2 L.length (cellsP L)) :
    Calls Try.prog 22 #[v1, v2] W fun e w' => e = .returned (.bool true) ∧ RowKit.Below W.heap.size W w' := by
  obtain ⟨b2, cap2, cur2, fr2, rfl, hb2, hc2, hs2, hn2, hv2⟩ := h2.ex
  obtain ⟨hl, h⟩ := h1
  rcases h with ⟨_, h0⟩ | ⟨b, cap, cur, rfl, hbb, hc, h1, h3, h4, h5⟩
  · exact absurd (List.eq_nil_of_length_eq_zero h0) hL
  · have hml : cap < OPEN := by unfold maxLen at h3; unfold OPEN; omega
    have hblt := (Array.getElem?_eq_some_iff.1 hc).1
    have hcW : W.heap[b]? = some (.cells cur 52 _) := (hb.5 b hblt).trans hc
    have e1 := cells_at (L := L) hcW (fun k x hk => by
      rw [← h5, List.getElem?_take] at hk
      split at hk
      · simpa using hk
      · cases hk)
    have e2 := cells_at (L := L) hc2 hv2
    have hs : SeenIn W [cellsP L, cellsP L] [b, b2] := by
      refine ⟨rfl, ?_, ?_⟩
      · intro i j x hi hj
        match i, j with
        | 0, 0 => rfl
        | 1, 1 => rfl
        | 0, 1 => simp at hi hj; omega
        | 1, 0 => simp at hi hj; omega
        | i + 2, _ => simp at hi
        | _, j + 2 => simp at hj
      · intro i r x hr hx
        match i with
        | 0 => simp at hr hx; subst hr; subst hx; exact e1
        | 1 => simp at hr hx; subst hr; subst hx; exact e2
        | i + 2 => simp at hr
    have a1 : VRel (phiR [b, b2] [0, cap2 * 2]) (.slice (some ⟨0, 0, none⟩) L.length cap) (.slice (some ⟨b, 0, none⟩) L.length cap) := .slc 0 ⟨b, 0⟩ 0 L.length cap rfl hml h1
    have a2 : VRel (phiR [b, b2] [0, cap2 * 2]) (.slice (some ⟨1, 0, none⟩) L.length (OPEN + 2)) (.slice (some ⟨b2, 0, none⟩) L.length cap2) := .sopen 1 ⟨b2, cap2 * 2⟩ 0 0 L.length cap2 2 rfl hn2 (.inr ⟨rfl, by simp⟩)
    have inst : Inhabited Bound := ⟨⟨0⟩⟩
    have r := pairs_rets X0_ok.toXfr L hLl _ _ (seenG [cellsP L, cellsP L]) (slq_seen (i := 0) (cap := cap) rfl) (slq_seen (i := 1) (cap := OPEN + 2) rfl)
    exact Rets.seenRm X0_orac mixedO [0, cap2 * 2] hs (LRel.cons a1 (LRel.cons a2 LRel.nil)) (fun h => X0_free (by decide) _ h) rfl (r.mono fun v g' lo _ ⟨h1, h2⟩ => ⟨by rw [← seen_next]; exact h1, h2⟩)
theorem pairs_nil (w : World) : Calls Try.prog 22 #[.slice none 0 0, .slice none 0 0] w fun e w' => e = .returned (.bool true) ∧ RowKit.Below w.heap.size w w' :=
  have inst : Inhabited Bound := ⟨⟨0⟩⟩
  Rets.calls X0_orac mixedO (args := [.slice none 0 0, .slice none 0 0]) rfl (X0_free (by decide) _ _) rfl ((pairs_rets X0_ok.toXfr [] (by simp) _ _ GH.zero ⟨rfl, .inl ⟨rfl, _, _, rfl⟩⟩ ⟨rfl, .inl ⟨rfl, _, _, rfl⟩⟩).mono fun _ _ _ _ h => h.2) w
end Go.Proofs.Ytgnnhenbmnopaaa
set_option maxRecDepth 100000
set_option maxHeartbeats 4000000
set_option linter.unusedSimpArgs false
set_option linter.unusedVariables false
namespace Go.Proofs.Ytgnnhenbmnopaaa
open Go.Ds Go.Aw Go.ChangeShapes Go.WideShapes Go.Deep
/-- The cells of a row of pairs of any integers. -/
def cellsI (l : List (Int × Int)) : List Value := l.flatMap fun p => [.int .i64 p.1, .int .i64 p.2]
theorem cellsI_len (l : List (Int × Int)) : (cellsI l).length = l.length * 2 := by
  induction l with
  | nil => rfl
  | cons p l ih => simp only [cellsI] at ih; simp [cellsI, ih]; omega
theorem cellsI_get : ∀ (L : List (Int × Int)) (i : Nat) (h : i < L.length), (cellsI L)[i * 2]? = some (.int .i64 L[i].1) ∧ (cellsI L)[i * 2 + 1]? = some (.int .i64 L[i].2)
  | [], i, h => by simp at h
  | p :: L, 0, h => by simp [cellsI]
  | p :: L, i + 1, h => by
    have := cellsI_get L i (by simpa using h)
    have e : cellsI (p :: L) = .int .i64 p.1 :: .int .i64 p.2 :: cellsI L := by simp [cellsI]
    rw [e, show (i + 1) * 2 = i * 2 + 1 + 1 by omega]
    simpa using this
theorem cellsI_plain (L : List (Int × Int)) : ∀ v ∈ cellsI L, ∃ n : Int, v = .int .i64 n := by
  intro v hv
  simp only [cellsI, List.mem_flatMap] at hv
  obtain ⟨p, _, hv⟩ := hv
  simp at hv
  rcases hv with e | e <;> exact ⟨_, e⟩
/-- A slice of pairs that came in. -/
def ArgP (w : World) (v : Value) (L : List (Int × Int)) : Prop :=
  (v = .slice none 0 0 ∧ L = []) ∨ ∃ (b off cap : Nat) (c : Array Value) (t : TypeId) (fr : Nat × Nat), v = .slice (some ⟨b, off, none⟩) L.length cap ∧ L.length ≤ cap ∧ cap ≤ maxLen ∧ w.heap[b]? = some (.cells c t fr) ∧ ∀ (j : Nat) x, (cellsI L)[j]? = some x → w.cell? ((⟨b, off, none⟩ : Addr).add j) = some x
theorem open_argP {H : Type} {enc : TypeId × Value → H} {P : Program} {w : World} {r : Reach} {b0 base : Nat} {spare : Nat → Bool} {held : Bool} {t e : TypeId} {f0 f1 : Field} {v : Value} {d : DataW H} {p : List MemPlace} (ht : P.underlying t = some (.slice e))
    (he : P.underlying e = some (.struct #[f0, f1])) (hc : P.cellsOf e = 2) (h0 : f0.offset = 0) (h1 : f1.offset = 1) (c0 : P.cellsOf f0.type = 1) (c1 : P.cellsOf f1.type = 1) (i0 : P.underlying f0.type = some (.int .i64)) (i1 : P.underlying f1.type = some (.int .i64))
    (hv : Value.okWide P w r b0 t v) (h : DataW.Trod enc P w base spare held t v d p) : ∃ L, ArgP w v L ∧ ∀ q ∈ L, (Lit.int .i64 q.1).wf = true ∧ (Lit.int .i64 q.2).wf = true := by
  obtain ⟨fuel, hf⟩ := h
  have hcells : v.cells.toList = [v] := by
    unfold Value.okWide at hv
    simp only [ht] at hv
    unfold Cell.okWide at hv
    simp only [ht] at hv
    unfold Cell.ok at hv
    cases v <;> first | rfl | (simp only [ht] at hv)
  rcases open_slice_pairs ht he hc h0 h1 c0 c1 hf with ⟨g1, _⟩ | ⟨a, len, cap, m, n, V0, V1, D0, D1, P0, P1, g1, _, hl, hm, hmm, _, hi⟩
  · rw [hcells] at g1
    simp only [List.cons.injEq, and_true] at g1
    exact ⟨[], .inl ⟨g1, rfl⟩, by simp⟩
  · rw [hcells] at g1
    simp only [List.cons.injEq, and_true] at g1
    subst g1
    obtain ⟨q1, q2, q3, c, row, fr, q4⟩ := slice_has ht hv
    have hlm : len ≤ m := by rw [hmm]; split <;> omega
    obtain ⟨L, hL, hx⟩ := list_of (Q := fun i (y : Int × Int) => w.cell? (a.add (i * 2)) = some (.int .i64 y.1) ∧ w.cell? (a.add (i * 2 + 1)) = some (.int .i64 y.2) ∧ (Lit.int .i64 y.1).wf = true ∧ (Lit.int .i64 y.2).wf = true) len (fun i hil => by
      obtain ⟨k1, k2, k3, k4⟩ := hi i (by omega)
      obtain ⟨n0, e0, _, w0⟩ := DataW.trod_int i0 k3
      obtain ⟨n1, e1, _, w1⟩ := DataW.trod_int i1 k4
      simp only [List.cons.injEq, and_true] at e0 e1
      exact ⟨(n0, n1), by rw [k1, e0], by rw [k2, e1], w0, w1⟩)
    obtain ⟨blk, off, spot⟩ := a
    simp only at q3 q4
    subst q3
    refine ⟨L, .inr ⟨blk, off, cap, c, row, fr, by rw [hL], by omega, hm, q4, fun j x hj => ?_⟩, fun q hq => ?_⟩
    · have hjl : j < L.length * 2 := by
        rw [← cellsI_len]
        exact (List.getElem?_eq_some_iff.1 hj).1
      have hk : j / 2 < L.length := by omega
      obtain ⟨u1, u2, _⟩ := hx (j / 2) _ (List.getElem?_eq_getElem hk)
      obtain ⟨y1, y2⟩ := cellsI_get L (j / 2) hk
      rcases (show j = j / 2 * 2 ∨ j = j / 2 * 2 + 1 by omega) with e | e
      · rw [e] at hj ⊢
        rw [y1] at hj
        cases hj
        exact u1
      · rw [e] at hj ⊢
        rw [y2] at hj
        cases hj
        exact u2
    · obtain ⟨i, hi2⟩ := List.getElem?_of_mem hq
      exact (hx i q hi2).2.2
end Go.Proofs.Ytgnnhenbmnopaaa
set_option maxRecDepth 100000
set_option maxHeartbeats 8000000
set_option linter.unusedSimpArgs false
set_option linter.unusedVariables false
namespace Go.Proofs.Ytgnnhenbmnopaaa
open Go.Ds Go.Aw
def lastI (L : List (Int × Int)) (i : Nat) : Int := if h : 0 < i ∧ i - 1 < L.length then (L[i - 1]'h.2).2 else 0
theorem lastI_succ {L : List (Int × Int)} {i : Nat} (h : i < L.length) : lastI L (i + 1) = L[i].2 := by
  unfold lastI
  rw [dif_pos ⟨by omega, by simpa using h⟩]
  simp
/-- A pair that is no run here. -/
def badP (p : Int × Int) (last : Int) : Prop := p.1 < 1 ∨ 200 < p.1 ∨ p.2 < 1 ∨ 9 < p.2 ∨ p.2 = last
def okTo (L : List (Int × Int)) (i : Nat) : Prop := ∀ j (h : j < L.length), j < i → ¬ badP L[j] (lastI L j)
def sumI : List (Int × Int) → Int
  | [] => 0
  | p :: l => p.1 + sumI l
theorem sumI_snoc (l : List (Int × Int)) (p : Int × Int) : sumI (l ++ [p]) = sumI l + p.1 := by
  induction l with
  | nil => simp [sumI]
  | cons q l ih => simp only [List.cons_append, sumI, ih]; omega
theorem sumI_take {L : List (Int × Int)} {i : Nat} (h : i < L.length) : sumI (L.take (i + 1)) = sumI (L.take i) + L[i].1 := by
  rw [List.take_add_one, List.getElem?_eq_getElem h]
  exact sumI_snoc _ _
def natL (L : List (Int × Int)) : List (Nat × Nat) := L.map fun p => (p.1.toNat, p.2.toNat)
open Classical in
noncomputable def ofV (L : List (Int × Int)) : Value := if 200 < L.length then .tuple #[.string ⟨#[]⟩, .int .i64 3] else if okTo L L.length then (if 200 < sumI L then .tuple #[.string ⟨#[]⟩, .int .i64 3] else if sumI L = 0 then .tuple #[.string ⟨#[]⟩, .int .i64 5] else .tuple #[.string (Try.txt (spell (natL L))), .int .i64 0]) else .tuple #[.string ⟨#[]⟩, .int .i64 2]
theorem ofV_long {L : List (Int × Int)} (h : 200 < L.length) : ofV L = .tuple #[.string ⟨#[]⟩, .int .i64 3] := if_pos h
theorem ofV_bad {L : List (Int × Int)} (h : ¬ 200 < L.length) {i : Nat} (hi : i < L.length) (hb : badP L[i] (lastI L i)) : ofV L = .tuple #[.string ⟨#[]⟩, .int .i64 2] := by
  unfold ofV
  rw [if_neg h, if_neg (fun k => k i hi hi hb)]
theorem natL_ok {L : List (Int × Int)} (h : okTo L L.length) : cellsP (natL L) = cellsI L ∧ ∀ p ∈ natL L, p.1 ≤ 200 ∧ p.2 ≤ 9 := by
  have hp : ∀ p ∈ L, 1 ≤ p.1 ∧ p.1 ≤ 200 ∧ 1 ≤ p.2 ∧ p.2 ≤ 9 := by
    intro p hp
    obtain ⟨i, hi, rfl⟩ := List.getElem_of_mem hp
    have := h i hi hi
    unfold badP at this
    omega
  clear h
  induction L with
  | nil => exact ⟨rfl, fun p hp => by cases hp⟩
  | cons q L ih =>
    obtain ⟨a, b⟩ := ih (fun p h => hp p (List.mem_cons_of_mem _ h))
    obtain ⟨h1, h2, h3, h4⟩ := hp q (List.mem_cons_self ..)
    constructor
    · have e1 : cellsP (natL (q :: L)) = .int .i64 (q.1.toNat : Int) :: .int .i64 (q.2.toNat : Int) :: cellsP (natL L) := by simp [cellsP, natL]
      have e2 : cellsI (q :: L) = .int .i64 q.1 :: .int .i64 q.2 :: cellsI L := by simp [cellsI]
      rw [e1, e2, a, show ((q.1.toNat : Nat) : Int) = q.1 by omega, show ((q.2.toNat : Nat) : Int) = q.2 by omega]
    · intro p hp2
      have e : natL (q :: L) = (q.1.toNat, q.2.toNat) :: natL L := rfl
      rw [e] at hp2
      rcases List.mem_cons.1 hp2 with rfl | hp2
      · exact ⟨by simp only; omega, by simp only; omega⟩
      · exact b p hp2
theorem natL_len (L : List (Int × Int)) : (natL L).length = L.length := by simp [natL]
theorem cellsI_drop : ∀ (L : List (Int × Int)) (i : Nat) (h : i < L.length), ((cellsI L).drop (i * 2)).take 2 = [.int .i64 L[i].1, .int .i64 L[i].2]
  | [], i, h => by simp at h
  | p :: L, 0, h => by simp [cellsI]
  | p :: L, i + 1, h => by
    have := cellsI_drop L i (by simpa using h)
    have e : cellsI (p :: L) = .int .i64 p.1 :: .int .i64 p.2 :: cellsI L := by simp [cellsI]
    rw [e, show (i + 1) * 2 = i * 2 + 1 + 1 by omega]
    simpa using this
theorem okTo_succ {L : List (Int × Int)} {i : Nat} (h : i < L.length) (h1 : okTo L i) (h2 : ¬ badP L[i] (lastI L i)) : okTo L (i + 1) := by
  intro j hj hji
  by_cases c : j = i
  · subst c; exact h2
  · exact h1 j hj (by omega)
end Go.Proofs.Ytgnnhenbmnopaaa
set_option maxRecDepth 100000
set_option maxHeartbeats 20000000
set_option linter.unusedSimpArgs false
set_option linter.unusedVariables false
namespace Go.Proofs.Ytgnnhenbmnopaaa
open Go.Ds Go.Aw
theorem oV_s {v : Value} {f : Value → Prop} : oV (some v) f = f v := by simp [oV]
theorem envR {P : Program} {X : Caller} {Q : Out → Env → GH → Nat → Prop} {l : List PI} {k : Nat} {sp : List (Nat × (Nat × Nat))} {wr : List Nat} {ks : List Fr} {e : Env} {g : GH} {lo : Nat} (F : Env → Prop) (h0 : F e) (h : ∀ e', F e' → Wk P X Q (.R l k sp wr ks e' g lo)) : Wk P X Q (.R l k sp wr ks e g lo) := h e h0
/-- The program's Of. -/
theorem ofP_rets {X : Caller} (hX : Xok X) (L : List (Int × Int)) (hw : ∀ p ∈ L, (-9223372036854775808 ≤ p.1 ∧ p.1 < 9223372036854775808) ∧ (-9223372036854775808 ≤ p.2 ∧ p.2 < 9223372036854775808)) (x : Value) (g : GH) (hs : SlQ g x 2 L.length (cellsI L)) :
    Rets Try.prog X 25 [x] g (fun v g' lo => g.next ≤ lo ∧ v = ofV L) := by
  refine Rets.run hX.pres p25 (hX.free 25 (by decide) _ _) rfl fun ho => ?_
  have hln := hs.len
  by_cases hll0 : 200 < L.length
  · have hll' : (200 < (L.length : Int)) := by omega
    simp +decide (disch := first | assumption | (apply GH.ok_push; assumption) | exact cellV_int _ _ | exact cellV_bool _ | omega) only [go_sem, ↓reduceIte, Nat.reduceEqDiff, Nat.reduceAdd, Int.reduceToNat, hln, hll']
    intro hx
    exact ⟨by first | exact Nat.le_refl _ | omega, (ofV_long hll0).symm⟩
  · have hll' : ¬ (200 < (L.length : Int)) := by omega
    simp +decide (disch := first | assumption | (apply GH.ok_push; assumption) | exact cellV_int _ _ | exact cellV_bool _ | omega) only [go_sem, ↓reduceIte, Nat.reduceEqDiff, Nat.reduceAdd, Int.reduceToNat, hln, hll']
    refine Wk.loops (fun m e g' lo => g.next ≤ lo ∧ Kept g g' ∧ ∃ (i : Nat) (S : Int), (i ≤ L.length ∧ m = L.length - i ∧ okTo L i ∧ S = sumI (L.take i) ∧ 0 ≤ S ∧ S ≤ 200 * i) ∧ (ev e (.s 0) = x ∧ ev e (.s 11) = x ∧ ev e (.s 12) = .int .i64 L.length ∧ ev e (.s 13) = .int .i64 i ∧ ev e (.s 4) = .int .i64 S ∧ ev e (.s 5) = .int .i64 (lastI L i)))
      (fun e g' lo => g.next ≤ lo ∧ Kept g g' ∧ okTo L L.length ∧ (ev e (.s 0) = x ∧ ev e (.s 4) = .int .i64 (sumI L))) (n := L.length) ?_ ?_ ?_
    · have z1 : lastI L 0 = 0 := rfl
      have z3 : ((0 : Nat) : Int) = 0 := rfl
      exact ⟨Nat.le_refl _, Kept.refl g, 0, 0, ⟨Nat.zero_le _, rfl, fun j _ h => absurd h (by omega), rfl, by omega, by omega⟩, (by simp +decide (disch := first | assumption | (apply GH.ok_push; assumption) | exact cellV_int _ _ | exact cellV_bool _ | omega) only [go_sem, ↓reduceIte, Nat.reduceEqDiff, Nat.reduceAdd, Int.reduceToNat, hln, z1, z3]; first | done | exact rfl)⟩
    · rintro e g' lo ho' - ⟨hlo, hk, hok, he⟩
      by_cases c1 : 200 < sumI L
      · simp +decide (disch := first | assumption | (apply GH.ok_push; assumption) | exact cellV_int _ _ | exact cellV_bool _ | omega) only [go_sem, ↓reduceIte, Nat.reduceEqDiff, Nat.reduceAdd, Int.reduceToNat, he, c1]
        intro hx
        refine ⟨hlo, ?_⟩
        unfold ofV
        rw [if_neg hll0, if_pos hok, if_pos c1]
      · by_cases c2 : sumI L = 0
        · have c1' : ¬ ((200 : Int) < 0) := by omega
          rw [c2] at he
          simp +decide (disch := first | assumption | (apply GH.ok_push; assumption) | exact cellV_int _ _ | exact cellV_bool _ | omega) only [go_sem, ↓reduceIte, Nat.reduceEqDiff, Nat.reduceAdd, Int.reduceToNat, he, c1']
          intro hx
          refine ⟨hlo, ?_⟩
          unfold ofV
          rw [if_neg hll0, if_pos hok, if_neg c1, if_pos c2]
        · simp +decide (disch := first | assumption | (apply GH.ok_push; assumption) | exact cellV_int _ _ | exact cellV_bool _ | omega) only [go_sem, ↓reduceIte, Nat.reduceEqDiff, Nat.reduceAdd, Int.reduceToNat, he, c1, c2]
          obtain ⟨n1, n2⟩ := natL_ok hok
          refine CallD.calm (hX.written (natL L) x _ (by rw [natL_len, n1]; exact hs.kept hk) ?_) ?_
          · unfold smallP
            simp only [Bool.and_eq_true, List.all_eq_true, Nat.ble_eq]
            exact ⟨by rw [natL_len]; omega, fun p hp => ⟨by have := (n2 p hp).1; omega, (n2 p hp).2⟩⟩
          rintro v g4 hx4 ⟨rfl, rfl⟩
          simp +decide (disch := first | assumption | (apply GH.ok_push; assumption) | exact cellV_int _ _ | exact cellV_bool _ | omega) only [go_sem, ↓reduceIte, Nat.reduceEqDiff, Nat.reduceAdd, Int.reduceToNat, he]
          intro hx
          refine ⟨hlo, ?_⟩
          unfold ofV
          rw [if_neg hll0, if_pos hok, if_neg c1, if_neg c2]
    · rintro m e g' lo ho' hl' ih out ⟨hlo, hk, i, S, ⟨hi, hm, hok, hS, hS0, hS1⟩, he⟩
      have hkn := hk.next
      by_cases c : i < L.length
      · obtain ⟨j, a, hj, hp1, hp2, hp3⟩ := (hs.kept hk).ptr c
        have hp1 := hp1 (i : Int) rfl
        have hpw := hw L[i] (List.getElem_mem c)
        rw [cellsI_drop L i c] at hp3
        have hsn := sumI_take c
        have hld := lastI_succ c
        have hbad := fun hb => ofV_bad hll0 c hb
        have hok2 := okTo_succ c hok
        obtain ⟨p, hp⟩ : ∃ p, L[i] = p := ⟨_, rfl⟩
        obtain ⟨q, hq⟩ : ∃ q, lastI L i = q := ⟨_, rfl⟩
        rw [hp] at hpw hp3 hsn hld hbad hok2
        rw [hq] at he hbad hok2
        have hg0 : (g'.push (cellsOb [.int .i64 0, .int .i64 0] 52)).get g'.next = cellsOb [.int .i64 0, .int .i64 0] 52 := (by simp (disch := first | assumption | exact cellV_int _ _ | exact cellV_bool _ | omega | (simp only [GH.pn, GH.sn] <;> omega) | (with_reducible ((repeat (first | apply GH.ok_push | apply GH.ok_set)); assumption)) | ((try simp only [GH.push_hid, GH.set_hid]); first | assumption | (refine GH.vis ?_ ?_ <;> first | assumption | ((try simp only [GH.pn, GH.sn]) <;> omega)))) only [↓GH.gp_eq, ↓GH.gp_ne, ↓GH.gs_eq, ↓GH.gs_ne, GH.push_next, GH.set_next]; first | done | exact rfl)
        have hg1 : ((g'.push (cellsOb [.int .i64 0, .int .i64 0] 52)).set g'.next (cellsOb [.int .i64 p.1, .int .i64 p.2] 52)).get g'.next = cellsOb [.int .i64 p.1, .int .i64 p.2] 52 := (by simp (disch := first | assumption | exact cellV_int _ _ | exact cellV_bool _ | omega | (simp only [GH.pn, GH.sn] <;> omega) | (with_reducible ((repeat (first | apply GH.ok_push | apply GH.ok_set)); assumption)) | ((try simp only [GH.push_hid, GH.set_hid]); first | assumption | (refine GH.vis ?_ ?_ <;> first | assumption | ((try simp only [GH.pn, GH.sn]) <;> omega)))) only [↓GH.gp_eq, ↓GH.gp_ne, ↓GH.gs_eq, ↓GH.gs_ne, GH.push_next, GH.set_next]; first | done | exact rfl)
        have hkG : Kept g ((g'.push (cellsOb [.int .i64 0, .int .i64 0] 52)).set g'.next (cellsOb [.int .i64 p.1, .int .i64 p.2] 52)) := (by (repeat' first | exact Kept.refl _ | assumption | refine Kept.push ?_ ?_ _ | refine Kept.setV ?_ ?_ ?_ _) <;> (first | assumption | exact cellV_int _ _ | exact cellV_bool _ | omega | (simp only [GH.pn, GH.sn] <;> omega) | (with_reducible ((repeat (first | apply GH.ok_push | apply GH.ok_set)); assumption)) | ((try simp only [GH.push_hid, GH.set_hid]); first | assumption | (refine GH.vis ?_ ?_ <;> first | assumption | ((try simp only [GH.pn, GH.sn]) <;> omega)))))
        simp +decide (disch := first | assumption | (apply GH.ok_push; assumption) | exact cellV_int _ _ | exact cellV_bool _ | omega) only [go_sem, ↓reduceIte, Nat.reduceEqDiff, Nat.reduceAdd, Int.reduceToNat, he, c, hp1, hp3, hg0]
        have hob : obLoad none (cellsOb [.int .i64 p.1, .int .i64 p.2] 52) 0 = some (.int .i64 p.1) := rfl
        have hob2 : obLoad none (cellsOb [.int .i64 p.1, .int .i64 p.2] 52) 1 = some (.int .i64 p.2) := rfl
        simp only [hg1, hob, oV_s]
        refine envR (fun e => ev e (.s 0) = x ∧ ev e (.s 11) = x ∧ ev e (.s 12) = .int .i64 L.length ∧ ev e (.s 13) = .int .i64 i ∧ ev e (.s 4) = .int .i64 S ∧ ev e (.s 5) = .int .i64 q ∧ ev e (.s 7) = ptrTo g'.next ∧ ev e (.s 18) = .int .i64 p.1) ?h0 (fun e he => ?_)
        case h0 => exact (by simp +decide (disch := first | assumption | (apply GH.ok_push; assumption) | exact cellV_int _ _ | exact cellV_bool _ | omega) only [go_sem, ↓reduceIte, Nat.reduceEqDiff, Nat.reduceAdd, Int.reduceToNat, he]; first | done | exact rfl)
        by_cases f1 : p.1 < 1
        · simp +decide (disch := first | assumption | (apply GH.ok_push; assumption) | exact cellV_int _ _ | exact cellV_bool _ | omega) only [go_sem, ↓reduceIte, Nat.reduceEqDiff, Nat.reduceAdd, Int.reduceToNat, he, hg1, hob, hob2, oV_s, f1]
          intro hx
          exact ⟨by omega, (hbad (.inl f1)).symm⟩
        · by_cases f2 : 200 < p.1
          · simp +decide (disch := first | assumption | (apply GH.ok_push; assumption) | exact cellV_int _ _ | exact cellV_bool _ | omega) only [go_sem, ↓reduceIte, Nat.reduceEqDiff, Nat.reduceAdd, Int.reduceToNat, he, hg1, hob, hob2, oV_s, f1, f2]
            intro hx
            exact ⟨by omega, (hbad (.inr (.inl f2))).symm⟩
          · by_cases f3 : p.2 < 1
            · simp +decide (disch := first | assumption | (apply GH.ok_push; assumption) | exact cellV_int _ _ | exact cellV_bool _ | omega) only [go_sem, ↓reduceIte, Nat.reduceEqDiff, Nat.reduceAdd, Int.reduceToNat, he, hg1, hob, hob2, oV_s, f1, f2, f3]
              intro hx
              exact ⟨by omega, (hbad (.inr (.inr (.inl f3)))).symm⟩
            · by_cases f4 : 9 < p.2
              · simp +decide (disch := first | assumption | (apply GH.ok_push; assumption) | exact cellV_int _ _ | exact cellV_bool _ | omega) only [go_sem, ↓reduceIte, Nat.reduceEqDiff, Nat.reduceAdd, Int.reduceToNat, he, hg1, hob, hob2, oV_s, f1, f2, f3, f4]
                intro hx
                exact ⟨by omega, (hbad (.inr (.inr (.inr (.inl f4))))).symm⟩
              · by_cases f5 : p.2 = q
                · have f5' : (p.2 = q) = True := eq_true f5
                  simp +decide (disch := first | assumption | (apply GH.ok_push; assumption) | exact cellV_int _ _ | exact cellV_bool _ | omega) only [go_sem, ↓reduceIte, Nat.reduceEqDiff, Nat.reduceAdd, Int.reduceToNat, he, hg1, hob, hob2, oV_s, f1, f2, f3, f4, f5']
                  intro hx
                  exact ⟨by omega, (hbad (.inr (.inr (.inr (.inr f5))))).symm⟩
                · have hw1 : wrapF .i64 (S + p.1) = S + p.1 := wr64 (by omega) (by omega)
                  have hwi : wrapF .i64 ((i : Int) + 1) = (i : Int) + 1 := wr64 (by omega) (by omega)
                  simp +decide (disch := first | assumption | (apply GH.ok_push; assumption) | exact cellV_int _ _ | exact cellV_bool _ | omega) only [go_sem, ↓reduceIte, Nat.reduceEqDiff, Nat.reduceAdd, Int.reduceToNat, he, hg1, hob, hob2, oV_s, f1, f2, f3, f4, f5, hw1, hwi]
                  refine ih (L.length - (i + 1)) _ _ _ (by omega) ⟨by omega, hkG, i + 1, S + p.1, ⟨by omega, rfl, hok2 (by unfold badP; omega), by rw [hsn, hS], by omega, by omega⟩, ?_⟩
                  rw [hld]
                  exact (by simp +decide (disch := first | assumption | (apply GH.ok_push; assumption) | exact cellV_int _ _ | exact cellV_bool _ | omega) only [go_sem, ↓reduceIte, Nat.reduceEqDiff, Nat.reduceAdd, Int.reduceToNat, he]; first | done | exact rfl)
      · have hie : i = L.length := by omega
        subst hie
        simp +decide (disch := first | assumption | exact cellV_int _ _ | exact cellV_bool _ | omega | (simp only [GH.pn, GH.sn] <;> omega) | (with_reducible ((repeat (first | apply GH.ok_push | apply GH.ok_set)); assumption)) | ((try simp only [GH.push_hid, GH.set_hid]); first | assumption | (refine GH.vis ?_ ?_ <;> first | assumption | ((try simp only [GH.pn, GH.sn]) <;> omega)))) only [go_sem, ↓reduceIte, Nat.reduceEqDiff, Nat.reduceAdd, Int.reduceToNat, Int.reduceAdd, Int.reduceNeg, Int.reduceSub, Int.reduceMul, Int.reduceLT, Int.reduceLE, Int.reduceEq, ↓GH.gp_eq, ↓GH.gp_ne, ↓GH.gs_eq, ↓GH.gs_ne, GH.push_next, GH.set_next, he, hln]
        rw [List.take_length] at hS
        subst hS
        exact out _ _ _ ⟨hlo, hk, hok, (by simp +decide (disch := first | assumption | (apply GH.ok_push; assumption) | exact cellV_int _ _ | exact cellV_bool _ | omega) only [go_sem, ↓reduceIte, Nat.reduceEqDiff, Nat.reduceAdd, Int.reduceToNat, he]; first | done | exact rfl)⟩
end Go.Proofs.Ytgnnhenbmnopaaa
set_option maxRecDepth 100000
set_option maxHeartbeats 20000000
set_option linter.unusedSimpArgs false
set_option linter.unusedVariables false
namespace Go.Proofs.Ytgnnhenbmnopaaa
open Go.Ds Go.Aw
/-- The specification's Of. -/
theorem ofR_rets {X : Caller} (hX : Xfr X) (L : List (Int × Int)) (hw : ∀ p ∈ L, (-9223372036854775808 ≤ p.1 ∧ p.1 < 9223372036854775808) ∧ (-9223372036854775808 ≤ p.2 ∧ p.2 < 9223372036854775808)) (x : Value) (g : GH) (hs : SlQ g x 2 L.length (cellsI L)) :
    Rets Try.prog X 26 [x] g (fun v g' lo => g.next ≤ lo ∧ v = ofV L) := by
  refine Rets.run hX.pres p26 (hX.free 26 (by decide) _ _) rfl fun ho => ?_
  have hln := hs.len
  by_cases hll0 : 200 < L.length
  · have hll' : (200 < (L.length : Int)) := by omega
    simp +decide (disch := first | assumption | (apply GH.ok_push; assumption) | exact cellV_int _ _ | exact cellV_bool _ | omega) only [go_sem, ↓reduceIte, Nat.reduceEqDiff, Nat.reduceAdd, Int.reduceToNat, hln, hll']
    intro hx
    exact ⟨by first | exact Nat.le_refl _ | omega, (ofV_long hll0).symm⟩
  · have hll' : ¬ (200 < (L.length : Int)) := by omega
    simp +decide (disch := first | assumption | (apply GH.ok_push; assumption) | exact cellV_int _ _ | exact cellV_bool _ | omega) only [go_sem, ↓reduceIte, Nat.reduceEqDiff, Nat.reduceAdd, Int.reduceToNat, hln, hll']
    refine Wk.loops (fun m e g' lo => g.next ≤ lo ∧ Kept g g' ∧ ∃ (i : Nat) (S : Int), (i ≤ L.length ∧ m = L.length - i ∧ okTo L i ∧ S = sumI (L.take i) ∧ 0 ≤ S ∧ S ≤ 200 * i) ∧ (ev e (.s 0) = x ∧ ev e (.s 5) = .int .i64 i ∧ ev e (.s 4) = .int .i64 S))
      (fun e g' lo => g.next ≤ lo ∧ Kept g g' ∧ okTo L L.length ∧ (ev e (.s 0) = x ∧ ev e (.s 4) = .int .i64 (sumI L))) (n := L.length) ?_ ?_ ?_
    · have z3 : ((0 : Nat) : Int) = 0 := rfl
      exact ⟨Nat.le_refl _, Kept.refl g, 0, 0, ⟨Nat.zero_le _, rfl, fun j _ h => absurd h (by omega), rfl, by omega, by omega⟩, (by simp +decide (disch := first | assumption | (apply GH.ok_push; assumption) | exact cellV_int _ _ | exact cellV_bool _ | omega) only [go_sem, ↓reduceIte, Nat.reduceEqDiff, Nat.reduceAdd, Int.reduceToNat, hln, z3]; first | done | exact rfl)⟩
    · rintro e g' lo ho' - ⟨hlo, hk, hok, he⟩
      by_cases c1 : 200 < sumI L
      · simp +decide (disch := first | assumption | (apply GH.ok_push; assumption) | exact cellV_int _ _ | exact cellV_bool _ | omega) only [go_sem, ↓reduceIte, Nat.reduceEqDiff, Nat.reduceAdd, Int.reduceToNat, he, c1]
        intro hx
        refine ⟨hlo, ?_⟩
        unfold ofV
        rw [if_neg hll0, if_pos hok, if_pos c1]
      · by_cases c2 : sumI L = 0
        · have c1' : ¬ ((200 : Int) < 0) := by omega
          rw [c2] at he
          simp +decide (disch := first | assumption | (apply GH.ok_push; assumption) | exact cellV_int _ _ | exact cellV_bool _ | omega) only [go_sem, ↓reduceIte, Nat.reduceEqDiff, Nat.reduceAdd, Int.reduceToNat, he, c1']
          intro hx
          refine ⟨hlo, ?_⟩
          unfold ofV
          rw [if_neg hll0, if_pos hok, if_neg c1, if_pos c2]
        · simp +decide (disch := first | assumption | (apply GH.ok_push; assumption) | exact cellV_int _ _ | exact cellV_bool _ | omega) only [go_sem, ↓reduceIte, Nat.reduceEqDiff, Nat.reduceAdd, Int.reduceToNat, he, c1, c2]
          obtain ⟨n1, n2⟩ := natL_ok hok
          have hq := hs.kept hk
          refine CallD.calm (spelled_rets hX (natL L) (fun p hp => ⟨by have := (n2 p hp).1; omega, (n2 p hp).2⟩) (by rw [natL_len]; omega) x _ (by rw [natL_len, n1]; exact hq)) ?_
          rintro v g4 hx4 rfl
          have hn4 := hx4.next
          simp +decide (disch := first | assumption | (apply GH.ok_push; assumption) | exact cellV_int _ _ | exact cellV_bool _ | omega) only [go_sem, ↓reduceIte, Nat.reduceEqDiff, Nat.reduceAdd, Int.reduceToNat, he]
          intro hx
          refine ⟨by omega, ?_⟩
          unfold ofV
          rw [if_neg hll0, if_pos hok, if_neg c1, if_neg c2]
    · rintro m e g' lo ho' hl' ih out ⟨hlo, hk, i, S, ⟨hi, hm, hok, hS, hS0, hS1⟩, he⟩
      have hkn := hk.next
      by_cases c : i < L.length
      · obtain ⟨j, a, hj, hp1, hp2, hp3⟩ := (hs.kept hk).ptr c
        have hp1 := hp1 (i : Int) rfl
        obtain ⟨q1, q2⟩ := cellsI_get L i c
        have hv0 : ∀ lo, loadF none (g'.at lo) (.pointer (some ⟨j, a, none⟩)) = some (.int .i64 L[i].1) := fun lo => hp2 lo 0 _ (by omega) q1
        have hv1 : ∀ lo, loadF none (g'.at lo) (.pointer (some ⟨j, a + 1, none⟩)) = some (.int .i64 L[i].2) := fun lo => hp2 lo 1 _ (by omega) q2
        have hpw := hw L[i] (List.getElem_mem c)
        have hsn := sumI_take c
        have hbad := fun hb => ofV_bad hll0 c hb
        have hok2 := okTo_succ c hok
        have hq0 : i = 0 → lastI L i = 0 := fun z => by subst z; rfl
        have hq1 : ∀ z : i ≠ 0, lastI L i = (L[i - 1]'(by omega)).2 := fun z => by
          obtain ⟨k, rfl⟩ : ∃ k, i = k + 1 := ⟨i - 1, by omega⟩
          exact lastI_succ (by omega)
        obtain ⟨p, hp⟩ : ∃ p, L[i] = p := ⟨_, rfl⟩
        obtain ⟨q, hq⟩ : ∃ q, lastI L i = q := ⟨_, rfl⟩
        rw [hp] at hpw hv0 hv1 hsn hbad hok2
        rw [hq] at hbad hok2 hq0 hq1
        by_cases f1 : p.1 < 1
        · simp +decide (maxSteps := 2000000) (disch := first | assumption | exact cellV_int _ _ | exact cellV_bool _ | omega | (simp only [GH.pn, GH.sn] <;> omega) | (with_reducible ((repeat (first | apply GH.ok_push | apply GH.ok_set)); assumption)) | ((try simp only [GH.push_hid, GH.set_hid]); first | assumption | (refine GH.vis ?_ ?_ <;> first | assumption | ((try simp only [GH.pn, GH.sn]) <;> omega)))) only [go_sem, ↓reduceIte, Nat.reduceEqDiff, Nat.reduceAdd, Int.reduceToNat, Int.reduceAdd, Int.reduceNeg, Int.reduceSub, Int.reduceMul, Int.reduceLT, Int.reduceLE, Int.reduceEq, ↓GH.gp_eq, ↓GH.gp_ne, ↓GH.gs_eq, ↓GH.gs_ne, GH.push_next, GH.set_next, he, hln, c, hp1, hv0, hv1, f1]
          intro hx
          exact ⟨by omega, (hbad (.inl f1)).symm⟩
        · by_cases f2 : 200 < p.1
          · simp +decide (maxSteps := 2000000) (disch := first | assumption | exact cellV_int _ _ | exact cellV_bool _ | omega | (simp only [GH.pn, GH.sn] <;> omega) | (with_reducible ((repeat (first | apply GH.ok_push | apply GH.ok_set)); assumption)) | ((try simp only [GH.push_hid, GH.set_hid]); first | assumption | (refine GH.vis ?_ ?_ <;> first | assumption | ((try simp only [GH.pn, GH.sn]) <;> omega)))) only [go_sem, ↓reduceIte, Nat.reduceEqDiff, Nat.reduceAdd, Int.reduceToNat, Int.reduceAdd, Int.reduceNeg, Int.reduceSub, Int.reduceMul, Int.reduceLT, Int.reduceLE, Int.reduceEq, ↓GH.gp_eq, ↓GH.gp_ne, ↓GH.gs_eq, ↓GH.gs_ne, GH.push_next, GH.set_next, he, hln, c, hp1, hv0, hv1, f1, f2]
            intro hx
            exact ⟨by omega, (hbad (.inr (.inl f2))).symm⟩
          · by_cases f3 : p.2 < 1
            · simp +decide (maxSteps := 2000000) (disch := first | assumption | exact cellV_int _ _ | exact cellV_bool _ | omega | (simp only [GH.pn, GH.sn] <;> omega) | (with_reducible ((repeat (first | apply GH.ok_push | apply GH.ok_set)); assumption)) | ((try simp only [GH.push_hid, GH.set_hid]); first | assumption | (refine GH.vis ?_ ?_ <;> first | assumption | ((try simp only [GH.pn, GH.sn]) <;> omega)))) only [go_sem, ↓reduceIte, Nat.reduceEqDiff, Nat.reduceAdd, Int.reduceToNat, Int.reduceAdd, Int.reduceNeg, Int.reduceSub, Int.reduceMul, Int.reduceLT, Int.reduceLE, Int.reduceEq, ↓GH.gp_eq, ↓GH.gp_ne, ↓GH.gs_eq, ↓GH.gs_ne, GH.push_next, GH.set_next, he, hln, c, hp1, hv0, hv1, f1, f2, f3]
              intro hx
              exact ⟨by omega, (hbad (.inr (.inr (.inl f3)))).symm⟩
            · by_cases f4 : 9 < p.2
              · simp +decide (maxSteps := 2000000) (disch := first | assumption | exact cellV_int _ _ | exact cellV_bool _ | omega | (simp only [GH.pn, GH.sn] <;> omega) | (with_reducible ((repeat (first | apply GH.ok_push | apply GH.ok_set)); assumption)) | ((try simp only [GH.push_hid, GH.set_hid]); first | assumption | (refine GH.vis ?_ ?_ <;> first | assumption | ((try simp only [GH.pn, GH.sn]) <;> omega)))) only [go_sem, ↓reduceIte, Nat.reduceEqDiff, Nat.reduceAdd, Int.reduceToNat, Int.reduceAdd, Int.reduceNeg, Int.reduceSub, Int.reduceMul, Int.reduceLT, Int.reduceLE, Int.reduceEq, ↓GH.gp_eq, ↓GH.gp_ne, ↓GH.gs_eq, ↓GH.gs_ne, GH.push_next, GH.set_next, he, hln, c, hp1, hv0, hv1, f1, f2, f3, f4]
                intro hx
                exact ⟨by omega, (hbad (.inr (.inr (.inr (.inl f4))))).symm⟩
              · have hw1 : wrapF .i64 (S + p.1) = S + p.1 := wr64 (by omega) (by omega)
                have hwi : wrapF .i64 ((i : Int) + 1) = (i : Int) + 1 := wr64 (by omega) (by omega)
                by_cases z : i = 0
                · have h0 := hq0 z
                  have hz0 : ¬ (0 < (i : Int)) := by omega
                  simp +decide (maxSteps := 2000000) (disch := first | assumption | exact cellV_int _ _ | exact cellV_bool _ | omega | (simp only [GH.pn, GH.sn] <;> omega) | (with_reducible ((repeat (first | apply GH.ok_push | apply GH.ok_set)); assumption)) | ((try simp only [GH.push_hid, GH.set_hid]); first | assumption | (refine GH.vis ?_ ?_ <;> first | assumption | ((try simp only [GH.pn, GH.sn]) <;> omega)))) only [go_sem, ↓reduceIte, Nat.reduceEqDiff, Nat.reduceAdd, Int.reduceToNat, Int.reduceAdd, Int.reduceNeg, Int.reduceSub, Int.reduceMul, Int.reduceLT, Int.reduceLE, Int.reduceEq, ↓GH.gp_eq, ↓GH.gp_ne, ↓GH.gs_eq, ↓GH.gs_ne, GH.push_next, GH.set_next, he, hln, c, hp1, hv0, hv1, f1, f2, f3, f4, hz0, hw1, hwi]
                  refine ih (L.length - (i + 1)) _ _ _ (by omega) ⟨by omega, hk, i + 1, S + p.1, ⟨by omega, rfl, hok2 (by unfold badP; omega), by rw [hsn, hS], by omega, by omega⟩, ?_⟩
                  exact (by simp +decide (disch := first | assumption | (apply GH.ok_push; assumption) | exact cellV_int _ _ | exact cellV_bool _ | omega) only [go_sem, ↓reduceIte, Nat.reduceEqDiff, Nat.reduceAdd, Int.reduceToNat, he]; first | done | exact rfl)
                · obtain ⟨j2, a2, hj2, hr1, hr2, -⟩ := (hs.kept hk).ptr (show i - 1 < L.length by omega)
                  have hr1 := hr1 ((i : Int) - 1) (by omega)
                  have r2 := (cellsI_get L (i - 1) (by omega)).2
                  have hz0 : (0 < (i : Int)) := by omega
                  have hwm : wrapF .i64 ((i : Int) - 1) = (i : Int) - 1 := wr64 (by omega) (by omega)
                  have hv2 : ∀ lo, loadF none (g'.at lo) (.pointer (some ⟨j2, a2 + 1, none⟩)) = some (.int .i64 (L[i - 1]'(by omega)).2) := fun lo => hr2 lo 1 _ (by omega) r2
                  rw [← hq1 z] at hv2
                  by_cases f5 : p.2 = q
                  · simp +decide (maxSteps := 2000000) (disch := first | assumption | exact cellV_int _ _ | exact cellV_bool _ | omega | (simp only [GH.pn, GH.sn] <;> omega) | (with_reducible ((repeat (first | apply GH.ok_push | apply GH.ok_set)); assumption)) | ((try simp only [GH.push_hid, GH.set_hid]); first | assumption | (refine GH.vis ?_ ?_ <;> first | assumption | ((try simp only [GH.pn, GH.sn]) <;> omega)))) only [go_sem, ↓reduceIte, Nat.reduceEqDiff, Nat.reduceAdd, Int.reduceToNat, Int.reduceAdd, Int.reduceNeg, Int.reduceSub, Int.reduceMul, Int.reduceLT, Int.reduceLE, Int.reduceEq, ↓GH.gp_eq, ↓GH.gp_ne, ↓GH.gs_eq, ↓GH.gs_ne, GH.push_next, GH.set_next, he, hln, c, hp1, hv0, hv1, hr1, hv2, f1, f2, f3, f4, f5, hz0, hwm]
                    intro hx
                    exact ⟨by omega, (hbad (.inr (.inr (.inr (.inr f5))))).symm⟩
                  · simp +decide (maxSteps := 2000000) (disch := first | assumption | exact cellV_int _ _ | exact cellV_bool _ | omega | (simp only [GH.pn, GH.sn] <;> omega) | (with_reducible ((repeat (first | apply GH.ok_push | apply GH.ok_set)); assumption)) | ((try simp only [GH.push_hid, GH.set_hid]); first | assumption | (refine GH.vis ?_ ?_ <;> first | assumption | ((try simp only [GH.pn, GH.sn]) <;> omega)))) only [go_sem, ↓reduceIte, Nat.reduceEqDiff, Nat.reduceAdd, Int.reduceToNat, Int.reduceAdd, Int.reduceNeg, Int.reduceSub, Int.reduceMul, Int.reduceLT, Int.reduceLE, Int.reduceEq, ↓GH.gp_eq, ↓GH.gp_ne, ↓GH.gs_eq, ↓GH.gs_ne, GH.push_next, GH.set_next, he, hln, c, hp1, hv0, hv1, hr1, hv2, f1, f2, f3, f4, f5, hz0, hwm, hw1, hwi]
                    refine ih (L.length - (i + 1)) _ _ _ (by omega) ⟨by omega, hk, i + 1, S + p.1, ⟨by omega, rfl, hok2 (by unfold badP; omega), by rw [hsn, hS], by omega, by omega⟩, ?_⟩
                    exact (by simp +decide (disch := first | assumption | (apply GH.ok_push; assumption) | exact cellV_int _ _ | exact cellV_bool _ | omega) only [go_sem, ↓reduceIte, Nat.reduceEqDiff, Nat.reduceAdd, Int.reduceToNat, he]; first | done | exact rfl)
      · have hie : i = L.length := by omega
        subst hie
        simp +decide (disch := first | assumption | exact cellV_int _ _ | exact cellV_bool _ | omega | (simp only [GH.pn, GH.sn] <;> omega) | (with_reducible ((repeat (first | apply GH.ok_push | apply GH.ok_set)); assumption)) | ((try simp only [GH.push_hid, GH.set_hid]); first | assumption | (refine GH.vis ?_ ?_ <;> first | assumption | ((try simp only [GH.pn, GH.sn]) <;> omega)))) only [go_sem, ↓reduceIte, Nat.reduceEqDiff, Nat.reduceAdd, Int.reduceToNat, Int.reduceAdd, Int.reduceNeg, Int.reduceSub, Int.reduceMul, Int.reduceLT, Int.reduceLE, Int.reduceEq, ↓GH.gp_eq, ↓GH.gp_ne, ↓GH.gs_eq, ↓GH.gs_ne, GH.push_next, GH.set_next, he, hln]
        rw [List.take_length] at hS
        subst hS
        exact out _ _ _ ⟨hlo, hk, hok, (by simp +decide (disch := first | assumption | (apply GH.ok_push; assumption) | exact cellV_int _ _ | exact cellV_bool _ | omega) only [go_sem, ↓reduceIte, Nat.reduceEqDiff, Nat.reduceAdd, Int.reduceToNat, he]; first | done | exact rfl)⟩
end Go.Proofs.Ytgnnhenbmnopaaa
set_option maxRecDepth 100000
set_option maxHeartbeats 8000000
set_option linter.unusedSimpArgs false
set_option linter.unusedVariables false
namespace Go.Proofs.Ytgnnhenbmnopaaa
open Go.Ds Go.Aw
theorem pairsI_rets {X : Caller} (hX : Xfr X) (L : List (Int × Int)) (hLl : L.length ≤ 100000) (x y : Value) (g : GH) (hx1 : SlQ g x 2 L.length (cellsI L)) (hy1 : SlQ g y 2 L.length (cellsI L)) : Rets Try.prog X 22 [x, y] g (fun v g' lo => g.next ≤ lo ∧ v = .bool true) := by
  refine Rets.run hX.pres p22 (hX.free 22 (by decide) _ _) rfl fun ho => ?_
  have hl1 := hx1.len
  have hl2 := hy1.len
  simp +decide (disch := first | assumption | (apply GH.ok_push; assumption) | exact cellV_int _ _ | exact cellV_bool _ | omega) only [go_sem, ↓reduceIte, Nat.reduceEqDiff, Nat.reduceAdd, Int.reduceToNat, hl1, hl2]
  refine Wk.loops (fun m e g' lo => g.next ≤ lo ∧ Kept g g' ∧ ∃ i : Nat, (i ≤ L.length ∧ m = L.length - i) ∧ (ev e (.s 0) = x ∧ ev e (.s 1) = y ∧ ev e (.s 5) = .int .i64 i))
    (fun e g' lo => g.next ≤ lo) (n := L.length) ?_ ?_ ?_
  · exact ⟨Nat.le_refl _, Kept.refl _, 0, ⟨Nat.zero_le _, rfl⟩, (by simp +decide (disch := first | assumption | (apply GH.ok_push; assumption) | exact cellV_int _ _ | exact cellV_bool _ | omega) only [go_sem, ↓reduceIte, Nat.reduceEqDiff, Nat.reduceAdd, Int.reduceToNat]; first | done | exact rfl)⟩
  · rintro e g' lo ho' - hlo
    simp +decide (disch := first | assumption | (apply GH.ok_push; assumption) | exact cellV_int _ _ | exact cellV_bool _ | omega) only [go_sem, ↓reduceIte, Nat.reduceEqDiff, Nat.reduceAdd, Int.reduceToNat]
    intro hx
    exact ⟨hlo, rfl⟩
  · rintro m e g' lo ho' hl' ih out ⟨hlo, hk, i, ⟨hi, hm⟩, he⟩
    by_cases c : i < L.length
    · obtain ⟨j, a, hj, hp1, -, hp3⟩ := (hx1.kept hk).ptr c
      obtain ⟨j2, a2, hj2, hq1, -, hq3⟩ := (hy1.kept hk).ptr c
      have hp1 := hp1 (i : Int) rfl
      have hq1 := hq1 (i : Int) rfl
      rw [cellsI_drop L i c] at hp3 hq3
      have heq : eqAF true 2 (.agg #[.int .i64 L[i].1, .int .i64 L[i].2]) (.agg #[.int .i64 L[i].1, .int .i64 L[i].2]) = some (.bool false) := by
        show (intEqs [_, _] [_, _]).map _ = _
        rw [intEqs_same]; rfl
      have hwi : wrapF .i64 ((i : Int) + 1) = (i : Int) + 1 := wr64 (by omega) (by omega)
      simp +decide (disch := first | assumption | exact cellV_int _ _ | exact cellV_bool _ | omega | (simp only [GH.pn, GH.sn] <;> omega) | (with_reducible ((repeat (first | apply GH.ok_push | apply GH.ok_set)); assumption)) | ((try simp only [GH.push_hid, GH.set_hid]); first | assumption | (refine GH.vis ?_ ?_ <;> first | assumption | ((try simp only [GH.pn, GH.sn]) <;> omega)))) only [go_sem, ↓reduceIte, Nat.reduceEqDiff, Nat.reduceAdd, Int.reduceToNat, Int.reduceAdd, Int.reduceNeg, Int.reduceSub, Int.reduceMul, Int.reduceLT, Int.reduceLE, Int.reduceEq, ↓GH.gp_eq, ↓GH.gp_ne, ↓GH.gs_eq, ↓GH.gs_ne, GH.push_next, GH.set_next, he, hl1, c, hp1, hq1, hp3, hq3, heq, hwi]
      exact ih (m - 1) _ _ _ (by omega) ⟨hlo, hk, i + 1, ⟨by omega, by omega⟩, (by simp +decide (disch := first | assumption | (apply GH.ok_push; assumption) | exact cellV_int _ _ | exact cellV_bool _ | omega) only [go_sem, ↓reduceIte, Nat.reduceEqDiff, Nat.reduceAdd, Int.reduceToNat, he]; first | done | exact rfl)⟩
    · have hie : i = L.length := by omega
      subst hie
      simp +decide (disch := first | assumption | exact cellV_int _ _ | exact cellV_bool _ | omega | (simp only [GH.pn, GH.sn] <;> omega) | (with_reducible ((repeat (first | apply GH.ok_push | apply GH.ok_set)); assumption)) | ((try simp only [GH.push_hid, GH.set_hid]); first | assumption | (refine GH.vis ?_ ?_ <;> first | assumption | ((try simp only [GH.pn, GH.sn]) <;> omega)))) only [go_sem, ↓reduceIte, Nat.reduceEqDiff, Nat.reduceAdd, Int.reduceToNat, Int.reduceAdd, Int.reduceNeg, Int.reduceSub, Int.reduceMul, Int.reduceLT, Int.reduceLE, Int.reduceEq, ↓GH.gp_eq, ↓GH.gp_ne, ↓GH.gs_eq, ↓GH.gs_ne, GH.push_next, GH.set_next, he, hl1]
      exact out _ _ _ hlo
/-- A slice of pairs in the world: which block, from where, what is read. -/
structure PairS (W : World) (b off cap : Nat) (L : List (Int × Int)) : Prop where
  hcap : L.length ≤ cap
  hmax : cap ≤ maxLen
  at_ : ∃ c t fr, W.heap[b]? = some (.cells c t fr) ∧ ∀ (j : Nat) x, (cellsI L)[j]? = some x → c[off + j]? = some x
theorem PairS.below {w W : World} {b off cap : Nat} {L : List (Int × Int)} (h : PairS w b off cap L) (k : RowKit.Below w.heap.size w W) : PairS W b off cap L := by
  obtain ⟨h1, h2, c, t, fr, h3, h4⟩ := h
  exact ⟨h1, h2, c, t, fr, (k.5 b (Array.getElem?_eq_some_iff.1 h3).1).trans h3, h4⟩
def rowI (off : Nat) (L : List (Int × Int)) : List Value := List.replicate off junkV ++ cellsI L
theorem rowI_rel {W : World} {b off cap : Nat} {L : List (Int × Int)} (h : PairS W b off cap L) :
    b < W.heap.size ∧ ∃ c t fr, W.heap[b]? = some (.cells c t fr) ∧ ∀ (k : Nat) v, (rowI off L)[k]? = some v → isJ v = true ∨ (c[k]? = some v ∧ plainC v = true) := by
  obtain ⟨_, _, c, t, fr, h3, h4⟩ := h
  refine ⟨(Array.getElem?_eq_some_iff.1 h3).1, c, t, fr, h3, fun k v hk => ?_⟩
  unfold rowI at hk
  by_cases c1 : k < off
  · rw [List.getElem?_append_left (by simpa using c1), List.getElem?_replicate, if_pos c1] at hk
    simp at hk; subst hk
    exact .inl rfl
  · rw [List.getElem?_append_right (by simpa using c1), List.length_replicate] at hk
    have := h4 _ _ hk
    rw [show off + (k - off) = k by omega] at this
    obtain ⟨n, rfl⟩ := cellsI_plain L v (List.mem_of_getElem? hk)
    exact .inr ⟨this, rfl⟩
theorem slqI {rows : List (List Value)} {i off cap : Nat} {L : List (Int × Int)} (hr : rows[i]? = some (rowI off L)) : SlQ (seenG rows) (.slice (some ⟨i, off, none⟩) L.length cap) 2 L.length (cellsI L) := by
  refine ⟨cellsI_len L, .inr ⟨i, off, cap, seenOb (rowI off L), rfl, by rw [seen_next]; exact (List.getElem?_eq_some_iff.1 hr).1, seen_get _ hr, .inr ⟨rfl, ?_⟩, by simp [seenOb, rowI], by simp [seenOb, rowI]⟩⟩
  rw [List.any_eq_false]
  intro x hx
  obtain ⟨n, rfl⟩ := cellsI_plain L x hx
  simp [isJ]
theorem one_seen {W : World} {b off cap : Nat} {L : List (Int × Int)} (h : PairS W b off cap L) : SeenIn W [rowI off L] [b] ∧ VRel (seenPhi [b]) (.slice (some ⟨0, off, none⟩) L.length cap) (.slice (some ⟨b, off, none⟩) L.length cap) := by
  refine ⟨⟨rfl, ?_, ?_⟩, .slc 0 ⟨b, 0⟩ off L.length cap rfl (by have := h.hmax; unfold maxLen at this; unfold OPEN; omega) h.hcap⟩
  · intro i j b' hi hj
    match i, j with
    | 0, 0 => rfl
    | 0, j + 1 => simp at hj
    | i + 1, _ => simp at hi
  · intro i r b' hr hb'
    match i with
    | i + 1 => simp at hr
    | 0 => simp at hr hb'; subst hr; subst hb'; exact rowI_rel h
theorem plainOf (L : List (Int × Int)) : plainC (ofV L) = true := by
  unfold ofV
  repeat' split
  all_goals rfl
theorem ofR_in {W : World} {b off cap : Nat} {L : List (Int × Int)} (hw : ∀ p ∈ L, (-9223372036854775808 ≤ p.1 ∧ p.1 < 9223372036854775808) ∧ (-9223372036854775808 ≤ p.2 ∧ p.2 < 9223372036854775808)) (h : PairS W b off cap L) :
    Calls Try.prog 26 #[.slice (some ⟨b, off, none⟩) L.length cap] W fun e w' => e = .returned (ofV L) ∧ RowKit.Below W.heap.size W w' := by
  obtain ⟨s1, s2⟩ := one_seen h
  have inst : Inhabited Bound := ⟨⟨0⟩⟩
  exact Rets.seen X0_orac mixedO s1 (LRel.cons s2 LRel.nil) (fun h => X0_free (by decide) _ h) (plainOf L) ((ofR_rets X0_ok.toXfr L hw _ (seenG [rowI off L]) (slqI rfl)).mono fun v g' lo _ ⟨h1, h2⟩ => ⟨by rw [← seen_next]; exact h1, h2⟩)
theorem pairsI_in {W : World} {b off cap b2 off2 cap2 : Nat} {L : List (Int × Int)} (hLl : L.length ≤ 100000) (h1 : PairS W b off cap L) (h2 : PairS W b2 off2 cap2 L) (hne : b ≠ b2) :
    Calls Try.prog 22 #[.slice (some ⟨b, off, none⟩) L.length cap, .slice (some ⟨b2, off2, none⟩) L.length cap2] W fun e w' => e = .returned (.bool true) ∧ RowKit.Below W.heap.size W w' := by
  have hs : SeenIn W [rowI off L, rowI off2 L] [b, b2] := by
    refine ⟨rfl, ?_, ?_⟩
    · intro i j x hi hj
      match i, j with
      | 0, 0 => rfl
      | 1, 1 => rfl
      | 0, 1 => simp at hi hj; omega
      | 1, 0 => simp at hi hj; omega
      | i + 2, _ => simp at hi
      | _, j + 2 => simp at hj
    · intro i r x hr hx
      match i with
      | 0 => simp at hr hx; subst hr; subst hx; exact rowI_rel h1
      | 1 => simp at hr hx; subst hr; subst hx; exact rowI_rel h2
      | i + 2 => simp at hr
  have a1 : VRel (seenPhi [b, b2]) (.slice (some ⟨0, off, none⟩) L.length cap) (.slice (some ⟨b, off, none⟩) L.length cap) := .slc 0 ⟨b, 0⟩ off L.length cap rfl (by have := h1.hmax; unfold maxLen at this; unfold OPEN; omega) h1.hcap
  have a2 : VRel (seenPhi [b, b2]) (.slice (some ⟨1, off2, none⟩) L.length cap2) (.slice (some ⟨b2, off2, none⟩) L.length cap2) := .slc 1 ⟨b2, 0⟩ off2 L.length cap2 rfl (by have := h2.hmax; unfold maxLen at this; unfold OPEN; omega) h2.hcap
  have inst : Inhabited Bound := ⟨⟨0⟩⟩
  have r := pairsI_rets X0_ok.toXfr L hLl _ _ (seenG [rowI off L, rowI off2 L]) (slqI (i := 0) (cap := cap) rfl) (slqI (i := 1) (cap := cap2) rfl)
  exact Rets.seen X0_orac mixedO hs (LRel.cons a1 (LRel.cons a2 LRel.nil)) (fun h => X0_free (by decide) _ h) rfl (r.mono fun v g' lo _ ⟨h1, h2⟩ => ⟨by rw [← seen_next]; exact h1, h2⟩)
end Go.Proofs.Ytgnnhenbmnopaaa
set_option maxHeartbeats 4000000
namespace Go.Proofs
open Go.RowKit Go.Shelf Go.Aw Go.Proofs.Ytgnnhenbmnopaaa
attribute [local go_sem] Oper.semAt_some
set_option maxRecDepth 100000
set_option linter.unusedVariables false
def Bd (L : List (Int × Int)) : Prop := ∀ p ∈ L, (-9223372036854775808 ≤ p.1 ∧ p.1 < 9223372036854775808) ∧ (-9223372036854775808 ≤ p.2 ∧ p.2 < 9223372036854775808)
def Of25 (L : List (Int × Int)) : Prop := ∀ {W : World} {b off cap : Nat}, PairS W b off cap L → Calls Try.prog 25 #[.slice (some ⟨b, off, none⟩) L.length cap] W fun e w' => e = .returned (ofV L) ∧ Below W.heap.size W w'
theorem cellsI_one {L : List (Int × Int)} : ∀ u ∈ cellsI L, u.oneCell' = true := by
  intro u hu
  obtain ⟨n, rfl⟩ := cellsI_plain L u hu
  rfl
theorem ofV_form (L : List (Int × Int)) : ∃ s n, ofV L = .tuple #[.string s, .int .i64 n] := by
  unfold ofV
  repeat' split
  all_goals exact ⟨_, _, rfl⟩
theorem own_pairS {W : World} {base : Nat} {v : Value} {L : List (Int × Int)} (h : W.ownsRow base 52 2 v L.length (cellsI L)) (hv : v ≠ .slice none 0 0) : ∃ g cap, v = .slice (some ⟨g, 0, none⟩) L.length cap ∧ base ≤ g ∧ PairS W g 0 cap L := by
  obtain ⟨_, ⟨h0, _⟩ | ⟨g, cap, cur, rfl, hb, hc, h1, h2, h3, h4⟩⟩ := h
  · exact absurd h0 hv
  · refine ⟨g, cap, rfl, hb, h1, h2, cur, 52, _, hc, fun j x hj => ?_⟩
    rw [← h4, List.getElem?_take] at hj
    split at hj
    · rw [Nat.zero_add]; simpa using hj
    · cases hj
theorem PairS.cell {W : World} {b off cap : Nat} {L : List (Int × Int)} (h : PairS W b off cap L) (j : Nat) (x : Value) (hj : (cellsI L)[j]? = some x) : W.cell? ((⟨b, off, none⟩ : Addr).add j) = some x := by
  obtain ⟨_, _, c, t, fr, h3, h4⟩ := h
  have e : ((⟨b, off, none⟩ : Addr).add j) = ⟨b, off + j, none⟩ := by
    unfold Addr.add
    split
    · rename_i z; congr 1; omega
    · rfl
  rw [e, Lib.cell_of_heap h3]
  exact h4 j x hj
theorem Try.ofLaw_big (v : Value) (p : Option Addr) (n cap : Nat) (w : World) (hl : 1000 < n) : Calls Try.prog 4 #[.slice p n cap] w fun e w' => e = .returned (.bool true) ∧ Below w.heap.size w w' := by
  have hl' : (1000 : Int) < (n : Int) := by omega
  go_enter Try.func4, Try.ntmps4
  go_wp2_with (go_at_call 17; refine (alive_calls _).mono ?_; rintro e w2 ⟨rfl, b2⟩)
  go_ret
  exact ⟨rfl, b2⟩
theorem Try.ofLaw_some (b off cap : Nat) (L : List (Int × Int)) (w : World) (hl : L.length ≤ 1000) (hb : Bd L) (h25 : Of25 L) (hp : PairS w b off cap L) :
    Calls Try.prog 4 #[.slice (some ⟨b, off, none⟩) L.length cap] w fun e w' => e = .returned (.bool true) ∧ Below w.heap.size w w' := by
  have hl' : ¬ ((1000 : Int) < (L.length : Int)) := by omega
  have hl2 : ((L.length : Int) ≤ 1000) := by omega
  have hl3 : decide ((1000 : Int) < (L.length : Int)) = false := decide_eq_false hl'
  obtain ⟨i0, hi, hz0, hz1, hz2⟩ := info_parts Try.info52
  obtain ⟨s, n, hof⟩ := ofV_form L
  have hblt : b < w.heap.size := by
    obtain ⟨_, _, c, t, fr, h3, _⟩ := hp
    exact (Array.getElem?_eq_some_iff.1 h3).1
  have hml := cellsI_len L
  have b0 : Below w.heap.size w (w.alloc (.cells #[] 52)) := (Below.refl _ w).alloc (Nat.le_refl _) _
  have hown0 : (w.alloc (.cells #[] 52)).ownsRow w.heap.size 52 2 (.slice (some ⟨w.heap.size, 0, none⟩) 0 0) 0 [] := ⟨rfl, .inr ⟨w.heap.size, 0, #[], rfl, Nat.le_refl _, World.alloc_heap_new w _, Nat.le_refl _, by unfold maxLen; omega, rfl, rfl⟩⟩
  have hnew0 := PairS.cell (hp.below b0)
  have hm1 : 0 + L.length ≤ maxLen := by unfold maxLen; omega
  have hm2 : (0 + L.length) * 16 ≤ 140737488355328 := by omega
  have hm3 : w.heap.size ≤ (w.alloc (.cells #[] 52)).heap.size := b0.size
  go_enter Try.func4, Try.ntmps4
  go_wp2_with (at_builtin; refine wpList_append_own _ rfl _ _ 27 rfl w.heap.size 52 i0 (.agg #[.int .i64 0, .int .i64 0]) 2 16 Try.underlying27 hi hz0 hz1 hz2 rfl (by decide) _ 0 [] rfl hown0 ⟨b, off, none⟩ L.length cap (cellsI L) rfl hml hnew0 cellsI_one hm1 hm2 hm3 ?_; intro v' w2 hown' hgrow hnil)
  have hP0 : PairS w2 b off cap L := by
    obtain ⟨g1, g2, c, t, fr, g3, g4⟩ := hp.below b0
    refine ⟨g1, g2, c, t, fr, (hgrow.block b ?_ ?_).trans g3, g4⟩
    · have := b0.size; omega
    · intro e
      have e2 : some b = some w.heap.size := e
      cases e2
      omega
  have bw2 : Below w.heap.size w w2 := b0.grown hgrow b0.size (fun k e => by
    have e2 : some w.heap.size = some k := e
    cases e2
    omega)
  have hv2 : v' ≠ .slice none 0 0 := fun z => by
    have := (hnil.1 z).1
    cases this
  obtain ⟨g, cap', rfl, hg, hP⟩ := own_pairS (by rw [Nat.zero_add] at hown'; exact hown') hv2
  have k25 := h25 hP
  rw [hof] at k25
  refine k25.mono ?_
  rintro e w3 ⟨rfl, b3⟩
  have k26 := ofR_in hb (hP0.below b3)
  rw [hof] at k26
  go_wp2_with (go_at_call 26; refine k26.mono ?_; rintro e w4 ⟨rfl, b4⟩)
  have k22 := pairsI_in (L := L) (by omega) ((hP.below b3).below b4) ((hP0.below b3).below b4) (by omega)
  go_wp2_with (go_at_call 22; refine k22.mono ?_; rintro e w5 ⟨rfl, b5⟩)
  go_wp2_with (go_at_call 17; refine (alive_calls _).mono ?_; rintro e w6 ⟨rfl, b6⟩)
  go_ret
  exact ⟨rfl, bcat (bcat (bcat (bcat bw2 b3) b4) b5) b6⟩
end Go.Proofs
set_option maxHeartbeats 4000000
namespace Go.Proofs
open Go.RowKit Go.Shelf Go.Aw Go.Proofs.Ytgnnhenbmnopaaa Go.Ds
attribute [local go_sem] Oper.semAt_some
set_option maxRecDepth 100000
set_option linter.unusedVariables false
theorem wf_bd {n : Int} (h : (Lit.int .i64 n).wf = true) : -9223372036854775808 ≤ n ∧ n < 9223372036854775808 := by
  simp only [Lit.wf, Bool.and_eq_true, decide_eq_true_eq] at h
  have h1 : IntKind.i64.min = -9223372036854775808 := rfl
  have h2 : IntKind.i64.max = 9223372036854775807 := rfl
  rw [h1, h2] at h
  omega
theorem nil26 (w : World) : Calls Try.prog 26 #[.slice none 0 0] w fun e w' => e = .returned (ofV []) ∧ Below w.heap.size w w' :=
  have inst : Inhabited Bound := ⟨⟨0⟩⟩
  Rets.calls X0_orac mixedO (args := [.slice none 0 0]) rfl (X0_free (by decide) _ _) (plainOf []) ((ofR_rets X0_ok.toXfr [] (by simp) _ GH.zero ⟨rfl, .inl ⟨rfl, _, _, rfl⟩⟩).mono fun _ _ _ _ h => h.2) w
theorem nil22 {W : World} {b off cap : Nat} (h : PairS W b off cap []) : Calls Try.prog 22 #[.slice (some ⟨b, off, none⟩) 0 cap, .slice none 0 0] W fun e w' => e = .returned (.bool true) ∧ Below W.heap.size W w' := by
  obtain ⟨s1, s2⟩ := one_seen h
  have inst : Inhabited Bound := ⟨⟨0⟩⟩
  exact Rets.seen X0_orac mixedO s1 (LRel.cons s2 (LRel.cons VRel.snil LRel.nil)) (fun h => X0_free (by decide) _ h) rfl ((pairsI_rets X0_ok.toXfr [] (by simp) _ _ (seenG [rowI off []]) (slqI rfl) ⟨rfl, .inl ⟨rfl, _, _, rfl⟩⟩).mono fun v g' lo _ ⟨h1, h2⟩ => ⟨by rw [← seen_next]; exact h1, h2⟩)
theorem Try.ofLaw_nil (w : World) (h25 : Of25 []) : Calls Try.prog 4 #[.slice none 0 0] w fun e w' => e = .returned (.bool true) ∧ Below w.heap.size w w' := by
  have b0 : Below w.heap.size w (w.alloc (.cells #[] 52)) := (Below.refl _ w).alloc (Nat.le_refl _) _
  have hP : PairS (w.alloc (.cells #[] 52)) w.heap.size 0 0 [] := ⟨Nat.le_refl _, by unfold maxLen; simp, #[], 52, _, World.alloc_heap_new w _, fun j x h => by simp [cellsI] at h⟩
  obtain ⟨s, n, hof⟩ := ofV_form []
  have k25 := h25 hP
  rw [hof] at k25
  have k26 := fun w => nil26 w
  rw [hof] at k26
  go_enter Try.func4, Try.ntmps4
  go_wp2_with (go_at_call 25; refine k25.mono ?_; rintro e w3 ⟨rfl, b3⟩)
  go_wp2_with (go_at_call 26; refine (k26 _).mono ?_; rintro e w4 ⟨rfl, b4⟩)
  have k22 := nil22 ((hP.below b3).below b4)
  go_wp2_with (go_at_call 22; refine k22.mono ?_; rintro e w5 ⟨rfl, b5⟩)
  go_wp2_with (go_at_call 17; refine (alive_calls _).mono ?_; rintro e w6 ⟨rfl, b6⟩)
  go_ret
  exact ⟨rfl, bcat (bcat (bcat (bcat b0 b3) b4) b5) b6⟩
theorem Try.ofLaw_arg {w : World} {v : Value} {L : List (Int × Int)} (hA : ArgP w v L) (hb : Bd L) (h25 : Of25 L) : Calls Try.prog 4 #[v] w fun e w' => e = .returned (.bool true) ∧ Below w.heap.size w w' := by
  rcases hA with ⟨rfl, rfl⟩ | ⟨b, off, cap, c, t, fr, rfl, h1, h2, h3, h4⟩
  · exact Try.ofLaw_nil w h25
  · have hp : PairS w b off cap L := ⟨h1, h2, c, t, fr, h3, fun j x hj => by
      have := h4 j x hj
      have e : ((⟨b, off, none⟩ : Addr).add j) = ⟨b, off + j, none⟩ := by
        unfold Addr.add
        split
        · rename_i z; congr 1; omega
        · rfl
      rw [e, Lib.cell_of_heap h3] at this
      exact this⟩
    by_cases hl : L.length ≤ 1000
    · exact Try.ofLaw_some b off cap L w hl hb h25 hp
    · exact Try.ofLaw_big (.bool true) _ _ _ w (by omega)
end Go.Proofs
namespace Go.Proofs
open Go.RowKit Go.Shelf Go.Aw Go.Proofs.Ytgnnhenbmnopaaa Go.Ds
set_option maxRecDepth 100000
set_option linter.unusedVariables false
theorem of25 (L : List (Int × Int)) (hb : Bd L) : Of25 L := by
  intro W b off cap h
  obtain ⟨s1, s2⟩ := one_seen h
  have inst : Inhabited Bound := ⟨⟨0⟩⟩
  exact Rets.seen X0_orac mixedO s1 (LRel.cons s2 LRel.nil) (fun h => X0_free (by decide) _ h) (plainOf L) ((ofP_rets X0_ok L hb _ (seenG [rowI off L]) (slqI rfl)).mono fun v g' lo _ ⟨h1, h2⟩ => ⟨by rw [← seen_next]; exact h1, h2⟩)
theorem Try.ofLaw_in {w : World} {v : Value} {L : List (Int × Int)} (hA : ArgP w v L) (hw : ∀ q ∈ L, (Lit.int .i64 q.1).wf = true ∧ (Lit.int .i64 q.2).wf = true) : Calls Try.prog 4 #[v] w fun e w' => e = .returned (.bool true) ∧ Below w.heap.size w w' :=
  Try.ofLaw_arg hA (fun p hp => ⟨wf_bd (hw p hp).1, wf_bd (hw p hp).2⟩) (of25 L (fun p hp => ⟨wf_bd (hw p hp).1, wf_bd (hw p hp).2⟩))
end Go.Proofs
namespace Go.Proofs.Ytgnnhenbmnopaaa
open Go.ChangeShapes Go.WideShapes Go.ChangeAt Go.RowKit
set_option linter.unusedVariables false
set_option maxRecDepth 100000
open Go.Ds in
theorem aloudOf_calls {v0 : Value} {L : List (Int × Int)} {w : World} (hA : ArgP w v0 L) (hw : ∀ q ∈ L, (Lit.int .i64 q.1).wf = true ∧ (Lit.int .i64 q.2).wf = true) :
    Calls Try.prog 4 #[v0] w fun e w' => e = .returned (.bool true) ∧ RowKit.Below w.heap.size w w' :=
  Try.ofLaw_in hA hw
namespace aloudOf
set_option maxRecDepth 100000 in
theorem lifted (os : Os) (started : os.Started) (H : Type) (enc : TypeId × Value → H) :
    ReturnsInHanded {} Try.checked os 4 .any (Rows.aloudOfSpec.pre6 enc Try.prog Try.f4 Rows.aloudOfRow.domain false) (Rows.aloudOfSpec.post enc Try.prog Try.f4 false true false false) := by
  refine returnsInHanded_of_change (C := Try.checked) ownNone started (by kernel_rfl) Try.func4
    (ChangeSpec.witness6 (enc := enc) (C := Try.checked) false ⟨#[], #[.slice none 0 0], []⟩ 8 (by kernel_rfl) (by kernel_rfl) (by kernel_rfl) (by kernel_rfl)) ?_
  intro W base args ds gs before hval0 hW hcnd _
  have hval : ∀ (j : Nat) t v, Try.f4.params[j]? = some t → args[j]? = some v → Value.okWide Try.prog W .any base t v := hval0
  have hW' := hW
  obtain ⟨p, q, hA0, hV, rfl, hfz, hnd⟩ := hW
  have hA : DataW.TrodAll enc Try.prog W 0 (fun _ => true) true Try.f4.params.toList args.toList ds p := hA0
  rw [Try.params4] at hA hval
  obtain ⟨v0, vs0, d0, ds0, p0, q0, hargs, rfl, rfl, h0, r0⟩ := trodAll_cons hA
  obtain ⟨rfl, rfl, rfl⟩ := trodAll_nil r0
  obtain rfl : args = #[v0] := by cases args; simp_all
  obtain ⟨rfl, rfl⟩ := trodVars_none hV
  have k0 := h0
  have lt0 : ∀ x ∈ p0, x.block < W.heap.size := by obtain ⟨m, hm⟩ := k0; exact DataW.trod_lt m _ _ _ hm
  obtain ⟨L0, a0, w0⟩ := open_argP Try.underlying27 Try.underlying52 (by kernel_rfl) rfl rfl (by kernel_rfl) (by kernel_rfl) Try.underlying3 Try.underlying3 (hval 0 27 v0 rfl rfl) h0
  clear hA0 hval0
  refine (aloudOf_calls a0 w0).mono fun e W' ⟨he, bel⟩ => ?_
  subst he
  exact ⟨_, rfl, _, _, _, [], _, [], hW', trodAll_mk1 (shut_bool Try.underlying4 _), (trodAll_cons_mk (Below.trod laidOut (by kernel_rfl) (of_decide_eq_true (by kernel_rfl)) k0 bel lt0) trodAll_mk0), rfl, bel.frame _, fun h => by cases h⟩
theorem over : Rows.aloudOfRow.holds Try.pinned (OpenSpec.ofChange Rows.aloudOfSpec) :=
  OpenClaim.holds_of_wide 4 Try.f4 rfl rfl rfl rfl rfl rfl rfl ⟨rfl, rfl, rfl, rfl, rfl⟩ rfl rfl rfl rfl rfl (by kernel_rfl) Try.func4 (by kernel_rfl)
    (of_decide_eq_true (by kernel_rfl)) (by unfold Func.isWrapper; first | (rw [if_pos (by decide +kernel)]; kernel_rfl) | (rw [if_neg (by decide +kernel)]; exact ⟨rfl, rfl⟩))
    (fun os started H enc _ => lifted os started H enc)
/-- The statement. -/
theorem proved : Rows.AloudOfSaid := over
#print axioms proved
end aloudOf
end Go.Proofs.Ytgnnhenbmnopaaa
