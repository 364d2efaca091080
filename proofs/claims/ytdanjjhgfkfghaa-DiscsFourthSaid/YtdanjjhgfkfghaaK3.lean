import Derived.Test.YtdanjjhgfkfghaaDtM
import Derived.Test.YtdanjjhgfkfghaaK2
set_option linter.all false
set_option linter.unusedSimpArgs false
set_option linter.unnecessarySimpa false
set_option linter.unusedVariables false
set_option linter.unusedSectionVars false
set_option maxRecDepth 100000
set_option maxHeartbeats 8000000
set_option linter.unusedSimpArgs false
set_option linter.unusedVariables false
namespace Go.Proofs.Ytdanjjhgfkfghaa
open Go.Ds
/-- Two slices of integers are the same. -/
theorem same_rets {X : Caller} (hX : Xok X) (A B : List Int) (hA : A.length < 1000000) (hB : B.length < 1000000) (s t : Value) (g : GH) (hs : SlR g s (ints A)) (ht : SlR g t (ints B)) :
    Rets Try.prog X 26 [s, t] g (fun v g' lo => g.next ≤ lo ∧ v = .bool (decide (A = B))) := by
  refine Rets.run hX.pres p26 (hX.free 26 (by decide) (by decide) (by decide) _ _) rfl fun ho => ?_
  have hls := hs.len
  have hlt := ht.len
  rw [ints_len] at hls hlt
  by_cases c : A.length = B.length
  · simp +decide (disch := first | assumption | (apply GH.ok_push; assumption) | exact cellV_int _ _ | exact cellV_bool _ | omega) only [go_sem, ↓reduceIte, Nat.reduceEqDiff, Nat.reduceAdd, Int.reduceToNat, hls, hlt]
    refine Wk.loops (fun m e g' lo => g' = g ∧ g.next ≤ lo ∧ ∃ i : Nat, i + m = A.length ∧ (ev e (.s 0) = s ∧ ev e (.s 1) = t ∧ ev e (.s 5) = .int .i64 i) ∧ A.take i = B.take i)
      (fun e g' lo => g' = g ∧ g.next ≤ lo ∧ A = B) (n := A.length) ?_ ?_ ?_
    · exact ⟨rfl, Nat.le_refl _, 0, by omega, (by simp +decide (disch := first | assumption | (apply GH.ok_push; assumption) | exact cellV_int _ _ | exact cellV_bool _ | omega) only [go_sem, ↓reduceIte, Nat.reduceEqDiff, Nat.reduceAdd, Int.reduceToNat]; first | done | exact rfl), rfl⟩
    · rintro e g' lo - - ⟨rfl, hlo, h⟩
      simp +decide (disch := first | assumption | (apply GH.ok_push; assumption) | exact cellV_int _ _ | exact cellV_bool _ | omega) only [go_sem, ↓reduceIte, Nat.reduceEqDiff, Nat.reduceAdd, Int.reduceToNat]
      intro hx
      exact ⟨hlo, by simp [h]⟩
    · rintro m e g' lo ho' hl' ih out ⟨rfl, hlo, i, hi, he, hp⟩
      by_cases c2 : i < A.length
      · obtain ⟨j1, o1, hj1, hp1, hp2⟩ := hs.ptr (ints_get (D := A) (i := i) c2)
        obtain ⟨j2, o2, hj2, hq1, hq2⟩ := ht.ptr (ints_get (D := B) (i := i) (by omega))
        have hp1 := hp1 (i : Int) rfl
        have hq1 := hq1 (i : Int) rfl
        by_cases d : A.getD i 0 = B.getD i 0
        · simp +decide (disch := first | assumption | (apply GH.ok_push; assumption) | exact cellV_int _ _ | exact cellV_bool _ | omega) only [go_sem, ↓reduceIte, Nat.reduceEqDiff, Nat.reduceAdd, Int.reduceToNat, he, hls, hp1, hp2, hq1, hq2, d]
          refine ih (m - 1) _ _ _ (by omega) ⟨rfl, hlo, i + 1, by omega, (by simp +decide (disch := first | assumption | (apply GH.ok_push; assumption) | exact cellV_int _ _ | exact cellV_bool _ | omega) only [go_sem, ↓reduceIte, Nat.reduceEqDiff, Nat.reduceAdd, Int.reduceToNat, he]; first | done | exact rfl), ?_⟩
          rw [take_snoc A i c2, take_snoc B i (by omega), hp, d]
        · simp +decide (disch := first | assumption | (apply GH.ok_push; assumption) | exact cellV_int _ _ | exact cellV_bool _ | omega) only [go_sem, ↓reduceIte, Nat.reduceEqDiff, Nat.reduceAdd, Int.reduceToNat, he, hls, hp1, hp2, hq1, hq2]
          intro hx
          refine ⟨hlo, ?_⟩
          rw [decide_eq_false fun h => d (by rw [h])]
      · simp +decide (disch := first | assumption | (apply GH.ok_push; assumption) | exact cellV_int _ _ | exact cellV_bool _ | omega) only [go_sem, ↓reduceIte, Nat.reduceEqDiff, Nat.reduceAdd, Int.reduceToNat, he, hls]
        refine out _ _ _ ⟨rfl, hlo, ?_⟩
        rw [List.take_of_length_le (by omega), List.take_of_length_le (by omega)] at hp
        exact hp
  · simp +decide (disch := first | assumption | (apply GH.ok_push; assumption) | exact cellV_int _ _ | exact cellV_bool _ | omega) only [go_sem, ↓reduceIte, Nat.reduceEqDiff, Nat.reduceAdd, Int.reduceToNat, hls, hlt]
    intro hx
    exact ⟨Nat.le_refl _, by rw [decide_eq_false fun h => c (by rw [h])]⟩
def turnE (Q : List Int) (i : Int) : List Int × Int := if (turn1 Q i).2 = 0 then turn1 Q i else (Z4, (turn1 Q i).2)
def turnsE (Q : List Int) : List Int → List Int × Int
  | [] => (Q, 0)
  | i :: l => if (turnE Q i).2 = 0 then turnsE (turnE Q i).1 l else turnE Q i
theorem turnE_snd (Q : List Int) (i : Int) : (turnE Q i).2 = (turn1 Q i).2 := by
  unfold turnE; split
  · rfl
  · rfl
theorem turnE_len {Q : List Int} (h : Q.length = 4) (i : Int) : (turnE Q i).1.length = 4 := by
  unfold turnE; split
  · exact turn1_len h
  · rfl
theorem turnsE_eq : ∀ (l : List Int) (Q : List Int), turnsE Q l = if (turnsF Q l).2 = 0 then turnsF Q l else (Z4, (turnsF Q l).2)
  | [], Q => by simp [turnsE, turnsF]
  | i :: l, Q => by
    by_cases c : (turn1 Q i).2 = 0
    · have h : turnsF Q (i :: l) = turnsF (turn1 Q i).1 l := by rw [turnsF, if_pos c]
      rw [turnsE, turnE_snd, if_pos c, show (turnE Q i).1 = (turn1 Q i).1 by rw [turnE, if_pos c], h]
      exact turnsE_eq l _
    · have h : turnsF Q (i :: l) = turn1 Q i := by rw [turnsF, if_neg c]
      rw [turnsE, turnE_snd, if_neg c, h, turnE]
theorem refTurn1_rets {X : Caller} (hX : Xall X) (Q : List Int) (hQl : Q.length = 4) (hall : Q.all inR = true) (i : Int) (g : GH) :
    Rets Try.prog X 51 [.agg (ints Q).toArray, .int .i64 i] g (fun v g' lo => g.next ≤ lo ∧ v = .tuple #[.agg (ints (turnE Q i).1).toArray, .int .i64 (turnE Q i).2]) := by
  have hXX := hX
  have hX := hX.toXok
  refine Rets.run hX.pres p51 (hX.free 51 (by decide) (by decide) (by decide) _ _) rfl fun ho => ?_
  have hz4 := z4len
  simp +decide only [dseq, dreg, dbox, dalloc, nV_eq, cellsOf, tick, ev_put, ev_fill, ev_fill0, ev_none, ↓reduceIte, Nat.reduceEqDiff, Nat.reduceAdd]
  obtain ⟨hk, hok, hnx, g1, g2⟩ := two ho (cellsOb (ints Q) 23) (cellsOb [Value.int .i64 0, .int .i64 0, .int .i64 0, .int .i64 0] 23)
  generalize (g.push (cellsOb (ints Q) 23)).push (cellsOb [Value.int .i64 0, .int .i64 0, .int .i64 0, .int .i64 0] 23) = G at *
  have g2 : G.get (g.next + 1) = cellsOb (ints Z4) 23 := g2
  have hset := fun o => GH.get_set_same g2 Nat.one_ne_zero o
  by_cases c0 : i < 0
  · have e : turnE Q i = (Z4, 2) := by
      have t1 : turn1 Q i = (Q, 2) := by rw [turn1, if_pos (.inl c0)]
      rw [turnE, t1]; rfl
    simp +decide (disch := first | assumption | (apply GH.ok_push; assumption) | exact cellV_int _ _ | exact cellV_bool _ | omega) only [go_sem, ↓reduceIte, Nat.reduceEqDiff, Nat.reduceAdd, Int.reduceToNat, buildZ, g2, hset]
    intro hx0
    exact ⟨by omega, by rw [e]⟩
  by_cases c3 : 3 < i
  · have e : turnE Q i = (Z4, 2) := by
      have t1 : turn1 Q i = (Q, 2) := by rw [turn1, if_pos (.inr c3)]
      rw [turnE, t1]; rfl
    simp +decide (disch := first | assumption | (apply GH.ok_push; assumption) | exact cellV_int _ _ | exact cellV_bool _ | omega) only [go_sem, ↓reduceIte, Nat.reduceEqDiff, Nat.reduceAdd, Int.reduceToNat, buildZ, g2, hset]
    intro hx0
    exact ⟨by omega, by rw [e]⟩
  obtain ⟨k, rfl⟩ := Int.eq_ofNat_of_zero_le (show 0 ≤ i by omega)
  have hk4 : k < 4 := by omega
  simp +decide (disch := first | assumption | (apply GH.ok_push; assumption) | exact cellV_int _ _ | exact cellV_bool _ | omega) only [go_sem, ↓reduceIte, Nat.reduceEqDiff, Nat.reduceAdd, Int.reduceToNat, g1]
  refine CallD.calm (refTurned_rets hXX Q hQl hall k hk4 G) ?_
  rintro v G1 hx1 rfl
  have hn1 := hx1.next
  simp +decide (disch := first | assumption | (apply GH.ok_push; assumption) | exact cellV_int _ _ | exact cellV_bool _ | omega) only [go_sem, ↓reduceIte, Nat.reduceEqDiff, Nat.reduceAdd, Int.reduceToNat]
  refine CallD.calm (inRange_rets hX (turned Q k) G1) ?_
  rintro v G2 hx2 rfl
  have hn2 := hx2.next
  have g12 := (hx2.gets _ (by omega)).trans ((hx1.gets _ (by omega)).trans g1)
  have g22 := (hx2.gets _ (by omega)).trans ((hx1.gets _ (by omega)).trans g2)
  by_cases hr : inR (turned Q k) = true
  · have xk := iaddrA_at (j := g.next) (n := 4) (m := k) (x := (k : Int)) rfl hk4
    have hQl' : (Q.set k (turned Q k)).length = 4 := by simp [hQl]
    have hsp : splice k (ints Q) [.int .i64 (turned Q k)] = ints (Q.set k (turned Q k)) := by rw [splice_set _ _ _ (by rw [ints_len]; omega), ints_set]
    have s1 := fun o => GH.get_set_same g12 Nat.one_ne_zero o
    have s2 := fun o => (GH.get_set_ne g12 Nat.one_ne_zero o (i := g.next + 1) (by omega)).trans g22
    have s3 := fun o o' => GH.get_set_same (s2 o) Nat.one_ne_zero o'
    have e : turnE Q (k : Int) = (Q.set k (turned Q k), 0) := by
      have t1 : turn1 Q (k : Int) = (Q.set k (turned Q k), 0) := by rw [turn1, if_neg (by omega), Int.toNat_natCast, if_pos hr]
      rw [turnE, t1]; rfl
    simp +decide (disch := first | assumption | (apply GH.ok_push; assumption) | exact cellV_int _ _ | exact cellV_bool _ | omega) only [go_sem, ↓reduceIte, Nat.reduceEqDiff, Nat.reduceAdd, Int.reduceToNat, hr, xk, g12, s1, s2, s3, hsp, ints_len]
    intro hx0
    exact ⟨by omega, by rw [e]⟩
  · have hr' : inR (turned Q k) = false := by simpa using hr
    have s3 := fun o' => GH.get_set_same g22 Nat.one_ne_zero o'
    have e : turnE Q (k : Int) = (Z4, 4) := by
      have t1 : turn1 Q (k : Int) = (Q, 4) := by rw [turn1, if_neg (by omega), Int.toNat_natCast, if_neg hr]
      rw [turnE, t1]; rfl
    simp +decide (disch := first | assumption | (apply GH.ok_push; assumption) | exact cellV_int _ _ | exact cellV_bool _ | omega) only [go_sem, ↓reduceIte, Nat.reduceEqDiff, Nat.reduceAdd, Int.reduceToNat, hr', buildZ, g22, s3]
    intro hx0
    exact ⟨by omega, by rw [e]⟩
end Go.Proofs.Ytdanjjhgfkfghaa
set_option maxRecDepth 100000
set_option maxHeartbeats 8000000
set_option linter.unusedSimpArgs false
set_option linter.unusedVariables false
namespace Go.Proofs.Ytdanjjhgfkfghaa
open Go.Ds
theorem turnsR_one (Q : List Int) (i : Int) : turnsR Q [i] = if isQ Q = true then turnE Q i else (Z4, 2) := by
  unfold turnsR
  split
  · rw [if_neg (by simp), ← turnsE_eq, turnsE]
    split
    · rename_i h1 h2
      rw [turnsE, ← h2]
    · rfl
  · rfl
theorem turnsR_eq (Q l : List Int) : turnsR Q l = if isQ Q = true then (if 60 < l.length then (Z4, 3) else turnsE Q l) else (Z4, 2) := by
  unfold turnsR
  rw [turnsE_eq]
theorem refTurn_rets {X : Caller} (hX : Xall X) (Q : List Int) (hQl : Q.length = 4) (i : Int) (g : GH) :
    Rets Try.prog X 23 [.agg (ints Q).toArray, .int .i64 i] g (fun v g' lo => g.next ≤ lo ∧ v = .tuple #[.agg (ints (turnsR Q [i]).1).toArray, .int .i64 (turnsR Q [i]).2]) := by
  have hXX := hX
  have hX := hX.toXok
  refine Rets.run hX.pres p23 (hX.free 23 (by decide) (by decide) (by decide) _ _) rfl fun ho => ?_
  have hz4 := z4len
  simp +decide only [dseq, dreg, dbox, dalloc, nV_eq, cellsOf, tick, ev_put, ev_fill, ev_fill0, ev_none, ↓reduceIte, Nat.reduceEqDiff, Nat.reduceAdd]
  obtain ⟨hk, hok, hnx, g1, g2⟩ := two ho (cellsOb (ints Q) 23) (cellsOb [Value.int .i64 0, .int .i64 0, .int .i64 0, .int .i64 0] 23)
  generalize (g.push (cellsOb (ints Q) 23)).push (cellsOb [Value.int .i64 0, .int .i64 0, .int .i64 0, .int .i64 0] 23) = G at *
  have g2 : G.get (g.next + 1) = cellsOb (ints Z4) 23 := g2
  simp +decide (disch := first | assumption | (apply GH.ok_push; assumption) | exact cellV_int _ _ | exact cellV_bool _ | omega) only [go_sem, ↓reduceIte, Nat.reduceEqDiff, Nat.reduceAdd, Int.reduceToNat, g1]
  refine CallD.calm (refQ hXX Q hQl G) ?_
  rintro v G1 hx1 rfl
  have hn1 := hx1.next
  have g11 := (hx1.gets _ (by omega)).trans g1
  have g21 := (hx1.gets _ (by omega)).trans g2
  have hone := turnsR_one Q i
  by_cases hq : isQ Q = true
  · rw [if_pos hq] at hone
    have hE := turnE_len hQl i
    simp +decide (disch := first | assumption | (apply GH.ok_push; assumption) | exact cellV_int _ _ | exact cellV_bool _ | omega) only [go_sem, ↓reduceIte, Nat.reduceEqDiff, Nat.reduceAdd, Int.reduceToNat, hq, g11]
    refine CallD.calm (refTurn1_rets hXX Q hQl (isQ_all hq) i G1) ?_
    rintro v G2 hx2 rfl
    have hn2 := hx2.next
    have g22 := (hx2.gets _ (by omega)).trans g21
    have hset := fun o => GH.get_set_same g22 Nat.one_ne_zero o
    simp +decide (disch := first | assumption | (apply GH.ok_push; assumption) | exact cellV_int _ _ | exact cellV_bool _ | omega) only [go_sem, ↓reduceIte, Nat.reduceEqDiff, Nat.reduceAdd, Int.reduceToNat, ext0, ext1, g22, hset]
    intro hx0
    exact ⟨by omega, by rw [hone]⟩
  · have hq' : isQ Q = false := by simpa using hq
    rw [if_neg hq] at hone
    have hset := fun o => GH.get_set_same g21 Nat.one_ne_zero o
    simp +decide (disch := first | assumption | (apply GH.ok_push; assumption) | exact cellV_int _ _ | exact cellV_bool _ | omega) only [go_sem, ↓reduceIte, Nat.reduceEqDiff, Nat.reduceAdd, Int.reduceToNat, hq', buildZ, g21, hset]
    intro hx0
    exact ⟨by omega, by rw [hone]⟩
def RTurns (g : GH) (Q l : List Int) (s : Value) (m : Nat) (e : Env) (g' : GH) (lo : Nat) : Prop :=
  g.next ≤ lo ∧ Kept g g' ∧ g.next + 2 ≤ g'.next ∧ ∃ (k : Nat) (Q' : List Int) (err : Int), k + m = l.length ∧ (ev e (.s 1) = s ∧ ev e (.s 2) = ptrTo g.next ∧ ev e (.s 4) = ptrTo (g.next + 1) ∧ ev e (.s 6) = .int .i64 err ∧ ev e (.s 7) = .int .i64 (k : Int)) ∧
    g'.get g.next = cellsOb (ints Q') 23 ∧ g'.get (g.next + 1) = cellsOb (ints Z4) 23 ∧ Q'.length = 4 ∧ (err = 0 → Q'.all inR = true ∧ turnsE Q l = turnsE Q' (l.drop k)) ∧ (err ≠ 0 → turnsE Q l = (Q', err))
theorem turnE_all {Q : List Int} (hall : Q.all inR = true) (i : Int) (h : (turnE Q i).2 = 0) : (turnE Q i).1.all inR = true := by
  rw [turnE_snd] at h
  rw [turnE, if_pos h]
  exact turn1_all hall
theorem refTurns_rets {X : Caller} (hX : Xall X) (Q l : List Int) (hl : l.length < 1000000) (hQl : Q.length = 4) (s : Value) (g : GH) (hs : SlR g s (ints l)) :
    Rets Try.prog X 25 [.agg (ints Q).toArray, s] g (fun v g' lo => g.next ≤ lo ∧ v = .tuple #[.agg (ints (turnsR Q l).1).toArray, .int .i64 (turnsR Q l).2]) := by
  have hXX := hX
  have hX := hX.toXok
  rw [turnsR_eq]
  refine Rets.run hX.pres p25 (hX.free 25 (by decide) (by decide) (by decide) _ _) rfl fun ho => ?_
  have hz4 := z4len
  have hls := hs.len
  rw [ints_len] at hls
  simp +decide only [dseq, dreg, dbox, dalloc, nV_eq, cellsOf, tick, ev_put, ev_fill, ev_fill0, ev_none, ↓reduceIte, Nat.reduceEqDiff, Nat.reduceAdd]
  obtain ⟨hk, hok, hnx, g1, g2⟩ := two ho (cellsOb (ints Q) 23) (cellsOb [Value.int .i64 0, .int .i64 0, .int .i64 0, .int .i64 0] 23)
  generalize (g.push (cellsOb (ints Q) 23)).push (cellsOb [Value.int .i64 0, .int .i64 0, .int .i64 0, .int .i64 0] 23) = G at *
  have g2 : G.get (g.next + 1) = cellsOb (ints Z4) 23 := g2
  simp +decide (disch := first | assumption | (apply GH.ok_push; assumption) | exact cellV_int _ _ | exact cellV_bool _ | omega) only [go_sem, ↓reduceIte, Nat.reduceEqDiff, Nat.reduceAdd, Int.reduceToNat, g1]
  refine CallD.calm (refQ hXX Q hQl G) ?_
  rintro v G1 hx1 rfl
  have hn1 := hx1.next
  have g11 := (hx1.gets _ (by omega)).trans g1
  have g21 := (hx1.gets _ (by omega)).trans g2
  have hset := fun o => GH.get_set_same g21 Nat.one_ne_zero o
  by_cases hq : isQ Q = true
  · rw [if_pos hq]
    by_cases h60 : 60 < l.length
    · rw [if_pos h60]
      simp +decide (disch := first | assumption | (apply GH.ok_push; assumption) | exact cellV_int _ _ | exact cellV_bool _ | omega) only [go_sem, ↓reduceIte, Nat.reduceEqDiff, Nat.reduceAdd, Int.reduceToNat, hq, hls, buildZ, g21, hset]
      intro hx0
      exact ⟨by omega, rfl⟩
    rw [if_neg h60]
    simp +decide (disch := first | assumption | (apply GH.ok_push; assumption) | exact cellV_int _ _ | exact cellV_bool _ | omega) only [go_sem, ↓reduceIte, Nat.reduceEqDiff, Nat.reduceAdd, Int.reduceToNat, hq, hls]
    refine Wk.loops (RTurns g Q l s) (fun e g' lo => g.next ≤ lo ∧ g.next + 2 ≤ g'.next ∧ ∃ (Q' : List Int) (err : Int), (ev e (.s 2) = ptrTo g.next ∧ ev e (.s 4) = ptrTo (g.next + 1) ∧ ev e (.s 6) = .int .i64 err) ∧ g'.get g.next = cellsOb (ints Q') 23 ∧ g'.get (g.next + 1) = cellsOb (ints Z4) 23 ∧ Q'.length = 4 ∧ turnsE Q l = (Q', err)) (n := l.length) ?_ ?_ ?_
    · exact ⟨by omega, hk.ext hx1, by omega, 0, Q, 0, by omega, (by simp +decide (disch := first | assumption | (apply GH.ok_push; assumption) | exact cellV_int _ _ | exact cellV_bool _ | omega) only [go_sem, ↓reduceIte, Nat.reduceEqDiff, Nat.reduceAdd, Int.reduceToNat]; first | done | exact rfl), g11, g21, hQl, fun _ => ⟨isQ_all hq, rfl⟩, fun h => absurd rfl h⟩
    · rintro e G lo ho' hl' ⟨hlo, hn, Q', err, he, gq, gz, hQ', hres⟩
      have s1 := fun o => GH.get_set_same gz Nat.one_ne_zero o
      simp +decide (disch := first | assumption | (apply GH.ok_push; assumption) | exact cellV_int _ _ | exact cellV_bool _ | omega) only [go_sem, ↓reduceIte, Nat.reduceEqDiff, Nat.reduceAdd, Int.reduceToNat, he, gq, gz, s1]
      intro hx0
      exact ⟨by omega, by rw [hres]⟩
    · rintro m e G lo ho' hl' ih out ⟨hlo, hk', hn, k, Q', err, hkm, he, gq, gz, hQ', h0, h1⟩
      by_cases c : k < l.length
      · by_cases ce : err = 0
        · obtain ⟨hall', htl⟩ := h0 ce
          obtain ⟨j1, o1, hj1, hp1, hp2⟩ := (hs.kept hk').ptr (ints_get (D := l) (i := k) c)
          have hp1 := hp1 (k : Int) rfl
          have hdrop : l.drop k = l.getD k 0 :: l.drop (k + 1) := by rw [List.drop_eq_getElem_cons c]; simp [c]
          simp +decide (disch := first | assumption | (apply GH.ok_push; assumption) | exact cellV_int _ _ | exact cellV_bool _ | omega) only [go_sem, ↓reduceIte, Nat.reduceEqDiff, Nat.reduceAdd, Int.reduceToNat, he, hls, ce, gq, hp1, hp2]
          refine CallD.calm (refTurn1_rets hXX Q' hQ' hall' (l.getD k 0) G) ?_
          rintro v G2 hx2 rfl
          have hn2 := hx2.next
          have gq2 := (hx2.gets _ (by omega)).trans gq
          have gz2 := (hx2.gets _ (by omega)).trans gz
          have hE := turnE_len hQ' (l.getD k 0)
          simp +decide (disch := first | assumption | (apply GH.ok_push; assumption) | exact cellV_int _ _ | exact cellV_bool _ | omega) only [go_sem, ↓reduceIte, Nat.reduceEqDiff, Nat.reduceAdd, Int.reduceToNat, ext0, ext1, gq2, he]
          rw [spl_quad hQ' hE]
          refine ih (m - 1) _ _ _ (by omega) ⟨by omega, (hk'.ext hx2).set gq2 Nat.one_ne_zero (Nat.le_refl _) _, by simp only [GH.set_next]; omega, k + 1, (turnE Q' (l.getD k 0)).1, (turnE Q' (l.getD k 0)).2, by omega, (by simp +decide (disch := first | assumption | (apply GH.ok_push; assumption) | exact cellV_int _ _ | exact cellV_bool _ | omega) only [go_sem, ↓reduceIte, Nat.reduceEqDiff, Nat.reduceAdd, Int.reduceToNat, he]; first | done | exact rfl), GH.get_set_same gq2 Nat.one_ne_zero _, (GH.get_set_ne gq2 Nat.one_ne_zero _ (by omega)).trans gz2, hE, fun h => ⟨turnE_all hall' _ h, ?_⟩, fun h => ?_⟩
          · rw [htl, hdrop, turnsE, if_pos h]
          · rw [htl, hdrop, turnsE, if_neg h]
        · simp +decide (disch := first | assumption | (apply GH.ok_push; assumption) | exact cellV_int _ _ | exact cellV_bool _ | omega) only [go_sem, ↓reduceIte, Nat.reduceEqDiff, Nat.reduceAdd, Int.reduceToNat, he, hls, ce]
          exact out _ _ _ ⟨hlo, hn, Q', err, (by simp +decide (disch := first | assumption | (apply GH.ok_push; assumption) | exact cellV_int _ _ | exact cellV_bool _ | omega) only [go_sem, ↓reduceIte, Nat.reduceEqDiff, Nat.reduceAdd, Int.reduceToNat, he]; first | done | exact rfl), gq, gz, hQ', h1 ce⟩
      · simp +decide (disch := first | assumption | (apply GH.ok_push; assumption) | exact cellV_int _ _ | exact cellV_bool _ | omega) only [go_sem, ↓reduceIte, Nat.reduceEqDiff, Nat.reduceAdd, Int.reduceToNat, he, hls]
        have hres : turnsE Q l = (Q', err) := by
          by_cases c : err = 0
          · rw [(h0 c).2, show k = l.length by omega, List.drop_length, turnsE, c]
          · exact h1 c
        exact out _ _ _ ⟨hlo, hn, Q', err, (by simp +decide (disch := first | assumption | (apply GH.ok_push; assumption) | exact cellV_int _ _ | exact cellV_bool _ | omega) only [go_sem, ↓reduceIte, Nat.reduceEqDiff, Nat.reduceAdd, Int.reduceToNat, he]; first | done | exact rfl), gq, gz, hQ', hres⟩
  · have hq' : isQ Q = false := by simpa using hq
    rw [if_neg hq]
    simp +decide (disch := first | assumption | (apply GH.ok_push; assumption) | exact cellV_int _ _ | exact cellV_bool _ | omega) only [go_sem, ↓reduceIte, Nat.reduceEqDiff, Nat.reduceAdd, Int.reduceToNat, hq', buildZ, g21, hset]
    intro hx0
    exact ⟨by omega, rfl⟩
end Go.Proofs.Ytdanjjhgfkfghaa
set_option maxRecDepth 100000
set_option maxHeartbeats 8000000
set_option linter.unusedSimpArgs false
set_option linter.unusedVariables false
namespace Go.Proofs.Ytdanjjhgfkfghaa
open Go.Ds
theorem eqSame {A : List Int} (ha : A.length = 4) : eqAF true 4 (.agg (ints A).toArray) (.agg (ints A).toArray) = some (.bool false) ∧ eqAF false 4 (.agg (ints A).toArray) (.agg (ints A).toArray) = some (.bool true) := by
  have h := eqQ ha ha
  refine ⟨?_, by rw [h, decide_eq_true rfl]⟩
  simp only [eqAF] at h ⊢
  rw [show (Nat.beq (ints A).toArray.size 4 && Nat.beq (ints A).toArray.size 4) = true by simp [ints_len, ha]]
  simp only [cond_true]
  rw [intEqs_ints A A rfl]
  simp
theorem turnsR_len {Q : List Int} (hQl : Q.length = 4) (l : List Int) : (turnsR Q l).1.length = 4 := by
  rw [turnsR_eq]
  split
  · split
    · rfl
    · have : ∀ (l : List Int) (Q : List Int), Q.length = 4 → (turnsE Q l).1.length = 4 := by
        intro l
        induction l with
        | nil => intro Q h; exact h
        | cons i l ih =>
          intro Q h
          rw [turnsE]
          split
          · exact ih _ (turnE_len h i)
          · exact turnE_len h i
      exact this l Q hQl
  · rfl
/-- A quad that was made and written. -/
theorem quadNew {G : GH} (ho : G.ok) {R : List Int} (hR : R.length = 4) : ∃ G', (G.push (cellsOb [Value.int .i64 0, .int .i64 0, .int .i64 0, .int .i64 0] 23)).set G.next (cellsOb (splice 0 [Value.int .i64 0, .int .i64 0, .int .i64 0, .int .i64 0] (ints R)) 23) = G' ∧ Kept G G' ∧ G'.ok ∧ G'.next = G.next + 1 ∧ G'.get G.next = cellsOb (ints R) 23 := by
  have h0 : (G.push (cellsOb [Value.int .i64 0, .int .i64 0, .int .i64 0, .int .i64 0] 23)).get G.next = cellsOb [Value.int .i64 0, .int .i64 0, .int .i64 0, .int .i64 0] 23 := by rw [GH.get_push ho, if_pos rfl]
  rw [splice_full (show [Value.int .i64 0, .int .i64 0, .int .i64 0, .int .i64 0].length = (ints R).length by rw [len_quad hR]; rfl)]
  exact ⟨_, rfl, ((Kept.refl G).push ho _).set h0 Nat.one_ne_zero (Nat.le_refl _) _, GH.ok_push (o := cellsOb [Value.int .i64 0, .int .i64 0, .int .i64 0, .int .i64 0] 23) ho, rfl, GH.get_set_same h0 Nat.one_ne_zero _⟩
/-- A quad that was written. -/
theorem quadSet {g G : GH} {j : Nat} {Q R : List Int} (h : G.get j = cellsOb (ints Q) 23) (hQ : Q.length = 4) (hR : R.length = 4) (hk : Kept g G) (hj : g.next ≤ j) (ho : G.ok) : ∃ G', G.set j (cellsOb (splice 0 (ints Q) (ints R)) 23) = G' ∧ G.set j (cellsOb (ints R) 23) = G' ∧ Kept g G' ∧ G'.ok ∧ G'.next = G.next ∧ G'.get j = cellsOb (ints R) 23 ∧ ∀ i, i ≠ j → G'.get i = G.get i := by
  rw [spl_quad hQ hR]
  exact ⟨_, rfl, rfl, hk.set h Nat.one_ne_zero hj _, ho, rfl, GH.get_set_same h Nat.one_ne_zero _, fun i hi => GH.get_set_ne h Nat.one_ne_zero _ (Ne.symm hi)⟩
theorem SlR.sets {g G G' : GH} {s : Value} {vs : List Value} (h : SlR g s vs) (hk : Kept g G') : SlR G' s vs := h.kept hk
/-- The law: for a quad, a number and a list that is read. -/
theorem turnsLaw_rets {X : Caller} (hX : Xall X) (Q l : List Int) (hQl : Q.length = 4) (i : Int) (hl : 200 < l.length ∨ l.length ≤ 200) (s : Value) (g : GH) (hs : SlR g s (ints l)) :
    Rets Try.prog X 4 [.agg (ints Q).toArray, .int .i64 i, s] g (fun v g' lo => g.next ≤ lo ∧ v = .bool true) := by
  have hXX := hX
  have hX := hX.toXok
  refine Rets.run hX.pres p4 (hX.free 4 (by decide) (by decide) (by decide) _ _) rfl fun ho => ?_
  have hz4 := z4len
  have hls := hs.len
  rw [ints_len] at hls
  simp +decide only [dseq, dreg, dbox, dalloc, nV_eq, cellsOf, tick, ev_put, ev_fill, ev_fill0, ev_none, ↓reduceIte, Nat.reduceEqDiff, Nat.reduceAdd]
  obtain ⟨hk0, hok, hnx, g1⟩ := boxQ ho Q 23
  have hs0 := hs.kept hk0
  generalize g.push (cellsOb (ints Q) 23) = G at *
  by_cases c200 : 200 < l.length
  · simp +decide (disch := first | assumption | (apply GH.ok_push; assumption) | exact cellV_int _ _ | exact cellV_bool _ | omega) only [go_sem, ↓reduceIte, Nat.reduceEqDiff, Nat.reduceAdd, Int.reduceToNat, hls]
    refine CallD.calm (hXX.alive G) ?_
    rintro v G1 hx1 rfl
    simp +decide (disch := first | assumption | (apply GH.ok_push; assumption) | exact cellV_int _ _ | exact cellV_bool _ | omega) only [go_sem, ↓reduceIte, Nat.reduceEqDiff, Nat.reduceAdd, Int.reduceToNat]
    intro hx0
    exact ⟨by omega, rfl⟩
  simp +decide (disch := first | assumption | (apply GH.ok_push; assumption) | exact cellV_int _ _ | exact cellV_bool _ | omega) only [go_sem, ↓reduceIte, Nat.reduceEqDiff, Nat.reduceAdd, Int.reduceToNat, hls]
  refine AppD.copy (vs := []) (new := ints l) (j := G.next) (cells := []) (t' := 3) (by rw [GH.get_push hok, if_pos rfl]) rfl (Nat.le_refl _) (Nat.lt_succ_self _) (hs0.push hok _) (by rw [ints_len]; simp; omega) (GH.ok_push hok) ?_
  intro own G1 sp wr hk1 hok1 hown
  rw [List.nil_append] at hown
  have hk1 := ((Kept.refl G).push hok _).trans hk1
  have hn1 := hk1.next
  have g11 := (hk1.gets _ (by omega)).trans g1
  have hs1 := hs0.kept hk1
  simp +decide (disch := first | assumption | (apply GH.ok_push; assumption) | exact cellV_int _ _ | exact cellV_bool _ | omega) only [go_sem, ↓reduceIte, Nat.reduceEqDiff, Nat.reduceAdd, Int.reduceToNat, g11]
  refine CallD.calm (turnD_rets hXX Q hQl i G1) ?_
  rintro v G2 hx2 rfl
  have hn2 := hx2.next
  have hok2 := hx2.ok hok1
  have g12 := (hx2.gets _ (by omega)).trans g11
  have hown2 := hown.ext hx2
  have hs2 := hs1.ext hx2
  have hR := turnsR_len hQl [i]
  have hRl := turnsR_len hQl l
  have hR1 : ∃ R, turnsR Q [i] = R := ⟨_, rfl⟩
  simp +decide (disch := first | assumption | (apply GH.ok_push; assumption) | exact cellV_int _ _ | exact cellV_bool _ | omega) only [go_sem, ↓reduceIte, Nat.reduceEqDiff, Nat.reduceAdd, Int.reduceToNat, ext0, ext1, hok2]
  obtain ⟨G3, e3, hk3, hok3, hn3, ga3⟩ := quadNew hok2 hR
  rw [e3]
  have g13 := (hk3.gets _ (by omega)).trans g12
  have hown3 := hown2.kept hk3
  have hs3 := hs2.kept hk3
  simp +decide (disch := first | assumption | (apply GH.ok_push; assumption) | exact cellV_int _ _ | exact cellV_bool _ | omega) only [go_sem, ↓reduceIte, Nat.reduceEqDiff, Nat.reduceAdd, Int.reduceToNat, g13, ext1]
  refine CallD.calm (refTurn_rets hXX Q hQl i G3) ?_
  rintro v G4 hx4 rfl
  have hn4 := hx4.next
  have hok4 := hx4.ok hok3
  have g14 := (hx4.gets _ (by omega)).trans g13
  have ga4 := (hx4.gets _ (by omega)).trans ga3
  have hown4 := hown3.ext hx4
  have hs4 := hs3.ext hx4
  simp +decide (disch := first | assumption | (apply GH.ok_push; assumption) | exact cellV_int _ _ | exact cellV_bool _ | omega) only [go_sem, ↓reduceIte, Nat.reduceEqDiff, Nat.reduceAdd, Int.reduceToNat, ext0, ext1, hok4]
  obtain ⟨G5, e5, hk5, hok5, hn5, gb5⟩ := quadNew hok4 hR
  rw [e5]
  have g15 := (hk5.gets _ (by omega)).trans g14
  have ga5 := (hk5.gets _ (by omega)).trans ga4
  have hown5 := hown4.kept hk5
  have hs5 := hs4.kept hk5
  obtain ⟨q1, q2⟩ := eqSame hR
  simp +decide (disch := first | assumption | (apply GH.ok_push; assumption) | exact cellV_int _ _ | exact cellV_bool _ | omega) only [go_sem, ↓reduceIte, Nat.reduceEqDiff, Nat.reduceAdd, Int.reduceToNat, g15, ga5, gb5, ext1, q1, eq_self]
  refine CallD.calm (turns_rets hXX Q l (by omega) hQl own G5 hown5) ?_
  rintro v G6 hx6 rfl
  have hn6 := hx6.next
  have hok6 := hx6.ok hok5
  have g16 := (hx6.gets _ (by omega)).trans g15
  have ga6 := (hx6.gets _ (by omega)).trans ga5
  have gb6 := (hx6.gets _ (by omega)).trans gb5
  have hown6 := hown5.ext hx6
  have hs6 := hs5.ext hx6
  have hkG : Kept G2 G6 := ((hk3.ext hx4).trans hk5).ext hx6
  obtain ⟨G7, e7, e7', hk7, hok7, hn7, ga7, go7⟩ := quadSet (R := (turnsR Q l).1) ga6 hR hRl hkG (Nat.le_refl _) hok6
  have g17 := (go7 g.next (by omega)).trans g16
  have gb7 := (go7 G4.next (by omega)).trans gb6
  have hown7 := hown2.kept hk7
  have hs7 := hs2.kept hk7
  simp +decide (disch := first | assumption | (apply GH.ok_push; assumption) | exact cellV_int _ _ | exact cellV_bool _ | omega) only [go_sem, ↓reduceIte, Nat.reduceEqDiff, Nat.reduceAdd, Int.reduceToNat, ext0, ext1, ga6]
  rw [e7]
  simp +decide (disch := first | assumption | (apply GH.ok_push; assumption) | exact cellV_int _ _ | exact cellV_bool _ | omega) only [go_sem, ↓reduceIte, Nat.reduceEqDiff, Nat.reduceAdd, Int.reduceToNat, e7', g17, ext1]
  refine CallD.calm (refTurns_rets hXX Q l (by omega) hQl s G7 hs7) ?_
  rintro v G8 hx8 rfl
  have hn8 := hx8.next
  have hok8 := hx8.ok hok7
  have ga8 := (hx8.gets _ (by omega)).trans ga7
  have gb8 := (hx8.gets _ (by omega)).trans gb7
  have hown8 := hown7.ext hx8
  have hs8 := hs7.ext hx8
  obtain ⟨G9, e9, e9', hk9, hok9, hn9, gb9, go9⟩ := quadSet (R := (turnsR Q l).1) gb8 hR hRl (hk7.ext hx8) (by omega) hok8
  have ga9 := (go9 G2.next (by omega)).trans ga8
  obtain ⟨q3, q4⟩ := eqSame hRl
  simp +decide (disch := first | assumption | (apply GH.ok_push; assumption) | exact cellV_int _ _ | exact cellV_bool _ | omega) only [go_sem, ↓reduceIte, Nat.reduceEqDiff, Nat.reduceAdd, Int.reduceToNat, ext0, ext1, gb8]
  rw [e9]
  simp +decide (disch := first | assumption | (apply GH.ok_push; assumption) | exact cellV_int _ _ | exact cellV_bool _ | omega) only [go_sem, ↓reduceIte, Nat.reduceEqDiff, Nat.reduceAdd, Int.reduceToNat, e9', ga9, gb9, ext1, q4, eq_self]
  refine CallD.calm (same_rets hX l l (by omega) (by omega) own s G9 (hown2.kept hk9) (hs2.kept hk9)) ?_
  rintro v G10 hx10 rfl
  have hn10 := hx10.next
  rw [decide_eq_true rfl]
  simp +decide (disch := first | assumption | (apply GH.ok_push; assumption) | exact cellV_int _ _ | exact cellV_bool _ | omega) only [go_sem, ↓reduceIte, Nat.reduceEqDiff, Nat.reduceAdd, Int.reduceToNat]
  refine CallD.calm (hXX.alive G10) ?_
  rintro v G11 hx11 rfl
  simp +decide (disch := first | assumption | (apply GH.ok_push; assumption) | exact cellV_int _ _ | exact cellV_bool _ | omega) only [go_sem, ↓reduceIte, Nat.reduceEqDiff, Nat.reduceAdd, Int.reduceToNat]
  intro hx0
  exact ⟨by trace_state; omega, rfl⟩
end Go.Proofs.Ytdanjjhgfkfghaa
