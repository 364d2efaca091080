import Derived.Test.YteeelcmnlomgmaaJ8
import Derived.Test.YteeelcmnlomgmaaDtO
import Derived.Test.YteeelcmnlomgmaaJ5
set_option linter.all false
set_option linter.unusedSimpArgs false
set_option linter.unnecessarySimpa false
set_option linter.unusedVariables false
set_option linter.unusedSectionVars false
set_option maxRecDepth 100000
set_option maxHeartbeats 8000000
set_option linter.unusedSimpArgs false
set_option linter.unusedVariables false
namespace Go.Proofs.Yteeelcmnlomgmaa
open Go.Ds
theorem reverse_rets {X : Caller} (hX : Xok X) (n : Nat) (hn : n ≤ 10) (f : Nat → Int) (j : Nat) (g : GH) (hj : j < g.next) (hg : g.get j = cellsOb (ints (rng n f)) 3) :
    Rets Try.prog X 73 [.slice (some ⟨j, 0, none⟩) n n] g (fun v g' lo => j ≤ lo ∧ KeptJ g g' j ∧ g'.ok ∧ g'.get j = cellsOb (ints (rng n fun i => f (n - 1 - i))) 3) := by
  refine Rets.run hX.pres p73 (hX.free 73 (by decide) _ _) rfl fun ho => ?_
  simp +decide (disch := first | assumption | (apply GH.ok_push; assumption) | exact cellV_int _ _ | exact cellV_bool _ | omega) only [go_sem, ↓reduceIte, Nat.reduceEqDiff, Nat.reduceAdd, Int.reduceToNat]
  refine Wk.loops (fun m e g' lo => j ≤ lo ∧ KeptJ g g' j ∧ g'.ok ∧ j < g'.next ∧ ∃ i : Nat, i + m = n ∧ (ev e (.s 0) = .slice (some ⟨j, 0, none⟩) n n ∧ ev e (.s 2) = .int .i64 i ∧ ev e (.s 3) = .int .i64 ((n : Int) - 1 - (i : Int))) ∧ g'.get j = cellsOb (ints (rng n (fun t => if t < i ∨ n - 1 - t < i then f (n - 1 - t) else f t))) 3)
    (fun e g' lo => j ≤ lo ∧ KeptJ g g' j ∧ g'.ok ∧ g'.get j = cellsOb (ints (rng n fun i => f (n - 1 - i))) 3) (n := n) ?_ ?_ ?_
  · refine ⟨by omega, KeptJ.of (Kept.refl _), ho, hj, 0, by omega, ?_, ?_⟩
    · have z3 : (n : Int) - 1 - ((0 : Nat) : Int) = (n : Int) - 1 := by omega
      rw [z3]
      exact (by simp +decide (disch := first | assumption | (apply GH.ok_push; assumption) | exact cellV_int _ _ | exact cellV_bool _ | omega) only [go_sem, ↓reduceIte, Nat.reduceEqDiff, Nat.reduceAdd, Int.reduceToNat]; first | done | exact rfl)
    · rw [hg]
      have : rng n f = rng n (fun t => if t < 0 ∨ n - 1 - t < 0 then f (n - 1 - t) else f t) := rng_congr fun t _ => (if_neg (by omega)).symm
      rw [this]
  · rintro e g' lo hog - ⟨hlo, hk, hok, hgj⟩
    simp +decide (disch := first | assumption | (apply GH.ok_push; assumption) | exact cellV_int _ _ | exact cellV_bool _ | omega) only [go_sem, ↓reduceIte, Nat.reduceEqDiff, Nat.reduceAdd, Int.reduceToNat]
    intro hx0
    exact ⟨hlo, hk, hok, hgj⟩
  · rintro m e g' lo ho' hl' ih out ⟨hlo, hk, hok, hjn, i, him, he, hgj⟩
    by_cases ci : (i : Int) < (n : Int) - 1 - i
    · have hia := iaddrS_at (j := j) (n := n) (c := n) (m := i) (x := (i : Int)) rfl (by omega)
      have hib := iaddrS_at (j := j) (n := n) (c := n) (m := n - 1 - i) (x := (n : Int) - 1 - i) (by omega) (by omega)
      obtain ⟨F, hF⟩ : ∃ F : Nat → Int, (fun t => if t < i ∨ n - 1 - t < i then f (n - 1 - t) else f t) = F := ⟨_, rfl⟩
      have hFi : F i = f i := by rw [← hF]; exact if_neg (by omega)
      have hFj : F (n - 1 - i) = f (n - 1 - i) := by rw [← hF]; exact if_neg (by omega)
      rw [hF] at hgj
      have hc0 : (ints (rng n F))[i]? = some (.int .i64 (f i)) := by rw [ints_get (by rw [rng_len]; omega), rng_get _ (by omega), hFi]
      have hc1 : (ints (rng n F))[n - 1 - i]? = some (.int .i64 (f (n - 1 - i))) := by rw [ints_get (by rw [rng_len]; omega), rng_get _ (by omega), hFj]
      have hlr : (ints (rng n F)).length = n := by rw [ints_len, rng_len]
      have hset : ∀ o, (g'.set j o).get j = o := fun o => GH.get_set_same hgj Nat.one_ne_zero o
      have h1 : i + 1 ≤ n := by omega
      have h2 : n - 1 - i + 1 ≤ n := by omega
      have hs1 : splice i (ints (rng n F)) [.int .i64 (f (n - 1 - i))] = ints (rng n (fun t => if t = i then f (n - 1 - i) else F t)) := by
        rw [splice_set _ _ _ (by rw [hlr]; omega), ints_set, rng_set]
      have hlr2 : (ints (rng n (fun t => if t = i then f (n - 1 - i) else F t))).length = n := by rw [ints_len, rng_len]
      have hsn : ∀ o, (g'.set j o).next = g'.next := fun o => rfl
      have e1 : (n : Int) - 1 - ((i : Int) + 1) = (n : Int) - 1 - i - 1 := by omega
      simp +decide (disch := first | assumption | (apply GH.ok_push; assumption) | exact cellV_int _ _ | exact cellV_bool _ | omega) only [go_sem, ↓reduceIte, Nat.reduceEqDiff, Nat.reduceAdd, Int.reduceToNat, he, ci, hia, hib, hgj, hc0, hc1, hlr, hset, h1, h2, hjn, hs1, hlr2, hsn]
      have hw1 := Wrote.set (o := cellsOb (ints (rng n (fun t => if t = i then f (n - 1 - i) else F t))) 3) hgj Nat.one_ne_zero hok
      have hw2 := Wrote.set (o := cellsOb (splice (n - 1 - i) (ints (rng n (fun t => if t = i then f (n - 1 - i) else F t))) [.int .i64 (f i)]) 3) hw1.get Nat.one_ne_zero hw1.ok
      have hs2 : splice (n - 1 - i) (ints (rng n (fun t => if t = i then f (n - 1 - i) else F t))) [.int .i64 (f i)] = ints (rng n (fun t => if t = n - 1 - i then f i else if t = i then f (n - 1 - i) else F t)) := by
        rw [splice_set _ _ _ (by rw [hlr2]; omega), ints_set, rng_set]
      rw [hs2] at hw2
      simp only [hs1, hs2]
      have hkj : ∀ {a b : GH} {o : Ob}, Wrote a b j o → KeptJ a b j := fun hw => ⟨by rw [hw.next]; exact Nat.le_refl _, fun j hj hne => hw.others j hne, fun f hf => hw.fams f⟩
      have hn1 := hw1.next
      have hn2 := hw2.next
      refine ih (m - 1) _ _ _ (by omega) ⟨by omega, (hk.trans (hkj hw1)).trans (hkj hw2), hw2.ok, by omega, i + 1, by omega, ?_, ?_⟩
      · have z3 : (n : Int) - 1 - ((i + 1 : Nat) : Int) = (n : Int) - 1 - i - 1 := by omega
        rw [z3]
        exact (by simp +decide (disch := first | assumption | (apply GH.ok_push; assumption) | exact cellV_int _ _ | exact cellV_bool _ | omega) only [go_sem, ↓reduceIte, Nat.reduceEqDiff, Nat.reduceAdd, Int.reduceToNat, he]; first | done | exact rfl)
      · rw [hw2.get]
        congr 2
        refine rng_congr fun t ht => ?_
        rw [← hF]
        by_cases c1 : t = n - 1 - i
        · rw [if_pos c1, if_pos (by omega), c1, show n - 1 - (n - 1 - i) = i by omega]
        · rw [if_neg c1]
          by_cases c2 : t = i
          · rw [if_pos c2, if_pos (by omega), c2]
          · rw [if_neg c2]
            show (if t < i ∨ n - 1 - t < i then f (n - 1 - t) else f t) = _
            by_cases c3 : t < i ∨ n - 1 - t < i
            · rw [if_pos c3, if_pos (by omega)]
            · rw [if_neg c3, if_neg (by omega)]
    · simp +decide (disch := first | assumption | (apply GH.ok_push; assumption) | exact cellV_int _ _ | exact cellV_bool _ | omega) only [go_sem, ↓reduceIte, Nat.reduceEqDiff, Nat.reduceAdd, Int.reduceToNat, he, ci]
      refine out _ _ _ ⟨hlo, hk, hok, ?_⟩
      rw [hgj]
      congr 2
      refine rng_congr fun t ht => ?_
      by_cases c : t < i ∨ n - 1 - t < i
      · rw [if_pos c]
      · rw [if_neg c, show n - 1 - t = t by omega]
/-! ## The ways on, of the program -/
/-- How many waves go on with each number that is left, as the program reckons it. -/
def wayP (L A : List Int) (i : Nat) : Int := if L ≠ [] ∧ (decide (L.getD (L.length - 1) 0 < A.getD i 0) ≠ decide (L.length % 2 = 1)) then 0 else if L.length % 2 = 1 then (frm A.length (A.length - i) : Int) else (frm A.length (i + 1) : Int)
theorem eqB_tt : eqBF true (.bool true) (.bool true) = some (.bool false) := rfl
theorem eqB_ff : eqBF true (.bool false) (.bool false) = some (.bool false) := rfl
theorem eqB_tf : eqBF true (.bool true) (.bool false) = some (.bool true) := rfl
theorem eqB_ft : eqBF true (.bool false) (.bool true) = some (.bool true) := rfl
theorem waysOn_rets {X : Caller} (hX : Xok X) (L A : List Int) (hL : L.length ≤ 10) (hA : A.length ≤ 10) (s t : Value) (g : GH) (hs : SlR g s (ints L)) (ht : SlR g t (ints A)) :
    Rets Try.prog X 58 [s, t] g (fun v g' lo => g.next ≤ lo ∧ g'.ok ∧ ∃ j, v = .slice (some ⟨j, 0, none⟩) A.length A.length ∧ g.next ≤ j ∧ j < g'.next ∧ g'.get j = cellsOb (ints (rng A.length (wayP L A))) 3) := by
  refine Rets.run hX.pres p58 (hX.free 58 (by decide) _ _) rfl fun ho => ?_
  have hl := hs.len
  rw [ints_len] at hl
  have hm := ht.len
  rw [ints_len] at hm
  simp +decide (disch := first | assumption | (apply GH.ok_push; assumption) | exact cellV_int _ _ | exact cellV_bool _ | omega) only [go_sem, ↓reduceIte, Nat.reduceEqDiff, Nat.reduceAdd, Int.reduceToNat, hm]
  refine CallD.calm (firsts_rets hX A.length hA g) ?_
  rintro v G hx ⟨hokG, j, rfl, hj1, hj2, hgj⟩
  have hnG := hx.next
  have hs1 := hs.ext hx
  have ht1 := ht.ext hx
  have htm : (L.length : Int).tmod 2 = ((L.length % 2 : Nat) : Int) := rfl
  by_cases up : L.length % 2 = 1
  · rw [up] at htm
    simp +decide (disch := first | assumption | (apply GH.ok_push; assumption) | exact cellV_int _ _ | exact cellV_bool _ | omega) only [go_sem, ↓reduceIte, Nat.reduceEqDiff, Nat.reduceAdd, Int.reduceToNat, hl, htm, up]
    refine CallD.call (reverse_rets hX A.length hA (fun k => (frm A.length (k + 1) : Int)) j G hj2 hgj) ?_
    rintro v G2 lo2 hx2 ⟨h1, hk2, hokE, hgE⟩
    have hn2 := hk2.next
    have hkg : Kept g G2 := Kept.keptJ hx.kept hk2 hj1
    have hjE : j < G2.next := by omega
    have hrev : rng A.length (fun i => (frm A.length (A.length - 1 - i + 1) : Int)) = rng A.length (fun q => (frm A.length (A.length - q) : Int)) := rng_congr fun q hq => by rw [show A.length - 1 - q + 1 = A.length - q by omega]
    rw [hrev] at hgE
    simp +decide (disch := first | assumption | (apply GH.ok_push; assumption) | exact cellV_int _ _ | exact cellV_bool _ | omega) only [go_sem, ↓reduceIte, Nat.reduceEqDiff, Nat.reduceAdd, Int.reduceToNat, hm]
    have hbase : ∀ q, wayP L A q = if L ≠ [] ∧ (decide (L.getD (L.length - 1) 0 < A.getD q 0) ≠ true) then 0 else (frm A.length (A.length - q) : Int) := by
      intro q
      unfold wayP
      rw [decide_eq_true up, if_pos up]
    refine Wk.loops (fun m e g' lo => g.next ≤ lo ∧ Kept g g' ∧ g'.ok ∧ j < g'.next ∧ ∃ i : Nat, i + m = A.length ∧ (ev e (.s 0) = s ∧ ev e (.s 5) = .slice (some ⟨j, 0, none⟩) A.length A.length ∧ ev e (.s 6) = .bool true ∧ ev e (.s 19) = t ∧ ev e (.s 20) = .int .i64 A.length ∧ ev e (.s 21) = .int .i64 i) ∧ g'.get j = cellsOb (ints (rng A.length (fun q => if q < i then wayP L A q else (frm A.length (A.length - q) : Int)))) 3)
      (fun e g' lo => g.next ≤ lo ∧ g'.ok ∧ j < g'.next ∧ ev e (.s 5) = .slice (some ⟨j, 0, none⟩) A.length A.length ∧ g'.get j = cellsOb (ints (rng A.length (wayP L A))) 3) (n := A.length) ?_ ?_ ?_
    · refine ⟨by omega, hkg, hokE, hjE, 0, by omega, (by simp +decide (disch := first | assumption | (apply GH.ok_push; assumption) | exact cellV_int _ _ | exact cellV_bool _ | omega) only [go_sem, ↓reduceIte, Nat.reduceEqDiff, Nat.reduceAdd, Int.reduceToNat, hm]; first | done | exact rfl), ?_⟩
      rw [hgE]
      have : rng A.length (fun q => (frm A.length (A.length - q) : Int)) = rng A.length (fun q => if q < 0 then wayP L A q else (frm A.length (A.length - q) : Int)) := rng_congr fun q _ => (if_neg (by omega)).symm
      rw [← this]
    · rintro e g' lo hog - ⟨hlo, hok, hjn, he, hgj'⟩
      simp +decide (disch := first | assumption | (apply GH.ok_push; assumption) | exact cellV_int _ _ | exact cellV_bool _ | omega) only [go_sem, ↓reduceIte, Nat.reduceEqDiff, Nat.reduceAdd, Int.reduceToNat, he]
      intro hx0
      exact ⟨hlo, hok, j, rfl, hj1, hjn, hgj'⟩
    · rintro m e g' lo ho' hl' ih out ⟨hlo, hk, hok, hjn, i, him, he, hgi⟩
      by_cases ci : i < A.length
      · obtain ⟨b1, o1, hb1, hp1, hp2⟩ := (ht.kept hk).ptr (ints_get (D := A) (i := i) ci)
        have hp1 := hp1 (i : Int) rfl
        have hstay : wayP L A i = (frm A.length (A.length - i) : Int) → g'.get j = cellsOb (ints (rng A.length (fun q => if q < i + 1 then wayP L A q else (frm A.length (A.length - q) : Int)))) 3 := by
          intro hw
          rw [hgi]
          congr 2
          refine rng_congr fun q hq => ?_
          by_cases c1 : q = i
          · subst c1
            rw [if_neg (by omega), if_pos (by omega), hw]
          · by_cases c2 : q < i
            · rw [if_pos c2, if_pos (by omega)]
            · rw [if_neg c2, if_neg (by omega)]
        have hbi := hbase i
        obtain ⟨x, hx1⟩ : ∃ x, A.getD i 0 = x := ⟨_, rfl⟩
        rw [hx1] at hp2 hbi
        by_cases l0 : L.length = 0
        · exact absurd up (by omega)
        · have hLn : L ≠ [] := fun h => l0 (by rw [h]; rfl)
          have l0' : (0 : Int) < (L.length : Int) := by omega
          obtain ⟨b2, o2, hb2, hq1, hq2⟩ := (hs.kept hk).ptr (ints_get (D := L) (i := L.length - 1) (by omega))
          have hq1 := hq1 ((L.length : Int) - 1) (by omega)
          obtain ⟨y, hy1⟩ : ∃ y, L.getD (L.length - 1) 0 = y := ⟨_, rfl⟩
          rw [hy1] at hq2 hbi
          have hia := iaddrS_at (j := j) (n := A.length) (c := A.length) (m := i) (x := (i : Int)) rfl ci
          have hlr : (ints (rng A.length (fun q => if q < i then wayP L A q else (frm A.length (A.length - q) : Int)))).length = A.length := by rw [ints_len, rng_len]
          have h1 : i + 1 ≤ A.length := by omega
          by_cases z : y < x
          · rw [decide_eq_true z] at hbi
            rw [if_neg (fun h => absurd rfl h.2)] at hbi
            have hg1 := hstay hbi
            simp +decide (disch := first | assumption | (apply GH.ok_push; assumption) | exact cellV_int _ _ | exact cellV_bool _ | omega) only [go_sem, ↓reduceIte, Nat.reduceEqDiff, Nat.reduceAdd, Int.reduceToNat, he, hl, hp1, hp2, hq1, hq2, l0', z, eqB_tt, eqB_ff, eqB_tf, eqB_ft]
            exact ih (m - 1) _ _ _ (by omega) ⟨hlo, hk, hok, hjn, i + 1, by omega, (by simp +decide (disch := first | assumption | (apply GH.ok_push; assumption) | exact cellV_int _ _ | exact cellV_bool _ | omega) only [go_sem, ↓reduceIte, Nat.reduceEqDiff, Nat.reduceAdd, Int.reduceToNat, he]; first | done | exact rfl), hg1⟩
          · rw [decide_eq_false z] at hbi
            rw [if_pos ⟨hLn, by decide⟩] at hbi
            simp +decide (disch := first | assumption | (apply GH.ok_push; assumption) | exact cellV_int _ _ | exact cellV_bool _ | omega) only [go_sem, ↓reduceIte, Nat.reduceEqDiff, Nat.reduceAdd, Int.reduceToNat, he, hl, hp1, hp2, hq1, hq2, l0', z, hia, hgi, hlr, h1, hjn, eqB_tt, eqB_ff, eqB_tf, eqB_ft]
            have hw := Wrote.set (o := cellsOb (splice i (ints (rng A.length (fun q => if q < i then wayP L A q else (frm A.length (A.length - q) : Int)))) [.int .i64 0]) 3) hgi Nat.one_ne_zero hok
            rw [splice_set _ _ _ (by rw [hlr]; omega), ints_set, rng_set] at hw ⊢
            have hnx2 := hw.next
            refine ih (m - 1) _ _ _ (by omega) ⟨by omega, hw.kept hk (by omega), hw.ok, by omega, i + 1, by omega, (by simp +decide (disch := first | assumption | (apply GH.ok_push; assumption) | exact cellV_int _ _ | exact cellV_bool _ | omega) only [go_sem, ↓reduceIte, Nat.reduceEqDiff, Nat.reduceAdd, Int.reduceToNat, he]; first | done | exact rfl), ?_⟩
            rw [hw.get]
            congr 2
            refine rng_congr fun q hq => ?_
            by_cases c1 : q = i
            · subst c1
              rw [if_pos rfl, if_pos (by omega), hbi]
            · rw [if_neg c1]
              by_cases c2 : q < i
              · rw [if_pos c2, if_pos (by omega)]
              · rw [if_neg c2, if_neg (by omega)]
      · simp +decide (disch := first | assumption | (apply GH.ok_push; assumption) | exact cellV_int _ _ | exact cellV_bool _ | omega) only [go_sem, ↓reduceIte, Nat.reduceEqDiff, Nat.reduceAdd, Int.reduceToNat, he]
        refine out _ _ _ ⟨hlo, hok, hjn, (by simp +decide (disch := first | assumption | (apply GH.ok_push; assumption) | exact cellV_int _ _ | exact cellV_bool _ | omega) only [go_sem, ↓reduceIte, Nat.reduceEqDiff, Nat.reduceAdd, Int.reduceToNat, he]; first | done | exact rfl), ?_⟩
        rw [hgi]
        congr 2
        exact rng_congr fun q hq => if_pos (by omega)
  · have up0 : L.length % 2 = 0 := by omega
    rw [up0] at htm
    have hkg := hx.kept
    have hokE := hokG
    have hgE := hgj
    have hjE := hj2
    simp +decide (disch := first | assumption | (apply GH.ok_push; assumption) | exact cellV_int _ _ | exact cellV_bool _ | omega) only [go_sem, ↓reduceIte, Nat.reduceEqDiff, Nat.reduceAdd, Int.reduceToNat, hl, htm, up, hm]
    have hbase : ∀ q, wayP L A q = if L ≠ [] ∧ (decide (L.getD (L.length - 1) 0 < A.getD q 0) ≠ false) then 0 else (frm A.length (q + 1) : Int) := by
      intro q
      unfold wayP
      rw [decide_eq_false up, if_neg up]
    refine Wk.loops (fun m e g' lo => g.next ≤ lo ∧ Kept g g' ∧ g'.ok ∧ j < g'.next ∧ ∃ i : Nat, i + m = A.length ∧ (ev e (.s 0) = s ∧ ev e (.s 5) = .slice (some ⟨j, 0, none⟩) A.length A.length ∧ ev e (.s 6) = .bool false ∧ ev e (.s 19) = t ∧ ev e (.s 20) = .int .i64 A.length ∧ ev e (.s 21) = .int .i64 i) ∧ g'.get j = cellsOb (ints (rng A.length (fun q => if q < i then wayP L A q else (frm A.length (q + 1) : Int)))) 3)
      (fun e g' lo => g.next ≤ lo ∧ g'.ok ∧ j < g'.next ∧ ev e (.s 5) = .slice (some ⟨j, 0, none⟩) A.length A.length ∧ g'.get j = cellsOb (ints (rng A.length (wayP L A))) 3) (n := A.length) ?_ ?_ ?_
    · refine ⟨by omega, hkg, hokE, hjE, 0, by omega, (by simp +decide (disch := first | assumption | (apply GH.ok_push; assumption) | exact cellV_int _ _ | exact cellV_bool _ | omega) only [go_sem, ↓reduceIte, Nat.reduceEqDiff, Nat.reduceAdd, Int.reduceToNat, hm]; first | done | exact rfl), ?_⟩
      rw [hgE]
      have : rng A.length (fun q => (frm A.length (q + 1) : Int)) = rng A.length (fun q => if q < 0 then wayP L A q else (frm A.length (q + 1) : Int)) := rng_congr fun q _ => (if_neg (by omega)).symm
      rw [← this]
    · rintro e g' lo hog - ⟨hlo, hok, hjn, he, hgj'⟩
      simp +decide (disch := first | assumption | (apply GH.ok_push; assumption) | exact cellV_int _ _ | exact cellV_bool _ | omega) only [go_sem, ↓reduceIte, Nat.reduceEqDiff, Nat.reduceAdd, Int.reduceToNat, he]
      intro hx0
      exact ⟨hlo, hok, j, rfl, hj1, hjn, hgj'⟩
    · rintro m e g' lo ho' hl' ih out ⟨hlo, hk, hok, hjn, i, him, he, hgi⟩
      by_cases ci : i < A.length
      · obtain ⟨b1, o1, hb1, hp1, hp2⟩ := (ht.kept hk).ptr (ints_get (D := A) (i := i) ci)
        have hp1 := hp1 (i : Int) rfl
        have hstay : wayP L A i = (frm A.length (i + 1) : Int) → g'.get j = cellsOb (ints (rng A.length (fun q => if q < i + 1 then wayP L A q else (frm A.length (q + 1) : Int)))) 3 := by
          intro hw
          rw [hgi]
          congr 2
          refine rng_congr fun q hq => ?_
          by_cases c1 : q = i
          · subst c1
            rw [if_neg (by omega), if_pos (by omega), hw]
          · by_cases c2 : q < i
            · rw [if_pos c2, if_pos (by omega)]
            · rw [if_neg c2, if_neg (by omega)]
        have hbi := hbase i
        obtain ⟨x, hx1⟩ : ∃ x, A.getD i 0 = x := ⟨_, rfl⟩
        rw [hx1] at hp2 hbi
        by_cases l0 : L.length = 0
        · have hL0 : L = [] := List.eq_nil_of_length_eq_zero l0
          have hl0 : lenLF s = some (.int .i64 0) := by rw [hl, l0]; rfl
          rw [if_neg (fun h => h.1 hL0)] at hbi
          have hg1 := hstay hbi
          simp +decide (disch := first | assumption | (apply GH.ok_push; assumption) | exact cellV_int _ _ | exact cellV_bool _ | omega) only [go_sem, ↓reduceIte, Nat.reduceEqDiff, Nat.reduceAdd, Int.reduceToNat, he, hl0, hp1, hp2]
          exact ih (m - 1) _ _ _ (by omega) ⟨hlo, hk, hok, hjn, i + 1, by omega, (by simp +decide (disch := first | assumption | (apply GH.ok_push; assumption) | exact cellV_int _ _ | exact cellV_bool _ | omega) only [go_sem, ↓reduceIte, Nat.reduceEqDiff, Nat.reduceAdd, Int.reduceToNat, he]; first | done | exact rfl), hg1⟩
        · have hLn : L ≠ [] := fun h => l0 (by rw [h]; rfl)
          have l0' : (0 : Int) < (L.length : Int) := by omega
          obtain ⟨b2, o2, hb2, hq1, hq2⟩ := (hs.kept hk).ptr (ints_get (D := L) (i := L.length - 1) (by omega))
          have hq1 := hq1 ((L.length : Int) - 1) (by omega)
          obtain ⟨y, hy1⟩ : ∃ y, L.getD (L.length - 1) 0 = y := ⟨_, rfl⟩
          rw [hy1] at hq2 hbi
          have hia := iaddrS_at (j := j) (n := A.length) (c := A.length) (m := i) (x := (i : Int)) rfl ci
          have hlr : (ints (rng A.length (fun q => if q < i then wayP L A q else (frm A.length (q + 1) : Int)))).length = A.length := by rw [ints_len, rng_len]
          have h1 : i + 1 ≤ A.length := by omega
          by_cases z : y < x
          · rw [decide_eq_true z] at hbi
            rw [if_pos ⟨hLn, by decide⟩] at hbi
            simp +decide (disch := first | assumption | (apply GH.ok_push; assumption) | exact cellV_int _ _ | exact cellV_bool _ | omega) only [go_sem, ↓reduceIte, Nat.reduceEqDiff, Nat.reduceAdd, Int.reduceToNat, he, hl, hp1, hp2, hq1, hq2, l0', z, hia, hgi, hlr, h1, hjn, eqB_tt, eqB_ff, eqB_tf, eqB_ft]
            have hw := Wrote.set (o := cellsOb (splice i (ints (rng A.length (fun q => if q < i then wayP L A q else (frm A.length (q + 1) : Int)))) [.int .i64 0]) 3) hgi Nat.one_ne_zero hok
            rw [splice_set _ _ _ (by rw [hlr]; omega), ints_set, rng_set] at hw ⊢
            have hnx2 := hw.next
            refine ih (m - 1) _ _ _ (by omega) ⟨by omega, hw.kept hk (by omega), hw.ok, by omega, i + 1, by omega, (by simp +decide (disch := first | assumption | (apply GH.ok_push; assumption) | exact cellV_int _ _ | exact cellV_bool _ | omega) only [go_sem, ↓reduceIte, Nat.reduceEqDiff, Nat.reduceAdd, Int.reduceToNat, he]; first | done | exact rfl), ?_⟩
            rw [hw.get]
            congr 2
            refine rng_congr fun q hq => ?_
            by_cases c1 : q = i
            · subst c1
              rw [if_pos rfl, if_pos (by omega), hbi]
            · rw [if_neg c1]
              by_cases c2 : q < i
              · rw [if_pos c2, if_pos (by omega)]
              · rw [if_neg c2, if_neg (by omega)]
          · rw [decide_eq_false z] at hbi
            rw [if_neg (fun h => absurd rfl h.2)] at hbi
            have hg1 := hstay hbi
            simp +decide (disch := first | assumption | (apply GH.ok_push; assumption) | exact cellV_int _ _ | exact cellV_bool _ | omega) only [go_sem, ↓reduceIte, Nat.reduceEqDiff, Nat.reduceAdd, Int.reduceToNat, he, hl, hp1, hp2, hq1, hq2, l0', z, eqB_tt, eqB_ff, eqB_tf, eqB_ft]
            exact ih (m - 1) _ _ _ (by omega) ⟨hlo, hk, hok, hjn, i + 1, by omega, (by simp +decide (disch := first | assumption | (apply GH.ok_push; assumption) | exact cellV_int _ _ | exact cellV_bool _ | omega) only [go_sem, ↓reduceIte, Nat.reduceEqDiff, Nat.reduceAdd, Int.reduceToNat, he]; first | done | exact rfl), hg1⟩
      · simp +decide (disch := first | assumption | (apply GH.ok_push; assumption) | exact cellV_int _ _ | exact cellV_bool _ | omega) only [go_sem, ↓reduceIte, Nat.reduceEqDiff, Nat.reduceAdd, Int.reduceToNat, he]
        refine out _ _ _ ⟨hlo, hok, hjn, (by simp +decide (disch := first | assumption | (apply GH.ok_push; assumption) | exact cellV_int _ _ | exact cellV_bool _ | omega) only [go_sem, ↓reduceIte, Nat.reduceEqDiff, Nat.reduceAdd, Int.reduceToNat, he]; first | done | exact rfl), ?_⟩
        rw [hgi]
        congr 2
        exact rng_congr fun q hq => if_pos (by omega)
end Go.Proofs.Yteeelcmnlomgmaa
set_option maxRecDepth 100000
set_option maxHeartbeats 4000000
set_option linter.unusedSimpArgs false
set_option linter.unusedVariables false
namespace Go.Proofs.Yteeelcmnlomgmaa
open Go.Ds
/-- The program's ways on and the specification's. -/
theorem wayP_wayV {L A : List Int} (hL : refTurnL true L = true) {i : Nat} (hl : L ≠ [] → A.getD i 0 ≠ L.getD (L.length - 1) 0) : wayP L A i = (wayV L A i : Int) := by
  by_cases c : L = []
  · subst c
    unfold wayP wayV
    rw [if_neg (fun h => h.1 rfl), if_neg (by decide), if_pos (show refTurnL true ([] ++ [A.getD i 0]) = true from rfl), if_pos (show ([] : List Int).length % 2 = 0 from rfl)]
  · obtain ⟨P, l, rfl⟩ : ∃ P l, L = P ++ [l] := ⟨L.dropLast, L.getLast c, (List.dropLast_concat_getLast c).symm⟩
    have hg : (P ++ [l]).getD ((P ++ [l]).length - 1) 0 = l := by
      rw [List.getD_eq_getElem?_getD]; simp
    have hne := hl c
    rw [hg] at hne
    have happ := refTurnL_app P true l (A.getD i 0)
    rw [hL, Bool.true_and] at happ
    have hlen : (P ++ [l]).length = P.length + 1 := by simp
    have hcat : P ++ [l] ++ [A.getD i 0] = P ++ [l, A.getD i 0] := by simp
    obtain ⟨x, hx⟩ : ∃ x, A.getD i 0 = x := ⟨_, rfl⟩
    unfold wayP wayV
    rw [hg, hcat, happ, hlen, hx]
    rw [hx] at hne
    by_cases e : P.length % 2 = 0
    · rw [if_pos e, if_pos rfl]
      by_cases z : l < x
      · rw [decide_eq_true z, if_neg (fun h => h.2 (by rw [decide_eq_true (by omega)])), if_pos (by omega), if_pos rfl, if_neg (by omega)]
      · rw [decide_eq_false z, if_pos ⟨c, by rw [decide_eq_true (by omega)]; decide⟩, if_neg (by decide)]; rfl
    · have hf : (if P.length % 2 = 0 then true else !true) = false := by rw [if_neg e]; rfl
      rw [hf, if_neg (show ¬ (false = true) by decide)]
      by_cases z : l < x
      · rw [decide_eq_true z, if_pos ⟨c, by rw [decide_eq_false (by omega)]; decide⟩, decide_eq_false (show ¬ x < l by omega), if_neg (by decide)]; rfl
      · rw [decide_eq_false z, if_neg (fun h => h.2 (by rw [decide_eq_false (by omega)])), decide_eq_true (show x < l by omega), if_neg (by omega), if_pos rfl, if_pos (by omega)]
end Go.Proofs.Yteeelcmnlomgmaa
set_option maxRecDepth 100000
set_option maxHeartbeats 8000000
set_option linter.unusedSimpArgs false
set_option linter.unusedVariables false
namespace Go.Proofs.Yteeelcmnlomgmaa
open Go.Ds
/-! ## A list that was appended, with numbers taken out -/
/-- What lies below a base, and what lies from a bound on, is as it was. -/
structure Mid (g g' : GH) (base top : Nat) : Prop where
  next : g'.next = g.next
  gets : ∀ q, q < base ∨ top ≤ q → g'.get q = g.get q
  fams : ∀ f, f < base ∨ top ≤ f → g'.fams f = g.fams f
theorem Mid.of {g g' : GH} {fam top base : Nat} (h : Inside g g' fam top) (h1 : base ≤ fam) (h2 : fam < top) : Mid g g' base top :=
  ⟨h.next, fun q hq => h.gets q (by omega), fun f hf => h.fams f (by omega)⟩
theorem Mid.own {g g' : GH} {s : Value} {vs : List Value} {t : TypeId} {base top : Nat} (h : Mid g g' base top) (ho : Own g s vs t top) : Own g' s vs t top := by
  rcases ho with h1 | ⟨j, fam, h1, h2, h3, h4, h5, h6, h7⟩
  · exact .inl h1
  · exact .inr ⟨j, fam, h1, by rw [h.next]; exact h2, (h.gets j (by omega)).trans h3, h4, h5, h6, by rw [h.fams fam (by omega)]; exact h7⟩
def LeftR (g : GH) (v : Value) (A : List Int) (base top : Nat) : Prop :=
  ∃ (j fam : Nat) (cells : List Value), v = .slice (some ⟨j, 0, none⟩) A.length (OPEN + 1) ∧ j < g.next ∧ g.get j = slackOb cells 3 fam ∧ A.length ≤ cells.length ∧ cells.take A.length = ints A ∧ base ≤ fam ∧ fam ≤ j ∧ j < top ∧ ∀ z ∈ g.fams fam, fam ≤ z.1 ∧ z.1 < top
theorem LeftR.read {g : GH} {v : Value} {A : List Int} {base top : Nat} (h : LeftR g v A base top) : SlR g v (ints A) := by
  obtain ⟨j, fam, cells, rfl, h2, h3, h4, h5, _⟩ := h
  exact .inr ⟨j, 0, OPEN + 1, _, by rw [ints_len], h2, h3, .inl rfl, by rw [ints_len, Nat.zero_add]; exact h4, by rw [ints_len]; exact h5⟩
theorem open_slcM {j i n : Nat} (hi : i < n) (hn : n ≤ 10) : ∃ u, slcMF 1 (.slice (some ⟨j, 0, none⟩) n (OPEN + 1)) (some (.int .i64 (i : Int))) (.int .i64 ((i : Int) + 1)) (.int .i64 (n : Int)) = some u := by
  have e : ((i : Int) + 1) = ((i + 1 : Nat) : Int) := by push_cast; rfl
  rw [e]
  unfold slcMF
  rw [show lowF (some (Value.int .i64 (i : Int))) = some i from rfl]
  show ∃ u, (bif (Nat.beq (OPEN + 1) (OPEN + 1) && Nat.blt 0 n && Nat.ble n n || Nat.blt (OPEN + 1) OPEN && Nat.ble n (OPEN + 1)) && Nat.ble i (i + 1) && Nat.ble (i + 1) n && Nat.blt n OPEN then some _ else none) = some u
  have a1 : Nat.blt 0 n = true := by rw [Nat.blt_eq]; omega
  have a2 : Nat.ble n n = true := Nat.ble_self_eq_true _
  have a3 : Nat.ble i (i + 1) = true := Nat.ble_eq_true_of_le (by omega)
  have a4 : Nat.ble (i + 1) n = true := Nat.ble_eq_true_of_le hi
  have a5 : Nat.blt n OPEN = true := by rw [Nat.blt_eq]; unfold OPEN; omega
  rw [a1, a2, a3, a4, a5, Nat.beq_refl]
  exact ⟨_, rfl⟩
theorem open_pre {j i n : Nat} (hi : i ≤ n) : slcLF 1 (.slice (some ⟨j, 0, none⟩) n (OPEN + 1)) none (some (.int .i64 (i : Int))) = some (.slice (some ⟨j, 0, none⟩) i (OPEN + 1)) := by
  unfold slcLF
  show (bif Nat.beq (OPEN + 1) (OPEN + 1) then bif Nat.ble 0 i && Nat.ble i n then some _ else none else _) = _
  rw [Nat.beq_refl, show Nat.ble 0 i = true from Nat.ble_eq_true_of_le (by omega), show Nat.ble i n = true from Nat.ble_eq_true_of_le hi]
  rfl
theorem open_suf {j i n : Nat} (hi : i + 1 ≤ n) : slcLF 1 (.slice (some ⟨j, 0, none⟩) n (OPEN + 1)) (some (.int .i64 ((i : Int) + 1))) none = some (.slice (some ⟨j, i + 1, none⟩) (n - (i + 1)) (OPEN + 1)) := by
  have e : ((i : Int) + 1) = ((i + 1 : Nat) : Int) := by push_cast; rfl
  rw [e]
  unfold slcLF
  show (bif Nat.beq (OPEN + 1) (OPEN + 1) then bif Nat.ble (i + 1) n && Nat.ble n n then some (Value.slice (some ((⟨j, 0, none⟩ : Addr).add ((i + 1) * 1))) (n - (i + 1)) (OPEN + 1)) else none else _) = _
  rw [Nat.beq_refl, show Nat.ble (i + 1) n = true from Nat.ble_eq_true_of_le hi, show Nat.ble n n = true from Nat.ble_self_eq_true _, addr_add, Nat.mul_one, Nat.zero_add]
  rfl
theorem delete_rets {X : Caller} (hX : Xok X) (A : List Int) (hA : A.length ≤ 10) (i : Nat) (hi : i < A.length) (base top : Nat) (v : Value) (g : GH) (hb : base ≤ g.next) (hr : LeftR g v A base top) :
    Rets Try.prog X 72 [v, .int .i64 i, .int .i64 ((i : Int) + 1)] g (fun v' g' lo => base ≤ lo ∧ g'.ok ∧ Mid g g' base top ∧ LeftR g' v' (A.eraseIdx i) base top) := by
  obtain ⟨j, fam, cells, rfl, h2, h3, h4, h5, h6, h7, h9, h8⟩ := hr
  refine Rets.run hX.pres p72 (hX.free 72 (by decide) _ _) rfl fun ho => ?_
  obtain ⟨n, hn⟩ : ∃ n, A.length = n := ⟨_, rfl⟩
  rw [hn] at hA hi h4 h5 ⊢
  obtain ⟨u, hu⟩ := open_slcM (j := j) hi hA
  have hp := open_pre (j := j) (show i ≤ n by omega)
  have hq := open_suf (j := j) (show i + 1 ≤ n by omega)
  have hne : ¬ (i : Int) = (i : Int) + 1 := by omega
  have hel : (A.eraseIdx i).length = n - 1 := by rw [List.length_eraseIdx_of_lt (by omega), hn]
  have hnl : (ints (A.drop (i + 1))).length = n - (i + 1) := by rw [ints_len, List.length_drop, hn]
  have hnew : SlR g (.slice (some ⟨j, i + 1, none⟩) (n - (i + 1)) (OPEN + 1)) (ints (A.drop (i + 1))) := by
    refine .inr ⟨j, i + 1, OPEN + 1, _, by rw [hnl], h2, h3, .inl rfl, by rw [hnl]; show i + 1 + (n - (i + 1)) ≤ cells.length; omega, ?_⟩
    rw [hnl]
    show (cells.drop (i + 1)).take (n - (i + 1)) = _
    rw [← List.drop_take, h5]
    simp [ints, List.map_drop]
  have hcell : ∀ q, q < n → cells[q]? = (ints A)[q]? := by
    intro q hq
    rw [← h5, List.getElem?_take, if_pos hq]
  have her : ∀ q, (ints (A.eraseIdx i))[q]? = if q < i then (ints A)[q]? else (ints A)[q + 1]? := by
    intro q
    unfold ints
    rw [List.getElem?_map, List.getElem?_eraseIdx]
    split <;> rw [List.getElem?_map]
  simp +decide (disch := first | assumption | (apply GH.ok_push; assumption) | exact cellV_int _ _ | exact cellV_bool _ | omega) only [go_sem, ↓reduceIte, Nat.reduceEqDiff, Nat.reduceAdd, Int.reduceToNat, hu, hp, hq, hne]
  by_cases ce : i + 1 = n
  · have hnil : ints (A.drop (i + 1)) = [] := List.eq_nil_of_length_eq_zero (by rw [hnl]; omega)
    rw [hnil] at hnew
    have hsl : Value.slice (some ⟨j, 0, none⟩) i (OPEN + 1) = .slice (some ⟨j, 0, none⟩) (n - 1) (OPEN + 1) := by rw [show i = n - 1 by omega]
    rw [hsl]
    refine AppD.none hnew (by show (n - 1) * (8 + 1) ≤ 1073741824; omega) ?_
    obtain ⟨cells2, hc2⟩ : ∃ c, cells = c := ⟨_, rfl⟩
    have hg2 : g.get j = slackOb cells2 3 fam := by rw [← hc2]; exact h3
    have hj2 := h2
    have hf2 := h8
    have hok2 := ho
    have hlo2 : base ≤ g.next := hb
    have htk2 : cells2.take (n - 1) = ints (A.eraseIdx i) := by
      rw [← hc2]
      apply List.ext_getElem?
      intro q
      rw [her, List.getElem?_take]
      by_cases c1 : q < n - 1
      · rw [if_pos c1, if_pos (by omega), hcell q (by omega)]
      · rw [if_neg c1, if_neg (by omega), List.getElem?_eq_none (by rw [ints_len]; omega)]
    have hlen2 : cells2.length = cells.length := by rw [hc2]
    have hlL : ∀ (a : Addr) (c : Nat), lenLF (.slice (some a) (n - 1) c) = some (.int .i64 ((n - 1 : Nat) : Int)) := fun _ _ => rfl
    simp +decide (disch := first | assumption | (apply GH.ok_push; assumption) | exact cellV_int _ _ | exact cellV_bool _ | omega) only [go_sem, ↓reduceIte, Nat.reduceEqDiff, Nat.reduceAdd, Int.reduceToNat, hlL]
    refine Wk.slcH (j := j) (n := n - 1) (m := n) (cells := cells2) (t := 3) (fam := fam) (by simp +decide (disch := first | assumption | (apply GH.ok_push; assumption) | exact cellV_int _ _ | exact cellV_bool _ | omega) only [go_sem, ↓reduceIte, Nat.reduceEqDiff, Nat.reduceAdd, Int.reduceToNat]; first | done | exact rfl) (by simp +decide (disch := first | assumption | (apply GH.ok_push; assumption) | exact cellV_int _ _ | exact cellV_bool _ | omega) only [go_sem, ↓reduceIte, Nat.reduceEqDiff, Nat.reduceAdd, Int.reduceToNat, hlL]; first | done | exact rfl) (by simp +decide (disch := first | assumption | (apply GH.ok_push; assumption) | exact cellV_int _ _ | exact cellV_bool _ | omega) only [go_sem, ↓reduceIte, Nat.reduceEqDiff, Nat.reduceAdd, Int.reduceToNat]; first | done | exact rfl) (by omega) (by omega) hg2 hj2 ?_
    refine Wk.clr1 (z := .int .i64 0) (cells := cells2) (t := 3) (lw := base) (j := j) (i := n - 1) (c := OPEN + 1) (fam := fam) (top := top) (by rw [show n - (n - 1) = 1 by omega]; simp +decide (disch := first | assumption | (apply GH.ok_push; assumption) | exact cellV_int _ _ | exact cellV_bool _ | omega) only [go_sem, ↓reduceIte, Nat.reduceEqDiff, Nat.reduceAdd, Int.reduceToNat]; first | done | exact rfl) rfl hg2 hj2 (by omega) h9 h7 hf2 hok2 hlo2 h6 (fun g3 lo3 sp wr hw3 hg3 hj3 hf3 hlo3 => ?_)
    simp +decide (disch := first | assumption | (apply GH.ok_push; assumption) | exact cellV_int _ _ | exact cellV_bool _ | omega) only [go_sem, ↓reduceIte, Nat.reduceEqDiff, Nat.reduceAdd, Int.reduceToNat]
    intro hx0
    refine ⟨hlo3, hw3.ok, Mid.of hw3 h6 (by omega), j, fam, cells2.set (n - 1) (.int .i64 0), by rw [hel], hj3, hg3, by rw [hel, List.length_set]; omega, ?_, h6, h7, h9, hf3⟩
    rw [hel, List.take_set_of_le (by omega)]
    exact htk2
  · have hcne : ints (A.drop (i + 1)) ≠ [] := fun e => by rw [e] at hnl; simp at hnl; omega
    refine AppD.into (lw := base) (cells := cells) (top := top) hnew hcne (ints_cell _) (by rw [hnl]; omega) h3 h2 (by rw [hnl]; omega) h9 h7 h8 ho hb h6 (fun g2 lo2 sp wr hw2 hg2 hj2 hf2 hlo2 => ?_)
    have hok2 := hw2.ok
    rw [hnl, show i + (n - (i + 1)) = n - 1 by omega]
    obtain ⟨cells2, hc2⟩ : ∃ c, splice i cells (ints (A.drop (i + 1))) = c := ⟨_, rfl⟩
    rw [hc2] at hg2
    have htk2 : cells2.take (n - 1) = ints (A.eraseIdx i) := by
      rw [← hc2]
      apply List.ext_getElem?
      intro q
      rw [her, List.getElem?_take]
      by_cases c1 : q < n - 1
      · rw [if_pos c1, @splice_get ⟨⟨0⟩⟩ _ _ _ (by rw [hnl]; omega), hnl]
        by_cases c2 : q < i
        · rw [if_neg (by omega), if_pos c2, hcell q (by omega)]
        · rw [if_pos (by omega), if_neg c2]
          unfold ints
          rw [List.map_drop, List.getElem?_drop]
          congr 1
          omega
      · rw [if_neg c1]
        by_cases c2 : q < i
        · omega
        · rw [if_neg c2, List.getElem?_eq_none (by rw [ints_len]; omega)]
    have hlen2 : cells2.length = cells.length := by rw [← hc2]; exact @splice_len ⟨⟨0⟩⟩ _ _ _ (by rw [hnl]; omega)
    have hlL : ∀ (a : Addr) (c : Nat), lenLF (.slice (some a) (n - 1) c) = some (.int .i64 ((n - 1 : Nat) : Int)) := fun _ _ => rfl
    simp +decide (disch := first | assumption | (apply GH.ok_push; assumption) | exact cellV_int _ _ | exact cellV_bool _ | omega) only [go_sem, ↓reduceIte, Nat.reduceEqDiff, Nat.reduceAdd, Int.reduceToNat, hlL]
    refine Wk.slcH (j := j) (n := n - 1) (m := n) (cells := cells2) (t := 3) (fam := fam) (by simp +decide (disch := first | assumption | (apply GH.ok_push; assumption) | exact cellV_int _ _ | exact cellV_bool _ | omega) only [go_sem, ↓reduceIte, Nat.reduceEqDiff, Nat.reduceAdd, Int.reduceToNat]; first | done | exact rfl) (by simp +decide (disch := first | assumption | (apply GH.ok_push; assumption) | exact cellV_int _ _ | exact cellV_bool _ | omega) only [go_sem, ↓reduceIte, Nat.reduceEqDiff, Nat.reduceAdd, Int.reduceToNat, hlL]; first | done | exact rfl) (by simp +decide (disch := first | assumption | (apply GH.ok_push; assumption) | exact cellV_int _ _ | exact cellV_bool _ | omega) only [go_sem, ↓reduceIte, Nat.reduceEqDiff, Nat.reduceAdd, Int.reduceToNat]; first | done | exact rfl) (by omega) (by omega) hg2 hj2 ?_
    refine Wk.clr1 (z := .int .i64 0) (cells := cells2) (t := 3) (lw := base) (j := j) (i := n - 1) (c := OPEN + 1) (fam := fam) (top := top) (by rw [show n - (n - 1) = 1 by omega]; simp +decide (disch := first | assumption | (apply GH.ok_push; assumption) | exact cellV_int _ _ | exact cellV_bool _ | omega) only [go_sem, ↓reduceIte, Nat.reduceEqDiff, Nat.reduceAdd, Int.reduceToNat]; first | done | exact rfl) rfl hg2 hj2 (by omega) h9 h7 hf2 hok2 hlo2 h6 (fun g3 lo3 sp wr hw3 hg3 hj3 hf3 hlo3 => ?_)
    simp +decide (disch := first | assumption | (apply GH.ok_push; assumption) | exact cellV_int _ _ | exact cellV_bool _ | omega) only [go_sem, ↓reduceIte, Nat.reduceEqDiff, Nat.reduceAdd, Int.reduceToNat]
    intro hx0
    refine ⟨hlo3, hw3.ok, Mid.of (hw2.trans hw3) h6 (by omega), j, fam, cells2.set (n - 1) (.int .i64 0), by rw [hel], hj3, hg3, by rw [hel, List.length_set]; omega, ?_, h6, h7, h9, hf3⟩
    rw [hel, List.take_set_of_le (by omega)]
    exact htk2
end Go.Proofs.Yteeelcmnlomgmaa
set_option maxRecDepth 100000
set_option maxHeartbeats 8000000
set_option linter.unusedSimpArgs false
set_option linter.unusedVariables false
namespace Go.Proofs.Yteeelcmnlomgmaa
open Go.Ds
/-! ## A row that is laid, number by number -/
theorem OwnM.left {g : GH} {v : Value} {A : List Int} {base : Nat} (h : OwnM g v (ints A) 3 base) (hA : A ≠ []) : LeftR g v A base g.next := by
  rcases h with ⟨_, h⟩ | ⟨j, fam, h1, h2, h3, h4, h5, h6, h7⟩
  · exact absurd (by simpa [ints] using h) hA
  · exact ⟨j, fam, ints A, by rw [h1, ints_len], h2, h3, by rw [ints_len]; exact Nat.le_refl _, by rw [← ints_len A, List.take_length], h5, h6, h2, fun z hz => ⟨(h7 z hz).2.1, Nat.lt_of_le_of_lt (h7 z hz).2.2 h2⟩⟩
/-- What a callback leaves: what was made from a base on is as it was. -/
structure Above (g g' : GH) (base : Nat) : Prop where
  next : g.next ≤ g'.next
  gets : ∀ q, base ≤ q → q < g.next → g'.get q = g.get q
  fams : ∀ f, base ≤ f → f < g.next → g'.fams f = g.fams f
theorem Above.own {g g' : GH} {s : Value} {vs : List Value} {t : TypeId} {base b : Nat} (h : Above g g' base) (hb : base ≤ b) (ho : Own g s vs t b) : Own g' s vs t b := by
  rcases ho with h1 | ⟨j, fam, h1, h2, h3, h4, h5, h6, h7⟩
  · exact .inl h1
  · have := h.next
    exact .inr ⟨j, fam, h1, by omega, (h.gets j (by omega) h2).trans h3, h4, h5, h6, by rw [h.fams fam (by omega) (by omega)]; exact h7⟩
theorem Above.left {g g' : GH} {v : Value} {A : List Int} {base b top : Nat} (h : Above g g' base) (hb : base ≤ b) (hl : LeftR g v A b top) : LeftR g' v A b top := by
  obtain ⟨j, fam, cells, h1, h2, h3, h4, h5, h6, h7, h8, h9⟩ := hl
  have := h.next
  exact ⟨j, fam, cells, h1, by omega, (h.gets j (by omega) h2).trans h3, h4, h5, h6, h7, h8, by rw [h.fams fam (by omega) (by omega)]; exact h9⟩
theorem LeftR.kept {g g' : GH} {v : Value} {A : List Int} {base top : Nat} (hl : LeftR g v A base top) (h : Kept g g') : LeftR g' v A base top :=
  Above.left (base := base) ⟨h.next, fun q _ hq => h.gets q hq, fun f _ hf => h.fams f hf⟩ (Nat.le_refl _) hl
theorem LeftR.grew {g g' : GH} {v s' : Value} {A : List Int} {ws : List Value} {t : TypeId} {base top : Nat} (hl : LeftR g v A base top) (h : Grew2 g g' s' ws t top) : LeftR g' v A base top := by
  obtain ⟨j, fam, cells, h1, h2, h3, h4, h5, h6, h7, h8, h9⟩ := hl
  have := h.next
  exact ⟨j, fam, cells, h1, by omega, (h.gets j h2).trans h3, h4, h5, h6, h7, h8, by rw [h.fams fam (by omega)]; exact h9⟩
def numsL (k : Nat) : List Int := rng k (fun i => (i : Int) + 1)
theorem laid_rets {X : Caller} (hX : Xok X) (n : Nat) (hn : n ≤ 10) (f : FuncId) (caps : Array Value) (I : GH → List Int → List Int → Prop) (base lw : Nat) (hlw : lw ≤ base)
    (hstab : ∀ (g g' : GH) L A, I g L A → (∀ q, q < base → g'.get q = g.get q) → I g' L A)
    (hcall : ∀ (g : GH) (row left : Value) (L A : List Int), g.ok → base ≤ g.next → I g L A → A ≠ [] → L.length + A.length = n → SlR g row (ints L) → SlR g left (ints A) →
      Rets Try.prog X f ([row, left] ++ caps.toList) g (fun v g' lo => lw ≤ lo ∧ g'.ok ∧ Above g g' base ∧ ∃ i : Nat, i < A.length ∧ v = .int .i64 i ∧ I g' (L ++ [A.getD i 0]) (A.eraseIdx i)))
    (g : GH) (hb : base ≤ g.next) (hI : I g [] (numsL n)) :
    Rets Try.prog X 54 [.int .i64 n, .func (.func f) #[] caps] g (fun v g' lo => lw ≤ lo ∧ g'.ok ∧ Above g g' base ∧ ∃ W : List Int, W.length = n ∧ SlR g' v (ints W) ∧ I g' W []) := by
  refine Rets.run hX.pres p54 (hX.free 54 (by decide) _ _) rfl fun ho => ?_
  simp +decide (disch := first | assumption | (apply GH.ok_push; assumption) | exact cellV_int _ _ | exact cellV_bool _ | omega) only [go_sem, ↓reduceIte, Nat.reduceEqDiff, Nat.reduceAdd, Int.reduceToNat]
  refine Wk.loops (fun m e g' lo => lw ≤ lo ∧ Kept g g' ∧ g'.ok ∧ ∃ k : Nat, k + m = n ∧ (ev e (.s 1) = .func (.func f) #[] caps ∧ ev e (.s 5) = .slice none 0 0 ∧ ev e (.s 9) = .int .i64 n ∧ ev e (.s 10) = .int .i64 k) ∧ ∃ o, ev e (.s 6) = o ∧ OwnM g' o (ints (numsL k)) 3 g.next)
    (fun e g' lo => lw ≤ lo ∧ Kept g g' ∧ g'.ok ∧ (ev e (.s 1) = .func (.func f) #[] caps ∧ ev e (.s 5) = .slice none 0 0) ∧ ∃ o, ev e (.s 6) = o ∧ OwnM g' o (ints (numsL n)) 3 g.next) (n := n) ?_ ?_ ?_
  · exact ⟨by omega, Kept.refl _, ho, 0, by omega, (by simp +decide (disch := first | assumption | (apply GH.ok_push; assumption) | exact cellV_int _ _ | exact cellV_bool _ | omega) only [go_sem, ↓reduceIte, Nat.reduceEqDiff, Nat.reduceAdd, Int.reduceToNat]; first | done | exact rfl), .slice none 0 0, (by simp +decide (disch := first | assumption | (apply GH.ok_push; assumption) | exact cellV_int _ _ | exact cellV_bool _ | omega) only [go_sem, ↓reduceIte, Nat.reduceEqDiff, Nat.reduceAdd, Int.reduceToNat]; first | done | exact rfl), OwnM.nil⟩
  · rintro e g1 lo1 hog1 - ⟨hlo1, hk1, hok1, he1, o, h6, hown⟩
    have hn1 := hk1.next
    have hI1 := hstab g g1 _ _ hI (fun q hq => hk1.gets q (by omega))
    have hleft : (o = .slice none 0 0 ∧ numsL n = []) ∨ LeftR g1 o (numsL n) g.next g1.next := by
      by_cases c : numsL n = []
      · left
        rcases hown with ⟨h, _⟩ | ⟨j, fam, _, _, _, h, _⟩
        · exact ⟨h, c⟩
        · exact absurd (by rw [c]; rfl) h
      · exact .inr (OwnM.left hown c)
    have hnl : (numsL n).length = n := by simp [numsL, rng_len]
    simp +decide (disch := first | assumption | (apply GH.ok_push; assumption) | exact cellV_int _ _ | exact cellV_bool _ | omega) only [go_sem, ↓reduceIte, Nat.reduceEqDiff, Nat.reduceAdd, Int.reduceToNat, he1, h6]
    refine Wk.loops (fun m e g' lo => lw ≤ lo ∧ g'.ok ∧ Above g g' base ∧ g1.next ≤ g'.next ∧ ∃ (L A : List Int) (rv lv : Value), A.length = m ∧ L.length + A.length = n ∧ (ev e (.s 1) = .func (.func f) #[] caps ∧ ev e (.s 5) = rv ∧ ev e (.s 6) = lv) ∧ Own g' rv (ints L) 3 g1.next ∧ ((lv = .slice none 0 0 ∧ A = []) ∨ LeftR g' lv A g.next g1.next) ∧ I g' L A)
      (fun e g' lo => lw ≤ lo ∧ g'.ok ∧ Above g g' base ∧ ∃ (W : List Int) (rv : Value), W.length = n ∧ ev e (.s 5) = rv ∧ SlR g' rv (ints W) ∧ I g' W []) (n := n) ?_ ?_ ?_
    · exact ⟨hlo1, hok1, ⟨hn1, fun q _ hq => hk1.gets q hq, fun f _ hf => hk1.fams f hf⟩, Nat.le_refl _, [], numsL n, .slice none 0 0, o, hnl, by rw [hnl]; simp, (by simp +decide (disch := first | assumption | (apply GH.ok_push; assumption) | exact cellV_int _ _ | exact cellV_bool _ | omega) only [go_sem, ↓reduceIte, Nat.reduceEqDiff, Nat.reduceAdd, Int.reduceToNat, he1, h6]; first | done | exact rfl), Own.nil, hleft, hI1⟩
    · rintro e g' lo hog - ⟨hlo, hok, hab, W, rv, hW, h5, hs, hIW⟩
      simp +decide (disch := first | assumption | (apply GH.ok_push; assumption) | exact cellV_int _ _ | exact cellV_bool _ | omega) only [go_sem, ↓reduceIte, Nat.reduceEqDiff, Nat.reduceAdd, Int.reduceToNat, h5]
      intro hx0
      exact ⟨hlo, hok, hab, W, hW, hs, hIW⟩
    · rintro m e g' lo ho' hl' ih out ⟨hlo, hok, hab, hg1n, L, A, rv, lv, hAm, hLA, he, hrow, hleft2, hIA⟩
      rcases hleft2 with ⟨rfl, rfl⟩ | hLR
      · have hl0 : lenLF (.slice none 0 0) = some (.int .i64 0) := rfl
        simp +decide (disch := first | assumption | (apply GH.ok_push; assumption) | exact cellV_int _ _ | exact cellV_bool _ | omega) only [go_sem, ↓reduceIte, Nat.reduceEqDiff, Nat.reduceAdd, Int.reduceToNat, he, hl0]
        exact out _ _ _ ⟨hlo, hok, hab, L, rv, by simpa using hLA, (by simp +decide (disch := first | assumption | (apply GH.ok_push; assumption) | exact cellV_int _ _ | exact cellV_bool _ | omega) only [go_sem, ↓reduceIte, Nat.reduceEqDiff, Nat.reduceAdd, Int.reduceToNat, he]; first | done | exact rfl), hrow.read, hIA⟩
      · have hll := hLR.read.len
        rw [ints_len] at hll
        by_cases cA : A = []
        · subst cA
          have hl0 : lenLF lv = some (.int .i64 0) := hll
          simp +decide (disch := first | assumption | (apply GH.ok_push; assumption) | exact cellV_int _ _ | exact cellV_bool _ | omega) only [go_sem, ↓reduceIte, Nat.reduceEqDiff, Nat.reduceAdd, Int.reduceToNat, he, hl0]
          exact out _ _ _ ⟨hlo, hok, hab, L, rv, by simpa using hLA, (by simp +decide (disch := first | assumption | (apply GH.ok_push; assumption) | exact cellV_int _ _ | exact cellV_bool _ | omega) only [go_sem, ↓reduceIte, Nat.reduceEqDiff, Nat.reduceAdd, Int.reduceToNat, he]; first | done | exact rfl), hrow.read, hIA⟩
        · have hpos : (0 : Int) < (A.length : Int) := by have := List.length_pos_iff.2 cA; omega
          have habn := hab.next
          simp +decide (disch := first | assumption | (apply GH.ok_push; assumption) | exact cellV_int _ _ | exact cellV_bool _ | omega) only [go_sem, ↓reduceIte, Nat.reduceEqDiff, Nat.reduceAdd, Int.reduceToNat, he, hll, hpos]
          refine CallV.go rfl (hcall g' rv lv L A hok (by omega) hIA cA hLA hrow.read hLR.read) ?_
          rintro v g2 lo2 wr hx2 ⟨hlo2, hok2, hab2, i, hi, rfl, hI2⟩
          have hn2 := hab2.next
          have hrow2 := hab2.own (by omega) hrow
          have hLR2 := Above.left hab2 hb hLR
          obtain ⟨b1, o1, hb1, hp1, hp2⟩ := hLR2.read.ptr (ints_get (D := A) (i := i) hi)
          have hp1 := hp1 (i : Int) rfl
          obtain ⟨x, hx⟩ : ∃ x, A.getD i 0 = x := ⟨_, rfl⟩
          rw [hx] at hp2 hI2
          simp +decide (disch := first | assumption | (apply GH.ok_push; assumption) | exact cellV_int _ _ | exact cellV_bool _ | omega) only [go_sem, ↓reduceIte, Nat.reduceEqDiff, Nat.reduceAdd, Int.reduceToNat, he, hp1, hp2]
          refine AppD.own2 (lw := lw) (hrow2.push hok2 _) (SlR.one hok2 _ _) (by simp) rfl (by rw [ints_len]; simp; omega) (by simp [GH.push]; omega) (by omega) (by omega) (GH.ok_push hok2) (fun s' g3 lo3 sp wr hgr hlo3 => ?_)
          have hkp := (Kept.refl g2).push hok2 (cellsOb [Value.int .i64 x] 3)
          have hn3 := hgr.next
          have hLR3 := LeftR.grew (LeftR.kept hLR2 hkp) hgr
          have hI3 := hstab g2 g3 _ _ hI2 (fun q hq => (hgr.gets q (by show q < g2.next + 1; omega)).trans (hkp.gets q (by omega)))
          have hrow3 : Own g3 s' (ints (L ++ [x])) 3 g1.next := by have := hgr.own; rw [ints_app]; exact this
          simp +decide (disch := first | assumption | (apply GH.ok_push; assumption) | exact cellV_int _ _ | exact cellV_bool _ | omega) only [go_sem, ↓reduceIte, Nat.reduceEqDiff, Nat.reduceAdd, Int.reduceToNat, he]
          refine CallD.call (delete_rets hX A (by omega) i hi g.next g1.next lv g3 (by have : g3.next = g2.next + 1 + 1 := hn3; omega) hLR3) ?_
          rintro v2 g4 lo4 hx4 ⟨hlo4, hok4, hmid, hLR4⟩
          have hn4 := hmid.next
          simp +decide (disch := first | assumption | (apply GH.ok_push; assumption) | exact cellV_int _ _ | exact cellV_bool _ | omega) only [go_sem, ↓reduceIte, Nat.reduceEqDiff, Nat.reduceAdd, Int.reduceToNat, he]
          have hAe : (A.eraseIdx i).length = A.length - 1 := List.length_eraseIdx_of_lt hi
          refine ih (m - 1) _ _ _ (by omega) ⟨by omega, hok4, ?_, by have : g3.next = g2.next + 1 + 1 := hn3; omega, L ++ [x], A.eraseIdx i, s', v2, by omega, by rw [hAe]; simp; omega, (by simp +decide (disch := first | assumption | (apply GH.ok_push; assumption) | exact cellV_int _ _ | exact cellV_bool _ | omega) only [go_sem, ↓reduceIte, Nat.reduceEqDiff, Nat.reduceAdd, Int.reduceToNat, he]; first | done | exact rfl), hmid.own hrow3, .inr hLR4, hstab g3 g4 _ _ hI3 (fun q hq => hmid.gets q (.inl (by omega)))⟩
          have e3 : g3.next = g2.next + 1 + 1 := hn3
          refine ⟨by omega, fun q h1 h2 => ?_, fun q h1 h2 => ?_⟩
          · rw [hmid.gets q (.inl h2), hgr.gets q (by show q < g2.next + 1; omega), hkp.gets q (by omega), hab2.gets q h1 (by omega), hab.gets q h1 h2]
          · rw [hmid.fams q (.inl h2), hgr.fams q (by omega), hkp.fams q (by omega), hab2.fams q h1 (by omega), hab.fams q h1 h2]
  · rintro m e g' lo ho' hl' ih out ⟨hlo, hk, hok, k, hkm, he, o, h6, hown⟩
    have hgn := hk.next
    by_cases ck : k < n
    · simp +decide (disch := first | assumption | (apply GH.ok_push; assumption) | exact cellV_int _ _ | exact cellV_bool _ | omega) only [go_sem, ↓reduceIte, Nat.reduceEqDiff, Nat.reduceAdd, Int.reduceToNat, he, h6]
      refine AppD.ownM (lw := lw) (hown.kept ((Kept.refl g').push ho' _)) (SlR.one ho' _ _) (by simp) rfl (by rw [ints_len]; simp [numsL, rng_len]; omega) (by simp [GH.push]; omega) hlo (by omega) (GH.ok_push ho') (fun s' g2 lo2 sp wr hgr hlo2 => ?_)
      have hk2 := (hk.push ho' (cellsOb [Value.int .i64 ((k : Int) + 1)] 3)).grewM hgr (Nat.le_refl _)
      simp +decide (disch := first | assumption | (apply GH.ok_push; assumption) | exact cellV_int _ _ | exact cellV_bool _ | omega) only [go_sem, ↓reduceIte, Nat.reduceEqDiff, Nat.reduceAdd, Int.reduceToNat, he]
      refine ih (m - 1) _ _ _ (by omega) ⟨hlo2, hk2, hgr.ok, k + 1, by omega, (by simp +decide (disch := first | assumption | (apply GH.ok_push; assumption) | exact cellV_int _ _ | exact cellV_bool _ | omega) only [go_sem, ↓reduceIte, Nat.reduceEqDiff, Nat.reduceAdd, Int.reduceToNat, he]; first | done | exact rfl), s', (by simp +decide (disch := first | assumption | (apply GH.ok_push; assumption) | exact cellV_int _ _ | exact cellV_bool _ | omega) only [go_sem, ↓reduceIte, Nat.reduceEqDiff, Nat.reduceAdd, Int.reduceToNat]; first | done | exact rfl), ?_⟩
      have := hgr.own
      have e2 : numsL (k + 1) = numsL k ++ [(k : Int) + 1] := by simp [numsL, rng, List.range_succ]
      rw [e2, ints_app]
      exact this
    · have : k = n := by omega
      subst this
      simp +decide (disch := first | assumption | (apply GH.ok_push; assumption) | exact cellV_int _ _ | exact cellV_bool _ | omega) only [go_sem, ↓reduceIte, Nat.reduceEqDiff, Nat.reduceAdd, Int.reduceToNat, he, h6]
      exact out _ _ _ ⟨hlo, hk, hok, (by simp +decide (disch := first | assumption | (apply GH.ok_push; assumption) | exact cellV_int _ _ | exact cellV_bool _ | omega) only [go_sem, ↓reduceIte, Nat.reduceEqDiff, Nat.reduceAdd, Int.reduceToNat, he]; first | done | exact rfl), o, (by simp +decide (disch := first | assumption | (apply GH.ok_push; assumption) | exact cellV_int _ _ | exact cellV_bool _ | omega) only [go_sem, ↓reduceIte, Nat.reduceEqDiff, Nat.reduceAdd, Int.reduceToNat, h6]; first | done | exact rfl), hown⟩
end Go.Proofs.Yteeelcmnlomgmaa
set_option maxRecDepth 100000
set_option maxHeartbeats 8000000
set_option linter.unusedSimpArgs false
set_option linter.unusedVariables false
namespace Go.Proofs.Yteeelcmnlomgmaa
open Go.Ds
/-- The callback of At: which number comes next, and what is left of the rank. -/
theorem pickAt_rets {X : Caller} (hX : Xok X) (L A : List Int) (hL : L.length ≤ 10) (hA : A.length ≤ 10) (wN : Nat → Nat) (hwN : ∀ i, i < A.length → wayP L A i = (wN i : Int)) (r i0 : Nat) (hr : r ≤ 1000000000000) (hi0 : i0 < A.length) (h1 : sumTo wN i0 ≤ r) (h2 : r < sumTo wN (i0 + 1))
    (row left : Value) (B : Nat) (g : GH) (hB : B < g.next) (hget : g.get B = cellsOb [.int .i64 (r : Int)] 3) (hs : SlR g row (ints L)) (ht : SlR g left (ints A)) :
    Rets Try.prog X 60 [row, left, .pointer (some ⟨B, 0, none⟩)] g (fun v g' lo => B ≤ lo ∧ g'.ok ∧ KeptJ g g' B ∧ v = .int .i64 i0 ∧ g'.get B = cellsOb [.int .i64 ((r - sumTo wN i0 : Nat) : Int)] 3) := by
  refine Rets.run hX.pres p60 (hX.free 60 (by decide) _ _) rfl fun ho => ?_
  simp +decide (disch := first | assumption | (apply GH.ok_push; assumption) | exact cellV_int _ _ | exact cellV_bool _ | omega) only [go_sem, ↓reduceIte, Nat.reduceEqDiff, Nat.reduceAdd, Int.reduceToNat]
  refine CallD.calm (waysOn_rets hX L A hL hA row left g hs ht) ?_
  rintro v G hx ⟨hokG, j, rfl, hj1, hj2, hgj⟩
  have hnG := hx.next
  have hgB : G.get B = cellsOb [.int .i64 (r : Int)] 3 := (hx.kept.gets B hB).trans hget
  simp +decide (disch := first | assumption | (apply GH.ok_push; assumption) | exact cellV_int _ _ | exact cellV_bool _ | omega) only [go_sem, ↓reduceIte, Nat.reduceEqDiff, Nat.reduceAdd, Int.reduceToNat]
  refine Wk.loops (fun m e g' lo => B ≤ lo ∧ g'.ok ∧ KeptJ g g' B ∧ g'.get j = cellsOb (ints (rng A.length (wayP L A))) 3 ∧ ∃ i : Nat, i + m = A.length ∧ i ≤ i0 ∧ (ev e (.s 2) = .pointer (some ⟨B, 0, none⟩) ∧ ev e (.s 6) = .int .i64 i ∧ ev e (.s 11) = .slice (some ⟨j, 0, none⟩) A.length A.length ∧ ev e (.s 12) = .int .i64 A.length ∧ ev e (.s 13) = .int .i64 i) ∧ g'.get B = cellsOb [.int .i64 ((r - sumTo wN i : Nat) : Int)] 3)
    (fun e g' lo => B ≤ lo ∧ g'.ok ∧ KeptJ g g' B ∧ ev e (.s 6) = .int .i64 i0 ∧ g'.get B = cellsOb [.int .i64 ((r - sumTo wN i0 : Nat) : Int)] 3) (n := A.length) ?_ ?_ ?_
  · exact ⟨by omega, hokG, KeptJ.of hx.kept, hgj, 0, by omega, by omega, (by simp +decide (disch := first | assumption | (apply GH.ok_push; assumption) | exact cellV_int _ _ | exact cellV_bool _ | omega) only [go_sem, ↓reduceIte, Nat.reduceEqDiff, Nat.reduceAdd, Int.reduceToNat]; first | done | exact rfl), hgB⟩
  · rintro e g' lo hog - ⟨hlo, hok, hk, he, hg⟩
    simp +decide (disch := first | assumption | (apply GH.ok_push; assumption) | exact cellV_int _ _ | exact cellV_bool _ | omega) only [go_sem, ↓reduceIte, Nat.reduceEqDiff, Nat.reduceAdd, Int.reduceToNat, he]
    intro hx0
    exact ⟨hlo, hok, hk, rfl, hg⟩
  · rintro m e g' lo ho' hl' ih out ⟨hlo, hok, hk, hgw, i, him, hii, he, hg⟩
    have hkn := hk.next
    have ci : i < A.length := by omega
    have hia := iaddrS_at (j := j) (n := A.length) (c := A.length) (m := i) (x := (i : Int)) rfl ci
    have hc0 : (ints (rng A.length (wayP L A)))[i]? = some (.int .i64 (wN i : Int)) := by rw [ints_get (by rw [rng_len]; omega), rng_get _ ci, hwN i ci]
    have hstep : sumTo wN (i + 1) = sumTo wN i + wN i := rfl
    have hm1 := sumTo_mono wN hii
    have hBl : B < g'.next := by omega
    by_cases ce : i = i0
    · subst ce
      have hlt : (((r - sumTo wN i : Nat) : Int)) < (wN i : Int) := by omega
      obtain ⟨q, hq⟩ : ∃ q : Int, ((r - sumTo wN i : Nat) : Int) = q := ⟨_, rfl⟩
      rw [hq] at hg hlt
      simp +decide (disch := first | assumption | (apply GH.ok_push; assumption) | exact cellV_int _ _ | exact cellV_bool _ | omega) only [go_sem, ↓reduceIte, Nat.reduceEqDiff, Nat.reduceAdd, Int.reduceToNat, he, hgw, hia, hc0, hg, hlt]
      exact out _ _ _ ⟨hlo, hok, hk, (by simp +decide (disch := first | assumption | (apply GH.ok_push; assumption) | exact cellV_int _ _ | exact cellV_bool _ | omega) only [go_sem, ↓reduceIte, Nat.reduceEqDiff, Nat.reduceAdd, Int.reduceToNat, he]; first | done | exact rfl), by rw [hq]; exact hg⟩
    · have hm2 := sumTo_mono wN (show i + 1 ≤ i0 by omega)
      have hlt : ¬ (((r - sumTo wN i : Nat) : Int)) < (wN i : Int) := by omega
      have hsub : ((r - sumTo wN i : Nat) : Int) - (wN i : Int) = ((r - sumTo wN (i + 1) : Nat) : Int) := by omega
      obtain ⟨q, hq⟩ : ∃ q : Int, ((r - sumTo wN i : Nat) : Int) = q := ⟨_, rfl⟩
      have hqb : 0 ≤ q ∧ q ≤ 1000000000000 := by omega
      rw [hq] at hg hlt hsub
      have hwb : (wN i : Int) ≤ q := by omega
      have hw := Wrote.set (o := cellsOb [.int .i64 ((r - sumTo wN (i + 1) : Nat) : Int)] 3) hg Nat.one_ne_zero hok
      have hset : ∀ o, (g'.set B o).get B = o := fun o => GH.get_set_same hg Nat.one_ne_zero o
      simp +decide (disch := first | assumption | (apply GH.ok_push; assumption) | exact cellV_int _ _ | exact cellV_bool _ | omega) only [go_sem, ↓reduceIte, Nat.reduceEqDiff, Nat.reduceAdd, Int.reduceToNat, he, hgw, hia, hc0, hg, hlt, hsub, hBl, hset]
      have hnx2 := hw.next
      exact ih (m - 1) _ (g'.set B (cellsOb [.int .i64 ((r - sumTo wN (i + 1) : Nat) : Int)] 3)) _ (by omega) ⟨by omega, hw.ok, hk.trans ⟨by rw [hw.next]; exact Nat.le_refl _, fun q hq hne => hw.others q hne, fun f hf => hw.fams f⟩, by rw [hw.others j (by omega)]; exact hgw, i + 1, by omega, by omega, (by simp +decide (disch := first | assumption | (apply GH.ok_push; assumption) | exact cellV_int _ _ | exact cellV_bool _ | omega) only [go_sem, ↓reduceIte, Nat.reduceEqDiff, Nat.reduceAdd, Int.reduceToNat, he]; first | done | exact rfl), hw.get⟩
end Go.Proofs.Yteeelcmnlomgmaa
set_option maxRecDepth 100000
set_option maxHeartbeats 8000000
set_option linter.unusedSimpArgs false
set_option linter.unusedVariables false
namespace Go.Proofs.Yteeelcmnlomgmaa
open Go.Ds
theorem seek_at {f : Nat → Nat} {r : Nat} : ∀ {c : Nat}, r < sumTo f c → ∃ i, i < c ∧ sumTo f i ≤ r ∧ r < sumTo f (i + 1)
  | 0, h => by simp [sumTo] at h
  | c + 1, h => by
    by_cases d : r < sumTo f c
    · obtain ⟨i, h1, h2, h3⟩ := seek_at d
      exact ⟨i, by omega, h2, h3⟩
    · exact ⟨c, by omega, by omega, h⟩
theorem nums_left : ∀ n, numsL n = leftOf 0 n
  | 0 => rfl
  | n + 1 => by
    have hf : fr 0 n = 1 := by unfold fr; rw [if_pos (by simp)]
    rw [leftOf, if_pos hf, ← nums_left n]
    simp [numsL, rng, List.range_succ]
theorem rkT_zero : ∀ n, rkT 0 n = n
  | 0 => rfl
  | n + 1 => by
    have hf : fr 0 n = 1 := by unfold fr; rw [if_pos (by simp)]
    rw [rkT_succ, rkT_zero n, hf]
/-- What holds while At lays its row. -/
def AtI (n B : Nat) (T : List Int) (g : GH) (L A : List Int) : Prop :=
  ∃ u r : Nat, g.get B = cellsOb [.int .i64 (r : Int)] 3 ∧ r ≤ 1000000000000 ∧ A = leftOf u n ∧ refTurnL true L = true ∧ (L ≠ [] → L.getD (L.length - 1) 0 ∉ A) ∧ nthW n A.length u L r = T ∧ r < cntW n A.length u L
theorem atCall_rets {X : Caller} (hX : Xok X) (n : Nat) (hn : n ≤ 10) (B : Nat) (T : List Int) (g : GH) (row left : Value) (L A : List Int) (hok : g.ok) (hb : B + 1 ≤ g.next) (hI : AtI n B T g L A) (hA : A ≠ []) (hLA : L.length + A.length = n) (hs : SlR g row (ints L)) (ht : SlR g left (ints A)) :
    Rets Try.prog X 60 ([row, left] ++ (#[Value.pointer (some ⟨B, 0, none⟩)] : Array Value).toList) g (fun v g' lo => B ≤ lo ∧ g'.ok ∧ Above g g' (B + 1) ∧ ∃ i : Nat, i < A.length ∧ v = .int .i64 i ∧ AtI n B T g' (L ++ [A.getD i 0]) (A.eraseIdx i)) := by
  obtain ⟨u, r, hget, hr, hAu, hL, hlast, hT, hlt⟩ := hI
  have hpos := List.length_pos_iff.2 hA
  obtain ⟨m, hm⟩ : ∃ m, A.length = m + 1 := ⟨A.length - 1, by omega⟩
  have hu : rkT u n = m + 1 := by rw [← leftOf_len, ← hAu, hm]
  rw [hm] at hT hlt
  rw [cntW_ways hn hL (by omega) hu, ← hAu] at hlt
  obtain ⟨i, hi, h1, h2⟩ := seek_at hlt
  obtain ⟨k, hk, hf, hrk, hAi, hw, hnth, hcnt⟩ := nthW_step hn hL hu hi (by rw [← hAu]; exact h1) (by rw [← hAu]; exact h2)
  rw [← hAu] at hAi hnth hcnt
  refine (pickAt_rets hX L A (by omega) (by omega) (wayV L A) (fun q hq => wayP_wayV hL fun hne e => hlast hne (by rw [← e, List.getD_eq_getElem?_getD, List.getElem?_eq_getElem hq]; exact List.getElem_mem _)) r i hr (by omega) h1 h2 row left B g (by omega) hget hs ht).mono fun v g' lo _ ⟨a1, a2, a3, a4, a5⟩ => ⟨a1, a2, ⟨a3.next, fun q q1 q2 => a3.gets q q2 (by omega), fun f _ q2 => a3.fams f q2⟩, i, by omega, a4, ?_⟩
  have hel : (A.eraseIdx i).length = m := by rw [List.length_eraseIdx_of_lt (by omega), hm]; rfl
  have her : A.eraseIdx i = leftOf (u ||| 2 ^ (k + 1)) n := by rw [leftOf_erase hf hk, hrk, hAu]
  refine ⟨u ||| 2 ^ (k + 1), r - sumTo (wayV L A) i, a5, by omega, her, by rw [hAi]; exact hw, fun _ => ?_, by rw [hel, hAi, ← hnth]; exact hT, by rw [hel, hAi]; exact hcnt⟩
  rw [hAi, her]
  have hg : (L ++ [(k : Int) + 1]).getD ((L ++ [(k : Int) + 1]).length - 1) 0 = (k : Int) + 1 := by
    rw [List.getD_eq_getElem?_getD]; simp
  rw [hg]
  intro hmem
  obtain ⟨q, _, hq, hfq⟩ := leftOf_mem.1 hmem
  have : q = k := by omega
  subst this
  rw [fr_or, if_pos rfl] at hfq
  cases hfq
theorem At_rets {X : Caller} (hX : Xok X) (n r : Int) (g : GH) : Rets Try.prog X 34 [.int .i64 n, .int .i64 r] g (fun v g' lo => g.next ≤ lo ∧ RetL g' v (atT n r)) := by
  refine Rets.run hX.pres p34 (hX.free 34 (by decide) _ _) rfl fun ho => ?_
  by_cases c : n < 0
  · have hT : atT n r = ([], 2) := by rw [atT, if_pos (.inl c)]
    simp +decide (disch := first | assumption | (apply GH.ok_push; assumption) | exact cellV_int _ _ | exact cellV_bool _ | omega) only [go_sem, ↓reduceIte, Nat.reduceEqDiff, Nat.reduceAdd, Int.reduceToNat]
    intro hx0
    exact ⟨Nat.le_refl _, _, by rw [hT], by rw [hT]; exact SlR.nil⟩
  · by_cases c2 : 10 < n
    · have hT : atT n r = ([], 2) := by rw [atT, if_pos (.inr c2)]
      simp +decide (disch := first | assumption | (apply GH.ok_push; assumption) | exact cellV_int _ _ | exact cellV_bool _ | omega) only [go_sem, ↓reduceIte, Nat.reduceEqDiff, Nat.reduceAdd, Int.reduceToNat]
      intro hx0
      exact ⟨Nat.le_refl _, _, by rw [hT], by rw [hT]; exact SlR.nil⟩
    · obtain ⟨k, rfl⟩ : ∃ k : Nat, n = k := ⟨n.toNat, by omega⟩
      have hcz := cnt_all (n := k) (by omega)
      have hTT : atT k r = if r < 0 ∨ (zig k : Int) ≤ r then ([], 4) else (nthW k k 0 [] r.toNat, 0) := by
        rw [atT, if_neg (by omega), Int.toNat_natCast, hcz]
      have hbx : ∀ lo, loadF none ((g.push (cellsOb [.int .i64 r] 3)).at lo) (.pointer (some ⟨g.next, 0, none⟩)) = some (.int .i64 r) := by
        intro lo
        rw [load_eq, GH.get_push ho, if_pos rfl]; rfl
      by_cases r0 : r < 0
      · have hT : atT k r = ([], 4) := by rw [hTT, if_pos (.inl r0)]
        simp +decide (disch := first | assumption | (apply GH.ok_push; assumption) | exact cellV_int _ _ | exact cellV_bool _ | omega) only [go_sem, ↓reduceIte, Nat.reduceEqDiff, Nat.reduceAdd, Int.reduceToNat, hbx, r0]
        intro hx0
        exact ⟨Nat.le_refl _, _, by rw [hT], by rw [hT]; exact SlR.nil⟩
      · simp +decide (disch := first | assumption | (apply GH.ok_push; assumption) | exact cellV_int _ _ | exact cellV_bool _ | omega) only [go_sem, ↓reduceIte, Nat.reduceEqDiff, Nat.reduceAdd, Int.reduceToNat, hbx, r0]
        have hp0 : (g.push (cellsOb [.int .i64 r] 3)).get g.next = cellsOb [.int .i64 r] 3 := by rw [GH.get_push ho, if_pos rfl]
        refine CallD.calmH (by simp [spansOf, spanAt, blt_d]) rfl (count_rets hX k (by omega) _) ?_
        rintro v G hx rfl
        have hnG : g.next + 1 ≤ G.next := hx.next
        have hokG := hx.ok (GH.ok_push ho)
        have hgG : G.get g.next = cellsOb [.int .i64 r] 3 := (hx.gets _ (Nat.lt_succ_self _)).trans hp0
        by_cases r1 : (zig k : Int) ≤ r
        · have hT : atT k r = ([], 4) := by rw [hTT, if_pos (.inr r1)]
          simp +decide (disch := first | assumption | (apply GH.ok_push; assumption) | exact cellV_int _ _ | exact cellV_bool _ | omega) only [go_sem, ↓reduceIte, Nat.reduceEqDiff, Nat.reduceAdd, Int.reduceToNat, r1]
          intro hx0
          exact ⟨Nat.le_refl _, _, by rw [hT], by rw [hT]; exact SlR.nil⟩
        · have hT : atT k r = (nthW k k 0 [] r.toNat, 0) := by rw [hTT, if_neg (by omega)]
          have hzb := cntW_le k (by omega) k 0 []
          have hpl := pow10 (m := k) (by omega)
          rw [hcz] at hzb
          simp +decide (disch := first | assumption | (apply GH.ok_push; assumption) | exact cellV_int _ _ | exact cellV_bool _ | omega) only [go_sem, ↓reduceIte, Nat.reduceEqDiff, Nat.reduceAdd, Int.reduceToNat, r1]
          obtain ⟨q, hq⟩ : ∃ q : Nat, r = q := ⟨r.toNat, by omega⟩
          subst hq
          have hI0 : AtI k g.next (nthW k k 0 [] q) G [] (numsL k) := by
            have hnl : (numsL k).length = k := by simp [numsL, rng_len]
            exact ⟨0, q, hgG, by omega, nums_left k, rfl, fun h => absurd rfl h, by rw [hnl], by rw [hnl, hcz]; omega⟩
          refine CallD.call (laid_rets hX k (by omega) 60 #[.pointer (some ⟨g.next, 0, none⟩)] (AtI k g.next (nthW k k 0 [] q)) (g.next + 1) g.next (by omega) (fun a b L A ⟨u, r', h1, h2⟩ hq => ⟨u, r', (hq _ (Nat.lt_succ_self _)).trans h1, h2⟩)
            (fun a row left L A ok1 b1 i1 c1 l1 s1 t1 => (atCall_rets hX k (by omega) g.next _ a row left L A ok1 b1 i1 c1 l1 s1 t1)) G hnG hI0) ?_
          rintro w G2 lo2 hx2 ⟨hlo2, hok2, hab, W, hWl, hW, u, r', _, _, _, _, _, hWT, _⟩
          have hWT : W = nthW k k 0 [] q := hWT
          simp +decide (disch := first | assumption | (apply GH.ok_push; assumption) | exact cellV_int _ _ | exact cellV_bool _ | omega) only [go_sem, ↓reduceIte, Nat.reduceEqDiff, Nat.reduceAdd, Int.reduceToNat]
          intro hx0
          refine ⟨by omega, w, by rw [hT, Int.toNat_natCast], ?_⟩
          rw [hT, Int.toNat_natCast, ← hWT]
          exact hW
end Go.Proofs.Yteeelcmnlomgmaa
set_option maxRecDepth 100000
set_option maxHeartbeats 8000000
set_option linter.unusedSimpArgs false
set_option linter.unusedVariables false
namespace Go.Proofs.Yteeelcmnlomgmaa
open Go.Ds
theorem sumI_rng (f : Nat → Nat) : ∀ c, sumI (rng c (fun i => (f i : Int))) = (sumTo f c : Int)
  | 0 => rfl
  | c + 1 => by
    have e : rng (c + 1) (fun i => (f i : Int)) = rng c (fun i => (f i : Int)) ++ [(f c : Int)] := by simp [rng, List.range_succ]
    rw [e, sumI_app, sumI_rng f c]
    show _ = ((sumTo f c + f c : Nat) : Int)
    simp [sumI]
theorem rng_take (f : Nat → Int) {c i : Nat} (h : i ≤ c) : (rng c f).take i = rng i f := by
  unfold rng
  rw [← List.map_take, List.take_range, Nat.min_eq_left h]
/-- The callback of Rank: where the next number stands, and what comes before it. -/
theorem pickRank_rets {X : Caller} (hX : Xok X) (W L A : List Int) (hW : W.length ≤ 10) (hL : L.length < W.length) (hA : A.length ≤ 10) (wN : Nat → Nat) (hwN : ∀ i, i < A.length → wayP L A i = (wN i : Int)) (hwb : ∀ i, wN i ≤ 1000000) (r i0 : Nat) (hr : r ≤ 1000000000000) (hi0 : i0 < A.length) (hx : A.getD i0 0 = W.getD L.length 0) (hf : ∀ j, j < i0 → A.getD j 0 ≠ W.getD L.length 0)
    (row left wv : Value) (C B : Nat) (g : GH) (hC : C < g.next) (hB : B < g.next) (hCB : C ≠ B) (hgC : g.get C = cellsOb [wv] 22) (hget : g.get B = cellsOb [.int .i64 (r : Int)] 3) (hw : SlR g wv (ints W)) (hs : SlR g row (ints L)) (ht : SlR g left (ints A)) :
    Rets Try.prog X 55 [row, left, .pointer (some ⟨C, 0, none⟩), .pointer (some ⟨B, 0, none⟩)] g (fun v g' lo => B ≤ lo ∧ g'.ok ∧ KeptJ g g' B ∧ v = .int .i64 i0 ∧ g'.get B = cellsOb [.int .i64 ((r + sumTo wN i0 : Nat) : Int)] 3) := by
  refine Rets.run hX.pres p55 (hX.free 55 (by decide) _ _) rfl fun ho => ?_
  have hl := hs.len
  rw [ints_len] at hl
  obtain ⟨b1, o1, hb1, hp1, hp2⟩ := hw.ptr (ints_get (D := W) (i := L.length) hL)
  have hp1 := hp1 (L.length : Int) rfl
  simp +decide (disch := first | assumption | (apply GH.ok_push; assumption) | exact cellV_int _ _ | exact cellV_bool _ | omega) only [go_sem, ↓reduceIte, Nat.reduceEqDiff, Nat.reduceAdd, Int.reduceToNat, hgC, hl, hp1, hp2]
  refine CallD.calm (index_rets hX A (by omega) i0 hi0 _ hx hf left g ht) ?_
  rintro v G hx1 rfl
  have hnG := hx1.next
  have hokG := hx1.ok ho
  have hgB : G.get B = cellsOb [.int .i64 (r : Int)] 3 := (hx1.kept.gets B hB).trans hget
  simp +decide (disch := first | assumption | (apply GH.ok_push; assumption) | exact cellV_int _ _ | exact cellV_bool _ | omega) only [go_sem, ↓reduceIte, Nat.reduceEqDiff, Nat.reduceAdd, Int.reduceToNat, hgB]
  refine CallD.calmH (by simp [spansOf, spanAt, blt_d]) rfl (waysOn_rets hX L A (by omega) hA row left G (hs.ext hx1) (ht.ext hx1)) ?_
  rintro v G2 hx2 ⟨hok2, j, rfl, hj1, hj2, hgj⟩
  have hnG2 := hx2.next
  have hgB2 : G2.get B = cellsOb [.int .i64 (r : Int)] 3 := (hx2.kept.gets B (by omega)).trans hgB
  have hwr : rng A.length (wayP L A) = rng A.length (fun i => (wN i : Int)) := rng_congr fun i hi => hwN i hi
  rw [hwr] at hgj
  have hsl : SlR G2 (.slice (some ⟨j, 0, none⟩) A.length A.length) (ints (rng A.length (fun i => (wN i : Int)))) := SlR.whole hgj hj2 (by rw [ints_len, rng_len])
  obtain ⟨u, hu1, hu2, _⟩ := hsl.pre (CapOk.known (Nat.le_refl _) (by unfold OPEN; omega)) (k := i0) (x := (i0 : Int)) rfl (by rw [ints_len, rng_len]; omega)
  have hut : (ints (rng A.length (fun i => (wN i : Int)))).take i0 = ints (rng i0 (fun i => (wN i : Int))) := by
    unfold ints
    rw [← List.map_take, rng_take _ (by omega)]
  rw [hut] at hu2
  have hsb : ∀ c, c ≤ 10 → sumTo wN c ≤ 10000000 := fun c hc => by
    have := sumTo_le hwb c
    omega
  simp +decide (disch := first | assumption | (apply GH.ok_push; assumption) | exact cellV_int _ _ | exact cellV_bool _ | omega) only [go_sem, ↓reduceIte, Nat.reduceEqDiff, Nat.reduceAdd, Int.reduceToNat, hu1]
  refine CallD.calmH (by simp [spansOf, spanAt, blt_d, show Nat.beq 3 0 = false from rfl]) rfl (sum57_rets hX (rng i0 (fun i => (wN i : Int))) (by rw [rng_len]; omega) (fun q hq => by
    rw [rng_len] at hq
    rw [rng_take _ hq, sumI_rng]
    have := hsb q (by omega)
    omega) u G2 hu2) ?_
  rintro v G3 hx3 rfl
  have hnG3 := hx3.next
  have hok3 := hx3.ok hok2
  have hgB3 : G3.get B = cellsOb [.int .i64 (r : Int)] 3 := (hx3.kept.gets B (by omega)).trans hgB2
  rw [sumI_rng]
  have hs0 := hsb i0 (by omega)
  obtain ⟨S0, hS0⟩ : ∃ S0, sumTo wN i0 = S0 := ⟨_, rfl⟩
  rw [hS0] at hs0 ⊢
  obtain ⟨Q, hQ⟩ : ∃ Q : Int, ((r + S0 : Nat) : Int) = Q := ⟨_, rfl⟩
  have hsum : (r : Int) + (S0 : Int) = Q := by omega
  rw [hQ]
  have hB3 : B < G3.next := by omega
  have hw3 := Wrote.set (o := cellsOb [.int .i64 Q] 3) hgB3 Nat.one_ne_zero hok3
  simp +decide (disch := first | assumption | (apply GH.ok_push; assumption) | exact cellV_int _ _ | exact cellV_bool _ | omega) only [go_sem, ↓reduceIte, Nat.reduceEqDiff, Nat.reduceAdd, Int.reduceToNat, hgB3, hsum, hB3]
  intro hx0
  exact ⟨by omega, hw3.ok, (KeptJ.of ((hx1.kept.ext hx2).ext hx3)).trans ⟨by rw [hw3.next]; exact Nat.le_refl _, fun q hq hne => hw3.others q hne, fun f hf => hw3.fams f⟩, rfl, hw3.get⟩
end Go.Proofs.Yteeelcmnlomgmaa
set_option maxRecDepth 100000
set_option maxHeartbeats 4000000
set_option linter.unusedSimpArgs false
set_option linter.unusedVariables false
namespace Go.Proofs.Yteeelcmnlomgmaa
open Go.Ds
theorem turn_same : ∀ (L : List Int) (up : Bool), L.Nodup → refTurnL up L = inTurnL up L
  | [], up, _ => by cases up <;> rfl
  | [a], up, _ => by cases up <;> rfl
  | a :: b :: L, up, h => by
    have h1 := List.nodup_cons.1 h
    have hab : a ≠ b := fun e => h1.1 (by rw [e]; exact List.mem_cons_self ..)
    have ih := turn_same (b :: L) (!up) h1.2
    rw [refTurnL, inTurnL, ih]
    congr 1
    cases up with
    | true =>
      by_cases c : a < b
      · simp [c]
      · simp [c]
    | false =>
      by_cases c : a < b
      · simp [c]; omega
      · simp [c]; omega
/-- A slice whose object lies below a base. -/
def SlB (g : GH) (base : Nat) (s : Value) (vs : List Value) : Prop :=
  (s = .slice none 0 0 ∧ vs = []) ∨ ∃ j off cap ob, s = .slice (some ⟨j, off, none⟩) vs.length cap ∧ j < base ∧ g.get j = ob ∧ (ob.kind = 1 ∨ (ob.kind = 4 ∧ vs.any isJ = false)) ∧ off + vs.length ≤ ob.cells.length ∧ (ob.cells.drop off).take vs.length = vs
theorem SlB.of {g : GH} {base : Nat} {s : Value} {vs : List Value} (h : SlR g s vs) (hb : g.next ≤ base) : SlB g base s vs := by
  rcases h with h | ⟨j, off, cap, ob, h1, h2, h3⟩
  · exact .inl h
  · exact .inr ⟨j, off, cap, ob, h1, by omega, h3⟩
theorem SlB.read {g : GH} {base : Nat} {s : Value} {vs : List Value} (h : SlB g base s vs) (hb : base ≤ g.next) : SlR g s vs := by
  rcases h with h | ⟨j, off, cap, ob, h1, h2, h3⟩
  · exact .inl h
  · exact .inr ⟨j, off, cap, ob, h1, by omega, h3⟩
theorem SlB.same {g g' : GH} {base : Nat} {s : Value} {vs : List Value} (h : SlB g base s vs) (hg : ∀ q, q < base → g'.get q = g.get q) : SlB g' base s vs := by
  rcases h with h | ⟨j, off, cap, ob, h1, h2, h3, h4⟩
  · exact .inl h
  · exact .inr ⟨j, off, cap, ob, h1, h2, (hg j h2).trans h3, h4⟩
end Go.Proofs.Yteeelcmnlomgmaa
set_option maxRecDepth 100000
set_option maxHeartbeats 8000000
set_option linter.unusedSimpArgs false
set_option linter.unusedVariables false
namespace Go.Proofs.Yteeelcmnlomgmaa
open Go.Ds
theorem wayV_le {L A : List Int} (hA : A.length ≤ 10) (i : Nat) : wayV L A i ≤ 1000000 := by
  have hf : ∀ n k, n ≤ 10 → frm n k ≤ 1000000 := by
    intro n k hn
    unfold frm
    have h1 : ∀ n, n < 11 → ∀ x ∈ triRow n, x ≤ 100000 := by decide +kernel
    have h2 : (triRow n).getD k 0 ≤ 100000 := by
      rw [List.getD_eq_getElem?_getD]
      cases h : (triRow n)[k]? with
      | none => simp
      | some x => exact h1 n (by omega) x (List.mem_of_getElem? h)
    omega
  unfold wayV
  split
  · split
    · exact hf _ _ hA
    · exact hf _ _ hA
  · exact Nat.zero_le _
/-- What holds while Rank lays its row. -/
def RkI (n C B base : Nat) (W : List Int) (wv : Value) (T : Nat) (g : GH) (L A : List Int) : Prop :=
  ∃ (u r : Nat) (R : List Int), g.get C = cellsOb [wv] 22 ∧ SlB g base wv (ints W) ∧ g.get B = cellsOb [.int .i64 (r : Int)] 3 ∧ W = L ++ R ∧ A = leftOf u n ∧ (∀ x ∈ R, x ∈ A) ∧ R.Nodup ∧ R.length = A.length ∧ refTurnL true W = true ∧ (L ≠ [] → L.getD (L.length - 1) 0 ∉ A) ∧ r + rankU n u L R = T
theorem rkCall_rets {X : Caller} (hX : Xok X) (n : Nat) (hn : n ≤ 10) (C B base : Nat) (hC : C < base) (hB : B < base) (hCB : C ≠ B) (W : List Int) (hWn : W.length = n) (wv : Value) (hwv : ∀ a l c, wv = .slice (some a) l c → a.block ≠ B) (T : Nat) (hT : T ≤ 1000000000000) (g : GH) (row left : Value) (L A : List Int) (hok : g.ok) (hb : base ≤ g.next) (hI : RkI n C B base W wv T g L A) (hA : A ≠ []) (hLA : L.length + A.length = n) (hs : SlR g row (ints L)) (ht : SlR g left (ints A)) :
    Rets Try.prog X 55 ([row, left] ++ (#[Value.pointer (some ⟨C, 0, none⟩), Value.pointer (some ⟨B, 0, none⟩)] : Array Value).toList) g (fun v g' lo => B ≤ lo ∧ g'.ok ∧ Above g g' base ∧ ∃ i : Nat, i < A.length ∧ v = .int .i64 i ∧ RkI n C B base W wv T g' (L ++ [A.getD i 0]) (A.eraseIdx i)) := by
  obtain ⟨u, r, R, hgC, hSl, hgB, hWR, hAu, hRA, hRn, hRl, hturn, hlast, hsum⟩ := hI
  have hpos := List.length_pos_iff.2 hA
  obtain ⟨x, R', rfl⟩ : ∃ x R', R = x :: R' := by
    cases R with
    | nil => simp at hRl; omega
    | cons x R' => exact ⟨x, R', rfl⟩
  obtain ⟨k, hk, hx, hf⟩ := leftOf_mem.1 (by rw [← hAu]; exact hRA x List.mem_cons_self)
  subst hx
  have hk1 : ((k : Int) + 1).toNat - 1 = k := by omega
  have hlen := leftOf_len u n
  rw [← hAu] at hlen
  have hlt := rkT_lt hk hf
  have hAi : A.getD (rkT u k) 0 = (k : Int) + 1 := by rw [hAu]; exact leftOf_at hf hk
  have hWx : W.getD L.length 0 = (k : Int) + 1 := by rw [hWR, List.getD_eq_getElem?_getD]; simp
  have hL : refTurnL true L = true := refTurnL_pre L true _ (by rw [← hWR]; exact hturn)
  have hstep : rankU n u L (((k : Int) + 1) :: R') = sumTo (wayV L A) (rkT u k) + rankU n (u ||| 2 ^ (k + 1)) (L ++ [(k : Int) + 1]) R' := by
    show sumTo (wayV L (leftOf u n)) (rkT u (((k : Int) + 1).toNat - 1)) + rankU n (u ||| 2 ^ (((k : Int) + 1).toNat - 1 + 1)) (L ++ [(k : Int) + 1]) R' = _
    rw [hk1, hAu]
  refine (pickRank_rets hX W L A (by omega) (by omega) (by omega) (wayV L A) (fun q hq => wayP_wayV hL fun hne e => hlast hne (by rw [← e, List.getD_eq_getElem?_getD, List.getElem?_eq_getElem hq]; exact List.getElem_mem _)) (fun i => wayV_le (by omega) i) r (rkT u k) (by omega) (by omega) (by rw [hAi, hWx]) (fun j hj => by rw [hWx, hAu]; exact leftOf_before (by omega) hj) row left wv C B g (by omega) (by omega) hCB hgC hgB (hSl.read hb) hs ht).mono fun v g' lo _ ⟨a1, a2, a3, a4, a5⟩ => ⟨a1, a2, ⟨a3.next, fun q q1 q2 => a3.gets q q2 (by omega), fun f _ q2 => a3.fams f q2⟩, rkT u k, by omega, a4, ?_⟩
  have hel : (A.eraseIdx (rkT u k)).length = A.length - 1 := List.length_eraseIdx_of_lt (by omega)
  have her : A.eraseIdx (rkT u k) = leftOf (u ||| 2 ^ (k + 1)) n := by rw [leftOf_erase hf hk, hAu]
  have hRn' := List.nodup_cons.1 hRn
  have hmem : ∀ q : Nat, ((q : Int) + 1) ∈ leftOf (u ||| 2 ^ (k + 1)) n ↔ (((q : Int) + 1) ∈ leftOf u n ∧ q ≠ k) := by
    intro q
    rw [leftOf_mem, leftOf_mem]
    constructor
    · rintro ⟨p, p1, p2, p3⟩
      have : p = q := by omega
      subst this
      rw [fr_or] at p3
      by_cases c : p = k
      · rw [if_pos c] at p3; cases p3
      · rw [if_neg c] at p3; exact ⟨⟨p, p1, p2, p3⟩, c⟩
    · rintro ⟨⟨p, p1, p2, p3⟩, c⟩
      have : p = q := by omega
      subst this
      exact ⟨p, p1, p2, by rw [fr_or, if_neg c]; exact p3⟩
  refine ⟨u ||| 2 ^ (k + 1), r + sumTo (wayV L A) (rkT u k), R', (a3.gets C (by omega) hCB).trans hgC, ?_, a5, by rw [hAi, hWR]; simp, her, fun y hy => ?_, hRn'.2, by rw [hel]; simp at hRl; omega, hturn, fun _ => ?_, ?_⟩
  · rcases hSl with h | ⟨j, off, cap, ob, q1, q2, q3, q4⟩
    · exact .inl h
    · exact .inr ⟨j, off, cap, ob, q1, q2, (a3.gets j (by omega) (hwv _ _ _ q1)).trans q3, q4⟩
  · rw [her]
    obtain ⟨p, p1, rfl, p3⟩ := leftOf_mem.1 (by rw [← hAu]; exact hRA y (List.mem_cons_of_mem _ hy))
    exact (hmem p).2 ⟨leftOf_mem.2 ⟨p, p1, rfl, p3⟩, fun e => by subst e; exact hRn'.1 hy⟩
  · have hg : (L ++ [A.getD (rkT u k) 0]).getD ((L ++ [A.getD (rkT u k) 0]).length - 1) 0 = (k : Int) + 1 := by
      rw [hAi, List.getD_eq_getElem?_getD]; simp
    rw [hg, her]
    exact fun h => ((hmem k).1 h).2 rfl
  · rw [hAi]; omega
end Go.Proofs.Yteeelcmnlomgmaa
set_option maxRecDepth 100000
set_option maxHeartbeats 8000000
set_option linter.unusedSimpArgs false
set_option linter.unusedVariables false
namespace Go.Proofs.Yteeelcmnlomgmaa
open Go.Ds
theorem Rank_rets {X : Caller} (hX : Xok X) (W : List Int) (hW : W.length ≤ 1000) (s : Value) (g : GH) (hs : SlR g s (ints W)) :
    Rets Try.prog X 32 [s] g (fun v g' lo => g.next ≤ lo ∧ v = .tuple #[.int .i64 (rankT W).1, .int .i64 (rankT W).2]) := by
  refine Rets.run hX.pres p32 (hX.free 32 (by decide) _ _) rfl fun ho => ?_
  have hl := hs.len
  rw [ints_len] at hl
  obtain ⟨o, ln, cp, rfl⟩ : ∃ o ln cp, s = .slice o ln cp := by
    rcases hs with ⟨rfl, _⟩ | ⟨j, off, cap, ob, rfl, _⟩ <;> exact ⟨_, _, _, rfl⟩
  obtain ⟨G0, hG0⟩ : ∃ G0, g.push (cellsOb [.slice o ln cp] 22) = G0 := ⟨_, rfl⟩
  have hp0 : (g.push (cellsOb [.slice o ln cp] 22)).get g.next = cellsOb [.slice o ln cp] 22 := by rw [GH.get_push ho, if_pos rfl]
  have hk0 := (Kept.refl g).push ho (cellsOb [.slice o ln cp] 22)
  have hs0 := hs.kept hk0
  simp +decide (disch := first | assumption | (apply GH.ok_push; assumption) | exact cellV_int _ _ | exact cellV_bool _ | omega) only [go_sem, ↓reduceIte, Nat.reduceEqDiff, Nat.reduceAdd, Int.reduceToNat, hp0]
  refine CallD.calm (checkRow_rets hX W hW _ _ hs0) ?_
  rintro v G hx rfl
  have hnG : g.next + 1 ≤ G.next := hx.next
  have hokG := hx.ok (GH.ok_push ho)
  have hgC : G.get g.next = cellsOb [.slice o ln cp] 22 := (hx.gets _ (Nat.lt_succ_self _)).trans hp0
  have hs1 := hs0.ext hx
  by_cases c : rowE W = 0
  case neg =>
    have hT : rankT W = (0, rowE W) := by rw [rankT, if_neg c]
    rw [hT]
    simp +decide (disch := first | assumption | (apply GH.ok_push; assumption) | exact cellV_int _ _ | exact cellV_bool _ | omega) only [go_sem, ↓reduceIte, Nat.reduceEqDiff, Nat.reduceAdd, Int.reduceToNat, c]
    intro hx0
    exact ⟨by omega, rfl⟩
  rw [c]
  simp +decide (disch := first | assumption | (apply GH.ok_push; assumption) | exact cellV_int _ _ | exact cellV_bool _ | omega) only [go_sem, ↓reduceIte, Nat.reduceEqDiff, Nat.reduceAdd, Int.reduceToNat, hgC]
  refine CallD.calm (isWave_rets hX W hW _ _ hs1) ?_
  rintro v G2 hx2 rfl
  have hnG2 := hx2.next
  have hokG2 := hx2.ok hokG
  have hgC2 : G2.get g.next = cellsOb [.slice o ln cp] 22 := (hx2.gets _ (by omega)).trans hgC
  have hs2 := hs1.ext hx2
  cases hb : inTurnL true W with
  | false =>
    have hT : rankT W = (0, 9) := by rw [rankT, if_pos c, if_neg (by rw [hb]; decide)]
    rw [hT]
    simp +decide (disch := first | assumption | (apply GH.ok_push; assumption) | exact cellV_int _ _ | exact cellV_bool _ | omega) only [go_sem, ↓reduceIte, Nat.reduceEqDiff, Nat.reduceAdd, Int.reduceToNat]
    intro hx0
    exact ⟨by omega, rfl⟩
  | true =>
    have hT : rankT W = (((befW W W.length W.length 0 [] : Nat) : Int), 0) := by rw [rankT, if_pos c, if_pos hb]
    rw [hT]
    obtain ⟨r1, r2, r3, r4⟩ := row_facts c
    have hbw := befW_le W W.length (by omega) W.length 0 []
    have hpl := pow10 (m := W.length) (by omega)
    have hturn : refTurnL true W = true := by rw [turn_same W true r2]; exact hb
    have hin : ∀ x ∈ W, x ∈ leftOf 0 W.length := fun x hx => by
      have := r4 x hx
      exact leftOf_mem.2 ⟨x.toNat - 1, by omega, by omega, by unfold fr; rw [if_pos (by simp)]⟩
    have hrk := befW_rankU (n := W.length) (by omega) W 0 [] (by rw [rkT_zero]) hin r2 hturn
    rw [List.nil_append] at hrk
    have hpA : (G2.push (cellsOb [.int .i64 0] 3)).get G2.next = cellsOb [.int .i64 0] 3 := by rw [GH.get_push hokG2, if_pos rfl]
    have hpC : (G2.push (cellsOb [.int .i64 0] 3)).get g.next = cellsOb [.slice o ln cp] 22 := by rw [GH.get_push hokG2, if_neg (by omega)]; exact hgC2
    have hll : lenLF (.slice o ln cp) = some (.int .i64 (W.length : Int)) := hl
    have hw := Wrote.set (o := cellsOb [.int .i64 0] 3) hpA Nat.one_ne_zero (GH.ok_push hokG2)
    have hsC : ((G2.push (cellsOb [.int .i64 0] 3)).set G2.next (cellsOb [.int .i64 0] 3)).get g.next = cellsOb [.slice o ln cp] 22 := by rw [hw.others _ (by omega)]; exact hpC
    simp +decide (disch := first | assumption | (apply GH.ok_push; assumption) | exact cellV_int _ _ | exact cellV_bool _ | omega) only [go_sem, ↓reduceIte, Nat.reduceEqDiff, Nat.reduceAdd, Int.reduceToNat, hpC, hpA, hll, hsC]
    obtain ⟨H, hH⟩ : ∃ H, (G2.push (cellsOb [.int .i64 0] 3)).set G2.next (cellsOb [.int .i64 0] 3) = H := ⟨_, rfl⟩
    have hH' : (G2.push (cellsOb [.int .i64 0] 3)).set G2.next (cellsOb (splice 0 [.int .i64 0] [.int .i64 0]) 3) = H := hH
    rw [hH] at hw hsC
    rw [hH']
    have hHn : H.next = G2.next + 1 := hw.next
    have hHB : H.get G2.next = cellsOb [.int .i64 ((0 : Nat) : Int)] 3 := hw.get
    have hsB : SlB H (G2.next + 1) (.slice o ln cp) (ints W) := by
      rcases SlB.of hs (Nat.le_refl _) with h | ⟨j, off, cap, ob, q1, q2, q3, q4⟩
      · exact .inl h
      · refine .inr ⟨j, off, cap, ob, q1, by omega, ?_, q4⟩
        rw [hw.others j (by omega), GH.get_push hokG2, if_neg (by omega), hx2.gets j (by omega), hx.gets j (by show j < g.next + 1; omega), hk0.gets j q2]
        exact q3
    have hnl : (numsL W.length).length = W.length := by simp [numsL, rng_len]
    have hI0 : RkI W.length g.next G2.next (G2.next + 1) W (.slice o ln cp) (befW W W.length W.length 0 []) H [] (numsL W.length) :=
      ⟨0, 0, W, hsC, hsB, hHB, rfl, nums_left _, fun x hx => by rw [nums_left]; exact hin x hx, r2, hnl.symm, hturn, fun h => absurd rfl h, by rw [Nat.zero_add, hrk]⟩
    refine CallD.call (laid_rets hX W.length (by omega) 55 #[.pointer (some ⟨g.next, 0, none⟩), .pointer (some ⟨G2.next, 0, none⟩)] (RkI W.length g.next G2.next (G2.next + 1) W (.slice o ln cp) (befW W W.length W.length 0 [])) (G2.next + 1) g.next (by omega)
      (fun a b L A ⟨u, r, R, q1, q2, q3, q4⟩ hq => ⟨u, r, R, (hq _ (by omega)).trans q1, q2.same hq, (hq _ (by omega)).trans q3, q4⟩)
      (fun a row left L A ok1 b1 i1 c1 l1 s1 t1 => (rkCall_rets hX W.length (by omega) g.next G2.next (G2.next + 1) (by omega) (by omega) (by omega) W rfl (.slice o ln cp) (fun a' l' c' e => by
        rcases hs with ⟨h, _⟩ | ⟨j, off, cap, ob, h, q2, _⟩
        · rw [h] at e; cases e
        · rw [h] at e; cases e; show j ≠ G2.next; omega) _ (by omega) a row left L A ok1 b1 i1 c1 l1 s1 t1).mono fun v g' lo _ ⟨a1, a2⟩ => ⟨by omega, a2⟩) H (by omega) hI0) ?_
    rintro w G3 hx3 hx3' ⟨hlo3, hok3, hab, W3, hW3, hs3, u, r, R, _, _, hB3, hWR, hA3, hRA, _, _, _, _, hsum⟩
    have hR0 : R = [] := by
      cases R with
      | nil => rfl
      | cons x R => exact absurd (hRA x List.mem_cons_self) (by simp)
    subst hR0
    have hr : r = befW W W.length W.length 0 [] := hsum
    rw [hr] at hB3
    simp +decide (disch := first | assumption | (apply GH.ok_push; assumption) | exact cellV_int _ _ | exact cellV_bool _ | omega) only [go_sem, ↓reduceIte, Nat.reduceEqDiff, Nat.reduceAdd, Int.reduceToNat, hB3]
    intro hx0
    exact ⟨by omega, rfl⟩
end Go.Proofs.Yteeelcmnlomgmaa
set_option maxRecDepth 100000
set_option maxHeartbeats 8000000
set_option linter.unusedSimpArgs false
set_option linter.unusedVariables false
namespace Go.Proofs.Yteeelcmnlomgmaa
open Go.Ds
theorem nthW_len (n : Nat) : ∀ (m u : Nat) (L : List Int) (r : Nat), (nthW n m u L r).length ≤ L.length + m
  | 0, u, L, r => Nat.le_refl _
  | m + 1, u, L, r => by
    unfold nthW
    split
    · rename_i k _
      have := nthW_len n m (u ||| 2 ^ (k + 1)) (L ++ [(k : Int) + 1]) (r - sumTo (termW n m u L) k)
      simp at this
      omega
    · simp
theorem atT_len (n r : Int) : (atT n r).1.length ≤ 10 := by
  unfold atT
  split
  · simp
  · split
    · simp
    · have := nthW_len n.toNat n.toNat 0 [] r.toNat
      simp at this
      show (nthW n.toNat n.toNat 0 [] r.toNat).length ≤ 10
      omega
theorem ranksLaw_rets {X : Caller} (hX : Xok1 X) (L : List Int) (n r : Int) (s : Value) (g : GH) (hs : SlR g s (ints L)) : Rets Try.prog X 6 [s, .int .i64 n, .int .i64 r] g (fun v g' lo => g.next ≤ lo ∧ v = .bool true) := by
  have e0 : ∀ a b : Value, extF (.tuple #[a, b]) 0 = some a := fun _ _ => rfl
  have e1 : ∀ a b : Value, extF (.tuple #[a, b]) 1 = some b := fun _ _ => rfl
  refine Rets.run hX.pres p6 (hX.free 6 (by decide) _ _) rfl fun ho => ?_
  have hl := hs.len
  rw [ints_len] at hl
  by_cases c : L.length ≤ 60
  case neg =>
    have c' : (60 : Int) < (L.length : Int) := by omega
    simp +decide (disch := first | assumption | (apply GH.ok_push; assumption) | exact cellV_int _ _ | exact cellV_bool _ | omega) only [go_sem, ↓reduceIte, Nat.reduceEqDiff, Nat.reduceAdd, Int.reduceToNat, hl, c']
    refine CallD.calm (hX.alive _) ?_
    rintro v G hx rfl
    simp +decide (disch := first | assumption | (apply GH.ok_push; assumption) | exact cellV_int _ _ | exact cellV_bool _ | omega) only [go_sem, ↓reduceIte, Nat.reduceEqDiff, Nat.reduceAdd, Int.reduceToNat]
    intro hx0
    exact ⟨Nat.le_refl _, rfl⟩
  have c' : ¬ (60 : Int) < (L.length : Int) := by omega
  obtain ⟨k1, hk1⟩ : ∃ k, rankT L = k := ⟨_, rfl⟩
  obtain ⟨k1, k2⟩ := k1
  have hR := fun g' h => Rank_rets hX.toXok L (by omega) s g' h
  have hRr := fun g' h => refRank_rets hX.toXok L (by omega) s g' h
  rw [hk1] at hR hRr
  have hAt := fun g' => At_rets hX.toXok n r g'
  have hAr := fun g' => refAt_rets hX.toXok n r g'
  have hal := atT_len n r
  obtain ⟨k3, hk3⟩ : ∃ k, atT n r = k := ⟨_, rfl⟩
  obtain ⟨k3, k4⟩ := k3
  rw [hk3] at hAt hAr hal
  simp +decide (disch := first | assumption | (apply GH.ok_push; assumption) | exact cellV_int _ _ | exact cellV_bool _ | omega) only [go_sem, ↓reduceIte, Nat.reduceEqDiff, Nat.reduceAdd, Int.reduceToNat, hl, c']
  refine CallD.calm (hR _ hs) ?_
  rintro v G hx rfl
  have hn := hx.next
  simp +decide (disch := first | assumption | (apply GH.ok_push; assumption) | exact cellV_int _ _ | exact cellV_bool _ | omega) only [go_sem, ↓reduceIte, Nat.reduceEqDiff, Nat.reduceAdd, Int.reduceToNat, e0, e1]
  refine CallD.calm (hRr _ (hs.ext hx)) ?_
  rintro v G1 hx1 rfl
  have hn1 := hx1.next
  simp +decide (disch := first | assumption | (apply GH.ok_push; assumption) | exact cellV_int _ _ | exact cellV_bool _ | omega) only [go_sem, ↓reduceIte, Nat.reduceEqDiff, Nat.reduceAdd, Int.reduceToNat, e0, e1]
  refine CallD.calm (hAt _) ?_
  rintro v G2 hx2 ⟨u, rfl, hu⟩
  have hn2 := hx2.next
  simp +decide (disch := first | assumption | (apply GH.ok_push; assumption) | exact cellV_int _ _ | exact cellV_bool _ | omega) only [go_sem, ↓reduceIte, Nat.reduceEqDiff, Nat.reduceAdd, Int.reduceToNat, e0, e1]
  refine CallD.calm (hAr _) ?_
  rintro v G3 hx3 ⟨w, rfl, hw⟩
  have hn3 := hx3.next
  simp +decide (disch := first | assumption | (apply GH.ok_push; assumption) | exact cellV_int _ _ | exact cellV_bool _ | omega) only [go_sem, ↓reduceIte, Nat.reduceEqDiff, Nat.reduceAdd, Int.reduceToNat, e0, e1]
  refine CallD.calm (same_rets hX.toXok k3 k3 (by simp at hal; omega) (by simp at hal; omega) u w G3 (hu.ext hx3) hw) ?_
  rintro v G4 hx4 rfl
  have hn4 := hx4.next
  have hself : decide (k3 = k3) = true := decide_eq_true rfl
  rw [hself]
  simp +decide (disch := first | assumption | (apply GH.ok_push; assumption) | exact cellV_int _ _ | exact cellV_bool _ | omega) only [go_sem, ↓reduceIte, Nat.reduceEqDiff, Nat.reduceAdd, Int.reduceToNat]
  refine CallD.calm (hX.alive _) ?_
  rintro v G5 hx5 rfl
  simp +decide (disch := first | assumption | (apply GH.ok_push; assumption) | exact cellV_int _ _ | exact cellV_bool _ | omega) only [go_sem, ↓reduceIte, Nat.reduceEqDiff, Nat.reduceAdd, Int.reduceToNat]
  intro hx0
  exact ⟨Nat.le_refl _, rfl⟩
end Go.Proofs.Yteeelcmnlomgmaa
