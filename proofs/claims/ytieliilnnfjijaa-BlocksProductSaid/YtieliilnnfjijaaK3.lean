import Derived.Test.YtieliilnnfjijaaK2
set_option linter.all false
set_option linter.unusedSimpArgs false
set_option linter.unnecessarySimpa false
set_option linter.unusedVariables false
set_option linter.unusedSectionVars false
set_option maxRecDepth 100000
set_option maxHeartbeats 4000000
set_option linter.unusedSimpArgs false
set_option linter.unusedVariables false
namespace Go.Proofs.Ytieliilnnfjijaa
open Go.Ds
/-! ## Ways -/
def fact : Nat → Int
  | 0 => 1
  | n + 1 => fact n * (n + 1)
theorem fact_bnd : ∀ n, n ≤ 20 → 1 ≤ fact n ∧ fact n ≤ 2432902008176640000 := by decide +kernel
def divs (x : Int) (l : List Int) : Int := l.foldl (fun a h => a.tdiv h) x
theorem divs_app (x : Int) (A B : List Int) : divs x (A ++ B) = divs (divs x A) B := by simp [divs]
theorem divs_snoc (x : Int) (L : List Int) (i : Nat) (h : i < L.length) : divs x (L.take (i + 1)) = (divs x (L.take i)).tdiv (L.getD i 0) := by
  rw [take_snoc L i h, divs_app]; rfl
theorem tdiv_bnd {x h : Int} (h0 : 0 ≤ x) (h1 : 1 ≤ h) : 0 ≤ x.tdiv h ∧ x.tdiv h ≤ x := by
  obtain ⟨a, rfl⟩ := Int.eq_ofNat_of_zero_le h0
  obtain ⟨b, rfl⟩ := Int.eq_ofNat_of_zero_le (show 0 ≤ h by omega)
  have := Nat.div_le_self a b
  rw [tdiv_pos]
  exact ⟨Int.natCast_nonneg _, Int.ofNat_le.2 this⟩
def waysN (L : List Int) : Int := divs (fact (sumL L).toNat) (hooksL L).flatten
def waysT (L : List Int) : Int × Int := if isShape L = true then (if 20 < sumL L then (0, 8) else (waysN L, 0)) else (0, 2)
theorem cnt_above : ∀ {L : List Int} {m : Int} (r : Nat) (c : Int), desc m L = true → r < L.length → c < L.getD r 0 → (r : Int) + 1 ≤ cnt L c
  | [], m, r, c, h, hr, hc => by simp at hr
  | x :: L, m, 0, c, h, hr, hc => by
    have := cnt_bnd L c
    simp at hc
    simp only [cnt, if_pos hc]; omega
  | x :: L, m, r + 1, c, h, hr, hc => by
    simp only [desc, Bool.and_eq_true, decide_eq_true_eq] at h
    have hr' : r < L.length := by simpa using hr
    have hc' : c < L.getD r 0 := by simpa using hc
    have h2 := desc_getD h.2 hr'
    have := cnt_above r c h.2 hr' hc'
    have hx : c < x := by omega
    simp only [cnt, if_pos hx]; omega
theorem hookV_pos {L : List Int} (h : desc 40 L = true) {r c : Nat} (hr : r < L.length) (hc : (c : Int) < L.getD r 0) : 1 ≤ hookV L r c ∧ hookV L r c ≤ 40 + L.length := by
  have h1 := cnt_above r (c : Int) h hr hc
  have h2 := desc_getD h hr
  have h3 := cnt_bnd L (c : Int)
  unfold hookV
  omega
theorem sumL_nonneg {m : Int} : ∀ {L : List Int}, desc m L = true → 0 ≤ sumL L := by
  intro L h
  have := sumL_bnd (L := L) (a := 0) (b := m) fun x hx => by have := desc_le h x hx; omega
  omega
theorem hooksL_getD {L : List Int} {r : Nat} (h : r < L.length) : (hooksL L).getD r [] = hookRow L r := by
  rw [List.getD_eq_getElem?_getD, hooksL_get h]; rfl
theorem divs_step (x : Int) {L : List Int} {r : Nat} (h : r < L.length) : divs x ((hooksL L).take (r + 1)).flatten = divs (divs x ((hooksL L).take r).flatten) (hookRow L r) := by
  rw [take_snocL _ r (by rw [hooksL_len]; exact h), hooksL_getD h, List.flatten_append, divs_app]; simp
def Bnd (x : Int) : Prop := 0 ≤ x ∧ x ≤ 2432902008176640000
theorem hookRow_get {L : List Int} {r c : Nat} (hc : (c : Int) < L.getD r 0) : (ints (hookRow L r))[c]? = some (.int .i64 (hookV L r c)) ∧ (hookRow L r).getD c 0 = hookV L r c ∧ c < (hookRow L r).length := by
  have h : c < (L.getD r 0).toNat := by omega
  have h2 : (hookRow L r).getD c 0 = hookV L r c := by rw [hookRow, rng_get _ h]
  have h3 : c < (hookRow L r).length := by rw [hookRow, rng_len]; exact h
  exact ⟨by rw [ints_get h3, h2], h2, h3⟩
section
variable {X : Caller} (hX : Xok X) (L : List Int) (hL : L.length < 1000000) (s : Value) (g : GH) (hs : SlR g s (ints L))
include hX hL hs
theorem ways_rets : Rets Try.prog X 39 [s] g (fun v g' lo => g.next ≤ lo ∧ v = .tuple #[.int .i64 (waysT L).1, .int .i64 (waysT L).2]) := by
  refine Rets.run hX.pres p39 (hX.free 39 (by decide) _ _) rfl fun ho => ?_
  simp +decide (disch := first | assumption | (apply GH.ok_push; assumption) | exact cellV_int _ _ | exact cellV_bool _ | omega) only [go_sem, ↓reduceIte, Nat.reduceEqDiff, Nat.reduceAdd, Int.reduceToNat]
  refine CallD.calm (isShape_rets hX L hL s g hs) ?_
  rintro v G hx rfl
  have hn := hx.next
  have hs1 := hs.ext hx
  by_cases c : isShape L = true
  · obtain ⟨c1, c2, c3⟩ := shape_facts c
    have c4 := sumL_nonneg c2
    simp +decide (disch := first | assumption | (apply GH.ok_push; assumption) | exact cellV_int _ _ | exact cellV_bool _ | omega) only [go_sem, ↓reduceIte, Nat.reduceEqDiff, Nat.reduceAdd, Int.reduceToNat, c]
    refine CallD.calm (count_rets hX L (desc_fits c2 (by omega)) s G hs1) ?_
    rintro v G2 hx2 rfl
    have hn2 := hx2.next
    have hs2 := hs1.ext hx2
    by_cases d : 20 < sumL L
    · simp +decide (disch := first | assumption | (apply GH.ok_push; assumption) | exact cellV_int _ _ | exact cellV_bool _ | omega) only [go_sem, ↓reduceIte, Nat.reduceEqDiff, Nat.reduceAdd, Int.reduceToNat]
      intro hx0
      exact ⟨by omega, by rw [waysT, if_pos c, if_pos d]⟩
    · obtain ⟨N, hN⟩ : ∃ N : Nat, sumL L = N := ⟨(sumL L).toNat, by omega⟩
      have hN20 : N ≤ 20 := by omega
      rw [hN]
      simp +decide (disch := first | assumption | (apply GH.ok_push; assumption) | exact cellV_int _ _ | exact cellV_bool _ | omega) only [go_sem, ↓reduceIte, Nat.reduceEqDiff, Nat.reduceAdd, Int.reduceToNat]
      refine Wk.loops (fun m e g' lo => g' = G2 ∧ g.next ≤ lo ∧ ∃ i : Nat, i + m = N ∧ (ev e (.s 0) = s ∧ ev e (.s 5) = .int .i64 (fact i) ∧ ev e (.s 18) = .int .i64 N ∧ ev e (.s 19) = .int .i64 i))
        (fun e g' lo => g' = G2 ∧ g.next ≤ lo ∧ (ev e (.s 0) = s ∧ ev e (.s 5) = .int .i64 (fact N))) (n := N) ?_ ?_ ?_
      · exact ⟨rfl, by omega, 0, by omega, (by simp +decide (disch := first | assumption | (apply GH.ok_push; assumption) | exact cellV_int _ _ | exact cellV_bool _ | omega) only [go_sem, ↓reduceIte, Nat.reduceEqDiff, Nat.reduceAdd, Int.reduceToNat, fact]; first | done | exact rfl)⟩
      · rintro e g' lo - - ⟨rfl, hlo, he⟩
        simp +decide (disch := first | assumption | (apply GH.ok_push; assumption) | exact cellV_int _ _ | exact cellV_bool _ | omega) only [go_sem, ↓reduceIte, Nat.reduceEqDiff, Nat.reduceAdd, Int.reduceToNat, he]
        refine CallD.calm (hooks_rets hX L (by omega) c2 s _ hs2) ?_
        rintro v G3 hx3 hv
        have hn3 := hx3.next
        have hlv := hv.len
        rw [hooksL_len] at hlv
        simp +decide (disch := first | assumption | (apply GH.ok_push; assumption) | exact cellV_int _ _ | exact cellV_bool _ | omega) only [go_sem, ↓reduceIte, Nat.reduceEqDiff, Nat.reduceAdd, Int.reduceToNat, hlv]
        refine Wk.loops (fun m e g' lo => g' = G3 ∧ g.next ≤ lo ∧ ∃ i : Nat, i + m = L.length ∧ (ev e (.s 5) = .int .i64 (divs (fact N) ((hooksL L).take i).flatten) ∧ ev e (.s 28) = v ∧ ev e (.s 29) = .int .i64 L.length ∧ ev e (.s 30) = .int .i64 i) ∧ Bnd (divs (fact N) ((hooksL L).take i).flatten))
          (fun e g' lo => g' = G3 ∧ g.next ≤ lo ∧ ev e (.s 5) = .int .i64 (waysN L)) (n := L.length) ?_ ?_ ?_
        · refine ⟨rfl, by omega, 0, by omega, (by simp +decide (disch := first | assumption | (apply GH.ok_push; assumption) | exact cellV_int _ _ | exact cellV_bool _ | omega) only [go_sem, ↓reduceIte, Nat.reduceEqDiff, Nat.reduceAdd, Int.reduceToNat, he, List.take_zero, List.flatten_nil, divs, List.foldl_nil]; first | done | exact rfl), ?_⟩
          have := fact_bnd N hN20
          exact ⟨by show 0 ≤ fact N; omega, by show fact N ≤ _; omega⟩
        · rintro e g' lo - - ⟨rfl, hlo, he⟩
          simp +decide (disch := first | assumption | (apply GH.ok_push; assumption) | exact cellV_int _ _ | exact cellV_bool _ | omega) only [go_sem, ↓reduceIte, Nat.reduceEqDiff, Nat.reduceAdd, Int.reduceToNat, he]
          intro hx0
          exact ⟨by omega, by rw [waysT, if_pos c, if_neg d]⟩
        · rintro m e g' lo ho' hl' ih out ⟨rfl, hlo, i, hi, he, hb⟩
          by_cases ci : i < L.length
          · obtain ⟨u, j1, o1, hj1, hp1, hp2, hu⟩ := hv.ptr (i := i) (by rw [hooksL_len]; exact ci)
            have hp1 := hp1 (i : Int) rfl
            rw [hooksL_getD ci] at hu
            have hlu := hu.len
            rw [ints_len, hookRow, rng_len] at hlu
            have hrow := desc_getD c2 ci
            obtain ⟨n, hn1, hn2⟩ : ∃ n : Nat, L.getD i 0 = n ∧ (L.getD i 0).toNat = n := ⟨(L.getD i 0).toNat, by omega, rfl⟩
            rw [hn2] at hlu
            simp +decide (disch := first | assumption | (apply GH.ok_push; assumption) | exact cellV_int _ _ | exact cellV_bool _ | omega) only [go_sem, ↓reduceIte, Nat.reduceEqDiff, Nat.reduceAdd, Int.reduceToNat, he, hp1, hp2, hlu]
            have hst := divs_step (fact N) ci
            obtain ⟨x, hxx⟩ : ∃ x, divs (fact N) ((hooksL L).take i).flatten = x := ⟨_, rfl⟩
            rw [hxx] at he hb hst
            refine Wk.loops (fun m e g2 lo2 => g2 = g' ∧ g.next ≤ lo2 ∧ ∃ c : Nat, c + m = n ∧ (ev e (.s 5) = .int .i64 (divs x ((hookRow L i).take c)) ∧ ev e (.s 28) = v ∧ ev e (.s 29) = .int .i64 L.length ∧ ev e (.s 30) = .int .i64 i ∧ ev e (.s 34) = u ∧ ev e (.s 35) = .int .i64 n ∧ ev e (.s 36) = .int .i64 c) ∧ Bnd (divs x ((hookRow L i).take c)))
              (fun e g2 lo2 => g2 = g' ∧ g.next ≤ lo2 ∧ (ev e (.s 5) = .int .i64 (divs x (hookRow L i)) ∧ ev e (.s 28) = v ∧ ev e (.s 29) = .int .i64 L.length ∧ ev e (.s 30) = .int .i64 i) ∧ Bnd (divs x (hookRow L i))) (n := n) ?_ ?_ ?_
            · exact ⟨rfl, hlo, 0, by omega, (by simp +decide (disch := first | assumption | (apply GH.ok_push; assumption) | exact cellV_int _ _ | exact cellV_bool _ | omega) only [go_sem, ↓reduceIte, Nat.reduceEqDiff, Nat.reduceAdd, Int.reduceToNat, he, List.take_zero, divs, List.foldl_nil]; first | done | exact rfl), hb⟩
            · rintro e g2 lo2 - - ⟨rfl, hlo2, he, hb⟩
              simp +decide (disch := first | assumption | (apply GH.ok_push; assumption) | exact cellV_int _ _ | exact cellV_bool _ | omega) only [go_sem, ↓reduceIte, Nat.reduceEqDiff, Nat.reduceAdd, Int.reduceToNat, he]
              exact ih (m - 1) _ _ _ (by omega) ⟨rfl, hlo2, i + 1, by omega, (by simp +decide (disch := first | assumption | (apply GH.ok_push; assumption) | exact cellV_int _ _ | exact cellV_bool _ | omega) only [go_sem, ↓reduceIte, Nat.reduceEqDiff, Nat.reduceAdd, Int.reduceToNat, he, hst]; first | done | exact rfl), by rw [hst]; exact hb⟩
            · rintro m2 e g2 lo2 ho2 hl2 ih2 out2 ⟨rfl, hlo2, k, hk, he, hb⟩
              by_cases ck : k < n
              · obtain ⟨q1, q2, q3⟩ := hookRow_get (L := L) (r := i) (c := k) (by omega)
                obtain ⟨j2, o2, hj2, hr1, hr2⟩ := hu.ptr q1
                have hr1 := hr1 (k : Int) rfl
                have hpos := hookV_pos c2 ci (c := k) (by omega)
                have hds := divs_snoc x (hookRow L i) k q3
                rw [q2] at hds
                have hb2 := tdiv_bnd hb.1 hpos.1
                have hb1 := hb.2
                have hb0 := hb.1
                simp +decide (disch := first | assumption | (apply GH.ok_push; assumption) | exact cellV_int _ _ | exact cellV_bool _ | omega) only [go_sem, ↓reduceIte, Nat.reduceEqDiff, Nat.reduceAdd, Int.reduceToNat, he, hr1, hr2]
                exact ih2 (m2 - 1) _ _ _ (by omega) ⟨rfl, hlo2, k + 1, by omega, (by simp +decide (disch := first | assumption | (apply GH.ok_push; assumption) | exact cellV_int _ _ | exact cellV_bool _ | omega) only [go_sem, ↓reduceIte, Nat.reduceEqDiff, Nat.reduceAdd, Int.reduceToNat, he, hds]; first | done | exact rfl), by rw [hds]; exact ⟨hb2.1, by omega⟩⟩
              · have htk : (hookRow L i).take k = hookRow L i := List.take_of_length_le (by rw [hookRow, rng_len]; omega)
                rw [htk] at he hb
                simp +decide (disch := first | assumption | (apply GH.ok_push; assumption) | exact cellV_int _ _ | exact cellV_bool _ | omega) only [go_sem, ↓reduceIte, Nat.reduceEqDiff, Nat.reduceAdd, Int.reduceToNat, he]
                exact out2 _ _ _ ⟨rfl, hlo2, (by simp +decide (disch := first | assumption | (apply GH.ok_push; assumption) | exact cellV_int _ _ | exact cellV_bool _ | omega) only [go_sem, ↓reduceIte, Nat.reduceEqDiff, Nat.reduceAdd, Int.reduceToNat, he]; first | done | exact rfl), hb⟩
          · have htk : (hooksL L).take i = hooksL L := List.take_of_length_le (by rw [hooksL_len]; omega)
            have hw : divs (fact N) (hooksL L).flatten = waysN L := by rw [waysN, hN]; rfl
            rw [htk, hw] at he
            simp +decide (disch := first | assumption | (apply GH.ok_push; assumption) | exact cellV_int _ _ | exact cellV_bool _ | omega) only [go_sem, ↓reduceIte, Nat.reduceEqDiff, Nat.reduceAdd, Int.reduceToNat, he]
            exact out _ _ _ ⟨rfl, hlo, (by simp +decide (disch := first | assumption | (apply GH.ok_push; assumption) | exact cellV_int _ _ | exact cellV_bool _ | omega) only [go_sem, ↓reduceIte, Nat.reduceEqDiff, Nat.reduceAdd, Int.reduceToNat, he]; first | done | exact rfl)⟩
      · rintro m e g' lo ho' hl' ih out ⟨rfl, hlo, i, hi, he⟩
        by_cases ci : i < N
        · have hb := fact_bnd (i + 1) (by omega)
          have hb2 := fact_bnd i (by omega)
          have hf : fact (i + 1) = fact i * ((i : Int) + 1) := rfl
          rw [hf] at hb
          simp +decide (disch := first | assumption | (apply GH.ok_push; assumption) | exact cellV_int _ _ | exact cellV_bool _ | omega) only [go_sem, ↓reduceIte, Nat.reduceEqDiff, Nat.reduceAdd, Int.reduceToNat, he]
          exact ih (m - 1) _ _ _ (by omega) ⟨rfl, hlo, i + 1, by omega, (by simp +decide (disch := first | assumption | (apply GH.ok_push; assumption) | exact cellV_int _ _ | exact cellV_bool _ | omega) only [go_sem, ↓reduceIte, Nat.reduceEqDiff, Nat.reduceAdd, Int.reduceToNat, he, hf]; first | done | exact rfl)⟩
        · have hiN : i = N := by omega
          rw [hiN] at he
          simp +decide (disch := first | assumption | (apply GH.ok_push; assumption) | exact cellV_int _ _ | exact cellV_bool _ | omega) only [go_sem, ↓reduceIte, Nat.reduceEqDiff, Nat.reduceAdd, Int.reduceToNat, he]
          exact out _ _ _ ⟨rfl, hlo, (by simp +decide (disch := first | assumption | (apply GH.ok_push; assumption) | exact cellV_int _ _ | exact cellV_bool _ | omega) only [go_sem, ↓reduceIte, Nat.reduceEqDiff, Nat.reduceAdd, Int.reduceToNat, he]; first | done | exact rfl)⟩
  · have c' : isShape L = false := by simpa using c
    simp +decide (disch := first | assumption | (apply GH.ok_push; assumption) | exact cellV_int _ _ | exact cellV_bool _ | omega) only [go_sem, ↓reduceIte, Nat.reduceEqDiff, Nat.reduceAdd, Int.reduceToNat, c']
    intro hx0
    exact ⟨by omega, by rw [waysT, if_neg c]⟩
theorem refWays_rets : Rets Try.prog X 40 [s] g (fun v g' lo => g.next ≤ lo ∧ v = .tuple #[.int .i64 (waysT L).1, .int .i64 (waysT L).2]) := by
  refine Rets.run hX.pres p40 (hX.free 40 (by decide) _ _) rfl fun ho => ?_
  simp +decide (disch := first | assumption | (apply GH.ok_push; assumption) | exact cellV_int _ _ | exact cellV_bool _ | omega) only [go_sem, ↓reduceIte, Nat.reduceEqDiff, Nat.reduceAdd, Int.reduceToNat]
  refine CallD.calm (refIsShape_rets hX L hL s g hs) ?_
  rintro v G hx rfl
  have hn := hx.next
  have hs1 := hs.ext hx
  by_cases c : isShape L = true
  · obtain ⟨c1, c2, c3⟩ := shape_facts c
    have c4 := sumL_nonneg c2
    simp +decide (disch := first | assumption | (apply GH.ok_push; assumption) | exact cellV_int _ _ | exact cellV_bool _ | omega) only [go_sem, ↓reduceIte, Nat.reduceEqDiff, Nat.reduceAdd, Int.reduceToNat, c]
    refine CallD.calm (refSum_rets hX L (desc_fits c2 (by omega)) s G hs1) ?_
    rintro v G2 hx2 rfl
    have hn2 := hx2.next
    have hs2 := hs1.ext hx2
    by_cases d : 20 < sumL L
    · simp +decide (disch := first | assumption | (apply GH.ok_push; assumption) | exact cellV_int _ _ | exact cellV_bool _ | omega) only [go_sem, ↓reduceIte, Nat.reduceEqDiff, Nat.reduceAdd, Int.reduceToNat]
      intro hx0
      exact ⟨by omega, by rw [waysT, if_pos c, if_pos d]⟩
    · obtain ⟨N, hN⟩ : ∃ N : Nat, sumL L = N := ⟨(sumL L).toNat, by omega⟩
      have hN20 : N ≤ 20 := by omega
      rw [hN]
      simp +decide (disch := first | assumption | (apply GH.ok_push; assumption) | exact cellV_int _ _ | exact cellV_bool _ | omega) only [go_sem, ↓reduceIte, Nat.reduceEqDiff, Nat.reduceAdd, Int.reduceToNat]
      refine Wk.loops (fun m e g' lo => g' = G2 ∧ g.next ≤ lo ∧ ∃ i : Nat, i + m = N + 3 ∧ 1 ≤ i ∧ (i ≤ N ∨ i = 1) ∧ (ev e (.s 0) = s ∧ ev e (.s 4) = .int .i64 N ∧ ev e (.s 5) = .int .i64 (fact i) ∧ ev e (.s 6) = .int .i64 ((i : Int) + 1)))
        (fun e g' lo => g' = G2 ∧ g.next ≤ lo ∧ (ev e (.s 0) = s ∧ ev e (.s 5) = .int .i64 (fact N))) (n := N + 2) ?_ ?_ ?_
      · exact ⟨rfl, by omega, 1, by omega, Nat.le_refl _, .inr rfl, (by simp +decide (disch := first | assumption | (apply GH.ok_push; assumption) | exact cellV_int _ _ | exact cellV_bool _ | omega) only [go_sem, ↓reduceIte, Nat.reduceEqDiff, Nat.reduceAdd, Int.reduceToNat, show fact 1 = 1 from rfl]; first | done | exact rfl)⟩
      · rintro e g' lo - - ⟨rfl, hlo, he⟩
        simp +decide (disch := first | assumption | (apply GH.ok_push; assumption) | exact cellV_int _ _ | exact cellV_bool _ | omega) only [go_sem, ↓reduceIte, Nat.reduceEqDiff, Nat.reduceAdd, Int.reduceToNat, he]
        refine CallD.calm (refLengths_rets hX L (by omega) c2 s _ hs2) ?_
        rintro v G3 hx3 hv
        have hn3 := hx3.next
        have hlv := hv.len
        rw [hooksL_len] at hlv
        simp +decide (disch := first | assumption | (apply GH.ok_push; assumption) | exact cellV_int _ _ | exact cellV_bool _ | omega) only [go_sem, ↓reduceIte, Nat.reduceEqDiff, Nat.reduceAdd, Int.reduceToNat, hlv]
        refine Wk.loops (fun m e g' lo => g' = G3 ∧ g.next ≤ lo ∧ ∃ i : Nat, i + m = L.length ∧ (ev e (.s 5) = .int .i64 (divs (fact N) ((hooksL L).take i).flatten) ∧ ev e (.s 7) = v ∧ ev e (.s 8) = .int .i64 i) ∧ Bnd (divs (fact N) ((hooksL L).take i).flatten))
          (fun e g' lo => g' = G3 ∧ g.next ≤ lo ∧ ev e (.s 5) = .int .i64 (waysN L)) (n := L.length) ?_ ?_ ?_
        · refine ⟨rfl, by omega, 0, by omega, (by simp +decide (disch := first | assumption | (apply GH.ok_push; assumption) | exact cellV_int _ _ | exact cellV_bool _ | omega) only [go_sem, ↓reduceIte, Nat.reduceEqDiff, Nat.reduceAdd, Int.reduceToNat, he, List.take_zero, List.flatten_nil, divs, List.foldl_nil]; first | done | exact rfl), ?_⟩
          have := fact_bnd N hN20
          exact ⟨by show 0 ≤ fact N; omega, by show fact N ≤ _; omega⟩
        · rintro e g' lo - - ⟨rfl, hlo, he⟩
          simp +decide (disch := first | assumption | (apply GH.ok_push; assumption) | exact cellV_int _ _ | exact cellV_bool _ | omega) only [go_sem, ↓reduceIte, Nat.reduceEqDiff, Nat.reduceAdd, Int.reduceToNat, he]
          intro hx0
          exact ⟨by omega, by rw [waysT, if_pos c, if_neg d]⟩
        · rintro m e g' lo ho' hl' ih out ⟨rfl, hlo, i, hi, he, hb⟩
          by_cases ci : i < L.length
          · obtain ⟨u, j1, o1, hj1, hp1, hp2, hu⟩ := hv.ptr (i := i) (by rw [hooksL_len]; exact ci)
            have hp1 := hp1 (i : Int) rfl
            rw [hooksL_getD ci] at hu
            have hlu := hu.len
            rw [ints_len, hookRow, rng_len] at hlu
            have hrow := desc_getD c2 ci
            obtain ⟨n, hn1, hn2⟩ : ∃ n : Nat, L.getD i 0 = n ∧ (L.getD i 0).toNat = n := ⟨(L.getD i 0).toNat, by omega, rfl⟩
            rw [hn2] at hlu
            simp +decide (disch := first | assumption | (apply GH.ok_push; assumption) | exact cellV_int _ _ | exact cellV_bool _ | omega) only [go_sem, ↓reduceIte, Nat.reduceEqDiff, Nat.reduceAdd, Int.reduceToNat, he, hlv]
            have hst := divs_step (fact N) ci
            obtain ⟨x, hxx⟩ : ∃ x, divs (fact N) ((hooksL L).take i).flatten = x := ⟨_, rfl⟩
            rw [hxx] at he hb hst
            refine Wk.loops (fun m e g2 lo2 => g2 = g' ∧ g.next ≤ lo2 ∧ ∃ c : Nat, c + m = n ∧ (ev e (.s 5) = .int .i64 (divs x ((hookRow L i).take c)) ∧ ev e (.s 7) = v ∧ ev e (.s 8) = .int .i64 i ∧ ev e (.s 9) = .int .i64 c) ∧ Bnd (divs x ((hookRow L i).take c)))
              (fun e g2 lo2 => g2 = g' ∧ g.next ≤ lo2 ∧ (ev e (.s 5) = .int .i64 (divs x (hookRow L i)) ∧ ev e (.s 7) = v ∧ ev e (.s 8) = .int .i64 i) ∧ Bnd (divs x (hookRow L i))) (n := n) ?_ ?_ ?_
            · exact ⟨rfl, hlo, 0, by omega, (by simp +decide (disch := first | assumption | (apply GH.ok_push; assumption) | exact cellV_int _ _ | exact cellV_bool _ | omega) only [go_sem, ↓reduceIte, Nat.reduceEqDiff, Nat.reduceAdd, Int.reduceToNat, he, List.take_zero, divs, List.foldl_nil]; first | done | exact rfl), hb⟩
            · rintro e g2 lo2 - - ⟨rfl, hlo2, he, hb⟩
              simp +decide (disch := first | assumption | (apply GH.ok_push; assumption) | exact cellV_int _ _ | exact cellV_bool _ | omega) only [go_sem, ↓reduceIte, Nat.reduceEqDiff, Nat.reduceAdd, Int.reduceToNat, he]
              exact ih (m - 1) _ _ _ (by omega) ⟨rfl, hlo2, i + 1, by omega, (by simp +decide (disch := first | assumption | (apply GH.ok_push; assumption) | exact cellV_int _ _ | exact cellV_bool _ | omega) only [go_sem, ↓reduceIte, Nat.reduceEqDiff, Nat.reduceAdd, Int.reduceToNat, he, hst]; first | done | exact rfl), by rw [hst]; exact hb⟩
            · rintro m2 e g2 lo2 ho2 hl2 ih2 out2 ⟨rfl, hlo2, k, hk, he, hb⟩
              by_cases ck : k < n
              · obtain ⟨q1, q2, q3⟩ := hookRow_get (L := L) (r := i) (c := k) (by omega)
                obtain ⟨j2, o2, hj2, hr1, hr2⟩ := hu.ptr q1
                have hr1 := hr1 (k : Int) rfl
                have hpos := hookV_pos c2 ci (c := k) (by omega)
                have hds := divs_snoc x (hookRow L i) k q3
                rw [q2] at hds
                have hb2 := tdiv_bnd hb.1 hpos.1
                have hb1 := hb.2
                have hb0 := hb.1
                simp +decide (disch := first | assumption | (apply GH.ok_push; assumption) | exact cellV_int _ _ | exact cellV_bool _ | omega) only [go_sem, ↓reduceIte, Nat.reduceEqDiff, Nat.reduceAdd, Int.reduceToNat, he, hp1, hp2, hlu, hr1, hr2]
                exact ih2 (m2 - 1) _ _ _ (by omega) ⟨rfl, hlo2, k + 1, by omega, (by simp +decide (disch := first | assumption | (apply GH.ok_push; assumption) | exact cellV_int _ _ | exact cellV_bool _ | omega) only [go_sem, ↓reduceIte, Nat.reduceEqDiff, Nat.reduceAdd, Int.reduceToNat, he, hds]; first | done | exact rfl), by rw [hds]; exact ⟨hb2.1, by omega⟩⟩
              · have htk : (hookRow L i).take k = hookRow L i := List.take_of_length_le (by rw [hookRow, rng_len]; omega)
                rw [htk] at he hb
                simp +decide (disch := first | assumption | (apply GH.ok_push; assumption) | exact cellV_int _ _ | exact cellV_bool _ | omega) only [go_sem, ↓reduceIte, Nat.reduceEqDiff, Nat.reduceAdd, Int.reduceToNat, he, hp1, hp2, hlu]
                exact out2 _ _ _ ⟨rfl, hlo2, (by simp +decide (disch := first | assumption | (apply GH.ok_push; assumption) | exact cellV_int _ _ | exact cellV_bool _ | omega) only [go_sem, ↓reduceIte, Nat.reduceEqDiff, Nat.reduceAdd, Int.reduceToNat, he]; first | done | exact rfl), hb⟩
          · have htk : (hooksL L).take i = hooksL L := List.take_of_length_le (by rw [hooksL_len]; omega)
            have hw : divs (fact N) (hooksL L).flatten = waysN L := by rw [waysN, hN]; rfl
            rw [htk, hw] at he
            simp +decide (disch := first | assumption | (apply GH.ok_push; assumption) | exact cellV_int _ _ | exact cellV_bool _ | omega) only [go_sem, ↓reduceIte, Nat.reduceEqDiff, Nat.reduceAdd, Int.reduceToNat, he, hlv]
            exact out _ _ _ ⟨rfl, hlo, (by simp +decide (disch := first | assumption | (apply GH.ok_push; assumption) | exact cellV_int _ _ | exact cellV_bool _ | omega) only [go_sem, ↓reduceIte, Nat.reduceEqDiff, Nat.reduceAdd, Int.reduceToNat, he]; first | done | exact rfl)⟩
      · rintro m e g' lo ho' hl' ih out ⟨rfl, hlo, i, hi, hi1, hi2, he⟩
        by_cases ci : i < N
        · have hb := fact_bnd (i + 1) (by omega)
          have hb2 := fact_bnd i (by omega)
          have hf : fact (i + 1) = fact i * ((i : Int) + 1) := rfl
          rw [hf] at hb
          simp +decide (disch := first | assumption | (apply GH.ok_push; assumption) | exact cellV_int _ _ | exact cellV_bool _ | omega) only [go_sem, ↓reduceIte, Nat.reduceEqDiff, Nat.reduceAdd, Int.reduceToNat, he]
          exact ih (m - 1) _ _ _ (by omega) ⟨rfl, hlo, i + 1, by omega, by omega, by omega, (by simp +decide (disch := first | assumption | (apply GH.ok_push; assumption) | exact cellV_int _ _ | exact cellV_bool _ | omega) only [go_sem, ↓reduceIte, Nat.reduceEqDiff, Nat.reduceAdd, Int.reduceToNat, he, hf]; first | done | exact rfl)⟩
        · have hfN : fact i = fact N := by
            rcases hi2 with hi2 | hi2
            · rw [show i = N by omega]
            · rcases (show N = 0 ∨ N = 1 by omega) with h | h <;> rw [hi2, h] <;> rfl
          rw [hfN] at he
          simp +decide (disch := first | assumption | (apply GH.ok_push; assumption) | exact cellV_int _ _ | exact cellV_bool _ | omega) only [go_sem, ↓reduceIte, Nat.reduceEqDiff, Nat.reduceAdd, Int.reduceToNat, he]
          exact out _ _ _ ⟨rfl, hlo, (by simp +decide (disch := first | assumption | (apply GH.ok_push; assumption) | exact cellV_int _ _ | exact cellV_bool _ | omega) only [go_sem, ↓reduceIte, Nat.reduceEqDiff, Nat.reduceAdd, Int.reduceToNat, he]; first | done | exact rfl)⟩
  · have c' : isShape L = false := by simpa using c
    simp +decide (disch := first | assumption | (apply GH.ok_push; assumption) | exact cellV_int _ _ | exact cellV_bool _ | omega) only [go_sem, ↓reduceIte, Nat.reduceEqDiff, Nat.reduceAdd, Int.reduceToNat, c']
    intro hx0
    exact ⟨by omega, by rw [waysT, if_neg c]⟩
end
/-- The law of the ways. -/
theorem waysLaw_rets {X : Caller} (hX : Xok X) (L : List Int) (s : Value) (g : GH) (hs : SlR g s (ints L)) :
    Rets Try.prog X 7 [s] g (fun v g' lo => g.next ≤ lo ∧ v = .bool true) := by
  refine Rets.run hX.pres p7 (hX.free 7 (by decide) _ _) rfl fun ho => ?_
  simp +decide (disch := first | assumption | (apply GH.ok_push; assumption) | exact cellV_int _ _ | exact cellV_bool _ | omega) only [go_sem, ↓reduceIte, Nat.reduceEqDiff, Nat.reduceAdd, Int.reduceToNat]
  refine CallD.calm (few_rets hX L [] s _ g hs Sl2.nil) ?_
  rintro v G hx rfl
  have hn := hx.next
  have hs1 := hs.ext hx
  by_cases c : L.length ≤ 60
  · have hf : fewB L [] = true := by simp [fewB, c]
    simp +decide (disch := first | assumption | (apply GH.ok_push; assumption) | exact cellV_int _ _ | exact cellV_bool _ | omega) only [go_sem, ↓reduceIte, Nat.reduceEqDiff, Nat.reduceAdd, Int.reduceToNat, hf]
    refine CallD.calm (ways_rets hX L (by omega) s G hs1) ?_
    rintro v G1 hx1 rfl
    have hn1 := hx1.next
    simp +decide (disch := first | assumption | (apply GH.ok_push; assumption) | exact cellV_int _ _ | exact cellV_bool _ | omega) only [go_sem, ↓reduceIte, Nat.reduceEqDiff, Nat.reduceAdd, Int.reduceToNat, ext0, ext1]
    refine CallD.calm (refWays_rets hX L (by omega) s G1 (hs1.ext hx1)) ?_
    rintro v G2 hx2 rfl
    have hn2 := hx2.next
    simp +decide (disch := first | assumption | (apply GH.ok_push; assumption) | exact cellV_int _ _ | exact cellV_bool _ | omega) only [go_sem, ↓reduceIte, Nat.reduceEqDiff, Nat.reduceAdd, Int.reduceToNat, ext0, ext1]
    refine CallD.calm (hX.alive G2) ?_
    rintro v G3 hx3 rfl
    have hn3 := hx3.next
    simp +decide (disch := first | assumption | (apply GH.ok_push; assumption) | exact cellV_int _ _ | exact cellV_bool _ | omega) only [go_sem, ↓reduceIte, Nat.reduceEqDiff, Nat.reduceAdd, Int.reduceToNat]
    intro hx0
    exact ⟨by omega, rfl⟩
  · have hf : fewB L [] = false := by simp [fewB, c]
    simp +decide (disch := first | assumption | (apply GH.ok_push; assumption) | exact cellV_int _ _ | exact cellV_bool _ | omega) only [go_sem, ↓reduceIte, Nat.reduceEqDiff, Nat.reduceAdd, Int.reduceToNat, hf]
    refine CallD.calm (hX.alive G) ?_
    rintro v G1 hx1 rfl
    have hn1 := hx1.next
    simp +decide (disch := first | assumption | (apply GH.ok_push; assumption) | exact cellV_int _ _ | exact cellV_bool _ | omega) only [go_sem, ↓reduceIte, Nat.reduceEqDiff, Nat.reduceAdd, Int.reduceToNat]
    intro hx0
    exact ⟨by omega, rfl⟩
end Go.Proofs.Ytieliilnnfjijaa
set_option maxRecDepth 100000
set_option maxHeartbeats 4000000
set_option linter.unusedSimpArgs false
set_option linter.unusedVariables false
namespace Go.Proofs.Ytieliilnnfjijaa
open Go.Ds
/-! ## All shapes with at most 20 blocks, reckoned through -/
def cntN : List Nat → Nat → Nat
  | [], _ => 0
  | x :: l, c => bif Nat.blt c x then Nat.succ (cntN l c) else cntN l c
def rowP (x : Nat) (l : List Nat) : Nat → Nat
  | 0 => 1
  | c + 1 => Nat.mul (rowP x l c) (Nat.add (Nat.sub x c) (cntN l c))
def HN : List Nat → Nat
  | [] => 1
  | x :: l => Nat.mul (rowP x l x) (HN l)
def headN : List Nat → Nat
  | [] => 0
  | x :: _ => x
def decN (x : Nat) (l : List Nat) : List Nat := bif Nat.beq x 1 then l else Nat.pred x :: l
def sumC (f : List Nat → Nat) : List Nat → Nat
  | [] => 0
  | x :: l => Nat.add (bif Nat.blt (headN l) x then f (decN x l) else 0) (sumC (fun l' => f (x :: l')) l)
def partsN : Nat → Nat → Nat → List (List Nat)
  | _, 0, _ => [[]]
  | 0, _ + 1, _ => []
  | f + 1, n + 1, m => (List.range (min m (n + 1))).flatMap fun k => (partsN f (n - k) (k + 1)).map (Nat.succ k :: ·)
def chkN (n F F' : Nat) (p : List Nat) : Bool := Nat.beq (Nat.mod F (HN p)) 0 && (Nat.beq n 0 || Nat.beq (sumC (fun q => Nat.div F' (HN q)) p) (Nat.div F (HN p)))
def chkAll (n F F' : Nat) : Bool := (partsN n n n).all (chkN n F F')
def sumN : List Nat → Nat
  | [] => 0
  | x :: l => x + sumN l
def descN : Nat → List Nat → Prop
  | _, [] => True
  | m, x :: l => 1 ≤ x ∧ x ≤ m ∧ descN x l
theorem partsN_all : ∀ (f n m : Nat) (L : List Nat), n ≤ f → descN m L → sumN L = n → L ∈ partsN f n m
  | f, 0, m, L, hf, hd, hs => by
    cases L with
    | nil => simp [partsN]
    | cons x L => simp only [descN, sumN] at hd hs; omega
  | 0, n + 1, m, L, hf, hd, hs => by omega
  | f + 1, n + 1, m, L, hf, hd, hs => by
    cases L with
    | nil => simp [sumN] at hs
    | cons x L =>
      simp only [descN, sumN] at hd hs
      obtain ⟨k, rfl⟩ : ∃ k : Nat, x = k + 1 := ⟨x - 1, by omega⟩
      have := partsN_all f (n - k) (k + 1) L (by omega) hd.2.2 (by omega)
      simp only [partsN, List.mem_flatMap, List.mem_range, List.mem_map]
      exact ⟨k, by omega, L, this, rfl⟩
theorem chk_of {n F F' : Nat} (h : chkAll n F F' = true) {L : List Nat} (hd : descN n L) (hs : sumN L = n) : chkN n F F' L = true := by
  unfold chkAll at h
  rw [List.all_eq_true] at h
  exact h L (partsN_all n n n L (Nat.le_refl _) hd hs)
def factN : Nat → Nat
  | 0 => 1
  | n + 1 => factN n * (n + 1)
theorem chk0 : chkAll 0 1 1 = true := by decide +kernel
theorem chk1 : chkAll 1 1 1 = true := by decide +kernel
theorem chk2 : chkAll 2 2 1 = true := by decide +kernel
theorem chk3 : chkAll 3 6 2 = true := by decide +kernel
theorem chk4 : chkAll 4 24 6 = true := by decide +kernel
theorem chk5 : chkAll 5 120 24 = true := by decide +kernel
theorem chk6 : chkAll 6 720 120 = true := by decide +kernel
theorem chk7 : chkAll 7 5040 720 = true := by decide +kernel
theorem chk8 : chkAll 8 40320 5040 = true := by decide +kernel
theorem chk9 : chkAll 9 362880 40320 = true := by decide +kernel
theorem chk10 : chkAll 10 3628800 362880 = true := by decide +kernel
theorem chk11 : chkAll 11 39916800 3628800 = true := by decide +kernel
theorem chk12 : chkAll 12 479001600 39916800 = true := by decide +kernel
theorem chk13 : chkAll 13 6227020800 479001600 = true := by decide +kernel
theorem chk14 : chkAll 14 87178291200 6227020800 = true := by decide +kernel
theorem chk15 : chkAll 15 1307674368000 87178291200 = true := by decide +kernel
theorem chk16 : chkAll 16 20922789888000 1307674368000 = true := by decide +kernel
theorem chk17 : chkAll 17 355687428096000 20922789888000 = true := by decide +kernel
theorem chk18 : chkAll 18 6402373705728000 355687428096000 = true := by decide +kernel
theorem chk19 : chkAll 19 121645100408832000 6402373705728000 = true := by decide +kernel
theorem chk20 : chkAll 20 2432902008176640000 121645100408832000 = true := by decide +kernel
theorem chk_all (n : Nat) (hn : n ≤ 20) : chkAll n (factN n) (factN (n - 1)) = true := by
  match n, hn with
  | 0, _ => exact chk0
  | 1, _ => exact chk1
  | 2, _ => exact chk2
  | 3, _ => exact chk3
  | 4, _ => exact chk4
  | 5, _ => exact chk5
  | 6, _ => exact chk6
  | 7, _ => exact chk7
  | 8, _ => exact chk8
  | 9, _ => exact chk9
  | 10, _ => exact chk10
  | 11, _ => exact chk11
  | 12, _ => exact chk12
  | 13, _ => exact chk13
  | 14, _ => exact chk14
  | 15, _ => exact chk15
  | 16, _ => exact chk16
  | 17, _ => exact chk17
  | 18, _ => exact chk18
  | 19, _ => exact chk19
  | 20, _ => exact chk20
  | n + 21, h => exact absurd h (by omega)
end Go.Proofs.Ytieliilnnfjijaa
set_option maxRecDepth 100000
set_option maxHeartbeats 4000000
set_option linter.unusedSimpArgs false
set_option linter.unusedVariables false
namespace Go.Proofs.Ytieliilnnfjijaa
open Go.Ds
def up (l : List Nat) : List Int := l.map Int.ofNat
theorem desc_up : ∀ {m : Int} {L : List Int}, desc m L = true → ∃ p, L = up p ∧ descN m.toNat p ∧ (sumN p : Int) = sumL L
  | m, [], _ => ⟨[], rfl, trivial, rfl⟩
  | m, x :: L, h => by
    simp only [desc, Bool.and_eq_true, decide_eq_true_eq] at h
    obtain ⟨p, rfl, h1, h2⟩ := desc_up h.2
    refine ⟨x.toNat :: p, ?_, ⟨by omega, by omega, h1⟩, ?_⟩
    · simp only [up, List.map_cons, List.cons.injEq, and_true]
      show x = (x.toNat : Int); omega
    · simp only [sumN, sumL, Int.natCast_add, h2]; omega
theorem descN_mono : ∀ {L : List Nat} {m m' : Nat}, descN m L → (∀ x, L.head? = some x → x ≤ m') → descN m' L
  | [], _, _, _, _ => trivial
  | x :: L, m, m', h, k => ⟨h.1, k x rfl, h.2.2⟩
theorem descN_sum : ∀ {L : List Nat} {m : Nat}, descN m L → descN (sumN L) L
  | [], _, _ => trivial
  | x :: L, m, h => ⟨h.1, by simp only [sumN]; omega, h.2.2⟩
theorem up_getD (p : List Nat) (i : Nat) : (up p).getD i 0 = (p.getD i 0 : Nat) := by
  unfold up
  simp only [List.getD_eq_getElem?_getD, List.getElem?_map]
  cases p[i]? <;> rfl
theorem up_len (p : List Nat) : (up p).length = p.length := by simp [up]
theorem cnt_up (p : List Nat) (c : Nat) : cnt (up p) c = (cntN p c : Nat) := by
  induction p with
  | nil => rfl
  | cons x p ih =>
    have : up (x :: p) = (x : Int) :: up p := rfl
    rw [this, cnt, cntN, ih, blt_d]
    by_cases h : c < x
    · rw [if_pos (by omega), decide_eq_true h, cond_true]; omega
    · rw [if_neg (by omega), decide_eq_false h, cond_false]; omega
/-- The product of numbers. -/
def prodL : List Int → Int
  | [] => 1
  | x :: l => x * prodL l
theorem prodL_app (A B : List Int) : prodL (A ++ B) = prodL A * prodL B := by
  induction A with
  | nil => simp [prodL]
  | cons x A ih => simp only [List.cons_append, prodL, ih, Int.mul_assoc]
theorem rng_shift (n : Nat) (f : Nat → Int) (h : Nat → Int) (k : ∀ i, i < n → f i = h i) : prodL (rng n f) = prodL (rng n h) := by rw [rng_congr k]
/-- The hooks of a shape with a row on top. -/
theorem hooks_cons (x : Nat) (p : List Nat) (hd : descN x p) : (hooksL (up (x :: p))) = rng x (fun c => (x : Int) - c + cntN p c) :: hooksL (up p) := by
  have hlen : (up (x :: p)).length = (up p).length + 1 := by simp [up]
  unfold hooksL
  rw [hlen, List.range_succ_eq_map, List.map_cons, List.map_map]
  have hup : up (x :: p) = (x : Int) :: up p := rfl
  congr 1
  · unfold hookRow
    rw [up_getD]
    show rng ((x : Int).toNat) _ = _
    rw [Int.toNat_natCast]
    refine rng_congr fun c hc => ?_
    unfold hookV
    rw [up_getD, cnt_up]
    show (x : Int) - c + ((cntN (x :: p) c : Nat) : Int) - 0 - 1 = _
    rw [cntN, blt_d, decide_eq_true hc, cond_true]; omega
  · apply List.map_congr_left
    intro r hr
    rw [List.mem_range] at hr
    show hookRow (up (x :: p)) (r + 1) = hookRow (up p) r
    unfold hookRow
    have e : (up (x :: p)).getD (r + 1) 0 = (up p).getD r 0 := by rw [hup]; simp
    rw [e]
    refine rng_congr fun c hc => ?_
    unfold hookV
    rw [e, hup, cnt]
    have hle : (up p).getD r 0 ≤ x := by
      rw [up_getD]
      have hp : ∀ {q : List Nat} {m : Nat} {i : Nat}, descN m q → i < q.length → q.getD i 0 ≤ m := by
        intro q
        induction q with
        | nil => intro m i _ h; simp at h
        | cons y q ih =>
          intro m i h hi
          cases i with
          | zero => simpa using h.2.1
          | succ i =>
            have := ih (i := i) h.2.2 (by simpa using hi)
            have := h.2.1
            simp only [List.getD_cons_succ]; omega
      have := hp hd (show r < p.length by rw [up_len] at hr; exact hr)
      omega
    rw [if_pos (by omega)]; push_cast; omega
theorem rowP_prod (x : Nat) (p : List Nat) : ∀ k, k ≤ x → (rowP x p k : Int) = prodL (rng k (fun c => (x : Int) - c + cntN p c))
  | 0, _ => rfl
  | k + 1, h => by
    rw [rng_succ, prodL_app, ← rowP_prod x p k (by omega)]
    show ((rowP x p k * (x - k + cntN p k) : Nat) : Int) = _
    simp only [prodL, Int.mul_one]
    push_cast
    congr 1; omega
theorem HN_prod : ∀ {p : List Nat} {m : Nat}, descN m p → (HN p : Int) = prodL (hooksL (up p)).flatten
  | [], _, _ => rfl
  | x :: p, m, h => by
    rw [hooks_cons x p h.2.2, List.flatten_cons, prodL_app, ← HN_prod h.2.2, ← rowP_prod x p x (Nat.le_refl _)]
    show ((rowP x p x * HN p : Nat) : Int) = _
    push_cast; rfl
/-- Division by numbers one after another whose product divides. -/
theorem divs_exact : ∀ (l : List Int) (x : Int), (∀ h ∈ l, 1 ≤ h) → 0 ≤ x → x.tmod (prodL l) = 0 → divs x l * prodL l = x ∧ ∀ k, k < l.length → (divs x (l.take k)).tmod (l.getD k 0) = 0
  | [], x, _, _, _ => ⟨by simp [divs, prodL], fun k hk => by simp at hk⟩
  | h :: l, x, hp, h0, hm => by
    have hh := hp h List.mem_cons_self
    have hl := fun y hy => hp y (List.mem_cons_of_mem h hy)
    have hd : h * prodL l ∣ x := Int.dvd_of_tmod_eq_zero hm
    obtain ⟨q, rfl⟩ := hd
    have e : (h * prodL l * q).tdiv h = prodL l * q := by rw [Int.mul_assoc, Int.mul_tdiv_cancel_left _ (by omega)]
    have h0' : 0 ≤ prodL l * q := by
      rw [Int.mul_assoc] at h0
      rcases Int.lt_or_le (prodL l * q) 0 with hneg | hpos
      · exact absurd (Int.mul_neg_of_pos_of_neg (show 0 < h by omega) hneg) (by omega)
      · exact hpos
    obtain ⟨r1, r2⟩ := divs_exact l (prodL l * q) hl h0' (Int.mul_tmod_right _ _)
    constructor
    · show divs ((h * prodL l * q).tdiv h) l * (h * prodL l) = _
      rw [e, Int.mul_comm h, ← Int.mul_assoc, r1, Int.mul_comm (prodL l) h, Int.mul_comm _ h, Int.mul_assoc]
    · intro k hk
      cases k with
      | zero =>
        show (h * prodL l * q).tmod h = 0
        rw [Int.mul_assoc]; exact Int.mul_tmod_right _ _
      | succ k =>
        have := r2 k (by simpa using hk)
        simp only [List.take_succ_cons, List.getD_cons_succ]
        show (divs ((h * prodL l * q).tdiv h) (l.take k)).tmod _ = 0
        rw [e]; exact this
theorem hooks_pos {L : List Int} (hd : desc 40 L = true) : ∀ h ∈ (hooksL L).flatten, 1 ≤ h := by
  intro h hh
  simp only [hooksL, List.mem_flatten, List.mem_map, List.mem_range] at hh
  obtain ⟨l, ⟨r, hr, rfl⟩, hh⟩ := hh
  simp only [hookRow, rng, List.mem_map, List.mem_range] at hh
  obtain ⟨c, hc, rfl⟩ := hh
  exact (hookV_pos hd hr (by omega)).1
theorem fact_N : ∀ n, fact n = (factN n : Nat)
  | 0 => rfl
  | n + 1 => by rw [fact, factN, fact_N n]; push_cast; rfl
end Go.Proofs.Ytieliilnnfjijaa
set_option maxRecDepth 100000
set_option maxHeartbeats 4000000
set_option linter.unusedSimpArgs false
set_option linter.unusedVariables false
namespace Go.Proofs.Ytieliilnnfjijaa
open Go.Ds
/-- What the reckoning says of one shape. -/
theorem ways_eq {p : List Nat} {m : Nat} (hd : descN m p) (hm : desc 40 (up p) = true) (hn : sumN p ≤ 20) (hs : (sumN p : Int) = sumL (up p)) :
    waysN (up p) = ((factN (sumN p) / HN p : Nat) : Int) ∧ 1 ≤ waysN (up p) ∧ waysN (up p) ≤ 2432902008176640000 ∧ (∀ k, k < (hooksL (up p)).flatten.length → (divs (fact (sumN p)) ((hooksL (up p)).flatten.take k)).tmod ((hooksL (up p)).flatten.getD k 0) = 0) ∧
    (sumN p ≠ 0 → sumC (fun q => factN (sumN p - 1) / HN q) p = factN (sumN p) / HN p) := by
  have hc := chk_of (chk_all (sumN p) hn) (descN_sum hd) rfl
  have hb := fact_bnd (sumN p) hn
  unfold chkN at hc
  rw [Bool.and_eq_true, Bool.or_eq_true, Nat.beq_eq, Nat.beq_eq, Nat.beq_eq] at hc
  have hH := HN_prod hd
  have hmod : (fact (sumN p)).tmod (prodL (hooksL (up p)).flatten) = 0 := by
    rw [← hH, fact_N, tmod_pos]
    have : factN (sumN p) % HN p = 0 := hc.1
    rw [this]; rfl
  obtain ⟨e1, e2⟩ := divs_exact _ _ (hooks_pos hm) (by omega) hmod
  have hw : waysN (up p) = divs (fact (sumN p)) (hooksL (up p)).flatten := by rw [waysN, ← hs, Int.toNat_natCast]
  rw [← hw, ← hH, fact_N] at e1
  rw [fact_N] at hb
  have hpos : 0 < HN p := by
    rcases Nat.eq_zero_or_pos (HN p) with h0 | h0
    · rw [h0] at e1; simp at e1; omega
    · exact h0
  have hval : waysN (up p) = ((factN (sumN p) / HN p : Nat) : Int) := by
    have : (((factN (sumN p) / HN p : Nat) : Int)) = (factN (sumN p) : Int) / (HN p : Int) := Int.natCast_ediv _ _
    rw [this, ← e1, Int.mul_ediv_cancel _ (by omega)]
  have hle : factN (sumN p) / HN p ≤ factN (sumN p) := Nat.div_le_self _ _
  refine ⟨hval, ?_, ?_, e2, ?_⟩
  · rcases Int.lt_or_le (waysN (up p)) 1 with h | h
    · have hz : waysN (up p) ≤ 0 := by omega
      have := Int.mul_le_mul_of_nonneg_right hz (show (0 : Int) ≤ HN p by omega)
      omega
    · exact h
  · rw [hval]; omega
  · intro h0
    rcases hc.2 with h | h
    · exact absurd h h0
    · exact h
def cornerN : List Nat → Nat → Bool
  | [], _ => false
  | x :: l, 0 => decide (headN l < x)
  | _ :: l, r + 1 => cornerN l r
def lessN : List Nat → Nat → List Nat
  | [], _ => []
  | x :: l, 0 => decN x l
  | x :: l, r + 1 => x :: lessN l r
def sumI (f : List Nat → Nat) (p : List Nat) : Nat → Nat
  | 0 => 0
  | r + 1 => sumI f p r + if cornerN p r = true then f (lessN p r) else 0
theorem sumI_cons (f : List Nat → Nat) (x : Nat) (l : List Nat) : ∀ i, sumI f (x :: l) (i + 1) = (if headN l < x then f (decN x l) else 0) + sumI (fun q => f (x :: q)) l i
  | 0 => by simp [sumI, cornerN, lessN]
  | i + 1 => by
    rw [sumI, sumI_cons f x l i]
    simp only [sumI, cornerN, lessN]
    exact Nat.add_assoc _ _ _
theorem sumI_all : ∀ (p : List Nat) (f : List Nat → Nat), sumI f p p.length = sumC f p
  | [], f => rfl
  | x :: l, f => by
    rw [List.length_cons, sumI_cons, sumI_all l, sumC, blt_d]
    by_cases h : headN l < x
    · rw [if_pos h, decide_eq_true h]; rfl
    · rw [if_neg h, decide_eq_false h]; rfl
theorem less_facts : ∀ {p : List Nat} {m r : Nat}, descN m p → cornerN p r = true → r < p.length → descN m (lessN p r) ∧ sumN (lessN p r) + 1 = sumN p ∧ (lessN p r).length ≤ p.length
  | [], m, r, hd, hc, hr => by simp at hr
  | x :: l, m, 0, hd, hc, hr => by
    have hc : headN l < x := by simpa [cornerN] using hc
    show descN m (decN x l) ∧ sumN (decN x l) + 1 = sumN (x :: l) ∧ (decN x l).length ≤ (x :: l).length
    unfold decN
    rw [beq_d]
    by_cases h : x = 1
    · rw [decide_eq_true h, cond_true]
      cases l with
      | nil => exact ⟨trivial, by simp [sumN, h], by simp⟩
      | cons y l => have := hd.2.2.1; simp only [headN] at hc; omega
    · rw [decide_eq_false h, cond_false]
      have h1 := hd.1
      have h2 := hd.2.1
      refine ⟨⟨by show 1 ≤ x - 1; omega, by show x - 1 ≤ m; omega, ?_⟩, ?_, by simp⟩
      · cases l with
        | nil => trivial
        | cons y l => exact ⟨hd.2.2.1, by simp only [headN] at hc; show y ≤ x - 1; omega, hd.2.2.2.2⟩
      · show x - 1 + sumN l + 1 = x + sumN l; omega
  | x :: l, m, r + 1, hd, hc, hr => by
    obtain ⟨a, b, c⟩ := less_facts (p := l) (m := x) (r := r) hd.2.2 hc (by simpa using hr)
    exact ⟨⟨hd.1, hd.2.1, a⟩, by show x + sumN (lessN l r) + 1 = x + sumN l; omega, by simpa [lessN] using c⟩
def lessL (L : List Int) (r j : Nat) : List Int := ((List.range j).map fun k => if k = r then L.getD k 0 - 1 else L.getD k 0).filter (fun x => decide (0 < x))
theorem lessL_all : ∀ {p : List Nat} {m : Nat}, descN m p → ((List.range p.length).map fun k => (up p).getD k 0).filter (fun x => decide (0 < x)) = up p
  | [], m, h => rfl
  | x :: l, m, h => by
    rw [List.length_cons, List.range_succ_eq_map, List.map_cons, List.map_map]
    have h1 := h.1
    have e : (fun k => (up (x :: l)).getD k 0) ∘ Nat.succ = fun k => (up l).getD k 0 := by funext k; simp [up]
    rw [e, List.filter_cons, lessL_all h.2.2]
    have : decide (0 < (up (x :: l)).getD 0 0) = true := by rw [up_getD]; simp; omega
    rw [if_pos this]
    simp [up]
theorem lessL_up : ∀ {p : List Nat} {m r : Nat}, descN m p → cornerN p r = true → r < p.length → lessL (up p) r p.length = up (lessN p r)
  | [], m, r, hd, hc, hr => by simp at hr
  | x :: l, m, 0, hd, hc, hr => by
    unfold lessL
    rw [List.length_cons, List.range_succ_eq_map, List.map_cons, List.map_map]
    have h1 := hd.1
    have e : (fun k => if k = 0 then (up (x :: l)).getD k 0 - 1 else (up (x :: l)).getD k 0) ∘ Nat.succ = fun k => (up l).getD k 0 := by funext k; simp [up]
    rw [e, List.filter_cons, lessL_all hd.2.2, if_pos rfl, up_getD]
    show _ = up (decN x l)
    unfold decN
    rw [beq_d]
    by_cases h : x = 1
    · rw [decide_eq_true h, cond_true, if_neg (by simp [h])]
    · rw [decide_eq_false h, cond_false, if_pos (by simp; omega)]
      simp only [up, List.map_cons, List.cons.injEq, and_true]
      show ((x : Nat) : Int) - 1 = ((x - 1 : Nat) : Int)
      omega
  | x :: l, m, r + 1, hd, hc, hr => by
    have ih := lessL_up (p := l) (m := x) (r := r) hd.2.2 hc (by simpa using hr)
    unfold lessL at ih ⊢
    rw [List.length_cons, List.range_succ_eq_map, List.map_cons, List.map_map]
    have h1 := hd.1
    have e : (fun k => if k = r + 1 then (up (x :: l)).getD k 0 - 1 else (up (x :: l)).getD k 0) ∘ Nat.succ = fun k => if k = r then (up l).getD k 0 - 1 else (up l).getD k 0 := by funext k; simp [up]
    rw [e, List.filter_cons, ih]
    have h0 : 0 < x := h1
    simp [up, lessN, h0]
/-- The corners of a list of integers. -/
def cornerB (L : List Int) (r : Nat) : Bool := !(decide (r + 1 < L.length) && decide (L.getD (r + 1) 0 = L.getD r 0))
theorem cornerB_up : ∀ {p : List Nat} {m r : Nat}, descN m p → r < p.length → cornerB (up p) r = cornerN p r
  | [], m, r, hd, hr => by simp at hr
  | x :: l, m, 0, hd, hr => by
    unfold cornerB cornerN
    cases l with
    | nil =>
      have h1 : headN [] < x := hd.1
      rw [decide_eq_true h1]; simp [up]
    | cons y l =>
      have h := hd.2.2.2.1
      by_cases c : y < x
      · rw [decide_eq_true (show headN (y :: l) < x from c)]
        have hne : ¬ (Int.ofNat y = Int.ofNat x) := by simp; omega
        simp [up]; omega
      · rw [decide_eq_false (show ¬ headN (y :: l) < x from c)]
        have hne : y = x := by omega
        subst hne
        simp [up]
  | x :: l, m, r + 1, hd, hr => by
    have ih := cornerB_up (p := l) (m := x) (r := r) hd.2.2 (by simpa using hr)
    unfold cornerN
    rw [← ih]
    unfold cornerB
    simp [up]
def sumW (L : List Int) : Nat → Int
  | 0 => 0
  | r + 1 => sumW L r + if cornerB L r = true then waysN (lessL L r L.length) else 0
/-- All that the law of the product asks. -/
structure Prod (L : List Int) (N : Nat) : Prop where
  one : 1 ≤ waysN L
  big : waysN L ≤ 2432902008176640000
  exact : ∀ k, k < (hooksL L).flatten.length → (divs (fact N) ((hooksL L).flatten.take k)).tmod ((hooksL L).flatten.getD k 0) = 0
  less : ∀ r, r < L.length → cornerB L r = true → isShape (lessL L r L.length) = true ∧ sumL (lessL L r L.length) ≤ 20 ∧ 0 ≤ waysN (lessL L r L.length) ∧ waysN (lessL L r L.length) ≤ 2432902008176640000
  sum : N ≠ 0 → sumW L L.length = waysN L
  zero : N = 0 → waysN L = 1
theorem prod_all {L : List Int} (hS : isShape L = true) {N : Nat} (hN : sumL L = N) (h20 : N ≤ 20) : Prod L N := by
  obtain ⟨c1, c2, c3⟩ := shape_facts hS
  obtain ⟨p, rfl, hd, hs⟩ := desc_up c2
  have hNp : sumN p = N := by omega
  subst hNp
  obtain ⟨w1, w2, w3, w4, w5⟩ := ways_eq hd c2 h20 hs
  have descUp : ∀ {q : List Nat} {m : Nat}, descN m q → desc m (up q) = true ∧ sumL (up q) = sumN q := by
    intro q
    induction q with
    | nil => intro m _; exact ⟨rfl, rfl⟩
    | cons y q ih =>
      intro m h
      obtain ⟨a, b⟩ := ih h.2.2
      have e : up (y :: q) = (y : Int) :: up q := rfl
      rw [e]
      refine ⟨?_, by simp only [sumL, b, sumN]; push_cast; rfl⟩
      have h1 := h.1
      have h2 := h.2.1
      simp only [desc, a, Bool.and_true, Bool.and_eq_true, decide_eq_true_eq]
      omega
  have hl : ∀ r, r < p.length → cornerB (up p) r = true → isShape (lessL (up p) r (up p).length) = true ∧ sumL (lessL (up p) r (up p).length) ≤ 20 ∧ waysN (lessL (up p) r (up p).length) = ((factN (sumN p - 1) / HN (lessN p r) : Nat) : Int) ∧ 0 ≤ waysN (lessL (up p) r (up p).length) ∧ waysN (lessL (up p) r (up p).length) ≤ 2432902008176640000 := by
    intro r hr hc
    rw [cornerB_up hd hr] at hc
    obtain ⟨a, b, c⟩ := less_facts hd hc hr
    rw [up_len, lessL_up hd hc hr]
    obtain ⟨d1, d2⟩ := descUp a
    have d1' : desc 40 (up (lessN p r)) = true := d1
    obtain ⟨v1, v2, v3, _⟩ := ways_eq a d1' (by omega) d2.symm
    rw [up_len] at c1
    refine ⟨?_, by omega, by rw [v1, show sumN (lessN p r) = sumN p - 1 by omega], by omega, v3⟩
    unfold isShape
    rw [d1', d2, decide_eq_true (show (up (lessN p r)).length ≤ 12 by rw [up_len]; omega), decide_eq_true (show (sumN (lessN p r) : Int) ≤ 40 by omega)]
    rfl
  refine ⟨w2, w3, w4, fun r hr hc => ?_, fun h0 => ?_, fun h0 => ?_⟩
  · rw [up_len] at hr
    obtain ⟨a, b, c, d, e⟩ := hl r hr hc
    exact ⟨a, b, d, e⟩
  · have key : ∀ i, i ≤ p.length → sumW (up p) i = ((sumI (fun q => factN (sumN p - 1) / HN q) p i : Nat) : Int) := by
      intro i
      induction i with
      | zero => intro _; rfl
      | succ i ih =>
        intro hi
        have ih := ih (by omega)
        rw [sumW, ih, sumI]
        by_cases hc : cornerB (up p) i = true
        · have hc' := hc
          rw [cornerB_up hd (by omega)] at hc'
          obtain ⟨a, b, c, d⟩ := hl i (by omega) hc
          rw [if_pos hc, if_pos hc', c]; push_cast; rfl
        · have hc' := hc
          rw [cornerB_up hd (by omega)] at hc'
          rw [if_neg hc, if_neg hc']; push_cast; omega
    rw [up_len, key p.length (Nat.le_refl _), sumI_all, w5 h0, w1]
  · have hnil : p = [] := by
      cases p with
      | nil => rfl
      | cons x l => have := hd.1; simp only [sumN] at h0; omega
    subst hnil
    rfl
end Go.Proofs.Ytieliilnnfjijaa
