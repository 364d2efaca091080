import Derived.Test.YtieliilnnfjijaaK2
set_option linter.all false
set_option linter.unusedSimpArgs false
set_option linter.unnecessarySimpa false
set_option linter.unusedVariables false
set_option linter.unusedSectionVars false
set_option maxRecDepth 100000
set_option maxHeartbeats 4000000
set_option linter.unusedSimpArgs false
set_option linter.unusedVariables false
namespace Go.Proofs.Ytieliilnnfjijaa
open Go.Ds
/-! ## Ways -/
def fact : Nat → Int
  | 0 => 1
  | n + 1 => fact n * (n + 1)
theorem fact_bnd : ∀ n, n ≤ 20 → 1 ≤ fact n ∧ fact n ≤ 2432902008176640000 := by decide +kernel
def divs (x : Int) (l : List Int) : Int := l.foldl (fun a h => a.tdiv h) x
theorem divs_app (x : Int) (A B : List Int) : divs x (A ++ B) = divs (divs x A) B := by simp [divs]
theorem divs_snoc (x : Int) (L : List Int) (i : Nat) (h : i < L.length) : divs x (L.take (i + 1)) = (divs x (L.take i)).tdiv (L.getD i 0) := by
  rw [take_snoc L i h, divs_app]; rfl
theorem tdiv_bnd {x h : Int} (h0 : 0 ≤ x) (h1 : 1 ≤ h) : 0 ≤ x.tdiv h ∧ x.tdiv h ≤ x := by
  obtain ⟨a, rfl⟩ := Int.eq_ofNat_of_zero_le h0
  obtain ⟨b, rfl⟩ := Int.eq_ofNat_of_zero_le (show 0 ≤ h by omega)
  have := Nat.div_le_self a b
  rw [tdiv_pos]
  exact ⟨Int.natCast_nonneg _, Int.ofNat_le.2 this⟩
def waysN (L : List Int) : Int := divs (fact (sumL L).toNat) (hooksL L).flatten
def waysT (L : List Int) : Int × Int := if isShape L = true then (if 20 < sumL L then (0, 8) else (waysN L, 0)) else (0, 2)
theorem cnt_above : ∀ {L : List Int} {m : Int} (r : Nat) (c : Int), desc m L = true → r < L.length → c < L.getD r 0 → (r : Int) + 1 ≤ cnt L c
  | [], m, r, c, h, hr, hc => by simp at hr
  | x :: L, m, 0, c, h, hr, hc => by
    have := cnt_bnd L c
    simp at hc
    simp only [cnt, if_pos hc]; omega
  | x :: L, m, r + 1, c, h, hr, hc => by
    simp only [desc, Bool.and_eq_true, decide_eq_true_eq] at h
    have hr' : r < L.length := by simpa using hr
    have hc' : c < L.getD r 0 := by simpa using hc
    have h2 := desc_getD h.2 hr'
    have := cnt_above r c h.2 hr' hc'
    have hx : c < x := by omega
    simp only [cnt, if_pos hx]; omega
theorem hookV_pos {L : List Int} (h : desc 40 L = true) {r c : Nat} (hr : r < L.length) (hc : (c : Int) < L.getD r 0) : 1 ≤ hookV L r c ∧ hookV L r c ≤ 40 + L.length := by
  have h1 := cnt_above r (c : Int) h hr hc
  have h2 := desc_getD h hr
  have h3 := cnt_bnd L (c : Int)
  unfold hookV
  omega
theorem sumL_nonneg {m : Int} : ∀ {L : List Int}, desc m L = true → 0 ≤ sumL L := by
  intro L h
  have := sumL_bnd (L := L) (a := 0) (b := m) fun x hx => by have := desc_le h x hx; omega
  omega
theorem hooksL_getD {L : List Int} {r : Nat} (h : r < L.length) : (hooksL L).getD r [] = hookRow L r := by
  rw [List.getD_eq_getElem?_getD, hooksL_get h]; rfl
theorem divs_step (x : Int) {L : List Int} {r : Nat} (h : r < L.length) : divs x ((hooksL L).take (r + 1)).flatten = divs (divs x ((hooksL L).take r).flatten) (hookRow L r) := by
  rw [take_snocL _ r (by rw [hooksL_len]; exact h), hooksL_getD h, List.flatten_append, divs_app]; simp
def Bnd (x : Int) : Prop := 0 ≤ x ∧ x ≤ 2432902008176640000
theorem hookRow_get {L : List Int} {r c : Nat} (hc : (c : Int) < L.getD r 0) : (ints (hookRow L r))[c]? = some (.int .i64 (hookV L r c)) ∧ (hookRow L r).getD c 0 = hookV L r c ∧ c < (hookRow L r).length := by
  have h : c < (L.getD r 0).toNat := by omega
  have h2 : (hookRow L r).getD c 0 = hookV L r c := by rw [hookRow, rng_get _ h]
  have h3 : c < (hookRow L r).length := by rw [hookRow, rng_len]; exact h
  exact ⟨by rw [ints_get h3, h2], h2, h3⟩
section
variable {X : Caller} (hX : Xok X) (L : List Int) (hL : L.length < 1000000) (s : Value) (g : GH) (hs : SlR g s (ints L))
include hX hL hs
theorem ways_rets : Rets Try.prog X 39 [s] g (fun v g' lo => g.next ≤ lo ∧ v = .tuple #[.int .i64 (waysT L).1, .int .i64 (waysT L).2]) := by
  refine Rets.run hX.pres p39 (hX.free 39 (by decide) _ _) rfl fun ho => ?_
  simp +decide (disch := first | assumption | (apply GH.ok_push; assumption) | exact cellV_int _ _ | exact cellV_bool _ | omega) only [go_sem, ↓reduceIte, Nat.reduceEqDiff, Nat.reduceAdd, Int.reduceToNat]
  refine CallD.calm (isShape_rets hX L hL s g hs) ?_
  rintro v G hx rfl
  have hn := hx.next
  have hs1 := hs.ext hx
  by_cases c : isShape L = true
  · obtain ⟨c1, c2, c3⟩ := shape_facts c
    have c4 := sumL_nonneg c2
    simp +decide (disch := first | assumption | (apply GH.ok_push; assumption) | exact cellV_int _ _ | exact cellV_bool _ | omega) only [go_sem, ↓reduceIte, Nat.reduceEqDiff, Nat.reduceAdd, Int.reduceToNat, c]
    refine CallD.calm (count_rets hX L (desc_fits c2 (by omega)) s G hs1) ?_
    rintro v G2 hx2 rfl
    have hn2 := hx2.next
    have hs2 := hs1.ext hx2
    by_cases d : 20 < sumL L
    · simp +decide (disch := first | assumption | (apply GH.ok_push; assumption) | exact cellV_int _ _ | exact cellV_bool _ | omega) only [go_sem, ↓reduceIte, Nat.reduceEqDiff, Nat.reduceAdd, Int.reduceToNat]
      intro hx0
      exact ⟨by omega, by rw [waysT, if_pos c, if_pos d]⟩
    · obtain ⟨N, hN⟩ : ∃ N : Nat, sumL L = N := ⟨(sumL L).toNat, by omega⟩
      have hN20 : N ≤ 20 := by omega
      rw [hN]
      simp +decide (disch := first | assumption | (apply GH.ok_push; assumption) | exact cellV_int _ _ | exact cellV_bool _ | omega) only [go_sem, ↓reduceIte, Nat.reduceEqDiff, Nat.reduceAdd, Int.reduceToNat]
      refine Wk.loops (fun m e g' lo => g' = G2 ∧ g.next ≤ lo ∧ ∃ i : Nat, i + m = N ∧ (ev e (.s 0) = s ∧ ev e (.s 5) = .int .i64 (fact i) ∧ ev e (.s 18) = .int .i64 N ∧ ev e (.s 19) = .int .i64 i))
        (fun e g' lo => g' = G2 ∧ g.next ≤ lo ∧ (ev e (.s 0) = s ∧ ev e (.s 5) = .int .i64 (fact N))) (n := N) ?_ ?_ ?_
      · exact ⟨rfl, by omega, 0, by omega, (by simp +decide (disch := first | assumption | (apply GH.ok_push; assumption) | exact cellV_int _ _ | exact cellV_bool _ | omega) only [go_sem, ↓reduceIte, Nat.reduceEqDiff, Nat.reduceAdd, Int.reduceToNat, fact]; first | done | exact rfl)⟩
      · rintro e g' lo - - ⟨rfl, hlo, he⟩
        simp +decide (disch := first | assumption | (apply GH.ok_push; assumption) | exact cellV_int _ _ | exact cellV_bool _ | omega) only [go_sem, ↓reduceIte, Nat.reduceEqDiff, Nat.reduceAdd, Int.reduceToNat, he]
        refine CallD.calm (hooks_rets hX L (by omega) c2 s _ hs2) ?_
        rintro v G3 hx3 hv
        have hn3 := hx3.next
        have hlv := hv.len
        rw [hooksL_len] at hlv
        simp +decide (disch := first | assumption | (apply GH.ok_push; assumption) | exact cellV_int _ _ | exact cellV_bool _ | omega) only [go_sem, ↓reduceIte, Nat.reduceEqDiff, Nat.reduceAdd, Int.reduceToNat, hlv]
        refine Wk.loops (fun m e g' lo => g' = G3 ∧ g.next ≤ lo ∧ ∃ i : Nat, i + m = L.length ∧ (ev e (.s 5) = .int .i64 (divs (fact N) ((hooksL L).take i).flatten) ∧ ev e (.s 28) = v ∧ ev e (.s 29) = .int .i64 L.length ∧ ev e (.s 30) = .int .i64 i) ∧ Bnd (divs (fact N) ((hooksL L).take i).flatten))
          (fun e g' lo => g' = G3 ∧ g.next ≤ lo ∧ ev e (.s 5) = .int .i64 (waysN L)) (n := L.length) ?_ ?_ ?_
        · refine ⟨rfl, by omega, 0, by omega, (by simp +decide (disch := first | assumption | (apply GH.ok_push; assumption) | exact cellV_int _ _ | exact cellV_bool _ | omega) only [go_sem, ↓reduceIte, Nat.reduceEqDiff, Nat.reduceAdd, Int.reduceToNat, he, List.take_zero, List.flatten_nil, divs, List.foldl_nil]; first | done | exact rfl), ?_⟩
          have := fact_bnd N hN20
          exact ⟨by show 0 ≤ fact N; omega, by show fact N ≤ _; omega⟩
        · rintro e g' lo - - ⟨rfl, hlo, he⟩
          simp +decide (disch := first | assumption | (apply GH.ok_push; assumption) | exact cellV_int _ _ | exact cellV_bool _ | omega) only [go_sem, ↓reduceIte, Nat.reduceEqDiff, Nat.reduceAdd, Int.reduceToNat, he]
          intro hx0
          exact ⟨by omega, by rw [waysT, if_pos c, if_neg d]⟩
        · rintro m e g' lo ho' hl' ih out ⟨rfl, hlo, i, hi, he, hb⟩
          by_cases ci : i < L.length
          · obtain ⟨u, j1, o1, hj1, hp1, hp2, hu⟩ := hv.ptr (i := i) (by rw [hooksL_len]; exact ci)
            have hp1 := hp1 (i : Int) rfl
            rw [hooksL_getD ci] at hu
            have hlu := hu.len
            rw [ints_len, hookRow, rng_len] at hlu
            have hrow := desc_getD c2 ci
            obtain ⟨n, hn1, hn2⟩ : ∃ n : Nat, L.getD i 0 = n ∧ (L.getD i 0).toNat = n := ⟨(L.getD i 0).toNat, by omega, rfl⟩
            rw [hn2] at hlu
            simp +decide (disch := first | assumption | (apply GH.ok_push; assumption) | exact cellV_int _ _ | exact cellV_bool _ | omega) only [go_sem, ↓reduceIte, Nat.reduceEqDiff, Nat.reduceAdd, Int.reduceToNat, he, hp1, hp2, hlu]
            have hst := divs_step (fact N) ci
            obtain ⟨x, hxx⟩ : ∃ x, divs (fact N) ((hooksL L).take i).flatten = x := ⟨_, rfl⟩
            rw [hxx] at he hb hst
            refine Wk.loops (fun m e g2 lo2 => g2 = g' ∧ g.next ≤ lo2 ∧ ∃ c : Nat, c + m = n ∧ (ev e (.s 5) = .int .i64 (divs x ((hookRow L i).take c)) ∧ ev e (.s 28) = v ∧ ev e (.s 29) = .int .i64 L.length ∧ ev e (.s 30) = .int .i64 i ∧ ev e (.s 34) = u ∧ ev e (.s 35) = .int .i64 n ∧ ev e (.s 36) = .int .i64 c) ∧ Bnd (divs x ((hookRow L i).take c)))
              (fun e g2 lo2 => g2 = g' ∧ g.next ≤ lo2 ∧ (ev e (.s 5) = .int .i64 (divs x (hookRow L i)) ∧ ev e (.s 28) = v ∧ ev e (.s 29) = .int .i64 L.length ∧ ev e (.s 30) = .int .i64 i) ∧ Bnd (divs x (hookRow L i))) (n := n) ?_ ?_ ?_
            · exact ⟨rfl, hlo, 0, by omega, (by simp +decide (disch := first | assumption | (apply GH.ok_push; assumption) | exact cellV_int _ _ | exact cellV_bool _ | omega) only [go_sem, ↓reduceIte, Nat.reduceEqDiff, Nat.reduceAdd, Int.reduceToNat, he, List.take_zero, divs, List.foldl_nil]; first | done | exact rfl), hb⟩
            · rintro e g2 lo2 - - ⟨rfl, hlo2, he, hb⟩
              simp +decide (disch := first | assumption | (apply GH.ok_push; assumption) | exact cellV_int _ _ | exact cellV_bool _ | omega) only [go_sem, ↓reduceIte, Nat.reduceEqDiff, Nat.reduceAdd, Int.reduceToNat, he]
              exact ih (m - 1) _ _ _ (by omega) ⟨rfl, hlo2, i + 1, by omega, (by simp +decide (disch := first | assumption | (apply GH.ok_push; assumption) | exact cellV_int _ _ | exact cellV_bool _ | omega) only [go_sem, ↓reduceIte, Nat.reduceEqDiff, Nat.reduceAdd, Int.reduceToNat, he, hst]; first | done | exact rfl), by rw [hst]; exact hb⟩
            · rintro m2 e g2 lo2 ho2 hl2 ih2 out2 ⟨rfl, hlo2, k, hk, he, hb⟩
              by_cases ck : k < n
              · obtain ⟨q1, q2, q3⟩ := hookRow_get (L := L) (r := i) (c := k) (by omega)
                obtain ⟨j2, o2, hj2, hr1, hr2⟩ := hu.ptr q1
                have hr1 := hr1 (k : Int) rfl
                have hpos := hookV_pos c2 ci (c := k) (by omega)
                have hds := divs_snoc x (hookRow L i) k q3
                rw [q2] at hds
                have hb2 := tdiv_bnd hb.1 hpos.1
                have hb1 := hb.2
                have hb0 := hb.1
                simp +decide (disch := first | assumption | (apply GH.ok_push; assumption) | exact cellV_int _ _ | exact cellV_bool _ | omega) only [go_sem, ↓reduceIte, Nat.reduceEqDiff, Nat.reduceAdd, Int.reduceToNat, he, hr1, hr2]
                exact ih2 (m2 - 1) _ _ _ (by omega) ⟨rfl, hlo2, k + 1, by omega, (by simp +decide (disch := first | assumption | (apply GH.ok_push; assumption) | exact cellV_int _ _ | exact cellV_bool _ | omega) only [go_sem, ↓reduceIte, Nat.reduceEqDiff, Nat.reduceAdd, Int.reduceToNat, he, hds]; first | done | exact rfl), by rw [hds]; exact ⟨hb2.1, by omega⟩⟩
              · have htk : (hookRow L i).take k = hookRow L i := List.take_of_length_le (by rw [hookRow, rng_len]; omega)
                rw [htk] at he hb
                simp +decide (disch := first | assumption | (apply GH.ok_push; assumption) | exact cellV_int _ _ | exact cellV_bool _ | omega) only [go_sem, ↓reduceIte, Nat.reduceEqDiff, Nat.reduceAdd, Int.reduceToNat, he]
                exact out2 _ _ _ ⟨rfl, hlo2, (by simp +decide (disch := first | assumption | (apply GH.ok_push; assumption) | exact cellV_int _ _ | exact cellV_bool _ | omega) only [go_sem, ↓reduceIte, Nat.reduceEqDiff, Nat.reduceAdd, Int.reduceToNat, he]; first | done | exact rfl), hb⟩
          · have htk : (hooksL L).take i = hooksL L := List.take_of_length_le (by rw [hooksL_len]; omega)
            have hw : divs (fact N) (hooksL L).flatten = waysN L := by rw [waysN, hN]; rfl
            rw [htk, hw] at he
            simp +decide (disch := first | assumption | (apply GH.ok_push; assumption) | exact cellV_int _ _ | exact cellV_bool _ | omega) only [go_sem, ↓reduceIte, Nat.reduceEqDiff, Nat.reduceAdd, Int.reduceToNat, he]
            exact out _ _ _ ⟨rfl, hlo, (by simp +decide (disch := first | assumption | (apply GH.ok_push; assumption) | exact cellV_int _ _ | exact cellV_bool _ | omega) only [go_sem, ↓reduceIte, Nat.reduceEqDiff, Nat.reduceAdd, Int.reduceToNat, he]; first | done | exact rfl)⟩
      · rintro m e g' lo ho' hl' ih out ⟨rfl, hlo, i, hi, he⟩
        by_cases ci : i < N
        · have hb := fact_bnd (i + 1) (by omega)
          have hb2 := fact_bnd i (by omega)
          have hf : fact (i + 1) = fact i * ((i : Int) + 1) := rfl
          rw [hf] at hb
          simp +decide (disch := first | assumption | (apply GH.ok_push; assumption) | exact cellV_int _ _ | exact cellV_bool _ | omega) only [go_sem, ↓reduceIte, Nat.reduceEqDiff, Nat.reduceAdd, Int.reduceToNat, he]
          exact ih (m - 1) _ _ _ (by omega) ⟨rfl, hlo, i + 1, by omega, (by simp +decide (disch := first | assumption | (apply GH.ok_push; assumption) | exact cellV_int _ _ | exact cellV_bool _ | omega) only [go_sem, ↓reduceIte, Nat.reduceEqDiff, Nat.reduceAdd, Int.reduceToNat, he, hf]; first | done | exact rfl)⟩
        · have hiN : i = N := by omega
          rw [hiN] at he
          simp +decide (disch := first | assumption | (apply GH.ok_push; assumption) | exact cellV_int _ _ | exact cellV_bool _ | omega) only [go_sem, ↓reduceIte, Nat.reduceEqDiff, Nat.reduceAdd, Int.reduceToNat, he]
          exact out _ _ _ ⟨rfl, hlo, (by simp +decide (disch := first | assumption | (apply GH.ok_push; assumption) | exact cellV_int _ _ | exact cellV_bool _ | omega) only [go_sem, ↓reduceIte, Nat.reduceEqDiff, Nat.reduceAdd, Int.reduceToNat, he]; first | done | exact rfl)⟩
  · have c' : isShape L = false := by simpa using c
    simp +decide (disch := first | assumption | (apply GH.ok_push; assumption) | exact cellV_int _ _ | exact cellV_bool _ | omega) only [go_sem, ↓reduceIte, Nat.reduceEqDiff, Nat.reduceAdd, Int.reduceToNat, c']
    intro hx0
    exact ⟨by omega, by rw [waysT, if_neg c]⟩
theorem refWays_rets : Rets Try.prog X 40 [s] g (fun v g' lo => g.next ≤ lo ∧ v = .tuple #[.int .i64 (waysT L).1, .int .i64 (waysT L).2]) := by
  refine Rets.run hX.pres p40 (hX.free 40 (by decide) _ _) rfl fun ho => ?_
  simp +decide (disch := first | assumption | (apply GH.ok_push; assumption) | exact cellV_int _ _ | exact cellV_bool _ | omega) only [go_sem, ↓reduceIte, Nat.reduceEqDiff, Nat.reduceAdd, Int.reduceToNat]
  refine CallD.calm (refIsShape_rets hX L hL s g hs) ?_
  rintro v G hx rfl
  have hn := hx.next
  have hs1 := hs.ext hx
  by_cases c : isShape L = true
  · obtain ⟨c1, c2, c3⟩ := shape_facts c
    have c4 := sumL_nonneg c2
    simp +decide (disch := first | assumption | (apply GH.ok_push; assumption) | exact cellV_int _ _ | exact cellV_bool _ | omega) only [go_sem, ↓reduceIte, Nat.reduceEqDiff, Nat.reduceAdd, Int.reduceToNat, c]
    refine CallD.calm (refSum_rets hX L (desc_fits c2 (by omega)) s G hs1) ?_
    rintro v G2 hx2 rfl
    have hn2 := hx2.next
    have hs2 := hs1.ext hx2
    by_cases d : 20 < sumL L
    · simp +decide (disch := first | assumption | (apply GH.ok_push; assumption) | exact cellV_int _ _ | exact cellV_bool _ | omega) only [go_sem, ↓reduceIte, Nat.reduceEqDiff, Nat.reduceAdd, Int.reduceToNat]
      intro hx0
      exact ⟨by omega, by rw [waysT, if_pos c, if_pos d]⟩
    · obtain ⟨N, hN⟩ : ∃ N : Nat, sumL L = N := ⟨(sumL L).toNat, by omega⟩
      have hN20 : N ≤ 20 := by omega
      rw [hN]
      simp +decide (disch := first | assumption | (apply GH.ok_push; assumption) | exact cellV_int _ _ | exact cellV_bool _ | omega) only [go_sem, ↓reduceIte, Nat.reduceEqDiff, Nat.reduceAdd, Int.reduceToNat]
      refine Wk.loops (fun m e g' lo => g' = G2 ∧ g.next ≤ lo ∧ ∃ i : Nat, i + m = N + 3 ∧ 1 ≤ i ∧ (i ≤ N ∨ i = 1) ∧ (ev e (.s 0) = s ∧ ev e (.s 4) = .int .i64 N ∧ ev e (.s 5) = .int .i64 (fact i) ∧ ev e (.s 6) = .int .i64 ((i : Int) + 1)))
        (fun e g' lo => g' = G2 ∧ g.next ≤ lo ∧ (ev e (.s 0) = s ∧ ev e (.s 5) = .int .i64 (fact N))) (n := N + 2) ?_ ?_ ?_
      · exact ⟨rfl, by omega, 1, by omega, Nat.le_refl _, .inr rfl, (by simp +decide (disch := first | assumption | (apply GH.ok_push; assumption) | exact cellV_int _ _ | exact cellV_bool _ | omega) only [go_sem, ↓reduceIte, Nat.reduceEqDiff, Nat.reduceAdd, Int.reduceToNat, show fact 1 = 1 from rfl]; first | done | exact rfl)⟩
      · rintro e g' lo - - ⟨rfl, hlo, he⟩
        simp +decide (disch := first | assumption | (apply GH.ok_push; assumption) | exact cellV_int _ _ | exact cellV_bool _ | omega) only [go_sem, ↓reduceIte, Nat.reduceEqDiff, Nat.reduceAdd, Int.reduceToNat, he]
        refine CallD.calm (refLengths_rets hX L (by omega) c2 s _ hs2) ?_
        rintro v G3 hx3 hv
        have hn3 := hx3.next
        have hlv := hv.len
        rw [hooksL_len] at hlv
        simp +decide (disch := first | assumption | (apply GH.ok_push; assumption) | exact cellV_int _ _ | exact cellV_bool _ | omega) only [go_sem, ↓reduceIte, Nat.reduceEqDiff, Nat.reduceAdd, Int.reduceToNat, hlv]
        refine Wk.loops (fun m e g' lo => g' = G3 ∧ g.next ≤ lo ∧ ∃ i : Nat, i + m = L.length ∧ (ev e (.s 5) = .int .i64 (divs (fact N) ((hooksL L).take i).flatten) ∧ ev e (.s 7) = v ∧ ev e (.s 8) = .int .i64 i) ∧ Bnd (divs (fact N) ((hooksL L).take i).flatten))
          (fun e g' lo => g' = G3 ∧ g.next ≤ lo ∧ ev e (.s 5) = .int .i64 (waysN L)) (n := L.length) ?_ ?_ ?_
        · refine ⟨rfl, by omega, 0, by omega, (by simp +decide (disch := first | assumption | (apply GH.ok_push; assumption) | exact cellV_int _ _ | exact cellV_bool _ | omega) only [go_sem, ↓reduceIte, Nat.reduceEqDiff, Nat.reduceAdd, Int.reduceToNat, he, List.take_zero, List.flatten_nil, divs, List.foldl_nil]; first | done | exact rfl), ?_⟩
          have := fact_bnd N hN20
          exact ⟨by show 0 ≤ fact N; omega, by show fact N ≤ _; omega⟩
        · rintro e g' lo - - ⟨rfl, hlo, he⟩
          simp +decide (disch := first | assumption | (apply GH.ok_push; assumption) | exact cellV_int _ _ | exact cellV_bool _ | omega) only [go_sem, ↓reduceIte, Nat.reduceEqDiff, Nat.reduceAdd, Int.reduceToNat, he]
          intro hx0
          exact ⟨by omega, by rw [waysT, if_pos c, if_neg d]⟩
        · rintro m e g' lo ho' hl' ih out ⟨rfl, hlo, i, hi, he, hb⟩
          by_cases ci : i < L.length
          · obtain ⟨u, j1, o1, hj1, hp1, hp2, hu⟩ := hv.ptr (i := i) (by rw [hooksL_len]; exact ci)
            have hp1 := hp1 (i : Int) rfl
            rw [hooksL_getD ci] at hu
            have hlu := hu.len
            rw [ints_len, hookRow, rng_len] at hlu
            have hrow := desc_getD c2 ci
            obtain ⟨n, hn1, hn2⟩ : ∃ n : Nat, L.getD i 0 = n ∧ (L.getD i 0).toNat = n := ⟨(L.getD i 0).toNat, by omega, rfl⟩
            rw [hn2] at hlu
            simp +decide (disch := first | assumption | (apply GH.ok_push; assumption) | exact cellV_int _ _ | exact cellV_bool _ | omega) only [go_sem, ↓reduceIte, Nat.reduceEqDiff, Nat.reduceAdd, Int.reduceToNat, he, hlv]
            have hst := divs_step (fact N) ci
            obtain ⟨x, hxx⟩ : ∃ x, divs (fact N) ((hooksL L).take i).flatten = x := ⟨_, rfl⟩
            rw [hxx] at he hb hst
            refine Wk.loops (fun m e g2 lo2 => g2 = g' ∧ g.next ≤ lo2 ∧ ∃ c : Nat, c + m = n ∧ (ev e (.s 5) = .int .i64 (divs x ((hookRow L i).take c)) ∧ ev e (.s 7) = v ∧ ev e (.s 8) = .int .i64 i ∧ ev e (.s 9) = .int .i64 c) ∧ Bnd (divs x ((hookRow L i).take c)))
              (fun e g2 lo2 => g2 = g' ∧ g.next ≤ lo2 ∧ (ev e (.s 5) = .int .i64 (divs x (hookRow L i)) ∧ ev e (.s 7) = v ∧ ev e (.s 8) = .int .i64 i) ∧ Bnd (divs x (hookRow L i))) (n := n) ?_ ?_ ?_
            · exact ⟨rfl, hlo, 0, by omega, (by simp +decide (disch := first | assumption | (apply GH.ok_push; assumption) | exact cellV_int _ _ | exact cellV_bool _ | omega) only [go_sem, ↓reduceIte, Nat.reduceEqDiff, Nat.reduceAdd, Int.reduceToNat, he, List.take_zero, divs, List.foldl_nil]; first | done | exact rfl), hb⟩
            · rintro e g2 lo2 - - ⟨rfl, hlo2, he, hb⟩
              simp +decide (disch := first | assumption | (apply GH.ok_push; assumption) | exact cellV_int _ _ | exact cellV_bool _ | omega) only [go_sem, ↓reduceIte, Nat.reduceEqDiff, Nat.reduceAdd, Int.reduceToNat, he]
              exact ih (m - 1) _ _ _ (by omega) ⟨rfl, hlo2, i + 1, by omega, (by simp +decide (disch := first | assumption | (apply GH.ok_push; assumption) | exact cellV_int _ _ | exact cellV_bool _ | omega) only [go_sem, ↓reduceIte, Nat.reduceEqDiff, Nat.reduceAdd, Int.reduceToNat, he, hst]; first | done | exact rfl), by rw [hst]; exact hb⟩
            · rintro m2 e g2 lo2 ho2 hl2 ih2 out2 ⟨rfl, hlo2, k, hk, he, hb⟩
              by_cases ck : k < n
              · obtain ⟨q1, q2, q3⟩ := hookRow_get (L := L) (r := i) (c := k) (by omega)
                obtain ⟨j2, o2, hj2, hr1, hr2⟩ := hu.ptr q1
                have hr1 := hr1 (k : Int) rfl
                have hpos := hookV_pos c2 ci (c := k) (by omega)
                have hds := divs_snoc x (hookRow L i) k q3
                rw [q2] at hds
                have hb2 := tdiv_bnd hb.1 hpos.1
                have hb1 := hb.2
                have hb0 := hb.1
                simp +decide (disch := first | assumption | (apply GH.ok_push; assumption) | exact cellV_int _ _ | exact cellV_bool _ | omega) only [go_sem, ↓reduceIte, Nat.reduceEqDiff, Nat.reduceAdd, Int.reduceToNat, he, hp1, hp2, hlu, hr1, hr2]
                exact ih2 (m2 - 1) _ _ _ (by omega) ⟨rfl, hlo2, k + 1, by omega, (by simp +decide (disch := first | assumption | (apply GH.ok_push; assumption) | exact cellV_int _ _ | exact cellV_bool _ | omega) only [go_sem, ↓reduceIte, Nat.reduceEqDiff, Nat.reduceAdd, Int.reduceToNat, he, hds]; first | done | exact rfl), by rw [hds]; exact ⟨hb2.1, by omega⟩⟩
              · have htk : (hookRow L i).take k = hookRow L i := List.take_of_length_le (by rw [hookRow, rng_len]; omega)
                rw [htk] at he hb
                simp +decide (disch := first | assumption | (apply GH.ok_push; assumption) | exact cellV_int _ _ | exact cellV_bool _ | omega) only [go_sem, ↓reduceIte, Nat.reduceEqDiff, Nat.reduceAdd, Int.reduceToNat, he, hp1, hp2, hlu]
                exact out2 _ _ _ ⟨rfl, hlo2, (by simp +decide (disch := first | assumption | (apply GH.ok_push; assumption) | exact cellV_int _ _ | exact cellV_bool _ | omega) only [go_sem, ↓reduceIte, Nat.reduceEqDiff, Nat.reduceAdd, Int.reduceToNat, he]; first | done | exact rfl), hb⟩
          · have htk : (hooksL L).take i = hooksL L := List.take_of_length_le (by rw [hooksL_len]; omega)
            have hw : divs (fact N) (hooksL L).flatten = waysN L := by rw [waysN, hN]; rfl
            rw [htk, hw] at he
            simp +decide (disch := first | assumption | (apply GH.ok_push; assumption) | exact cellV_int _ _ | exact cellV_bool _ | omega) only [go_sem, ↓reduceIte, Nat.reduceEqDiff, Nat.reduceAdd, Int.reduceToNat, he, hlv]
            exact out _ _ _ ⟨rfl, hlo, (by simp +decide (disch := first | assumption | (apply GH.ok_push; assumption) | exact cellV_int _ _ | exact cellV_bool _ | omega) only [go_sem, ↓reduceIte, Nat.reduceEqDiff, Nat.reduceAdd, Int.reduceToNat, he]; first | done | exact rfl)⟩
      · rintro m e g' lo ho' hl' ih out ⟨rfl, hlo, i, hi, hi1, hi2, he⟩
        by_cases ci : i < N
        · have hb := fact_bnd (i + 1) (by omega)
          have hb2 := fact_bnd i (by omega)
          have hf : fact (i + 1) = fact i * ((i : Int) + 1) := rfl
          rw [hf] at hb
          simp +decide (disch := first | assumption | (apply GH.ok_push; assumption) | exact cellV_int _ _ | exact cellV_bool _ | omega) only [go_sem, ↓reduceIte, Nat.reduceEqDiff, Nat.reduceAdd, Int.reduceToNat, he]
          exact ih (m - 1) _ _ _ (by omega) ⟨rfl, hlo, i + 1, by omega, by omega, by omega, (by simp +decide (disch := first | assumption | (apply GH.ok_push; assumption) | exact cellV_int _ _ | exact cellV_bool _ | omega) only [go_sem, ↓reduceIte, Nat.reduceEqDiff, Nat.reduceAdd, Int.reduceToNat, he, hf]; first | done | exact rfl)⟩
        · have hfN : fact i = fact N := by
            rcases hi2 with hi2 | hi2
            · rw [show i = N by omega]
            · rcases (show N = 0 ∨ N = 1 by omega) with h | h <;> rw [hi2, h] <;> rfl
          rw [hfN] at he
          simp +decide (disch := first | assumption | (apply GH.ok_push; assumption) | exact cellV_int _ _ | exact cellV_bool _ | omega) only [go_sem, ↓reduceIte, Nat.reduceEqDiff, Nat.reduceAdd, Int.reduceToNat, he]
          exact out _ _ _ ⟨rfl, hlo, (by simp +decide (disch := first | assumption | (apply GH.ok_push; assumption) | exact cellV_int _ _ | exact cellV_bool _ | omega) only [go_sem, ↓reduceIte, Nat.reduceEqDiff, Nat.reduceAdd, Int.reduceToNat, he]; first | done | exact rfl)⟩
  · have c' : isShape L = false := by simpa using c
    simp +decide (disch := first | assumption | (apply GH.ok_push; assumption) | exact cellV_int _ _ | exact cellV_bool _ | omega) only [go_sem, ↓reduceIte, Nat.reduceEqDiff, Nat.reduceAdd, Int.reduceToNat, c']
    intro hx0
    exact ⟨by omega, by rw [waysT, if_neg c]⟩
end
/-- The law of the ways. -/
theorem waysLaw_rets {X : Caller} (hX : Xok X) (L : List Int) (s : Value) (g : GH) (hs : SlR g s (ints L)) :
    Rets Try.prog X 7 [s] g (fun v g' lo => g.next ≤ lo ∧ v = .bool true) := by
  refine Rets.run hX.pres p7 (hX.free 7 (by decide) _ _) rfl fun ho => ?_
  simp +decide (disch := first | assumption | (apply GH.ok_push; assumption) | exact cellV_int _ _ | exact cellV_bool _ | omega) only [go_sem, ↓reduceIte, Nat.reduceEqDiff, Nat.reduceAdd, Int.reduceToNat]
  refine CallD.calm (few_rets hX L [] s _ g hs Sl2.nil) ?_
  rintro v G hx rfl
  have hn := hx.next
  have hs1 := hs.ext hx
  by_cases c : L.length ≤ 60
  · have hf : fewB L [] = true := by simp [fewB, c]
    simp +decide (disch := first | assumption | (apply GH.ok_push; assumption) | exact cellV_int _ _ | exact cellV_bool _ | omega) only [go_sem, ↓reduceIte, Nat.reduceEqDiff, Nat.reduceAdd, Int.reduceToNat, hf]
    refine CallD.calm (ways_rets hX L (by omega) s G hs1) ?_
    rintro v G1 hx1 rfl
    have hn1 := hx1.next
    simp +decide (disch := first | assumption | (apply GH.ok_push; assumption) | exact cellV_int _ _ | exact cellV_bool _ | omega) only [go_sem, ↓reduceIte, Nat.reduceEqDiff, Nat.reduceAdd, Int.reduceToNat, ext0, ext1]
    refine CallD.calm (refWays_rets hX L (by omega) s G1 (hs1.ext hx1)) ?_
    rintro v G2 hx2 rfl
    have hn2 := hx2.next
    simp +decide (disch := first | assumption | (apply GH.ok_push; assumption) | exact cellV_int _ _ | exact cellV_bool _ | omega) only [go_sem, ↓reduceIte, Nat.reduceEqDiff, Nat.reduceAdd, Int.reduceToNat, ext0, ext1]
    refine CallD.calm (hX.alive G2) ?_
    rintro v G3 hx3 rfl
    have hn3 := hx3.next
    simp +decide (disch := first | assumption | (apply GH.ok_push; assumption) | exact cellV_int _ _ | exact cellV_bool _ | omega) only [go_sem, ↓reduceIte, Nat.reduceEqDiff, Nat.reduceAdd, Int.reduceToNat]
    intro hx0
    exact ⟨by omega, rfl⟩
  · have hf : fewB L [] = false := by simp [fewB, c]
    simp +decide (disch := first | assumption | (apply GH.ok_push; assumption) | exact cellV_int _ _ | exact cellV_bool _ | omega) only [go_sem, ↓reduceIte, Nat.reduceEqDiff, Nat.reduceAdd, Int.reduceToNat, hf]
    refine CallD.calm (hX.alive G) ?_
    rintro v G1 hx1 rfl
    have hn1 := hx1.next
    simp +decide (disch := first | assumption | (apply GH.ok_push; assumption) | exact cellV_int _ _ | exact cellV_bool _ | omega) only [go_sem, ↓reduceIte, Nat.reduceEqDiff, Nat.reduceAdd, Int.reduceToNat]
    intro hx0
    exact ⟨by omega, rfl⟩
end Go.Proofs.Ytieliilnnfjijaa
