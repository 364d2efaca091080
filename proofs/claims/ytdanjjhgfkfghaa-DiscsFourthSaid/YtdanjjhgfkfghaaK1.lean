import Derived.Test.YtdanjjhgfkfghaaDtK
import Derived.Test.YtdanjjhgfkfghaaKc
import Derived.Test.YtdanjjhgfkfghaaDtD
import Derived.Test.YtdanjjhgfkfghaaDtE
set_option linter.all false
set_option linter.unusedSimpArgs false
set_option linter.unnecessarySimpa false
set_option linter.unusedVariables false
set_option linter.unusedSectionVars false
set_option maxRecDepth 100000
set_option maxHeartbeats 4000000
set_option linter.unusedSimpArgs false
set_option linter.unusedVariables false
namespace Go.Proofs.Ytdanjjhgfkfghaa
open Go.Ds
def ints (D : List Int) : List Value := D.map (Value.int .i64)
theorem ints_get {D : List Int} {i : Nat} (h : i < D.length) : (ints D)[i]? = some (.int .i64 (D.getD i 0)) := by
  simp [ints, h]
theorem ints_len (D : List Int) : (ints D).length = D.length := by simp [ints]
theorem ints_app (D E : List Int) : ints (D ++ E) = ints D ++ ints E := by simp [ints]
theorem ints_cell (D : List Int) : (ints D).all cellV = true := by simp [ints, cellV]
/-- The digits without the highest ones that are 0. -/
def Trim (D E : List Int) : Prop := ∃ n, n ≤ D.length ∧ E = D.take n ∧ (∀ i, n ≤ i → D.getD i 0 = 0) ∧ (n = 0 ∨ D.getD (n - 1) 0 ≠ 0)
structure Xok (X : Caller) : Prop where
  pres : ∀ i, @CallPres i X
  free : ∀ f, f ≠ 21 → f ≠ 65 → f ≠ 66 → ∀ l h, X f l h = none
theorem take_snoc (D : List Int) (i : Nat) (h : i < D.length) : D.take (i + 1) = D.take i ++ [D.getD i 0] := by
  rw [List.take_add_one]; simp [h]
theorem trim_rets {X : Caller} (hX : Xok X) (D : List Int) (hD : D.length < 1000000) (s : Value) (g : GH) (hs : SlR g s (ints D)) : Rets Try.prog X 84 [s] g (fun v g' lo => g.next ≤ lo ∧ ∃ E, Trim D E ∧ Own g' v (ints E) 3 g.next) := by
  refine Rets.run hX.pres p84 (hX.free 84 (by decide) (by decide) (by decide) _ _) rfl fun ho => ?_
  have hl := hs.len
  rw [ints_len] at hl
  simp +decide (disch := first | assumption | (apply GH.ok_push; assumption) | exact cellV_int _ _ | exact cellV_bool _ | omega) only [go_sem, ↓reduceIte, Nat.reduceEqDiff, Nat.reduceAdd, Int.reduceToNat, hl]
  refine Wk.loops (fun m e g' lo => g = g' ∧ lo = g.next ∧ ∃ n : Nat, n = m ∧ n ≤ D.length ∧ (ev e (.s 0) = s ∧ ev e (.s 3) = .int .i64 n) ∧ ∀ i, n ≤ i → D.getD i 0 = 0)
    (fun e g' lo => g = g' ∧ lo = g.next ∧ ∃ n : Nat, n ≤ D.length ∧ (ev e (.s 0) = s ∧ ev e (.s 3) = .int .i64 n) ∧ (∀ i, n ≤ i → D.getD i 0 = 0) ∧ (n = 0 ∨ D.getD (n - 1) 0 ≠ 0)) (n := D.length) ?_ ?_ ?_
  · exact ⟨rfl, rfl, D.length, rfl, Nat.le_refl _, (by simp +decide (disch := first | assumption | (apply GH.ok_push; assumption) | exact cellV_int _ _ | exact cellV_bool _ | omega) only [go_sem, ↓reduceIte, Nat.reduceEqDiff, Nat.reduceAdd, Int.reduceToNat]; first | done | exact rfl), fun i hi => by simp [hi]⟩
  · rintro e g' lo - - ⟨rfl, rfl, n, hn, he, hz, hn0⟩
    simp +decide (disch := first | assumption | (apply GH.ok_push; assumption) | exact cellV_int _ _ | exact cellV_bool _ | omega) only [go_sem, ↓reduceIte, Nat.reduceEqDiff, Nat.reduceAdd, Int.reduceToNat, he]
    refine Wk.loops (fun m e g' lo => g.next ≤ lo ∧ Kept g g' ∧ ∃ i : Nat, i + m = n ∧ (ev e (.s 0) = s ∧ ev e (.s 3) = .int .i64 n ∧ ev e (.s 5) = .int .i64 i) ∧ ∃ o, ev e (.s 4) = o ∧ Own g' o (ints (D.take i)) 3 g.next)
      (fun e g' lo => g.next ≤ lo ∧ ∃ o, ev e (.s 4) = o ∧ Own g' o (ints (D.take n)) 3 g.next) (n := n) ?_ ?_ ?_
    · exact ⟨Nat.le_refl _, Kept.refl _, 0, by omega, (by simp +decide (disch := first | assumption | (apply GH.ok_push; assumption) | exact cellV_int _ _ | exact cellV_bool _ | omega) only [go_sem, ↓reduceIte, Nat.reduceEqDiff, Nat.reduceAdd, Int.reduceToNat, he]; first | done | exact rfl), .slice none 0 0, (by simp +decide (disch := first | assumption | (apply GH.ok_push; assumption) | exact cellV_int _ _ | exact cellV_bool _ | omega) only [go_sem, ↓reduceIte, Nat.reduceEqDiff, Nat.reduceAdd, Int.reduceToNat]; first | done | exact rfl), Own.nil⟩
    · rintro e g' lo - - ⟨hlo, o, h4, hown⟩
      simp +decide (disch := first | assumption | (apply GH.ok_push; assumption) | exact cellV_int _ _ | exact cellV_bool _ | omega) only [go_sem, ↓reduceIte, Nat.reduceEqDiff, Nat.reduceAdd, Int.reduceToNat, h4]
      exact fun hx => ⟨hlo, _, ⟨n, hn, rfl, hz, hn0⟩, hown⟩
    · rintro m e g' lo ho' hl' ih out ⟨hlo, hk, i, hi, he, o, h4, hown⟩
      by_cases c : i < n
      · obtain ⟨p, hp1, hp2⟩ := (hs.kept hk).at (ints_get (D := D) (i := i) (by omega))
        have hp1 := hp1 (i : Int) rfl
        simp +decide (disch := first | assumption | (apply GH.ok_push; assumption) | exact cellV_int _ _ | exact cellV_bool _ | omega) only [go_sem, ↓reduceIte, Nat.reduceEqDiff, Nat.reduceAdd, Int.reduceToNat, he, h4, hp1, hp2]
        refine AppD.own (hown.push ho' _) (SlR.one ho' _ _) (by simp) rfl (by simp [ints_len]; omega) (by have := hk.next; simp [GH.push]; omega) hlo (GH.ok_push ho') (fun s' g2 lo2 sp wr hgr => ?_)
        simp +decide (disch := first | assumption | (apply GH.ok_push; assumption) | exact cellV_int _ _ | exact cellV_bool _ | omega) only [go_sem, ↓reduceIte, Nat.reduceEqDiff, Nat.reduceAdd, Int.reduceToNat, he]
        refine ih (m - 1) _ _ _ (by omega) ⟨hgr.low, (hk.push ho' _).grew hgr (Nat.le_refl _), i + 1, by omega, (by simp +decide (disch := first | assumption | (apply GH.ok_push; assumption) | exact cellV_int _ _ | exact cellV_bool _ | omega) only [go_sem, ↓reduceIte, Nat.reduceEqDiff, Nat.reduceAdd, Int.reduceToNat, he]; first | done | exact rfl), s', (by simp +decide (disch := first | assumption | (apply GH.ok_push; assumption) | exact cellV_int _ _ | exact cellV_bool _ | omega) only [go_sem, ↓reduceIte, Nat.reduceEqDiff, Nat.reduceAdd, Int.reduceToNat]; first | done | exact rfl), ?_⟩
        rw [take_snoc D i (by omega), ints_app]
        exact hgr.own
      · simp +decide (disch := first | assumption | (apply GH.ok_push; assumption) | exact cellV_int _ _ | exact cellV_bool _ | omega) only [go_sem, ↓reduceIte, Nat.reduceEqDiff, Nat.reduceAdd, Int.reduceToNat, he, h4]
        refine out _ _ _ ⟨hlo, o, (by simp +decide (disch := first | assumption | (apply GH.ok_push; assumption) | exact cellV_int _ _ | exact cellV_bool _ | omega) only [go_sem, ↓reduceIte, Nat.reduceEqDiff, Nat.reduceAdd, Int.reduceToNat, h4]; first | done | exact rfl), ?_⟩
        rw [show n = i by omega]; exact hown
  rintro m e g' lo - - ih out ⟨rfl, rfl, n, rfl, hn, he, hz⟩
  by_cases c1 : 0 < n
  · obtain ⟨p, hp1, hp2⟩ := hs.at (ints_get (D := D) (i := n - 1) (by omega))
    have hp1 := hp1 ((n : Int) - 1) (by omega)
    by_cases c2 : D.getD (n - 1) 0 = 0
    · simp +decide (disch := first | assumption | (apply GH.ok_push; assumption) | exact cellV_int _ _ | exact cellV_bool _ | omega) only [go_sem, ↓reduceIte, Nat.reduceEqDiff, Nat.reduceAdd, Int.reduceToNat, he, hp1, hp2, c2]
      refine ih (n - 1) _ _ _ (by omega) ⟨rfl, rfl, n - 1, rfl, by omega, ?_, fun i hi => ?_⟩
      · simp +decide (disch := first | assumption | (apply GH.ok_push; assumption) | exact cellV_int _ _ | exact cellV_bool _ | omega) only [go_sem, ↓reduceIte, Nat.reduceEqDiff, Nat.reduceAdd, Int.reduceToNat, he]
        congr 1; omega
      · by_cases hc : i = n - 1
        · rw [hc]; exact c2
        · exact hz i (by omega)
    · simp +decide (disch := first | assumption | (apply GH.ok_push; assumption) | exact cellV_int _ _ | exact cellV_bool _ | omega) only [go_sem, ↓reduceIte, Nat.reduceEqDiff, Nat.reduceAdd, Int.reduceToNat, he, hp1, hp2, c2]
      exact out _ _ _ ⟨rfl, rfl, n, hn, (by simp +decide (disch := first | assumption | (apply GH.ok_push; assumption) | exact cellV_int _ _ | exact cellV_bool _ | omega) only [go_sem, ↓reduceIte, Nat.reduceEqDiff, Nat.reduceAdd, Int.reduceToNat, he]; first | done | exact rfl), hz, .inr c2⟩
  · simp +decide (disch := first | assumption | (apply GH.ok_push; assumption) | exact cellV_int _ _ | exact cellV_bool _ | omega) only [go_sem, ↓reduceIte, Nat.reduceEqDiff, Nat.reduceAdd, Int.reduceToNat, he]
    exact out _ _ _ ⟨rfl, rfl, n, hn, (by simp +decide (disch := first | assumption | (apply GH.ok_push; assumption) | exact cellV_int _ _ | exact cellV_bool _ | omega) only [go_sem, ↓reduceIte, Nat.reduceEqDiff, Nat.reduceAdd, Int.reduceToNat, he]; first | done | exact rfl), hz, .inl (by omega)⟩
end Go.Proofs.Ytdanjjhgfkfghaa
set_option maxRecDepth 100000
set_option maxHeartbeats 4000000
set_option linter.unusedSimpArgs false
set_option linter.unusedVariables false
namespace Go.Proofs.Ytdanjjhgfkfghaa
open Go.Ds

/-! ## The numbers that digits stand for -/
def val : List Int → Int
  | [] => 0
  | d :: l => d + 10000 * val l
def Dig (D : List Int) : Prop := ∀ d ∈ D, 0 ≤ d ∧ d < 10000
def Nrm (D : List Int) : Prop := D = [] ∨ D.getD (D.length - 1) 0 ≠ 0
theorem val_app (D E : List Int) : val (D ++ E) = val D + 10000 ^ D.length * val E := by
  induction D with
  | nil => simp [val]
  | cons d D ih =>
    simp only [List.cons_append, val, ih, List.length_cons, Int.pow_succ]
    grind
theorem val_snoc (D : List Int) (x : Int) : val (D ++ [x]) = val D + 10000 ^ D.length * x := by
  rw [val_app]; simp [val]
theorem val_zero {D : List Int} (h : ∀ i, D.getD i 0 = 0) : val D = 0 := by
  induction D with
  | nil => rfl
  | cons d D ih =>
    have h0 := h 0
    simp only [List.getD_cons_zero] at h0
    have h1 := ih fun i => by simpa using h (i + 1)
    simp only [val, h0, h1]; rfl
theorem val_nonneg {D : List Int} (h : Dig D) : 0 ≤ val D := by
  induction D with
  | nil => exact Int.le_refl _
  | cons d D ih =>
    have := h d List.mem_cons_self
    have := ih fun x hx => h x (List.mem_cons_of_mem _ hx)
    simp only [val]; omega
theorem Dig.getD {D : List Int} (h : Dig D) (i : Nat) : 0 ≤ D.getD i 0 ∧ D.getD i 0 < 10000 := by
  by_cases c : i < D.length
  · have : D.getD i 0 = D[i] := by simp [c]
    rw [this]; exact h _ (List.getElem_mem c)
  · rw [List.getD_eq_getElem?_getD, List.getElem?_eq_none (by omega)]; decide
theorem Dig.app {D E : List Int} (h : Dig D) (k : Dig E) : Dig (D ++ E) := fun d hd => by
  rcases List.mem_append.1 hd with hd | hd
  · exact h d hd
  · exact k d hd
theorem Dig.one {x : Int} (h0 : 0 ≤ x) (h1 : x < 10000) : Dig [x] := fun d hd => by simp at hd; subst hd; exact ⟨h0, h1⟩
theorem Dig.nil : Dig [] := fun d hd => by cases hd
theorem Dig.take {D : List Int} (h : Dig D) (n : Nat) : Dig (D.take n) := fun d hd => h d (List.mem_of_mem_take hd)
theorem trim_val {D E : List Int} (h : Trim D E) : val E = val D := by
  obtain ⟨n, hn, rfl, hz, h0⟩ := h
  have h1 : val (D.take n ++ D.drop n) = val (D.take n) + 10000 ^ (D.take n).length * val (D.drop n) := val_app _ _
  rw [List.take_append_drop] at h1
  have h2 : val (D.drop n) = 0 := val_zero fun i => by
    have := hz (n + i) (by omega)
    simpa [List.getD_eq_getElem?_getD, List.getElem?_drop] using this
  rw [h1, h2]; simp
theorem trim_dig {D E : List Int} (h : Trim D E) (k : Dig D) : Dig E := by
  obtain ⟨n, hn, rfl, hz, h0⟩ := h
  exact k.take n
theorem trim_nrm {D E : List Int} (h : Trim D E) : Nrm E := by
  obtain ⟨n, hn, rfl, hz, h0⟩ := h
  rcases h0 with rfl | h0
  · exact .inl rfl
  · right
    by_cases c : n = 0
    · subst c
      exfalso
      exact h0 (by have := hz (0 - 1) (by omega); exact this)
    · have hl : (D.take n).length = n := by simp; omega
      rw [hl]
      simp only [List.getD_eq_getElem?_getD, List.getElem?_take] at h0 ⊢
      rw [if_pos (by omega)]
      exact h0
theorem trim_len {D E : List Int} (h : Trim D E) : E.length ≤ D.length := by
  obtain ⟨n, hn, rfl, hz, h0⟩ := h
  simp; omega
/-- The digits of a number of normal form. -/
theorem val_pos {D : List Int} (h : Dig D) (k : Nrm D) (hne : D ≠ []) : 10000 ^ (D.length - 1) ≤ val D := by
  rcases k with rfl | k
  · exact absurd rfl hne
  · induction D with
    | nil => exact absurd rfl hne
    | cons d D ih =>
      have hd := h d List.mem_cons_self
      have hD : Dig D := fun x hx => h x (List.mem_cons_of_mem _ hx)
      cases D with
      | nil =>
        simp [val] at k ⊢
        omega
      | cons d' D' =>
        have := ih hD (by simp) (by simpa using k)
        simp only [val, List.length_cons, Nat.add_sub_cancel] at this ⊢
        rw [Int.pow_succ]
        omega
theorem val_lt {D : List Int} (h : Dig D) : val D < 10000 ^ D.length := by
  induction D with
  | nil => simp [val]
  | cons d D ih =>
    have hd := h d List.mem_cons_self
    have hD : Dig D := fun x hx => h x (List.mem_cons_of_mem _ hx)
    have := ih hD
    simp only [val, List.length_cons, Int.pow_succ]
    omega

/-- A number of any size in memory. -/
def BigR (L : Nat) (g : GH) (v : Value) (n : Int) : Prop := ∃ (neg : Bool) (s : Value) (D : List Int), v = .agg #[.bool neg, s] ∧ SlR g s (ints D) ∧ Dig D ∧ Nrm D ∧ (neg = true → D ≠ []) ∧ D.length ≤ L ∧ n = if neg = true then - val D else val D
theorem BigR.kept {L : Nat} {g g' : GH} {v : Value} {n : Int} (h : BigR L g v n) (k : Kept g g') : BigR L g' v n := by
  obtain ⟨neg, s, D, h1, h2, h3⟩ := h
  exact ⟨neg, s, D, h1, h2.kept k, h3⟩
theorem BigR.le {L M : Nat} {g : GH} {v : Value} {n : Int} (h : BigR L g v n) (k : L ≤ M) : BigR M g v n := by
  obtain ⟨neg, s, D, h1, h2, h3, h4, h5, h6, h7⟩ := h
  exact ⟨neg, s, D, h1, h2, h3, h4, h5, by omega, h7⟩

/-- The same, made behind a base. -/
def BigB (L : Nat) (g : GH) (v : Value) (n : Int) (b : Nat) : Prop := ∃ (neg : Bool) (s : Value) (D : List Int), v = .agg #[.bool neg, s] ∧ SlR g s (ints D) ∧ Dig D ∧ Nrm D ∧ (neg = true → D ≠ []) ∧ D.length ≤ L ∧ (n = if neg = true then - val D else val D) ∧ ∀ a l c, s = .slice (some a) l c → b ≤ a.block
theorem BigB.big {L : Nat} {g : GH} {v : Value} {n : Int} {b : Nat} (h : BigB L g v n b) : BigR L g v n := by
  obtain ⟨neg, s, D, h1, h2, h3, h4, h5, h6, h7, h8⟩ := h
  exact ⟨neg, s, D, h1, h2, h3, h4, h5, h6, h7⟩
theorem BigB.set {L : Nat} {g : GH} {v : Value} {n : Int} {b j0 : Nat} {o0 : Ob} (h : BigB L g v n b) (h0 : g.get j0 = o0) (hk : o0.kind ≠ 0) (hj : j0 < b) (o : Ob) : BigB L (g.set j0 o) v n b := by
  obtain ⟨neg, s, D, h1, h2, h3, h4, h5, h6, h7, h8⟩ := h
  exact ⟨neg, s, D, h1, h2.set h0 hk (fun a l c e => by have := h8 a l c e; omega), h3, h4, h5, h6, h7, h8⟩
theorem BigB.mono {L M : Nat} {g : GH} {v : Value} {n : Int} {b c : Nat} (h : BigB L g v n b) (k : L ≤ M) (hb : c ≤ b) : BigB M g v n c := by
  obtain ⟨neg, s, D, h1, h2, h3, h4, h5, h6, h7, h8⟩ := h
  exact ⟨neg, s, D, h1, h2, h3, h4, h5, by omega, h7, fun a l c e => by have := h8 a l c e; omega⟩
theorem BigB.shape {L : Nat} {g : GH} {v : Value} {n : Int} {b : Nat} (h : BigB L g v n b) : ∃ neg s, v = .agg #[.bool neg, s] ∧ cellV s = true := by
  obtain ⟨neg, s, D, h1, h2, _⟩ := h
  exact ⟨neg, s, h1, h2.cell⟩

theorem whole_rets {X : Caller} (hX : Xok X) (neg : Bool) (D : List Int) (hD : D.length < 1000) (hdig : Dig D) (s : Value) (g : GH) (hs : SlR g s (ints D)) :
    Rets Try.prog X 67 [.bool neg, s] g (fun v g' lo => g.next ≤ lo ∧ BigB D.length g' v (if neg = true then - val D else val D) g.next) := by
  refine Rets.run hX.pres p67 (hX.free 67 (by decide) (by decide) (by decide) _ _) rfl fun ho => ?_
  simp +decide (disch := first | assumption | (apply GH.ok_push; assumption) | exact cellV_int _ _ | exact cellV_bool _ | omega) only [go_sem, ↓reduceIte, Nat.reduceEqDiff, Nat.reduceAdd, Int.reduceToNat]
  refine CallD.calm ((trim_rets hX D (by omega) s _ (hs.push ho _)).mono fun v g' lo hx h => h) ?_
  rintro v g1 hx ⟨E, hE, hown⟩
  have ho1 := hx.ok (GH.ok_push ho)
  have hl := hown.read.len
  rw [ints_len] at hl
  have hk : Kept g g1 := ((Kept.refl g).push ho _).ext hx
  have hn := hx.next
  simp only [GH.push_next] at hn
  have hget : g1.get g.next = cellsOb [.bool false, .slice none 0 0] 64 := by
    rw [hx.get (Nat.lt_succ_self _) (Nat.lt_succ_self _), GH.get_push ho, if_pos rfl]
  have hE0 : (E.length : Int) > 0 ↔ E ≠ [] := by cases E with | nil => simp | cons d E => simp
  have hcell := hown.cell
  have fin : ∀ (b : Bool), (b = true ↔ neg = true ∧ E ≠ []) → BigB D.length (g1.set g.next (cellsOb [.bool b, v] 64)) (.agg #[.bool b, v]) (if neg = true then - val D else val D) g.next := fun b hb => by
    refine ⟨b, v, E, rfl, ?_, trim_dig hE hdig, trim_nrm hE, fun h => (hb.1 h).2, trim_len hE, ?_, fun a l c h => ?_⟩
    · refine (hown.read).set hget (by decide) fun a l c h => ?_
      rcases hown with ⟨rfl, _⟩ | ⟨j, fam, rfl, h2, h3, h4, h5, h6, h7⟩
      · cases h
      · cases h; show j ≠ g.next; simp only [GH.push_next] at h5; omega
    · rw [trim_val hE]
      by_cases hn : neg = true
      · by_cases hE' : E = []
        · have : val D = 0 := by rw [← trim_val hE, hE']; rfl
          rw [this]; simp
        · rw [if_pos hn, if_pos (hb.2 ⟨hn, hE'⟩)]
      · rw [if_neg hn, if_neg fun h => hn (hb.1 h).1]
    · rcases hown with ⟨rfl, _⟩ | ⟨j, fam, rfl, h2, h3, h4, h5, h6, h7⟩
      · cases h
      · cases h; show g.next ≤ j; simp only [GH.push_next] at h5; omega
  have hset := GH.get_set_same hget (by decide)
  cases neg with
  | true =>
    by_cases c : E = []
    · have c' : (E.length : Int) = 0 := by simp [c]
      simp +decide (disch := first | assumption | (apply GH.ok_push; assumption) | exact cellV_int _ _ | exact cellV_bool _ | omega) only [go_sem, ↓reduceIte, Nat.reduceEqDiff, Nat.reduceAdd, Int.reduceToNat, hl, hget, hcell, hset]
      intro hx0
      exact ⟨by simp only [GH.push_next] at *; omega, fin false (by simp [c])⟩
    · have c' : 0 < (E.length : Int) := hE0.2 c
      simp +decide (disch := first | assumption | (apply GH.ok_push; assumption) | exact cellV_int _ _ | exact cellV_bool _ | omega) only [go_sem, ↓reduceIte, Nat.reduceEqDiff, Nat.reduceAdd, Int.reduceToNat, hl, hget, hcell, hset]
      intro hx0
      exact ⟨by simp only [GH.push_next] at *; omega, fin true (by simp [c])⟩
  | false =>
    simp +decide (disch := first | assumption | (apply GH.ok_push; assumption) | exact cellV_int _ _ | exact cellV_bool _ | omega) only [go_sem, ↓reduceIte, Nat.reduceEqDiff, Nat.reduceAdd, Int.reduceToNat, hl, hget, hcell, hset]
    intro hx0
    exact ⟨by simp only [GH.push_next] at *; omega, fin false (by simp)⟩
end Go.Proofs.Ytdanjjhgfkfghaa
set_option maxRecDepth 100000
set_option maxHeartbeats 4000000
set_option linter.unusedSimpArgs false
set_option linter.unusedVariables false
namespace Go.Proofs.Ytdanjjhgfkfghaa
open Go.Ds

theorem tmod_nat (m : Nat) : (m : Int).tmod 10000 = ((m % 10000 : Nat) : Int) := rfl
theorem tdiv_nat (m : Nat) : (m : Int).tdiv 10000 = ((m / 10000 : Nat) : Int) := rfl
theorem tmod_neg (m : Nat) : (-(m : Int)).tmod 10000 = -((m % 10000 : Nat) : Int) := by rw [Int.neg_tmod]; rfl
theorem tdiv_neg (m : Nat) : (-(m : Int)).tdiv 10000 = -((m / 10000 : Nat) : Int) := by rw [Int.neg_tdiv]; rfl
def OfInv (g : GH) (n : Int) (m : Nat) (e : Env) (g' : GH) (lo : Nat) : Prop :=
  g.next ≤ lo ∧ (Kept g g' ∧ g.next + 1 ≤ g'.next ∧ g'.get g.next = cellsOb [.bool false, .slice none 0 0] 64) ∧ ev e (.s 2) = ptrTo g.next ∧ ev e (.s 4) = .bool (decide (n < 0)) ∧ ev e (.s 0) = .int .i64 (if n < 0 then -(m : Int) else m) ∧
  ∃ (o : Value) (D : List Int), ev e (.s 3) = o ∧ Own g' o (ints D) 3 g.next ∧ Dig D ∧ D.length ≤ 5 ∧ val D + 10000 ^ D.length * (m : Int) = (if n < 0 then -n else n) ∧ m < 10000 ^ (5 - D.length)
theorem of_rets {X : Caller} (hX : Xok X) (n : Int) (h1 : -9223372036854775808 ≤ n) (h2 : n ≤ 9223372036854775807) (g : GH) :
    Rets Try.prog X 45 [.int .i64 n] g (fun v g' lo => g.next ≤ lo ∧ BigB 5 g' v n g.next) := by
  refine Rets.run hX.pres p45 (hX.free 45 (by decide) (by decide) (by decide) _ _) rfl fun ho => ?_
  simp +decide (disch := first | assumption | (apply GH.ok_push; assumption) | exact cellV_int _ _ | exact cellV_bool _ | omega) only [go_sem, ↓reduceIte, Nat.reduceEqDiff, Nat.reduceAdd, Int.reduceToNat, ho]
  refine Wk.loops (OfInv g n) (OfInv g n 0) (n := n.natAbs) ?_ ?_ ?_
  · refine ⟨Nat.le_refl _, ⟨(Kept.refl g).push ho _, Nat.le_refl _, by rw [GH.get_push ho, if_pos rfl]⟩, ?_, ?_, ?_, .slice none 0 0, [], ?_, Own.nil, Dig.nil, by simp, ?_, ?_⟩
    · simp +decide (disch := first | assumption | (apply GH.ok_push; assumption) | exact cellV_int _ _ | exact cellV_bool _ | omega) only [go_sem, ↓reduceIte, Nat.reduceEqDiff, Nat.reduceAdd, Int.reduceToNat]
    · simp +decide (disch := first | assumption | (apply GH.ok_push; assumption) | exact cellV_int _ _ | exact cellV_bool _ | omega) only [go_sem, ↓reduceIte, Nat.reduceEqDiff, Nat.reduceAdd, Int.reduceToNat]
    · simp +decide (disch := first | assumption | (apply GH.ok_push; assumption) | exact cellV_int _ _ | exact cellV_bool _ | omega) only [go_sem, ↓reduceIte, Nat.reduceEqDiff, Nat.reduceAdd, Int.reduceToNat]
      congr 1; split <;> omega
    · simp +decide (disch := first | assumption | (apply GH.ok_push; assumption) | exact cellV_int _ _ | exact cellV_bool _ | omega) only [go_sem, ↓reduceIte, Nat.reduceEqDiff, Nat.reduceAdd, Int.reduceToNat]
    · simp [val]; split <;> omega
    · simp; omega
  · rintro e g1 lo ho1 hl1 ⟨hlo, ⟨hk, hn1, hg0⟩, e2, e4, e0, o, D, e3, hown, hdig, hlen, hval, hm⟩
    simp +decide (disch := first | assumption | (apply GH.ok_push; assumption) | exact cellV_int _ _ | exact cellV_bool _ | omega) only [go_sem, ↓reduceIte, Nat.reduceEqDiff, Nat.reduceAdd, Int.reduceToNat, e2, e4, e0, e3]
    refine CallD.calm (whole_rets hX _ D (by omega) hdig o g1 hown.read) ?_
    rintro v g2 hx hb
    obtain ⟨ng, sl, rfl, hcell⟩ := hb.shape
    have hget : g2.get g.next = cellsOb [.bool false, .slice none 0 0] 64 := by
      rw [hx.get (by omega) (by omega), hg0]
    have hset := GH.get_set_same hget (by decide)
    have hn2 := hx.next
    simp +decide (disch := first | assumption | (apply GH.ok_push; assumption) | exact cellV_int _ _ | exact cellV_bool _ | omega) only [go_sem, ↓reduceIte, Nat.reduceEqDiff, Nat.reduceAdd, Int.reduceToNat, e2, hget, hcell, hset]
    intro hx0
    refine ⟨by omega, ?_⟩
    have hb2 := (hb.set hget (by decide) (by omega) (cellsOb [.bool ng, sl] 64)).mono hlen (c := g.next) (by omega)
    have hval' : (if decide (n < 0) = true then -val D else val D) = n := by
      simp at hval
      simp only [decide_eq_true_eq]
      split at hval <;> simp_all <;> omega
    rw [hval'] at hb2
    exact hb2
  · rintro m e g1 lo ho1 hl1 ih out ⟨hlo, ⟨hk, hn1, hg0⟩, e2, e4, e0, o, D, e3, hown, hdig, hlen, hval, hm⟩
    by_cases c : m = 0
    · subst c
      have e0' : ev e (.s 0) = .int .i64 0 := by rw [e0]; simp
      simp +decide (disch := first | assumption | (apply GH.ok_push; assumption) | exact cellV_int _ _ | exact cellV_bool _ | omega) only [go_sem, ↓reduceIte, Nat.reduceEqDiff, Nat.reduceAdd, Int.reduceToNat, e0']
      exact out _ _ _ ⟨hlo, ⟨hk, hn1, hg0⟩, by simp +decide (disch := first | assumption | (apply GH.ok_push; assumption) | exact cellV_int _ _ | exact cellV_bool _ | omega) only [go_sem, ↓reduceIte, Nat.reduceEqDiff, Nat.reduceAdd, Int.reduceToNat, e2], by simp +decide (disch := first | assumption | (apply GH.ok_push; assumption) | exact cellV_int _ _ | exact cellV_bool _ | omega) only [go_sem, ↓reduceIte, Nat.reduceEqDiff, Nat.reduceAdd, Int.reduceToNat, e4], by simp +decide (disch := first | assumption | (apply GH.ok_push; assumption) | exact cellV_int _ _ | exact cellV_bool _ | omega) only [go_sem, ↓reduceIte, Nat.reduceEqDiff, Nat.reduceAdd, Int.reduceToNat, e0], o, D, by simp +decide (disch := first | assumption | (apply GH.ok_push; assumption) | exact cellV_int _ _ | exact cellV_bool _ | omega) only [go_sem, ↓reduceIte, Nat.reduceEqDiff, Nat.reduceAdd, Int.reduceToNat, e3], hown, hdig, hlen, hval, hm⟩
    · have hi : D.length < 5 := by
        rcases Nat.lt_or_eq_of_le hlen with h | h
        · exact h
        · rw [h] at hm; simp at hm; omega
      have hbig : m < 100000000000000000000 := by
        have : (10000 : Nat) ^ (5 - D.length) ≤ 10000 ^ 5 := Nat.pow_le_pow_right (by decide) (by omega)
        omega
      have hm' : m / 10000 < 10000 ^ (5 - (D.length + 1)) := by
        rw [show 5 - D.length = (5 - (D.length + 1)) + 1 by omega, Nat.pow_succ] at hm
        omega
      have hv' : val (D ++ [((m % 10000 : Nat) : Int)]) + 10000 ^ (D.length + 1) * ((m / 10000 : Nat) : Int) = (if n < 0 then -n else n) := by
        rw [← hval, val_snoc, Int.pow_succ]
        have : (m : Int) = 10000 * ((m / 10000 : Nat) : Int) + ((m % 10000 : Nat) : Int) := by omega
        generalize ((m / 10000 : Nat) : Int) = q at *
        generalize ((m % 10000 : Nat) : Int) = r at *
        rw [this]
        grind
      have done : ∀ (e' : Env) (s' : Value) (g2 : GH) (lo2 : Nat), Grew (g1.push (cellsOb [.int .i64 ((m % 10000 : Nat) : Int)] 3)) g2 s' (ints D ++ [.int .i64 ((m % 10000 : Nat) : Int)]) 3 g.next lo lo2 → ev e' (.s 2) = ptrTo g.next → ev e' (.s 4) = .bool (decide (n < 0)) → ev e' (.s 0) = .int .i64 (if n < 0 then -((m / 10000 : Nat) : Int) else ((m / 10000 : Nat) : Int)) → ev e' (.s 3) = s' → OfInv g n (m / 10000) e' g2 lo2 := by
        intro e' s' g2 lo2 hgr e2 e4 e0 e3
        refine ⟨hgr.low, ⟨(hk.push ho1 _).grew hgr (Nat.le_refl _), by have := hgr.next; simp only [GH.push_next] at this; omega, ?_⟩, e2, e4, e0, s', D ++ [((m % 10000 : Nat) : Int)], e3, by rw [ints_app]; exact hgr.own, hdig.app (Dig.one (by omega) (by omega)), by simp; omega, by simpa using hv', by simpa using hm'⟩
        rw [hgr.gets _ (by simp only [GH.push_next]; omega), GH.get_push ho1, if_neg (by omega), hg0]
      by_cases cn : n < 0
      · have e0' : ev e (.s 0) = .int .i64 (-(m : Int)) := by rw [e0, if_pos cn]
        by_cases cr : m % 10000 = 0
        · have e1 : (-(m : Int)).tmod 10000 = ((m % 10000 : Nat) : Int) := by rw [tmod_neg, cr]; rfl
          simp +decide (disch := first | assumption | (apply GH.ok_push; assumption) | exact cellV_int _ _ | exact cellV_bool _ | omega) only [go_sem, ↓reduceIte, Nat.reduceEqDiff, Nat.reduceAdd, Int.reduceToNat, e0', e3, e1, tdiv_neg]
          refine AppD.own (hown.push ho1 _) (SlR.one ho1 _ _) (by simp) rfl (by simp [ints_len]; omega) (by simp only [GH.push_next]; omega) hlo (GH.ok_push ho1) (fun s' g2 lo2 sp wr hgr => ?_)
          simp +decide (disch := first | assumption | (apply GH.ok_push; assumption) | exact cellV_int _ _ | exact cellV_bool _ | omega) only [go_sem, ↓reduceIte, Nat.reduceEqDiff, Nat.reduceAdd, Int.reduceToNat, e0', tdiv_neg]
          refine ih (m / 10000) _ _ _ (by omega) (done _ s' _ _ hgr ?_ ?_ ?_ ?_)
          · simp +decide (disch := first | assumption | (apply GH.ok_push; assumption) | exact cellV_int _ _ | exact cellV_bool _ | omega) only [go_sem, ↓reduceIte, Nat.reduceEqDiff, Nat.reduceAdd, Int.reduceToNat, e2]
          · simp +decide (disch := first | assumption | (apply GH.ok_push; assumption) | exact cellV_int _ _ | exact cellV_bool _ | omega) only [go_sem, ↓reduceIte, Nat.reduceEqDiff, Nat.reduceAdd, Int.reduceToNat, e4]
          · simp +decide (disch := first | assumption | (apply GH.ok_push; assumption) | exact cellV_int _ _ | exact cellV_bool _ | omega) only [go_sem, ↓reduceIte, Nat.reduceEqDiff, Nat.reduceAdd, Int.reduceToNat]
            rw [if_pos cn]
          · simp +decide (disch := first | assumption | (apply GH.ok_push; assumption) | exact cellV_int _ _ | exact cellV_bool _ | omega) only [go_sem, ↓reduceIte, Nat.reduceEqDiff, Nat.reduceAdd, Int.reduceToNat]
        · have e1 : (-(m : Int)).tmod 10000 = -((m % 10000 : Nat) : Int) := tmod_neg m
          have e2' : 0 - -((m % 10000 : Nat) : Int) = ((m % 10000 : Nat) : Int) := by omega
          simp +decide (disch := first | assumption | (apply GH.ok_push; assumption) | exact cellV_int _ _ | exact cellV_bool _ | omega) only [go_sem, ↓reduceIte, Nat.reduceEqDiff, Nat.reduceAdd, Int.reduceToNat, e0', e3, e1, e2', tdiv_neg]
          refine AppD.own (hown.push ho1 _) (SlR.one ho1 _ _) (by simp) rfl (by simp [ints_len]; omega) (by simp only [GH.push_next]; omega) hlo (GH.ok_push ho1) (fun s' g2 lo2 sp wr hgr => ?_)
          simp +decide (disch := first | assumption | (apply GH.ok_push; assumption) | exact cellV_int _ _ | exact cellV_bool _ | omega) only [go_sem, ↓reduceIte, Nat.reduceEqDiff, Nat.reduceAdd, Int.reduceToNat, e0', tdiv_neg]
          refine ih (m / 10000) _ _ _ (by omega) (done _ s' _ _ hgr ?_ ?_ ?_ ?_)
          · simp +decide (disch := first | assumption | (apply GH.ok_push; assumption) | exact cellV_int _ _ | exact cellV_bool _ | omega) only [go_sem, ↓reduceIte, Nat.reduceEqDiff, Nat.reduceAdd, Int.reduceToNat, e2]
          · simp +decide (disch := first | assumption | (apply GH.ok_push; assumption) | exact cellV_int _ _ | exact cellV_bool _ | omega) only [go_sem, ↓reduceIte, Nat.reduceEqDiff, Nat.reduceAdd, Int.reduceToNat, e4]
          · simp +decide (disch := first | assumption | (apply GH.ok_push; assumption) | exact cellV_int _ _ | exact cellV_bool _ | omega) only [go_sem, ↓reduceIte, Nat.reduceEqDiff, Nat.reduceAdd, Int.reduceToNat]
            rw [if_pos cn]
          · simp +decide (disch := first | assumption | (apply GH.ok_push; assumption) | exact cellV_int _ _ | exact cellV_bool _ | omega) only [go_sem, ↓reduceIte, Nat.reduceEqDiff, Nat.reduceAdd, Int.reduceToNat]
      · have e0' : ev e (.s 0) = .int .i64 (m : Int) := by rw [e0, if_neg cn]
        simp +decide (disch := first | assumption | (apply GH.ok_push; assumption) | exact cellV_int _ _ | exact cellV_bool _ | omega) only [go_sem, ↓reduceIte, Nat.reduceEqDiff, Nat.reduceAdd, Int.reduceToNat, e0', e3, tmod_nat, tdiv_nat]
        refine AppD.own (hown.push ho1 _) (SlR.one ho1 _ _) (by simp) rfl (by simp [ints_len]; omega) (by simp only [GH.push_next]; omega) hlo (GH.ok_push ho1) (fun s' g2 lo2 sp wr hgr => ?_)
        simp +decide (disch := first | assumption | (apply GH.ok_push; assumption) | exact cellV_int _ _ | exact cellV_bool _ | omega) only [go_sem, ↓reduceIte, Nat.reduceEqDiff, Nat.reduceAdd, Int.reduceToNat, e0', tdiv_nat]
        refine ih (m / 10000) _ _ _ (by omega) (done _ s' _ _ hgr ?_ ?_ ?_ ?_)
        · simp +decide (disch := first | assumption | (apply GH.ok_push; assumption) | exact cellV_int _ _ | exact cellV_bool _ | omega) only [go_sem, ↓reduceIte, Nat.reduceEqDiff, Nat.reduceAdd, Int.reduceToNat, e2]
        · simp +decide (disch := first | assumption | (apply GH.ok_push; assumption) | exact cellV_int _ _ | exact cellV_bool _ | omega) only [go_sem, ↓reduceIte, Nat.reduceEqDiff, Nat.reduceAdd, Int.reduceToNat, e4]
        · simp +decide (disch := first | assumption | (apply GH.ok_push; assumption) | exact cellV_int _ _ | exact cellV_bool _ | omega) only [go_sem, ↓reduceIte, Nat.reduceEqDiff, Nat.reduceAdd, Int.reduceToNat]
          rw [if_neg cn]
        · simp +decide (disch := first | assumption | (apply GH.ok_push; assumption) | exact cellV_int _ _ | exact cellV_bool _ | omega) only [go_sem, ↓reduceIte, Nat.reduceEqDiff, Nat.reduceAdd, Int.reduceToNat]
end Go.Proofs.Ytdanjjhgfkfghaa
set_option maxRecDepth 100000
set_option maxHeartbeats 4000000
set_option linter.unusedSimpArgs false
set_option linter.unusedVariables false
namespace Go.Proofs.Ytdanjjhgfkfghaa
open Go.Ds

def cmp3 (x y : Int) : Int := if x < y then -1 else if y < x then 1 else 0
theorem val_split (A : List Int) (i : Nat) (h : i < A.length) : val A = val (A.take i) + 10000 ^ i * (A.getD i 0 + 10000 * val (A.drop (i + 1))) := by
  have h1 : A = A.take i ++ (A.getD i 0 :: A.drop (i + 1)) := by
    rw [show A.getD i 0 = A[i] by simp [h], List.getElem_cons_drop, List.take_append_drop]
  have hl : (A.take i).length = i := by simp; omega
  calc val A = val (A.take i ++ (A.getD i 0 :: A.drop (i + 1))) := by rw [← h1]
    _ = _ := by rw [val_app, hl]; rfl
theorem drop_same {A B : List Int} (hl : A.length = B.length) {i : Nat} (h : ∀ k, i ≤ k → A.getD k 0 = B.getD k 0) : A.drop i = B.drop i := by
  apply List.ext_getElem?
  intro k
  rw [List.getElem?_drop, List.getElem?_drop]
  have := h (i + k) (by omega)
  by_cases c : i + k < A.length
  · have c' : i + k < B.length := by omega
    simp only [List.getD_eq_getElem?_getD, List.getElem?_eq_getElem c, List.getElem?_eq_getElem c', Option.getD_some] at this ⊢
    rw [this]
  · rw [List.getElem?_eq_none (by omega), List.getElem?_eq_none (by omega)]
theorem pow_pos' (i : Nat) : (0 : Int) < 10000 ^ i := Int.pow_pos (by decide)
theorem val_less {A B : List Int} (hl : A.length = B.length) (ha : Dig A) (hb : Dig B) {i : Nat} (hi : i < A.length) (h : ∀ k, i + 1 ≤ k → A.getD k 0 = B.getD k 0) (hlt : A.getD i 0 < B.getD i 0) : val A < val B := by
  rw [val_split A i hi, val_split B i (by omega), drop_same hl h]
  have h1 := val_lt (ha.take i)
  have h2 := val_nonneg (hb.take i)
  have hlen : (A.take i).length = i := by simp; omega
  rw [hlen] at h1
  have hp := pow_pos' i
  generalize (10000 : Int) ^ i = p at *
  have : p * (A.getD i 0 + 1 + 10000 * val (B.drop (i + 1))) ≤ p * (B.getD i 0 + 10000 * val (B.drop (i + 1))) := Int.mul_le_mul_of_nonneg_left (by omega) (by omega)
  have e : p * (A.getD i 0 + 1 + 10000 * val (B.drop (i + 1))) = p * (A.getD i 0 + 10000 * val (B.drop (i + 1))) + p := by grind
  omega
theorem val_shorter {A B : List Int} (hl : A.length < B.length) (ha : Dig A) (hb : Dig B) (hn : Nrm B) : val A < val B := by
  have h1 := val_lt ha
  have h2 := val_pos hb hn (by intro h; rw [h] at hl; simp at hl)
  have h3 : (10000 : Int) ^ A.length ≤ 10000 ^ (B.length - 1) := by exact_mod_cast Nat.pow_le_pow_right (n := 10000) (by decide) (show A.length ≤ B.length - 1 by omega)
  omega
theorem cmpD_rets {X : Caller} (hX : Xok X) (A B : List Int) (hA : A.length < 1000) (hB : B.length < 1000) (da : Dig A) (db : Dig B) (na : Nrm A) (nb : Nrm B) (s t : Value) (g : GH) (hs : SlR g s (ints A)) (ht : SlR g t (ints B)) :
    Rets Try.prog X 69 [s, t] g (fun v g' lo => g.next ≤ lo ∧ v = .int .i64 (cmp3 (val A) (val B))) := by
  refine Rets.run hX.pres p69 (hX.free 69 (by decide) (by decide) (by decide) _ _) rfl fun ho => ?_
  have hls := hs.len
  have hlt := ht.len
  rw [ints_len] at hls hlt
  by_cases c1 : A.length < B.length
  · simp +decide (disch := first | assumption | (apply GH.ok_push; assumption) | exact cellV_int _ _ | exact cellV_bool _ | omega) only [go_sem, ↓reduceIte, Nat.reduceEqDiff, Nat.reduceAdd, Int.reduceToNat, hls, hlt]
    intro hx0
    refine ⟨Nat.le_refl _, ?_⟩
    rw [cmp3, if_pos (val_shorter c1 da db nb)]
  by_cases c2 : B.length < A.length
  · simp +decide (disch := first | assumption | (apply GH.ok_push; assumption) | exact cellV_int _ _ | exact cellV_bool _ | omega) only [go_sem, ↓reduceIte, Nat.reduceEqDiff, Nat.reduceAdd, Int.reduceToNat, hls, hlt]
    intro hx0
    refine ⟨Nat.le_refl _, ?_⟩
    have := val_shorter c2 db da na
    rw [cmp3, if_neg (by omega), if_pos this]
  have hl : A.length = B.length := by omega
  simp +decide (disch := first | assumption | (apply GH.ok_push; assumption) | exact cellV_int _ _ | exact cellV_bool _ | omega) only [go_sem, ↓reduceIte, Nat.reduceEqDiff, Nat.reduceAdd, Int.reduceToNat, hls, hlt]
  refine Wk.loops (fun m e g' lo => g = g' ∧ g.next ≤ lo ∧ m ≤ A.length ∧ ev e (.s 0) = s ∧ ev e (.s 1) = t ∧ ev e (.s 5) = .int .i64 ((m : Int) - 1) ∧ ∀ k, m ≤ k → A.getD k 0 = B.getD k 0)
    (fun e g' lo => g = g' ∧ g.next ≤ lo ∧ ∀ k, A.getD k 0 = B.getD k 0) (n := A.length) ?_ ?_ ?_
  · refine ⟨rfl, Nat.le_refl _, Nat.le_refl _, ?_, ?_, ?_, fun k hk => ?_⟩
    · simp +decide (disch := first | assumption | (apply GH.ok_push; assumption) | exact cellV_int _ _ | exact cellV_bool _ | omega) only [go_sem, ↓reduceIte, Nat.reduceEqDiff, Nat.reduceAdd, Int.reduceToNat]
    · simp +decide (disch := first | assumption | (apply GH.ok_push; assumption) | exact cellV_int _ _ | exact cellV_bool _ | omega) only [go_sem, ↓reduceIte, Nat.reduceEqDiff, Nat.reduceAdd, Int.reduceToNat]
    · simp +decide (disch := first | assumption | (apply GH.ok_push; assumption) | exact cellV_int _ _ | exact cellV_bool _ | omega) only [go_sem, ↓reduceIte, Nat.reduceEqDiff, Nat.reduceAdd, Int.reduceToNat]
    · simp [hk, show B.length ≤ k by omega]
  · rintro e g' lo - - ⟨rfl, hlo, heq⟩
    simp +decide (disch := first | assumption | (apply GH.ok_push; assumption) | exact cellV_int _ _ | exact cellV_bool _ | omega) only [go_sem, ↓reduceIte, Nat.reduceEqDiff, Nat.reduceAdd, Int.reduceToNat]
    intro hx0
    refine ⟨hlo, ?_⟩
    have : A = B := by have := drop_same hl (i := 0) fun k _ => heq k; simpa using this
    rw [this, cmp3, if_neg (by omega), if_neg (by omega)]
  · rintro m e g' lo - - ih out ⟨rfl, hlo, hm, h0, h1, h5, heq⟩
    by_cases c : m = 0
    · subst c
      simp +decide (disch := first | assumption | (apply GH.ok_push; assumption) | exact cellV_int _ _ | exact cellV_bool _ | omega) only [go_sem, ↓reduceIte, Nat.reduceEqDiff, Nat.reduceAdd, Int.reduceToNat, h5]
      exact out _ _ _ ⟨rfl, hlo, fun k => heq k (Nat.zero_le _)⟩
    · obtain ⟨j1, o1, hj1, hp1, hp2⟩ := hs.ptr (ints_get (D := A) (i := m - 1) (by omega))
      obtain ⟨j2, o2, hj2, hq1, hq2⟩ := ht.ptr (ints_get (D := B) (i := m - 1) (by omega))
      have hp1 := hp1 ((m : Int) - 1) (by omega)
      have hq1 := hq1 ((m : Int) - 1) (by omega)
      have heq' : ∀ k, m - 1 + 1 ≤ k → A.getD k 0 = B.getD k 0 := fun k hk => heq k (by omega)
      rcases Int.lt_trichotomy (A.getD (m - 1) 0) (B.getD (m - 1) 0) with d | d | d
      · have := val_less hl da db (by omega) heq' d
        simp +decide (disch := first | assumption | (apply GH.ok_push; assumption) | exact cellV_int _ _ | exact cellV_bool _ | omega) only [go_sem, ↓reduceIte, Nat.reduceEqDiff, Nat.reduceAdd, Int.reduceToNat, h0, h1, h5, hp1, hp2, hq1, hq2]
        intro hx0
        exact ⟨hlo, by rw [cmp3, if_pos this]⟩
      · simp +decide (disch := first | assumption | (apply GH.ok_push; assumption) | exact cellV_int _ _ | exact cellV_bool _ | omega) only [go_sem, ↓reduceIte, Nat.reduceEqDiff, Nat.reduceAdd, Int.reduceToNat, h0, h1, h5, hp1, hp2, hq1, hq2, d]
        refine ih (m - 1) _ _ _ (by omega) ⟨rfl, hlo, by omega, by simp +decide (disch := first | assumption | (apply GH.ok_push; assumption) | exact cellV_int _ _ | exact cellV_bool _ | omega) only [go_sem, ↓reduceIte, Nat.reduceEqDiff, Nat.reduceAdd, Int.reduceToNat, h0], by simp +decide (disch := first | assumption | (apply GH.ok_push; assumption) | exact cellV_int _ _ | exact cellV_bool _ | omega) only [go_sem, ↓reduceIte, Nat.reduceEqDiff, Nat.reduceAdd, Int.reduceToNat, h1], ?_, fun k hk => ?_⟩
        · simp +decide (disch := first | assumption | (apply GH.ok_push; assumption) | exact cellV_int _ _ | exact cellV_bool _ | omega) only [go_sem, ↓reduceIte, Nat.reduceEqDiff, Nat.reduceAdd, Int.reduceToNat]
          congr 1; omega
        · by_cases ck : k = m - 1
          · rw [ck]; exact d
          · exact heq k (by omega)
      · have := val_less hl.symm db da (by omega) (fun k hk => (heq' k hk).symm) d
        simp +decide (disch := first | assumption | (apply GH.ok_push; assumption) | exact cellV_int _ _ | exact cellV_bool _ | omega) only [go_sem, ↓reduceIte, Nat.reduceEqDiff, Nat.reduceAdd, Int.reduceToNat, h0, h1, h5, hp1, hp2, hq1, hq2]
        intro hx0
        exact ⟨hlo, by rw [cmp3, if_neg (by omega), if_pos this]⟩
end Go.Proofs.Ytdanjjhgfkfghaa
set_option maxRecDepth 100000
set_option maxHeartbeats 4000000
set_option linter.unusedSimpArgs false
set_option linter.unusedVariables false
namespace Go.Proofs.Ytdanjjhgfkfghaa
open Go.Ds

theorem tmod_e {x : Int} (h : 0 ≤ x) : x.tmod 10000 = x % 10000 := Int.tmod_eq_emod_of_nonneg h
theorem tdiv_e {x : Int} (h : 0 ≤ x) : x.tdiv 10000 = x / 10000 := Int.tdiv_eq_ediv_of_nonneg h
theorem val_drop (D : List Int) (i : Nat) : val (D.drop i) = D.getD i 0 + 10000 * val (D.drop (i + 1)) := by
  by_cases c : i < D.length
  · rw [List.drop_eq_getElem_cons c]
    simp [val, c]
  · rw [List.drop_eq_nil_of_le (by omega), List.drop_eq_nil_of_le (by omega), List.getD_eq_getElem?_getD, List.getElem?_eq_none (by omega)]
    rfl
theorem getD_past {D : List Int} {i : Nat} (h : ¬ i < D.length) : D.getD i 0 = 0 := by
  rw [List.getD_eq_getElem?_getD, List.getElem?_eq_none (by omega)]; rfl
def AddInv (g : GH) (s t : Value) (A B : List Int) (M : Nat) (m : Nat) (e : Env) (g' : GH) (lo : Nat) : Prop :=
  g.next ≤ lo ∧ Kept g g' ∧ ev e (.s 0) = s ∧ ev e (.s 1) = t ∧ ∃ (i : Nat) (c : Int) (o : Value) (O : List Int), ev e (.s 5) = o ∧ ev e (.s 6) = .int .i64 c ∧ ev e (.s 7) = .int .i64 i ∧
    Own g' o (ints O) 3 g.next ∧ Dig O ∧ O.length = i ∧ 0 ≤ c ∧ c ≤ 1 ∧ i + m = M + 1 ∧ (i = M + 1 → c = 0) ∧ val O + 10000 ^ i * (c + val (A.drop i) + val (B.drop i)) = val A + val B
theorem addD_rets {X : Caller} (hX : Xok X) (A B : List Int) (hA : A.length < 1000) (hB : B.length < 1000) (da : Dig A) (db : Dig B) (s t : Value) (g : GH) (hs : SlR g s (ints A)) (ht : SlR g t (ints B)) :
    Rets Try.prog X 68 [s, t] g (fun v g' lo => g.next ≤ lo ∧ ∃ O : List Int, Own g' v (ints O) 3 g.next ∧ Dig O ∧ O.length ≤ max A.length B.length + 1 ∧ val O = val A + val B) := by
  refine Rets.run hX.pres p68 (hX.free 68 (by decide) (by decide) (by decide) _ _) rfl fun ho => ?_
  have hls := hs.len
  have hlt := ht.len
  rw [ints_len] at hls hlt
  simp +decide (disch := first | assumption | (apply GH.ok_push; assumption) | exact cellV_int _ _ | exact cellV_bool _ | omega) only [go_sem, ↓reduceIte, Nat.reduceEqDiff, Nat.reduceAdd, Int.reduceToNat, hls, hlt]
  refine Wk.loops (AddInv g s t A B (max A.length B.length))
    (fun e g' lo => g.next ≤ lo ∧ ∃ (o : Value) (O : List Int), ev e (.s 5) = o ∧ Own g' o (ints O) 3 g.next ∧ Dig O ∧ O.length ≤ max A.length B.length + 1 ∧ val O = val A + val B) (n := max A.length B.length + 1) ?_ ?_ ?_
  · refine ⟨Nat.le_refl _, Kept.refl _, by simp +decide (disch := first | assumption | (apply GH.ok_push; assumption) | exact cellV_int _ _ | exact cellV_bool _ | omega) only [go_sem, ↓reduceIte, Nat.reduceEqDiff, Nat.reduceAdd, Int.reduceToNat], by simp +decide (disch := first | assumption | (apply GH.ok_push; assumption) | exact cellV_int _ _ | exact cellV_bool _ | omega) only [go_sem, ↓reduceIte, Nat.reduceEqDiff, Nat.reduceAdd, Int.reduceToNat], 0, 0, .slice none 0 0, [], by simp +decide (disch := first | assumption | (apply GH.ok_push; assumption) | exact cellV_int _ _ | exact cellV_bool _ | omega) only [go_sem, ↓reduceIte, Nat.reduceEqDiff, Nat.reduceAdd, Int.reduceToNat], by simp +decide (disch := first | assumption | (apply GH.ok_push; assumption) | exact cellV_int _ _ | exact cellV_bool _ | omega) only [go_sem, ↓reduceIte, Nat.reduceEqDiff, Nat.reduceAdd, Int.reduceToNat], (by simp +decide (disch := first | assumption | (apply GH.ok_push; assumption) | exact cellV_int _ _ | exact cellV_bool _ | omega) only [go_sem, ↓reduceIte, Nat.reduceEqDiff, Nat.reduceAdd, Int.reduceToNat]; first | done | exact rfl), Own.nil, Dig.nil, rfl, by decide, by decide, by omega, fun _ => rfl, ?_⟩
    simp [val]
  · rintro e g' lo - - ⟨hlo, o, O, h5, hown, hd, hl, hv⟩
    simp +decide (disch := first | assumption | (apply GH.ok_push; assumption) | exact cellV_int _ _ | exact cellV_bool _ | omega) only [go_sem, ↓reduceIte, Nat.reduceEqDiff, Nat.reduceAdd, Int.reduceToNat, h5]
    intro hx0
    exact ⟨hlo, O, hown, hd, hl, hv⟩
  · rintro m e g' lo ho' hl' ih out ⟨hlo, hk, h0, h1, i, c, o, O, h5, h6, h7, hown, hd, hlen, c0, c1, hm, hlast, hval⟩
    have hnx := hk.next
    have ga := da.getD i
    have gb := db.getD i
    have done : ∀ (x : Int) (e' : Env) (s' : Value) (g2 : GH) (lo2 : Nat), 0 < m → x = c + A.getD i 0 + B.getD i 0 → Grew (g'.push (cellsOb [.int .i64 (x % 10000)] 3)) g2 s' (ints O ++ [.int .i64 (x % 10000)]) 3 g.next lo lo2 → ev e' (.s 0) = s → ev e' (.s 1) = t → ev e' (.s 5) = s' → ev e' (.s 6) = .int .i64 (x / 10000) → ev e' (.s 7) = .int .i64 ((i : Int) + 1) → AddInv g s t A B (max A.length B.length) (m - 1) e' g2 lo2 := by
      intro x e' s' g2 lo2 hm0 hx hgr e0 e1 e5 e6 e7
      refine ⟨hgr.low, (hk.push ho' _).grew hgr (Nat.le_refl _), e0, e1, i + 1, x / 10000, s', O ++ [x % 10000], e5, e6, e7, by rw [ints_app]; exact hgr.own, hd.app (Dig.one (by omega) (by omega)), by simp; omega, by omega, by omega, by omega, fun h => ?_, ?_⟩
      · have h1 : ¬ i < A.length := by omega
        have h2 : ¬ i < B.length := by omega
        rw [getD_past h1, getD_past h2] at hx
        omega
      · rw [← hval, val_snoc, hlen, Int.pow_succ, val_drop A i, val_drop B i]
        have : x = 10000 * (x / 10000) + x % 10000 := by omega
        generalize x / 10000 = q at *
        generalize x % 10000 = r at *
        subst this
        rw [show c = 10000 * q + r - A.getD i 0 - B.getD i 0 by omega]
        grind
    by_cases ca : i < A.length
    · obtain ⟨p, hp1, hp2⟩ := (hs.kept hk).at (ints_get (D := A) (i := i) ca)
      have hp1 := hp1 (i : Int) rfl
      by_cases cb : i < B.length
      · obtain ⟨q, hq1, hq2⟩ := (ht.kept hk).at (ints_get (D := B) (i := i) cb)
        have hq1 := hq1 (i : Int) rfl
        simp +decide (disch := first | assumption | (apply GH.ok_push; assumption) | exact cellV_int _ _ | exact cellV_bool _ | omega) only [go_sem, ↓reduceIte, Nat.reduceEqDiff, Nat.reduceAdd, Int.reduceToNat, hls, hlt, h0, h1, h5, h6, h7, hp1, hp2, hq1, hq2, tmod_e, tdiv_e]
        refine AppD.own (hown.push ho' _) (SlR.one ho' _ _) (by simp) rfl (by simp [ints_len]; omega) (by simp only [GH.push_next]; omega) hlo (GH.ok_push ho') (fun s' g2 lo2 sp wr hgr => ?_)
        simp +decide (disch := first | assumption | (apply GH.ok_push; assumption) | exact cellV_int _ _ | exact cellV_bool _ | omega) only [go_sem, ↓reduceIte, Nat.reduceEqDiff, Nat.reduceAdd, Int.reduceToNat, h7, tdiv_e]
        refine ih (m - 1) _ _ _ (by omega) (done _ _ s' _ _ (by omega) rfl hgr ?_ ?_ ?_ ?_ ?_)
        · simp +decide (disch := first | assumption | (apply GH.ok_push; assumption) | exact cellV_int _ _ | exact cellV_bool _ | omega) only [go_sem, ↓reduceIte, Nat.reduceEqDiff, Nat.reduceAdd, Int.reduceToNat, h0]
        · simp +decide (disch := first | assumption | (apply GH.ok_push; assumption) | exact cellV_int _ _ | exact cellV_bool _ | omega) only [go_sem, ↓reduceIte, Nat.reduceEqDiff, Nat.reduceAdd, Int.reduceToNat, h1]
        · simp +decide (disch := first | assumption | (apply GH.ok_push; assumption) | exact cellV_int _ _ | exact cellV_bool _ | omega) only [go_sem, ↓reduceIte, Nat.reduceEqDiff, Nat.reduceAdd, Int.reduceToNat]
        · simp +decide (disch := first | assumption | (apply GH.ok_push; assumption) | exact cellV_int _ _ | exact cellV_bool _ | omega) only [go_sem, ↓reduceIte, Nat.reduceEqDiff, Nat.reduceAdd, Int.reduceToNat]
        · simp +decide (disch := first | assumption | (apply GH.ok_push; assumption) | exact cellV_int _ _ | exact cellV_bool _ | omega) only [go_sem, ↓reduceIte, Nat.reduceEqDiff, Nat.reduceAdd, Int.reduceToNat]
      · have zb := getD_past cb
        simp +decide (disch := first | assumption | (apply GH.ok_push; assumption) | exact cellV_int _ _ | exact cellV_bool _ | omega) only [go_sem, ↓reduceIte, Nat.reduceEqDiff, Nat.reduceAdd, Int.reduceToNat, hls, hlt, h0, h1, h5, h6, h7, hp1, hp2, tmod_e, tdiv_e]
        refine AppD.own (hown.push ho' _) (SlR.one ho' _ _) (by simp) rfl (by simp [ints_len]; omega) (by simp only [GH.push_next]; omega) hlo (GH.ok_push ho') (fun s' g2 lo2 sp wr hgr => ?_)
        simp +decide (disch := first | assumption | (apply GH.ok_push; assumption) | exact cellV_int _ _ | exact cellV_bool _ | omega) only [go_sem, ↓reduceIte, Nat.reduceEqDiff, Nat.reduceAdd, Int.reduceToNat, h7, tdiv_e]
        refine ih (m - 1) _ _ _ (by omega) (done _ _ s' _ _ (by omega) (by rw [zb]; omega) hgr ?_ ?_ ?_ ?_ ?_)
        · simp +decide (disch := first | assumption | (apply GH.ok_push; assumption) | exact cellV_int _ _ | exact cellV_bool _ | omega) only [go_sem, ↓reduceIte, Nat.reduceEqDiff, Nat.reduceAdd, Int.reduceToNat, h0]
        · simp +decide (disch := first | assumption | (apply GH.ok_push; assumption) | exact cellV_int _ _ | exact cellV_bool _ | omega) only [go_sem, ↓reduceIte, Nat.reduceEqDiff, Nat.reduceAdd, Int.reduceToNat, h1]
        · simp +decide (disch := first | assumption | (apply GH.ok_push; assumption) | exact cellV_int _ _ | exact cellV_bool _ | omega) only [go_sem, ↓reduceIte, Nat.reduceEqDiff, Nat.reduceAdd, Int.reduceToNat]
        · simp +decide (disch := first | assumption | (apply GH.ok_push; assumption) | exact cellV_int _ _ | exact cellV_bool _ | omega) only [go_sem, ↓reduceIte, Nat.reduceEqDiff, Nat.reduceAdd, Int.reduceToNat]
        · simp +decide (disch := first | assumption | (apply GH.ok_push; assumption) | exact cellV_int _ _ | exact cellV_bool _ | omega) only [go_sem, ↓reduceIte, Nat.reduceEqDiff, Nat.reduceAdd, Int.reduceToNat]

    · have za := getD_past ca
      by_cases cb : i < B.length
      · obtain ⟨q, hq1, hq2⟩ := (ht.kept hk).at (ints_get (D := B) (i := i) cb)
        have hq1 := hq1 (i : Int) rfl
        simp +decide (disch := first | assumption | (apply GH.ok_push; assumption) | exact cellV_int _ _ | exact cellV_bool _ | omega) only [go_sem, ↓reduceIte, Nat.reduceEqDiff, Nat.reduceAdd, Int.reduceToNat, hls, hlt, h0, h1, h5, h6, h7, hq1, hq2, tmod_e, tdiv_e]
        refine AppD.own (hown.push ho' _) (SlR.one ho' _ _) (by simp) rfl (by simp [ints_len]; omega) (by simp only [GH.push_next]; omega) hlo (GH.ok_push ho') (fun s' g2 lo2 sp wr hgr => ?_)
        simp +decide (disch := first | assumption | (apply GH.ok_push; assumption) | exact cellV_int _ _ | exact cellV_bool _ | omega) only [go_sem, ↓reduceIte, Nat.reduceEqDiff, Nat.reduceAdd, Int.reduceToNat, h7, tdiv_e]
        refine ih (m - 1) _ _ _ (by omega) (done _ _ s' _ _ (by omega) (by rw [za]; omega) hgr ?_ ?_ ?_ ?_ ?_)
        · simp +decide (disch := first | assumption | (apply GH.ok_push; assumption) | exact cellV_int _ _ | exact cellV_bool _ | omega) only [go_sem, ↓reduceIte, Nat.reduceEqDiff, Nat.reduceAdd, Int.reduceToNat, h0]
        · simp +decide (disch := first | assumption | (apply GH.ok_push; assumption) | exact cellV_int _ _ | exact cellV_bool _ | omega) only [go_sem, ↓reduceIte, Nat.reduceEqDiff, Nat.reduceAdd, Int.reduceToNat, h1]
        · simp +decide (disch := first | assumption | (apply GH.ok_push; assumption) | exact cellV_int _ _ | exact cellV_bool _ | omega) only [go_sem, ↓reduceIte, Nat.reduceEqDiff, Nat.reduceAdd, Int.reduceToNat]
        · simp +decide (disch := first | assumption | (apply GH.ok_push; assumption) | exact cellV_int _ _ | exact cellV_bool _ | omega) only [go_sem, ↓reduceIte, Nat.reduceEqDiff, Nat.reduceAdd, Int.reduceToNat]
        · simp +decide (disch := first | assumption | (apply GH.ok_push; assumption) | exact cellV_int _ _ | exact cellV_bool _ | omega) only [go_sem, ↓reduceIte, Nat.reduceEqDiff, Nat.reduceAdd, Int.reduceToNat]

      · have zb := getD_past cb
        by_cases cc : 0 < c
        · have hm0 : 0 < m := by omega
          simp +decide (disch := first | assumption | (apply GH.ok_push; assumption) | exact cellV_int _ _ | exact cellV_bool _ | omega) only [go_sem, ↓reduceIte, Nat.reduceEqDiff, Nat.reduceAdd, Int.reduceToNat, hls, hlt, h0, h1, h5, h6, h7, tmod_e, tdiv_e]
          refine AppD.own (hown.push ho' _) (SlR.one ho' _ _) (by simp) rfl (by simp [ints_len]; omega) (by simp only [GH.push_next]; omega) hlo (GH.ok_push ho') (fun s' g2 lo2 sp wr hgr => ?_)
          simp +decide (disch := first | assumption | (apply GH.ok_push; assumption) | exact cellV_int _ _ | exact cellV_bool _ | omega) only [go_sem, ↓reduceIte, Nat.reduceEqDiff, Nat.reduceAdd, Int.reduceToNat, h7, tdiv_e]
          refine ih (m - 1) _ _ _ (by omega) (done _ _ s' _ _ (by omega) (by rw [za, zb]; omega) hgr ?_ ?_ ?_ ?_ ?_)
          · simp +decide (disch := first | assumption | (apply GH.ok_push; assumption) | exact cellV_int _ _ | exact cellV_bool _ | omega) only [go_sem, ↓reduceIte, Nat.reduceEqDiff, Nat.reduceAdd, Int.reduceToNat, h0]
          · simp +decide (disch := first | assumption | (apply GH.ok_push; assumption) | exact cellV_int _ _ | exact cellV_bool _ | omega) only [go_sem, ↓reduceIte, Nat.reduceEqDiff, Nat.reduceAdd, Int.reduceToNat, h1]
          · simp +decide (disch := first | assumption | (apply GH.ok_push; assumption) | exact cellV_int _ _ | exact cellV_bool _ | omega) only [go_sem, ↓reduceIte, Nat.reduceEqDiff, Nat.reduceAdd, Int.reduceToNat]
          · simp +decide (disch := first | assumption | (apply GH.ok_push; assumption) | exact cellV_int _ _ | exact cellV_bool _ | omega) only [go_sem, ↓reduceIte, Nat.reduceEqDiff, Nat.reduceAdd, Int.reduceToNat]
          · simp +decide (disch := first | assumption | (apply GH.ok_push; assumption) | exact cellV_int _ _ | exact cellV_bool _ | omega) only [go_sem, ↓reduceIte, Nat.reduceEqDiff, Nat.reduceAdd, Int.reduceToNat]

        · simp +decide (disch := first | assumption | (apply GH.ok_push; assumption) | exact cellV_int _ _ | exact cellV_bool _ | omega) only [go_sem, ↓reduceIte, Nat.reduceEqDiff, Nat.reduceAdd, Int.reduceToNat, hls, hlt, h0, h1, h5, h6, h7]
          refine out _ _ _ ⟨hlo, o, O, by simp +decide (disch := first | assumption | (apply GH.ok_push; assumption) | exact cellV_int _ _ | exact cellV_bool _ | omega) only [go_sem, ↓reduceIte, Nat.reduceEqDiff, Nat.reduceAdd, Int.reduceToNat, h5], hown, hd, by omega, ?_⟩
          rw [List.drop_eq_nil_of_le (by omega), List.drop_eq_nil_of_le (by omega), show c = 0 by omega] at hval
          simpa [val] using hval
end Go.Proofs.Ytdanjjhgfkfghaa
set_option maxRecDepth 100000
set_option maxHeartbeats 4000000
set_option linter.unusedSimpArgs false
set_option linter.unusedVariables false
namespace Go.Proofs.Ytdanjjhgfkfghaa
open Go.Ds

def SubInv (g : GH) (s t : Value) (A B : List Int) (m : Nat) (e : Env) (g' : GH) (lo : Nat) : Prop :=
  g.next ≤ lo ∧ Kept g g' ∧ ev e (.s 0) = s ∧ ev e (.s 1) = t ∧ ∃ (i : Nat) (c : Int) (o : Value) (O : List Int), ev e (.s 5) = o ∧ ev e (.s 6) = .int .i64 c ∧ ev e (.s 7) = .int .i64 i ∧
    Own g' o (ints O) 3 g.next ∧ Dig O ∧ O.length = i ∧ 0 ≤ c ∧ c ≤ 1 ∧ i + m = A.length ∧ val O + 10000 ^ i * (val (A.drop i) - val (B.drop i) - c) = val A - val B
theorem subD_rets {X : Caller} (hX : Xok X) (A B : List Int) (hA : A.length < 1000) (da : Dig A) (db : Dig B) (nb : Nrm B) (hle : val B ≤ val A) (s t : Value) (g : GH) (hs : SlR g s (ints A)) (ht : SlR g t (ints B)) :
    Rets Try.prog X 70 [s, t] g (fun v g' lo => g.next ≤ lo ∧ ∃ O : List Int, Own g' v (ints O) 3 g.next ∧ Dig O ∧ O.length ≤ A.length ∧ val O = val A - val B) := by
  have hlAB : B.length ≤ A.length := Nat.le_of_not_lt fun h => by have := val_shorter h da db nb; omega
  refine Rets.run hX.pres p70 (hX.free 70 (by decide) (by decide) (by decide) _ _) rfl fun ho => ?_
  have hls := hs.len
  have hlt := ht.len
  rw [ints_len] at hls hlt
  simp +decide (disch := first | assumption | (apply GH.ok_push; assumption) | exact cellV_int _ _ | exact cellV_bool _ | omega) only [go_sem, ↓reduceIte, Nat.reduceEqDiff, Nat.reduceAdd, Int.reduceToNat, hls, hlt]
  refine Wk.loops (SubInv g s t A B)
    (fun e g' lo => g.next ≤ lo ∧ Kept g g' ∧ ∃ (o : Value) (O : List Int), ev e (.s 5) = o ∧ Own g' o (ints O) 3 g.next ∧ Dig O ∧ O.length ≤ A.length ∧ val O = val A - val B) (n := A.length) ?_ ?_ ?_
  · refine ⟨Nat.le_refl _, Kept.refl _, by simp +decide (disch := first | assumption | (apply GH.ok_push; assumption) | exact cellV_int _ _ | exact cellV_bool _ | omega) only [go_sem, ↓reduceIte, Nat.reduceEqDiff, Nat.reduceAdd, Int.reduceToNat], by simp +decide (disch := first | assumption | (apply GH.ok_push; assumption) | exact cellV_int _ _ | exact cellV_bool _ | omega) only [go_sem, ↓reduceIte, Nat.reduceEqDiff, Nat.reduceAdd, Int.reduceToNat], 0, 0, .slice none 0 0, [], by simp +decide (disch := first | assumption | (apply GH.ok_push; assumption) | exact cellV_int _ _ | exact cellV_bool _ | omega) only [go_sem, ↓reduceIte, Nat.reduceEqDiff, Nat.reduceAdd, Int.reduceToNat], by simp +decide (disch := first | assumption | (apply GH.ok_push; assumption) | exact cellV_int _ _ | exact cellV_bool _ | omega) only [go_sem, ↓reduceIte, Nat.reduceEqDiff, Nat.reduceAdd, Int.reduceToNat], (by simp +decide (disch := first | assumption | (apply GH.ok_push; assumption) | exact cellV_int _ _ | exact cellV_bool _ | omega) only [go_sem, ↓reduceIte, Nat.reduceEqDiff, Nat.reduceAdd, Int.reduceToNat]; first | done | exact rfl), Own.nil, Dig.nil, rfl, by decide, by decide, by omega, ?_⟩
    simp [val]
  · rintro e g' lo ho1 - ⟨hlo, hk, o, O, h5, hown, hd, hl, hv⟩
    have hnx := hk.next
    simp +decide (disch := first | assumption | (apply GH.ok_push; assumption) | exact cellV_int _ _ | exact cellV_bool _ | omega) only [go_sem, ↓reduceIte, Nat.reduceEqDiff, Nat.reduceAdd, Int.reduceToNat, h5]
    refine CallD.calm (trim_rets hX O (by omega) o g' hown.read) ?_
    rintro v g2 hx ⟨E, hE, hown2⟩
    simp +decide (disch := first | assumption | (apply GH.ok_push; assumption) | exact cellV_int _ _ | exact cellV_bool _ | omega) only [go_sem, ↓reduceIte, Nat.reduceEqDiff, Nat.reduceAdd, Int.reduceToNat]
    intro hx0
    refine ⟨hlo, E, ?_, trim_dig hE hd, by have := trim_len hE; omega, by rw [trim_val hE, hv]⟩
    rcases hown2 with h | ⟨j, fam, q1, q2, q3, q4, q5, q6, q7⟩
    · exact .inl h
    · exact .inr ⟨j, fam, q1, q2, q3, q4, by omega, q6, q7⟩
  · rintro m e g' lo ho' hl' ih out ⟨hlo, hk, h0, h1, i, c, o, O, h5, h6, h7, hown, hd, hlen, c0, c1, hm, hval⟩
    have hnx := hk.next
    have ga := da.getD i
    have gb := db.getD i
    have done : ∀ (x c' : Int) (hm0 : 0 < m) (h0x : 0 ≤ x) (hx1 : x < 10000) (hc0 : 0 ≤ c') (hc1 : c' ≤ 1) (hx : x = A.getD i 0 - B.getD i 0 - c + 10000 * c') (e' : Env) (s' : Value) (g2 : GH) (lo2 : Nat), Grew (g'.push (cellsOb [.int .i64 x] 3)) g2 s' (ints O ++ [.int .i64 x]) 3 g.next lo lo2 → ev e' (.s 0) = s → ev e' (.s 1) = t → ev e' (.s 5) = s' → ev e' (.s 6) = .int .i64 c' → ev e' (.s 7) = .int .i64 ((i : Int) + 1) → SubInv g s t A B (m - 1) e' g2 lo2 := by
      intro x c' hm0 h0x hx1 hc0 hc1 hx e' s' g2 lo2 hgr e0 e1 e5 e6 e7
      refine ⟨hgr.low, (hk.push ho' _).grew hgr (Nat.le_refl _), e0, e1, i + 1, c', s', O ++ [x], e5, e6, e7, by rw [ints_app]; exact hgr.own, hd.app (Dig.one (by omega) (by omega)), by simp; omega, by omega, by omega, by omega, ?_⟩
      rw [← hval, val_snoc, hlen, Int.pow_succ, val_drop A i, val_drop B i, hx]
      grind
    by_cases ca : i < A.length
    · have hm0 : 0 < m := by omega
      obtain ⟨p, hp1, hp2⟩ := (hs.kept hk).at (ints_get (D := A) (i := i) ca)
      have hp1 := hp1 (i : Int) rfl
      by_cases cb : i < B.length
      · obtain ⟨q, hq1, hq2⟩ := (ht.kept hk).at (ints_get (D := B) (i := i) cb)
        have hq1 := hq1 (i : Int) rfl
        by_cases cc : A.getD i 0 - c - B.getD i 0 < 0
        · simp +decide (disch := first | assumption | (apply GH.ok_push; assumption) | exact cellV_int _ _ | exact cellV_bool _ | omega) only [go_sem, ↓reduceIte, Nat.reduceEqDiff, Nat.reduceAdd, Int.reduceToNat, hls, hlt, h0, h1, h5, h6, h7, hp1, hp2, hq1, hq2]
          refine AppD.own (hown.push ho' _) (SlR.one ho' _ _) (by simp) rfl (by simp [ints_len]; omega) (by simp only [GH.push_next]; omega) hlo (GH.ok_push ho') (fun s' g2 lo2 sp wr hgr => ?_)
          simp +decide (disch := first | assumption | (apply GH.ok_push; assumption) | exact cellV_int _ _ | exact cellV_bool _ | omega) only [go_sem, ↓reduceIte, Nat.reduceEqDiff, Nat.reduceAdd, Int.reduceToNat, h7]
          refine ih (m - 1) _ _ _ (by omega) (done (A.getD i 0 - c - B.getD i 0 + 10000) 1 hm0 (by omega) (by omega) (by decide) (by decide) (by omega) _ s' _ _ hgr ?_ ?_ ?_ ?_ ?_)
          · simp +decide (disch := first | assumption | (apply GH.ok_push; assumption) | exact cellV_int _ _ | exact cellV_bool _ | omega) only [go_sem, ↓reduceIte, Nat.reduceEqDiff, Nat.reduceAdd, Int.reduceToNat, h0]
          · simp +decide (disch := first | assumption | (apply GH.ok_push; assumption) | exact cellV_int _ _ | exact cellV_bool _ | omega) only [go_sem, ↓reduceIte, Nat.reduceEqDiff, Nat.reduceAdd, Int.reduceToNat, h1]
          · simp +decide (disch := first | assumption | (apply GH.ok_push; assumption) | exact cellV_int _ _ | exact cellV_bool _ | omega) only [go_sem, ↓reduceIte, Nat.reduceEqDiff, Nat.reduceAdd, Int.reduceToNat]
          · simp +decide (disch := first | assumption | (apply GH.ok_push; assumption) | exact cellV_int _ _ | exact cellV_bool _ | omega) only [go_sem, ↓reduceIte, Nat.reduceEqDiff, Nat.reduceAdd, Int.reduceToNat]
          · simp +decide (disch := first | assumption | (apply GH.ok_push; assumption) | exact cellV_int _ _ | exact cellV_bool _ | omega) only [go_sem, ↓reduceIte, Nat.reduceEqDiff, Nat.reduceAdd, Int.reduceToNat]
        · simp +decide (disch := first | assumption | (apply GH.ok_push; assumption) | exact cellV_int _ _ | exact cellV_bool _ | omega) only [go_sem, ↓reduceIte, Nat.reduceEqDiff, Nat.reduceAdd, Int.reduceToNat, hls, hlt, h0, h1, h5, h6, h7, hp1, hp2, hq1, hq2]
          refine AppD.own (hown.push ho' _) (SlR.one ho' _ _) (by simp) rfl (by simp [ints_len]; omega) (by simp only [GH.push_next]; omega) hlo (GH.ok_push ho') (fun s' g2 lo2 sp wr hgr => ?_)
          simp +decide (disch := first | assumption | (apply GH.ok_push; assumption) | exact cellV_int _ _ | exact cellV_bool _ | omega) only [go_sem, ↓reduceIte, Nat.reduceEqDiff, Nat.reduceAdd, Int.reduceToNat, h7]
          refine ih (m - 1) _ _ _ (by omega) (done (A.getD i 0 - c - B.getD i 0) 0 hm0 (by omega) (by omega) (by decide) (by decide) (by omega) _ s' _ _ hgr ?_ ?_ ?_ ?_ ?_)
          · simp +decide (disch := first | assumption | (apply GH.ok_push; assumption) | exact cellV_int _ _ | exact cellV_bool _ | omega) only [go_sem, ↓reduceIte, Nat.reduceEqDiff, Nat.reduceAdd, Int.reduceToNat, h0]
          · simp +decide (disch := first | assumption | (apply GH.ok_push; assumption) | exact cellV_int _ _ | exact cellV_bool _ | omega) only [go_sem, ↓reduceIte, Nat.reduceEqDiff, Nat.reduceAdd, Int.reduceToNat, h1]
          · simp +decide (disch := first | assumption | (apply GH.ok_push; assumption) | exact cellV_int _ _ | exact cellV_bool _ | omega) only [go_sem, ↓reduceIte, Nat.reduceEqDiff, Nat.reduceAdd, Int.reduceToNat]
          · simp +decide (disch := first | assumption | (apply GH.ok_push; assumption) | exact cellV_int _ _ | exact cellV_bool _ | omega) only [go_sem, ↓reduceIte, Nat.reduceEqDiff, Nat.reduceAdd, Int.reduceToNat]
          · simp +decide (disch := first | assumption | (apply GH.ok_push; assumption) | exact cellV_int _ _ | exact cellV_bool _ | omega) only [go_sem, ↓reduceIte, Nat.reduceEqDiff, Nat.reduceAdd, Int.reduceToNat]
      · have zb := getD_past cb
        by_cases cc : A.getD i 0 - c < 0
        · simp +decide (disch := first | assumption | (apply GH.ok_push; assumption) | exact cellV_int _ _ | exact cellV_bool _ | omega) only [go_sem, ↓reduceIte, Nat.reduceEqDiff, Nat.reduceAdd, Int.reduceToNat, hls, hlt, h0, h1, h5, h6, h7, hp1, hp2]
          refine AppD.own (hown.push ho' _) (SlR.one ho' _ _) (by simp) rfl (by simp [ints_len]; omega) (by simp only [GH.push_next]; omega) hlo (GH.ok_push ho') (fun s' g2 lo2 sp wr hgr => ?_)
          simp +decide (disch := first | assumption | (apply GH.ok_push; assumption) | exact cellV_int _ _ | exact cellV_bool _ | omega) only [go_sem, ↓reduceIte, Nat.reduceEqDiff, Nat.reduceAdd, Int.reduceToNat, h7]
          refine ih (m - 1) _ _ _ (by omega) (done (A.getD i 0 - c + 10000) 1 hm0 (by omega) (by omega) (by decide) (by decide) (by omega) _ s' _ _ hgr ?_ ?_ ?_ ?_ ?_)
          · simp +decide (disch := first | assumption | (apply GH.ok_push; assumption) | exact cellV_int _ _ | exact cellV_bool _ | omega) only [go_sem, ↓reduceIte, Nat.reduceEqDiff, Nat.reduceAdd, Int.reduceToNat, h0]
          · simp +decide (disch := first | assumption | (apply GH.ok_push; assumption) | exact cellV_int _ _ | exact cellV_bool _ | omega) only [go_sem, ↓reduceIte, Nat.reduceEqDiff, Nat.reduceAdd, Int.reduceToNat, h1]
          · simp +decide (disch := first | assumption | (apply GH.ok_push; assumption) | exact cellV_int _ _ | exact cellV_bool _ | omega) only [go_sem, ↓reduceIte, Nat.reduceEqDiff, Nat.reduceAdd, Int.reduceToNat]
          · simp +decide (disch := first | assumption | (apply GH.ok_push; assumption) | exact cellV_int _ _ | exact cellV_bool _ | omega) only [go_sem, ↓reduceIte, Nat.reduceEqDiff, Nat.reduceAdd, Int.reduceToNat]
          · simp +decide (disch := first | assumption | (apply GH.ok_push; assumption) | exact cellV_int _ _ | exact cellV_bool _ | omega) only [go_sem, ↓reduceIte, Nat.reduceEqDiff, Nat.reduceAdd, Int.reduceToNat]
        · simp +decide (disch := first | assumption | (apply GH.ok_push; assumption) | exact cellV_int _ _ | exact cellV_bool _ | omega) only [go_sem, ↓reduceIte, Nat.reduceEqDiff, Nat.reduceAdd, Int.reduceToNat, hls, hlt, h0, h1, h5, h6, h7, hp1, hp2]
          refine AppD.own (hown.push ho' _) (SlR.one ho' _ _) (by simp) rfl (by simp [ints_len]; omega) (by simp only [GH.push_next]; omega) hlo (GH.ok_push ho') (fun s' g2 lo2 sp wr hgr => ?_)
          simp +decide (disch := first | assumption | (apply GH.ok_push; assumption) | exact cellV_int _ _ | exact cellV_bool _ | omega) only [go_sem, ↓reduceIte, Nat.reduceEqDiff, Nat.reduceAdd, Int.reduceToNat, h7]
          refine ih (m - 1) _ _ _ (by omega) (done (A.getD i 0 - c) 0 hm0 (by omega) (by omega) (by decide) (by decide) (by omega) _ s' _ _ hgr ?_ ?_ ?_ ?_ ?_)
          · simp +decide (disch := first | assumption | (apply GH.ok_push; assumption) | exact cellV_int _ _ | exact cellV_bool _ | omega) only [go_sem, ↓reduceIte, Nat.reduceEqDiff, Nat.reduceAdd, Int.reduceToNat, h0]
          · simp +decide (disch := first | assumption | (apply GH.ok_push; assumption) | exact cellV_int _ _ | exact cellV_bool _ | omega) only [go_sem, ↓reduceIte, Nat.reduceEqDiff, Nat.reduceAdd, Int.reduceToNat, h1]
          · simp +decide (disch := first | assumption | (apply GH.ok_push; assumption) | exact cellV_int _ _ | exact cellV_bool _ | omega) only [go_sem, ↓reduceIte, Nat.reduceEqDiff, Nat.reduceAdd, Int.reduceToNat]
          · simp +decide (disch := first | assumption | (apply GH.ok_push; assumption) | exact cellV_int _ _ | exact cellV_bool _ | omega) only [go_sem, ↓reduceIte, Nat.reduceEqDiff, Nat.reduceAdd, Int.reduceToNat]
          · simp +decide (disch := first | assumption | (apply GH.ok_push; assumption) | exact cellV_int _ _ | exact cellV_bool _ | omega) only [go_sem, ↓reduceIte, Nat.reduceEqDiff, Nat.reduceAdd, Int.reduceToNat]
    · simp +decide (disch := first | assumption | (apply GH.ok_push; assumption) | exact cellV_int _ _ | exact cellV_bool _ | omega) only [go_sem, ↓reduceIte, Nat.reduceEqDiff, Nat.reduceAdd, Int.reduceToNat, hls, hlt, h0, h1, h5, h6, h7]
      refine out _ _ _ ⟨hlo, hk, o, O, by simp +decide (disch := first | assumption | (apply GH.ok_push; assumption) | exact cellV_int _ _ | exact cellV_bool _ | omega) only [go_sem, ↓reduceIte, Nat.reduceEqDiff, Nat.reduceAdd, Int.reduceToNat, h5], hown, hd, by omega, ?_⟩
      rw [List.drop_eq_nil_of_le (by omega), List.drop_eq_nil_of_le (by omega)] at hval
      have h1 := val_lt hd
      rw [hlen] at h1
      simp only [val] at hval
      generalize (10000 : Int) ^ i = p at *
      rcases Int.lt_or_le 0 c with h | h
      · have : c = 1 := by omega
        subst this
        have : p * (0 - 0 - 1) = - p := by grind
        omega
      · have : c = 0 := by omega
        subst this
        have : p * (0 - 0 - 0) = 0 := by grind
        omega
end Go.Proofs.Ytdanjjhgfkfghaa
set_option maxRecDepth 100000
set_option maxHeartbeats 4000000
set_option linter.unusedSimpArgs false
set_option linter.unusedVariables false
namespace Go.Proofs.Ytdanjjhgfkfghaa
open Go.Ds

theorem val_set {O : List Int} {n : Nat} (h : n < O.length) (x : Int) : val (O.set n x) = val O + 10000 ^ n * (x - O.getD n 0) := by
  induction O generalizing n with
  | nil => simp at h
  | cons d O ih =>
    cases n with
    | zero => simp [val]; omega
    | succ n =>
      have := ih (n := n) (by simpa using h)
      simp only [List.set_cons_succ, val, this, List.getD_cons_succ, Int.pow_succ]
      grind
theorem getD_set {O : List Int} {n : Nat} (h : n < O.length) (x : Int) (k : Nat) : (O.set n x).getD k 0 = if n = k then x else O.getD k 0 := by
  simp only [List.getD_eq_getElem?_getD, List.getElem?_set]
  by_cases c : n = k
  · subst c; simp [h]
  · simp [c]
theorem ints_set (O : List Int) (n : Nat) (x : Int) : (ints O).set n (.int .i64 x) = ints (O.set n x) := by simp [ints, List.map_set]
theorem Dig.set {O : List Int} (h : Dig O) (n : Nat) {x : Int} (h0 : 0 ≤ x) (h1 : x < 10000) : Dig (O.set n x) := fun d hd => by
  rcases List.mem_or_eq_of_mem_set hd with hd | rfl
  · exact h d hd
  · exact ⟨h0, h1⟩
theorem val_take (D : List Int) (i : Nat) (h : i < D.length) : val (D.take (i + 1)) = val (D.take i) + 10000 ^ i * D.getD i 0 := by
  rw [take_snoc D i h, val_snoc]
  simp [Nat.min_eq_left (Nat.le_of_lt h)]
theorem mulD_zero (n : Nat) : val (List.replicate n 0) = 0 := by
  induction n with
  | zero => rfl
  | succ n ih => simp [List.replicate_succ, val, ih]
def MulHeap (g : GH) (O : List Int) (g' : GH) (lo : Nat) : Prop := g.next ≤ lo ∧ Kept g g' ∧ g'.next = g.next + 1 ∧ g'.get g.next = cellsOb (ints O) 3
theorem MulHeap.set {g g' : GH} {O : List Int} {lo n : Nat} {x : Int} (h : MulHeap g O g' lo) (hn : n < O.length) : MulHeap g (O.set n x) (g'.set g.next (cellsOb (splice n (ints O) [.int .i64 x]) 3)) (min lo g.next) := by
  obtain ⟨h1, h2, h3, h4⟩ := h
  refine ⟨by omega, h2.set h4 Nat.one_ne_zero (Nat.le_refl _) _, h3, ?_⟩
  rw [GH.get_set_same h4 Nat.one_ne_zero, splice_set _ _ _ (by rw [ints_len]; exact hn), ints_set]
def MulOut (g : GH) (s t : Value) (A B : List Int) (m : Nat) (e : Env) (g' : GH) (lo : Nat) : Prop :=
  ev e (.s 0) = s ∧ ev e (.s 1) = t ∧ ev e (.s 5) = .slice (some ⟨g.next, 0, none⟩) (A.length + B.length) (A.length + B.length) ∧ ∃ (i : Nat) (O : List Int), ev e (.s 6) = .int .i64 i ∧ MulHeap g O g' lo ∧ Dig O ∧ O.length = A.length + B.length ∧ i + m = A.length ∧
    (∀ q, i + B.length ≤ q → O.getD q 0 = 0) ∧ val O = val (A.take i) * val B
def MulIn (g : GH) (s t : Value) (A B : List Int) (i : Nat) (m : Nat) (e : Env) (g' : GH) (lo : Nat) : Prop :=
  ev e (.s 0) = s ∧ ev e (.s 1) = t ∧ ev e (.s 5) = .slice (some ⟨g.next, 0, none⟩) (A.length + B.length) (A.length + B.length) ∧ ev e (.s 6) = .int .i64 i ∧ ∃ (k : Nat) (c : Int) (O : List Int), ev e (.s 8) = .int .i64 k ∧ ev e (.s 7) = .int .i64 c ∧ MulHeap g O g' lo ∧ Dig O ∧ O.length = A.length + B.length ∧ k + m = B.length ∧
    0 ≤ c ∧ c < 10000 ∧ (∀ q, i + B.length ≤ q → O.getD q 0 = 0) ∧ val O + 10000 ^ (i + k) * c = val (A.take i) * val B + 10000 ^ i * (A.getD i 0 * val (B.take k))
theorem mulD_rets {X : Caller} (hX : Xok X) (A B : List Int) (hA : A.length < 1000) (hB : B.length < 1000) (da : Dig A) (db : Dig B) (s t : Value) (g : GH) (hs : SlR g s (ints A)) (ht : SlR g t (ints B)) :
    Rets Try.prog X 71 [s, t] g (fun v g' lo => g.next ≤ lo ∧ ∃ O : List Int, Own g' v (ints O) 3 g.next ∧ Dig O ∧ O.length ≤ A.length + B.length ∧ val O = val A * val B) := by
  refine Rets.run hX.pres p71 (hX.free 71 (by decide) (by decide) (by decide) _ _) rfl fun ho => ?_
  have hls := hs.len
  have hlt := ht.len
  rw [ints_len] at hls hlt
  simp +decide (disch := first | assumption | (apply GH.ok_push; assumption) | exact cellV_int _ _ | exact cellV_bool _ | omega) only [go_sem, ↓reduceIte, Nat.reduceEqDiff, Nat.reduceAdd, Int.reduceToNat, hls, hlt]
  refine Wk.mkslice (n := A.length + B.length) (c := A.length + B.length) (by simp +decide (disch := first | assumption | (apply GH.ok_push; assumption) | exact cellV_int _ _ | exact cellV_bool _ | omega) only [go_sem, ↓reduceIte, Nat.reduceEqDiff, Nat.reduceAdd, Int.reduceToNat]; first | done | exact rfl | (congr 1 <;> omega)) (by simp +decide (disch := first | assumption | (apply GH.ok_push; assumption) | exact cellV_int _ _ | exact cellV_bool _ | omega) only [go_sem, ↓reduceIte, Nat.reduceEqDiff, Nat.reduceAdd, Int.reduceToNat]; first | done | exact rfl | (congr 1 <;> omega)) (Nat.le_refl _) (by omega) ?_
  simp +decide (disch := first | assumption | (apply GH.ok_push; assumption) | exact cellV_int _ _ | exact cellV_bool _ | omega) only [go_sem, ↓reduceIte, Nat.reduceEqDiff, Nat.reduceAdd, Int.reduceToNat]
  refine Wk.loops (MulOut g s t A B) (MulOut g s t A B 0) (n := A.length) ?_ ?_ ?_
  · refine ⟨by simp +decide (disch := first | assumption | (apply GH.ok_push; assumption) | exact cellV_int _ _ | exact cellV_bool _ | omega) only [go_sem, ↓reduceIte, Nat.reduceEqDiff, Nat.reduceAdd, Int.reduceToNat], by simp +decide (disch := first | assumption | (apply GH.ok_push; assumption) | exact cellV_int _ _ | exact cellV_bool _ | omega) only [go_sem, ↓reduceIte, Nat.reduceEqDiff, Nat.reduceAdd, Int.reduceToNat], by simp +decide (disch := first | assumption | (apply GH.ok_push; assumption) | exact cellV_int _ _ | exact cellV_bool _ | omega) only [go_sem, ↓reduceIte, Nat.reduceEqDiff, Nat.reduceAdd, Int.reduceToNat], 0, List.replicate (A.length + B.length) 0, (by simp +decide (disch := first | assumption | (apply GH.ok_push; assumption) | exact cellV_int _ _ | exact cellV_bool _ | omega) only [go_sem, ↓reduceIte, Nat.reduceEqDiff, Nat.reduceAdd, Int.reduceToNat]; first | done | exact rfl), ⟨Nat.le_refl _, (Kept.refl g).push ho _, rfl, ?_⟩, ?_, by simp, by omega, fun q hq => ?_, ?_⟩
    · rw [GH.get_push ho, if_pos rfl, repeatN_replicate]; simp [ints]
    · intro d hd; simp at hd; omega
    · simp [List.getD_eq_getElem?_getD, List.getElem?_replicate]; split <;> rfl
    · rw [mulD_zero]; simp [val]
  · rintro e g' lo ho1 - ⟨h0, h1, h5, i, O, h6, ⟨hlo, hk, hnx, hg⟩, hd, hlen, hi, hz, hv⟩
    simp +decide (disch := first | assumption | (apply GH.ok_push; assumption) | exact cellV_int _ _ | exact cellV_bool _ | omega) only [go_sem, ↓reduceIte, Nat.reduceEqDiff, Nat.reduceAdd, Int.reduceToNat, h5]
    have hsl : SlR g' (.slice (some ⟨g.next, 0, none⟩) (A.length + B.length) (A.length + B.length)) (ints O) := .inr ⟨g.next, 0, A.length + B.length, _, by rw [ints_len, hlen], by omega, hg, .inl rfl, by simp [cellsOb], by simp [cellsOb]⟩
    refine CallD.calm (trim_rets hX O (by omega) _ g' hsl) ?_
    rintro v g2 hx ⟨E, hE, hown2⟩
    simp +decide (disch := first | assumption | (apply GH.ok_push; assumption) | exact cellV_int _ _ | exact cellV_bool _ | omega) only [go_sem, ↓reduceIte, Nat.reduceEqDiff, Nat.reduceAdd, Int.reduceToNat]
    intro hx0
    refine ⟨hlo, E, ?_, trim_dig hE hd, by have := trim_len hE; omega, by rw [trim_val hE, hv, show i = A.length by omega, List.take_length]⟩
    rcases hown2 with h | ⟨j, fam, q1, q2, q3, q4, q5, q6, q7⟩
    · exact .inl h
    · exact .inr ⟨j, fam, q1, q2, q3, q4, by omega, q6, q7⟩
  · rintro m e g' lo ho' hl' ih out ⟨h0, h1, h5, i, O, h6, hheap, hd, hlen, hi, hz, hv⟩
    by_cases ca : i < A.length
    · simp +decide (disch := first | assumption | (apply GH.ok_push; assumption) | exact cellV_int _ _ | exact cellV_bool _ | omega) only [go_sem, ↓reduceIte, Nat.reduceEqDiff, Nat.reduceAdd, Int.reduceToNat, hls, h0, h6]
      refine Wk.loops (MulIn g s t A B i) (MulIn g s t A B i 0) (n := B.length) ?_ ?_ ?_
      · refine ⟨by simp +decide (disch := first | assumption | (apply GH.ok_push; assumption) | exact cellV_int _ _ | exact cellV_bool _ | omega) only [go_sem, ↓reduceIte, Nat.reduceEqDiff, Nat.reduceAdd, Int.reduceToNat, h0], by simp +decide (disch := first | assumption | (apply GH.ok_push; assumption) | exact cellV_int _ _ | exact cellV_bool _ | omega) only [go_sem, ↓reduceIte, Nat.reduceEqDiff, Nat.reduceAdd, Int.reduceToNat, h1], by simp +decide (disch := first | assumption | (apply GH.ok_push; assumption) | exact cellV_int _ _ | exact cellV_bool _ | omega) only [go_sem, ↓reduceIte, Nat.reduceEqDiff, Nat.reduceAdd, Int.reduceToNat, h5], by simp +decide (disch := first | assumption | (apply GH.ok_push; assumption) | exact cellV_int _ _ | exact cellV_bool _ | omega) only [go_sem, ↓reduceIte, Nat.reduceEqDiff, Nat.reduceAdd, Int.reduceToNat, h6], 0, 0, O, (by simp +decide (disch := first | assumption | (apply GH.ok_push; assumption) | exact cellV_int _ _ | exact cellV_bool _ | omega) only [go_sem, ↓reduceIte, Nat.reduceEqDiff, Nat.reduceAdd, Int.reduceToNat]; first | done | exact rfl), (by simp +decide (disch := first | assumption | (apply GH.ok_push; assumption) | exact cellV_int _ _ | exact cellV_bool _ | omega) only [go_sem, ↓reduceIte, Nat.reduceEqDiff, Nat.reduceAdd, Int.reduceToNat]; first | done | exact rfl), hheap, hd, hlen, by omega, by decide, by decide, hz, ?_⟩
        simp [val, hv]
      · rintro e g' lo ho' hl' ⟨h0, h1, h5, h6, k, c, O, h8, h7, hheap, hd, hlen, hk, c0, c1, hz, hv⟩
        obtain ⟨hlo, hkp, hnx, hg⟩ := hheap
        have hki : k = B.length := by omega
        subst hki
        have hidx := iaddrS_at (j := g.next) (n := A.length + B.length) (c := A.length + B.length) (m := i + B.length) (x := (i : Int) + (B.length : Int)) (by omega) (by omega)
        simp +decide (disch := first | assumption | (apply GH.ok_push; assumption) | exact cellV_int _ _ | exact cellV_bool _ | omega) only [go_sem, ↓reduceIte, Nat.reduceEqDiff, Nat.reduceAdd, Int.reduceToNat, hlt, h1, h5, h6, h7, hidx, hg, ints_len]
        refine ih (m - 1) _ _ _ (by omega) ⟨by simp +decide (disch := first | assumption | (apply GH.ok_push; assumption) | exact cellV_int _ _ | exact cellV_bool _ | omega) only [go_sem, ↓reduceIte, Nat.reduceEqDiff, Nat.reduceAdd, Int.reduceToNat, h0], by simp +decide (disch := first | assumption | (apply GH.ok_push; assumption) | exact cellV_int _ _ | exact cellV_bool _ | omega) only [go_sem, ↓reduceIte, Nat.reduceEqDiff, Nat.reduceAdd, Int.reduceToNat, h1], by simp +decide (disch := first | assumption | (apply GH.ok_push; assumption) | exact cellV_int _ _ | exact cellV_bool _ | omega) only [go_sem, ↓reduceIte, Nat.reduceEqDiff, Nat.reduceAdd, Int.reduceToNat, h5], i + 1, O.set (i + B.length) c, (by simp +decide (disch := first | assumption | (apply GH.ok_push; assumption) | exact cellV_int _ _ | exact cellV_bool _ | omega) only [go_sem, ↓reduceIte, Nat.reduceEqDiff, Nat.reduceAdd, Int.reduceToNat]; first | done | exact rfl), MulHeap.set ⟨hlo, hkp, hnx, hg⟩ (by omega), hd.set _ c0 c1, by simp; omega, by omega, fun q hq => ?_, ?_⟩
        · rw [getD_set (by omega), if_neg (by omega)]; exact hz q (by omega)
        · rw [val_set (by omega), hz _ (Nat.le_refl _), val_take A i ca]
          rw [List.take_length] at hv
          grind
      · rintro m2 e g' lo ho' hl' ih2 out2 ⟨h0, h1, h5, h6, k, c, O, h8, h7, hheap, hd, hlen, hk, c0, c1, hz, hv⟩
        by_cases cb : k < B.length
        · obtain ⟨hlo, hkp, hnx, hg⟩ := hheap
          have hidx := iaddrS_at (j := g.next) (n := A.length + B.length) (c := A.length + B.length) (m := i + k) (x := (i : Int) + (k : Int)) (by omega) (by omega)
          have hld : ∀ lo, loadF none (g'.at lo) (.pointer (some ⟨g.next, i + k, none⟩)) = some (.int .i64 (O.getD (i + k) 0)) := fun lo => load_one hg (ints_get (by omega))
          obtain ⟨j1, o1, hj1, hp1, hp2⟩ := (hs.kept hkp).ptr (ints_get (D := A) (i := i) ca)
          have hp1 := hp1 (i : Int) rfl
          obtain ⟨j2, o2, hj2, hq1, hq2⟩ := (ht.kept hkp).ptr (ints_get (D := B) (i := k) cb)
          have hq1 := hq1 (k : Int) rfl
          have ga := da.getD i
          have gb := db.getD k
          have go := hd.getD (i + k)
          have hab0 : 0 ≤ A.getD i 0 * B.getD k 0 := Int.mul_nonneg ga.1 gb.1
          have hab1 : A.getD i 0 * B.getD k 0 ≤ 9999 * 9999 := Int.mul_le_mul (by omega) (by omega) gb.1 (by decide)
          simp +decide (disch := first | assumption | (apply GH.ok_push; assumption) | exact cellV_int _ _ | exact cellV_bool _ | omega) only [go_sem, ↓reduceIte, Nat.reduceEqDiff, Nat.reduceAdd, Int.reduceToNat, hlt, h0, h1, h5, h6, h7, h8, hidx, hld, hp1, hp2, hq1, hq2, hg, ints_len, tmod_e, tdiv_e]
          refine ih2 (m2 - 1) _ _ _ (by omega) ⟨by simp +decide (disch := first | assumption | (apply GH.ok_push; assumption) | exact cellV_int _ _ | exact cellV_bool _ | omega) only [go_sem, ↓reduceIte, Nat.reduceEqDiff, Nat.reduceAdd, Int.reduceToNat, h0], by simp +decide (disch := first | assumption | (apply GH.ok_push; assumption) | exact cellV_int _ _ | exact cellV_bool _ | omega) only [go_sem, ↓reduceIte, Nat.reduceEqDiff, Nat.reduceAdd, Int.reduceToNat, h1], by simp +decide (disch := first | assumption | (apply GH.ok_push; assumption) | exact cellV_int _ _ | exact cellV_bool _ | omega) only [go_sem, ↓reduceIte, Nat.reduceEqDiff, Nat.reduceAdd, Int.reduceToNat, h5], by simp +decide (disch := first | assumption | (apply GH.ok_push; assumption) | exact cellV_int _ _ | exact cellV_bool _ | omega) only [go_sem, ↓reduceIte, Nat.reduceEqDiff, Nat.reduceAdd, Int.reduceToNat, h6], k + 1, (O.getD (i + k) 0 + A.getD i 0 * B.getD k 0 + c) / 10000, O.set (i + k) ((O.getD (i + k) 0 + A.getD i 0 * B.getD k 0 + c) % 10000), (by simp +decide (disch := first | assumption | (apply GH.ok_push; assumption) | exact cellV_int _ _ | exact cellV_bool _ | omega) only [go_sem, ↓reduceIte, Nat.reduceEqDiff, Nat.reduceAdd, Int.reduceToNat]; first | done | exact rfl), (by simp +decide (disch := first | assumption | (apply GH.ok_push; assumption) | exact cellV_int _ _ | exact cellV_bool _ | omega) only [go_sem, ↓reduceIte, Nat.reduceEqDiff, Nat.reduceAdd, Int.reduceToNat]; first | done | exact rfl), MulHeap.set ⟨hlo, hkp, hnx, hg⟩ (by omega), hd.set _ (by omega) (by omega), by simp; omega, by omega, by omega, by omega, fun q hq => ?_, ?_⟩
          · rw [getD_set (by omega), if_neg (by omega)]; exact hz q (by omega)
          · rw [val_set (by omega), val_take B k cb, show i + (k + 1) = (i + k) + 1 from rfl, Int.pow_succ]
            have hx : O.getD (i + k) 0 + A.getD i 0 * B.getD k 0 + c = 10000 * ((O.getD (i + k) 0 + A.getD i 0 * B.getD k 0 + c) / 10000) + (O.getD (i + k) 0 + A.getD i 0 * B.getD k 0 + c) % 10000 := by omega
            generalize (O.getD (i + k) 0 + A.getD i 0 * B.getD k 0 + c) / 10000 = q at *
            generalize (O.getD (i + k) 0 + A.getD i 0 * B.getD k 0 + c) % 10000 = r at *
            have hp : (10000 : Int) ^ (i + k) = 10000 ^ i * 10000 ^ k := Int.pow_add _ _ _
            generalize (10000 : Int) ^ (i + k) = pik at *
            generalize (10000 : Int) ^ i = pi at *
            generalize (10000 : Int) ^ k = pk at *
            grind
        · simp +decide (disch := first | assumption | (apply GH.ok_push; assumption) | exact cellV_int _ _ | exact cellV_bool _ | omega) only [go_sem, ↓reduceIte, Nat.reduceEqDiff, Nat.reduceAdd, Int.reduceToNat, hlt, h1, h8]
          exact out2 _ _ _ ⟨by simp +decide (disch := first | assumption | (apply GH.ok_push; assumption) | exact cellV_int _ _ | exact cellV_bool _ | omega) only [go_sem, ↓reduceIte, Nat.reduceEqDiff, Nat.reduceAdd, Int.reduceToNat, h0], by simp +decide (disch := first | assumption | (apply GH.ok_push; assumption) | exact cellV_int _ _ | exact cellV_bool _ | omega) only [go_sem, ↓reduceIte, Nat.reduceEqDiff, Nat.reduceAdd, Int.reduceToNat, h1], by simp +decide (disch := first | assumption | (apply GH.ok_push; assumption) | exact cellV_int _ _ | exact cellV_bool _ | omega) only [go_sem, ↓reduceIte, Nat.reduceEqDiff, Nat.reduceAdd, Int.reduceToNat, h5], by simp +decide (disch := first | assumption | (apply GH.ok_push; assumption) | exact cellV_int _ _ | exact cellV_bool _ | omega) only [go_sem, ↓reduceIte, Nat.reduceEqDiff, Nat.reduceAdd, Int.reduceToNat, h6], k, c, O, by simp +decide (disch := first | assumption | (apply GH.ok_push; assumption) | exact cellV_int _ _ | exact cellV_bool _ | omega) only [go_sem, ↓reduceIte, Nat.reduceEqDiff, Nat.reduceAdd, Int.reduceToNat, h8], by simp +decide (disch := first | assumption | (apply GH.ok_push; assumption) | exact cellV_int _ _ | exact cellV_bool _ | omega) only [go_sem, ↓reduceIte, Nat.reduceEqDiff, Nat.reduceAdd, Int.reduceToNat, h7], hheap, hd, hlen, by omega, c0, c1, hz, hv⟩
    · simp +decide (disch := first | assumption | (apply GH.ok_push; assumption) | exact cellV_int _ _ | exact cellV_bool _ | omega) only [go_sem, ↓reduceIte, Nat.reduceEqDiff, Nat.reduceAdd, Int.reduceToNat, hls, h0, h6]
      exact out _ _ _ ⟨by simp +decide (disch := first | assumption | (apply GH.ok_push; assumption) | exact cellV_int _ _ | exact cellV_bool _ | omega) only [go_sem, ↓reduceIte, Nat.reduceEqDiff, Nat.reduceAdd, Int.reduceToNat, h0], by simp +decide (disch := first | assumption | (apply GH.ok_push; assumption) | exact cellV_int _ _ | exact cellV_bool _ | omega) only [go_sem, ↓reduceIte, Nat.reduceEqDiff, Nat.reduceAdd, Int.reduceToNat, h1], by simp +decide (disch := first | assumption | (apply GH.ok_push; assumption) | exact cellV_int _ _ | exact cellV_bool _ | omega) only [go_sem, ↓reduceIte, Nat.reduceEqDiff, Nat.reduceAdd, Int.reduceToNat, h5], i, O, by simp +decide (disch := first | assumption | (apply GH.ok_push; assumption) | exact cellV_int _ _ | exact cellV_bool _ | omega) only [go_sem, ↓reduceIte, Nat.reduceEqDiff, Nat.reduceAdd, Int.reduceToNat, h6], hheap, hd, hlen, by omega, hz, hv⟩
end Go.Proofs.Ytdanjjhgfkfghaa
set_option maxRecDepth 100000
set_option maxHeartbeats 4000000
set_option linter.unusedSimpArgs false
set_option linter.unusedVariables false
namespace Go.Proofs.Ytdanjjhgfkfghaa
open Go.Ds

theorem ret_whole {g2 : GH} {j : Nat} {neg : Bool} {sl : Value} {L M b : Nat} {n : Int} (hb : BigB L g2 (.agg #[.bool neg, sl]) n b) (hget : g2.get j = cellsOb [.bool false, .slice none 0 0] 64) (hj : j < b) (hLM : L ≤ M) (c : Nat) (hc : c ≤ b) :
    BigB M (g2.set j (cellsOb [.bool neg, sl] 64)) (.agg #[.bool neg, sl]) n c := (hb.set hget Nat.one_ne_zero hj _).mono hLM hc
theorem three {g : GH} (ho : g.ok) (o1 o2 o3 : Ob) : Kept g (((g.push o1).push o2).push o3) ∧ (((g.push o1).push o2).push o3).ok ∧ (((g.push o1).push o2).push o3).next = g.next + 3 ∧ (((g.push o1).push o2).push o3).get g.next = o1 ∧ (((g.push o1).push o2).push o3).get (g.next + 1) = o2 ∧ (((g.push o1).push o2).push o3).get (g.next + 2) = o3 := by
  have h1 := GH.ok_push (o := o1) ho
  have h2 := GH.ok_push (o := o2) h1
  refine ⟨(((Kept.refl g).push ho _).push h1 _).push h2 _, GH.ok_push h2, rfl, ?_, ?_, ?_⟩
  · rw [GH.get_push h2, if_neg (by simp [GH.push]; omega), GH.get_push h1, if_neg (by simp [GH.push]), GH.get_push ho, if_pos rfl]
  · rw [GH.get_push h2, if_neg (by simp [GH.push]), GH.get_push h1]; exact if_pos rfl
  · rw [GH.get_push h2]; exact if_pos rfl
theorem plus_rets {X : Caller} (hX : Xok X) (L1 L2 : Nat) (h1 : L1 < 500) (h2 : L2 < 500) (a b : Value) (x y : Int) (g : GH) (ha : BigR L1 g a x) (hb : BigR L2 g b y) :
    Rets Try.prog X 46 [a, b] g (fun v g' lo => g.next ≤ lo ∧ BigB (max L1 L2 + 1) g' v (x + y) g.next) := by
  obtain ⟨na, sa, A, rfl, ra, da, fa, pa, la, xa⟩ := ha
  obtain ⟨nb, sb, B, rfl, rb, db, fb, pb, lb, yb⟩ := hb
  refine Rets.run hX.pres p46 (hX.free 46 (by decide) (by decide) (by decide) _ _) rfl fun ho => ?_
  have ca := ra.cell
  have cb := rb.cell
  simp +decide only [dseq, dreg, dbox, dalloc, nV_eq, cellsOf, tick, ev_put, ev_fill, ev_fill0, ev_none, ↓reduceIte, Nat.reduceEqDiff, Nat.reduceAdd]
  obtain ⟨hk, hok, hnx, g1, g2, g3⟩ := three ho (cellsOb [.bool na, sa] 64) (cellsOb [.bool nb, sb] 64) (cellsOb [.bool false, .slice none 0 0] 64)
  generalize ((g.push (cellsOb [.bool na, sa] 64)).push (cellsOb [.bool nb, sb] 64)).push (cellsOb [.bool false, .slice none 0 0] 64) = G at *
  have ra3 := ra.kept hk
  have rb3 := rb.kept hk
  by_cases hn : na = nb
  · subst hn
    simp +decide (disch := first | assumption | (apply GH.ok_push; assumption) | exact cellV_int _ _ | exact cellV_bool _ | omega) only [go_sem, ↓reduceIte, Nat.reduceEqDiff, Nat.reduceAdd, Int.reduceToNat, ca, cb, g1, g2, g3]
    refine CallD.calmH (by simp +decide (disch := first | assumption | (apply GH.ok_push; assumption) | exact cellV_int _ _ | exact cellV_bool _ | omega) only [go_sem, ↓reduceIte, Nat.reduceEqDiff, Nat.reduceAdd, Int.reduceToNat, spansOf, spanAt, Nat.lt_irrefl]; first | done | rfl) rfl (addD_rets hX A B (by omega) (by omega) da db sa sb G ra3 rb3) ?_
    rintro v G2 hx ⟨O, hown, dO, lO, vO⟩
    simp +decide (disch := first | assumption | (apply GH.ok_push; assumption) | exact cellV_int _ _ | exact cellV_bool _ | omega) only [go_sem, ↓reduceIte, Nat.reduceEqDiff, Nat.reduceAdd, Int.reduceToNat]
    refine CallD.calm (whole_rets hX na O (by omega) dO v G2 hown.read) ?_
    rintro w G3 hx3 hb3
    obtain ⟨ng, sl, rfl, hcell⟩ := hb3.shape
    have hnx2 := hx.next
    have hnx3 := hx3.next
    have hget : G3.get (g.next + 2) = cellsOb [.bool false, .slice none 0 0] 64 := by
      rw [hx3.get (by omega) (by omega), hx.get (by omega) (by omega), g3]
    have hset := GH.get_set_same hget Nat.one_ne_zero
    simp +decide (disch := first | assumption | (apply GH.ok_push; assumption) | exact cellV_int _ _ | exact cellV_bool _ | omega) only [go_sem, ↓reduceIte, Nat.reduceEqDiff, Nat.reduceAdd, Int.reduceToNat, hget, hcell, hset]
    intro hx0
    refine ⟨by omega, ?_⟩
    have hfin := ret_whole (M := max L1 L2 + 1) hb3 hget (by omega) (by omega) g.next (by omega)
    have hxy : (if na = true then -val O else val O) = x + y := by
      rw [vO, xa, yb]
      cases na <;> simp <;> omega
    rw [hxy] at hfin
    exact hfin
  · have hn' : (na == nb) = false := by simpa using hn
    simp +decide (disch := first | assumption | (apply GH.ok_push; assumption) | exact cellV_int _ _ | exact cellV_bool _ | omega) only [go_sem, ↓reduceIte, Nat.reduceEqDiff, Nat.reduceAdd, Int.reduceToNat, ca, cb, g1, g2, g3, hn']
    refine CallD.calm (cmpD_rets hX A B (by omega) (by omega) da db fa fb sa sb G ra3 rb3) ?_
    rintro v G1 hx1 rfl
    have hk1 := hx1.kept
    have hnx1 := hx1.next
    have g1' := (hk1.gets g.next (by omega)).trans g1
    have g2' := (hk1.gets (g.next + 1) (by omega)).trans g2
    have g3' := (hk1.gets (g.next + 2) (by omega)).trans g3
    have ra4 := ra3.kept hk1
    have rb4 := rb3.kept hk1
    by_cases hc : val B ≤ val A
    · have hcmp : 0 ≤ cmp3 (val A) (val B) := by unfold cmp3; rw [if_neg (by omega)]; split <;> decide
      simp +decide (disch := first | assumption | (apply GH.ok_push; assumption) | exact cellV_int _ _ | exact cellV_bool _ | omega) only [go_sem, ↓reduceIte, Nat.reduceEqDiff, Nat.reduceAdd, Int.reduceToNat, ca, cb, g1', g2', g3']
      refine CallD.calmH (by simp +decide (disch := first | assumption | (apply GH.ok_push; assumption) | exact cellV_int _ _ | exact cellV_bool _ | omega) only [go_sem, ↓reduceIte, Nat.reduceEqDiff, Nat.reduceAdd, Int.reduceToNat, spansOf, spanAt, Nat.lt_irrefl]; first | done | rfl) rfl (subD_rets hX A B (by omega) da db fb hc sa sb G1 ra4 rb4) ?_
      rintro v G2 hx ⟨O, hown, dO, lO, vO⟩
      simp +decide (disch := first | assumption | (apply GH.ok_push; assumption) | exact cellV_int _ _ | exact cellV_bool _ | omega) only [go_sem, ↓reduceIte, Nat.reduceEqDiff, Nat.reduceAdd, Int.reduceToNat]
      refine CallD.calm (whole_rets hX na O (by omega) dO v G2 hown.read) ?_
      rintro w G3 hx3 hb3
      obtain ⟨ng, sl, rfl, hcell⟩ := hb3.shape
      have hnx2 := hx.next
      have hnx3 := hx3.next
      have hget : G3.get (g.next + 2) = cellsOb [.bool false, .slice none 0 0] 64 := by
        rw [hx3.get (by omega) (by omega), hx.get (by omega) (by omega), g3']
      have hset := GH.get_set_same hget Nat.one_ne_zero
      simp +decide (disch := first | assumption | (apply GH.ok_push; assumption) | exact cellV_int _ _ | exact cellV_bool _ | omega) only [go_sem, ↓reduceIte, Nat.reduceEqDiff, Nat.reduceAdd, Int.reduceToNat, hget, hcell, hset]
      intro hx0
      refine ⟨by omega, ?_⟩
      have hfin := ret_whole (M := max L1 L2 + 1) hb3 hget (by omega) (by omega) g.next (by omega)
      have hxy : (if na = true then -val O else val O) = x + y := by
        rw [vO, xa, yb]
        cases na <;> cases nb <;> simp at hn ⊢ <;> omega
      rw [hxy] at hfin
      exact hfin
    · have hcmp : cmp3 (val A) (val B) < 0 := by unfold cmp3; rw [if_pos (by omega)]; decide
      simp +decide (disch := first | assumption | (apply GH.ok_push; assumption) | exact cellV_int _ _ | exact cellV_bool _ | omega) only [go_sem, ↓reduceIte, Nat.reduceEqDiff, Nat.reduceAdd, Int.reduceToNat, ca, cb, g1', g2', g3']
      refine CallD.calmH (by simp +decide (disch := first | assumption | (apply GH.ok_push; assumption) | exact cellV_int _ _ | exact cellV_bool _ | omega) only [go_sem, ↓reduceIte, Nat.reduceEqDiff, Nat.reduceAdd, Int.reduceToNat, spansOf, spanAt, Nat.lt_irrefl]; first | done | rfl) rfl (subD_rets hX B A (by omega) db da fa (by omega) sb sa G1 rb4 ra4) ?_
      rintro v G2 hx ⟨O, hown, dO, lO, vO⟩
      simp +decide (disch := first | assumption | (apply GH.ok_push; assumption) | exact cellV_int _ _ | exact cellV_bool _ | omega) only [go_sem, ↓reduceIte, Nat.reduceEqDiff, Nat.reduceAdd, Int.reduceToNat]
      refine CallD.calm (whole_rets hX nb O (by omega) dO v G2 hown.read) ?_
      rintro w G3 hx3 hb3
      obtain ⟨ng, sl, rfl, hcell⟩ := hb3.shape
      have hnx2 := hx.next
      have hnx3 := hx3.next
      have hget : G3.get (g.next + 2) = cellsOb [.bool false, .slice none 0 0] 64 := by
        rw [hx3.get (by omega) (by omega), hx.get (by omega) (by omega), g3']
      have hset := GH.get_set_same hget Nat.one_ne_zero
      simp +decide (disch := first | assumption | (apply GH.ok_push; assumption) | exact cellV_int _ _ | exact cellV_bool _ | omega) only [go_sem, ↓reduceIte, Nat.reduceEqDiff, Nat.reduceAdd, Int.reduceToNat, hget, hcell, hset]
      intro hx0
      refine ⟨by omega, ?_⟩
      have hfin := ret_whole (M := max L1 L2 + 1) hb3 hget (by omega) (by omega) g.next (by omega)
      have hxy : (if nb = true then -val O else val O) = x + y := by
        rw [vO, xa, yb]
        cases na <;> cases nb <;> simp at hn ⊢ <;> omega
      rw [hxy] at hfin
      exact hfin
end Go.Proofs.Ytdanjjhgfkfghaa
set_option maxRecDepth 100000
set_option maxHeartbeats 4000000
set_option linter.unusedSimpArgs false
set_option linter.unusedVariables false
namespace Go.Proofs.Ytdanjjhgfkfghaa
open Go.Ds

theorem two {g : GH} (ho : g.ok) (o1 o2 : Ob) : Kept g ((g.push o1).push o2) ∧ ((g.push o1).push o2).ok ∧ ((g.push o1).push o2).next = g.next + 2 ∧ ((g.push o1).push o2).get g.next = o1 ∧ ((g.push o1).push o2).get (g.next + 1) = o2 := by
  have h1 := GH.ok_push (o := o1) ho
  refine ⟨((Kept.refl g).push ho _).push h1 _, GH.ok_push h1, rfl, ?_, ?_⟩
  · rw [GH.get_push h1, if_neg (by simp [GH.push]), GH.get_push ho, if_pos rfl]
  · rw [GH.get_push h1]; exact if_pos rfl
theorem times_rets {X : Caller} (hX : Xok X) (L1 L2 : Nat) (h1 : L1 < 400) (h2 : L2 < 400) (a b : Value) (x y : Int) (g : GH) (ha : BigR L1 g a x) (hb : BigR L2 g b y) :
    Rets Try.prog X 47 [a, b] g (fun v g' lo => g.next ≤ lo ∧ BigB (L1 + L2) g' v (x * y) g.next) := by
  obtain ⟨na, sa, A, rfl, ra, da, fa, pa, la, xa⟩ := ha
  obtain ⟨nb, sb, B, rfl, rb, db, fb, pb, lb, yb⟩ := hb
  refine Rets.run hX.pres p47 (hX.free 47 (by decide) (by decide) (by decide) _ _) rfl fun ho => ?_
  have ca := ra.cell
  have cb := rb.cell
  simp +decide only [dseq, dreg, dbox, dalloc, nV_eq, cellsOf, tick, ev_put, ev_fill, ev_fill0, ev_none, ↓reduceIte, Nat.reduceEqDiff, Nat.reduceAdd]
  obtain ⟨hk, hok, hnx, g1, g2, g3⟩ := three ho (cellsOb [.bool na, sa] 64) (cellsOb [.bool nb, sb] 64) (cellsOb [.bool false, .slice none 0 0] 64)
  generalize ((g.push (cellsOb [.bool na, sa] 64)).push (cellsOb [.bool nb, sb] 64)).push (cellsOb [.bool false, .slice none 0 0] 64) = G at *
  have ra3 := ra.kept hk
  have rb3 := rb.kept hk
  have hne : (!(na == nb)) = (na != nb) := rfl
  simp +decide (disch := first | assumption | (apply GH.ok_push; assumption) | exact cellV_int _ _ | exact cellV_bool _ | omega) only [go_sem, ↓reduceIte, Nat.reduceEqDiff, Nat.reduceAdd, Int.reduceToNat, ca, cb, g1, g2, g3, hne]
  refine CallD.calmH (by simp +decide (disch := first | assumption | (apply GH.ok_push; assumption) | exact cellV_int _ _ | exact cellV_bool _ | omega) only [go_sem, ↓reduceIte, Nat.reduceEqDiff, Nat.reduceAdd, Int.reduceToNat, spansOf, spanAt, Nat.lt_irrefl]; first | done | rfl) rfl (mulD_rets hX A B (by omega) (by omega) da db sa sb G ra3 rb3) ?_
  rintro v G2 hx ⟨O, hown, dO, lO, vO⟩
  simp +decide (disch := first | assumption | (apply GH.ok_push; assumption) | exact cellV_int _ _ | exact cellV_bool _ | omega) only [go_sem, ↓reduceIte, Nat.reduceEqDiff, Nat.reduceAdd, Int.reduceToNat]
  refine CallD.calm (whole_rets hX (na != nb) O (by omega) dO v G2 hown.read) ?_
  rintro w G3 hx3 hb3
  obtain ⟨ng, sl, rfl, hcell⟩ := hb3.shape
  have hnx2 := hx.next
  have hnx3 := hx3.next
  have hget : G3.get (g.next + 2) = cellsOb [.bool false, .slice none 0 0] 64 := by
    rw [hx3.get (by omega) (by omega), hx.get (by omega) (by omega), g3]
  have hset := GH.get_set_same hget Nat.one_ne_zero
  simp +decide (disch := first | assumption | (apply GH.ok_push; assumption) | exact cellV_int _ _ | exact cellV_bool _ | omega) only [go_sem, ↓reduceIte, Nat.reduceEqDiff, Nat.reduceAdd, Int.reduceToNat, hget, hcell, hset]
  intro hx0
  refine ⟨by omega, ?_⟩
  have hfin := ret_whole (M := L1 + L2) hb3 hget (by omega) (by omega) g.next (by omega)
  have hxy : (if (na != nb) = true then -val O else val O) = x * y := by
    rw [vO, xa, yb]
    cases na <;> cases nb <;> simp <;> grind
  rw [hxy] at hfin
  exact hfin
theorem compare_rets {X : Caller} (hX : Xok X) (L1 L2 : Nat) (h1 : L1 < 1000) (h2 : L2 < 1000) (a b : Value) (x y : Int) (g : GH) (ha : BigR L1 g a x) (hb : BigR L2 g b y) :
    Rets Try.prog X 48 [a, b] g (fun v g' lo => g.next ≤ lo ∧ v = .int .i64 (cmp3 x y)) := by
  obtain ⟨na, sa, A, rfl, ra, da, fa, pa, la, xa⟩ := ha
  obtain ⟨nb, sb, B, rfl, rb, db, fb, pb, lb, yb⟩ := hb
  refine Rets.run hX.pres p48 (hX.free 48 (by decide) (by decide) (by decide) _ _) rfl fun ho => ?_
  have ca := ra.cell
  have cb := rb.cell
  have va := val_nonneg da
  have vb := val_nonneg db
  simp +decide only [dseq, dreg, dbox, dalloc, nV_eq, cellsOf, tick, ev_put, ev_fill, ev_fill0, ev_none, ↓reduceIte, Nat.reduceEqDiff, Nat.reduceAdd]
  obtain ⟨hk, hok, hnx, g1, g2⟩ := two ho (cellsOb [.bool na, sa] 64) (cellsOb [.bool nb, sb] 64)
  generalize (g.push (cellsOb [.bool na, sa] 64)).push (cellsOb [.bool nb, sb] 64) = G at *
  have ra3 := ra.kept hk
  have rb3 := rb.kept hk
  by_cases hn : na = nb
  · subst hn
    simp +decide (disch := first | assumption | (apply GH.ok_push; assumption) | exact cellV_int _ _ | exact cellV_bool _ | omega) only [go_sem, ↓reduceIte, Nat.reduceEqDiff, Nat.reduceAdd, Int.reduceToNat, ca, cb, g1, g2]
    refine CallD.calm (cmpD_rets hX A B (by omega) (by omega) da db fa fb sa sb G ra3 rb3) ?_
    rintro v G1 hx1 rfl
    have hk1 := hx1.kept
    have g1' := (hk1.gets g.next (by omega)).trans g1
    cases na with
    | true =>
      have h9 : (0 : Int) - cmp3 (val A) (val B) = cmp3 x y := by
        simp at xa yb
        unfold cmp3; split <;> split <;> (try split) <;> (try split) <;> omega
      have h8 : -9223372036854775808 ≤ cmp3 x y ∧ cmp3 x y ≤ 9223372036854775807 := by unfold cmp3; split <;> (try split) <;> omega
      have h8a := h8.1
      have h8b := h8.2
      simp +decide (disch := first | assumption | (apply GH.ok_push; assumption) | exact cellV_int _ _ | exact cellV_bool _ | omega) only [go_sem, ↓reduceIte, Nat.reduceEqDiff, Nat.reduceAdd, Int.reduceToNat, g1', h9]
      intro hx0
      exact ⟨by omega, by first | trivial | rfl⟩
    | false =>
      simp +decide (disch := first | assumption | (apply GH.ok_push; assumption) | exact cellV_int _ _ | exact cellV_bool _ | omega) only [go_sem, ↓reduceIte, Nat.reduceEqDiff, Nat.reduceAdd, Int.reduceToNat, g1']
      intro hx0
      refine ⟨by omega, ?_⟩
      simp at xa yb
      rw [xa, yb]
  · have hn' : (na == nb) = false := by simpa using hn
    cases na with
    | true =>
      have : nb = false := by simpa using hn
      subst this
      have hA : A ≠ [] := pa rfl
      have hp := val_pos da fa hA
      have hpp := pow_pos' (A.length - 1)
      simp +decide (disch := first | assumption | (apply GH.ok_push; assumption) | exact cellV_int _ _ | exact cellV_bool _ | omega) only [go_sem, ↓reduceIte, Nat.reduceEqDiff, Nat.reduceAdd, Int.reduceToNat, ca, cb, g1, g2]
      intro hx0
      refine ⟨by omega, ?_⟩
      simp at xa yb
      rw [xa, yb, cmp3, if_pos (by omega)]
    | false =>
      have : nb = true := by simpa using hn
      subst this
      have hB : B ≠ [] := pb rfl
      have hp := val_pos db fb hB
      have hpp := pow_pos' (B.length - 1)
      simp +decide (disch := first | assumption | (apply GH.ok_push; assumption) | exact cellV_int _ _ | exact cellV_bool _ | omega) only [go_sem, ↓reduceIte, Nat.reduceEqDiff, Nat.reduceAdd, Int.reduceToNat, ca, cb, g1, g2]
      intro hx0
      refine ⟨by omega, ?_⟩
      simp at xa yb
      rw [xa, yb, cmp3, if_neg (by omega), if_pos (by omega)]
end Go.Proofs.Ytdanjjhgfkfghaa
set_option maxRecDepth 100000
set_option maxHeartbeats 8000000
set_option linter.unusedSimpArgs false
set_option linter.unusedVariables false
namespace Go.Proofs.Ytdanjjhgfkfghaa
open Go.Ds

/-- The place of an element of an array. -/
theorem iaddrA_at {j n m : Nat} {x : Int} (hx : x = m) (hm : m < n) : iaddrAF n 1 (.pointer (some ⟨j, 0, none⟩)) (.int .i64 x) = some (.pointer (some ⟨j, m, none⟩)) := by
  subst hx
  simp only [iaddrAF, asNat_nat]
  rw [show Nat.blt m n = true from Nat.blt_eq ▸ hm]
  simp only [cond_true, Addr.add, Nat.mul_one, Nat.zero_add]
  by_cases c : m = 0
  · subst c; rfl
  · simp [c]
def inR (n : Int) : Bool := decide (-1099511627776 ≤ n) && decide (n ≤ 1099511627776)
theorem inR_iff (n : Int) : inR n = true ↔ -1099511627776 ≤ n ∧ n ≤ 1099511627776 := by simp [inR]
theorem inRange_rets {X : Caller} (hX : Xok X) (n : Int) (g : GH) : Rets Try.prog X 37 [.int .i64 n] g (fun v g' lo => g.next ≤ lo ∧ v = .bool (inR n)) := by
  refine Rets.run hX.pres p37 (hX.free 37 (by decide) (by decide) (by decide) _ _) rfl fun ho => ?_
  by_cases c : -1099511627776 ≤ n
  · simp +decide (disch := first | assumption | (apply GH.ok_push; assumption) | exact cellV_int _ _ | exact cellV_bool _ | omega) only [go_sem, ↓reduceIte, Nat.reduceEqDiff, Nat.reduceAdd, Int.reduceToNat]
    intro hx0
    refine ⟨Nat.le_refl _, ?_⟩
    simp [inR, c]
  · simp +decide (disch := first | assumption | (apply GH.ok_push; assumption) | exact cellV_int _ _ | exact cellV_bool _ | omega) only [go_sem, ↓reduceIte, Nat.reduceEqDiff, Nat.reduceAdd, Int.reduceToNat]
    intro hx0
    refine ⟨Nat.le_refl _, ?_⟩
    simp [inR, c]
/-- A number in memory that lies apart from two places. -/
def BigA (L : Nat) (g : GH) (v : Value) (n : Int) (p q : Nat) : Prop := ∃ (neg : Bool) (s : Value) (D : List Int), v = .agg #[.bool neg, s] ∧ SlR g s (ints D) ∧ Dig D ∧ Nrm D ∧ (neg = true → D ≠ []) ∧ D.length ≤ L ∧ (n = if neg = true then - val D else val D) ∧ ∀ a l c, s = .slice (some a) l c → a.block ≠ p ∧ a.block ≠ q
theorem BigA.big {L : Nat} {g : GH} {v : Value} {n : Int} {p q : Nat} (h : BigA L g v n p q) : BigR L g v n := by
  obtain ⟨neg, s, D, h1, h2, h3, h4, h5, h6, h7, h8⟩ := h
  exact ⟨neg, s, D, h1, h2, h3, h4, h5, h6, h7⟩
theorem BigA.kept {L : Nat} {g g' : GH} {v : Value} {n : Int} {p q : Nat} (h : BigA L g v n p q) (k : Kept g g') : BigA L g' v n p q := by
  obtain ⟨neg, s, D, h1, h2, h3⟩ := h
  exact ⟨neg, s, D, h1, h2.kept k, h3⟩
theorem BigA.set {L : Nat} {g : GH} {v : Value} {n : Int} {p q : Nat} {o0 : Ob} (h : BigA L g v n p q) {j : Nat} (h0 : g.get j = o0) (hk : o0.kind ≠ 0) (hj : j = p ∨ j = q) (o : Ob) : BigA L (g.set j o) v n p q := by
  obtain ⟨neg, s, D, h1, h2, h3, h4, h5, h6, h7, h8⟩ := h
  exact ⟨neg, s, D, h1, h2.set h0 hk (fun a l c e => by have := h8 a l c e; rcases hj with rfl | rfl; exact this.1; exact this.2), h3, h4, h5, h6, h7, h8⟩
theorem BigB.apart {L : Nat} {g : GH} {v : Value} {n : Int} {b p q : Nat} (h : BigB L g v n b) (hp : p < b) (hq : q < b) : BigA L g v n p q := by
  obtain ⟨neg, s, D, h1, h2, h3, h4, h5, h6, h7, h8⟩ := h
  exact ⟨neg, s, D, h1, h2, h3, h4, h5, h6, h7, fun a l c e => by have := h8 a l c e; omega⟩
theorem BigR.apart {L : Nat} {g : GH} {v : Value} {n : Int} {p q : Nat} (h : BigR L g v n) (hp : g.next ≤ p) (hq : g.next ≤ q) : BigA L g v n p q := by
  obtain ⟨neg, s, D, h1, h2, h3, h4, h5, h6, h7⟩ := h
  refine ⟨neg, s, D, h1, h2, h3, h4, h5, h6, h7, fun a l c e => ?_⟩
  rcases h2 with ⟨h, _⟩ | ⟨j, off, cap, ob, h, hj, _⟩
  · rw [h] at e; cases e
  · rw [h] at e; cases e; show j ≠ p ∧ j ≠ q; omega
theorem BigA.mono {L M : Nat} {g : GH} {v : Value} {n : Int} {p q : Nat} (h : BigA L g v n p q) (k : L ≤ M) : BigA M g v n p q := by
  obtain ⟨neg, s, D, h1, h2, h3, h4, h5, h6, h7, h8⟩ := h
  exact ⟨neg, s, D, h1, h2, h3, h4, h5, by omega, h7, h8⟩
theorem BigA.shape {L : Nat} {g : GH} {v : Value} {n : Int} {p q : Nat} (h : BigA L g v n p q) : ∃ neg s, v = .agg #[.bool neg, s] ∧ cellV s = true := by
  obtain ⟨neg, s, D, h1, h2, _⟩ := h
  exact ⟨neg, s, h1, h2.cell⟩
theorem BigB.unhide {L : Nat} {g : GH} {v : Value} {n : Int} {b : Nat} {h0 l : List (Nat × Nat)} (hid : g.hid = l ++ h0) (h : BigB L g v n b) : BigB L (g.hide h0) v n b := by
  obtain ⟨neg, s, D, h1, h2, h3⟩ := h
  exact ⟨neg, s, D, h1, h2.unhide hid, h3⟩
def sum1 : List Int → Int
  | [] => 0
  | x :: l => x + sum1 l
def sum2 : List Int → Int
  | [] => 0
  | x :: l => x * x + sum2 l
theorem sum1_snoc (l : List Int) (x : Int) : sum1 (l ++ [x]) = sum1 l + x := by
  induction l with
  | nil => simp [sum1]
  | cons y l ih => simp only [List.cons_append, sum1, ih]; omega
theorem sum2_snoc (l : List Int) (x : Int) : sum2 (l ++ [x]) = sum2 l + x * x := by
  induction l with
  | nil => simp [sum2]
  | cons y l ih => simp only [List.cons_append, sum2, ih]; omega
/-- What a quad is. -/
def isQ (Q : List Int) : Bool := Q.all inR && (decide (0 < sum1 Q) && decide (sum1 Q * sum1 Q = 2 * sum2 Q))
/-- The head of the loop over the bends. -/
def QuadInv (g : GH) (Q : List Int) (p q : Nat) (m : Nat) (e : Env) (g' : GH) (lo : Nat) : Prop :=
  g.next ≤ lo ∧ Kept g g' ∧ ev e (.s 1) = ptrTo g.next ∧ ev e (.s 3) = ptrTo p ∧ ev e (.s 4) = ptrTo q ∧ g.next < p ∧ p < q ∧ q < g'.next ∧ g'.get g.next = cellsOb (ints Q) 23 ∧
  ∃ i, i + m = 4 ∧ ev e (.s 5) = .int .i64 (i : Int) ∧ (Q.take i).all inR = true ∧
  ∃ n1 s1 n2 s2, g'.get p = cellsOb [.bool n1, s1] 64 ∧ g'.get q = cellsOb [.bool n2, s2] 64 ∧ BigA (5 + i) g' (.agg #[.bool n1, s1]) (sum1 (Q.take i)) p q ∧ BigA (10 + i) g' (.agg #[.bool n2, s2]) (sum2 (Q.take i)) p q
theorem refQuad_rets {X : Caller} (hX : Xok X) (a b c d : Int) (g : GH) : Rets Try.prog X 16 [.agg #[.int .i64 a, .int .i64 b, .int .i64 c, .int .i64 d]] g (fun v g' lo => g.next ≤ lo ∧ v = .bool (isQ [a, b, c, d])) := by
  refine Rets.run hX.pres p16 (hX.free 16 (by decide) (by decide) (by decide) _ _) rfl fun ho => ?_
  simp +decide only [dseq, dreg, dbox, dalloc, nV_eq, cellsOf, tick, ev_put, ev_fill, ev_fill0, ev_none, ↓reduceIte, Nat.reduceEqDiff, Nat.reduceAdd]
  have hk0 : Kept g (g.push (cellsOb [.int .i64 a, .int .i64 b, .int .i64 c, .int .i64 d] 23)) := (Kept.refl g).push ho _
  have ho0 : (g.push (cellsOb [.int .i64 a, .int .i64 b, .int .i64 c, .int .i64 d] 23)).ok := GH.ok_push ho
  have hn0 : (g.push (cellsOb [.int .i64 a, .int .i64 b, .int .i64 c, .int .i64 d] 23)).next = g.next + 1 := rfl
  have hg0 : (g.push (cellsOb [.int .i64 a, .int .i64 b, .int .i64 c, .int .i64 d] 23)).get g.next = cellsOb (ints [a, b, c, d]) 23 := by rw [GH.get_push ho, if_pos rfl]; rfl
  generalize g.push (cellsOb [.int .i64 a, .int .i64 b, .int .i64 c, .int .i64 d] 23) = G0 at *
  generalize hQ : [a, b, c, d] = Q at *
  have hQl : Q.length = 4 := by rw [← hQ]; rfl
  simp +decide (disch := first | assumption | (apply GH.ok_push; assumption) | exact cellV_int _ _ | exact cellV_bool _ | omega) only [go_sem, ↓reduceIte, Nat.reduceEqDiff, Nat.reduceAdd, Int.reduceToNat]
  refine CallD.calm (of_rets hX 0 (by decide) (by decide) _) ?_
  rintro v1 G1 hx1 hb1
  simp +decide (disch := first | assumption | (apply GH.ok_push; assumption) | exact cellV_int _ _ | exact cellV_bool _ | omega) only [go_sem, ↓reduceIte, Nat.reduceEqDiff, Nat.reduceAdd, Int.reduceToNat]
  refine CallD.calm (of_rets hX 0 (by decide) (by decide) _) ?_
  rintro v2 G2 hx2 hb2
  have hb1 := hb1.big.kept hx2.kept
  have hb2 := hb2.big
  have hk2 := (hk0.ext hx1).ext hx2
  have hn1 := hx1.next
  have hn2 := hx2.next
  have ho2 := hx2.ok (hx1.ok ho0)
  have hg2 : G2.get g.next = cellsOb (ints Q) 23 := by rw [hx2.get (by omega) (by omega), hx1.get (by omega) (by omega), hg0]
  have ha1 := hb1.apart (p := G2.next) (q := G2.next + 1) (Nat.le_refl _) (Nat.le_succ _)
  have ha2 := hb2.apart (p := G2.next) (q := G2.next + 1) (Nat.le_refl _) (Nat.le_succ _)
  obtain ⟨n1, s1, rfl, hc1⟩ := ha1.shape
  obtain ⟨n2, s2, rfl, hc2⟩ := ha2.shape
  simp +decide only [dseq, dreg, dbox, dalloc, nV_eq, cellsOf, tick, ev_put, ev_fill, ev_fill0, ev_none, ↓reduceIte, Nat.reduceEqDiff, Nat.reduceAdd]
  obtain ⟨hk3, ho3, hn3, hg3, hg4⟩ := two ho2 (cellsOb [Value.bool false, Value.slice none 0 0] 64) (cellsOb [Value.bool false, Value.slice none 0 0] 64)
  have hg3q := (hk3.gets g.next (by omega)).trans hg2
  have ha1 := ha1.kept hk3
  have ha2 := ha2.kept hk3
  have hk3 := hk2.trans hk3
  generalize (G2.push (cellsOb [Value.bool false, Value.slice none 0 0] 64)).push (cellsOb [Value.bool false, Value.slice none 0 0] 64) = G3 at *
  have hset3 := fun o => GH.get_set_ne hg3 Nat.one_ne_zero o (i := G2.next + 1) (by omega)
  have hset3' := fun o => GH.get_set_same hg3 Nat.one_ne_zero o
  have hset3q := fun o => GH.get_set_ne hg3 Nat.one_ne_zero o (i := g.next) (by omega)
  simp +decide (disch := first | assumption | (apply GH.ok_push; assumption) | exact cellV_int _ _ | exact cellV_bool _ | omega) only [go_sem, ↓reduceIte, Nat.reduceEqDiff, Nat.reduceAdd, Int.reduceToNat, hg3, hg4, hset3, hc1, hc2]
  have e1 : splice 0 [Value.bool false, Value.slice none 0 0] [Value.bool n1, s1] = [Value.bool n1, s1] := rfl
  have e2 : splice 0 [Value.bool false, Value.slice none 0 0] [Value.bool n2, s2] = [Value.bool n2, s2] := rfl
  rw [e1, e2]
  have ga3 := ha1.set hg3 Nat.one_ne_zero (.inl rfl) (cellsOb [.bool n1, s1] 64)
  have ga4 := ha2.set hg3 Nat.one_ne_zero (.inl rfl) (cellsOb [.bool n1, s1] 64)
  have hg4' : (G3.set G2.next (cellsOb [.bool n1, s1] 64)).get (G2.next + 1) = cellsOb [Value.bool false, Value.slice none 0 0] 64 := by rw [hset3, hg4]
  have ga3 := ga3.set hg4' Nat.one_ne_zero (.inr rfl) (cellsOb [.bool n2, s2] 64)
  have ga4 := ga4.set hg4' Nat.one_ne_zero (.inr rfl) (cellsOb [.bool n2, s2] 64)
  have hk5 := (hk3.set hg3 Nat.one_ne_zero (by omega) (cellsOb [.bool n1, s1] 64)).set hg4' Nat.one_ne_zero (by omega) (cellsOb [.bool n2, s2] 64)
  have gp : ((G3.set G2.next (cellsOb [.bool n1, s1] 64)).set (G2.next + 1) (cellsOb [.bool n2, s2] 64)).get G2.next = cellsOb [.bool n1, s1] 64 := by rw [GH.get_set_ne hg4' Nat.one_ne_zero _ (by omega), hset3']
  have gq : ((G3.set G2.next (cellsOb [.bool n1, s1] 64)).set (G2.next + 1) (cellsOb [.bool n2, s2] 64)).get (G2.next + 1) = cellsOb [.bool n2, s2] 64 := GH.get_set_same hg4' Nat.one_ne_zero _
  have g0 : ((G3.set G2.next (cellsOb [.bool n1, s1] 64)).set (G2.next + 1) (cellsOb [.bool n2, s2] 64)).get g.next = cellsOb (ints Q) 23 := by rw [GH.get_set_ne hg4' Nat.one_ne_zero _ (by omega), hset3q, hg3q]
  have hn5 : ((G3.set G2.next (cellsOb [.bool n1, s1] 64)).set (G2.next + 1) (cellsOb [.bool n2, s2] 64)).next = G2.next + 2 := hn3
  generalize (G3.set G2.next (cellsOb [.bool n1, s1] 64)).set (G2.next + 1) (cellsOb [.bool n2, s2] 64) = G5 at *
  refine Wk.loops (QuadInv g Q G2.next (G2.next + 1)) (QuadInv g Q G2.next (G2.next + 1) 0) (n := 4) ?_ ?_ ?_
  · refine ⟨by omega, hk5, by simp +decide (disch := first | assumption | (apply GH.ok_push; assumption) | exact cellV_int _ _ | exact cellV_bool _ | omega) only [go_sem, ↓reduceIte, Nat.reduceEqDiff, Nat.reduceAdd, Int.reduceToNat], by simp +decide (disch := first | assumption | (apply GH.ok_push; assumption) | exact cellV_int _ _ | exact cellV_bool _ | omega) only [go_sem, ↓reduceIte, Nat.reduceEqDiff, Nat.reduceAdd, Int.reduceToNat], by simp +decide (disch := first | assumption | (apply GH.ok_push; assumption) | exact cellV_int _ _ | exact cellV_bool _ | omega) only [go_sem, ↓reduceIte, Nat.reduceEqDiff, Nat.reduceAdd, Int.reduceToNat], by omega, by omega, by omega, g0, 0, by omega, (by simp +decide (disch := first | assumption | (apply GH.ok_push; assumption) | exact cellV_int _ _ | exact cellV_bool _ | omega) only [go_sem, ↓reduceIte, Nat.reduceEqDiff, Nat.reduceAdd, Int.reduceToNat]; first | done | exact rfl), rfl, n1, s1, n2, s2, gp, gq, ga3, ga4.mono (by omega)⟩
  · rintro e G lo ho' hl' ⟨hlo, hk, e1, e3, e4, hp, hpq, hq, gq0, i, him, e5, hall, n1, s1, n2, s2, g3, g4, a1, a2⟩
    have hi4 : i = 4 := by omega
    subst hi4
    rw [show Q.take 4 = Q from by rw [List.take_of_length_le (by omega)]] at hall a1 a2
    simp +decide (disch := first | assumption | (apply GH.ok_push; assumption) | exact cellV_int _ _ | exact cellV_bool _ | omega) only [go_sem, ↓reduceIte, Nat.reduceEqDiff, Nat.reduceAdd, Int.reduceToNat, e3, g3]
    refine CallD.calmF (R := fun v g' => BigB 5 g' v 0 G.next) rfl (fun L => of_rets hX 0 (by decide) (by decide) _) ?_
    rintro v1 G1' L1 hx1 hb1 hid1
    have hb1 := hb1.unhide hid1
    have hn1' := hx1.next
    have a11 := a1.kept hx1.kept
    have a21 := a2.kept hx1.kept
    have g31 := (hx1.gets G2.next (by omega)).trans g3
    have g41 := (hx1.gets (G2.next + 1) (by omega)).trans g4
    have hs1 : G1'.next = (G1'.hide G.hid).next := rfl
    generalize G1'.hide G.hid = H1 at *
    simp +decide (disch := first | assumption | (apply GH.ok_push; assumption) | exact cellV_int _ _ | exact cellV_bool _ | omega) only [go_sem, ↓reduceIte, Nat.reduceEqDiff, Nat.reduceAdd, Int.reduceToNat]
    refine CallD.calm (compare_rets hX 9 5 (by omega) (by omega) _ _ _ _ H1 a11.big hb1.big) ?_
    rintro v2 H2 hx2 rfl
    have hn2' := hx2.next
    have a12 := a11.kept hx2.kept
    have a22 := a21.kept hx2.kept
    have g32 := (hx2.gets G2.next (by omega)).trans g31
    have g42 := (hx2.gets (G2.next + 1) (by omega)).trans g41
    by_cases hpos : 0 < sum1 Q
    · have hc : cmp3 (sum1 Q) 0 = 1 := by rw [cmp3, if_neg (by omega), if_pos hpos]
      simp +decide (disch := first | assumption | (apply GH.ok_push; assumption) | exact cellV_int _ _ | exact cellV_bool _ | omega) only [go_sem, ↓reduceIte, Nat.reduceEqDiff, Nat.reduceAdd, Int.reduceToNat, hc, e3, g32]
      refine CallD.calm (times_rets hX 9 9 (by omega) (by omega) _ _ _ _ H2 a12.big a12.big) ?_
      rintro v3 H3 hx3 hb3
      have hn3' := hx3.next
      have a23 := a22.kept hx3.kept
      have g43 := (hx3.gets (G2.next + 1) (by omega)).trans g42
      simp +decide (disch := first | assumption | (apply GH.ok_push; assumption) | exact cellV_int _ _ | exact cellV_bool _ | omega) only [go_sem, ↓reduceIte, Nat.reduceEqDiff, Nat.reduceAdd, Int.reduceToNat]
      refine CallD.calm (of_rets hX 2 (by decide) (by decide) H3) ?_
      rintro v4 H4 hx4 hb4
      have hn4' := hx4.next
      have a24 := a23.kept hx4.kept
      have b34 := hb3.big.kept hx4.kept
      have g44 := (hx4.gets (G2.next + 1) (by omega)).trans g43
      simp +decide (disch := first | assumption | (apply GH.ok_push; assumption) | exact cellV_int _ _ | exact cellV_bool _ | omega) only [go_sem, ↓reduceIte, Nat.reduceEqDiff, Nat.reduceAdd, Int.reduceToNat, hc, e4, g44]
      refine CallD.calm (times_rets hX 5 14 (by omega) (by omega) _ _ _ _ H4 hb4.big a24.big) ?_
      rintro v5 H5 hx5 hb5
      have b35 := b34.kept hx5.kept
      have hn5' := hx5.next
      simp +decide (disch := first | assumption | (apply GH.ok_push; assumption) | exact cellV_int _ _ | exact cellV_bool _ | omega) only [go_sem, ↓reduceIte, Nat.reduceEqDiff, Nat.reduceAdd, Int.reduceToNat]
      refine CallD.calm (compare_rets hX 18 19 (by omega) (by omega) _ _ _ _ H5 b35 hb5.big) ?_
      rintro v6 H6 hx6 rfl
      have hn6' := hx6.next
      by_cases heq : sum1 Q * sum1 Q = 2 * sum2 Q
      · have hc2 : cmp3 (sum1 Q * sum1 Q) (2 * sum2 Q) = 0 := by rw [cmp3, if_neg (by omega), if_neg (by omega)]
        simp +decide (disch := first | assumption | (apply GH.ok_push; assumption) | exact cellV_int _ _ | exact cellV_bool _ | omega) only [go_sem, ↓reduceIte, Nat.reduceEqDiff, Nat.reduceAdd, Int.reduceToNat, hc, hc2]
        intro hx0
        refine ⟨by omega, ?_⟩
        simp [isQ, hall, hpos, heq]
      · have hc2 : ¬ cmp3 (sum1 Q * sum1 Q) (2 * sum2 Q) = 0 := by unfold cmp3; split <;> (try split) <;> omega
        simp +decide (disch := first | assumption | (apply GH.ok_push; assumption) | exact cellV_int _ _ | exact cellV_bool _ | omega) only [go_sem, ↓reduceIte, Nat.reduceEqDiff, Nat.reduceAdd, Int.reduceToNat, hc, hc2]
        intro hx0
        refine ⟨by omega, ?_⟩
        simp [isQ, hall, hpos, heq]
    · have hc : cmp3 (sum1 Q) 0 ≤ 0 := by unfold cmp3; split <;> (try split) <;> omega
      simp +decide (disch := first | assumption | (apply GH.ok_push; assumption) | exact cellV_int _ _ | exact cellV_bool _ | omega) only [go_sem, ↓reduceIte, Nat.reduceEqDiff, Nat.reduceAdd, Int.reduceToNat, hc]
      intro hx0
      refine ⟨by omega, ?_⟩
      simp [isQ, hpos]
  · rintro m e G lo ho' hl' ih out ⟨hlo, hk, e1, e3, e4, hp, hpq, hq, gq0, i, him, e5, hall, n1, s1, n2, s2, g3, g4, a1, a2⟩
    by_cases c : i < 4
    · have hidx := iaddrA_at (j := g.next) (n := 4) (m := i) (x := (i : Int)) rfl (by omega)
      have hld : ∀ lo, loadF none (G.at lo) (.pointer (some ⟨g.next, i, none⟩)) = some (.int .i64 (Q.getD i 0)) := fun lo => load_one gq0 (ints_get (by omega))
      simp +decide (disch := first | assumption | (apply GH.ok_push; assumption) | exact cellV_int _ _ | exact cellV_bool _ | omega) only [go_sem, ↓reduceIte, Nat.reduceEqDiff, Nat.reduceAdd, Int.reduceToNat, e1, e5, hidx, hld]
      refine CallD.calm (inRange_rets hX (Q.getD i 0) G) ?_
      rintro v G1 hx1 rfl
      have hk1 := hk.ext hx1
      have hn1 := hx1.next
      have gq1 := (hx1.gets g.next (by omega)).trans gq0
      have g31 := (hx1.gets G2.next (by omega)).trans g3
      have g41 := (hx1.gets (G2.next + 1) (by omega)).trans g4
      have a11 := a1.kept hx1.kept
      have a21 := a2.kept hx1.kept
      by_cases hr : inR (Q.getD i 0) = true
      · have hr' := (inR_iff _).1 hr
        have hld1 : ∀ lo, loadF none (G1.at lo) (.pointer (some ⟨g.next, i, none⟩)) = some (.int .i64 (Q.getD i 0)) := fun lo => load_one gq1 (ints_get (by omega))
        simp +decide (disch := first | assumption | (apply GH.ok_push; assumption) | exact cellV_int _ _ | exact cellV_bool _ | omega) only [go_sem, ↓reduceIte, Nat.reduceEqDiff, Nat.reduceAdd, Int.reduceToNat, e1, e3, e5, hr, hidx, hld1, g31]
        refine CallD.calmF (R := fun v g' => BigB 5 g' v (Q.getD i 0) G1.next) rfl (fun L => of_rets hX (Q.getD i 0) (by omega) (by omega) _) ?_
        rintro v2 G2' L2 hx2 hb2 hid2
        have hb2 := hb2.unhide hid2
        have hn2 := hx2.next
        rw [show (G2'.hide G1.hid).next = G2'.next from rfl] at hn2
        have a12 := a11.kept hx2.kept
        have a22 := a21.kept hx2.kept
        have g32 := (hx2.gets G2.next (by omega)).trans g31
        have g42 := (hx2.gets (G2.next + 1) (by omega)).trans g41
        have gq2 := (hx2.gets g.next (by omega)).trans gq1
        have hk2' := hk1.ext hx2
        rw [show G2'.next = (G2'.hide G1.hid).next from rfl] at hn2
        generalize G2'.hide G1.hid = H2 at *
        simp +decide (disch := first | assumption | (apply GH.ok_push; assumption) | exact cellV_int _ _ | exact cellV_bool _ | omega) only [go_sem, ↓reduceIte, Nat.reduceEqDiff, Nat.reduceAdd, Int.reduceToNat]
        refine CallD.calm (plus_rets hX (5 + i) 5 (by omega) (by omega) _ _ _ _ H2 a12.big hb2.big) ?_
        rintro v3 H3 hx3 hb3
        have hn3' := hx3.next
        have a13 := a22.kept hx3.kept
        have g33 := (hx3.gets G2.next (by omega)).trans g32
        have g43 := (hx3.gets (G2.next + 1) (by omega)).trans g42
        have gq3 := (hx3.gets g.next (by omega)).trans gq2
        have hk3' := hk2'.ext hx3
        obtain ⟨m1, t1, rfl, ct1⟩ := hb3.shape
        have hset3 := fun o => GH.get_set_same g33 Nat.one_ne_zero o
        have hset4 := fun o => GH.get_set_ne g33 Nat.one_ne_zero o (i := G2.next + 1) (by omega)
        have hset0 := fun o => GH.get_set_ne g33 Nat.one_ne_zero o (i := g.next) (by omega)
        simp +decide (disch := first | assumption | (apply GH.ok_push; assumption) | exact cellV_int _ _ | exact cellV_bool _ | omega) only [go_sem, ↓reduceIte, Nat.reduceEqDiff, Nat.reduceAdd, Int.reduceToNat, e3, g33, ct1]
        rw [show splice 0 [Value.bool n1, s1] [Value.bool m1, t1] = [Value.bool m1, t1] from rfl]
        have b14 := (hb3.apart (p := G2.next) (q := G2.next + 1) (by omega) (by omega)).set g33 Nat.one_ne_zero (.inl rfl) (cellsOb [.bool m1, t1] 64)
        have a24 := a13.set g33 Nat.one_ne_zero (.inl rfl) (cellsOb [.bool m1, t1] 64)
        have g34 := hset3 (cellsOb [.bool m1, t1] 64)
        have g44 := (hset4 (cellsOb [.bool m1, t1] 64)).trans g43
        have gq4 := (hset0 (cellsOb [.bool m1, t1] 64)).trans gq3
        have hk4 := hk3'.set g33 Nat.one_ne_zero (by omega) (cellsOb [.bool m1, t1] 64)
        have hn4 : (H3.set G2.next (cellsOb [.bool m1, t1] 64)).next = H3.next := rfl
        generalize H3.set G2.next (cellsOb [.bool m1, t1] 64) = H4 at *
        have hld4 : ∀ lo, loadF none (H4.at lo) (.pointer (some ⟨g.next, i, none⟩)) = some (.int .i64 (Q.getD i 0)) := fun lo => load_one gq4 (ints_get (by omega))
        simp +decide (disch := first | assumption | (apply GH.ok_push; assumption) | exact cellV_int _ _ | exact cellV_bool _ | omega) only [go_sem, ↓reduceIte, Nat.reduceEqDiff, Nat.reduceAdd, Int.reduceToNat, e1, e4, e5, hidx, hld4, g44]
        refine CallD.calmF (R := fun v g' => BigB 5 g' v (Q.getD i 0) H4.next) rfl (fun L => of_rets hX (Q.getD i 0) (by omega) (by omega) _) ?_
        rintro v5 G5' L5 hx5 hb5 hid5
        have hb5 := hb5.unhide hid5
        have hn5' := hx5.next
        have b15 := b14.kept hx5.kept
        have a25 := a24.kept hx5.kept
        have g35 := (hx5.gets G2.next (by omega)).trans g34
        have g45 := (hx5.gets (G2.next + 1) (by omega)).trans g44
        have gq5 := (hx5.gets g.next (by omega)).trans gq4
        have hk5' := hk4.ext hx5
        have hs5 : G5'.next = (G5'.hide H4.hid).next := rfl
        generalize G5'.hide H4.hid = H5 at *
        have hld5 : ∀ lo, loadF none (H5.at lo) (.pointer (some ⟨g.next, i, none⟩)) = some (.int .i64 (Q.getD i 0)) := fun lo => load_one gq5 (ints_get (by omega))
        simp +decide (disch := first | assumption | (apply GH.ok_push; assumption) | exact cellV_int _ _ | exact cellV_bool _ | omega) only [go_sem, ↓reduceIte, Nat.reduceEqDiff, Nat.reduceAdd, Int.reduceToNat, e1, e5, hidx, hld5]
        refine CallD.calmF (R := fun v g' => BigB 5 g' v (Q.getD i 0) H5.next) rfl (fun L => of_rets hX (Q.getD i 0) (by omega) (by omega) _) ?_
        rintro v6 G6' L6 hx6 hb6 hid6
        have hb6 := hb6.unhide hid6
        have hn6' := hx6.next
        have hb5 := hb5.big.kept hx6.kept
        have b16 := b15.kept hx6.kept
        have a26 := a25.kept hx6.kept
        have g36 := (hx6.gets G2.next (by omega)).trans g35
        have g46 := (hx6.gets (G2.next + 1) (by omega)).trans g45
        have gq6 := (hx6.gets g.next (by omega)).trans gq5
        have hk6' := hk5'.ext hx6
        have hs6 : G6'.next = (G6'.hide H5.hid).next := rfl
        generalize G6'.hide H5.hid = H6 at *
        simp +decide (disch := first | assumption | (apply GH.ok_push; assumption) | exact cellV_int _ _ | exact cellV_bool _ | omega) only [go_sem, ↓reduceIte, Nat.reduceEqDiff, Nat.reduceAdd, Int.reduceToNat]
        refine CallD.calmH (by simp +decide (disch := first | assumption | (apply GH.ok_push; assumption) | exact cellV_int _ _ | exact cellV_bool _ | omega) only [go_sem, ↓reduceIte, Nat.reduceEqDiff, Nat.reduceAdd, Int.reduceToNat, spansOf, spanAt, Nat.lt_irrefl]; first | done | rfl) rfl (times_rets hX 5 5 (by omega) (by omega) _ _ _ _ H6 hb5 hb6.big) ?_
        rintro v7 H7 hx7 hb7
        have hn7' := hx7.next
        have b17 := b16.kept hx7.kept
        have a27 := a26.kept hx7.kept
        have g37 := (hx7.gets G2.next (by omega)).trans g36
        have g47 := (hx7.gets (G2.next + 1) (by omega)).trans g46
        have gq7 := (hx7.gets g.next (by omega)).trans gq6
        have hk7' := hk6'.ext hx7
        simp +decide (disch := first | assumption | (apply GH.ok_push; assumption) | exact cellV_int _ _ | exact cellV_bool _ | omega) only [go_sem, ↓reduceIte, Nat.reduceEqDiff, Nat.reduceAdd, Int.reduceToNat]
        refine CallD.calm (plus_rets hX (10 + i) 10 (by omega) (by omega) _ _ _ _ H7 a27.big hb7.big) ?_
        rintro v8 H8 hx8 hb8
        have hn8' := hx8.next
        have b18 := b17.kept hx8.kept
        have g38 := (hx8.gets G2.next (by omega)).trans g37
        have g48 := (hx8.gets (G2.next + 1) (by omega)).trans g47
        have gq8 := (hx8.gets g.next (by omega)).trans gq7
        have hk8' := hk7'.ext hx8
        obtain ⟨m2, t2, rfl, ct2⟩ := hb8.shape
        have hset8 := fun o => GH.get_set_same g48 Nat.one_ne_zero o
        have hset83 := fun o => GH.get_set_ne g48 Nat.one_ne_zero o (i := G2.next) (by omega)
        have hset80 := fun o => GH.get_set_ne g48 Nat.one_ne_zero o (i := g.next) (by omega)
        simp +decide (disch := first | assumption | (apply GH.ok_push; assumption) | exact cellV_int _ _ | exact cellV_bool _ | omega) only [go_sem, ↓reduceIte, Nat.reduceEqDiff, Nat.reduceAdd, Int.reduceToNat, e4, g48, ct2]
        rw [show splice 0 [Value.bool n2, s2] [Value.bool m2, t2] = [Value.bool m2, t2] from rfl]
        simp +decide (disch := first | assumption | (apply GH.ok_push; assumption) | exact cellV_int _ _ | exact cellV_bool _ | omega) only [go_sem, ↓reduceIte, Nat.reduceEqDiff, Nat.reduceAdd, Int.reduceToNat, e5]
        have hall' : (Q.take (i + 1)).all inR = true := by rw [take_snoc Q i (by omega), List.all_append, hall]; simpa using hr
        refine ih (m - 1) _ _ _ (by omega) ⟨by omega, hk8'.set g48 Nat.one_ne_zero (by omega) _, by simp +decide (disch := first | assumption | (apply GH.ok_push; assumption) | exact cellV_int _ _ | exact cellV_bool _ | omega) only [go_sem, ↓reduceIte, Nat.reduceEqDiff, Nat.reduceAdd, Int.reduceToNat, e1], by simp +decide (disch := first | assumption | (apply GH.ok_push; assumption) | exact cellV_int _ _ | exact cellV_bool _ | omega) only [go_sem, ↓reduceIte, Nat.reduceEqDiff, Nat.reduceAdd, Int.reduceToNat, e3], by simp +decide (disch := first | assumption | (apply GH.ok_push; assumption) | exact cellV_int _ _ | exact cellV_bool _ | omega) only [go_sem, ↓reduceIte, Nat.reduceEqDiff, Nat.reduceAdd, Int.reduceToNat, e4], hp, hpq, by simp +decide (disch := first | assumption | (apply GH.ok_push; assumption) | exact cellV_int _ _ | exact cellV_bool _ | omega) only [go_sem, ↓reduceIte, Nat.reduceEqDiff, Nat.reduceAdd, Int.reduceToNat]; omega, (hset80 _).trans gq8, i + 1, by omega, (by simp +decide (disch := first | assumption | (apply GH.ok_push; assumption) | exact cellV_int _ _ | exact cellV_bool _ | omega) only [go_sem, ↓reduceIte, Nat.reduceEqDiff, Nat.reduceAdd, Int.reduceToNat]; first | done | exact rfl), hall', m1, t1, m2, t2, (hset83 _).trans g38, hset8 _, ?_, ?_⟩
        · rw [take_snoc Q i (by omega), sum1_snoc]
          exact (b18.set g48 Nat.one_ne_zero (.inr rfl) _).mono (by omega)
        · rw [take_snoc Q i (by omega), sum2_snoc]
          exact ((hb8.apart (p := G2.next) (q := G2.next + 1) (by omega) (by omega)).set g48 Nat.one_ne_zero (.inr rfl) _).mono (by omega)
      · have hr' : inR (Q.getD i 0) = false := by simpa using hr
        simp +decide (disch := first | assumption | (apply GH.ok_push; assumption) | exact cellV_int _ _ | exact cellV_bool _ | omega) only [go_sem, ↓reduceIte, Nat.reduceEqDiff, Nat.reduceAdd, Int.reduceToNat, hr']
        intro hx0
        refine ⟨by omega, ?_⟩
        have : Q.all inR = false := by
          rw [List.all_eq_false]
          exact ⟨Q[i], List.getElem_mem (by omega), by have : Q.getD i 0 = Q[i] := by simp [show i < Q.length by omega]
                                                       rw [← this, hr']; simp⟩
        simp [isQ, this]
    · simp +decide (disch := first | assumption | (apply GH.ok_push; assumption) | exact cellV_int _ _ | exact cellV_bool _ | omega) only [go_sem, ↓reduceIte, Nat.reduceEqDiff, Nat.reduceAdd, Int.reduceToNat, e5]
      exact out _ _ _ ⟨hlo, hk, by simp +decide (disch := first | assumption | (apply GH.ok_push; assumption) | exact cellV_int _ _ | exact cellV_bool _ | omega) only [go_sem, ↓reduceIte, Nat.reduceEqDiff, Nat.reduceAdd, Int.reduceToNat, e1], by simp +decide (disch := first | assumption | (apply GH.ok_push; assumption) | exact cellV_int _ _ | exact cellV_bool _ | omega) only [go_sem, ↓reduceIte, Nat.reduceEqDiff, Nat.reduceAdd, Int.reduceToNat, e3], by simp +decide (disch := first | assumption | (apply GH.ok_push; assumption) | exact cellV_int _ _ | exact cellV_bool _ | omega) only [go_sem, ↓reduceIte, Nat.reduceEqDiff, Nat.reduceAdd, Int.reduceToNat, e4], hp, hpq, hq, gq0, i, by omega, by simp +decide (disch := first | assumption | (apply GH.ok_push; assumption) | exact cellV_int _ _ | exact cellV_bool _ | omega) only [go_sem, ↓reduceIte, Nat.reduceEqDiff, Nat.reduceAdd, Int.reduceToNat, e5], hall, n1, s1, n2, s2, g3, g4, a1, a2⟩
end Go.Proofs.Ytdanjjhgfkfghaa
