import Derived.Test.YtieliilnnfjijaaK8
import Derived.Test.YtieliilnnfjijaaK9
set_option linter.all false
set_option linter.unusedSimpArgs false
set_option linter.unnecessarySimpa false
set_option linter.unusedVariables false
set_option linter.unusedSectionVars false
set_option maxRecDepth 100000
set_option maxHeartbeats 4000000
set_option linter.unusedSimpArgs false
set_option linter.unusedVariables false
namespace Go.Proofs.Ytieliilnnfjijaa
open Go.Ds
/-! ## A core and a quotient, joined with any number of rows -/
def joinN (C : List Int) (Q : List (List Int)) (T n : Nat) : List (List Int) := (List.range T).map fun k => beadsR (Q.getD k []) (wireL (beadsR C n) T k).length
theorem joinW_eq (C : List Int) (Q : List (List Int)) (T : Nat) : joinW C Q T = joinN C Q T (24 * T) := rfl
theorem joinN_getD (C : List Int) (Q : List (List Int)) {T k n : Nat} (h : k < T) : (joinN C Q T n).getD k [] = beadsR (Q.getD k []) (wireL (beadsR C n) T k).length := by
  rw [List.getD_eq_getElem?_getD]
  simp [joinN, h]
theorem addW_rng (t : Int) (q : List Int) : ∀ (A : List Int) (j : Nat), addW t q j A = rng A.length (fun i => A.getD i 0 + t * q.getD (j + i) 0)
  | [], j => rfl
  | b :: bs, j => by
    rw [addW, addW_rng t q bs (j + 1), List.length_cons, rng_cons]
    congr 1
    refine rng_congr fun i _ => ?_
    rw [show j + 1 + i = j + (i + 1) by omega]
    simp
section
variable {T : Nat} (hT : 2 ≤ T ∧ T ≤ 6)
include hT
theorem upB_bottom {B : List Int} (hB : Dsc B) (h : Bottom B T) : Bottom (upB B) T := by
  have := coreS_bottom hT (upB B)
  rwa [upB_core hT hB, bottom_core hT hB h] at this
theorem core_bottom {C : List Int} (hS : isShape C = true) (h0 : stripsB (beadsR C C.length) T = []) : ∀ d, Bottom (beadsR C (C.length + d)) T
  | 0 => (strips_nil hT (shape_dsc hS)).1 h0
  | d + 1 => by
    rw [← Nat.add_assoc, beadsR_up hT (by omega)]
    exact upB_bottom hT (beadsR_dsc (shape_facts hS).2.1) (core_bottom hS h0 d)
theorem wire_len_up {L : List Int} {m : Int} (hd : desc m L = true) {n : Nat} (h : L.length ≤ n) {k : Nat} (hk : k < T) : ∀ d, (wireL (beadsR L (n + d * T)) T k).length = (wireL (beadsR L n) T k).length + d
  | 0 => by rw [Nat.zero_mul, Nat.add_zero, Nat.add_zero]
  | d + 1 => by
    have hD := beadsR_dsc (n := n + d * T) hd
    rw [Nat.succ_mul, ← Nat.add_assoc, beads_upJ hT (by omega) T, upJ_wire hT hD.2 T (Nat.le_refl _) k hk, if_neg (by omega), show k + T - T = k by omega]
    have := wire_len_up hd h hk d
    unfold upB
    rw [List.length_append, List.length_map, this]
    simp; omega
/-- What is laid on a wire. -/
theorem addW_onW {B : List Int} (hB : ∀ x ∈ B, 0 ≤ x) {k : Nat} (hk : k < T) (hb : wireL B T k = beadsR [] (wireL B T k).length) (q : List Int) :
    addW T q 0 (selK B T k) = onW T k (beadsR q (wireL B T k).length) := by
  have hlen : (wireL B T k).length = (selK B T k).length := by simp [wireL, selK]
  have hA : selK B T k = (wireL B T k).map (fun h : Int => h * (T : Int) + (k : Int)) := by
    unfold wireL
    rw [List.map_map]
    conv => lhs; rw [← List.map_id (selK B T k)]
    refine List.map_congr_left fun x hx => ?_
    have hx' := List.mem_filter.1 hx
    have := (ar_eq hT (hB x hx'.1) (of_decide_eq_true hx'.2)).1
    simp only [id, Function.comp]
    exact this
  rw [addW_rng, ← hlen]
  obtain ⟨n, hn⟩ : ∃ n, (wireL B T k).length = n := ⟨_, rfl⟩
  rw [hn] at hb ⊢
  rw [hb] at hA
  unfold onW beadsR
  have hm : ∀ (f : Nat → Int) (h : Int → Int), (rng n f).map h = rng n (fun i => h (f i)) := fun f h => by simp [rng, List.map_map, Function.comp]
  rw [hm]
  refine rng_congr fun i hi => ?_
  have hAi : (selK B T k).getD i 0 = ((n : Int) - 1 - i) * T + k := by
    rw [hA]
    unfold beadsR
    rw [hm, rng_get _ hi]
    congr 2
    simp
  rw [hAi, Nat.zero_add]
  obtain ⟨y, hy⟩ : ∃ y, q.getD i 0 = y := ⟨_, rfl⟩
  rw [hy]
  rcases five hT with rfl | rfl | rfl | rfl | rfl <;> omega
theorem upK_onK {C : List Int} (hS : isShape C = true) (h0 : stripsB (beadsR C C.length) T = []) (Q : List (List Int)) {n : Nat} (hn : C.length ≤ n) : ∀ k, k ≤ T → upK (beadsR C n) T Q k = onK (joinN C Q T n) T k
  | 0, _ => rfl
  | k + 1, hk => by
    have hD := beadsR_dsc (n := n) (shape_facts hS).2.1
    have hb := core_bottom hT hS h0 (n - C.length)
    rw [show C.length + (n - C.length) = n by omega] at hb
    rw [upK_succ, onK_succ, upK_onK hS h0 Q hn k (by omega), joinN_getD C Q (by omega), addW_onW hT hD.2 (by omega) (hb k (by omega))]
theorem mem_upJ {B : List Int} {x : Int} : ∀ {j : Nat}, x ∈ upJ B j ↔ (0 ≤ x ∧ x < j) ∨ x - j ∈ B
  | 0 => by
    simp only [upJ]
    constructor
    · intro h; right; simpa using h
    · rintro (h | h)
      · omega
      · simpa using h
  | j + 1 => by
    simp only [upJ, upB, List.mem_append, List.mem_map, List.mem_singleton]
    constructor
    · rintro (⟨y, hy, rfl⟩ | rfl)
      · rcases (mem_upJ (j := j)).1 hy with h | h
        · left; omega
        · right
          rw [show y + 1 - ((j + 1 : Nat) : Int) = y - j by omega]
          exact h
      · left; omega
    · rintro (h | h)
      · by_cases c : x = 0
        · exact .inr c
        · exact .inl ⟨x - 1, (mem_upJ (j := j)).2 (.inl (by omega)), by omega⟩
      · exact .inl ⟨x - 1, (mem_upJ (j := j)).2 (.inr (by rw [show x - 1 - (j : Int) = x - ((j + 1 : Nat) : Int) by omega]; exact h)), by omega⟩
theorem upJ_dsc {B : List Int} (h : Dsc B) : ∀ j, Dsc (upJ B j)
  | 0 => h
  | j + 1 => upB_dsc hT (upJ_dsc h j)
theorem upJ_shape (B : List Int) : ∀ j, shapeL (upJ B j) = shapeL B
  | 0 => rfl
  | j + 1 => by
    show shapeL (upB (upJ B j)) = _
    rw [upB_shape hT, upJ_shape B j]
/-- The shape of what is joined with so many rows. -/
def joinS (C : List Int) (Q : List (List Int)) (T n : Nat) : List Int := shapeL (sortD (onK (joinN C Q T n) T T))
theorem joinN_dsc {C : List Int} {Q : List (List Int)} (hQ : ∀ k, k < T → isShape (Q.getD k []) = true) {n : Nat} : ∀ k, k < T → Dsc ((joinN C Q T n).getD k []) := by
  intro k hk
  rw [joinN_getD C Q hk]
  exact beadsR_dsc (shape_facts (hQ k hk)).2.1
theorem joinN_sorted {C : List Int} {Q : List (List Int)} (hQ : ∀ k, k < T → isShape (Q.getD k []) = true) {n : Nat} : Dsc (sortD (onK (joinN C Q T n) T T)) := by
  refine sortD_dsc (onK_nodup hT (joinN_dsc hT hQ) T (Nat.le_refl _)) fun x hx => ?_
  obtain ⟨j, hj, h, hh, rfl⟩ := onK_mem.1 hx
  have := (joinN_dsc hT hQ j hj).2 h hh
  exact (ar_at hT this hj).2.2
theorem joinS_step {C : List Int} {m : Int} (hC : desc m C = true) {Q : List (List Int)} (hQ : ∀ k, k < T → isShape (Q.getD k []) = true) {n : Nat} (hn : C.length ≤ n) (hl : ∀ k, k < T → (Q.getD k []).length ≤ (wireL (beadsR C n) T k).length) :
    joinS C Q T (n + T) = joinS C Q T n := by
  have hw : ∀ k, k < T → (joinN C Q T (n + T)).getD k [] = upB ((joinN C Q T n).getD k []) := by
    intro k hk
    have := wire_len_up hT hC hn hk 1
    rw [Nat.one_mul] at this
    rw [joinN_getD C Q hk, joinN_getD C Q hk, this, beadsR_up hT (hl k hk)]
  have key : sortD (onK (joinN C Q T (n + T)) T T) = upJ (sortD (onK (joinN C Q T n) T T)) T := by
    refine Dsc.ext (joinN_sorted hT hQ) (upJ_dsc hT (joinN_sorted hT hQ) T) fun x => ?_
    rw [mem_upJ hT, sortD_mem, sortD_mem, onK_mem, onK_mem]
    constructor
    · rintro ⟨j, hj, h, hh, rfl⟩
      rw [hw j hj] at hh
      simp only [upB, List.mem_append, List.mem_map, List.mem_singleton] at hh
      rcases hh with ⟨y, hy, rfl⟩ | rfl
      · right
        refine ⟨j, hj, y, hy, ?_⟩
        rcases five hT with rfl | rfl | rfl | rfl | rfl <;> omega
      · left; omega
    · rintro (h | ⟨j, hj, h, hh, he⟩)
      · refine ⟨x.toNat, by omega, 0, ?_, by omega⟩
        rw [hw _ (by omega)]
        simp [upB]
      · refine ⟨j, hj, h + 1, ?_, ?_⟩
        · rw [hw j hj]
          simp only [upB, List.mem_append, List.mem_map]
          exact .inl ⟨h, hh, rfl⟩
        · rcases five hT with rfl | rfl | rfl | rfl | rfl <;> omega
  unfold joinS
  rw [key, upJ_shape hT]
theorem joinS_many {C : List Int} {m : Int} (hC : desc m C = true) {Q : List (List Int)} (hQ : ∀ k, k < T → isShape (Q.getD k []) = true) {n : Nat} (hn : C.length ≤ n) (hl : ∀ k, k < T → (Q.getD k []).length ≤ (wireL (beadsR C n) T k).length) :
    ∀ d, joinS C Q T (n + d * T) = joinS C Q T n
  | 0 => by rw [Nat.zero_mul, Nat.add_zero]
  | d + 1 => by
    rw [Nat.succ_mul, ← Nat.add_assoc, joinS_step hT hC hQ (by omega) (fun k hk => ?_), joinS_many hC hQ hn hl d]
    have := wire_len_up hT hC hn hk d
    have := hl k hk
    omega
theorem wires_long {C : List Int} (hS : isShape C = true) {Q : List (List Int)} (hQ : ∀ k, k < T → isShape (Q.getD k []) = true) (d : Nat) : ∀ k, k < T → (Q.getD k []).length ≤ (wireL (beadsR C (C.length * T + (12 + d) * T)) T k).length := by
  intro k hk
  have h1 := (shape_facts (hQ k hk)).1
  have h2 : C.length ≤ C.length * T := Nat.le_mul_of_pos_right _ (by omega)
  have := wire_len_up hT (shape_facts hS).2.1 h2 hk (12 + d)
  omega
/-- The program's join and the specification's. -/
theorem join_same {C : List Int} (hS : isShape C = true) (h0 : stripsB (beadsR C C.length) T = []) {Q : List (List Int)} (hQl : Q.length = T) (hQ : ∀ k, k < T → isShape (Q.getD k []) = true) : joinV C Q T = ofR C Q := by
  have hc := (shape_facts hS).1
  have hd := (shape_facts hS).2.1
  have h2 : C.length ≤ C.length * T := Nat.le_mul_of_pos_right _ (by omega)
  have hb := wires_long hT hS hQ 0
  have e1 : joinV C Q T = joinS C Q T (C.length * T + (12 + 0) * T) := by
    have := joinS_many hT hd hQ (n := C.length * T + (12 + 0) * T) (by omega) hb (12 - C.length)
    rw [← this]
    have e : C.length * T + (12 + 0) * T + (12 - C.length) * T = 24 * T := by
      rw [← Nat.add_mul, ← Nat.add_mul]; congr 1; omega
    rw [e]
    rfl
  have e2 : ofR C Q = joinS C Q T (C.length * T + (12 + 0) * T) := by
    have := joinS_many hT hd hQ (n := C.length * T + (12 + 0) * T) (by omega) hb 1
    rw [← this]
    have e : C.length * T + (12 + 0) * T + 1 * T = T * (13 + C.length) := by
      rw [← Nat.add_mul, ← Nat.add_mul, Nat.mul_comm]; congr 1; omega
    rw [e]
    unfold ofR joinS
    rw [hQl, upK_onK hT hS h0 Q (by rw [← e]; omega) T (Nat.le_refl _)]
  rw [e1, e2]
/-- What the program's join needs. -/
theorem join_fits {C : List Int} (hS : isShape C = true) (h0 : stripsB (beadsR C C.length) T = []) {Q : List (List Int)} (hQl : Q.length = T) (hQ : ∀ k, k < T → isShape (Q.getD k []) = true) :
    (∀ k, k < T → Fits (Q.getD k []) ∧ (Q.getD k []).length ≤ (wireL (beadsR C (24 * T)) T k).length) ∧ (∀ W ∈ joinW C Q T, Hts W) ∧ Hts (sortD (onK (joinW C Q T) T T)) ∧ (onK (joinW C Q T) T T).length ≤ 10000 ∧ Dsc (sortD (onK (joinW C Q T) T T)) := by
  have hc := (shape_facts hS).1
  have hd := (shape_facts hS).2.1
  have hlong := wires_long hT hS hQ (12 - C.length)
  have e : C.length * T + (12 + (12 - C.length)) * T = 24 * T := by
    rw [← Nat.add_mul]; congr 1; omega
  rw [e] at hlong
  have hN : onK (joinW C Q T) T T = upK (beadsR C (24 * T)) T Q T := by
    rw [joinW_eq]
    exact (upK_onK hT hS h0 Q (by omega) T (Nat.le_refl _)).symm
  have hBl := beadsR_len C (24 * T)
  have hlt := beadsR_lt (n := 24 * T) (by omega) hd
  have hlen : (upK (beadsR C (24 * T)) T Q T).length ≤ 900 := by
    refine Nat.le_trans (upK_len _ T Q T) ?_
    rw [hBl]
    have : T * (24 * T) ≤ 6 * (24 * 6) := Nat.mul_le_mul hT.2 (Nat.mul_le_mul_left _ hT.2)
    omega
  have hbd : ∀ x ∈ upK (beadsR C (24 * T)) T Q T, 0 ≤ x ∧ x ≤ 2000 := by
    intro x hx
    unfold upK at hx
    rw [List.mem_flatMap] at hx
    obtain ⟨k, hk, hx⟩ := hx
    rw [List.mem_range] at hk
    exact addW_bnd hT (fun i => shape_getD (hQ k hk) i) 0 _ (fun y hy => by have := hlt y (List.mem_filter.1 hy).1; omega) x hx
  have hp := sortD_perm (upK (beadsR C (24 * T)) T Q T)
  refine ⟨fun k hk => ⟨sumL_shape (hQ k hk), hlong k hk⟩, ?_, ?_, ?_, ?_⟩
  · intro W hW
    obtain ⟨k, hk, rfl⟩ := List.mem_iff_getElem.1 hW
    have hkT : k < T := by rw [joinW_len] at hk; exact hk
    have h1 := joinW_getD C Q hkT
    rw [List.getD_eq_getElem?_getD, List.getElem?_eq_getElem hk] at h1
    simp only [Option.getD_some] at h1
    rw [h1]
    have hwl := wireL_len (beadsR C (24 * T)) T k
    have h3 := beadsR_lt (n := (wireL (beadsR C (24 * T)) T k).length) (by omega) (shape_facts (hQ k hkT)).2.1
    exact ⟨by rw [beadsR_len]; omega, fun x hx => by have := h3 x hx; omega⟩
  · rw [hN]
    exact ⟨by rw [hp.length_eq]; omega, fun x hx => by have := hbd x (hp.mem_iff.1 hx); omega⟩
  · rw [hN]; omega
  · exact joinN_sorted hT hQ
/-- Whether what is joined is a shape. -/
theorem join_shape {C : List Int} {Q : List (List Int)} (h : Dsc (sortD (onK (joinW C Q T) T T))) : isShape (joinV C Q T) = decide (¬ (40 < sumL (joinV C Q T) ∨ 12 < (joinV C Q T).length)) := by
  obtain ⟨M, hM⟩ := shapeL_desc' h
  have hM : desc M (joinV C Q T) = true := hM
  unfold isShape
  by_cases c1 : (joinV C Q T).length ≤ 12
  · by_cases c2 : sumL (joinV C Q T) ≤ 40
    · have hd := desc_mono (m' := 40) hM fun x hx => by have := mem_le_sum hM x hx; omega
      rw [hd, decide_eq_true c1, decide_eq_true c2, decide_eq_true (by omega)]; rfl
    · rw [decide_eq_false c2, decide_eq_false (p := ¬ (40 < sumL (joinV C Q T) ∨ 12 < (joinV C Q T).length)) (fun h => h (.inl (by omega))), Bool.and_false]
  · rw [decide_eq_false c1, decide_eq_false (p := ¬ (40 < sumL (joinV C Q T) ∨ 12 < (joinV C Q T).length)) (fun h => h (.inr (by omega))), Bool.false_and, Bool.false_and]
end
end Go.Proofs.Ytieliilnnfjijaa
set_option maxRecDepth 100000
set_option maxHeartbeats 8000000
set_option linter.unusedSimpArgs false
set_option linter.unusedVariables false
namespace Go.Proofs.Ytieliilnnfjijaa
open Go.Ds
theorem indexG_rets {X : Caller} (hX : Xok X) (Q : List (List Int)) (hQ : ∀ q ∈ Q, q.length < 1000000) (hl : Q.length ≤ 1000) (s : Value) (g : GH) (hs : Sl2 g s Q) :
    Rets Try.prog X 81 [s, .func (.func 76) #[] #[]] g (fun v g' lo => g.next ≤ lo ∧ ∃ r : Int, v = .int .i64 r ∧ (0 ≤ r ↔ Q.all isShape = false)) := by
  refine Rets.run hX.pres p81 (hX.free 81 (by decide) _ _) rfl fun ho => ?_
  have hlen := hs.len
  simp +decide (disch := first | assumption | (apply GH.ok_push; assumption) | exact cellV_int _ _ | exact cellV_bool _ | omega) only [go_sem, ↓reduceIte, Nat.reduceEqDiff, Nat.reduceAdd, Int.reduceToNat, hlen]
  refine Wk.loops (fun m e g' lo => Kept g g' ∧ g.next ≤ lo ∧ ∃ i : Nat, i + m = Q.length ∧ (ev e (.s 0) = s ∧ ev e (.s 1) = .func (.func 76) #[] #[] ∧ ev e (.s 7) = .int .i64 Q.length ∧ ev e (.s 8) = .int .i64 i) ∧ ∀ M ∈ Q.take i, isShape M = true)
    (fun e g' lo => g.next ≤ lo ∧ ∀ M ∈ Q, isShape M = true) (n := Q.length) ?_ ?_ ?_
  · exact ⟨Kept.refl _, Nat.le_refl _, 0, by omega, (by simp +decide (disch := first | assumption | (apply GH.ok_push; assumption) | exact cellV_int _ _ | exact cellV_bool _ | omega) only [go_sem, ↓reduceIte, Nat.reduceEqDiff, Nat.reduceAdd, Int.reduceToNat]; first | done | exact rfl), fun M hM => by simp at hM⟩
  · rintro e g' lo hog - ⟨hlo, hall⟩
    simp +decide (disch := first | assumption | (apply GH.ok_push; assumption) | exact cellV_int _ _ | exact cellV_bool _ | omega) only [go_sem, ↓reduceIte, Nat.reduceEqDiff, Nat.reduceAdd, Int.reduceToNat]
    intro hx
    have : Q.all isShape = true := List.all_eq_true.2 hall
    exact ⟨hlo, -1, rfl, by rw [this]; simp⟩
  · rintro m e g' lo ho' hl' ih out ⟨hk, hlo, i, hi, he, hall⟩
    by_cases c : i < Q.length
    · obtain ⟨u, j1, o1, hj1, hp1, hp2, hu⟩ := (hs.kept hk).ptr c
      have hp1 := hp1 (i : Int) rfl
      have hQi := List.getElem?_eq_getElem c
      have hgd : Q.getD i [] = Q[i] := by rw [List.getD_eq_getElem?_getD, hQi]; rfl
      rw [hgd] at hu
      have hmem := List.getElem_mem c
      obtain ⟨M, hM⟩ : ∃ M, Q[i] = M := ⟨_, rfl⟩
      rw [hM] at hu hQi hmem
      have htk := take_snoc' Q i M hQi
      have hgn := hk.next
      simp +decide (disch := first | assumption | (apply GH.ok_push; assumption) | exact cellV_int _ _ | exact cellV_bool _ | omega) only [go_sem, ↓reduceIte, Nat.reduceEqDiff, Nat.reduceAdd, Int.reduceToNat, he, hp1, hp2]
      refine CallV.go rfl (notShape_rets hX M (hQ M hmem) u g' hu) ?_
      rintro v G lo2 wr hx ⟨hk2, hok2, h2, rfl⟩
      by_cases z : isShape M = true
      · rw [z]
        simp +decide (disch := first | assumption | (apply GH.ok_push; assumption) | exact cellV_int _ _ | exact cellV_bool _ | omega) only [go_sem, ↓reduceIte, Nat.reduceEqDiff, Nat.reduceAdd, Int.reduceToNat, he]
        refine ih (m - 1) _ _ _ (by omega) ⟨hk.trans hk2, by omega, i + 1, by omega, (by simp +decide (disch := first | assumption | (apply GH.ok_push; assumption) | exact cellV_int _ _ | exact cellV_bool _ | omega) only [go_sem, ↓reduceIte, Nat.reduceEqDiff, Nat.reduceAdd, Int.reduceToNat, he]; first | done | exact rfl), ?_⟩
        rw [htk]
        intro N hN
        rcases List.mem_append.1 hN with h | h
        · exact hall N h
        · rw [List.mem_singleton] at h; rw [h]; exact z
      · have z' : isShape M = false := by simpa using z
        rw [z']
        simp +decide (disch := first | assumption | (apply GH.ok_push; assumption) | exact cellV_int _ _ | exact cellV_bool _ | omega) only [go_sem, ↓reduceIte, Nat.reduceEqDiff, Nat.reduceAdd, Int.reduceToNat, he]
        intro hx0
        refine ⟨by omega, i, rfl, ?_⟩
        have : Q.all isShape = false := by
          cases hq : Q.all isShape with
          | false => rfl
          | true => exact absurd (List.all_eq_true.1 hq M hmem) z
        rw [this]
        constructor
        · intro _; rfl
        · intro _; omega
    · rw [List.take_of_length_le (by omega)] at hall
      simp +decide (disch := first | assumption | (apply GH.ok_push; assumption) | exact cellV_int _ _ | exact cellV_bool _ | omega) only [go_sem, ↓reduceIte, Nat.reduceEqDiff, Nat.reduceAdd, Int.reduceToNat, he]
      exact out _ _ _ ⟨hlo, hall⟩
theorem areShapesG_rets {X : Caller} (hX : Xok X) (Q : List (List Int)) (hQ : ∀ q ∈ Q, q.length < 1000000) (hl : Q.length ≤ 1000) (s : Value) (g : GH) (hs : Sl2 g s Q) :
    Rets Try.prog X 63 [s] g (fun v g' lo => g.next ≤ lo ∧ v = .bool (isWires Q.length && Q.all isShape)) := by
  refine Rets.run hX.pres p63 (hX.free 63 (by decide) _ _) rfl fun ho => ?_
  have hlen := hs.len
  simp +decide (disch := first | assumption | (apply GH.ok_push; assumption) | exact cellV_int _ _ | exact cellV_bool _ | omega) only [go_sem, ↓reduceIte, Nat.reduceEqDiff, Nat.reduceAdd, Int.reduceToNat, hlen]
  refine CallD.calm (wires_rets hX _ _) ?_
  rintro v G1 hx1 rfl
  have hn1 := hx1.next
  by_cases hW : isWires (Q.length : Int) = true
  case neg =>
    have hW' : isWires (Q.length : Int) = false := by simpa using hW
    rw [hW']
    simp +decide (disch := first | assumption | (apply GH.ok_push; assumption) | exact cellV_int _ _ | exact cellV_bool _ | omega) only [go_sem, ↓reduceIte, Nat.reduceEqDiff, Nat.reduceAdd, Int.reduceToNat]
    intro hx0
    exact ⟨by omega, rfl⟩
  rw [hW]
  simp +decide (disch := first | assumption | (apply GH.ok_push; assumption) | exact cellV_int _ _ | exact cellV_bool _ | omega) only [go_sem, ↓reduceIte, Nat.reduceEqDiff, Nat.reduceAdd, Int.reduceToNat]
  have hcall : Rets Try.prog X 77 [s, .func (.func 76) #[] #[]] G1 (fun v g' lo => G1.next ≤ lo ∧ v = .bool (!Q.all isShape)) := by
    refine Rets.run hX.pres p77 (hX.free 77 (by decide) _ _) rfl fun ho => ?_
    simp +decide (disch := first | assumption | (apply GH.ok_push; assumption) | exact cellV_int _ _ | exact cellV_bool _ | omega) only [go_sem, ↓reduceIte, Nat.reduceEqDiff, Nat.reduceAdd, Int.reduceToNat]
    refine CallD.calm (indexG_rets hX Q hQ hl s _ (hs.kept hx1.kept)) ?_
    rintro v G hx ⟨r, rfl, hr⟩
    cases hq : Q.all isShape with
    | false =>
      have h0 : 0 ≤ r := hr.2 hq
      simp +decide (disch := first | assumption | (apply GH.ok_push; assumption) | exact cellV_int _ _ | exact cellV_bool _ | omega) only [go_sem, ↓reduceIte, Nat.reduceEqDiff, Nat.reduceAdd, Int.reduceToNat, h0]
      intro hx0
      exact ⟨Nat.le_refl _, rfl⟩
    | true =>
      have h0 : ¬ 0 ≤ r := fun h => by have := hr.1 h; rw [hq] at this; cases this
      simp +decide (disch := first | assumption | (apply GH.ok_push; assumption) | exact cellV_int _ _ | exact cellV_bool _ | omega) only [go_sem, ↓reduceIte, Nat.reduceEqDiff, Nat.reduceAdd, Int.reduceToNat, h0]
      intro hx0
      exact ⟨Nat.le_refl _, rfl⟩
  refine CallD.calm hcall ?_
  rintro v G2 hx2 rfl
  cases hq : Q.all isShape with
  | false =>
    simp +decide (disch := first | assumption | (apply GH.ok_push; assumption) | exact cellV_int _ _ | exact cellV_bool _ | omega) only [go_sem, ↓reduceIte, Nat.reduceEqDiff, Nat.reduceAdd, Int.reduceToNat]
    intro hx0
    exact ⟨by omega, rfl⟩
  | true =>
    simp +decide (disch := first | assumption | (apply GH.ok_push; assumption) | exact cellV_int _ _ | exact cellV_bool _ | omega) only [go_sem, ↓reduceIte, Nat.reduceEqDiff, Nat.reduceAdd, Int.reduceToNat]
    intro hx0
    exact ⟨by omega, rfl⟩
/-- Of, whatever it is given. -/
theorem of_rets {X : Caller} (hX : Xok X) (C : List Int) (hC : C.length < 1000000) (Q : List (List Int)) (hQl : Q.length ≤ 1000) (hQ2 : ∀ q ∈ Q, q.length < 1000000) (s q : Value) (g : GH) (hs : SlR g s (ints C)) (hq : Sl2 g q Q) :
    Rets Try.prog X 35 [s, q] g (fun v g' lo => g.next ≤ lo ∧ Ret1 g' v (ofT C Q)) := by
  refine Rets.run hX.pres p35 (hX.free 35 (by decide) _ _) rfl fun ho => ?_
  have hlen := hq.len
  simp +decide (disch := first | assumption | (apply GH.ok_push; assumption) | exact cellV_int _ _ | exact cellV_bool _ | omega) only [go_sem, ↓reduceIte, Nat.reduceEqDiff, Nat.reduceAdd, Int.reduceToNat]
  refine CallD.calm (isShape_rets hX C hC s g hs) ?_
  rintro v G1 hx1 rfl
  have hn1 := hx1.next
  have hs1 := hs.ext hx1
  have hq1 := hq.kept hx1.kept
  by_cases c : isShape C = true
  case neg =>
    have c' : isShape C = false := by simpa using c
    have hT : ofT C Q = ([], 2) := by rw [ofT, if_neg (by simp [goodQ, c'])]
    simp +decide (disch := first | assumption | (apply GH.ok_push; assumption) | exact cellV_int _ _ | exact cellV_bool _ | omega) only [go_sem, ↓reduceIte, Nat.reduceEqDiff, Nat.reduceAdd, Int.reduceToNat, c']
    intro hx0
    exact ⟨by omega, _, by rw [hT], by rw [hT]; exact SlR.nil⟩
  simp +decide (disch := first | assumption | (apply GH.ok_push; assumption) | exact cellV_int _ _ | exact cellV_bool _ | omega) only [go_sem, ↓reduceIte, Nat.reduceEqDiff, Nat.reduceAdd, Int.reduceToNat, c]
  refine CallD.calm (areShapesG_rets hX Q hQ2 hQl q G1 hq1) ?_
  rintro v G2 hx2 rfl
  have hn2 := hx2.next
  have hs2 := hs1.ext hx2
  have hq2 := hq1.kept hx2.kept
  by_cases d : (isWires (Q.length : Int) && Q.all isShape) = true
  case neg =>
    have d' : (isWires (Q.length : Int) && Q.all isShape) = false := by simpa using d
    have hT : ofT C Q = ([], 2) := by
      rw [ofT, if_neg]
      intro h
      unfold goodQ at h
      simp only [Bool.and_eq_true] at h
      exact d (by simp only [Bool.and_eq_true]; exact ⟨h.1.1.2, h.1.2⟩)
    rw [d']
    simp +decide (disch := first | assumption | (apply GH.ok_push; assumption) | exact cellV_int _ _ | exact cellV_bool _ | omega) only [go_sem, ↓reduceIte, Nat.reduceEqDiff, Nat.reduceAdd, Int.reduceToNat]
    intro hx0
    exact ⟨by omega, _, by rw [hT], by rw [hT]; exact SlR.nil⟩
  rw [d]
  simp only [Bool.and_eq_true] at d
  have hT : 2 ≤ Q.length ∧ Q.length ≤ 6 := by
    have : 2 ≤ (Q.length : Int) ∧ (Q.length : Int) ≤ 6 := by simpa [isWires] using d.1
    omega
  have hall : ∀ k, k < Q.length → isShape (Q.getD k []) = true := fun k hk => List.all_eq_true.1 d.2 _ (by rw [List.getD_eq_getElem?_getD, List.getElem?_eq_getElem hk]; exact List.getElem_mem _)
  obtain ⟨c1, c2, c3⟩ := shape_facts c
  simp +decide (disch := first | assumption | (apply GH.ok_push; assumption) | exact cellV_int _ _ | exact cellV_bool _ | omega) only [go_sem, ↓reduceIte, Nat.reduceEqDiff, Nat.reduceAdd, Int.reduceToNat, hlen]
  refine CallD.calm (isCore_rets hX C c Q.length hT s G2 hs2) ?_
  rintro v G3 hx3 rfl
  have hn3 := hx3.next
  have hs3 := hs2.ext hx3
  have hq3 := hq2.kept hx3.kept
  by_cases z : manyM C Q.length = 0
  case neg =>
    have hT2 : ofT C Q = ([], 2) := by
      rw [ofT, if_neg]
      intro h
      unfold goodQ at h
      simp only [Bool.and_eq_true, decide_eq_true_eq] at h
      exact z ((many_zero hT c).2 h.2)
    have z' : decide (manyM C Q.length = 0) = false := decide_eq_false z
    rw [z']
    simp +decide (disch := first | assumption | (apply GH.ok_push; assumption) | exact cellV_int _ _ | exact cellV_bool _ | omega) only [go_sem, ↓reduceIte, Nat.reduceEqDiff, Nat.reduceAdd, Int.reduceToNat]
    intro hx0
    exact ⟨by omega, _, by rw [hT2], by rw [hT2]; exact SlR.nil⟩
  have h0 : stripsB (beadsR C C.length) Q.length = [] := (many_zero hT c).1 z
  have z' : decide (manyM C Q.length = 0) = true := decide_eq_true z
  have hgood : goodQ C Q = true := by
    unfold goodQ
    rw [c, d.1, d.2, decide_eq_true h0]; rfl
  obtain ⟨f1, f2, f3, f4, f5⟩ := join_fits hT c h0 rfl hall
  have hsame := join_same hT c h0 rfl hall
  have hsh := join_shape hT f5
  have hj := joined_rets hX C Q Q.length hT rfl c f1 f2 f3.fits f4 s q G3 hs3 hq3
  have hbig : ofT C Q = (if 40 < sumL (ofR C Q) ∨ 12 < (ofR C Q).length then ([], 8) else (ofR C Q, 0)) := by rw [ofT, if_pos hgood]
  rw [hsame] at hj hsh
  have hol : (ofR C Q).length < 1000000 := by
    have h1 : (joinV C Q Q.length).length ≤ (sortD (onK (joinW C Q Q.length) Q.length Q.length)).length := shapeK_len _ _
    have h2 := f3.1
    rw [hsame] at h1
    omega
  rw [z']
  simp +decide (disch := first | assumption | (apply GH.ok_push; assumption) | exact cellV_int _ _ | exact cellV_bool _ | omega) only [go_sem, ↓reduceIte, Nat.reduceEqDiff, Nat.reduceAdd, Int.reduceToNat]
  refine CallD.calm hj ?_
  rintro u G4 hx4 hu
  have hn4 := hx4.next
  simp +decide (disch := first | assumption | (apply GH.ok_push; assumption) | exact cellV_int _ _ | exact cellV_bool _ | omega) only [go_sem, ↓reduceIte, Nat.reduceEqDiff, Nat.reduceAdd, Int.reduceToNat]
  refine CallD.calm (isShape_rets hX _ hol u G4 hu) ?_
  rintro v G5 hx5 rfl
  have hn5 := hx5.next
  have hu5 := hu.ext hx5
  rw [hsh]
  by_cases y : 40 < sumL (ofR C Q) ∨ 12 < (ofR C Q).length
  · have hT2 : ofT C Q = ([], 8) := by rw [hbig, if_pos y]
    have hd : decide (¬ (40 < sumL (ofR C Q) ∨ 12 < (ofR C Q).length)) = false := decide_eq_false (fun h => h y)
    rw [hd]
    simp +decide (disch := first | assumption | (apply GH.ok_push; assumption) | exact cellV_int _ _ | exact cellV_bool _ | omega) only [go_sem, ↓reduceIte, Nat.reduceEqDiff, Nat.reduceAdd, Int.reduceToNat]
    intro hx0
    exact ⟨by omega, _, by rw [hT2], by rw [hT2]; exact SlR.nil⟩
  · have hT2 : ofT C Q = (ofR C Q, 0) := by rw [hbig, if_neg y]
    have hd : decide (¬ (40 < sumL (ofR C Q) ∨ 12 < (ofR C Q).length)) = true := decide_eq_true y
    rw [hd]
    simp +decide (disch := first | assumption | (apply GH.ok_push; assumption) | exact cellV_int _ _ | exact cellV_bool _ | omega) only [go_sem, ↓reduceIte, Nat.reduceEqDiff, Nat.reduceAdd, Int.reduceToNat]
    intro hx0
    exact ⟨by omega, u, by rw [hT2], by rw [hT2]; exact hu5⟩
end Go.Proofs.Ytieliilnnfjijaa
set_option maxRecDepth 100000
set_option maxHeartbeats 8000000
set_option linter.unusedSimpArgs false
set_option linter.unusedVariables false
namespace Go.Proofs.Ytieliilnnfjijaa
open Go.Ds
section
variable {T : Nat} (hT : 2 ≤ T ∧ T ≤ 6)
include hT
/-- What is laid on wires is found there. -/
theorem onK_wire {WL : List (List Int)} (h : ∀ k, k < T → Dsc (WL.getD k [])) {k : Nat} (hk : k < T) : wireL (sortD (onK WL T T)) T k = WL.getD k [] := by
  have hD : Dsc (sortD (onK WL T T)) := by
    refine sortD_dsc (onK_nodup hT h T (Nat.le_refl _)) fun x hx => ?_
    obtain ⟨j, hj, y, hy, rfl⟩ := onK_mem.1 hx
    exact (ar_at hT ((h j hj).2 y hy) hj).2.2
  refine Dsc.ext (wireL_dsc hT hD k) (h k hk) fun w => ?_
  constructor
  · intro hw
    have h0 := (wireL_dsc hT hD k).2 w hw
    have := (mem_wire hT hD.2 hk h0).1 hw
    rw [sortD_mem, onK_mem] at this
    obtain ⟨j, hj, y, hy, e⟩ := this
    have hy0 := (h j hj).2 y hy
    have hjk : j = k ∧ y = w := by
      rcases five hT with rfl | rfl | rfl | rfl | rfl <;> omega
    rw [← hjk.1, ← hjk.2]
    exact hy
  · intro hw
    have h0 := (h k hk).2 w hw
    refine (mem_wire hT hD.2 hk h0).2 ?_
    rw [sortD_mem, onK_mem]
    exact ⟨k, hk, w, hw, rfl⟩
theorem join_there {C : List Int} (hS : isShape C = true) (h0 : stripsB (beadsR C C.length) T = []) {Q : List (List Int)} (hQl : Q.length = T) (hQ : ∀ k, k < T → isShape (Q.getD k []) = true) (hJ : isShape (joinV C Q T) = true) :
    coreM (joinV C Q T) T = C ∧ quotM (joinV C Q T) T = Q := by
  obtain ⟨f1, f2, f3, f4, f5⟩ := join_fits hT hS h0 hQl hQ
  obtain ⟨c1, c2, c3⟩ := shape_facts hS
  obtain ⟨j1, j2, j3⟩ := shape_facts hJ
  have hdsc : ∀ k, k < T → Dsc ((joinW C Q T).getD k []) := by
    rw [joinW_eq]; exact joinN_dsc hT hQ
  have hw : ∀ k, k < T → wireL (sortD (onK (joinW C Q T) T T)) T k = beadsR (Q.getD k []) (wireL (beadsR C (24 * T)) T k).length := fun k hk => by
    rw [onK_wire hT hdsc hk, joinW_getD C Q hk]
  have hbot := core_bottom hT hS h0 (24 * T - C.length)
  rw [show C.length + (24 * T - C.length) = 24 * T by omega] at hbot
  have hDn := beadsR_dsc (n := 24 * T) c2
  have hcore : coreS (sortD (onK (joinW C Q T) T T)) T = beadsR C (24 * T) := by
    refine wires_ext hT (coreS_dsc hT _) hDn fun k hk => ?_
    rw [coreS_wire hT _ hk, hw k hk, beadsR_len]
    exact (hbot k hk).symm
  have hlen : (sortD (onK (joinW C Q T) T T)).length = 24 * T := by
    have := coreS_len hT f5.2
    rw [hcore, beadsR_len] at this
    exact this.symm
  have hback : beadsR (joinV C Q T) (24 * T) = sortD (onK (joinW C Q T) T T) := by
    have := shapeL_back f5
    rw [hlen] at this
    exact this
  constructor
  · have hp := (pad hT j2 (24 * T - (joinV C Q T).length)).2
    rw [show (joinV C Q T).length + (24 * T - (joinV C Q T).length) = 24 * T by omega, hback, hcore, shapeL_beads c2 (by omega)] at hp
    rw [coreM_eq]
    exact hp.symm
  · have hd := divU_facts hT (joinV C Q T).length
    obtain ⟨q, hq⟩ := hd.2.2
    have hle : divU (joinV C Q T).length T ≤ 24 * T := by omega
    have hqT : q ≤ 24 := by
      rw [hq] at hle
      exact Nat.le_of_mul_le_mul_right hle (by omega)
    have hN : 24 * T = divU (joinV C Q T).length T + (24 - q) * T := by rw [hq, ← Nat.add_mul]; congr 1; omega
    have hk : ∀ k, k < T → (quotM (joinV C Q T) T).getD k [] = Q.getD k [] := by
      intro k hk
      unfold quotM
      rw [quotL_getD _ hk]
      have := quot_up hT j2 (n := divU (joinV C Q T).length T) hd.1 hk (24 - q)
      rw [← hN, hback, hw k hk, shapeL_beads (shape_facts (hQ k hk)).2.1 (f1 k hk).2] at this
      exact this.symm
    have hql : (quotM (joinV C Q T) T).length = T := quotL_len _ _
    apply List.ext_getElem?
    intro i
    by_cases hi : i < T
    · have := hk i hi
      rw [List.getD_eq_getElem?_getD, List.getD_eq_getElem?_getD, List.getElem?_eq_getElem (by omega), List.getElem?_eq_getElem (by omega)] at this
      rw [List.getElem?_eq_getElem (by omega), List.getElem?_eq_getElem (by omega)]
      exact congrArg some this
    · rw [List.getElem?_eq_none (by omega), List.getElem?_eq_none (by omega)]
end
theorem sum_bndE {f : Nat → Int} : ∀ n, (∀ i, i < n → 0 ≤ f i ∧ f i ≤ 40) → 0 ≤ sumL (rng n f) ∧ sumL (rng n f) ≤ 40 * n
  | 0, _ => by simp [rng, sumL]
  | n + 1, h => by
    have ih := sum_bndE n fun i hi => h i (by omega)
    have := h n (by omega)
    rw [rng_succ, sumL_app]
    simp only [sumL, Int.add_zero]
    omega
theorem shape_sumE {L : List Int} (h : isShape L = true) : 0 ≤ sumL L ∧ sumL L ≤ 40 := by
  obtain ⟨c1, c2, c3⟩ := shape_facts h
  refine ⟨?_, c3⟩
  cases L with
  | nil => exact Int.le_refl _
  | cons a l =>
    have h1 := mem_le_sum c2 a List.mem_cons_self
    have h2 := desc_le c2 a List.mem_cons_self
    omega
/-- What is known where Of says a shape. -/
theorem ofT_good {C : List Int} {Q : List (List Int)} (h : (ofT C Q).2 = 0) : goodQ C Q = true ∧ (ofT C Q).1 = ofR C Q ∧ ∃ T : Nat, Q.length = T ∧ (2 ≤ T ∧ T ≤ 6) ∧ isShape C = true ∧ (∀ k, k < T → isShape (Q.getD k []) = true) ∧ isShape (ofR C Q) = true ∧ coreM (ofR C Q) T = C ∧ quotM (ofR C Q) T = Q := by
  by_cases hg : goodQ C Q = true
  case neg =>
    rw [ofT, if_neg hg] at h
    exact absurd h (by decide)
  by_cases y : 40 < sumL (ofR C Q) ∨ 12 < (ofR C Q).length
  · rw [ofT, if_pos hg, if_pos y] at h
    exact absurd h (by decide)
  have h1 : (ofT C Q).1 = ofR C Q := by rw [ofT, if_pos hg, if_neg y]
  have hg' := hg
  unfold goodQ at hg'
  simp only [Bool.and_eq_true, decide_eq_true_eq] at hg'
  obtain ⟨⟨⟨g1, g2⟩, g3⟩, g4⟩ := hg'
  have hT : 2 ≤ Q.length ∧ Q.length ≤ 6 := by
    have : 2 ≤ (Q.length : Int) ∧ (Q.length : Int) ≤ 6 := by simpa [isWires] using g2
    omega
  have hall : ∀ k, k < Q.length → isShape (Q.getD k []) = true := fun k hk => List.all_eq_true.1 g3 _ (by rw [List.getD_eq_getElem?_getD, List.getElem?_eq_getElem hk]; exact List.getElem_mem _)
  obtain ⟨f1, f2, f3, f4, f5⟩ := join_fits hT g1 g4 rfl hall
  have hsame := join_same hT g1 g4 rfl hall
  have hsh := join_shape hT f5
  rw [hsame, decide_eq_true y] at hsh
  have := join_there hT g1 g4 rfl hall (by rw [hsame]; exact hsh)
  rw [hsame] at this
  exact ⟨hg, h1, Q.length, rfl, hT, g1, hall, hsh, this.1, this.2⟩
theorem ofT_bad {C : List Int} {Q : List (List Int)} (h : ¬ (ofT C Q).2 = 0) : (ofT C Q).1 = [] ∧ ((ofT C Q).2 = 2 ∨ (ofT C Q).2 = 8) := by
  unfold ofT at h ⊢
  split
  · rename_i hg
    rw [if_pos hg] at h
    split
    · exact ⟨rfl, .inr rfl⟩
    · rename_i y
      rw [if_neg y] at h
      exact absurd rfl h
  · exact ⟨rfl, .inl rfl⟩
end Go.Proofs.Ytieliilnnfjijaa
set_option maxRecDepth 100000
set_option maxHeartbeats 8000000
set_option linter.unusedSimpArgs false
set_option linter.unusedVariables false
namespace Go.Proofs.Ytieliilnnfjijaa
open Go.Ds
theorem quotT_small (L : List Int) (t : Int) : (quotT L t).1.length < 1000000 ∧ ∀ M ∈ (quotT L t).1, M.length < 1000000 := by
  unfold quotT
  split
  · rename_i h
    obtain ⟨T, rfl, hTn, hT1, hT2⟩ := wires_nat h.2
    obtain ⟨m1, m2, m3⟩ := quot_facts (T := T) ⟨hT1, hT2⟩ h.1
    simp only [Int.toNat_natCast]
    refine ⟨by omega, fun M hM => ?_⟩
    obtain ⟨k, hk, rfl⟩ := List.mem_iff_getElem.1 hM
    have := m2 k (by omega)
    rw [List.getD_eq_getElem?_getD, List.getElem?_eq_getElem hk] at this
    have := (shape_facts this).1
    simp only [Option.getD_some] at this
    omega
  · exact ⟨by simp, fun M hM => by simp at hM⟩
theorem ofT_small (C : List Int) (Q : List (List Int)) : (ofT C Q).1.length < 1000000 := by
  unfold ofT
  split
  · split
    · simp
    · rename_i y
      have : (ofR C Q).length ≤ 12 := by
        by_cases c : 12 < (ofR C Q).length
        · exact absurd (.inr c) y
        · omega
      show (ofR C Q).length < 1000000
      omega
  · simp
/-- The law of the quotients. -/
theorem quotientsLaw_rets {X : Caller} (hX : Xok X) (L : List Int) (t : Int) (C : List Int) (Q : List (List Int)) (s r q : Value) (g : GH) (hs : SlR g s (ints L)) (hr : SlR g r (ints C)) (hq : Sl2 g q Q) :
    Rets Try.prog X 5 [s, .int .i64 t, r, q] g (fun v g' lo => g.next ≤ lo ∧ v = .bool true) := by
  have e0 : ∀ a b : Value, extF (.tuple #[a, b]) 0 = some a := fun _ _ => rfl
  have e1 : ∀ a b : Value, extF (.tuple #[a, b]) 1 = some b := fun _ _ => rfl
  refine Rets.run hX.pres p5 (hX.free 5 (by decide) _ _) rfl fun ho => ?_
  simp +decide (disch := first | assumption | (apply GH.ok_push; assumption) | exact cellV_int _ _ | exact cellV_bool _ | omega) only [go_sem, ↓reduceIte, Nat.reduceEqDiff, Nat.reduceAdd, Int.reduceToNat]
  refine CallD.calm (few_rets hX L [] s _ g hs Sl2.nil) ?_
  rintro v G hx rfl
  have hn := hx.next
  have hs1 := hs.ext hx
  have hr1 := hr.ext hx
  have hq1 := hq.kept hx.kept
  have hok1 := hx.ok ho
  cases hf : fewB L [] with
  | false =>
    simp +decide (disch := first | assumption | (apply GH.ok_push; assumption) | exact cellV_int _ _ | exact cellV_bool _ | omega) only [go_sem, ↓reduceIte, Nat.reduceEqDiff, Nat.reduceAdd, Int.reduceToNat]
    refine CallD.calm (hX.alive G) ?_
    rintro v G1 hx1 rfl
    have hn1 := hx1.next
    simp +decide (disch := first | assumption | (apply GH.ok_push; assumption) | exact cellV_int _ _ | exact cellV_bool _ | omega) only [go_sem, ↓reduceIte, Nat.reduceEqDiff, Nat.reduceAdd, Int.reduceToNat]
    intro hx0
    exact ⟨by omega, rfl⟩
  | true =>
  simp +decide (disch := first | assumption | (apply GH.ok_push; assumption) | exact cellV_int _ _ | exact cellV_bool _ | omega) only [go_sem, ↓reduceIte, Nat.reduceEqDiff, Nat.reduceAdd, Int.reduceToNat]
  refine CallD.calm (few_rets hX C Q r q G hr1 hq1) ?_
  rintro v G1 hx1 rfl
  have hn1 := hx1.next
  have hs2 := hs1.ext hx1
  have hr2 := hr1.ext hx1
  have hq2 := hq1.kept hx1.kept
  have hok2 := hx1.ok hok1
  cases hf2 : fewB C Q with
  | false =>
    simp +decide (disch := first | assumption | (apply GH.ok_push; assumption) | exact cellV_int _ _ | exact cellV_bool _ | omega) only [go_sem, ↓reduceIte, Nat.reduceEqDiff, Nat.reduceAdd, Int.reduceToNat]
    refine CallD.calm (hX.alive G1) ?_
    rintro v G2 hx2 rfl
    have hn2 := hx2.next
    simp +decide (disch := first | assumption | (apply GH.ok_push; assumption) | exact cellV_int _ _ | exact cellV_bool _ | omega) only [go_sem, ↓reduceIte, Nat.reduceEqDiff, Nat.reduceAdd, Int.reduceToNat]
    intro hx0
    exact ⟨by omega, rfl⟩
  | true =>
  have hLl : L.length ≤ 60 := by
    unfold fewB at hf
    simp only [Bool.and_eq_true, decide_eq_true_eq] at hf
    exact hf.1.1
  unfold fewB at hf2
  simp only [Bool.and_eq_true, decide_eq_true_eq] at hf2
  have hQ60 : ∀ x ∈ Q, x.length ≤ 60 := fun x hx => of_decide_eq_true (List.all_eq_true.1 hf2.2 x hx)
  have hQ2 : ∀ x ∈ Q, x.length < 1000000 := fun x hx => by have := hQ60 x hx; omega
  simp +decide (disch := first | assumption | (apply GH.ok_push; assumption) | exact cellV_int _ _ | exact cellV_bool _ | omega) only [go_sem, ↓reduceIte, Nat.reduceEqDiff, Nat.reduceAdd, Int.reduceToNat]
  refine CallD.calm (quotT_rets hX L (by omega) t s G1 hs2) ?_
  rintro v G2 hx2 ⟨a, rfl, ha⟩
  have hn2 := hx2.next
  have hs3 := hs2.ext hx2
  have hr3 := hr2.ext hx2
  have hq3 := hq2.kept hx2.kept
  have hok3 := hx2.ok hok2
  simp +decide (disch := first | assumption | (apply GH.ok_push; assumption) | exact cellV_int _ _ | exact cellV_bool _ | omega) only [go_sem, ↓reduceIte, Nat.reduceEqDiff, Nat.reduceAdd, Int.reduceToNat, e0, e1]
  refine CallD.calm (refQuot_rets hX L (by omega) t s G2 hs3) ?_
  rintro v G3 hx3 ⟨b, rfl, hb⟩
  have hn3 := hx3.next
  have hr4 := hr3.ext hx3
  have hq4 := hq3.kept hx3.kept
  have hok4 := hx3.ok hok3
  obtain ⟨m1, m2⟩ := quotT_small L t
  simp +decide (disch := first | assumption | (apply GH.ok_push; assumption) | exact cellV_int _ _ | exact cellV_bool _ | omega) only [go_sem, ↓reduceIte, Nat.reduceEqDiff, Nat.reduceAdd, Int.reduceToNat, e0, e1]
  refine CallD.calm (shapes_rets hX _ _ m1 m1 m2 m2 a b G3 (ha.kept hx3.kept) hb) ?_
  rintro v G4 hx4 rfl
  have hn4 := hx4.next
  have hr5 := hr4.ext hx4
  have hq5 := hq4.kept hx4.kept
  have hok5 := hx4.ok hok4
  rw [decide_eq_true rfl]
  simp +decide (disch := first | assumption | (apply GH.ok_push; assumption) | exact cellV_int _ _ | exact cellV_bool _ | omega) only [go_sem, ↓reduceIte, Nat.reduceEqDiff, Nat.reduceAdd, Int.reduceToNat]
  have hlq := hq.len
  refine Wk.loops (fun m e g' lo => g.next ≤ lo ∧ Kept G4 g' ∧ ∃ i : Nat, i + m = Q.length ∧ (ev e (.s 2) = r ∧ ev e (.s 3) = q ∧ ev e (.s 14) = .int .i64 i) ∧ ∃ o, ev e (.s 13) = o ∧ Own2 g' o (Q.take i) G4.next)
    (fun e g' lo => g.next ≤ lo ∧ Kept G4 g' ∧ (ev e (.s 2) = r ∧ ev e (.s 3) = q) ∧ ∃ o, ev e (.s 13) = o ∧ Sl2 g' o Q) (n := Q.length) ?_ ?_ ?_
  · exact ⟨by omega, Kept.refl _, 0, by omega, (by simp +decide (disch := first | assumption | (apply GH.ok_push; assumption) | exact cellV_int _ _ | exact cellV_bool _ | omega) only [go_sem, ↓reduceIte, Nat.reduceEqDiff, Nat.reduceAdd, Int.reduceToNat]; first | done | exact rfl), .slice none 0 0, (by simp +decide (disch := first | assumption | (apply GH.ok_push; assumption) | exact cellV_int _ _ | exact cellV_bool _ | omega) only [go_sem, ↓reduceIte, Nat.reduceEqDiff, Nat.reduceAdd, Int.reduceToNat]; first | done | exact rfl), Own2.nil⟩
  · rintro e g' lo hog - ⟨hlo, hk, he, o, h13, hsl⟩
    have hgk := hk.next
    have hr6 := hr5.kept hk
    have hq6 := hq5.kept hk
    simp +decide (disch := first | assumption | (apply GH.ok_push; assumption) | exact cellV_int _ _ | exact cellV_bool _ | omega) only [go_sem, ↓reduceIte, Nat.reduceEqDiff, Nat.reduceAdd, Int.reduceToNat, he, h13]
    refine CallD.calm (of_rets hX C (by omega) Q (by omega) hQ2 r o g' hr6 hsl) ?_
    rintro v G5 hx5 ⟨u, rfl, hu⟩
    have hn5 := hx5.next
    have hr7 := hr6.ext hx5
    have hq7 := hq6.kept hx5.kept
    have hsl7 := hsl.kept hx5.kept
    simp +decide (disch := first | assumption | (apply GH.ok_push; assumption) | exact cellV_int _ _ | exact cellV_bool _ | omega) only [go_sem, ↓reduceIte, Nat.reduceEqDiff, Nat.reduceAdd, Int.reduceToNat, he, h13, e0, e1]
    refine CallD.calm (refOf_rets hX C (by omega) Q (by omega) hQ2 r q G5 hr7 hq7) ?_
    rintro v G6 hx6 ⟨w, rfl, hw⟩
    have hn6 := hx6.next
    simp +decide (disch := first | assumption | (apply GH.ok_push; assumption) | exact cellV_int _ _ | exact cellV_bool _ | omega) only [go_sem, ↓reduceIte, Nat.reduceEqDiff, Nat.reduceAdd, Int.reduceToNat, he, h13, e0, e1]
    refine CallD.calm (same_rets hX _ _ (ofT_small C Q) (ofT_small C Q) u w G6 (hu.ext hx6) hw) ?_
    rintro v G7 hx7 rfl
    have hn7 := hx7.next
    rw [decide_eq_true rfl]
    simp +decide (disch := first | assumption | (apply GH.ok_push; assumption) | exact cellV_int _ _ | exact cellV_bool _ | omega) only [go_sem, ↓reduceIte, Nat.reduceEqDiff, Nat.reduceAdd, Int.reduceToNat, he, h13]
    refine CallD.calm (shapes_rets hX Q Q (by omega) (by omega) hQ2 hQ2 o q G7 ((hsl7.kept hx6.kept).kept hx7.kept) ((hq7.kept hx6.kept).kept hx7.kept)) ?_
    rintro v G8 hx8 rfl
    have hn8 := hx8.next
    rw [decide_eq_true rfl]
    simp +decide (disch := first | assumption | (apply GH.ok_push; assumption) | exact cellV_int _ _ | exact cellV_bool _ | omega) only [go_sem, ↓reduceIte, Nat.reduceEqDiff, Nat.reduceAdd, Int.reduceToNat]
    refine CallD.calm (hX.alive G8) ?_
    rintro v G9 hx9 rfl
    simp +decide (disch := first | assumption | (apply GH.ok_push; assumption) | exact cellV_int _ _ | exact cellV_bool _ | omega) only [go_sem, ↓reduceIte, Nat.reduceEqDiff, Nat.reduceAdd, Int.reduceToNat]
    intro hx0
    exact ⟨by omega, rfl⟩
  · rintro m e g' lo ho' hl' ih out ⟨hlo, hk, i, hi, he, o, h13, hown⟩
    have hgk := hk.next
    by_cases ci : i < Q.length
    · have hkp := (Kept.refl g').push ho' (cellsOb [] 3)
      obtain ⟨u, j1, o1, hj1, hp1, hp2, hu⟩ := (hq5.kept hk).ptr ci
      have hp1 := hp1 (i : Int) rfl
      have hob : obLoad none (g'.get j1) o1 = some u := by rw [← load_eq none g' j1 o1 0]; exact hp2 0
      have hne : ¬ g'.next = j1 := by omega
      have hQi := List.getElem?_eq_getElem ci
      have hgd : Q.getD i [] = Q[i] := by rw [List.getD_eq_getElem?_getD, hQi]; rfl
      rw [hgd] at hu
      have hM60 := hQ60 _ (List.getElem_mem ci)
      obtain ⟨M, hM⟩ : ∃ M, Q[i] = M := ⟨_, rfl⟩
      rw [hM] at hu hQi hM60
      have htk := take_snoc' Q i M hQi
      have hcell := hu.cell
      simp +decide (disch := first | assumption | (apply GH.ok_push; assumption) | exact cellV_int _ _ | exact cellV_bool _ | omega) only [go_sem, ↓reduceIte, Nat.reduceEqDiff, Nat.reduceAdd, Int.reduceToNat, he, h13, hlq, hp1, hob, hne]
      refine AppD.copy (vs := []) (new := ints M) (j := g'.next) (cells := []) (t' := 3) (by rw [GH.get_push ho', if_pos rfl]) rfl (Nat.le_refl _) (Nat.lt_succ_self _) (hu.kept hkp) (by rw [ints_len]; simp; omega) (GH.ok_push ho') ?_
      intro own g2 sp wr hk2 hok2 hcp
      rw [List.nil_append] at hcp
      have hk2' := hkp.trans hk2
      have hkn2 := hk2'.next
      have hcell2 := hcp.cell
      simp +decide (disch := first | assumption | (apply GH.ok_push; assumption) | exact cellV_int _ _ | exact cellV_bool _ | omega) only [go_sem, ↓reduceIte, Nat.reduceEqDiff, Nat.reduceAdd, Int.reduceToNat, he, h13, hcell2]
      have hkp3 := hk2'.push hok2 (cellsOb [own] 22)
      obtain ⟨vs, q1, q2, q3⟩ := hown.kept hkp3
      have hvl : vs.length ≤ 20 := by rw [q2, List.length_take]; omega
      refine AppD.own2 (lw := g.next) q1 (SlR.one hok2 _ _) (by simp) (by simp [hcell2]) (by simp; omega) (by simp [GH.push]; omega) hlo (by omega) (GH.ok_push hok2) (fun s' g3 lo3 sp wr hgr hlo3 => ?_)
      simp +decide (disch := first | assumption | (apply GH.ok_push; assumption) | exact cellV_int _ _ | exact cellV_bool _ | omega) only [go_sem, ↓reduceIte, Nat.reduceEqDiff, Nat.reduceAdd, Int.reduceToNat, he]
      refine ih (m - 1) _ _ _ (by omega) ⟨hlo3, (hk.trans hkp3).grew2 hgr (Nat.le_refl _), i + 1, by omega, (by simp +decide (disch := first | assumption | (apply GH.ok_push; assumption) | exact cellV_int _ _ | exact cellV_bool _ | omega) only [go_sem, ↓reduceIte, Nat.reduceEqDiff, Nat.reduceAdd, Int.reduceToNat, he]; first | done | exact rfl), s', (by simp +decide (disch := first | assumption | (apply GH.ok_push; assumption) | exact cellV_int _ _ | exact cellV_bool _ | omega) only [go_sem, ↓reduceIte, Nat.reduceEqDiff, Nat.reduceAdd, Int.reduceToNat]; first | done | exact rfl), ?_⟩
      rw [htk]
      exact Own2.grew q2 q3 (hcp.push hok2 _) hgr
    · rw [List.take_of_length_le (by omega)] at hown
      simp +decide (disch := first | assumption | (apply GH.ok_push; assumption) | exact cellV_int _ _ | exact cellV_bool _ | omega) only [go_sem, ↓reduceIte, Nat.reduceEqDiff, Nat.reduceAdd, Int.reduceToNat, he, h13, hlq]
      exact out _ _ _ ⟨hlo, hk, (by simp +decide (disch := first | assumption | (apply GH.ok_push; assumption) | exact cellV_int _ _ | exact cellV_bool _ | omega) only [go_sem, ↓reduceIte, Nat.reduceEqDiff, Nat.reduceAdd, Int.reduceToNat, he]; first | done | exact rfl), o, (by simp +decide (disch := first | assumption | (apply GH.ok_push; assumption) | exact cellV_int _ _ | exact cellV_bool _ | omega) only [go_sem, ↓reduceIte, Nat.reduceEqDiff, Nat.reduceAdd, Int.reduceToNat, h13]; first | done | exact rfl), hown.read⟩
end Go.Proofs.Ytieliilnnfjijaa
