import Derived.Test.YtnpapnpedcbfnaaDoorJ1
import Derived.Test.YtnpapnpedcbfnaaDoorKm
import Derived.Test.YtnpapnpedcbfnaaDoorDtL
import Derived.StillTailTactics
set_option linter.all false
set_option linter.unusedSimpArgs false
set_option linter.unnecessarySimpa false
set_option linter.unusedVariables false
set_option linter.unusedSectionVars false
set_option maxRecDepth 100000
set_option maxHeartbeats 4000000
set_option linter.unusedSimpArgs false
set_option linter.unusedVariables false
namespace Go.Proofs.YtnpapnpedcbfnaaDoor
open Go.Ds Go.Vs
theorem isPos_rets {X : Caller} (hX : Xfr X) (L : List Int) (hL : shopB L = true) (v l : Int) (s : Value) (g : GH) (hs : SlR g s (ints L)) :
    Rets Tryd.prog X 57 [s, .int .i64 v, .int .i64 l] g (fun u g' lo => g.next ≤ lo ∧ u = .bool (posB L v l)) := by
  have hL10 : L.length ≤ 10 := by
    unfold shopB at hL
    simp only [Bool.and_eq_true, decide_eq_true_eq] at hL
    exact hL.1.2
  generalize hr : posB L v l = r
  unfold posB at hr
  refine Rets.run hX.pres p57 (hX.free 57 (by decide) _ _) rfl fun ho => ?_
  simp +decide (disch := first | assumption | exact cellV_int _ _ | exact cellV_bool _ | omega | (simp only [GH.pn, GH.sn] <;> omega) | (with_reducible ((repeat (first | apply GH.ok_push | apply GH.ok_set)); assumption)) | ((try simp only [GH.push_hid, GH.set_hid]); first | assumption | (refine GH.vis ?_ ?_ <;> first | assumption | ((try simp only [GH.pn, GH.sn]) <;> omega)))) only [go_sem, ↓reduceIte, Nat.reduceEqDiff, Nat.reduceAdd, Int.reduceToNat, Int.reduceAdd, Int.reduceNeg, Int.reduceSub, Int.reduceMul, Int.reduceLT, Int.reduceLE, Int.reduceEq, ↓GH.gp_eq, ↓GH.gp_ne, ↓GH.gs_eq, ↓GH.gs_ne, GH.push_next, GH.set_next]
  refine CallD.calm (isSet_rets hX L hL10 v s g hs) ?_
  rintro u g1 hx1 rfl
  have hn1 := hx1.next
  cases c1 : (decide (0 ≤ v) && decide (v < 2 ^ L.length)) with
  | false =>
    simp +decide (disch := first | assumption | exact cellV_int _ _ | exact cellV_bool _ | omega | (simp only [GH.pn, GH.sn] <;> omega) | (with_reducible ((repeat (first | apply GH.ok_push | apply GH.ok_set)); assumption)) | ((try simp only [GH.push_hid, GH.set_hid]); first | assumption | (refine GH.vis ?_ ?_ <;> first | assumption | ((try simp only [GH.pn, GH.sn]) <;> omega)))) only [go_sem, ↓reduceIte, Nat.reduceEqDiff, Nat.reduceAdd, Int.reduceToNat, Int.reduceAdd, Int.reduceNeg, Int.reduceSub, Int.reduceMul, Int.reduceLT, Int.reduceLE, Int.reduceEq, ↓GH.gp_eq, ↓GH.gp_ne, ↓GH.gs_eq, ↓GH.gs_ne, GH.push_next, GH.set_next]
    intro hx0
    exact ⟨by omega, by rw [← hr, c1]; rfl⟩
  | true =>
  simp +decide (disch := first | assumption | exact cellV_int _ _ | exact cellV_bool _ | omega | (simp only [GH.pn, GH.sn] <;> omega) | (with_reducible ((repeat (first | apply GH.ok_push | apply GH.ok_set)); assumption)) | ((try simp only [GH.push_hid, GH.set_hid]); first | assumption | (refine GH.vis ?_ ?_ <;> first | assumption | ((try simp only [GH.pn, GH.sn]) <;> omega)))) only [go_sem, ↓reduceIte, Nat.reduceEqDiff, Nat.reduceAdd, Int.reduceToNat, Int.reduceAdd, Int.reduceNeg, Int.reduceSub, Int.reduceMul, Int.reduceLT, Int.reduceLE, Int.reduceEq, ↓GH.gp_eq, ↓GH.gp_ne, ↓GH.gs_eq, ↓GH.gs_ne, GH.push_next, GH.set_next]
  refine CallD.calm (isHat_rets hX L (by omega) l s g1 (hs.ext hx1)) ?_
  rintro u g2 hx2 rfl
  have hn2 := hx2.next
  cases c2 : (decide (0 ≤ l) && decide (l < (L.length : Int))) with
  | false =>
    simp +decide (disch := first | assumption | exact cellV_int _ _ | exact cellV_bool _ | omega | (simp only [GH.pn, GH.sn] <;> omega) | (with_reducible ((repeat (first | apply GH.ok_push | apply GH.ok_set)); assumption)) | ((try simp only [GH.push_hid, GH.set_hid]); first | assumption | (refine GH.vis ?_ ?_ <;> first | assumption | ((try simp only [GH.pn, GH.sn]) <;> omega)))) only [go_sem, ↓reduceIte, Nat.reduceEqDiff, Nat.reduceAdd, Int.reduceToNat, Int.reduceAdd, Int.reduceNeg, Int.reduceSub, Int.reduceMul, Int.reduceLT, Int.reduceLE, Int.reduceEq, ↓GH.gp_eq, ↓GH.gp_ne, ↓GH.gs_eq, ↓GH.gs_ne, GH.push_next, GH.set_next]
    intro hx0
    refine ⟨by omega, ?_⟩
    rw [← hr, Bool.and_assoc, Bool.and_assoc, c1, Bool.true_and, ← Bool.and_assoc, c2]; rfl
  | true =>
  obtain ⟨k, hk⟩ : ∃ k : Nat, l = k := by
    simp only [Bool.and_eq_true, decide_eq_true_eq] at c2
    exact ⟨l.toNat, by omega⟩
  subst hk
  simp +decide (disch := first | assumption | exact cellV_int _ _ | exact cellV_bool _ | omega | (simp only [GH.pn, GH.sn] <;> omega) | (with_reducible ((repeat (first | apply GH.ok_push | apply GH.ok_set)); assumption)) | ((try simp only [GH.push_hid, GH.set_hid]); first | assumption | (refine GH.vis ?_ ?_ <;> first | assumption | ((try simp only [GH.pn, GH.sn]) <;> omega)))) only [go_sem, ↓reduceIte, Nat.reduceEqDiff, Nat.reduceAdd, Int.reduceToNat, Int.reduceAdd, Int.reduceNeg, Int.reduceSub, Int.reduceMul, Int.reduceLT, Int.reduceLE, Int.reduceEq, ↓GH.gp_eq, ↓GH.gp_ne, ↓GH.gs_eq, ↓GH.gs_ne, GH.push_next, GH.set_next]
  refine CallD.calm (has_rets hX v k (by simp only [Bool.and_eq_true, decide_eq_true_eq] at c2; omega) g2) ?_
  rintro u g3 hx3 rfl
  have hn3 := hx3.next
  simp +decide (disch := first | assumption | exact cellV_int _ _ | exact cellV_bool _ | omega | (simp only [GH.pn, GH.sn] <;> omega) | (with_reducible ((repeat (first | apply GH.ok_push | apply GH.ok_set)); assumption)) | ((try simp only [GH.push_hid, GH.set_hid]); first | assumption | (refine GH.vis ?_ ?_ <;> first | assumption | ((try simp only [GH.pn, GH.sn]) <;> omega)))) only [go_sem, ↓reduceIte, Nat.reduceEqDiff, Nat.reduceAdd, Int.reduceToNat, Int.reduceAdd, Int.reduceNeg, Int.reduceSub, Int.reduceMul, Int.reduceLT, Int.reduceLE, Int.reduceEq, ↓GH.gp_eq, ↓GH.gp_ne, ↓GH.gs_eq, ↓GH.gs_ne, GH.push_next, GH.set_next]
  intro hx0
  refine ⟨by omega, ?_⟩
  rw [← hr, Bool.and_assoc, Bool.and_assoc, c1, Bool.true_and, ← Bool.and_assoc, c2]
  simp
/-! ## Without an oracle -/
def XN : Caller := fun _ _ _ => none
theorem XN_orac (i : Inhabited Bound) : @Orac i Tryd.prog XN := ⟨fun B f args h v h' hr => (by cases hr), fun f args h v h' hr => (by cases hr)⟩
theorem XN_ok : Xfr XN := ⟨fun i => (XN_orac i).pres, fun f _ l h => rfl⟩
theorem mixedO : Tryd.prog.follows .mixedOrders = true := by kernel_rfl
/-- Rows that came in, with the room that their slices say. -/
def phiR (bs rm : List Nat) : Phi := fun i => match bs[i]? with
  | some b => some ⟨b, rm.getD i 0⟩
  | none => none
theorem phiR_some {bs rm : List Nat} {i : Nat} {e : FE} (h : phiR bs rm i = some e) : bs[i]? = some e.blk := by
  unfold phiR at h
  split at h
  · rename_i b hb; cases h; exact hb
  · cases h
theorem embR {w : World} {rows : List (List Value)} {bs : List Nat} (rm : List Nat) (h : SeenIn w rows bs) (lo : Nat) [Inhabited Bound] (hL : rows.length ≤ LIM) : Emb (phiR bs rm) ((seenG rows).at lo) 0 w where
  dom := fun i e hi => by
    have := (List.getElem?_eq_some_iff.1 (phiR_some hi)).1
    show i < (seenG rows).next
    rw [seen_next, ← h.len]; exact this
  base := fun i e hi => by
    have hb := phiR_some hi
    have hlt := (List.getElem?_eq_some_iff.1 hb).1
    exact ⟨Nat.zero_le _, (h.rel i _ _ (List.getElem?_eq_getElem (by rw [← h.len]; exact hlt)) hb).1⟩
  obj := fun i hi hk => by
    have hi : i < rows.length := by rw [← seen_next rows]; exact hi
    have hr := List.getElem?_eq_getElem hi
    have hb := List.getElem?_eq_getElem (show i < bs.length by rw [h.len]; exact hi)
    obtain ⟨h1, c, t, fr, h2, h3⟩ := h.rel i _ _ hr hb
    refine ⟨⟨bs[i]'(by rw [h.len]; exact hi), rm.getD i 0⟩, by unfold phiR; rw [hb], ?_⟩
    have hg : ((seenG rows).at lo).get i = seenOb rows[i] := seen_get rows hr
    rw [hg]
    exact .inr (.inr (.inr ⟨rfl, ⟨rfl, .inl rfl⟩, c, t, fr, h2, fun k v hv => (h3 k v hv).imp id fun ⟨a, b⟩ => ⟨v, a, VRel.plainC b⟩⟩))
  apart := fun i j ei ej hi hj _ _ hne hb => by
    have h1 := phiR_some hi
    have h2 := phiR_some hj
    rw [← hb] at h2
    exact absurd (h.apart i j _ h1 h2) hne
  fam := fun i hi hk hs => by
    have hi : i < rows.length := by rw [← seen_next rows]; exact hi
    have hg : ((seenG rows).at lo).get i = seenOb rows[i] := seen_get rows (List.getElem?_eq_getElem hi)
    rw [hg] at hs; cases hs
  lim := by show (seenG rows).next ≤ _; rw [seen_next]; exact hL
  size := Nat.zero_le _
theorem Rets.seenRm {P : Program} {X : Caller} (hX : ∀ i, @Orac i P X) (hm : P.follows .mixedOrders = true) {f : FuncId} {args : List Value} {args' : Array Value} {rows : List (List Value)} {bs : List Nat} (rm : List Nat) {w : World} (hs : SeenIn w rows bs)
    (ha : LRel (phiR bs rm) args args'.toList) (hf : ∀ h, X f args h = none) {v : Value} (hv : plainC v = true) (h : Rets P X f args (seenG rows) (fun u _ lo => rows.length ≤ lo ∧ u = v)) :
    Calls P f args' w fun e w' => e = .returned v ∧ RowKit.Below w.heap.size w w' := by
  unfold Rets at h
  obtain ⟨u, g', lo, ⟨i, d, n, hr⟩, hx, hlo, rfl⟩ := h (seen_ok rows)
  let I := bnd (max (@LIM i) rows.length)
  have hL : @LIM i ≤ @LIM I := Nat.le_max_left _ _
  cases d with
  | zero => cases hr
  | succ d =>
    have hr : @evF I P X n (d + 1) f args ((seenG rows).at (seenG rows).next) = some (u, g'.at lo) := evF_mono hL (Nat.le_refl _) (Nat.le_refl _) _ _ _ _ hr
    have M := @embR w rows bs rm hs (seenG rows).next I (Nat.le_max_right _ _)
    rcases @evF_some I P X n d f args _ _ _ hr with hx | ⟨c, rs, ou, e, l, hp, hlen, hev, hne, hres, rfl⟩
    · rw [hf] at hx; cases hx
    · refine (@body_calls I P 0 _ (@evF_sound I P X (hX I) hm n 0 d) (@evF_pres I P X (hX I).pres n d) hm n f args _ _ _ w args' M ha c rs ou e l hp hlen hev hne hres).2 _ fun φ' v' w' r1 r2 r3 => ⟨by rw [plainC_inv r1 hv], ?_⟩
      refine ⟨r3.below.os, r3.below.tape, r3.below.output, r3.below.size, fun k hk => r3.frame k hk fun i e hi hb => ?_⟩
      have := (List.getElem?_eq_some_iff.1 (phiR_some hi)).1
      rw [hs.len] at this
      exact Nat.lt_of_lt_of_le this hlo
/-! ## A shop in the world -/
/-- A row of numbers, as it lies in the world. -/
def InW (w : World) (v : Value) (zs : List Int) : Prop := zs ≠ [] ∧ ∃ b off c, v = .slice (some ⟨b, off, none⟩) zs.length c ∧ zs.length ≤ c ∧ ∀ i, i < zs.length → w.cell? ⟨b, off + i, none⟩ = some (.int .i64 (zs.getD i 0))
theorem InW.below {w w' : World} {v : Value} {zs : List Int} (h : InW w v zs) (hb : RowKit.Below w.heap.size w w') : InW w' v zs := by
  obtain ⟨h0, b, off, c, h1, h2, h3⟩ := h
  refine ⟨h0, b, off, c, h1, h2, fun i hi => ?_⟩
  have h4 := h3 i hi
  have hlt : b < w.heap.size := World.block_lt_of_cell? w ⟨b, off + i, none⟩ h4
  rw [World.cell?_of_block (hb.block b hlt)]
  exact h4
theorem InW.row {w : World} {v : Value} {zs : List Int} (h : InW w v zs) : ∃ (b off c : Nat), v = .slice (some ⟨b, off, none⟩) zs.length c ∧ SeenIn w [List.replicate off junkV ++ ints zs] [b] ∧
    VRel (phiR [b] [off + c]) (.slice (some ⟨0, off, none⟩) zs.length (OPEN + 1)) v ∧ SlR (seenG [List.replicate off junkV ++ ints zs]) (.slice (some ⟨0, off, none⟩) zs.length (OPEN + 1)) (ints zs) := by
  obtain ⟨h0, b, off, c, h1, h2, h3⟩ := h
  have hp : 0 < zs.length := List.length_pos_iff.2 h0
  obtain ⟨_, cs, t, fr, hb, _⟩ := cell_has (h3 0 hp)
  have hb : w.heap[b]? = some (.cells cs t fr) := hb
  have hcs : ∀ i, i < zs.length → cs[off + i]? = some (.int .i64 (zs.getD i 0)) := fun i hi => by
    have := h3 i hi
    unfold World.cell? at this
    rw [hb] at this
    simpa using this
  refine ⟨b, off, c, h1, ⟨rfl, fun i j b' hi hj => ?_, fun i r b' hr hbi => ?_⟩, ?_, ?_⟩
  · have h5 := (List.getElem?_eq_some_iff.1 hi).1
    have h6 := (List.getElem?_eq_some_iff.1 hj).1
    simp at h5 h6
    omega
  · have h5 := (List.getElem?_eq_some_iff.1 hr).1
    simp at h5
    subst h5
    simp at hr hbi
    subst hr; subst hbi
    refine ⟨(Array.getElem?_eq_some_iff.1 hb).1, cs, t, fr, hb, fun k v hk => ?_⟩
    by_cases ck : k < off
    · rw [List.getElem?_append_left (by simpa using ck), List.getElem?_replicate, if_pos ck] at hk
      cases hk
      exact .inl rfl
    · rw [List.getElem?_append_right (by simp; omega), List.length_replicate] at hk
      have hlt := (List.getElem?_eq_some_iff.1 hk).1
      rw [ints_len] at hlt
      rw [ints_get hlt] at hk
      cases hk
      have := hcs (k - off) hlt
      rw [show off + (k - off) = k by omega] at this
      exact .inr ⟨this, rfl⟩
  · rw [h1]
    exact .sopen 0 ⟨b, off + c⟩ off off zs.length c 1 rfl h2 (.inr ⟨rfl, by show off + c * 1 = off + c; omega⟩)
  · refine .inr ⟨0, off, OPEN + 1, seenOb (List.replicate off junkV ++ ints zs), by rw [ints_len], by rw [seen_next]; simp, seen_get _ rfl, .inr ⟨rfl, ?_⟩, by show off + (ints zs).length ≤ _; simp [seenOb], ?_⟩
    · rw [List.any_eq_false]
      intro x hx
      simp only [ints, List.mem_map] at hx
      obtain ⟨z, _, rfl⟩ := hx
      simp [isJ]
    · show ((List.replicate off junkV ++ ints zs).drop off).take (ints zs).length = ints zs
      rw [List.drop_append_of_le_length (by simp), List.drop_of_length_le (by simp), List.nil_append, List.take_length]
theorem isShop_in (w : World) (v : Value) (zs : List Int) (h : InW w v zs) (hz : zs.length ≤ 40) : Calls Tryd.prog 17 #[v] w fun e w' => e = .returned (.bool (shopB zs)) ∧ RowKit.Below w.heap.size w w' := by
  have inst : Inhabited Bound := ⟨⟨0⟩⟩
  obtain ⟨b, off, c, h1, h2, h3, h4⟩ := h.row
  exact Rets.seenRm XN_orac mixedO [off + c] h2 (LRel.cons h3 LRel.nil) (fun _ => rfl) rfl ((IsShop_rets XN_ok zs hz _ _ h4).mono fun v g' lo _ ⟨q1, q2⟩ => ⟨by rw [seen_next] at q1; exact q1, q2⟩)
theorem isPos_in (w : World) (s : Value) (zs : List Int) (h : InW w s zs) (hz : shopB zs = true) (v l : Int) : Calls Tryd.prog 57 #[s, .int .i64 v, .int .i64 l] w fun e w' => e = .returned (.bool (posB zs v l)) ∧ RowKit.Below w.heap.size w w' := by
  have inst : Inhabited Bound := ⟨⟨0⟩⟩
  obtain ⟨b, off, c, h1, h2, h3, h4⟩ := h.row
  exact Rets.seenRm XN_orac mixedO [off + c] h2 (LRel.cons h3 (LRel.cons (VRel.plainC rfl) (LRel.cons (VRel.plainC rfl) LRel.nil))) (fun _ => rfl) rfl ((isPos_rets XN_ok zs hz v l _ _ h4).mono fun v g' lo _ ⟨q1, q2⟩ => ⟨by rw [seen_next] at q1; exact q1, q2⟩)
end Go.Proofs.YtnpapnpedcbfnaaDoor
set_option maxRecDepth 100000
set_option maxHeartbeats 4000000
set_option linter.unusedSimpArgs false
set_option linter.unusedVariables false
namespace Go.Proofs.YtnpapnpedcbfnaaDoor
open Go.RowKit Go.Maps Go.Vs
attribute [local go_sem] Oper.semAt_some
theorem InW.shop {w : World} {s : Value} {zs : List Int} (h : InW w s zs) (hz : shopB zs = true) : ∃ b off c, s = .slice (some ⟨b, off, none⟩) zs.length c ∧ ShopW w b off zs.length (setF zs) := by
  obtain ⟨h0, b, off, c, h1, h2, h3⟩ := h
  exact ⟨b, off, c, h1, fun i hi => by rw [h3 i hi, ((shop_ok hz).2.2 i hi).1]⟩
theorem ShopW.below {w w' : World} {b off n : Nat} {A : Nat → Nat} (h : ShopW w b off n A) (hb : Below w.heap.size w w') : ShopW w' b off n A := fun i hi => by
  have h4 := h i hi
  have hlt : b < w.heap.size := World.block_lt_of_cell? w ⟨b, off + i, none⟩ h4
  rw [World.cell?_of_block (hb.block b hlt)]
  exact h4
theorem posB_nat {zs : List Int} {v l : Int} (h : posB zs v l = true) : ∃ vn ln : Nat, v = vn ∧ l = ln ∧ vn < 2 ^ zs.length ∧ ln < zs.length := by
  unfold posB at h
  simp only [Bool.and_eq_true, decide_eq_true_eq] at h
  obtain ⟨⟨⟨⟨h1, h2⟩, h3⟩, h4⟩, h5⟩ := h
  have e2 : ((2 ^ zs.length : Nat) : Int) = 2 ^ zs.length := by simp
  rw [← e2] at h2
  exact ⟨v.toNat, l.toNat, by omega, by omega, by omega, by omega⟩
theorem cost_ok : 11 ^ 12 < 4611686018427387904 := by decide
theorem bcat {w a b : World} (h : Below w.heap.size w a) (k : Below a.heap.size a b) : Below w.heap.size w b := h.trans ⟨k.os, k.tape, k.output, k.size, fun i hi => k.block i (Nat.lt_of_lt_of_le hi h.size)⟩
theorem grown_below {w a b : World} {B : Nat} (h : Below w.heap.size w a) (hB : w.heap.size ≤ B) (g : a.grownBy b (some B)) : Below w.heap.size w b := h.trans ⟨g.os, g.tape, g.output, g.size, fun i hi => g.block i (Nat.lt_of_lt_of_le hi h.size) (by simp; omega)⟩
theorem wins_in (w : World) (s : Value) (zs : List Int) (h : InW w s zs) (hl : zs.length ≤ 40) (v l : Int) : Calls Tryd.prog 29 #[s, .int .i64 v, .int .i64 l] w fun e w' => e = .returned (winsV zs v l) ∧ Below w.heap.size w w' := by
  have h17 := isShop_in w s zs h hl
  go_enter Tryd.func29, Tryd.ntmps29
  unfold winsV
  cases hz : shopB zs with
  | false =>
    rw [hz] at h17
    go_wp2_with (go_at_call 17; refine h17.mono ?_; rintro e w1 ⟨rfl, b1⟩)
    refine bodyPost_ret (results_tmp2 rfl _ _ _) rfl ?_
    exact ⟨rfl, b1⟩
  | true =>
    rw [hz] at h17
    have h57 := fun w h => isPos_in w s zs h hz v l
    cases hp : posB zs v l with
    | false =>
      rw [hp] at h57
      go_wp2_with (first | (go_at_call 17; refine h17.mono ?_; rintro e w1 ⟨rfl, b1⟩) | (go_at_call 57; refine (h57 _ (h.below b1)).mono ?_; rintro e w2 ⟨rfl, b2⟩))
      refine bodyPost_ret (results_tmp2 rfl _ _ _) rfl ?_
      exact ⟨rfl, bcat b1 b2⟩
    | true =>
      rw [hp] at h57
      obtain ⟨vn, ln, rfl, rfl, hv2, hl2⟩ := posB_nat hp
      obtain ⟨b, off, c, rfl, hS⟩ := h.shop hz
      obtain ⟨hL1, hL10, hA⟩ := shop_ok hz
      have hw := wins_all hL10 (fun i hi => (hA i hi).2.1) 11
      have h54 := newGame_in b off zs.length c
      have hun := un_le zs.length vn
      simp only [Bool.and_self, if_true, Int.toNat_natCast]
      go_wp2_with (first | (go_at_call 17; refine h17.mono ?_; rintro e w1 ⟨rfl, b1⟩) | (go_at_call 57; refine (h57 _ (h.below b1)).mono ?_; rintro e w2 ⟨rfl, b2⟩) | (go_at_call 54; refine (h54 _).mono ?_; rintro e w3 ⟨⟨B, rfl, hown, hB1, hB2⟩, b3⟩; have hS2 := (hS.below b1).below b2; have hbl := World.block_lt_of_cell? _ _ (hS2 0 (by omega)); dsimp only at hbl) | (go_at_call 55; refine (hw w3 b off c B vn ln 0 (by omega) hv2 hl2 (hS2.below b3) (by omega) ⟨_, hown, Memo.start _ _⟩ (by decide)).mono ?_; rintro e w4 ⟨rfl, _, hg4⟩))
      refine bodyPost_ret (results_tmp2 rfl _ _ _) rfl ?_
      refine ⟨rfl, ?_⟩
      have b12 := bcat b1 b2
      exact grown_below (bcat b12 b3) (Nat.le_trans b12.size hB1) hg4
theorem move_in (w : World) (s : Value) (zs : List Int) (h : InW w s zs) (hl : zs.length ≤ 40) (v l : Int) : Calls Tryd.prog 31 #[s, .int .i64 v, .int .i64 l] w fun e w' => e = .returned (mvV zs v l) ∧ Below w.heap.size w w' := by
  have h17 := isShop_in w s zs h hl
  go_enter Tryd.func31, Tryd.ntmps31
  unfold mvV
  cases hz : shopB zs with
  | false =>
    rw [hz] at h17
    go_wp2_with (go_at_call 17; refine h17.mono ?_; rintro e w1 ⟨rfl, b1⟩)
    refine bodyPost_ret (results_tmp2 rfl _ _ _) rfl ?_
    exact ⟨rfl, b1⟩
  | true =>
    rw [hz] at h17
    have h57 := fun w h => isPos_in w s zs h hz v l
    cases hp : posB zs v l with
    | false =>
      rw [hp] at h57
      go_wp2_with (first | (go_at_call 17; refine h17.mono ?_; rintro e w1 ⟨rfl, b1⟩) | (go_at_call 57; refine (h57 _ (h.below b1)).mono ?_; rintro e w2 ⟨rfl, b2⟩))
      refine bodyPost_ret (results_tmp2 rfl _ _ _) rfl ?_
      exact ⟨rfl, bcat b1 b2⟩
    | true =>
      rw [hp] at h57
      obtain ⟨vn, ln, rfl, rfl, hv2, hl2⟩ := posB_nat hp
      obtain ⟨b, off, c, rfl, hS⟩ := h.shop hz
      obtain ⟨hL1, hL10, hA⟩ := shop_ok hz
      have hw := move_all hL10 (fun i hi => (hA i hi).2.1) 10
      have h54 := newGame_in b off zs.length c
      have hun := un_le zs.length vn
      simp only [Bool.and_self, if_true, Int.toNat_natCast]
      have hmv : ∃ (mv : Option Nat), Go.Vs.move (setF zs) zs.length vn ln = mv := ⟨_, rfl⟩
      obtain ⟨mv, hmv⟩ := hmv
      have hw2 : ∀ (w : World) (B : Nat), ShopW w b off zs.length (setF zs) → b ≠ B → InvM (setF zs) zs.length w B 0 → Calls Tryd.prog 59 #[gmV b off zs.length c B, posV vn ln] w fun e w' => e = .returned (.tuple #[.int .i64 ((mv.getD 0 : Nat) : Int), .bool mv.isSome]) ∧ w.grownBy w' (some B) := fun w B q1 q2 q3 => (hw w b off c B vn ln 0 (by omega) hv2 hl2 q1 q2 q3 (by decide)).mono fun e w' ⟨e1, _, e2⟩ => ⟨by rw [e1, moveV, hmv], e2⟩
      rw [hmv]
      cases mv with
      | none =>
        go_wp2_with (first | (go_at_call 17; refine h17.mono ?_; rintro e w1 ⟨rfl, b1⟩) | (go_at_call 57; refine (h57 _ (h.below b1)).mono ?_; rintro e w2 ⟨rfl, b2⟩) | (go_at_call 54; refine (h54 _).mono ?_; rintro e w3 ⟨⟨B, rfl, hown, hB1, hB2⟩, b3⟩; have hS2 := (hS.below b1).below b2; have hbl := World.block_lt_of_cell? _ _ (hS2 0 (by omega)); dsimp only at hbl) | (go_at_call 59; refine (hw2 w3 B (hS2.below b3) (by omega) ⟨_, hown, Memo.start _ _⟩).mono ?_; rintro e w4 ⟨rfl, hg4⟩))
        refine bodyPost_ret (results_tmp2 rfl _ _ _) rfl ?_
        refine ⟨rfl, ?_⟩
        have b12 := bcat b1 b2
        exact grown_below (bcat b12 b3) (Nat.le_trans b12.size hB1) hg4
      | some k =>
        go_wp2_with (first | (go_at_call 17; refine h17.mono ?_; rintro e w1 ⟨rfl, b1⟩) | (go_at_call 57; refine (h57 _ (h.below b1)).mono ?_; rintro e w2 ⟨rfl, b2⟩) | (go_at_call 54; refine (h54 _).mono ?_; rintro e w3 ⟨⟨B, rfl, hown, hB1, hB2⟩, b3⟩; have hS2 := (hS.below b1).below b2; have hbl := World.block_lt_of_cell? _ _ (hS2 0 (by omega)); dsimp only at hbl) | (go_at_call 59; refine (hw2 w3 B (hS2.below b3) (by omega) ⟨_, hown, Memo.start _ _⟩).mono ?_; rintro e w4 ⟨rfl, hg4⟩))
        refine bodyPost_ret (results_tmp2 rfl _ _ _) rfl ?_
        refine ⟨rfl, ?_⟩
        have b12 := bcat b1 b2
        exact grown_below (bcat b12 b3) (Nat.le_trans b12.size hB1) hg4
end Go.Proofs.YtnpapnpedcbfnaaDoor
set_option maxRecDepth 100000
set_option maxHeartbeats 4000000
set_option linter.unusedSimpArgs false
set_option linter.unusedVariables false
namespace Go.Proofs.YtnpapnpedcbfnaaDoor
open Go.RowKit Go.Maps Go.Vs
attribute [local go_sem] Oper.semAt_some
theorem beg_lt (A : Nat → Nat) (n : Nat) : ∀ i, begF A n i < 2 ^ i
  | 0 => by unfold begF; decide
  | i + 1 => by
    have h := beg_lt A n i
    unfold begF
    have h2 : 2 ^ i < 2 ^ (i + 1) := Nat.pow_lt_pow_right (by decide) (by omega)
    split
    · omega
    · exact Nat.or_lt_two_pow (by omega) h2
theorem starts_in (w : World) (s : Value) (zs : List Int) (h : InW w s zs) (hl : zs.length ≤ 40) : Calls Tryd.prog 27 #[s] w fun e w' => e = .returned (stV zs) ∧ Below w.heap.size w w' := by
  have h17 := isShop_in w s zs h hl
  go_enter Tryd.func27, Tryd.ntmps27
  unfold stV
  cases hz : shopB zs with
  | false =>
    rw [hz] at h17
    go_wp2_with (go_at_call 17; refine h17.mono ?_; rintro e w1 ⟨rfl, b1⟩)
    refine bodyPost_ret (results_tmp2 rfl _ _ _) rfl ?_
    exact ⟨rfl, b1⟩
  | true =>
    rw [hz] at h17
    obtain ⟨b, off, c, rfl, hS⟩ := h.shop hz
    obtain ⟨hL1, hL10, hA⟩ := shop_ok hz
    have hw := wins_all hL10 (fun i hi => (hA i hi).2.1) 11
    unfold WinsAt at hw
    have hcost2 : 10 * 11 ^ 11 + 11 ^ 11 < 4611686018427387904 := by decide
    generalize 11 ^ 11 = K at hw hcost2
    have h54 := newGame_in b off zs.length c
    simp only [if_true]
    go_wp2_with (first | (go_at_call 17; refine h17.mono ?_; rintro e w1 ⟨rfl, b1⟩) | (go_at_call 54; refine (h54 _).mono ?_; rintro e w3 ⟨⟨B, rfl, hown, hB1, hB2⟩, b3⟩))
    have hS1 := hS.below b1
    have hbl := World.block_lt_of_cell? _ _ (hS1 0 (by omega))
    dsimp only at hbl
    have hS3 : ShopW (w3.alloc (Obj.cells #[Value.slice (some ⟨b, off, none⟩) zs.length c, Value.map (some B)] 66)) b off zs.length (setF zs) := (hS1.below b3).alloc _
    have hown0 : (w3.alloc (Obj.cells #[Value.slice (some ⟨b, off, none⟩) zs.length c, Value.map (some B)] 66)).ownsMap Tryd.prog 70 (plainElem (H := Unit) Tryd.prog 4) B 0 (.map []) := hown.alloc _
    have hb0 : Below w.heap.size w (w3.alloc (Obj.cells #[Value.slice (some ⟨b, off, none⟩) zs.length c, Value.map (some B)] 66)) := by
      have := bcat b1 b3
      exact this.alloc this.size _
    have hcb := heap_new w3 (Obj.cells #[Value.slice (some ⟨b, off, none⟩) zs.length c, Value.map (some B)] 66)
    have c0 : (w3.alloc (Obj.cells #[Value.slice (some ⟨b, off, none⟩) zs.length c, Value.map (some B)] 66)).cell? ⟨w3.heap.size, 0, none⟩ = some (Value.slice (some ⟨b, off, none⟩) zs.length c) := by rw [cell_heap hcb]; rfl
    have c1 : (w3.alloc (Obj.cells #[Value.slice (some ⟨b, off, none⟩) zs.length c, Value.map (some B)] 66)).cell? ⟨w3.heap.size, 1, none⟩ = some (Value.map (some B)) := by rw [cell_heap hcb]; rfl
    generalize (w3.alloc (Obj.cells #[Value.slice (some ⟨b, off, none⟩) zs.length c, Value.map (some B)] 66)) = W0 at *
    generalize hQ : w3.heap.size = q at *
    generalize hA2 : setF zs = A at *
    generalize hN : zs.length = n at *
    have h2n := two_le hL10
    clear hcb
    go_loopw [5, 14] (fun st i wr => ∃ j : Nat, j ≤ n ∧ i = .int .i64 j ∧ st = .int .i64 (begF A n j : Nat) ∧ InvM A n wr B (j * K) ∧ W0.grownBy wr (some B)) (fun _ i _ => n - (intOf i).toNat)
    case atStart => exact ⟨0, by omega, rfl, rfl, ⟨_, by simpa using hown0, Memo.start _ _⟩, World.grownBy.refl _ _⟩
    case round =>
      obtain ⟨j, hj, rfl, rfl, ⟨Dj, hownj, hmemoj⟩, hgj⟩ := hrel
      have d0 := hgj.cell c0 (by simp; omega)
      have d1 := hgj.cell c1 (by simp; omega)
      have hSj := hS3.grown hgj (show b ≠ B by omega)
      by_cases cj : j < n
      · have cj' : (j : Int) < n := by omega
        have hwith := with_in 0 j (by omega) (by omega)
        rw [Nat.zero_or] at hwith
        have hbg := beg_lt A n j
        have hbg2 : 2 ^ j ≤ 1024 := two_le (by omega)
        have hwith2 := with_in (begF A n j) j (by omega) (by omega)
        have e0 : wr.drew.cell? ⟨q, 0, none⟩ = some (.slice (some ⟨b, off, none⟩) n c) := d0
        have e1 : wr.drew.cell? ⟨q, 1, none⟩ = some (.map (some B)) := d1
        have hS2 : ShopW wr.drew b off n A := hSj
        have hown2 : wr.drew.ownsMap Tryd.prog 70 (plainElem Tryd.prog 4) B (j * K) Dj := hownj
        have hg2 : W0.grownBy wr.drew (some B) := ⟨hgj.os, hgj.tape, hgj.output, hgj.size, hgj.block⟩
        have hcost : j * K ≤ 10 * K := Nat.mul_le_mul_right _ (by omega)
        have h2j : 2 ^ j < 2 ^ n := Nat.pow_lt_pow_right (by decide) cj
        have hun := un_le n (2 ^ j)
        have hwc := hw wr.drew b off c B (2 ^ j) j (j * K) (by omega) h2j cj hS2 (by omega) ⟨Dj, hown2, hmemoj⟩ (by omega)
        go_wp2
        refine wp_region_still_tail 5 Tryd.mixed (by kernel_rfl) ?_
        change wpStill _ _ wr.drew (fun a' => wpList _ _ _ _ a' wr.drew) _ _
        generalize wr.drew = W2 at *
        clear d0 d1 hSj hownj hgj
        simp only [List.take_succ_cons, List.take_zero, List.drop_succ_cons, List.drop_zero]
        refine wpStill_run ?_
        apply Exists.intro
        refine ⟨?_, ?_⟩
        · iterate 2 still_step
          still_call (hwith W2)
          iterate 2 still_step
          exact wpStill_nil rfl
        show wpList _ _ _ _ _ W2
        have hnx : begF A n (j + 1) = if won A n (2 ^ j) j = true then begF A n j else begF A n j ||| 2 ^ j := rfl
        cases cw : won A n (2 ^ j) j with
        | true =>
          rw [cw] at hwc hnx
          go_wp2_with (go_at_call 55; refine hwc.mono ?_; rintro e w4 ⟨rfl, hI3, hg3⟩)
          exact ⟨⟨j + 1, by omega, rfl, by rw [hnx]; simp, hI3.mono (by rw [Nat.succ_mul]; omega), hg2.trans hg3⟩, by simp [intOf]; omega⟩
        | false =>
          rw [cw] at hwc hnx
          go_wp2_with (first | (go_at_call 55; refine hwc.mono ?_; rintro e w4 ⟨rfl, hI3, hg3⟩) | (go_at_call 53; refine (hwith2 _).mono ?_; rintro e w5 ⟨rfl, rfl⟩))
          exact ⟨⟨j + 1, by omega, rfl, by rw [hnx]; simp, hI3.mono (by rw [Nat.succ_mul]; omega), hg2.trans hg3⟩, by simp [intOf]; omega⟩
      · have cj' : ¬ (j : Int) < n := by omega
        go_wp2
        have hnn : j = n := by omega
        subst hnn
        refine bodyPost_ret (results_tmp2 rfl _ _ _) rfl ?_
        exact ⟨rfl, grown_below hb0 (Nat.le_trans b1.size hB1) hgj⟩
end Go.Proofs.YtnpapnpedcbfnaaDoor
