import Derived.Test.YtnpapnpedcbfnaaDoorJ1
import Derived.Test.YtnpapnpedcbfnaaDoorKm
import Derived.Test.YtnpapnpedcbfnaaDoorDtL
import Derived.StillTailTactics
set_option linter.all false
set_option linter.unusedSimpArgs false
set_option linter.unnecessarySimpa false
set_option linter.unusedVariables false
set_option linter.unusedSectionVars false
set_option maxRecDepth 100000
set_option maxHeartbeats 4000000
set_option linter.unusedSimpArgs false
set_option linter.unusedVariables false
namespace Go.Proofs.YtnpapnpedcbfnaaDoor
open Go.Ds Go.Vs
theorem isPos_rets {X : Caller} (hX : Xfr X) (L : List Int) (hL : shopB L = true) (v l : Int) (s : Value) (g : GH) (hs : SlR g s (ints L)) :
    Rets Tryd.prog X 57 [s, .int .i64 v, .int .i64 l] g (fun u g' lo => g.next ≤ lo ∧ u = .bool (posB L v l)) := by
  have hL10 : L.length ≤ 10 := by
    unfold shopB at hL
    simp only [Bool.and_eq_true, decide_eq_true_eq] at hL
    exact hL.1.2
  generalize hr : posB L v l = r
  unfold posB at hr
  refine Rets.run hX.pres p57 (hX.free 57 (by decide) _ _) rfl fun ho => ?_
  simp +decide (disch := first | assumption | exact cellV_int _ _ | exact cellV_bool _ | omega | (simp only [GH.pn, GH.sn] <;> omega) | (with_reducible ((repeat (first | apply GH.ok_push | apply GH.ok_set)); assumption)) | ((try simp only [GH.push_hid, GH.set_hid]); first | assumption | (refine GH.vis ?_ ?_ <;> first | assumption | ((try simp only [GH.pn, GH.sn]) <;> omega)))) only [go_sem, ↓reduceIte, Nat.reduceEqDiff, Nat.reduceAdd, Int.reduceToNat, Int.reduceAdd, Int.reduceNeg, Int.reduceSub, Int.reduceMul, Int.reduceLT, Int.reduceLE, Int.reduceEq, ↓GH.gp_eq, ↓GH.gp_ne, ↓GH.gs_eq, ↓GH.gs_ne, GH.push_next, GH.set_next]
  refine CallD.calm (isSet_rets hX L hL10 v s g hs) ?_
  rintro u g1 hx1 rfl
  have hn1 := hx1.next
  cases c1 : (decide (0 ≤ v) && decide (v < 2 ^ L.length)) with
  | false =>
    simp +decide (disch := first | assumption | exact cellV_int _ _ | exact cellV_bool _ | omega | (simp only [GH.pn, GH.sn] <;> omega) | (with_reducible ((repeat (first | apply GH.ok_push | apply GH.ok_set)); assumption)) | ((try simp only [GH.push_hid, GH.set_hid]); first | assumption | (refine GH.vis ?_ ?_ <;> first | assumption | ((try simp only [GH.pn, GH.sn]) <;> omega)))) only [go_sem, ↓reduceIte, Nat.reduceEqDiff, Nat.reduceAdd, Int.reduceToNat, Int.reduceAdd, Int.reduceNeg, Int.reduceSub, Int.reduceMul, Int.reduceLT, Int.reduceLE, Int.reduceEq, ↓GH.gp_eq, ↓GH.gp_ne, ↓GH.gs_eq, ↓GH.gs_ne, GH.push_next, GH.set_next]
    intro hx0
    exact ⟨by omega, by rw [← hr, c1]; rfl⟩
  | true =>
  simp +decide (disch := first | assumption | exact cellV_int _ _ | exact cellV_bool _ | omega | (simp only [GH.pn, GH.sn] <;> omega) | (with_reducible ((repeat (first | apply GH.ok_push | apply GH.ok_set)); assumption)) | ((try simp only [GH.push_hid, GH.set_hid]); first | assumption | (refine GH.vis ?_ ?_ <;> first | assumption | ((try simp only [GH.pn, GH.sn]) <;> omega)))) only [go_sem, ↓reduceIte, Nat.reduceEqDiff, Nat.reduceAdd, Int.reduceToNat, Int.reduceAdd, Int.reduceNeg, Int.reduceSub, Int.reduceMul, Int.reduceLT, Int.reduceLE, Int.reduceEq, ↓GH.gp_eq, ↓GH.gp_ne, ↓GH.gs_eq, ↓GH.gs_ne, GH.push_next, GH.set_next]
  refine CallD.calm (isHat_rets hX L (by omega) l s g1 (hs.ext hx1)) ?_
  rintro u g2 hx2 rfl
  have hn2 := hx2.next
  cases c2 : (decide (0 ≤ l) && decide (l < (L.length : Int))) with
  | false =>
    simp +decide (disch := first | assumption | exact cellV_int _ _ | exact cellV_bool _ | omega | (simp only [GH.pn, GH.sn] <;> omega) | (with_reducible ((repeat (first | apply GH.ok_push | apply GH.ok_set)); assumption)) | ((try simp only [GH.push_hid, GH.set_hid]); first | assumption | (refine GH.vis ?_ ?_ <;> first | assumption | ((try simp only [GH.pn, GH.sn]) <;> omega)))) only [go_sem, ↓reduceIte, Nat.reduceEqDiff, Nat.reduceAdd, Int.reduceToNat, Int.reduceAdd, Int.reduceNeg, Int.reduceSub, Int.reduceMul, Int.reduceLT, Int.reduceLE, Int.reduceEq, ↓GH.gp_eq, ↓GH.gp_ne, ↓GH.gs_eq, ↓GH.gs_ne, GH.push_next, GH.set_next]
    intro hx0
    refine ⟨by omega, ?_⟩
    rw [← hr, Bool.and_assoc, Bool.and_assoc, c1, Bool.true_and, ← Bool.and_assoc, c2]; rfl
  | true =>
  obtain ⟨k, hk⟩ : ∃ k : Nat, l = k := by
    simp only [Bool.and_eq_true, decide_eq_true_eq] at c2
    exact ⟨l.toNat, by omega⟩
  subst hk
  simp +decide (disch := first | assumption | exact cellV_int _ _ | exact cellV_bool _ | omega | (simp only [GH.pn, GH.sn] <;> omega) | (with_reducible ((repeat (first | apply GH.ok_push | apply GH.ok_set)); assumption)) | ((try simp only [GH.push_hid, GH.set_hid]); first | assumption | (refine GH.vis ?_ ?_ <;> first | assumption | ((try simp only [GH.pn, GH.sn]) <;> omega)))) only [go_sem, ↓reduceIte, Nat.reduceEqDiff, Nat.reduceAdd, Int.reduceToNat, Int.reduceAdd, Int.reduceNeg, Int.reduceSub, Int.reduceMul, Int.reduceLT, Int.reduceLE, Int.reduceEq, ↓GH.gp_eq, ↓GH.gp_ne, ↓GH.gs_eq, ↓GH.gs_ne, GH.push_next, GH.set_next]
  refine CallD.calm (has_rets hX v k (by simp only [Bool.and_eq_true, decide_eq_true_eq] at c2; omega) g2) ?_
  rintro u g3 hx3 rfl
  have hn3 := hx3.next
  simp +decide (disch := first | assumption | exact cellV_int _ _ | exact cellV_bool _ | omega | (simp only [GH.pn, GH.sn] <;> omega) | (with_reducible ((repeat (first | apply GH.ok_push | apply GH.ok_set)); assumption)) | ((try simp only [GH.push_hid, GH.set_hid]); first | assumption | (refine GH.vis ?_ ?_ <;> first | assumption | ((try simp only [GH.pn, GH.sn]) <;> omega)))) only [go_sem, ↓reduceIte, Nat.reduceEqDiff, Nat.reduceAdd, Int.reduceToNat, Int.reduceAdd, Int.reduceNeg, Int.reduceSub, Int.reduceMul, Int.reduceLT, Int.reduceLE, Int.reduceEq, ↓GH.gp_eq, ↓GH.gp_ne, ↓GH.gs_eq, ↓GH.gs_ne, GH.push_next, GH.set_next]
  intro hx0
  refine ⟨by omega, ?_⟩
  rw [← hr, Bool.and_assoc, Bool.and_assoc, c1, Bool.true_and, ← Bool.and_assoc, c2]
  simp
/-! ## Without an oracle -/
def XN : Caller := fun _ _ _ => none
theorem XN_orac (i : Inhabited Bound) : @Orac i Tryd.prog XN := ⟨fun B f args h v h' hr => (by cases hr), fun f args h v h' hr => (by cases hr)⟩
theorem XN_ok : Xfr XN := ⟨fun i => (XN_orac i).pres, fun f _ l h => rfl⟩
theorem mixedO : Tryd.prog.follows .mixedOrders = true := by kernel_rfl
/-- Rows that came in, with the room that their slices say. -/
def phiR (bs rm : List Nat) : Phi := fun i => match bs[i]? with
  | some b => some ⟨b, rm.getD i 0⟩
  | none => none
theorem phiR_some {bs rm : List Nat} {i : Nat} {e : FE} (h : phiR bs rm i = some e) : bs[i]? = some e.blk := by
  unfold phiR at h
  split at h
  · rename_i b hb; cases h; exact hb
  · cases h
theorem embR {w : World} {rows : List (List Value)} {bs : List Nat} (rm : List Nat) (h : SeenIn w rows bs) (lo : Nat) [Inhabited Bound] (hL : rows.length ≤ LIM) : Emb (phiR bs rm) ((seenG rows).at lo) 0 w where
  dom := fun i e hi => by
    have := (List.getElem?_eq_some_iff.1 (phiR_some hi)).1
    show i < (seenG rows).next
    rw [seen_next, ← h.len]; exact this
  base := fun i e hi => by
    have hb := phiR_some hi
    have hlt := (List.getElem?_eq_some_iff.1 hb).1
    exact ⟨Nat.zero_le _, (h.rel i _ _ (List.getElem?_eq_getElem (by rw [← h.len]; exact hlt)) hb).1⟩
  obj := fun i hi hk => by
    have hi : i < rows.length := by rw [← seen_next rows]; exact hi
    have hr := List.getElem?_eq_getElem hi
    have hb := List.getElem?_eq_getElem (show i < bs.length by rw [h.len]; exact hi)
    obtain ⟨h1, c, t, fr, h2, h3⟩ := h.rel i _ _ hr hb
    refine ⟨⟨bs[i]'(by rw [h.len]; exact hi), rm.getD i 0⟩, by unfold phiR; rw [hb], ?_⟩
    have hg : ((seenG rows).at lo).get i = seenOb rows[i] := seen_get rows hr
    rw [hg]
    exact .inr (.inr (.inr ⟨rfl, ⟨rfl, .inl rfl⟩, c, t, fr, h2, fun k v hv => (h3 k v hv).imp id fun ⟨a, b⟩ => ⟨v, a, VRel.plainC b⟩⟩))
  apart := fun i j ei ej hi hj _ _ hne hb => by
    have h1 := phiR_some hi
    have h2 := phiR_some hj
    rw [← hb] at h2
    exact absurd (h.apart i j _ h1 h2) hne
  fam := fun i hi hk hs => by
    have hi : i < rows.length := by rw [← seen_next rows]; exact hi
    have hg : ((seenG rows).at lo).get i = seenOb rows[i] := seen_get rows (List.getElem?_eq_getElem hi)
    rw [hg] at hs; cases hs
  lim := by show (seenG rows).next ≤ _; rw [seen_next]; exact hL
  size := Nat.zero_le _
theorem Rets.seenRm {P : Program} {X : Caller} (hX : ∀ i, @Orac i P X) (hm : P.follows .mixedOrders = true) {f : FuncId} {args : List Value} {args' : Array Value} {rows : List (List Value)} {bs : List Nat} (rm : List Nat) {w : World} (hs : SeenIn w rows bs)
    (ha : LRel (phiR bs rm) args args'.toList) (hf : ∀ h, X f args h = none) {v : Value} (hv : plainC v = true) (h : Rets P X f args (seenG rows) (fun u _ lo => rows.length ≤ lo ∧ u = v)) :
    Calls P f args' w fun e w' => e = .returned v ∧ RowKit.Below w.heap.size w w' := by
  unfold Rets at h
  obtain ⟨u, g', lo, ⟨i, d, n, hr⟩, hx, hlo, rfl⟩ := h (seen_ok rows)
  let I := bnd (max (@LIM i) rows.length)
  have hL : @LIM i ≤ @LIM I := Nat.le_max_left _ _
  cases d with
  | zero => cases hr
  | succ d =>
    have hr : @evF I P X n (d + 1) f args ((seenG rows).at (seenG rows).next) = some (u, g'.at lo) := evF_mono hL (Nat.le_refl _) (Nat.le_refl _) _ _ _ _ hr
    have M := @embR w rows bs rm hs (seenG rows).next I (Nat.le_max_right _ _)
    rcases @evF_some I P X n d f args _ _ _ hr with hx | ⟨c, rs, ou, e, l, hp, hlen, hev, hne, hres, rfl⟩
    · rw [hf] at hx; cases hx
    · refine (@body_calls I P 0 _ (@evF_sound I P X (hX I) hm n 0 d) (@evF_pres I P X (hX I).pres n d) hm n f args _ _ _ w args' M ha c rs ou e l hp hlen hev hne hres).2 _ fun φ' v' w' r1 r2 r3 => ⟨by rw [plainC_inv r1 hv], ?_⟩
      refine ⟨r3.below.os, r3.below.tape, r3.below.output, r3.below.size, fun k hk => r3.frame k hk fun i e hi hb => ?_⟩
      have := (List.getElem?_eq_some_iff.1 (phiR_some hi)).1
      rw [hs.len] at this
      exact Nat.lt_of_lt_of_le this hlo
/-! ## A shop in the world -/
/-- A row of numbers, as it lies in the world. -/
def InW (w : World) (v : Value) (zs : List Int) : Prop := zs ≠ [] ∧ ∃ b off c, v = .slice (some ⟨b, off, none⟩) zs.length c ∧ zs.length ≤ c ∧ ∀ i, i < zs.length → w.cell? ⟨b, off + i, none⟩ = some (.int .i64 (zs.getD i 0))
theorem InW.below {w w' : World} {v : Value} {zs : List Int} (h : InW w v zs) (hb : RowKit.Below w.heap.size w w') : InW w' v zs := by
  obtain ⟨h0, b, off, c, h1, h2, h3⟩ := h
  refine ⟨h0, b, off, c, h1, h2, fun i hi => ?_⟩
  have h4 := h3 i hi
  have hlt : b < w.heap.size := World.block_lt_of_cell? w ⟨b, off + i, none⟩ h4
  rw [World.cell?_of_block (hb.block b hlt)]
  exact h4
theorem InW.row {w : World} {v : Value} {zs : List Int} (h : InW w v zs) : ∃ (b off c : Nat), v = .slice (some ⟨b, off, none⟩) zs.length c ∧ SeenIn w [List.replicate off junkV ++ ints zs] [b] ∧
    VRel (phiR [b] [off + c]) (.slice (some ⟨0, off, none⟩) zs.length (OPEN + 1)) v ∧ SlR (seenG [List.replicate off junkV ++ ints zs]) (.slice (some ⟨0, off, none⟩) zs.length (OPEN + 1)) (ints zs) := by
  obtain ⟨h0, b, off, c, h1, h2, h3⟩ := h
  have hp : 0 < zs.length := List.length_pos_iff.2 h0
  obtain ⟨_, cs, t, fr, hb, _⟩ := cell_has (h3 0 hp)
  have hb : w.heap[b]? = some (.cells cs t fr) := hb
  have hcs : ∀ i, i < zs.length → cs[off + i]? = some (.int .i64 (zs.getD i 0)) := fun i hi => by
    have := h3 i hi
    unfold World.cell? at this
    rw [hb] at this
    simpa using this
  refine ⟨b, off, c, h1, ⟨rfl, fun i j b' hi hj => ?_, fun i r b' hr hbi => ?_⟩, ?_, ?_⟩
  · have h5 := (List.getElem?_eq_some_iff.1 hi).1
    have h6 := (List.getElem?_eq_some_iff.1 hj).1
    simp at h5 h6
    omega
  · have h5 := (List.getElem?_eq_some_iff.1 hr).1
    simp at h5
    subst h5
    simp at hr hbi
    subst hr; subst hbi
    refine ⟨(Array.getElem?_eq_some_iff.1 hb).1, cs, t, fr, hb, fun k v hk => ?_⟩
    by_cases ck : k < off
    · rw [List.getElem?_append_left (by simpa using ck), List.getElem?_replicate, if_pos ck] at hk
      cases hk
      exact .inl rfl
    · rw [List.getElem?_append_right (by simp; omega), List.length_replicate] at hk
      have hlt := (List.getElem?_eq_some_iff.1 hk).1
      rw [ints_len] at hlt
      rw [ints_get hlt] at hk
      cases hk
      have := hcs (k - off) hlt
      rw [show off + (k - off) = k by omega] at this
      exact .inr ⟨this, rfl⟩
  · rw [h1]
    exact .sopen 0 ⟨b, off + c⟩ off off zs.length c 1 rfl h2 (.inr ⟨rfl, by show off + c * 1 = off + c; omega⟩)
  · refine .inr ⟨0, off, OPEN + 1, seenOb (List.replicate off junkV ++ ints zs), by rw [ints_len], by rw [seen_next]; simp, seen_get _ rfl, .inr ⟨rfl, ?_⟩, by show off + (ints zs).length ≤ _; simp [seenOb], ?_⟩
    · rw [List.any_eq_false]
      intro x hx
      simp only [ints, List.mem_map] at hx
      obtain ⟨z, _, rfl⟩ := hx
      simp [isJ]
    · show ((List.replicate off junkV ++ ints zs).drop off).take (ints zs).length = ints zs
      rw [List.drop_append_of_le_length (by simp), List.drop_of_length_le (by simp), List.nil_append, List.take_length]
theorem isShop_in (w : World) (v : Value) (zs : List Int) (h : InW w v zs) (hz : zs.length ≤ 40) : Calls Tryd.prog 17 #[v] w fun e w' => e = .returned (.bool (shopB zs)) ∧ RowKit.Below w.heap.size w w' := by
  have inst : Inhabited Bound := ⟨⟨0⟩⟩
  obtain ⟨b, off, c, h1, h2, h3, h4⟩ := h.row
  exact Rets.seenRm XN_orac mixedO [off + c] h2 (LRel.cons h3 LRel.nil) (fun _ => rfl) rfl ((IsShop_rets XN_ok zs hz _ _ h4).mono fun v g' lo _ ⟨q1, q2⟩ => ⟨by rw [seen_next] at q1; exact q1, q2⟩)
theorem isPos_in (w : World) (s : Value) (zs : List Int) (h : InW w s zs) (hz : shopB zs = true) (v l : Int) : Calls Tryd.prog 57 #[s, .int .i64 v, .int .i64 l] w fun e w' => e = .returned (.bool (posB zs v l)) ∧ RowKit.Below w.heap.size w w' := by
  have inst : Inhabited Bound := ⟨⟨0⟩⟩
  obtain ⟨b, off, c, h1, h2, h3, h4⟩ := h.row
  exact Rets.seenRm XN_orac mixedO [off + c] h2 (LRel.cons h3 (LRel.cons (VRel.plainC rfl) (LRel.cons (VRel.plainC rfl) LRel.nil))) (fun _ => rfl) rfl ((isPos_rets XN_ok zs hz v l _ _ h4).mono fun v g' lo _ ⟨q1, q2⟩ => ⟨by rw [seen_next] at q1; exact q1, q2⟩)
end Go.Proofs.YtnpapnpedcbfnaaDoor
set_option maxRecDepth 100000
set_option maxHeartbeats 4000000
set_option linter.unusedSimpArgs false
set_option linter.unusedVariables false
namespace Go.Proofs.YtnpapnpedcbfnaaDoor
open Go.RowKit Go.Maps Go.Vs
attribute [local go_sem] Oper.semAt_some
theorem InW.shop {w : World} {s : Value} {zs : List Int} (h : InW w s zs) (hz : shopB zs = true) : ∃ b off c, s = .slice (some ⟨b, off, none⟩) zs.length c ∧ ShopW w b off zs.length (setF zs) := by
  obtain ⟨h0, b, off, c, h1, h2, h3⟩ := h
  exact ⟨b, off, c, h1, fun i hi => by rw [h3 i hi, ((shop_ok hz).2.2 i hi).1]⟩
theorem ShopW.below {w w' : World} {b off n : Nat} {A : Nat → Nat} (h : ShopW w b off n A) (hb : Below w.heap.size w w') : ShopW w' b off n A := fun i hi => by
  have h4 := h i hi
  have hlt : b < w.heap.size := World.block_lt_of_cell? w ⟨b, off + i, none⟩ h4
  rw [World.cell?_of_block (hb.block b hlt)]
  exact h4
theorem posB_nat {zs : List Int} {v l : Int} (h : posB zs v l = true) : ∃ vn ln : Nat, v = vn ∧ l = ln ∧ vn < 2 ^ zs.length ∧ ln < zs.length := by
  unfold posB at h
  simp only [Bool.and_eq_true, decide_eq_true_eq] at h
  obtain ⟨⟨⟨⟨h1, h2⟩, h3⟩, h4⟩, h5⟩ := h
  have e2 : ((2 ^ zs.length : Nat) : Int) = 2 ^ zs.length := by simp
  rw [← e2] at h2
  exact ⟨v.toNat, l.toNat, by omega, by omega, by omega, by omega⟩
theorem cost_ok : 11 ^ 12 < 4611686018427387904 := by decide
theorem bcat {w a b : World} (h : Below w.heap.size w a) (k : Below a.heap.size a b) : Below w.heap.size w b := h.trans ⟨k.os, k.tape, k.output, k.size, fun i hi => k.block i (Nat.lt_of_lt_of_le hi h.size)⟩
theorem grown_below {w a b : World} {B : Nat} (h : Below w.heap.size w a) (hB : w.heap.size ≤ B) (g : a.grownBy b (some B)) : Below w.heap.size w b := h.trans ⟨g.os, g.tape, g.output, g.size, fun i hi => g.block i (Nat.lt_of_lt_of_le hi h.size) (by simp; omega)⟩
theorem wins_in (w : World) (s : Value) (zs : List Int) (h : InW w s zs) (hl : zs.length ≤ 40) (v l : Int) : Calls Tryd.prog 29 #[s, .int .i64 v, .int .i64 l] w fun e w' => e = .returned (winsV zs v l) ∧ Below w.heap.size w w' := by
  have h17 := isShop_in w s zs h hl
  go_enter Tryd.func29, Tryd.ntmps29
  unfold winsV
  cases hz : shopB zs with
  | false =>
    rw [hz] at h17
    go_wp2_with (go_at_call 17; refine h17.mono ?_; rintro e w1 ⟨rfl, b1⟩)
    refine bodyPost_ret (results_tmp2 rfl _ _ _) rfl ?_
    exact ⟨rfl, b1⟩
  | true =>
    rw [hz] at h17
    have h57 := fun w h => isPos_in w s zs h hz v l
    cases hp : posB zs v l with
    | false =>
      rw [hp] at h57
      go_wp2_with (first | (go_at_call 17; refine h17.mono ?_; rintro e w1 ⟨rfl, b1⟩) | (go_at_call 57; refine (h57 _ (h.below b1)).mono ?_; rintro e w2 ⟨rfl, b2⟩))
      refine bodyPost_ret (results_tmp2 rfl _ _ _) rfl ?_
      exact ⟨rfl, bcat b1 b2⟩
    | true =>
      rw [hp] at h57
      obtain ⟨vn, ln, rfl, rfl, hv2, hl2⟩ := posB_nat hp
      obtain ⟨b, off, c, rfl, hS⟩ := h.shop hz
      obtain ⟨hL1, hL10, hA⟩ := shop_ok hz
      have hw := wins_all hL10 (fun i hi => (hA i hi).2.1) 11
      have h54 := newGame_in b off zs.length c
      have hun := un_le zs.length vn
      simp only [Bool.and_self, if_true, Int.toNat_natCast]
      go_wp2_with (first | (go_at_call 17; refine h17.mono ?_; rintro e w1 ⟨rfl, b1⟩) | (go_at_call 57; refine (h57 _ (h.below b1)).mono ?_; rintro e w2 ⟨rfl, b2⟩) | (go_at_call 54; refine (h54 _).mono ?_; rintro e w3 ⟨⟨B, rfl, hown, hB1, hB2⟩, b3⟩; have hS2 := (hS.below b1).below b2; have hbl := World.block_lt_of_cell? _ _ (hS2 0 (by omega)); dsimp only at hbl) | (go_at_call 55; refine (hw w3 b off c B vn ln 0 (by omega) hv2 hl2 (hS2.below b3) (by omega) ⟨_, hown, Memo.start _ _⟩ (by decide)).mono ?_; rintro e w4 ⟨rfl, _, hg4⟩))
      refine bodyPost_ret (results_tmp2 rfl _ _ _) rfl ?_
      refine ⟨rfl, ?_⟩
      have b12 := bcat b1 b2
      exact grown_below (bcat b12 b3) (Nat.le_trans b12.size hB1) hg4
theorem move_in (w : World) (s : Value) (zs : List Int) (h : InW w s zs) (hl : zs.length ≤ 40) (v l : Int) : Calls Tryd.prog 31 #[s, .int .i64 v, .int .i64 l] w fun e w' => e = .returned (mvV zs v l) ∧ Below w.heap.size w w' := by
  have h17 := isShop_in w s zs h hl
  go_enter Tryd.func31, Tryd.ntmps31
  unfold mvV
  cases hz : shopB zs with
  | false =>
    rw [hz] at h17
    go_wp2_with (go_at_call 17; refine h17.mono ?_; rintro e w1 ⟨rfl, b1⟩)
    refine bodyPost_ret (results_tmp2 rfl _ _ _) rfl ?_
    exact ⟨rfl, b1⟩
  | true =>
    rw [hz] at h17
    have h57 := fun w h => isPos_in w s zs h hz v l
    cases hp : posB zs v l with
    | false =>
      rw [hp] at h57
      go_wp2_with (first | (go_at_call 17; refine h17.mono ?_; rintro e w1 ⟨rfl, b1⟩) | (go_at_call 57; refine (h57 _ (h.below b1)).mono ?_; rintro e w2 ⟨rfl, b2⟩))
      refine bodyPost_ret (results_tmp2 rfl _ _ _) rfl ?_
      exact ⟨rfl, bcat b1 b2⟩
    | true =>
      rw [hp] at h57
      obtain ⟨vn, ln, rfl, rfl, hv2, hl2⟩ := posB_nat hp
      obtain ⟨b, off, c, rfl, hS⟩ := h.shop hz
      obtain ⟨hL1, hL10, hA⟩ := shop_ok hz
      have hw := move_all hL10 (fun i hi => (hA i hi).2.1) 10
      have h54 := newGame_in b off zs.length c
      have hun := un_le zs.length vn
      simp only [Bool.and_self, if_true, Int.toNat_natCast]
      have hmv : ∃ (mv : Option Nat), Go.Vs.move (setF zs) zs.length vn ln = mv := ⟨_, rfl⟩
      obtain ⟨mv, hmv⟩ := hmv
      have hw2 : ∀ (w : World) (B : Nat), ShopW w b off zs.length (setF zs) → b ≠ B → InvM (setF zs) zs.length w B 0 → Calls Tryd.prog 59 #[gmV b off zs.length c B, posV vn ln] w fun e w' => e = .returned (.tuple #[.int .i64 ((mv.getD 0 : Nat) : Int), .bool mv.isSome]) ∧ w.grownBy w' (some B) := fun w B q1 q2 q3 => (hw w b off c B vn ln 0 (by omega) hv2 hl2 q1 q2 q3 (by decide)).mono fun e w' ⟨e1, _, e2⟩ => ⟨by rw [e1, moveV, hmv], e2⟩
      rw [hmv]
      cases mv with
      | none =>
        go_wp2_with (first | (go_at_call 17; refine h17.mono ?_; rintro e w1 ⟨rfl, b1⟩) | (go_at_call 57; refine (h57 _ (h.below b1)).mono ?_; rintro e w2 ⟨rfl, b2⟩) | (go_at_call 54; refine (h54 _).mono ?_; rintro e w3 ⟨⟨B, rfl, hown, hB1, hB2⟩, b3⟩; have hS2 := (hS.below b1).below b2; have hbl := World.block_lt_of_cell? _ _ (hS2 0 (by omega)); dsimp only at hbl) | (go_at_call 59; refine (hw2 w3 B (hS2.below b3) (by omega) ⟨_, hown, Memo.start _ _⟩).mono ?_; rintro e w4 ⟨rfl, hg4⟩))
        refine bodyPost_ret (results_tmp2 rfl _ _ _) rfl ?_
        refine ⟨rfl, ?_⟩
        have b12 := bcat b1 b2
        exact grown_below (bcat b12 b3) (Nat.le_trans b12.size hB1) hg4
      | some k =>
        go_wp2_with (first | (go_at_call 17; refine h17.mono ?_; rintro e w1 ⟨rfl, b1⟩) | (go_at_call 57; refine (h57 _ (h.below b1)).mono ?_; rintro e w2 ⟨rfl, b2⟩) | (go_at_call 54; refine (h54 _).mono ?_; rintro e w3 ⟨⟨B, rfl, hown, hB1, hB2⟩, b3⟩; have hS2 := (hS.below b1).below b2; have hbl := World.block_lt_of_cell? _ _ (hS2 0 (by omega)); dsimp only at hbl) | (go_at_call 59; refine (hw2 w3 B (hS2.below b3) (by omega) ⟨_, hown, Memo.start _ _⟩).mono ?_; rintro e w4 ⟨rfl, hg4⟩))
        refine bodyPost_ret (results_tmp2 rfl _ _ _) rfl ?_
        refine ⟨rfl, ?_⟩
        have b12 := bcat b1 b2
        exact grown_below (bcat b12 b3) (Nat.le_trans b12.size hB1) hg4
end Go.Proofs.YtnpapnpedcbfnaaDoor
set_option maxRecDepth 100000
set_option maxHeartbeats 4000000
set_option linter.unusedSimpArgs false
set_option linter.unusedVariables false
namespace Go.Proofs.YtnpapnpedcbfnaaDoor
open Go.RowKit Go.Maps Go.Vs
attribute [local go_sem] Oper.semAt_some
theorem beg_lt (A : Nat → Nat) (n : Nat) : ∀ i, begF A n i < 2 ^ i
  | 0 => by unfold begF; decide
  | i + 1 => by
    have h := beg_lt A n i
    unfold begF
    have h2 : 2 ^ i < 2 ^ (i + 1) := Nat.pow_lt_pow_right (by decide) (by omega)
    split
    · omega
    · exact Nat.or_lt_two_pow (by omega) h2
theorem starts_in (w : World) (s : Value) (zs : List Int) (h : InW w s zs) (hl : zs.length ≤ 40) : Calls Tryd.prog 27 #[s] w fun e w' => e = .returned (stV zs) ∧ Below w.heap.size w w' := by
  have h17 := isShop_in w s zs h hl
  go_enter Tryd.func27, Tryd.ntmps27
  unfold stV
  cases hz : shopB zs with
  | false =>
    rw [hz] at h17
    go_wp2_with (go_at_call 17; refine h17.mono ?_; rintro e w1 ⟨rfl, b1⟩)
    refine bodyPost_ret (results_tmp2 rfl _ _ _) rfl ?_
    exact ⟨rfl, b1⟩
  | true =>
    rw [hz] at h17
    obtain ⟨b, off, c, rfl, hS⟩ := h.shop hz
    obtain ⟨hL1, hL10, hA⟩ := shop_ok hz
    have hw := wins_all hL10 (fun i hi => (hA i hi).2.1) 11
    unfold WinsAt at hw
    have hcost2 : 10 * 11 ^ 11 + 11 ^ 11 < 4611686018427387904 := by decide
    generalize 11 ^ 11 = K at hw hcost2
    have h54 := newGame_in b off zs.length c
    simp only [if_true]
    go_wp2_with (first | (go_at_call 17; refine h17.mono ?_; rintro e w1 ⟨rfl, b1⟩) | (go_at_call 54; refine (h54 _).mono ?_; rintro e w3 ⟨⟨B, rfl, hown, hB1, hB2⟩, b3⟩))
    have hS1 := hS.below b1
    have hbl := World.block_lt_of_cell? _ _ (hS1 0 (by omega))
    dsimp only at hbl
    have hS3 : ShopW (w3.alloc (Obj.cells #[Value.slice (some ⟨b, off, none⟩) zs.length c, Value.map (some B)] 66)) b off zs.length (setF zs) := (hS1.below b3).alloc _
    have hown0 : (w3.alloc (Obj.cells #[Value.slice (some ⟨b, off, none⟩) zs.length c, Value.map (some B)] 66)).ownsMap Tryd.prog 70 (plainElem (H := Unit) Tryd.prog 4) B 0 (.map []) := hown.alloc _
    have hb0 : Below w.heap.size w (w3.alloc (Obj.cells #[Value.slice (some ⟨b, off, none⟩) zs.length c, Value.map (some B)] 66)) := by
      have := bcat b1 b3
      exact this.alloc this.size _
    have hcb := heap_new w3 (Obj.cells #[Value.slice (some ⟨b, off, none⟩) zs.length c, Value.map (some B)] 66)
    have c0 : (w3.alloc (Obj.cells #[Value.slice (some ⟨b, off, none⟩) zs.length c, Value.map (some B)] 66)).cell? ⟨w3.heap.size, 0, none⟩ = some (Value.slice (some ⟨b, off, none⟩) zs.length c) := by rw [cell_heap hcb]; rfl
    have c1 : (w3.alloc (Obj.cells #[Value.slice (some ⟨b, off, none⟩) zs.length c, Value.map (some B)] 66)).cell? ⟨w3.heap.size, 1, none⟩ = some (Value.map (some B)) := by rw [cell_heap hcb]; rfl
    generalize (w3.alloc (Obj.cells #[Value.slice (some ⟨b, off, none⟩) zs.length c, Value.map (some B)] 66)) = W0 at *
    generalize hQ : w3.heap.size = q at *
    generalize hA2 : setF zs = A at *
    generalize hN : zs.length = n at *
    have h2n := two_le hL10
    clear hcb
    go_loopw [5, 14] (fun st i wr => ∃ j : Nat, j ≤ n ∧ i = .int .i64 j ∧ st = .int .i64 (begF A n j : Nat) ∧ InvM A n wr B (j * K) ∧ W0.grownBy wr (some B)) (fun _ i _ => n - (intOf i).toNat)
    case atStart => exact ⟨0, by omega, rfl, rfl, ⟨_, by simpa using hown0, Memo.start _ _⟩, World.grownBy.refl _ _⟩
    case round =>
      obtain ⟨j, hj, rfl, rfl, ⟨Dj, hownj, hmemoj⟩, hgj⟩ := hrel
      have d0 := hgj.cell c0 (by simp; omega)
      have d1 := hgj.cell c1 (by simp; omega)
      have hSj := hS3.grown hgj (show b ≠ B by omega)
      by_cases cj : j < n
      · have cj' : (j : Int) < n := by omega
        have hwith := with_in 0 j (by omega) (by omega)
        rw [Nat.zero_or] at hwith
        have hbg := beg_lt A n j
        have hbg2 : 2 ^ j ≤ 1024 := two_le (by omega)
        have hwith2 := with_in (begF A n j) j (by omega) (by omega)
        have e0 : wr.drew.cell? ⟨q, 0, none⟩ = some (.slice (some ⟨b, off, none⟩) n c) := d0
        have e1 : wr.drew.cell? ⟨q, 1, none⟩ = some (.map (some B)) := d1
        have hS2 : ShopW wr.drew b off n A := hSj
        have hown2 : wr.drew.ownsMap Tryd.prog 70 (plainElem Tryd.prog 4) B (j * K) Dj := hownj
        have hg2 : W0.grownBy wr.drew (some B) := ⟨hgj.os, hgj.tape, hgj.output, hgj.size, hgj.block⟩
        have hcost : j * K ≤ 10 * K := Nat.mul_le_mul_right _ (by omega)
        have h2j : 2 ^ j < 2 ^ n := Nat.pow_lt_pow_right (by decide) cj
        have hun := un_le n (2 ^ j)
        have hwc := hw wr.drew b off c B (2 ^ j) j (j * K) (by omega) h2j cj hS2 (by omega) ⟨Dj, hown2, hmemoj⟩ (by omega)
        go_wp2
        refine wp_region_still_tail 5 Tryd.mixed (by kernel_rfl) ?_
        change wpStill _ _ wr.drew (fun a' => wpList _ _ _ _ a' wr.drew) _ _
        generalize wr.drew = W2 at *
        clear d0 d1 hSj hownj hgj
        simp only [List.take_succ_cons, List.take_zero, List.drop_succ_cons, List.drop_zero]
        refine wpStill_run ?_
        apply Exists.intro
        refine ⟨?_, ?_⟩
        · iterate 2 still_step
          still_call (hwith W2)
          iterate 2 still_step
          exact wpStill_nil rfl
        show wpList _ _ _ _ _ W2
        have hnx : begF A n (j + 1) = if won A n (2 ^ j) j = true then begF A n j else begF A n j ||| 2 ^ j := rfl
        cases cw : won A n (2 ^ j) j with
        | true =>
          rw [cw] at hwc hnx
          go_wp2_with (go_at_call 55; refine hwc.mono ?_; rintro e w4 ⟨rfl, hI3, hg3⟩)
          exact ⟨⟨j + 1, by omega, rfl, by rw [hnx]; simp, hI3.mono (by rw [Nat.succ_mul]; omega), hg2.trans hg3⟩, by simp [intOf]; omega⟩
        | false =>
          rw [cw] at hwc hnx
          go_wp2_with (first | (go_at_call 55; refine hwc.mono ?_; rintro e w4 ⟨rfl, hI3, hg3⟩) | (go_at_call 53; refine (hwith2 _).mono ?_; rintro e w5 ⟨rfl, rfl⟩))
          exact ⟨⟨j + 1, by omega, rfl, by rw [hnx]; simp, hI3.mono (by rw [Nat.succ_mul]; omega), hg2.trans hg3⟩, by simp [intOf]; omega⟩
      · have cj' : ¬ (j : Int) < n := by omega
        go_wp2
        have hnn : j = n := by omega
        subst hnn
        refine bodyPost_ret (results_tmp2 rfl _ _ _) rfl ?_
        exact ⟨rfl, grown_below hb0 (Nat.le_trans b1.size hB1) hgj⟩
end Go.Proofs.YtnpapnpedcbfnaaDoor
set_option maxRecDepth 100000
set_option maxHeartbeats 4000000
set_option linter.unusedSimpArgs false
set_option linter.unusedVariables false
namespace Go.Proofs.YtnpapnpedcbfnaaDoor
open Go.Ds Go.Vs
/-! ## Calls that read a row -/
def intsOf : List Value → Option (List Int)
  | [] => some []
  | v :: l => match v with
    | .int .i64 n => (intsOf l).map (n :: ·)
    | _ => none
theorem intsOf_ints : ∀ L : List Int, intsOf (ints L) = some L
  | [] => rfl
  | n :: L => by
    show (intsOf (ints L)).map (n :: ·) = _
    rw [intsOf_ints L]; rfl
theorem ints_of : ∀ {vs : List Value} {L : List Int}, intsOf vs = some L → vs = ints L
  | [], L, h => by cases h; rfl
  | v :: vs, L, h => by
    unfold intsOf at h
    split at h
    · rename_i n
      obtain ⟨L', h1, rfl⟩ := Option.map_eq_some_iff.1 h
      rw [ints_of h1]; rfl
    · cases h
def rdI (h : AH) (s : Value) : Option (List Int) :=
  match s with
  | .slice (some ⟨j, off, none⟩) (n + 1) _ => bif Nat.blt j h.next && (Nat.beq (h.get j).kind 1 || Nat.beq (h.get j).kind 4) && Nat.ble (n + 1) 40 then
      match intsOf (((h.get j).cells.drop off).take (n + 1)) with
      | some L => bif Nat.beq L.length (n + 1) then some L else none
      | none => none
    else none
  | _ => none
theorem rdI_in [Inhabited Bound] {φ : Phi} {h : AH} {B : Nat} {w : World} {s s' : Value} {L : List Int} (E : Emb φ h B w) (hv : VRel φ s s') (hr : rdI h s = some L) : InW w s' L ∧ L.length ≤ 40 := by
  unfold rdI at hr
  split at hr
  case h_2 => cases hr
  rename_i j off n cap
  obtain ⟨h1, h2⟩ := bif_some hr
  split at h2
  case h_2 => cases h2
  rename_i L' hL'
  obtain ⟨h3, h4⟩ := bif_some h2
  cases h4
  have hlen : L.length = n + 1 := Nat.eq_of_beq_eq_true h3
  simp only [Bool.and_eq_true, Bool.or_eq_true] at h1
  obtain ⟨⟨h5, h6⟩, h7⟩ := h1
  have hj : j < h.next := by rw [blt_d] at h5; simpa using h5
  have h7 : n + 1 ≤ 40 := Nat.le_of_ble_eq_true h7
  have hcells := ints_of hL'
  have hcell : ∀ i, i < n + 1 → (h.get j).cells[off + i]? = some (.int .i64 (L.getD i 0)) := fun i hi => by
    have h8 := ints_get (D := L) (i := i) (by omega)
    rw [← hcells, List.getElem?_take, if_pos hi, List.getElem?_drop] at h8
    exact h8
  have hk0 : (h.get j).kind ≠ 0 := by
    rcases h6 with h6 | h6 <;> rw [Nat.eq_of_beq_eq_true h6] <;> decide
  obtain ⟨e, he, hob⟩ := E.obj j hj hk0
  have hc : ∃ c t fr, w.heap[e.blk]? = some (.cells c t fr) ∧ ∀ i, i < n + 1 → c[off + i]? = some (.int .i64 (L.getD i 0)) := by
    have fin : ∀ {v' : Value} {i : Nat}, VRel φ (.int .i64 (L.getD i 0)) v' → v' = .int .i64 (L.getD i 0) := fun hv => by cases hv; rfl
    rcases hob with ⟨_, hc⟩ | ⟨hk, _⟩ | ⟨hk, _⟩ | ⟨_, _, c, t, fr, hb, hc⟩
    · obtain ⟨c, fr, hb, _, _, _, hc⟩ := hc.ex
      refine ⟨c, _, fr, hb, fun i hi => ?_⟩
      obtain ⟨v', h8, h9⟩ := hc _ _ (hcell i hi)
      rw [h8, fin h9]
    · exfalso; rcases h6 with h6 | h6 <;> have := Nat.eq_of_beq_eq_true h6 <;> omega
    · exfalso; rcases h6 with h6 | h6 <;> have := Nat.eq_of_beq_eq_true h6 <;> omega
    · refine ⟨c, t, fr, hb, fun i hi => ?_⟩
      rcases hc _ _ (hcell i hi) with h8 | ⟨v', h8, h9⟩
      · cases h8
      · rw [h8, fin h9]
  obtain ⟨c, t, fr, hb, hc⟩ := hc
  have hne : L ≠ [] := by rintro rfl; simp at hlen
  have key : ∀ c2 : Nat, n + 1 ≤ c2 → s' = .slice (some ⟨e.blk, off, none⟩) (n + 1) c2 → InW w s' L := fun c2 hc2 hs' =>
    ⟨hne, e.blk, off, c2, by rw [hs', hlen], by omega, fun i hi => by
      unfold World.cell?
      rw [hb]
      simpa using hc i (by omega)⟩
  refine ⟨?_, by omega⟩
  obtain ⟨m, hm⟩ : ∃ m, m = n + 1 := ⟨_, rfl⟩
  obtain ⟨q, hq⟩ : ∃ q : Value, q = .slice (some ⟨j, off, none⟩) (n + 1) cap := ⟨_, rfl⟩
  rw [← hq] at hv
  cases hv with
  | slc a e2 off2 l c2 h hc2 hl2 =>
    cases hq
    rw [he] at h
    cases h
    exact key _ hl2 rfl
  | sopen a e2 off2 off' l c2 sz h hl2 hr2 =>
    cases hq
    rw [he] at h
    cases h
    rcases hr2 with ⟨h0, _⟩ | ⟨rfl, _⟩
    · cases h0
    · exact key _ hl2 rfl
  | _ => cases hq
theorem rdI_of {g : GH} {s : Value} {L : List Int} (hne : L ≠ []) (hl : L.length ≤ 40) (hs : SlR g s (ints L)) (lo : Nat) : rdI (g.at lo) s = some L := by
  rcases hs with ⟨h1, h2⟩ | ⟨j, off, cap, ob, h1, h2, h3, h4, h5, h6⟩
  · exact absurd (by simpa [ints] using h2) hne
  · obtain ⟨n, hn⟩ : ∃ n, L.length = n + 1 := ⟨L.length - 1, by have := List.length_pos_iff.2 hne; omega⟩
    have e1 : (g.at lo).get j = ob := by rw [GH.get_at]; exact h3
    have e2 : Nat.blt j (g.at lo).next = true := Nat.blt_eq ▸ h2
    have e3 : (Nat.beq ob.kind 1 || Nat.beq ob.kind 4) = true := by
      rcases h4 with h | ⟨h, _⟩ <;> rw [h] <;> rfl
    have e4 : Nat.ble (n + 1) 40 = true := by rw [ble_d, decide_eq_true (by omega)]
    rw [ints_len, hn] at h1 h6
    subst h1
    unfold rdI
    simp only [e1, e2, e3, e4, Bool.and_self, cond_true, h6, intsOf_ints]
    rw [show Nat.beq L.length (n + 1) = true by rw [hn]; simp]
    rfl
/-! ## The known calls -/
def lowB (x : Nat) : Nat := match (List.range 10).find? (fun k => bitB x k) with
  | some k => k
  | none => 0
theorem lowB_eq {x : Nat} (h1 : 1 ≤ x) (h2 : x < 1024) : lowB x = low x := by
  unfold lowB
  cases h : (List.range 10).find? (fun k => bitB x k) with
  | some k =>
    have := List.find?_some h
    exact (low_of this).symm
  | none =>
    have h3 := List.all_eq_true.1 tz_all x (List.mem_range.2 h2)
    have h0 : Nat.beq x 0 = false := by
      cases h : Nat.beq x 0 with
      | false => rfl
      | true => have := Nat.eq_of_beq_eq_true h; omega
    rw [h0, Bool.false_or, List.any_eq_true] at h3
    obtain ⟨k, hk, h4⟩ := h3
    rw [Bool.and_eq_true] at h4
    exact absurd h4.1 (List.find?_eq_none.1 h k hk)
def knK (f : FuncId) (args : List Value) (h : AH) : Option Value :=
  if f = 67 then (match args with
    | [.int .u64 (.ofNat x)] => bif Nat.ble 1 x && Nat.blt x 1024 && (Nat.blt 0 h.next && tabOk (h.get 0)) then some (.int .i64 (.ofNat (lowB x))) else none
    | _ => none)
  else if f = 29 then (match args with
    | [s, .int .i64 v, .int .i64 l] => (rdI h s).map fun L => winsV L v l
    | _ => none)
  else if f = 31 then (match args with
    | [s, .int .i64 v, .int .i64 l] => (rdI h s).map fun L => mvV L v l
    | _ => none)
  else if f = 27 then (match args with
    | [s] => (rdI h s).map stV
    | _ => none)
  else none
theorem tabOk_world [Inhabited Bound] {φ : Phi} {h : AH} {B : Nat} {w : World} (E : Emb φ h B w) (h0 : 0 < h.next) (ht : tabOk (h.get 0) = true) : TabW w := by
  generalize hob : h.get 0 = ob at ht
  obtain ⟨kd, cells, el, fam, sl, es, cl, st, po⟩ := ob
  unfold tabOk at ht
  simp only [Bool.and_eq_true] at ht
  obtain ⟨⟨hk, hp⟩, ht⟩ := ht
  intro k hk10
  have hc := List.all_eq_true.1 ht k (List.mem_range.2 hk10)
  split at hc
  · rename_i v hv
    have k4 : (h.get 0).kind = 4 := by rw [hob]; exact Nat.eq_of_beq_eq_true hk
    have p2 : (h.get 0).pos = 1 + 1 := by rw [hob]; exact Nat.eq_of_beq_eq_true hp
    have hu : v = .int .u8 k := by
      unfold isU8 at hc
      split at hc
      · rw [Nat.eq_of_beq_eq_true hc]; rfl
      · cases hc
    subst hu
    exact E.tab h0 k4 p2 (k := tzIx k) (by rw [hob]; exact hv) rfl rfl
  · cases hc
theorem lrel3 [Inhabited Bound] {φ : Phi} {s : Value} {v l : Int} {args' : Array Value} (h : LRel φ [s, .int .i64 v, .int .i64 l] args'.toList) : ∃ s', VRel φ s s' ∧ args' = #[s', .int .i64 v, .int .i64 l] := by
  obtain ⟨s', l1, e1, h1, h2⟩ := h.cons_inv
  obtain ⟨v', l2, e2, h3, h4⟩ := h2.cons_inv
  obtain ⟨l', l3, e3, h5, h6⟩ := h4.cons_inv
  have e4 := h6.nil_inv
  have e5 := plainC_inv h3 rfl
  have e6 := plainC_inv h5 rfl
  refine ⟨s', h1, ?_⟩
  rw [e4] at e3
  rw [e3] at e2
  rw [e2, e5, e6] at e1
  cases args'
  simpa using e1
theorem lrel1 [Inhabited Bound] {φ : Phi} {s : Value} {args' : Array Value} (h : LRel φ [s] args'.toList) : ∃ s', VRel φ s s' ∧ args' = #[s'] := by
  obtain ⟨s', l1, e1, h1, h2⟩ := h.cons_inv
  rw [h2.nil_inv] at e1
  refine ⟨s', h1, ?_⟩
  cases args'
  simpa using e1
theorem enter_of {f : FuncId} {fn : Func} (hf : Tryd.prog.funcs[f]? = some fn) (hn : (fn.name == "runtime.NumGoroutine") = false) (hb : fn.body.isNone = false) (args : Array Value) (w : World) : (callFunc f args).run Tryd.prog w = .ok (.enter f args) w := by
  have hn' : ¬ fn.name = "runtime.NumGoroutine" := by simpa using hn
  have hb' : ¬ fn.body = none := by intro e; rw [e] at hb; cases hb
  simp [callFunc, hf, hn', hb']
theorem plain_wins (L : List Int) (v l : Int) : plainC (winsV L v l) = true := by
  unfold winsV; split <;> rfl
theorem plain_mv (L : List Int) (v l : Int) : plainC (mvV L v l) = true := by
  unfold mvV; split
  · split <;> rfl
  · rfl
theorem plain_st (L : List Int) : plainC (stV L) = true := by
  unfold stV; split <;> rfl
def X0 : Caller := fun f args h => match knK f args h with
  | some v => some (v, h)
  | none => none
theorem knK_sound [Inhabited Bound] {φ : Phi} {h : AH} {B : Nat} {w : World} {f : FuncId} {args : List Value} {args' : Array Value} {v : Value} (E : Emb φ h B w) (hl : LRel φ args args'.toList) (hr : knK f args h = some v) :
    plainC v = true ∧ (callFunc f args').run Tryd.prog w = .ok (.enter f args') w ∧ Calls Tryd.prog f args' w fun e w' => e = .returned v ∧ RowKit.Below w.heap.size w w' := by
  unfold knK at hr
  split at hr
  · rename_i hf
    subst hf
    split at hr
    case h_2 => cases hr
    rename_i x
    obtain ⟨h1, h2⟩ := bif_some hr
    cases h2
    simp only [Bool.and_eq_true] at h1
    obtain ⟨⟨h1, h2⟩, h3, h4⟩ := h1
    have : args'.toList = [.int .u64 (x : Int)] := plainL_inv hl rfl
    have ha : args' = #[.int .u64 (x : Int)] := by cases args'; simp_all
    subst ha
    have h1 := Nat.le_of_ble_eq_true h1
    have h2 : x < 1024 := by rw [blt_d] at h2; simpa using h2
    have hlb := lowB_eq h1 h2
    rw [hlb]
    exact ⟨rfl, enter_of Tryd.func67 (by kernel_rfl) (by kernel_rfl) _ _, tz_calls x h1 h2 w (tabOk_world E (by rw [blt_d] at h3; simpa using h3) h4)⟩
  split at hr
  · rename_i hf
    subst hf
    split at hr
    case h_2 => cases hr
    rename_i s v0 l0
    obtain ⟨L, h1, rfl⟩ := Option.map_eq_some_iff.1 hr
    obtain ⟨s', hs, ha⟩ := lrel3 hl
    subst ha
    obtain ⟨h2, h3⟩ := rdI_in E hs h1
    exact ⟨plain_wins _ _ _, enter_of Tryd.func29 (by kernel_rfl) (by kernel_rfl) _ _, wins_in w s' L h2 h3 v0 l0⟩
  split at hr
  · rename_i hf
    subst hf
    split at hr
    case h_2 => cases hr
    rename_i s v0 l0
    obtain ⟨L, h1, rfl⟩ := Option.map_eq_some_iff.1 hr
    obtain ⟨s', hs, ha⟩ := lrel3 hl
    subst ha
    obtain ⟨h2, h3⟩ := rdI_in E hs h1
    exact ⟨plain_mv _ _ _, enter_of Tryd.func31 (by kernel_rfl) (by kernel_rfl) _ _, move_in w s' L h2 h3 v0 l0⟩
  split at hr
  · rename_i hf
    subst hf
    split at hr
    case h_2 => cases hr
    rename_i s
    obtain ⟨L, h1, rfl⟩ := Option.map_eq_some_iff.1 hr
    obtain ⟨s', hs, ha⟩ := lrel1 hl
    subst ha
    obtain ⟨h2, h3⟩ := rdI_in E hs h1
    exact ⟨plain_st _, enter_of Tryd.func27 (by kernel_rfl) (by kernel_rfl) _ _, starts_in w s' L h2 h3⟩
  cases hr
theorem X0_orac (i : Inhabited Bound) : @Orac i Tryd.prog X0 where
  sound := fun B f args h v h' hr φ w args' M hl o a K Q hK => by
    unfold X0 at hr
    split at hr
    case h_2 => cases hr
    rename_i v' hv'
    cases hr
    obtain ⟨h1, h2, h3⟩ := knK_sound M hl hv'
    rw [h2, Oper.upon_enter]
    refine Calls.mono h3 fun e w' ⟨e1, e2⟩ => ?_
    subst e1
    obtain ⟨g1, g2⟩ := M.grown e2
    exact hK φ v w' (VRel.plainC h1) g1 g2
  pres := fun f args h v h' hr hl => by
    unfold X0 at hr
    split at hr
    case h_2 => cases hr
    cases hr
    exact Pres.refl hl
end Go.Proofs.YtnpapnpedcbfnaaDoor
set_option maxRecDepth 100000
set_option maxHeartbeats 4000000
set_option linter.unusedSimpArgs false
set_option linter.unusedVariables false
namespace Go.Proofs.YtnpapnpedcbfnaaDoor
open Go.Ds Go.Vs
/-! ## alive -/
def tabN (k : Nat) : Value := match (List.range 10).find? (fun i => Nat.beq (tzIx i) k) with
  | some i => .int .u8 (.ofNat i)
  | none => junkV
def tabCells : List Value := (List.range 64).map tabN
@[reducible] def bigRoom : Inhabited Bound := ⟨⟨1000000000⟩⟩
theorem alive_ev : isTrueL 1 (@evK bigRoom Tryd.prog X0 100000 50 16 [] ((seenP tabCells 1 []).at 1)) = true := by kernel_rfl
theorem TabW.tabIn {w : World} (h : TabW w) : TabIn w 1 tabCells := by
  obtain ⟨_, c, t, fr, hc, _⟩ := cell_has (h 0 (by decide))
  have g : ∀ (k : Nat) v, w.cell? ⟨1, k, none⟩ = some v → c[k]? = some v := by
    intro k v hk
    unfold World.cell? at hk
    rw [hc] at hk
    simpa using hk
  refine ⟨c, t, fr, hc, fun k v hk => ?_⟩
  unfold tabCells at hk
  rw [List.getElem?_map, Option.map_eq_some_iff] at hk
  obtain ⟨k', hk', rfl⟩ := hk
  have hkk : k' = k := by
    have := (List.getElem?_eq_some_iff.1 hk').2
    simpa using this.symm
  subst hkk
  unfold tabN
  cases hf : (List.range 10).find? (fun i => Nat.beq (tzIx i) k') with
  | none => exact .inl rfl
  | some i =>
    have h1 := List.find?_some hf
    have h2 := List.mem_range.1 (List.mem_of_find?_eq_some hf)
    have h3 := Nat.eq_of_beq_eq_true h1
    exact .inr ⟨g k' _ (by rw [← h3]; exact h i h2), rfl⟩
theorem alive_calls (w : World) (hw : TabW w) : Calls Tryd.prog 16 #[] w fun e w' => e = .returned (.bool true) ∧ RowKit.Below w.heap.size w w' :=
  @call_of_tab bigRoom Tryd.prog X0 (X0_orac bigRoom) Tryd.mixed 100000 49 16 tabCells 1 (by decide) (by kernel_rfl) alive_ev w hw.tabIn
/-! ## All known calls -/
def knA (f : FuncId) (args : List Value) (h : AH) : Option Value :=
  if f = 16 then (match args with
    | [] => bif Nat.blt 0 h.next && tabOk (h.get 0) then some (.bool true) else none
    | _ => none)
  else knK f args h
def XA : Caller := fun f args h => match knA f args h with
  | some v => some (v, h)
  | none => none
theorem knA_sound [Inhabited Bound] {φ : Phi} {h : AH} {B : Nat} {w : World} {f : FuncId} {args : List Value} {args' : Array Value} {v : Value} (E : Emb φ h B w) (hl : LRel φ args args'.toList) (hr : knA f args h = some v) :
    plainC v = true ∧ (callFunc f args').run Tryd.prog w = .ok (.enter f args') w ∧ Calls Tryd.prog f args' w fun e w' => e = .returned v ∧ RowKit.Below w.heap.size w w' := by
  unfold knA at hr
  split at hr
  · rename_i hf
    subst hf
    split at hr
    case h_2 => cases hr
    obtain ⟨h1, h2⟩ := bif_some hr
    cases h2
    simp only [Bool.and_eq_true] at h1
    have ha : args' = #[] := by
      have := hl.nil_inv
      cases args'; simp_all
    subst ha
    exact ⟨rfl, enter_of Tryd.func16 (by kernel_rfl) (by kernel_rfl) _ _, alive_calls w (tabOk_world E (by have := h1.1; rw [blt_d] at this; simpa using this) h1.2)⟩
  · exact knK_sound E hl hr
theorem X0_orac' (i : Inhabited Bound) : @Orac i Tryd.prog XA where
  sound := fun B f args h v h' hr φ w args' M hl o a K Q hK => by
    unfold XA at hr
    split at hr
    case h_2 => cases hr
    rename_i v' hv'
    cases hr
    obtain ⟨h1, h2, h3⟩ := knA_sound M hl hv'
    rw [h2, Oper.upon_enter]
    refine Calls.mono h3 fun e w' ⟨e1, e2⟩ => ?_
    subst e1
    obtain ⟨g1, g2⟩ := M.grown e2
    exact hK φ v w' (VRel.plainC h1) g1 g2
  pres := fun f args h v h' hr hl => by
    unfold XA at hr
    split at hr
    case h_2 => cases hr
    cases hr
    exact Pres.refl hl
theorem XA_orac (i : Inhabited Bound) : @Orac i Tryd.prog XA := X0_orac' i
theorem XA_free {f : FuncId} (h2 : f ≠ 67 ∧ f ≠ 27 ∧ f ≠ 29 ∧ f ≠ 31 ∧ f ≠ 16) (l : List Value) (h : AH) : XA f l h = none := by
  unfold XA knA knK
  rw [if_neg h2.2.2.2.2, if_neg h2.1, if_neg h2.2.2.1, if_neg h2.2.2.2.1, if_neg h2.2.1]
theorem Rets.XA {f : FuncId} {args : List Value} {g : GH} {v : Value} {Q : Value → GH → Nat → Prop} (h : knA f args (g.at g.next) = some v) (hq : Q v g g.next) : Rets Tryd.prog XA f args g Q := by
  unfold Rets
  intro _
  refine ⟨v, g, g.next, ⟨bnd 0, 1, 0, ?_⟩, ⟨Nat.le_refl _, rfl, Nat.le_refl _, fun _ _ _ => rfl, fun _ _ _ => rfl⟩, hq⟩
  have : Go.Proofs.YtnpapnpedcbfnaaDoor.XA f args (g.at g.next) = some (v, g.at g.next) := by
    unfold Go.Proofs.YtnpapnpedcbfnaaDoor.XA
    rw [h]
  simp only [evF, this]
theorem XA_ok : Xok XA where
  pres := fun i => (XA_orac i).pres
  free := fun f h l h2 => XA_free h l h2
  alive := fun g hT => Rets.XA (by
    have e3 : Nat.blt 0 (g.at g.next).next = true := Nat.blt_eq ▸ hT.1
    have e4 : tabOk ((g.at g.next).get 0) = true := by rw [GH.get_at]; exact hT.2
    show (bif Nat.blt 0 (g.at g.next).next && tabOk ((g.at g.next).get 0) then some (Value.bool true) else none) = _
    rw [e3, e4]
    rfl) ⟨Nat.le_refl _, rfl⟩
  tz := fun g x hT h1 h2 => Rets.XA (by
    have hlb := lowB_eq h1 h2
    have e1 : Nat.ble 1 x = true := by rw [ble_d, decide_eq_true h1]
    have e2 : Nat.blt x 1024 = true := by rw [blt_d, decide_eq_true h2]
    have e3 : Nat.blt 0 (g.at g.next).next = true := Nat.blt_eq ▸ hT.1
    have e4 : tabOk ((g.at g.next).get 0) = true := by rw [GH.get_at]; exact hT.2
    show (bif Nat.ble 1 x && Nat.blt x 1024 && (Nat.blt 0 (g.at g.next).next && tabOk ((g.at g.next).get 0)) then _ else none) = _
    rw [e1, e2, e3, e4, ← hlb]
    rfl) ⟨Nat.le_refl _, rfl⟩
  wins := fun g s L v l h0 hl hs => Rets.XA (by
    show (rdI (g.at g.next) s).map _ = _
    rw [rdI_of h0 hl hs]; rfl) ⟨Nat.le_refl _, rfl⟩
  move := fun g s L v l h0 hl hs => Rets.XA (by
    show (rdI (g.at g.next) s).map _ = _
    rw [rdI_of h0 hl hs]; rfl) ⟨Nat.le_refl _, rfl⟩
  starts := fun g s L h0 hl hs => Rets.XA (by
    show (rdI (g.at g.next) s).map _ = _
    rw [rdI_of h0 hl hs]; rfl) ⟨Nat.le_refl _, rfl⟩
end Go.Proofs.YtnpapnpedcbfnaaDoor
