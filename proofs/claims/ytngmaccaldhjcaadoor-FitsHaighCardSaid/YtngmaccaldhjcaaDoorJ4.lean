import Derived.Test.YtngmaccaldhjcaaDoorJ3
import Derived.Test.YtngmaccaldhjcaaDoorKe
import Derived.Test.YtngmaccaldhjcaaDoorDtO
set_option linter.all false
set_option linter.unusedSimpArgs false
set_option linter.unnecessarySimpa false
set_option linter.unusedVariables false
set_option linter.unusedSectionVars false
set_option maxRecDepth 100000
set_option maxHeartbeats 4000000
set_option linter.unusedSimpArgs false
set_option linter.unusedVariables false
set_option linter.unusedSectionVars false
namespace Go.Ds
/-- A slice of elements of several cells that was made by appending. -/
def OwnS (g : GH) (s : Value) (sz m : Nat) (vs : List Value) (t : TypeId) (base : Nat) : Prop :=
  (s = .slice none 0 0 ∧ vs = [] ∧ m = 0) ∨ ∃ j fam, s = .slice (some ⟨j, 0, none⟩) m (OPEN + sz) ∧ vs.length = m * sz ∧ j < g.next ∧ g.get j = slackOb vs t fam ∧ vs ≠ [] ∧ base ≤ fam ∧ fam ≤ j ∧ (∀ x ∈ g.fams fam, x.2 ≤ vs.length)
theorem OwnS.nil {g : GH} {sz : Nat} {t : TypeId} {base : Nat} : OwnS g (.slice none 0 0) sz 0 [] t base := .inl ⟨rfl, rfl, rfl⟩
theorem OwnS.kept {g g' : GH} {s : Value} {sz m : Nat} {vs : List Value} {t : TypeId} {base : Nat} (h : OwnS g s sz m vs t base) (x : Kept g g') : OwnS g' s sz m vs t base := by
  rcases h with h | ⟨j, fam, h1, h2, h3, h4, h5, h6, h7, h8⟩
  · exact .inl h
  · exact .inr ⟨j, fam, h1, h2, Nat.lt_of_lt_of_le h3 x.next, (x.gets j h3).trans h4, h5, h6, h7, by rw [x.fams fam (by omega)]; exact h8⟩
theorem OwnS.len {g : GH} {s : Value} {sz m : Nat} {vs : List Value} {t : TypeId} {base : Nat} (h : OwnS g s sz m vs t base) : lenLF s = some (.int .i64 (m : Int)) := by
  rcases h with ⟨rfl, _, rfl⟩ | ⟨j, fam, rfl, _⟩ <;> rfl
theorem OwnS.cell {g : GH} {s : Value} {sz m : Nat} {vs : List Value} {t : TypeId} {base : Nat} (h : OwnS g s sz m vs t base) : cellV s = true := by
  rcases h with ⟨rfl, _⟩ | ⟨j, fam, rfl, _⟩ <;> rfl
structure GrewS (g g' : GH) (s' : Value) (sz m : Nat) (vs : List Value) (t : TypeId) (base : Nat) : Prop where
  next : g'.next = g.next + 1
  hid : g'.hid = g.hid
  ok : g'.ok
  gets : ∀ j, j < g.next → g'.get j = g.get j
  fams : ∀ f, f < base → g'.fams f = g.fams f
  own : OwnS g' s' sz m vs t base
theorem Kept.grewS {a g g' : GH} {s' : Value} {sz m : Nat} {vs : List Value} {t : TypeId} {base : Nat} (h : Kept a g) (x : GrewS g g' s' sz m vs t base) (hb : a.next ≤ base) : Kept a g' :=
  ⟨by have := h.next; have := x.next; omega, fun j hj => (x.gets j (Nat.lt_of_lt_of_le hj h.next)).trans (h.gets j hj), fun f hf => (x.fams f (by omega)).trans (h.fams f hf)⟩
section
variable {P : Program} {X : Caller} {Q : Out → Env → GH → Nat → Prop} {gd : Option (P3 × Bool)} {dd : Option P3} {l : List PI} {k : Nat} {sp : List (Nat × (Nat × Nat))} {wr : List Nat} {ks : List Fr} {e : Env} {g : GH} {lo : Nat}
theorem GR.appS {t tx : TypeId} {sz b m n c jx : Nat} {s x : PO} {sv : Value} {vs new : List Value} {base lw : Nat} (hg : wantF e gd = some true) (hs : ev e s = sv) (hx : ev e x = .slice (some ⟨jx, 0, none⟩) n c) (hown : OwnS g sv sz m vs t base) (hjx : g.get jx = cellsOb new tx) (hnl : new.length = n * sz) (hn : 0 < n) (hz0 : 0 < sz)
    (hc : new.all cellV = true) (hsz : (m + n) * (b + 1) ≤ 1073741824) (hb : base ≤ g.next) (hlo : lw ≤ lo) (hlw : lw ≤ base) (ho : g.ok)
    (h : ∀ s' g' lo' sp wr, GrewS g g' s' sz (m + n) (vs ++ new) t base → lw ≤ lo' → GR P X Q l (Nat.succ k) sp wr ks (putE e dd s') g' lo') :
    GR P X Q (⟨gd, dd, none, some (.app t sz b s x), []⟩ :: l) k sp wr ks e g lo := by
  have hlen : lenF (.slice (some ⟨jx, 0, none⟩) n c) = some n := rfl
  have hstr : strOk sz (.slice (some ⟨jx, 0, none⟩) n c) = true := rfl
  have hfirst : ∀ lo, firstF (g.at lo) sz n (.slice (some ⟨jx, 0, none⟩) n c) = some new := by
    intro lo
    simp only [firstF]
    have := SlR.readN (j := jx) (off := 0) (cap := c) (lo := lo) (vs := new) hjx (.inl rfl) (by simp [cellsOb]) (by simp [cellsOb]) (i := 0) (n := n * sz) (by omega)
    rw [Nat.add_zero, List.drop_zero, ← hnl, List.take_length] at this
    rw [← hnl]
    exact this
  have hpos : 0 < n * sz := Nat.mul_pos hn hz0
  have hne : new ≠ [] := fun h => by rw [h] at hnl; simp at hnl; omega
  have hz : Nat.beq n 0 = false := by rw [beq_d, decide_eq_false_iff_not]; omega
  rcases hown with ⟨rfl, rfl, rfl⟩ | ⟨j, fam, rfl, hml, h2, h3, h4, h5, h6, h7⟩
  · let G : GH := ⟨T5.set g.tr g.next (slackOb new t g.next), Nat.succ g.next, g.hid, T5.set g.fams g.next [(g.next, new.length)]⟩
    refine GR.more (v := .slice (some ⟨g.next, 0, none⟩) n (OPEN + sz)) (g' := G) hg (Hp.mk (bnd (g.next + 1)) fun call => ?_) rfl (Nat.le_succ _) (h _ G lo _ _ ?_ hlo)
    · simp only [runH, hs, hx, hstr, cond_true, appF, hlen]
      rw [mul_succ_le (by simpa using hsz), hz, hfirst]
      simp only [cond_false]
      rw [show (Nat.beq 0 0 && Nat.beq 0 0) = true from rfl]
      simp only [cond_true, appNew]
      have : Nat.blt (g.at g.next).next (@LIM (bnd (g.next + 1))) = true := by rw [Nat.blt_eq]; exact Nat.lt_succ_self _
      rw [this]
      simp only [cond_true, lenN_length]
      rfl
    · have hget : ∀ j, G.get j = if g.next = j then slackOb new t g.next else g.get j := GH.get_push ho (slackOb new t g.next)
      refine ⟨rfl, rfl, fun i hi => ho i (Nat.le_trans (Nat.le_succ _) hi), fun i hi => by rw [hget, if_neg (by omega)], fun f hf => ?_, .inr ⟨g.next, g.next, by simp, by simpa using hnl, Nat.lt_succ_self _, by rw [hget, if_pos rfl]; simp, by simpa using hne, hb, Nat.le_refl _, ?_⟩⟩
      · show (T5.set g.fams g.next [(g.next, new.length)]) f = _
        rw [T5.get_set', if_neg (by omega)]
      · show ∀ x ∈ (T5.set g.fams g.next [(g.next, new.length)]) g.next, _
        rw [T5.get_set', if_pos rfl]
        simp
  · let G : GH := ⟨T5.set g.tr g.next (slackOb (vs ++ new) t fam), Nat.succ g.next, g.hid, T5.set (T5.set g.fams fam (g.fams fam)) fam ((g.next, (vs ++ new).length) :: g.fams fam)⟩
    have hvl : 0 < vs.length := List.length_pos_iff.2 h4
    have hstop : 0 + m * sz = vs.length := by omega
    refine GR.wrote (v := .slice (some ⟨g.next, 0, none⟩) (m + n) (OPEN + sz)) (g' := G) (lo' := j) hg (Hp.mk (bnd (g.next + 1)) fun call => ?_) rfl (Nat.le_succ _) (h _ G _ _ _ ?_ (by omega))
    · have hkill : killF (g.at g.next) fam (g.at g.next).next vs.length = (⟨g.tr, g.next, g.hid, T5.set g.fams fam (g.fams fam)⟩ : GH).at g.next := by
        unfold killF
        show (killGo _ _ (g.fams fam) _).setFam fam ((g.fams fam).filter _) = _
        rw [killGo_none _ _ _ _ (fun x hx => h7 x hx), filter_all (fun x hx => h7 x hx)]
        rfl
      have hb1 : Nat.ble (vs.length + new.length) vs.length = false := by rw [ble_d, decide_eq_false_iff_not]; omega
      have htake : takeN vs.length vs = some vs := by rw [takeN_len (Nat.le_refl _), List.take_length]
      have hm0 : Nat.beq m 0 = false := by
        rw [beq_d, decide_eq_false_iff_not]
        intro q
        rw [q, Nat.zero_mul] at hml
        omega
      have hlt : Nat.blt j g.next = true := Nat.blt_eq ▸ h2
      simp only [runH, hs, hx, hstr, cond_true, appF, hlen]
      rw [mul_succ_le hsz, hz, hfirst]
      simp only [cond_false]
      rw [show (g.at g.next).get j = slackOb vs t fam from h3]
      unfold slackOb
      simp only [lenN_length, hstop, hb1, hm0, Bool.false_and, cond_false, htake]
      rw [show Nat.beq (OPEN + sz) (OPEN + sz) = true by simp, show Nat.beq t t = true by simp]
      simp only [cond_true, Bool.and_self, appMay, hkill]
      have hL : Nat.blt (g.at g.next).next (@LIM (bnd (g.next + 1))) = true := by rw [Nat.blt_eq]; exact Nat.lt_succ_self _
      rw [hL, show Nat.blt j (g.at g.next).next = true from hlt, hc]
      rw [show Nat.beq 0 0 = true from rfl]
      simp only [Bool.and_self, cond_true, GH.at, hlt, lenN_length, T5.get_set', if_true]
      rfl
    · have hget : ∀ j, G.get j = if g.next = j then slackOb (vs ++ new) t fam else g.get j := GH.get_push ho (slackOb (vs ++ new) t fam)
      refine ⟨rfl, rfl, fun i hi => ho i (Nat.le_trans (Nat.le_succ _) hi), fun i hi => by rw [hget, if_neg (by omega)], fun f hf => ?_, .inr ⟨g.next, fam, by simp, by rw [List.length_append, hml, hnl, Nat.add_mul], Nat.lt_succ_self _, by rw [hget, if_pos rfl], by simp [hne], h5, by omega, ?_⟩⟩
      · show (T5.set (T5.set g.fams fam (g.fams fam)) fam ((g.next, (vs ++ new).length) :: g.fams fam)) f = _
        rw [T5.get_set', T5.get_set', if_neg (by omega), if_neg (by omega)]
      · show ∀ x ∈ (T5.set (T5.set g.fams fam (g.fams fam)) fam ((g.next, (vs ++ new).length) :: g.fams fam)) fam, _
        rw [T5.get_set', if_pos rfl]
        intro x hx
        rcases List.mem_cons.1 hx with rfl | hx
        · exact Nat.le_refl _
        · have := h7 x hx
          simp; omega
theorem AppD.ownS {t tx : TypeId} {sz b m n c jx : Nat} {sv : Value} {vs new : List Value} {base lw : Nat} (hown : OwnS g sv sz m vs t base) (hjx : g.get jx = cellsOb new tx) (hnl : new.length = n * sz) (hn : 0 < n) (hz0 : 0 < sz)
    (hc : new.all cellV = true) (hsz : (m + n) * (b + 1) ≤ 1073741824) (hb : base ≤ g.next) (hlo : lw ≤ lo) (hlw : lw ≤ base) (ho : g.ok)
    (h : ∀ s' g' lo' sp wr, GrewS g g' s' sz (m + n) (vs ++ new) t base → lw ≤ lo' → Wk P X Q (.R l (k + 1) sp wr ks (putE e dd s') g' lo')) : AppD P X Q t sz b sv (.slice (some ⟨jx, 0, Option.none⟩) n c) [] dd l k sp wr ks e g lo := fun y z hy hz =>
  GR.appS rfl hy hz hown hjx hnl hn hz0 hc hsz hb hlo hlw ho fun s' g' lo' sp wr hg hl => (h s' g' lo' sp wr hg hl).R
end
end Go.Ds
set_option maxRecDepth 100000
set_option maxHeartbeats 4000000
set_option linter.unusedSimpArgs false
set_option linter.unusedVariables false
namespace Go.Proofs.YtngmaccaldhjcaaDoor
open Go.Ds
/-- The numbers of the steps, and how many steps there are. -/
def uI (i k : Nat) : Int := if i = k then 1 else 0
def stpV (i f : Nat) : List Value := [.int .i64 (uI i 0 - uI f 0), .int .i64 (uI i 1 - uI f 1), .int .i64 (uI i 2 - uI f 2)]
def stpC (b f : Nat) : Nat → List Value
  | 0 => []
  | i + 1 => if b.testBit i = true ∧ i ≠ f then stpC b f i ++ stpV i f else stpC b f i
def stpN (b f : Nat) : Nat → Nat
  | 0 => 0
  | i + 1 => if b.testBit i = true ∧ i ≠ f then stpN b f i + 1 else stpN b f i
theorem stpN_le (b f : Nat) : ∀ i, stpN b f i ≤ i
  | 0 => Nat.le_refl _
  | i + 1 => by unfold stpN; have := stpN_le b f i; split <;> omega
theorem tzN_lt {x : Nat} (h1 : 1 ≤ x) (h7 : x ≤ 7) : tzN x < 3 := by
  obtain rfl | rfl | rfl | rfl | rfl | rfl | rfl : x = 1 ∨ x = 2 ∨ x = 3 ∨ x = 4 ∨ x = 5 ∨ x = 6 ∨ x = 7 := by omega
  all_goals decide
theorem uI_sm (i k : Nat) : 0 ≤ uI i k ∧ uI i k ≤ 1 := by unfold uI; split <;> omega
theorem bslV (x y z a b c : Value) : bsl 3 #[x, y, z] [(0, .agg #[a, b, c])] = some #[a, b, c] := rfl
theorem steps_rets {X : Caller} (hX : Xok X) (n : Nat) (hn : n ≤ 3) (m00 m01 m02 m10 m11 m12 m20 m21 m22 x0 x1 x2 d : Int) (hm : Sm9 m00 m01 m02 m10 m11 m12 m20 m21 m22) (hx : Sm 10000 x0 ∧ Sm 10000 x1 ∧ Sm 10000 x2) (hf : 1 ≤ fashF (v3 x0 x1 x2) 3) (g : GH) (hT : HasTab g) :
    Rets Tryd.prog X 83 [mkV n m00 m01 m02 m10 m11 m12 m20 m21 m22, mxV x0 x1 x2 d] g (fun v g' lo => g.next ≤ lo ∧ Kept g g' ∧ OwnS g' v 3 (stpN (bestS (rowG m00 m01 m02 m10 m11 m12 m20 m21 m22 x0 x1 x2) n).1 (tzN (fashF (v3 x0 x1 x2) 3)) n) (stpC (bestS (rowG m00 m01 m02 m10 m11 m12 m20 m21 m22 x0 x1 x2) n).1 (tzN (fashF (v3 x0 x1 x2) 3)) n) 67 g.next) := by
  have hb := fun g' => best_rets hX n hn m00 m01 m02 m10 m11 m12 m20 m21 m22 x0 x1 x2 d hm hx g'
  have hfa := fun g' => fashions_rets hX x0 x1 x2 d g'
  have hflt := fashF_lt (v3 x0 x1 x2) 3
  have hblt := bestS_lt (rowG m00 m01 m02 m10 m11 m12 m20 m21 m22 x0 x1 x2) n
  have hn8 : 2 ^ n ≤ 8 := two_pow3 hn
  obtain ⟨F, hF⟩ : ∃ F, fashF (v3 x0 x1 x2) 3 = F := ⟨_, rfl⟩
  obtain ⟨B, hB⟩ : ∃ B, (bestS (rowG m00 m01 m02 m10 m11 m12 m20 m21 m22 x0 x1 x2) n).1 = B := ⟨_, rfl⟩
  rw [hF] at hfa hf hflt ⊢
  rw [hB] at hb hblt ⊢
  have hz := tzN_lt hf (by omega)
  have htz := fun G h => hX.tz G F h hf (by omega)
  obtain ⟨Z, hZ⟩ : ∃ Z, tzN F = Z := ⟨_, rfl⟩
  rw [hZ] at hz htz ⊢
  unfold mkV mxV at *
  refine Rets.run hX.pres p83 (hX.free 83 (by decide) _ _) rfl fun ho => ?_
  simp +decide (disch := first | assumption | exact cellV_int _ _ | exact cellV_bool _ | omega | (simp only [GH.pn, GH.sn] <;> omega) | (with_reducible ((repeat (first | apply GH.ok_push | apply GH.ok_set)); assumption)) | ((try simp only [GH.push_hid, GH.set_hid]); first | assumption | (refine GH.vis ?_ ?_ <;> first | assumption | ((try simp only [GH.pn, GH.sn]) <;> omega)))) only [go_sem, ↓reduceIte, Nat.reduceEqDiff, Nat.reduceAdd, Int.reduceToNat, Int.reduceAdd, Int.reduceNeg, Int.reduceSub, Int.reduceMul, Int.reduceLT, Int.reduceLE, Int.reduceEq, ↓GH.gp_eq, ↓GH.gp_ne, ↓GH.gs_eq, ↓GH.gs_ne, GH.push_next, GH.set_next]
  refine CallD.name fun H hH => ?_
  have hnH : H.next = g.next + 1 + 1 := by rw [hH]; rfl
  have hokH : H.ok := by rw [hH]; exact GH.ok_push (GH.ok_push ho)
  have hkH : Kept g H := by rw [hH]; exact (by (repeat' first | exact Kept.refl _ | assumption | refine Kept.push ?_ ?_ _ | refine Kept.setV ?_ ?_ ?_ _) <;> (first | assumption | exact cellV_int _ _ | exact cellV_bool _ | omega | (simp only [GH.pn, GH.sn] <;> omega) | (with_reducible ((repeat (first | apply GH.ok_push | apply GH.ok_set)); assumption)) | ((try simp only [GH.push_hid, GH.set_hid]); first | assumption | (refine GH.vis ?_ ?_ <;> first | assumption | ((try simp only [GH.pn, GH.sn]) <;> omega)))))
  have hA : H.get g.next = cellsOb [.int .i64 n, .int .i64 m00, .int .i64 m01, .int .i64 m02, .int .i64 m10, .int .i64 m11, .int .i64 m12, .int .i64 m20, .int .i64 m21, .int .i64 m22] 73 := by rw [hH]; exact (by simp (disch := first | assumption | exact cellV_int _ _ | exact cellV_bool _ | omega | (simp only [GH.pn, GH.sn] <;> omega) | (with_reducible ((repeat (first | apply GH.ok_push | apply GH.ok_set)); assumption)) | ((try simp only [GH.push_hid, GH.set_hid]); first | assumption | (refine GH.vis ?_ ?_ <;> first | assumption | ((try simp only [GH.pn, GH.sn]) <;> omega)))) only [↓GH.gp_eq, ↓GH.gp_ne, ↓GH.gs_eq, ↓GH.gs_ne, GH.push_next, GH.set_next]; first | done | exact rfl)
  have hC : H.get (g.next + 1) = cellsOb [.int .i64 x0, .int .i64 x1, .int .i64 x2, .int .i64 d] 69 := by rw [hH]; exact (by simp (disch := first | assumption | exact cellV_int _ _ | exact cellV_bool _ | omega | (simp only [GH.pn, GH.sn] <;> omega) | (with_reducible ((repeat (first | apply GH.ok_push | apply GH.ok_set)); assumption)) | ((try simp only [GH.push_hid, GH.set_hid]); first | assumption | (refine GH.vis ?_ ?_ <;> first | assumption | ((try simp only [GH.pn, GH.sn]) <;> omega)))) only [↓GH.gp_eq, ↓GH.gp_ne, ↓GH.gs_eq, ↓GH.gs_ne, GH.push_next, GH.set_next]; first | done | exact rfl)
  refine CallD.calm (hb H) ?_
  rintro v g1 hx1 rfl
  have hn1 := hx1.next
  have hok1 := hx1.ok hokH
  have hk1 := hkH.ext hx1
  have hA1 := (hx1.gets g.next (by omega)).trans hA
  have hC1 := (hx1.gets (g.next + 1) (by omega)).trans hC
  have hcv : convF .u64 (.int .i64 (F : Int)) = some (.int .u64 (F : Int)) := by
    have h8 : F < 8 := by omega
    obtain rfl | rfl | rfl | rfl | rfl | rfl | rfl : F = 1 ∨ F = 2 ∨ F = 3 ∨ F = 4 ∨ F = 5 ∨ F = 6 ∨ F = 7 := by omega
    all_goals rfl
  simp +decide (disch := first | assumption | exact cellV_int _ _ | exact cellV_bool _ | omega | (simp only [GH.pn, GH.sn] <;> omega) | (with_reducible ((repeat (first | apply GH.ok_push | apply GH.ok_set)); assumption)) | ((try simp only [GH.push_hid, GH.set_hid]); first | assumption | (refine GH.vis ?_ ?_ <;> first | assumption | ((try simp only [GH.pn, GH.sn]) <;> omega)))) only [go_sem, ↓reduceIte, Nat.reduceEqDiff, Nat.reduceAdd, Int.reduceToNat, Int.reduceAdd, Int.reduceNeg, Int.reduceSub, Int.reduceMul, Int.reduceLT, Int.reduceLE, Int.reduceEq, ↓GH.gp_eq, ↓GH.gp_ne, ↓GH.gs_eq, ↓GH.gs_ne, GH.push_next, GH.set_next, hC1]
  refine CallD.calm (hfa g1) ?_
  rintro v g2 hx2 rfl
  have hn2 := hx2.next
  have hok2 := hx2.ok hok1
  have hk2 := hk1.ext hx2
  have hA2 := (hx2.gets g.next (by omega)).trans hA1
  simp +decide (disch := first | assumption | exact cellV_int _ _ | exact cellV_bool _ | omega | (simp only [GH.pn, GH.sn] <;> omega) | (with_reducible ((repeat (first | apply GH.ok_push | apply GH.ok_set)); assumption)) | ((try simp only [GH.push_hid, GH.set_hid]); first | assumption | (refine GH.vis ?_ ?_ <;> first | assumption | ((try simp only [GH.pn, GH.sn]) <;> omega)))) only [go_sem, ↓reduceIte, Nat.reduceEqDiff, Nat.reduceAdd, Int.reduceToNat, Int.reduceAdd, Int.reduceNeg, Int.reduceSub, Int.reduceMul, Int.reduceLT, Int.reduceLE, Int.reduceEq, ↓GH.gp_eq, ↓GH.gp_ne, ↓GH.gs_eq, ↓GH.gs_ne, GH.push_next, GH.set_next, hcv]
  refine CallD.calm (htz g2 (hT.kept hk2)) ?_
  rintro v g3 hx3 rfl
  have hn3 := hx3.next
  have hok3 := hx3.ok hok2
  have hk3 := hk2.ext hx3
  have hA3 := (hx3.gets g.next (by omega)).trans hA2
  simp +decide (disch := first | assumption | exact cellV_int _ _ | exact cellV_bool _ | omega | (simp only [GH.pn, GH.sn] <;> omega) | (with_reducible ((repeat (first | apply GH.ok_push | apply GH.ok_set)); assumption)) | ((try simp only [GH.push_hid, GH.set_hid]); first | assumption | (refine GH.vis ?_ ?_ <;> first | assumption | ((try simp only [GH.pn, GH.sn]) <;> omega)))) only [go_sem, ↓reduceIte, Nat.reduceEqDiff, Nat.reduceAdd, Int.reduceToNat, Int.reduceAdd, Int.reduceNeg, Int.reduceSub, Int.reduceMul, Int.reduceLT, Int.reduceLE, Int.reduceEq, ↓GH.gp_eq, ↓GH.gp_ne, ↓GH.gs_eq, ↓GH.gs_ne, GH.push_next, GH.set_next, hA3]
  refine Wk.loops (fun m e g' lo => g.next ≤ lo ∧ Kept g g' ∧ ∃ i : Nat, i + m = n ∧ (ev e (.s 5) = .int .i64 (B : Int) ∧ ev e (.s 6) = .int .i64 (Z : Int) ∧ ev e (.s 17) = .int .i64 (n : Int) ∧ ev e (.s 18) = .int .i64 i) ∧ ∃ o, ev e (.s 7) = o ∧ OwnS g' o 3 (stpN B Z i) (stpC B Z i) 67 g.next)
    (fun e g' lo => g.next ≤ lo ∧ Kept g g' ∧ ∃ o, ev e (.s 7) = o ∧ OwnS g' o 3 (stpN B Z n) (stpC B Z n) 67 g.next) (n := n) ?_ ?_ ?_
  · exact ⟨by omega, hk3, 0, by omega, (by simp +decide (disch := first | assumption | (apply GH.ok_push; assumption) | exact cellV_int _ _ | exact cellV_bool _ | omega) only [go_sem, ↓reduceIte, Nat.reduceEqDiff, Nat.reduceAdd, Int.reduceToNat]; first | done | exact rfl), .slice none 0 0, (by simp +decide (disch := first | assumption | (apply GH.ok_push; assumption) | exact cellV_int _ _ | exact cellV_bool _ | omega) only [go_sem, ↓reduceIte, Nat.reduceEqDiff, Nat.reduceAdd, Int.reduceToNat]; first | done | exact rfl), OwnS.nil⟩
  · rintro e g' lo - - ⟨hlo, hk, o, h7, hown⟩
    simp +decide (disch := first | assumption | exact cellV_int _ _ | exact cellV_bool _ | omega | (simp only [GH.pn, GH.sn] <;> omega) | (with_reducible ((repeat (first | apply GH.ok_push | apply GH.ok_set)); assumption)) | ((try simp only [GH.push_hid, GH.set_hid]); first | assumption | (refine GH.vis ?_ ?_ <;> first | assumption | ((try simp only [GH.pn, GH.sn]) <;> omega)))) only [go_sem, ↓reduceIte, Nat.reduceEqDiff, Nat.reduceAdd, Int.reduceToNat, Int.reduceAdd, Int.reduceNeg, Int.reduceSub, Int.reduceMul, Int.reduceLT, Int.reduceLE, Int.reduceEq, ↓GH.gp_eq, ↓GH.gp_ne, ↓GH.gs_eq, ↓GH.gs_ne, GH.push_next, GH.set_next, h7]
    intro hx0
    exact ⟨hlo, hk, hown⟩
  · rintro m e g' lo ho' hl' ih out ⟨hlo, hk, i, hi, he, o, h7, hown⟩
    have hkn := hk.next
    by_cases ci : i < n
    · have ci' : (i : Int) < n := by omega
      simp +decide (disch := first | assumption | exact cellV_int _ _ | exact cellV_bool _ | omega | (simp only [GH.pn, GH.sn] <;> omega) | (with_reducible ((repeat (first | apply GH.ok_push | apply GH.ok_set)); assumption)) | ((try simp only [GH.push_hid, GH.set_hid]); first | assumption | (refine GH.vis ?_ ?_ <;> first | assumption | ((try simp only [GH.pn, GH.sn]) <;> omega)))) only [go_sem, ↓reduceIte, Nat.reduceEqDiff, Nat.reduceAdd, Int.reduceToNat, Int.reduceAdd, Int.reduceNeg, Int.reduceSub, Int.reduceMul, Int.reduceLT, Int.reduceLE, Int.reduceEq, ↓GH.gp_eq, ↓GH.gp_ne, ↓GH.gs_eq, ↓GH.gs_ne, GH.push_next, GH.set_next, he, ci']
      refine CallD.calm (has_rets hX B i (by omega) (by omega) g') ?_
      rintro v g4 hx4 rfl
      have hn4 := hx4.next
      have hok4 := hx4.ok ho'
      have hk4 := hk.ext hx4
      have ho4 := hown.kept hx4.kept
      cases hB2 : B.testBit i with
      | false =>
        simp +decide (disch := first | assumption | exact cellV_int _ _ | exact cellV_bool _ | omega | (simp only [GH.pn, GH.sn] <;> omega) | (with_reducible ((repeat (first | apply GH.ok_push | apply GH.ok_set)); assumption)) | ((try simp only [GH.push_hid, GH.set_hid]); first | assumption | (refine GH.vis ?_ ?_ <;> first | assumption | ((try simp only [GH.pn, GH.sn]) <;> omega)))) only [go_sem, ↓reduceIte, Nat.reduceEqDiff, Nat.reduceAdd, Int.reduceToNat, Int.reduceAdd, Int.reduceNeg, Int.reduceSub, Int.reduceMul, Int.reduceLT, Int.reduceLE, Int.reduceEq, ↓GH.gp_eq, ↓GH.gp_ne, ↓GH.gs_eq, ↓GH.gs_ne, GH.push_next, GH.set_next, he]
        refine ih (m - 1) _ _ _ (by omega) ⟨hlo, hk4, i + 1, by omega, (by simp +decide (disch := first | assumption | (apply GH.ok_push; assumption) | exact cellV_int _ _ | exact cellV_bool _ | omega) only [go_sem, ↓reduceIte, Nat.reduceEqDiff, Nat.reduceAdd, Int.reduceToNat, he]; first | done | exact rfl), o, (by simp +decide (disch := first | assumption | (apply GH.ok_push; assumption) | exact cellV_int _ _ | exact cellV_bool _ | omega) only [go_sem, ↓reduceIte, Nat.reduceEqDiff, Nat.reduceAdd, Int.reduceToNat, h7]; first | done | exact rfl), ?_⟩
        unfold stpN stpC
        rw [hB2, if_neg (by simp), if_neg (by simp)]
        exact ho4
      | true =>
        by_cases c : i = Z
        · have c' : (i : Int) = Z := by omega
          simp +decide (disch := first | assumption | exact cellV_int _ _ | exact cellV_bool _ | omega | (simp only [GH.pn, GH.sn] <;> omega) | (with_reducible ((repeat (first | apply GH.ok_push | apply GH.ok_set)); assumption)) | ((try simp only [GH.push_hid, GH.set_hid]); first | assumption | (refine GH.vis ?_ ?_ <;> first | assumption | ((try simp only [GH.pn, GH.sn]) <;> omega)))) only [go_sem, ↓reduceIte, Nat.reduceEqDiff, Nat.reduceAdd, Int.reduceToNat, Int.reduceAdd, Int.reduceNeg, Int.reduceSub, Int.reduceMul, Int.reduceLT, Int.reduceLE, Int.reduceEq, ↓GH.gp_eq, ↓GH.gp_ne, ↓GH.gs_eq, ↓GH.gs_ne, GH.push_next, GH.set_next, he, c']
          refine ih (m - 1) _ _ _ (by omega) ⟨hlo, hk4, i + 1, by omega, (by simp +decide (disch := first | assumption | (apply GH.ok_push; assumption) | exact cellV_int _ _ | exact cellV_bool _ | omega) only [go_sem, ↓reduceIte, Nat.reduceEqDiff, Nat.reduceAdd, Int.reduceToNat, he, c']; first | done | exact rfl), o, (by simp +decide (disch := first | assumption | (apply GH.ok_push; assumption) | exact cellV_int _ _ | exact cellV_bool _ | omega) only [go_sem, ↓reduceIte, Nat.reduceEqDiff, Nat.reduceAdd, Int.reduceToNat, h7]; first | done | exact rfl), ?_⟩
          unfold stpN stpC
          rw [hB2, if_neg (by simp [c]), if_neg (by simp [c])]
          exact ho4
        · have c' : ¬ (i : Int) = Z := by omega
          simp +decide (disch := first | assumption | exact cellV_int _ _ | exact cellV_bool _ | omega | (simp only [GH.pn, GH.sn] <;> omega) | (with_reducible ((repeat (first | apply GH.ok_push | apply GH.ok_set)); assumption)) | ((try simp only [GH.push_hid, GH.set_hid]); first | assumption | (refine GH.vis ?_ ?_ <;> first | assumption | ((try simp only [GH.pn, GH.sn]) <;> omega)))) only [go_sem, ↓reduceIte, Nat.reduceEqDiff, Nat.reduceAdd, Int.reduceToNat, Int.reduceAdd, Int.reduceNeg, Int.reduceSub, Int.reduceMul, Int.reduceLT, Int.reduceLE, Int.reduceEq, ↓GH.gp_eq, ↓GH.gp_ne, ↓GH.gs_eq, ↓GH.gs_ne, GH.push_next, GH.set_next, he, h7, c']
          have w1 := alone_rets hX i (by omega) g4
          have w2 := fun G => alone_rets hX Z (by omega) G
          have w3 := fun G => minus_rets hX (uI i 0) (uI i 1) (uI i 2) (uI Z 0) (uI Z 1) (uI Z 2) (by have h0 := uI_sm i 0; have h1 := uI_sm i 1; have h2 := uI_sm i 2; unfold Sm; omega) (by have h0 := uI_sm Z 0; have h1 := uI_sm Z 1; have h2 := uI_sm Z 2; unfold Sm; omega) G
          have u1 : vcV (if i = 0 then 1 else 0) (if i = 1 then 1 else 0) (if i = 2 then 1 else 0) = vcV (uI i 0) (uI i 1) (uI i 2) := rfl
          have u2 : vcV (if Z = 0 then 1 else 0) (if Z = 1 then 1 else 0) (if Z = 2 then 1 else 0) = vcV (uI Z 0) (uI Z 1) (uI Z 2) := rfl
          rw [u1] at w1
          rw [u2] at w2
          refine CallD.calm w1 ?_
          rintro v g5 hx5 rfl
          have hn5 := hx5.next
          have hok5 := hx5.ok hok4
          simp +decide (disch := first | assumption | exact cellV_int _ _ | exact cellV_bool _ | omega | (simp only [GH.pn, GH.sn] <;> omega) | (with_reducible ((repeat (first | apply GH.ok_push | apply GH.ok_set)); assumption)) | ((try simp only [GH.push_hid, GH.set_hid]); first | assumption | (refine GH.vis ?_ ?_ <;> first | assumption | ((try simp only [GH.pn, GH.sn]) <;> omega)))) only [go_sem, ↓reduceIte, Nat.reduceEqDiff, Nat.reduceAdd, Int.reduceToNat, Int.reduceAdd, Int.reduceNeg, Int.reduceSub, Int.reduceMul, Int.reduceLT, Int.reduceLE, Int.reduceEq, ↓GH.gp_eq, ↓GH.gp_ne, ↓GH.gs_eq, ↓GH.gs_ne, GH.push_next, GH.set_next, he]
          refine CallD.calm (w2 g5) ?_
          rintro v g6 hx6 rfl
          have hn6 := hx6.next
          have hok6 := hx6.ok hok5
          simp +decide (disch := first | assumption | exact cellV_int _ _ | exact cellV_bool _ | omega | (simp only [GH.pn, GH.sn] <;> omega) | (with_reducible ((repeat (first | apply GH.ok_push | apply GH.ok_set)); assumption)) | ((try simp only [GH.push_hid, GH.set_hid]); first | assumption | (refine GH.vis ?_ ?_ <;> first | assumption | ((try simp only [GH.pn, GH.sn]) <;> omega)))) only [go_sem, ↓reduceIte, Nat.reduceEqDiff, Nat.reduceAdd, Int.reduceToNat, Int.reduceAdd, Int.reduceNeg, Int.reduceSub, Int.reduceMul, Int.reduceLT, Int.reduceLE, Int.reduceEq, ↓GH.gp_eq, ↓GH.gp_ne, ↓GH.gs_eq, ↓GH.gs_ne, GH.push_next, GH.set_next, he]
          refine CallD.calm (w3 g6) ?_
          rintro v g7 hx7 rfl
          have hn7 := hx7.next
          have hok7 := hx7.ok hok6
          unfold vcV
          simp +decide (disch := first | assumption | exact cellV_int _ _ | exact cellV_bool _ | omega | (simp only [GH.pn, GH.sn] <;> omega) | (with_reducible ((repeat (first | apply GH.ok_push | apply GH.ok_set)); assumption)) | ((try simp only [GH.push_hid, GH.set_hid]); first | assumption | (refine GH.vis ?_ ?_ <;> first | assumption | ((try simp only [GH.pn, GH.sn]) <;> omega)))) only [go_sem, ↓reduceIte, Nat.reduceEqDiff, Nat.reduceAdd, Int.reduceToNat, Int.reduceAdd, Int.reduceNeg, Int.reduceSub, Int.reduceMul, Int.reduceLT, Int.reduceLE, Int.reduceEq, ↓GH.gp_eq, ↓GH.gp_ne, ↓GH.gs_eq, ↓GH.gs_ne, GH.push_next, GH.set_next, he, bslV]
          have hkp := ((hx5.kept.ext hx6).ext hx7).push hok7 (cellsOb (stpV i Z) 67)
          refine AppD.ownS (lw := g.next) (new := stpV i Z) (tx := 67) (ho4.kept hkp) (by rw [GH.gp_eq hok7 rfl]; rfl) rfl (by omega) (by omega) rfl (by have := stpN_le B Z i; omega) (by simp only [GH.push_next]; omega) hlo (Nat.le_refl _) (GH.ok_push hok7) (fun s' g8 lo8 sp wr hgr hlo8 => ?_)
          simp +decide (disch := first | assumption | (apply GH.ok_push; assumption) | exact cellV_int _ _ | exact cellV_bool _ | omega) only [go_sem, ↓reduceIte, Nat.reduceEqDiff, Nat.reduceAdd, Int.reduceToNat, he]
          refine ih (m - 1) _ _ _ (by omega) ⟨hlo8, (hk4.trans hkp).grewS hgr (Nat.le_refl _), i + 1, by omega, (by simp +decide (disch := first | assumption | (apply GH.ok_push; assumption) | exact cellV_int _ _ | exact cellV_bool _ | omega) only [go_sem, ↓reduceIte, Nat.reduceEqDiff, Nat.reduceAdd, Int.reduceToNat, he]; first | done | exact rfl), s', (by simp +decide (disch := first | assumption | (apply GH.ok_push; assumption) | exact cellV_int _ _ | exact cellV_bool _ | omega) only [go_sem, ↓reduceIte, Nat.reduceEqDiff, Nat.reduceAdd, Int.reduceToNat]; first | done | exact rfl), ?_⟩
          unfold stpN stpC
          rw [if_pos ⟨hB2, c⟩, if_pos ⟨hB2, c⟩]
          exact hgr.own
    · have ci' : ¬ (i : Int) < n := by omega
      simp +decide (disch := first | assumption | exact cellV_int _ _ | exact cellV_bool _ | omega | (simp only [GH.pn, GH.sn] <;> omega) | (with_reducible ((repeat (first | apply GH.ok_push | apply GH.ok_set)); assumption)) | ((try simp only [GH.push_hid, GH.set_hid]); first | assumption | (refine GH.vis ?_ ?_ <;> first | assumption | ((try simp only [GH.pn, GH.sn]) <;> omega)))) only [go_sem, ↓reduceIte, Nat.reduceEqDiff, Nat.reduceAdd, Int.reduceToNat, Int.reduceAdd, Int.reduceNeg, Int.reduceSub, Int.reduceMul, Int.reduceLT, Int.reduceLE, Int.reduceEq, ↓GH.gp_eq, ↓GH.gp_ne, ↓GH.gs_eq, ↓GH.gs_ne, GH.push_next, GH.set_next, he, ci']
      have : i = n := by omega
      subst this
      exact out _ _ _ ⟨hlo, hk, o, (by simp +decide (disch := first | assumption | (apply GH.ok_push; assumption) | exact cellV_int _ _ | exact cellV_bool _ | omega) only [go_sem, ↓reduceIte, Nat.reduceEqDiff, Nat.reduceAdd, Int.reduceToNat, h7]; first | done | exact rfl), hown⟩
end Go.Proofs.YtngmaccaldhjcaaDoor
set_option maxRecDepth 100000
set_option maxHeartbeats 4000000
set_option linter.unusedSimpArgs false
set_option linter.unusedVariables false
namespace Go.Proofs.YtngmaccaldhjcaaDoor
open Go.Ds
theorem obl3 (a b c : Value) (t : TypeId) (f : Nat) : obLoad (some 3) (slackOb [a, b, c] t f) 0 = some (.agg #[a, b, c]) := rfl
theorem lasts_rets {X : Caller} (hX : Xok X) (n : Nat) (hn : n ≤ 3) (m00 m01 m02 m10 m11 m12 m20 m21 m22 x0 x1 x2 d : Int) (hm : Sm9 m00 m01 m02 m10 m11 m12 m20 m21 m22) (hx : Sm 10000 x0 ∧ Sm 10000 x1 ∧ Sm 10000 x2) (hf : 1 ≤ fashF (v3 x0 x1 x2) 3) (B Z : Nat) (hB : (bestS (rowG m00 m01 m02 m10 m11 m12 m20 m21 m22 x0 x1 x2) n).1 = B) (hZ : tzN (fashF (v3 x0 x1 x2) 3) = Z) (lb : Bool)
    (hst : (stpN B Z n = 0 ∧ stpC B Z n = [] ∧ lb = true) ∨ ∃ i, i < 3 ∧ stpN B Z n = 1 ∧ stpC B Z n = stpV i Z ∧ lb = decide (gainZ m00 m01 m02 m10 m11 m12 m20 m21 m22 (uI i 0 - uI Z 0) (uI i 1 - uI Z 1) (uI i 2 - uI Z 2) (uI i 0 - uI Z 0) (uI i 1 - uI Z 1) (uI i 2 - uI Z 2) < 0)) (g : GH) (hT : HasTab g) :
    Rets Tryd.prog X 63 [mkV n m00 m01 m02 m10 m11 m12 m20 m21 m22, mxV x0 x1 x2 d] g (fun v g' lo => g.next ≤ lo ∧ v = .bool (decide (andn (fashF (v3 x0 x1 x2) 3) B = 0) && lb)) := by
  have hr := fun g' => atRest_rets hX n hn m00 m01 m02 m10 m11 m12 m20 m21 m22 x0 x1 x2 d hm hx g'
  have hs := fun g' h => steps_rets hX n hn m00 m01 m02 m10 m11 m12 m20 m21 m22 x0 x1 x2 d hm hx hf g' h
  rw [hB] at hr hs
  rw [hZ] at hs
  obtain ⟨R, hR⟩ : ∃ R, decide (andn (fashF (v3 x0 x1 x2) 3) B = 0) = R := ⟨_, rfl⟩
  rw [hR] at hr ⊢
  unfold mkV mxV at *
  refine Rets.run hX.pres p63 (hX.free 63 (by decide) _ _) rfl fun ho => ?_
  simp +decide (disch := first | assumption | exact cellV_int _ _ | exact cellV_bool _ | omega | (simp only [GH.pn, GH.sn] <;> omega) | (with_reducible ((repeat (first | apply GH.ok_push | apply GH.ok_set)); assumption)) | ((try simp only [GH.push_hid, GH.set_hid]); first | assumption | (refine GH.vis ?_ ?_ <;> first | assumption | ((try simp only [GH.pn, GH.sn]) <;> omega)))) only [go_sem, ↓reduceIte, Nat.reduceEqDiff, Nat.reduceAdd, Int.reduceToNat, Int.reduceAdd, Int.reduceNeg, Int.reduceSub, Int.reduceMul, Int.reduceLT, Int.reduceLE, Int.reduceEq, ↓GH.gp_eq, ↓GH.gp_ne, ↓GH.gs_eq, ↓GH.gs_ne, GH.push_next, GH.set_next]
  refine CallD.name fun H hH => ?_
  have hnH : H.next = g.next + 1 + 1 := by rw [hH]; rfl
  have hokH : H.ok := by rw [hH]; exact GH.ok_push (GH.ok_push ho)
  have hkH : Kept g H := by rw [hH]; exact (by (repeat' first | exact Kept.refl _ | assumption | refine Kept.push ?_ ?_ _ | refine Kept.setV ?_ ?_ ?_ _) <;> (first | assumption | exact cellV_int _ _ | exact cellV_bool _ | omega | (simp only [GH.pn, GH.sn] <;> omega) | (with_reducible ((repeat (first | apply GH.ok_push | apply GH.ok_set)); assumption)) | ((try simp only [GH.push_hid, GH.set_hid]); first | assumption | (refine GH.vis ?_ ?_ <;> first | assumption | ((try simp only [GH.pn, GH.sn]) <;> omega)))))
  have hA : H.get g.next = cellsOb [.int .i64 n, .int .i64 m00, .int .i64 m01, .int .i64 m02, .int .i64 m10, .int .i64 m11, .int .i64 m12, .int .i64 m20, .int .i64 m21, .int .i64 m22] 73 := by rw [hH]; exact (by simp (disch := first | assumption | exact cellV_int _ _ | exact cellV_bool _ | omega | (simp only [GH.pn, GH.sn] <;> omega) | (with_reducible ((repeat (first | apply GH.ok_push | apply GH.ok_set)); assumption)) | ((try simp only [GH.push_hid, GH.set_hid]); first | assumption | (refine GH.vis ?_ ?_ <;> first | assumption | ((try simp only [GH.pn, GH.sn]) <;> omega)))) only [↓GH.gp_eq, ↓GH.gp_ne, ↓GH.gs_eq, ↓GH.gs_ne, GH.push_next, GH.set_next]; first | done | exact rfl)
  have hC : H.get (g.next + 1) = cellsOb [.int .i64 x0, .int .i64 x1, .int .i64 x2, .int .i64 d] 69 := by rw [hH]; exact (by simp (disch := first | assumption | exact cellV_int _ _ | exact cellV_bool _ | omega | (simp only [GH.pn, GH.sn] <;> omega) | (with_reducible ((repeat (first | apply GH.ok_push | apply GH.ok_set)); assumption)) | ((try simp only [GH.push_hid, GH.set_hid]); first | assumption | (refine GH.vis ?_ ?_ <;> first | assumption | ((try simp only [GH.pn, GH.sn]) <;> omega)))) only [↓GH.gp_eq, ↓GH.gp_ne, ↓GH.gs_eq, ↓GH.gs_ne, GH.push_next, GH.set_next]; first | done | exact rfl)
  refine CallD.calm (hr H) ?_
  rintro v g1 hx1 rfl
  have hn1 := hx1.next
  have hok1 := hx1.ok hokH
  have hk1 := hkH.ext hx1
  have hA1 := (hx1.gets g.next (by omega)).trans hA
  have hC1 := (hx1.gets (g.next + 1) (by omega)).trans hC
  cases R with
  | false =>
    simp +decide (disch := first | assumption | exact cellV_int _ _ | exact cellV_bool _ | omega | (simp only [GH.pn, GH.sn] <;> omega) | (with_reducible ((repeat (first | apply GH.ok_push | apply GH.ok_set)); assumption)) | ((try simp only [GH.push_hid, GH.set_hid]); first | assumption | (refine GH.vis ?_ ?_ <;> first | assumption | ((try simp only [GH.pn, GH.sn]) <;> omega)))) only [go_sem, ↓reduceIte, Nat.reduceEqDiff, Nat.reduceAdd, Int.reduceToNat, Int.reduceAdd, Int.reduceNeg, Int.reduceSub, Int.reduceMul, Int.reduceLT, Int.reduceLE, Int.reduceEq, ↓GH.gp_eq, ↓GH.gp_ne, ↓GH.gs_eq, ↓GH.gs_ne, GH.push_next, GH.set_next]
    intro hx0
    exact ⟨by omega, rfl⟩
  | true =>
    rw [Bool.true_and]
    simp +decide (disch := first | assumption | exact cellV_int _ _ | exact cellV_bool _ | omega | (simp only [GH.pn, GH.sn] <;> omega) | (with_reducible ((repeat (first | apply GH.ok_push | apply GH.ok_set)); assumption)) | ((try simp only [GH.push_hid, GH.set_hid]); first | assumption | (refine GH.vis ?_ ?_ <;> first | assumption | ((try simp only [GH.pn, GH.sn]) <;> omega)))) only [go_sem, ↓reduceIte, Nat.reduceEqDiff, Nat.reduceAdd, Int.reduceToNat, Int.reduceAdd, Int.reduceNeg, Int.reduceSub, Int.reduceMul, Int.reduceLT, Int.reduceLE, Int.reduceEq, ↓GH.gp_eq, ↓GH.gp_ne, ↓GH.gs_eq, ↓GH.gs_ne, GH.push_next, GH.set_next, hA1, hC1]
    refine CallD.calm (R := fun v g2 => Kept g1 g2 ∧ OwnS g2 v 3 (stpN B Z n) (stpC B Z n) 67 g1.next) (hs g1 (hT.kept hk1)) ?_
    rintro w g2 hx2 ⟨hk12, hown⟩
    have hn2 := hx2.next
    have hok2 := hx2.ok hok1
    have hk2 := hk1.ext hx2
    have hA2 := (hx2.gets g.next (by omega)).trans hA1
    have hlw := hown.len
    rcases hst with ⟨s1, s2, rfl⟩ | ⟨i, hi, s1, s2, rfl⟩
    · rw [s1] at hlw
      simp +decide (disch := first | assumption | exact cellV_int _ _ | exact cellV_bool _ | omega | (simp only [GH.pn, GH.sn] <;> omega) | (with_reducible ((repeat (first | apply GH.ok_push | apply GH.ok_set)); assumption)) | ((try simp only [GH.push_hid, GH.set_hid]); first | assumption | (refine GH.vis ?_ ?_ <;> first | assumption | ((try simp only [GH.pn, GH.sn]) <;> omega)))) only [go_sem, ↓reduceIte, Nat.reduceEqDiff, Nat.reduceAdd, Int.reduceToNat, Int.reduceAdd, Int.reduceNeg, Int.reduceSub, Int.reduceMul, Int.reduceLT, Int.reduceLE, Int.reduceEq, ↓GH.gp_eq, ↓GH.gp_ne, ↓GH.gs_eq, ↓GH.gs_ne, GH.push_next, GH.set_next, hlw]
      repeat ((first | refine Wk.once ?_ | refine Wk.more (Wk.once ?_) | refine Wk.leave ?_); simp +decide (disch := first | assumption | exact cellV_int _ _ | exact cellV_bool _ | omega | (simp only [GH.pn, GH.sn] <;> omega) | (with_reducible ((repeat (first | apply GH.ok_push | apply GH.ok_set)); assumption)) | ((try simp only [GH.push_hid, GH.set_hid]); first | assumption | (refine GH.vis ?_ ?_ <;> first | assumption | ((try simp only [GH.pn, GH.sn]) <;> omega)))) only [go_sem, ↓reduceIte, Nat.reduceEqDiff, Nat.reduceAdd, Int.reduceToNat, Int.reduceAdd, Int.reduceNeg, Int.reduceSub, Int.reduceMul, Int.reduceLT, Int.reduceLE, Int.reduceEq, ↓GH.gp_eq, ↓GH.gp_ne, ↓GH.gs_eq, ↓GH.gs_ne, GH.push_next, GH.set_next, hlw])
      intro hx0
      exact ⟨by omega, rfl⟩
    · rw [s1, s2] at hown
      rw [s1] at hlw
      rcases hown with ⟨_, q, _⟩ | ⟨j, fam, rfl, q1, q2, q3, q4, q5, q6, q7⟩
      · exact absurd q (by unfold stpV; simp)
      · unfold stpV at q3
        have hga := fun G => gain_rets hX n m00 m01 m02 m10 m11 m12 m20 m21 m22 (uI i 0 - uI Z 0) (uI i 1 - uI Z 1) (uI i 2 - uI Z 2) (uI i 0 - uI Z 0) (uI i 1 - uI Z 1) (uI i 2 - uI Z 2) 10 10 20 hm (by have h0 := uI_sm i 0; have h1 := uI_sm i 1; have h2 := uI_sm i 2; have h3 := uI_sm Z 0; have h4 := uI_sm Z 1; have h5 := uI_sm Z 2; unfold Sm; omega) (by have h0 := uI_sm i 0; have h1 := uI_sm i 1; have h2 := uI_sm i 2; have h3 := uI_sm Z 0; have h4 := uI_sm Z 1; have h5 := uI_sm Z 2; unfold Sm; omega) (by decide) (by decide) G
        unfold mkV vcV at hga
        have hia : iaddrSF 3 (.slice (some ⟨j, 0, none⟩) 1 (OPEN + 3)) (.int .i64 0) = some (.pointer (some ⟨j, 0, none⟩)) := rfl
        have hob : obLoad (some 3) (g2.get j) 0 = some (.agg #[.int .i64 (uI i 0 - uI Z 0), .int .i64 (uI i 1 - uI Z 1), .int .i64 (uI i 2 - uI Z 2)]) := by rw [q3, obl3]
        simp +decide (disch := first | assumption | exact cellV_int _ _ | exact cellV_bool _ | omega | (simp only [GH.pn, GH.sn] <;> omega) | (with_reducible ((repeat (first | apply GH.ok_push | apply GH.ok_set)); assumption)) | ((try simp only [GH.push_hid, GH.set_hid]); first | assumption | (refine GH.vis ?_ ?_ <;> first | assumption | ((try simp only [GH.pn, GH.sn]) <;> omega)))) only [go_sem, ↓reduceIte, Nat.reduceEqDiff, Nat.reduceAdd, Int.reduceToNat, Int.reduceAdd, Int.reduceNeg, Int.reduceSub, Int.reduceMul, Int.reduceLT, Int.reduceLE, Int.reduceEq, ↓GH.gp_eq, ↓GH.gp_ne, ↓GH.gs_eq, ↓GH.gs_ne, GH.push_next, GH.set_next, hlw]
        repeat ((first | refine Wk.once ?_ | refine Wk.more (Wk.once ?_) | refine Wk.leave ?_); simp +decide (disch := first | assumption | exact cellV_int _ _ | exact cellV_bool _ | omega | (simp only [GH.pn, GH.sn] <;> omega) | (with_reducible ((repeat (first | apply GH.ok_push | apply GH.ok_set)); assumption)) | ((try simp only [GH.push_hid, GH.set_hid]); first | assumption | (refine GH.vis ?_ ?_ <;> first | assumption | ((try simp only [GH.pn, GH.sn]) <;> omega)))) only [go_sem, ↓reduceIte, Nat.reduceEqDiff, Nat.reduceAdd, Int.reduceToNat, Int.reduceAdd, Int.reduceNeg, Int.reduceSub, Int.reduceMul, Int.reduceLT, Int.reduceLE, Int.reduceEq, ↓GH.gp_eq, ↓GH.gp_ne, ↓GH.gs_eq, ↓GH.gs_ne, GH.push_next, GH.set_next, hlw, hia, hob, hA2])
        refine CallD.name fun G hG => ?_
        have hnG : G.next = g2.next + 1 := by rw [hG]; rfl
        have hokG : G.ok := by rw [hG]; exact GH.ok_set (GH.ok_push hok2)
        refine CallD.calm (hga G) ?_
        rintro v g3 hx3 rfl
        have hn3 := hx3.next
        obtain ⟨W, hW⟩ : ∃ W, gainZ m00 m01 m02 m10 m11 m12 m20 m21 m22 (uI i 0 - uI Z 0) (uI i 1 - uI Z 1) (uI i 2 - uI Z 2) (uI i 0 - uI Z 0) (uI i 1 - uI Z 1) (uI i 2 - uI Z 2) = W := ⟨_, rfl⟩
        rw [hW]
        by_cases c : W < 0
        · rw [decide_eq_true c]
          simp +decide (disch := first | assumption | exact cellV_int _ _ | exact cellV_bool _ | omega | (simp only [GH.pn, GH.sn] <;> omega) | (with_reducible ((repeat (first | apply GH.ok_push | apply GH.ok_set)); assumption)) | ((try simp only [GH.push_hid, GH.set_hid]); first | assumption | (refine GH.vis ?_ ?_ <;> first | assumption | ((try simp only [GH.pn, GH.sn]) <;> omega)))) only [go_sem, ↓reduceIte, Nat.reduceEqDiff, Nat.reduceAdd, Int.reduceToNat, Int.reduceAdd, Int.reduceNeg, Int.reduceSub, Int.reduceMul, Int.reduceLT, Int.reduceLE, Int.reduceEq, ↓GH.gp_eq, ↓GH.gp_ne, ↓GH.gs_eq, ↓GH.gs_ne, GH.push_next, GH.set_next, c]
          repeat ((first | refine Wk.once ?_ | refine Wk.more (Wk.once ?_) | refine Wk.leave ?_); simp +decide (disch := first | assumption | exact cellV_int _ _ | exact cellV_bool _ | omega | (simp only [GH.pn, GH.sn] <;> omega) | (with_reducible ((repeat (first | apply GH.ok_push | apply GH.ok_set)); assumption)) | ((try simp only [GH.push_hid, GH.set_hid]); first | assumption | (refine GH.vis ?_ ?_ <;> first | assumption | ((try simp only [GH.pn, GH.sn]) <;> omega)))) only [go_sem, ↓reduceIte, Nat.reduceEqDiff, Nat.reduceAdd, Int.reduceToNat, Int.reduceAdd, Int.reduceNeg, Int.reduceSub, Int.reduceMul, Int.reduceLT, Int.reduceLE, Int.reduceEq, ↓GH.gp_eq, ↓GH.gp_ne, ↓GH.gs_eq, ↓GH.gs_ne, GH.push_next, GH.set_next, hlw])
          intro hx0
          exact ⟨by omega, rfl⟩
        · rw [decide_eq_false c]
          simp +decide (disch := first | assumption | exact cellV_int _ _ | exact cellV_bool _ | omega | (simp only [GH.pn, GH.sn] <;> omega) | (with_reducible ((repeat (first | apply GH.ok_push | apply GH.ok_set)); assumption)) | ((try simp only [GH.push_hid, GH.set_hid]); first | assumption | (refine GH.vis ?_ ?_ <;> first | assumption | ((try simp only [GH.pn, GH.sn]) <;> omega)))) only [go_sem, ↓reduceIte, Nat.reduceEqDiff, Nat.reduceAdd, Int.reduceToNat, Int.reduceAdd, Int.reduceNeg, Int.reduceSub, Int.reduceMul, Int.reduceLT, Int.reduceLE, Int.reduceEq, ↓GH.gp_eq, ↓GH.gp_ne, ↓GH.gs_eq, ↓GH.gs_ne, GH.push_next, GH.set_next, c]
          intro hx0
          exact ⟨by omega, rfl⟩
end Go.Proofs.YtngmaccaldhjcaaDoor
set_option maxRecDepth 100000
set_option maxHeartbeats 4000000
set_option linter.unusedSimpArgs false
set_option linter.unusedVariables false
namespace Go.Proofs.YtngmaccaldhjcaaDoor
open Go.Ds
theorem bestS2 (f : Nat → Int) : (bestS f 2).1 = if f 0 < f 1 then 2 else if f 1 = f 0 then 3 else 1 := by
  show (stepB (stepB (0, 0) 0 (f 0)) 1 (f 1)).1 = _
  have h0 : stepB (0, 0) 0 (f 0) = (1, f 0) := by unfold stepB; rw [if_pos (.inl rfl)]
  rw [h0]
  unfold stepB
  by_cases c : f 0 < f 1
  · rw [if_pos (.inr c), if_pos c]
  · rw [if_neg (by intro h; rcases h with h | h <;> first | exact c h | cases h), if_neg c]
    by_cases c2 : f 1 = f 0
    · rw [if_pos c2, if_pos c2]
    · rw [if_neg c2, if_neg c2]
theorem fash2 (x0 x1 : Int) : fashF (v3 x0 x1 0) 3 = (if 0 < x0 then 1 else 0) + (if 0 < x1 then 2 else 0) := by
  unfold fashF fashF fashF fashF v3
  simp
def last2 (a b c e x0 x1 : Int) : Bool := decide ((0 < x0 → c * x0 + e * x1 ≤ a * x0 + b * x1) ∧ (0 < x1 → a * x0 + b * x1 ≤ c * x0 + e * x1) ∧ (a * x0 + b * x1 = c * x0 + e * x1 → a - b - c + e < 0))
theorem gain2 (a b c e : Int) (i Z : Nat) (h : (i = 0 ∧ Z = 1) ∨ (i = 1 ∧ Z = 0)) : gainZ a b 0 c e 0 0 0 0 (uI i 0 - uI Z 0) (uI i 1 - uI Z 1) (uI i 2 - uI Z 2) (uI i 0 - uI Z 0) (uI i 1 - uI Z 1) (uI i 2 - uI Z 2) = a - b - c + e := by
  rcases h with ⟨rfl, rfl⟩ | ⟨rfl, rfl⟩ <;> · simp [uI, gainZ]; omega
theorem last2_eq {a b c e x0 x1 : Int} (h0 : 0 ≤ x0) (h1 : 0 ≤ x1) (h : 1 ≤ x0 + x1) : ∃ (B Z : Nat) (lb : Bool), 1 ≤ fashF (v3 x0 x1 0) 3 ∧ (bestS (rowG a b 0 c e 0 0 0 0 x0 x1 0) 2).1 = B ∧ tzN (fashF (v3 x0 x1 0) 3) = Z ∧
    ((stpN B Z 2 = 0 ∧ stpC B Z 2 = [] ∧ lb = true) ∨ ∃ i, i < 3 ∧ stpN B Z 2 = 1 ∧ stpC B Z 2 = stpV i Z ∧ lb = decide (gainZ a b 0 c e 0 0 0 0 (uI i 0 - uI Z 0) (uI i 1 - uI Z 1) (uI i 2 - uI Z 2) (uI i 0 - uI Z 0) (uI i 1 - uI Z 1) (uI i 2 - uI Z 2) < 0)) ∧
    (decide (andn (fashF (v3 x0 x1 0) 3) B = 0) && lb) = last2 a b c e x0 x1 := by
  have e0 : rowG a b 0 c e 0 0 0 0 x0 x1 0 0 = a * x0 + b * x1 := by unfold rowG v3; simp
  have e1 : rowG a b 0 c e 0 0 0 0 x0 x1 0 1 = c * x0 + e * x1 := by unfold rowG v3; simp
  rw [bestS2, e0, e1, fash2]
  unfold last2
  have g1 := gain2 a b c e 0 1 (.inl ⟨rfl, rfl⟩)
  have g2 := gain2 a b c e 1 0 (.inr ⟨rfl, rfl⟩)
  obtain ⟨r0, hr0⟩ : ∃ r, a * x0 + b * x1 = r := ⟨_, rfl⟩
  obtain ⟨r1, hr1⟩ : ∃ r, c * x0 + e * x1 = r := ⟨_, rfl⟩
  obtain ⟨q, hq⟩ : ∃ q, a - b - c + e = q := ⟨_, rfl⟩
  rw [hr0, hr1, hq]
  rw [hq] at g1 g2
  have fin : ∀ (F B : Nat) (R lb : Bool), decide (andn F B = 0) = R → ((R = true ∧ lb = true) ↔ ((0 < x0 → r1 ≤ r0) ∧ (0 < x1 → r0 ≤ r1) ∧ (r0 = r1 → q < 0))) → (decide (andn F B = 0) && lb) = decide ((0 < x0 → r1 ≤ r0) ∧ (0 < x1 → r0 ≤ r1) ∧ (r0 = r1 → q < 0)) := fun F B R lb h1 h2 => by
    rw [h1, Bool.eq_iff_iff, Bool.and_eq_true, h2, decide_eq_true_iff]
  by_cases c0 : 0 < x0 <;> by_cases c1 : 0 < x1
  · rw [if_pos c0, if_pos c1]
    by_cases c2 : r0 < r1
    · rw [if_pos c2]
      exact ⟨2, 0, decide (q < 0), by decide, rfl, rfl, .inr ⟨1, by decide, rfl, rfl, by rw [g2]⟩, fin 3 2 false _ rfl ⟨fun h => absurd h.1 (by decide), fun h => absurd (h.1 c0) (by omega)⟩⟩
    · rw [if_neg c2]
      by_cases c3 : r1 = r0
      · rw [if_pos c3]
        exact ⟨3, 0, decide (q < 0), by decide, rfl, rfl, .inr ⟨1, by decide, rfl, rfl, by rw [g2]⟩, fin 3 3 true _ rfl ⟨fun h => ⟨fun _ => by omega, fun _ => by omega, fun _ => of_decide_eq_true h.2⟩, fun h => ⟨rfl, decide_eq_true (h.2.2 (by omega))⟩⟩⟩
      · rw [if_neg c3]
        exact ⟨1, 0, true, by decide, rfl, rfl, .inl ⟨rfl, rfl, rfl⟩, fin 3 1 false _ rfl ⟨fun h => absurd h.1 (by decide), fun h => absurd (h.2.1 c1) (by omega)⟩⟩
  · rw [if_pos c0, if_neg c1]
    by_cases c2 : r0 < r1
    · rw [if_pos c2]
      exact ⟨2, 0, decide (q < 0), by decide, rfl, rfl, .inr ⟨1, by decide, rfl, rfl, by rw [g2]⟩, fin 1 2 false _ rfl ⟨fun h => absurd h.1 (by decide), fun h => absurd (h.1 c0) (by omega)⟩⟩
    · rw [if_neg c2]
      by_cases c3 : r1 = r0
      · rw [if_pos c3]
        exact ⟨3, 0, decide (q < 0), by decide, rfl, rfl, .inr ⟨1, by decide, rfl, rfl, by rw [g2]⟩, fin 1 3 true _ rfl ⟨fun h => ⟨fun _ => by omega, fun _ => by omega, fun _ => of_decide_eq_true h.2⟩, fun h => ⟨rfl, decide_eq_true (h.2.2 (by omega))⟩⟩⟩
      · rw [if_neg c3]
        exact ⟨1, 0, true, by decide, rfl, rfl, .inl ⟨rfl, rfl, rfl⟩, fin 1 1 true _ rfl ⟨fun _ => ⟨fun _ => by omega, fun _ => by omega, fun _ => by omega⟩, fun _ => ⟨rfl, rfl⟩⟩⟩
  · rw [if_neg c0, if_pos c1]
    by_cases c2 : r0 < r1
    · rw [if_pos c2]
      exact ⟨2, 1, true, by decide, rfl, rfl, .inl ⟨rfl, rfl, rfl⟩, fin 2 2 true _ rfl ⟨fun _ => ⟨fun _ => by omega, fun _ => by omega, fun _ => by omega⟩, fun _ => ⟨rfl, rfl⟩⟩⟩
    · rw [if_neg c2]
      by_cases c3 : r1 = r0
      · rw [if_pos c3]
        exact ⟨3, 1, decide (q < 0), by decide, rfl, rfl, .inr ⟨0, by decide, rfl, rfl, by rw [g1]⟩, fin 2 3 true _ rfl ⟨fun h => ⟨fun _ => by omega, fun _ => by omega, fun _ => of_decide_eq_true h.2⟩, fun h => ⟨rfl, decide_eq_true (h.2.2 (by omega))⟩⟩⟩
      · rw [if_neg c3]
        exact ⟨1, 1, decide (q < 0), by decide, rfl, rfl, .inr ⟨0, by decide, rfl, rfl, by rw [g1]⟩, fin 2 1 false _ rfl ⟨fun h => absurd h.1 (by decide), fun h => absurd (h.2.1 c1) (by omega)⟩⟩
  · omega
theorem Lasts2_rets {X : Caller} (hX : Xok X) (a b c e : Int) (hT : tabB [[a, b], [c, e]] = true) (x0 x1 d : Int) (hm : mixB 2 [x0, x1] d = true) (t s : Value) (g : GH) (hTab : HasTab g) (ht : Sl2 g t [[a, b], [c, e]]) (hs : SlR g s (ints [x0, x1])) :
    Rets Tryd.prog X 30 [t, paV s d] g (fun v g' lo => g.next ≤ lo ∧ v = .tuple #[.bool (last2 a b c e x0 x1), .int .i64 0]) := by
  have hc := hs.cell
  have hF : Few [[a, b], [c, e]] := ⟨by simp, fun R hR => by
    rcases List.mem_cons.1 hR with rfl | hR
    · simp
    · rcases List.mem_cons.1 hR with rfl | hR
      · simp
      · cases hR⟩
  have hE : err1 [[a, b], [c, e]] [x0, x1] d = 0 := by unfold err1; rw [if_pos ⟨hT, hm⟩]
  obtain ⟨a1, a2, a3, a4, a5, a6, a7, a8⟩ := mix_facts hm
  have y0 : 0 ≤ x0 ∧ x0 ≤ d := a6 0
  have y1 : 0 ≤ x1 ∧ x1 ≤ d := a6 1
  have hsum : x0 + x1 = d := by have : 0 + x0 + x1 = d := a7; omega
  obtain ⟨B, Z, lb, f1, f2, f3, f4, f5⟩ := last2_eq (a := a) (b := b) (c := c) (e := e) y0.1 y1.1 (by omega)
  have hla := fun G h => lasts_rets hX 2 (by decide) a b 0 c e 0 0 0 0 x0 x1 0 d (tab_sm9 hT) ⟨by unfold Sm; omega, by unfold Sm; omega, by unfold Sm; omega⟩ f1 B Z f2 f3 lb f4 G h
  rw [f5] at hla
  obtain ⟨LL, hLL⟩ : ∃ l, last2 a b c e x0 x1 = l := ⟨_, rfl⟩
  rw [hLL] at hla ⊢
  have hmo := mixtureOf_rets hX [x0, x1] (by simp) (by simp) d s
  unfold paV at hmo ⊢
  have hmx : mxV (List.getD [x0, x1] 0 0) (List.getD [x0, x1] 1 0) (List.getD [x0, x1] 2 0) d = mxV x0 x1 0 d := rfl
  rw [hmx] at hmo
  unfold mxV at hmo hla
  unfold mkV at hla
  refine Rets.run hX.pres p30 (hX.free 30 (by decide) _ _) rfl fun ho => ?_
  simp +decide (disch := first | assumption | exact cellV_int _ _ | exact cellV_bool _ | omega | (simp only [GH.pn, GH.sn] <;> omega) | (with_reducible ((repeat (first | apply GH.ok_push | apply GH.ok_set)); assumption)) | ((try simp only [GH.push_hid, GH.set_hid]); first | assumption | (refine GH.vis ?_ ?_ <;> first | assumption | ((try simp only [GH.pn, GH.sn]) <;> omega)))) only [go_sem, ↓reduceIte, Nat.reduceEqDiff, Nat.reduceAdd, Int.reduceToNat, Int.reduceAdd, Int.reduceNeg, Int.reduceSub, Int.reduceMul, Int.reduceLT, Int.reduceLE, Int.reduceEq, ↓GH.gp_eq, ↓GH.gp_ne, ↓GH.gs_eq, ↓GH.gs_ne, GH.push_next, GH.set_next, hc]
  refine CallD.name fun H hH => ?_
  have hnH : H.next = g.next + 1 + 1 := by rw [hH]; rfl
  have hokH : H.ok := by rw [hH]; exact GH.ok_push (GH.ok_push ho)
  have hk : Kept g H := by rw [hH]; exact (by (repeat' first | exact Kept.refl _ | assumption | refine Kept.push ?_ ?_ _ | refine Kept.setV ?_ ?_ ?_ _) <;> (first | assumption | exact cellV_int _ _ | exact cellV_bool _ | omega | (simp only [GH.pn, GH.sn] <;> omega) | (with_reducible ((repeat (first | apply GH.ok_push | apply GH.ok_set)); assumption)) | ((try simp only [GH.push_hid, GH.set_hid]); first | assumption | (refine GH.vis ?_ ?_ <;> first | assumption | ((try simp only [GH.pn, GH.sn]) <;> omega)))))
  have hA : H.get g.next = cellsOb [s, .int .i64 d] 25 := by rw [hH]; exact (by simp (disch := first | assumption | exact cellV_int _ _ | exact cellV_bool _ | omega | (simp only [GH.pn, GH.sn] <;> omega) | (with_reducible ((repeat (first | apply GH.ok_push | apply GH.ok_set)); assumption)) | ((try simp only [GH.push_hid, GH.set_hid]); first | assumption | (refine GH.vis ?_ ?_ <;> first | assumption | ((try simp only [GH.pn, GH.sn]) <;> omega)))) only [↓GH.gp_eq, ↓GH.gp_ne, ↓GH.gs_eq, ↓GH.gs_ne, GH.push_next, GH.set_next]; first | done | exact rfl)
  have hg : H.get (g.next + 1) = cellsOb [s, .int .i64 d] 25 := by rw [hH]; exact (by simp (disch := first | assumption | exact cellV_int _ _ | exact cellV_bool _ | omega | (simp only [GH.pn, GH.sn] <;> omega) | (with_reducible ((repeat (first | apply GH.ok_push | apply GH.ok_set)); assumption)) | ((try simp only [GH.push_hid, GH.set_hid]); first | assumption | (refine GH.vis ?_ ?_ <;> first | assumption | ((try simp only [GH.pn, GH.sn]) <;> omega)))) only [↓GH.gp_eq, ↓GH.gp_ne, ↓GH.gs_eq, ↓GH.gs_ne, GH.push_next, GH.set_next]; first | done | exact rfl)
  have hck := check1_rets hX [[a, b], [c, e]] hF [x0, x1] d t s (g.next + 1) 25 H (ht.kept hk) (hs.kept hk) (by omega) hg
  rw [hE] at hck
  refine CallD.calm hck ?_
  rintro v g1 hx1 rfl
  have hn1 := hx1.next
  have hok1 := hx1.ok hokH
  have hk1 := hk.ext hx1
  have hA1 := (hx1.gets g.next (by omega)).trans hA
  have hma := market2_rets hX a b c e t g1 (ht.kept hk1)
  unfold mkV at hma
  simp +decide (disch := first | assumption | exact cellV_int _ _ | exact cellV_bool _ | omega | (simp only [GH.pn, GH.sn] <;> omega) | (with_reducible ((repeat (first | apply GH.ok_push | apply GH.ok_set)); assumption)) | ((try simp only [GH.push_hid, GH.set_hid]); first | assumption | (refine GH.vis ?_ ?_ <;> first | assumption | ((try simp only [GH.pn, GH.sn]) <;> omega)))) only [go_sem, ↓reduceIte, Nat.reduceEqDiff, Nat.reduceAdd, Int.reduceToNat, Int.reduceAdd, Int.reduceNeg, Int.reduceSub, Int.reduceMul, Int.reduceLT, Int.reduceLE, Int.reduceEq, ↓GH.gp_eq, ↓GH.gp_ne, ↓GH.gs_eq, ↓GH.gs_ne, GH.push_next, GH.set_next]
  refine CallD.calm hma ?_
  rintro v g2 hx2 rfl
  have hn2 := hx2.next
  have hok2 := hx2.ok hok1
  have hk2 := hk1.ext hx2
  have hA2 := (hx2.gets g.next (by omega)).trans hA1
  simp +decide (disch := first | assumption | exact cellV_int _ _ | exact cellV_bool _ | omega | (simp only [GH.pn, GH.sn] <;> omega) | (with_reducible ((repeat (first | apply GH.ok_push | apply GH.ok_set)); assumption)) | ((try simp only [GH.push_hid, GH.set_hid]); first | assumption | (refine GH.vis ?_ ?_ <;> first | assumption | ((try simp only [GH.pn, GH.sn]) <;> omega)))) only [go_sem, ↓reduceIte, Nat.reduceEqDiff, Nat.reduceAdd, Int.reduceToNat, Int.reduceAdd, Int.reduceNeg, Int.reduceSub, Int.reduceMul, Int.reduceLT, Int.reduceLE, Int.reduceEq, ↓GH.gp_eq, ↓GH.gp_ne, ↓GH.gs_eq, ↓GH.gs_ne, GH.push_next, GH.set_next, hA2]
  refine CallD.calm (hmo g2 (hs.kept hk2)) ?_
  rintro v g3 hx3 rfl
  have hn3 := hx3.next
  have hk3 := hk2.ext hx3
  simp +decide (disch := first | assumption | exact cellV_int _ _ | exact cellV_bool _ | omega | (simp only [GH.pn, GH.sn] <;> omega) | (with_reducible ((repeat (first | apply GH.ok_push | apply GH.ok_set)); assumption)) | ((try simp only [GH.push_hid, GH.set_hid]); first | assumption | (refine GH.vis ?_ ?_ <;> first | assumption | ((try simp only [GH.pn, GH.sn]) <;> omega)))) only [go_sem, ↓reduceIte, Nat.reduceEqDiff, Nat.reduceAdd, Int.reduceToNat, Int.reduceAdd, Int.reduceNeg, Int.reduceSub, Int.reduceMul, Int.reduceLT, Int.reduceLE, Int.reduceEq, ↓GH.gp_eq, ↓GH.gp_ne, ↓GH.gs_eq, ↓GH.gs_ne, GH.push_next, GH.set_next]
  refine CallD.calm (hla g3 (hTab.kept hk3)) ?_
  rintro v g4 hx4 rfl
  have hn4 := hx4.next
  simp +decide (disch := first | assumption | exact cellV_int _ _ | exact cellV_bool _ | omega | (simp only [GH.pn, GH.sn] <;> omega) | (with_reducible ((repeat (first | apply GH.ok_push | apply GH.ok_set)); assumption)) | ((try simp only [GH.push_hid, GH.set_hid]); first | assumption | (refine GH.vis ?_ ?_ <;> first | assumption | ((try simp only [GH.pn, GH.sn]) <;> omega)))) only [go_sem, ↓reduceIte, Nat.reduceEqDiff, Nat.reduceAdd, Int.reduceToNat, Int.reduceAdd, Int.reduceNeg, Int.reduceSub, Int.reduceMul, Int.reduceLT, Int.reduceLE, Int.reduceEq, ↓GH.gp_eq, ↓GH.gp_ne, ↓GH.gs_eq, ↓GH.gs_ne, GH.push_next, GH.set_next]
  intro hx0
  exact ⟨by omega, rfl⟩
end Go.Proofs.YtngmaccaldhjcaaDoor
