import Derived.Test.YtngmaccaldhjcaaDoorJ3
import Derived.Test.YtngmaccaldhjcaaDoorKc
import Derived.Test.YtngmaccaldhjcaaDoorDtO
set_option linter.all false
set_option linter.unusedSimpArgs false
set_option linter.unnecessarySimpa false
set_option linter.unusedVariables false
set_option linter.unusedSectionVars false
set_option maxRecDepth 100000
set_option maxHeartbeats 4000000
set_option linter.unusedSimpArgs false
set_option linter.unusedVariables false
set_option linter.unusedSectionVars false
namespace Go.Ds
/-- A slice of elements of several cells that was made by appending. -/
def OwnS (g : GH) (s : Value) (sz m : Nat) (vs : List Value) (t : TypeId) (base : Nat) : Prop :=
  (s = .slice none 0 0 ∧ vs = [] ∧ m = 0) ∨ ∃ j fam, s = .slice (some ⟨j, 0, none⟩) m (OPEN + sz) ∧ vs.length = m * sz ∧ j < g.next ∧ g.get j = slackOb vs t fam ∧ vs ≠ [] ∧ base ≤ fam ∧ fam ≤ j ∧ (∀ x ∈ g.fams fam, x.2 ≤ vs.length)
theorem OwnS.nil {g : GH} {sz : Nat} {t : TypeId} {base : Nat} : OwnS g (.slice none 0 0) sz 0 [] t base := .inl ⟨rfl, rfl, rfl⟩
theorem OwnS.kept {g g' : GH} {s : Value} {sz m : Nat} {vs : List Value} {t : TypeId} {base : Nat} (h : OwnS g s sz m vs t base) (x : Kept g g') : OwnS g' s sz m vs t base := by
  rcases h with h | ⟨j, fam, h1, h2, h3, h4, h5, h6, h7, h8⟩
  · exact .inl h
  · exact .inr ⟨j, fam, h1, h2, Nat.lt_of_lt_of_le h3 x.next, (x.gets j h3).trans h4, h5, h6, h7, by rw [x.fams fam (by omega)]; exact h8⟩
theorem OwnS.len {g : GH} {s : Value} {sz m : Nat} {vs : List Value} {t : TypeId} {base : Nat} (h : OwnS g s sz m vs t base) : lenLF s = some (.int .i64 (m : Int)) := by
  rcases h with ⟨rfl, _, rfl⟩ | ⟨j, fam, rfl, _⟩ <;> rfl
theorem OwnS.cell {g : GH} {s : Value} {sz m : Nat} {vs : List Value} {t : TypeId} {base : Nat} (h : OwnS g s sz m vs t base) : cellV s = true := by
  rcases h with ⟨rfl, _⟩ | ⟨j, fam, rfl, _⟩ <;> rfl
structure GrewS (g g' : GH) (s' : Value) (sz m : Nat) (vs : List Value) (t : TypeId) (base : Nat) : Prop where
  next : g'.next = g.next + 1
  hid : g'.hid = g.hid
  ok : g'.ok
  gets : ∀ j, j < g.next → g'.get j = g.get j
  fams : ∀ f, f < base → g'.fams f = g.fams f
  own : OwnS g' s' sz m vs t base
theorem Kept.grewS {a g g' : GH} {s' : Value} {sz m : Nat} {vs : List Value} {t : TypeId} {base : Nat} (h : Kept a g) (x : GrewS g g' s' sz m vs t base) (hb : a.next ≤ base) : Kept a g' :=
  ⟨by have := h.next; have := x.next; omega, fun j hj => (x.gets j (Nat.lt_of_lt_of_le hj h.next)).trans (h.gets j hj), fun f hf => (x.fams f (by omega)).trans (h.fams f hf)⟩
section
variable {P : Program} {X : Caller} {Q : Out → Env → GH → Nat → Prop} {gd : Option (P3 × Bool)} {dd : Option P3} {l : List PI} {k : Nat} {sp : List (Nat × (Nat × Nat))} {wr : List Nat} {ks : List Fr} {e : Env} {g : GH} {lo : Nat}
theorem GR.appS {t tx : TypeId} {sz b m n c jx : Nat} {s x : PO} {sv : Value} {vs new : List Value} {base lw : Nat} (hg : wantF e gd = some true) (hs : ev e s = sv) (hx : ev e x = .slice (some ⟨jx, 0, none⟩) n c) (hown : OwnS g sv sz m vs t base) (hjx : g.get jx = cellsOb new tx) (hnl : new.length = n * sz) (hn : 0 < n) (hz0 : 0 < sz)
    (hc : new.all cellV = true) (hsz : (m + n) * (b + 1) ≤ 1073741824) (hb : base ≤ g.next) (hlo : lw ≤ lo) (hlw : lw ≤ base) (ho : g.ok)
    (h : ∀ s' g' lo' sp wr, GrewS g g' s' sz (m + n) (vs ++ new) t base → lw ≤ lo' → GR P X Q l (Nat.succ k) sp wr ks (putE e dd s') g' lo') :
    GR P X Q (⟨gd, dd, none, some (.app t sz b s x), []⟩ :: l) k sp wr ks e g lo := by
  have hlen : lenF (.slice (some ⟨jx, 0, none⟩) n c) = some n := rfl
  have hstr : strOk sz (.slice (some ⟨jx, 0, none⟩) n c) = true := rfl
  have hfirst : ∀ lo, firstF (g.at lo) sz n (.slice (some ⟨jx, 0, none⟩) n c) = some new := by
    intro lo
    simp only [firstF]
    have := SlR.readN (j := jx) (off := 0) (cap := c) (lo := lo) (vs := new) hjx (.inl rfl) (by simp [cellsOb]) (by simp [cellsOb]) (i := 0) (n := n * sz) (by omega)
    rw [Nat.add_zero, List.drop_zero, ← hnl, List.take_length] at this
    rw [← hnl]
    exact this
  have hpos : 0 < n * sz := Nat.mul_pos hn hz0
  have hne : new ≠ [] := fun h => by rw [h] at hnl; simp at hnl; omega
  have hz : Nat.beq n 0 = false := by rw [beq_d, decide_eq_false_iff_not]; omega
  rcases hown with ⟨rfl, rfl, rfl⟩ | ⟨j, fam, rfl, hml, h2, h3, h4, h5, h6, h7⟩
  · let G : GH := ⟨T5.set g.tr g.next (slackOb new t g.next), Nat.succ g.next, g.hid, T5.set g.fams g.next [(g.next, new.length)]⟩
    refine GR.more (v := .slice (some ⟨g.next, 0, none⟩) n (OPEN + sz)) (g' := G) hg (Hp.mk (bnd (g.next + 1)) fun call => ?_) rfl (Nat.le_succ _) (h _ G lo _ _ ?_ hlo)
    · simp only [runH, hs, hx, hstr, cond_true, appF, hlen]
      rw [mul_succ_le (by simpa using hsz), hz, hfirst]
      simp only [cond_false]
      rw [show (Nat.beq 0 0 && Nat.beq 0 0) = true from rfl]
      simp only [cond_true, appNew]
      have : Nat.blt (g.at g.next).next (@LIM (bnd (g.next + 1))) = true := by rw [Nat.blt_eq]; exact Nat.lt_succ_self _
      rw [this]
      simp only [cond_true, lenN_length]
      rfl
    · have hget : ∀ j, G.get j = if g.next = j then slackOb new t g.next else g.get j := GH.get_push ho (slackOb new t g.next)
      refine ⟨rfl, rfl, fun i hi => ho i (Nat.le_trans (Nat.le_succ _) hi), fun i hi => by rw [hget, if_neg (by omega)], fun f hf => ?_, .inr ⟨g.next, g.next, by simp, by simpa using hnl, Nat.lt_succ_self _, by rw [hget, if_pos rfl]; simp, by simpa using hne, hb, Nat.le_refl _, ?_⟩⟩
      · show (T5.set g.fams g.next [(g.next, new.length)]) f = _
        rw [T5.get_set', if_neg (by omega)]
      · show ∀ x ∈ (T5.set g.fams g.next [(g.next, new.length)]) g.next, _
        rw [T5.get_set', if_pos rfl]
        simp
  · let G : GH := ⟨T5.set g.tr g.next (slackOb (vs ++ new) t fam), Nat.succ g.next, g.hid, T5.set (T5.set g.fams fam (g.fams fam)) fam ((g.next, (vs ++ new).length) :: g.fams fam)⟩
    have hvl : 0 < vs.length := List.length_pos_iff.2 h4
    have hstop : 0 + m * sz = vs.length := by omega
    refine GR.wrote (v := .slice (some ⟨g.next, 0, none⟩) (m + n) (OPEN + sz)) (g' := G) (lo' := j) hg (Hp.mk (bnd (g.next + 1)) fun call => ?_) rfl (Nat.le_succ _) (h _ G _ _ _ ?_ (by omega))
    · have hkill : killF (g.at g.next) fam (g.at g.next).next vs.length = (⟨g.tr, g.next, g.hid, T5.set g.fams fam (g.fams fam)⟩ : GH).at g.next := by
        unfold killF
        show (killGo _ _ (g.fams fam) _).setFam fam ((g.fams fam).filter _) = _
        rw [killGo_none _ _ _ _ (fun x hx => h7 x hx), filter_all (fun x hx => h7 x hx)]
        rfl
      have hb1 : Nat.ble (vs.length + new.length) vs.length = false := by rw [ble_d, decide_eq_false_iff_not]; omega
      have htake : takeN vs.length vs = some vs := by rw [takeN_len (Nat.le_refl _), List.take_length]
      have hm0 : Nat.beq m 0 = false := by
        rw [beq_d, decide_eq_false_iff_not]
        intro q
        rw [q, Nat.zero_mul] at hml
        omega
      have hlt : Nat.blt j g.next = true := Nat.blt_eq ▸ h2
      simp only [runH, hs, hx, hstr, cond_true, appF, hlen]
      rw [mul_succ_le hsz, hz, hfirst]
      simp only [cond_false]
      rw [show (g.at g.next).get j = slackOb vs t fam from h3]
      unfold slackOb
      simp only [lenN_length, hstop, hb1, hm0, Bool.false_and, cond_false, htake]
      rw [show Nat.beq (OPEN + sz) (OPEN + sz) = true by simp, show Nat.beq t t = true by simp]
      simp only [cond_true, Bool.and_self, appMay, hkill]
      have hL : Nat.blt (g.at g.next).next (@LIM (bnd (g.next + 1))) = true := by rw [Nat.blt_eq]; exact Nat.lt_succ_self _
      rw [hL, show Nat.blt j (g.at g.next).next = true from hlt, hc]
      rw [show Nat.beq 0 0 = true from rfl]
      simp only [Bool.and_self, cond_true, GH.at, hlt, lenN_length, T5.get_set', if_true]
      rfl
    · have hget : ∀ j, G.get j = if g.next = j then slackOb (vs ++ new) t fam else g.get j := GH.get_push ho (slackOb (vs ++ new) t fam)
      refine ⟨rfl, rfl, fun i hi => ho i (Nat.le_trans (Nat.le_succ _) hi), fun i hi => by rw [hget, if_neg (by omega)], fun f hf => ?_, .inr ⟨g.next, fam, by simp, by rw [List.length_append, hml, hnl, Nat.add_mul], Nat.lt_succ_self _, by rw [hget, if_pos rfl], by simp [hne], h5, by omega, ?_⟩⟩
      · show (T5.set (T5.set g.fams fam (g.fams fam)) fam ((g.next, (vs ++ new).length) :: g.fams fam)) f = _
        rw [T5.get_set', T5.get_set', if_neg (by omega), if_neg (by omega)]
      · show ∀ x ∈ (T5.set (T5.set g.fams fam (g.fams fam)) fam ((g.next, (vs ++ new).length) :: g.fams fam)) fam, _
        rw [T5.get_set', if_pos rfl]
        intro x hx
        rcases List.mem_cons.1 hx with rfl | hx
        · exact Nat.le_refl _
        · have := h7 x hx
          simp; omega
theorem AppD.ownS {t tx : TypeId} {sz b m n c jx : Nat} {sv : Value} {vs new : List Value} {base lw : Nat} (hown : OwnS g sv sz m vs t base) (hjx : g.get jx = cellsOb new tx) (hnl : new.length = n * sz) (hn : 0 < n) (hz0 : 0 < sz)
    (hc : new.all cellV = true) (hsz : (m + n) * (b + 1) ≤ 1073741824) (hb : base ≤ g.next) (hlo : lw ≤ lo) (hlw : lw ≤ base) (ho : g.ok)
    (h : ∀ s' g' lo' sp wr, GrewS g g' s' sz (m + n) (vs ++ new) t base → lw ≤ lo' → Wk P X Q (.R l (k + 1) sp wr ks (putE e dd s') g' lo')) : AppD P X Q t sz b sv (.slice (some ⟨jx, 0, Option.none⟩) n c) [] dd l k sp wr ks e g lo := fun y z hy hz =>
  GR.appS rfl hy hz hown hjx hnl hn hz0 hc hsz hb hlo hlw ho fun s' g' lo' sp wr hg hl => (h s' g' lo' sp wr hg hl).R
end
end Go.Ds
set_option maxRecDepth 100000
set_option maxHeartbeats 4000000
set_option linter.unusedSimpArgs false
set_option linter.unusedVariables false
namespace Go.Proofs.YtngmaccaldhjcaaDoor
open Go.Ds
/-- The numbers of the steps, and how many steps there are. -/
def uI (i k : Nat) : Int := if i = k then 1 else 0
def stpV (i f : Nat) : List Value := [.int .i64 (uI i 0 - uI f 0), .int .i64 (uI i 1 - uI f 1), .int .i64 (uI i 2 - uI f 2)]
def stpC (b f : Nat) : Nat → List Value
  | 0 => []
  | i + 1 => if b.testBit i = true ∧ i ≠ f then stpC b f i ++ stpV i f else stpC b f i
def stpN (b f : Nat) : Nat → Nat
  | 0 => 0
  | i + 1 => if b.testBit i = true ∧ i ≠ f then stpN b f i + 1 else stpN b f i
theorem stpN_le (b f : Nat) : ∀ i, stpN b f i ≤ i
  | 0 => Nat.le_refl _
  | i + 1 => by unfold stpN; have := stpN_le b f i; split <;> omega
theorem tzN_lt {x : Nat} (h1 : 1 ≤ x) (h7 : x ≤ 7) : tzN x < 3 := by
  obtain rfl | rfl | rfl | rfl | rfl | rfl | rfl : x = 1 ∨ x = 2 ∨ x = 3 ∨ x = 4 ∨ x = 5 ∨ x = 6 ∨ x = 7 := by omega
  all_goals decide
theorem uI_sm (i k : Nat) : 0 ≤ uI i k ∧ uI i k ≤ 1 := by unfold uI; split <;> omega
theorem bslV (x y z a b c : Value) : bsl 3 #[x, y, z] [(0, .agg #[a, b, c])] = some #[a, b, c] := rfl
theorem steps_rets {X : Caller} (hX : Xok X) (n : Nat) (hn : n ≤ 3) (m00 m01 m02 m10 m11 m12 m20 m21 m22 x0 x1 x2 d : Int) (hm : Sm9 m00 m01 m02 m10 m11 m12 m20 m21 m22) (hx : Sm 10000 x0 ∧ Sm 10000 x1 ∧ Sm 10000 x2) (hf : 1 ≤ fashF (v3 x0 x1 x2) 3) (g : GH) (hT : HasTab g) :
    Rets Tryd.prog X 83 [mkV n m00 m01 m02 m10 m11 m12 m20 m21 m22, mxV x0 x1 x2 d] g (fun v g' lo => g.next ≤ lo ∧ Kept g g' ∧ OwnS g' v 3 (stpN (bestS (rowG m00 m01 m02 m10 m11 m12 m20 m21 m22 x0 x1 x2) n).1 (tzN (fashF (v3 x0 x1 x2) 3)) n) (stpC (bestS (rowG m00 m01 m02 m10 m11 m12 m20 m21 m22 x0 x1 x2) n).1 (tzN (fashF (v3 x0 x1 x2) 3)) n) 67 g.next) := by
  have hb := fun g' => best_rets hX n hn m00 m01 m02 m10 m11 m12 m20 m21 m22 x0 x1 x2 d hm hx g'
  have hfa := fun g' => fashions_rets hX x0 x1 x2 d g'
  have hflt := fashF_lt (v3 x0 x1 x2) 3
  have hblt := bestS_lt (rowG m00 m01 m02 m10 m11 m12 m20 m21 m22 x0 x1 x2) n
  have hn8 : 2 ^ n ≤ 8 := two_pow3 hn
  obtain ⟨F, hF⟩ : ∃ F, fashF (v3 x0 x1 x2) 3 = F := ⟨_, rfl⟩
  obtain ⟨B, hB⟩ : ∃ B, (bestS (rowG m00 m01 m02 m10 m11 m12 m20 m21 m22 x0 x1 x2) n).1 = B := ⟨_, rfl⟩
  rw [hF] at hfa hf hflt ⊢
  rw [hB] at hb hblt ⊢
  have hz := tzN_lt hf (by omega)
  have htz := fun G h => hX.tz G F h hf (by omega)
  obtain ⟨Z, hZ⟩ : ∃ Z, tzN F = Z := ⟨_, rfl⟩
  rw [hZ] at hz htz ⊢
  unfold mkV mxV at *
  refine Rets.run hX.pres p83 (hX.free 83 (by decide) _ _) rfl fun ho => ?_
  simp +decide (disch := first | assumption | exact cellV_int _ _ | exact cellV_bool _ | omega | (simp only [GH.pn, GH.sn] <;> omega) | (with_reducible ((repeat (first | apply GH.ok_push | apply GH.ok_set)); assumption)) | ((try simp only [GH.push_hid, GH.set_hid]); first | assumption | (refine GH.vis ?_ ?_ <;> first | assumption | ((try simp only [GH.pn, GH.sn]) <;> omega)))) only [go_sem, ↓reduceIte, Nat.reduceEqDiff, Nat.reduceAdd, Int.reduceToNat, Int.reduceAdd, Int.reduceNeg, Int.reduceSub, Int.reduceMul, Int.reduceLT, Int.reduceLE, Int.reduceEq, ↓GH.gp_eq, ↓GH.gp_ne, ↓GH.gs_eq, ↓GH.gs_ne, GH.push_next, GH.set_next]
  refine CallD.name fun H hH => ?_
  have hnH : H.next = g.next + 1 + 1 := by rw [hH]; rfl
  have hokH : H.ok := by rw [hH]; exact GH.ok_push (GH.ok_push ho)
  have hkH : Kept g H := by rw [hH]; exact (by (repeat' first | exact Kept.refl _ | assumption | refine Kept.push ?_ ?_ _ | refine Kept.setV ?_ ?_ ?_ _) <;> (first | assumption | exact cellV_int _ _ | exact cellV_bool _ | omega | (simp only [GH.pn, GH.sn] <;> omega) | (with_reducible ((repeat (first | apply GH.ok_push | apply GH.ok_set)); assumption)) | ((try simp only [GH.push_hid, GH.set_hid]); first | assumption | (refine GH.vis ?_ ?_ <;> first | assumption | ((try simp only [GH.pn, GH.sn]) <;> omega)))))
  have hA : H.get g.next = cellsOb [.int .i64 n, .int .i64 m00, .int .i64 m01, .int .i64 m02, .int .i64 m10, .int .i64 m11, .int .i64 m12, .int .i64 m20, .int .i64 m21, .int .i64 m22] 73 := by rw [hH]; exact (by simp (disch := first | assumption | exact cellV_int _ _ | exact cellV_bool _ | omega | (simp only [GH.pn, GH.sn] <;> omega) | (with_reducible ((repeat (first | apply GH.ok_push | apply GH.ok_set)); assumption)) | ((try simp only [GH.push_hid, GH.set_hid]); first | assumption | (refine GH.vis ?_ ?_ <;> first | assumption | ((try simp only [GH.pn, GH.sn]) <;> omega)))) only [↓GH.gp_eq, ↓GH.gp_ne, ↓GH.gs_eq, ↓GH.gs_ne, GH.push_next, GH.set_next]; first | done | exact rfl)
  have hC : H.get (g.next + 1) = cellsOb [.int .i64 x0, .int .i64 x1, .int .i64 x2, .int .i64 d] 69 := by rw [hH]; exact (by simp (disch := first | assumption | exact cellV_int _ _ | exact cellV_bool _ | omega | (simp only [GH.pn, GH.sn] <;> omega) | (with_reducible ((repeat (first | apply GH.ok_push | apply GH.ok_set)); assumption)) | ((try simp only [GH.push_hid, GH.set_hid]); first | assumption | (refine GH.vis ?_ ?_ <;> first | assumption | ((try simp only [GH.pn, GH.sn]) <;> omega)))) only [↓GH.gp_eq, ↓GH.gp_ne, ↓GH.gs_eq, ↓GH.gs_ne, GH.push_next, GH.set_next]; first | done | exact rfl)
  refine CallD.calm (hb H) ?_
  rintro v g1 hx1 rfl
  have hn1 := hx1.next
  have hok1 := hx1.ok hokH
  have hk1 := hkH.ext hx1
  have hA1 := (hx1.gets g.next (by omega)).trans hA
  have hC1 := (hx1.gets (g.next + 1) (by omega)).trans hC
  have hcv : convF .u64 (.int .i64 (F : Int)) = some (.int .u64 (F : Int)) := by
    have h8 : F < 8 := by omega
    obtain rfl | rfl | rfl | rfl | rfl | rfl | rfl : F = 1 ∨ F = 2 ∨ F = 3 ∨ F = 4 ∨ F = 5 ∨ F = 6 ∨ F = 7 := by omega
    all_goals rfl
  simp +decide (disch := first | assumption | exact cellV_int _ _ | exact cellV_bool _ | omega | (simp only [GH.pn, GH.sn] <;> omega) | (with_reducible ((repeat (first | apply GH.ok_push | apply GH.ok_set)); assumption)) | ((try simp only [GH.push_hid, GH.set_hid]); first | assumption | (refine GH.vis ?_ ?_ <;> first | assumption | ((try simp only [GH.pn, GH.sn]) <;> omega)))) only [go_sem, ↓reduceIte, Nat.reduceEqDiff, Nat.reduceAdd, Int.reduceToNat, Int.reduceAdd, Int.reduceNeg, Int.reduceSub, Int.reduceMul, Int.reduceLT, Int.reduceLE, Int.reduceEq, ↓GH.gp_eq, ↓GH.gp_ne, ↓GH.gs_eq, ↓GH.gs_ne, GH.push_next, GH.set_next, hC1]
  refine CallD.calm (hfa g1) ?_
  rintro v g2 hx2 rfl
  have hn2 := hx2.next
  have hok2 := hx2.ok hok1
  have hk2 := hk1.ext hx2
  have hA2 := (hx2.gets g.next (by omega)).trans hA1
  simp +decide (disch := first | assumption | exact cellV_int _ _ | exact cellV_bool _ | omega | (simp only [GH.pn, GH.sn] <;> omega) | (with_reducible ((repeat (first | apply GH.ok_push | apply GH.ok_set)); assumption)) | ((try simp only [GH.push_hid, GH.set_hid]); first | assumption | (refine GH.vis ?_ ?_ <;> first | assumption | ((try simp only [GH.pn, GH.sn]) <;> omega)))) only [go_sem, ↓reduceIte, Nat.reduceEqDiff, Nat.reduceAdd, Int.reduceToNat, Int.reduceAdd, Int.reduceNeg, Int.reduceSub, Int.reduceMul, Int.reduceLT, Int.reduceLE, Int.reduceEq, ↓GH.gp_eq, ↓GH.gp_ne, ↓GH.gs_eq, ↓GH.gs_ne, GH.push_next, GH.set_next, hcv]
  refine CallD.calm (htz g2 (hT.kept hk2)) ?_
  rintro v g3 hx3 rfl
  have hn3 := hx3.next
  have hok3 := hx3.ok hok2
  have hk3 := hk2.ext hx3
  have hA3 := (hx3.gets g.next (by omega)).trans hA2
  simp +decide (disch := first | assumption | exact cellV_int _ _ | exact cellV_bool _ | omega | (simp only [GH.pn, GH.sn] <;> omega) | (with_reducible ((repeat (first | apply GH.ok_push | apply GH.ok_set)); assumption)) | ((try simp only [GH.push_hid, GH.set_hid]); first | assumption | (refine GH.vis ?_ ?_ <;> first | assumption | ((try simp only [GH.pn, GH.sn]) <;> omega)))) only [go_sem, ↓reduceIte, Nat.reduceEqDiff, Nat.reduceAdd, Int.reduceToNat, Int.reduceAdd, Int.reduceNeg, Int.reduceSub, Int.reduceMul, Int.reduceLT, Int.reduceLE, Int.reduceEq, ↓GH.gp_eq, ↓GH.gp_ne, ↓GH.gs_eq, ↓GH.gs_ne, GH.push_next, GH.set_next, hA3]
  refine Wk.loops (fun m e g' lo => g.next ≤ lo ∧ Kept g g' ∧ ∃ i : Nat, i + m = n ∧ (ev e (.s 5) = .int .i64 (B : Int) ∧ ev e (.s 6) = .int .i64 (Z : Int) ∧ ev e (.s 17) = .int .i64 (n : Int) ∧ ev e (.s 18) = .int .i64 i) ∧ ∃ o, ev e (.s 7) = o ∧ OwnS g' o 3 (stpN B Z i) (stpC B Z i) 67 g.next)
    (fun e g' lo => g.next ≤ lo ∧ Kept g g' ∧ ∃ o, ev e (.s 7) = o ∧ OwnS g' o 3 (stpN B Z n) (stpC B Z n) 67 g.next) (n := n) ?_ ?_ ?_
  · exact ⟨by omega, hk3, 0, by omega, (by simp +decide (disch := first | assumption | (apply GH.ok_push; assumption) | exact cellV_int _ _ | exact cellV_bool _ | omega) only [go_sem, ↓reduceIte, Nat.reduceEqDiff, Nat.reduceAdd, Int.reduceToNat]; first | done | exact rfl), .slice none 0 0, (by simp +decide (disch := first | assumption | (apply GH.ok_push; assumption) | exact cellV_int _ _ | exact cellV_bool _ | omega) only [go_sem, ↓reduceIte, Nat.reduceEqDiff, Nat.reduceAdd, Int.reduceToNat]; first | done | exact rfl), OwnS.nil⟩
  · rintro e g' lo - - ⟨hlo, hk, o, h7, hown⟩
    simp +decide (disch := first | assumption | exact cellV_int _ _ | exact cellV_bool _ | omega | (simp only [GH.pn, GH.sn] <;> omega) | (with_reducible ((repeat (first | apply GH.ok_push | apply GH.ok_set)); assumption)) | ((try simp only [GH.push_hid, GH.set_hid]); first | assumption | (refine GH.vis ?_ ?_ <;> first | assumption | ((try simp only [GH.pn, GH.sn]) <;> omega)))) only [go_sem, ↓reduceIte, Nat.reduceEqDiff, Nat.reduceAdd, Int.reduceToNat, Int.reduceAdd, Int.reduceNeg, Int.reduceSub, Int.reduceMul, Int.reduceLT, Int.reduceLE, Int.reduceEq, ↓GH.gp_eq, ↓GH.gp_ne, ↓GH.gs_eq, ↓GH.gs_ne, GH.push_next, GH.set_next, h7]
    intro hx0
    exact ⟨hlo, hk, hown⟩
  · rintro m e g' lo ho' hl' ih out ⟨hlo, hk, i, hi, he, o, h7, hown⟩
    have hkn := hk.next
    by_cases ci : i < n
    · have ci' : (i : Int) < n := by omega
      simp +decide (disch := first | assumption | exact cellV_int _ _ | exact cellV_bool _ | omega | (simp only [GH.pn, GH.sn] <;> omega) | (with_reducible ((repeat (first | apply GH.ok_push | apply GH.ok_set)); assumption)) | ((try simp only [GH.push_hid, GH.set_hid]); first | assumption | (refine GH.vis ?_ ?_ <;> first | assumption | ((try simp only [GH.pn, GH.sn]) <;> omega)))) only [go_sem, ↓reduceIte, Nat.reduceEqDiff, Nat.reduceAdd, Int.reduceToNat, Int.reduceAdd, Int.reduceNeg, Int.reduceSub, Int.reduceMul, Int.reduceLT, Int.reduceLE, Int.reduceEq, ↓GH.gp_eq, ↓GH.gp_ne, ↓GH.gs_eq, ↓GH.gs_ne, GH.push_next, GH.set_next, he, ci']
      refine CallD.calm (has_rets hX B i (by omega) (by omega) g') ?_
      rintro v g4 hx4 rfl
      have hn4 := hx4.next
      have hok4 := hx4.ok ho'
      have hk4 := hk.ext hx4
      have ho4 := hown.kept hx4.kept
      cases hB2 : B.testBit i with
      | false =>
        simp +decide (disch := first | assumption | exact cellV_int _ _ | exact cellV_bool _ | omega | (simp only [GH.pn, GH.sn] <;> omega) | (with_reducible ((repeat (first | apply GH.ok_push | apply GH.ok_set)); assumption)) | ((try simp only [GH.push_hid, GH.set_hid]); first | assumption | (refine GH.vis ?_ ?_ <;> first | assumption | ((try simp only [GH.pn, GH.sn]) <;> omega)))) only [go_sem, ↓reduceIte, Nat.reduceEqDiff, Nat.reduceAdd, Int.reduceToNat, Int.reduceAdd, Int.reduceNeg, Int.reduceSub, Int.reduceMul, Int.reduceLT, Int.reduceLE, Int.reduceEq, ↓GH.gp_eq, ↓GH.gp_ne, ↓GH.gs_eq, ↓GH.gs_ne, GH.push_next, GH.set_next, he]
        refine ih (m - 1) _ _ _ (by omega) ⟨hlo, hk4, i + 1, by omega, (by simp +decide (disch := first | assumption | (apply GH.ok_push; assumption) | exact cellV_int _ _ | exact cellV_bool _ | omega) only [go_sem, ↓reduceIte, Nat.reduceEqDiff, Nat.reduceAdd, Int.reduceToNat, he]; first | done | exact rfl), o, (by simp +decide (disch := first | assumption | (apply GH.ok_push; assumption) | exact cellV_int _ _ | exact cellV_bool _ | omega) only [go_sem, ↓reduceIte, Nat.reduceEqDiff, Nat.reduceAdd, Int.reduceToNat, h7]; first | done | exact rfl), ?_⟩
        unfold stpN stpC
        rw [hB2, if_neg (by simp), if_neg (by simp)]
        exact ho4
      | true =>
        by_cases c : i = Z
        · have c' : (i : Int) = Z := by omega
          simp +decide (disch := first | assumption | exact cellV_int _ _ | exact cellV_bool _ | omega | (simp only [GH.pn, GH.sn] <;> omega) | (with_reducible ((repeat (first | apply GH.ok_push | apply GH.ok_set)); assumption)) | ((try simp only [GH.push_hid, GH.set_hid]); first | assumption | (refine GH.vis ?_ ?_ <;> first | assumption | ((try simp only [GH.pn, GH.sn]) <;> omega)))) only [go_sem, ↓reduceIte, Nat.reduceEqDiff, Nat.reduceAdd, Int.reduceToNat, Int.reduceAdd, Int.reduceNeg, Int.reduceSub, Int.reduceMul, Int.reduceLT, Int.reduceLE, Int.reduceEq, ↓GH.gp_eq, ↓GH.gp_ne, ↓GH.gs_eq, ↓GH.gs_ne, GH.push_next, GH.set_next, he, c']
          refine ih (m - 1) _ _ _ (by omega) ⟨hlo, hk4, i + 1, by omega, (by simp +decide (disch := first | assumption | (apply GH.ok_push; assumption) | exact cellV_int _ _ | exact cellV_bool _ | omega) only [go_sem, ↓reduceIte, Nat.reduceEqDiff, Nat.reduceAdd, Int.reduceToNat, he, c']; first | done | exact rfl), o, (by simp +decide (disch := first | assumption | (apply GH.ok_push; assumption) | exact cellV_int _ _ | exact cellV_bool _ | omega) only [go_sem, ↓reduceIte, Nat.reduceEqDiff, Nat.reduceAdd, Int.reduceToNat, h7]; first | done | exact rfl), ?_⟩
          unfold stpN stpC
          rw [hB2, if_neg (by simp [c]), if_neg (by simp [c])]
          exact ho4
        · have c' : ¬ (i : Int) = Z := by omega
          simp +decide (disch := first | assumption | exact cellV_int _ _ | exact cellV_bool _ | omega | (simp only [GH.pn, GH.sn] <;> omega) | (with_reducible ((repeat (first | apply GH.ok_push | apply GH.ok_set)); assumption)) | ((try simp only [GH.push_hid, GH.set_hid]); first | assumption | (refine GH.vis ?_ ?_ <;> first | assumption | ((try simp only [GH.pn, GH.sn]) <;> omega)))) only [go_sem, ↓reduceIte, Nat.reduceEqDiff, Nat.reduceAdd, Int.reduceToNat, Int.reduceAdd, Int.reduceNeg, Int.reduceSub, Int.reduceMul, Int.reduceLT, Int.reduceLE, Int.reduceEq, ↓GH.gp_eq, ↓GH.gp_ne, ↓GH.gs_eq, ↓GH.gs_ne, GH.push_next, GH.set_next, he, h7, c']
          have w1 := alone_rets hX i (by omega) g4
          have w2 := fun G => alone_rets hX Z (by omega) G
          have w3 := fun G => minus_rets hX (uI i 0) (uI i 1) (uI i 2) (uI Z 0) (uI Z 1) (uI Z 2) (by have h0 := uI_sm i 0; have h1 := uI_sm i 1; have h2 := uI_sm i 2; unfold Sm; omega) (by have h0 := uI_sm Z 0; have h1 := uI_sm Z 1; have h2 := uI_sm Z 2; unfold Sm; omega) G
          have u1 : vcV (if i = 0 then 1 else 0) (if i = 1 then 1 else 0) (if i = 2 then 1 else 0) = vcV (uI i 0) (uI i 1) (uI i 2) := rfl
          have u2 : vcV (if Z = 0 then 1 else 0) (if Z = 1 then 1 else 0) (if Z = 2 then 1 else 0) = vcV (uI Z 0) (uI Z 1) (uI Z 2) := rfl
          rw [u1] at w1
          rw [u2] at w2
          refine CallD.calm w1 ?_
          rintro v g5 hx5 rfl
          have hn5 := hx5.next
          have hok5 := hx5.ok hok4
          simp +decide (disch := first | assumption | exact cellV_int _ _ | exact cellV_bool _ | omega | (simp only [GH.pn, GH.sn] <;> omega) | (with_reducible ((repeat (first | apply GH.ok_push | apply GH.ok_set)); assumption)) | ((try simp only [GH.push_hid, GH.set_hid]); first | assumption | (refine GH.vis ?_ ?_ <;> first | assumption | ((try simp only [GH.pn, GH.sn]) <;> omega)))) only [go_sem, ↓reduceIte, Nat.reduceEqDiff, Nat.reduceAdd, Int.reduceToNat, Int.reduceAdd, Int.reduceNeg, Int.reduceSub, Int.reduceMul, Int.reduceLT, Int.reduceLE, Int.reduceEq, ↓GH.gp_eq, ↓GH.gp_ne, ↓GH.gs_eq, ↓GH.gs_ne, GH.push_next, GH.set_next, he]
          refine CallD.calm (w2 g5) ?_
          rintro v g6 hx6 rfl
          have hn6 := hx6.next
          have hok6 := hx6.ok hok5
          simp +decide (disch := first | assumption | exact cellV_int _ _ | exact cellV_bool _ | omega | (simp only [GH.pn, GH.sn] <;> omega) | (with_reducible ((repeat (first | apply GH.ok_push | apply GH.ok_set)); assumption)) | ((try simp only [GH.push_hid, GH.set_hid]); first | assumption | (refine GH.vis ?_ ?_ <;> first | assumption | ((try simp only [GH.pn, GH.sn]) <;> omega)))) only [go_sem, ↓reduceIte, Nat.reduceEqDiff, Nat.reduceAdd, Int.reduceToNat, Int.reduceAdd, Int.reduceNeg, Int.reduceSub, Int.reduceMul, Int.reduceLT, Int.reduceLE, Int.reduceEq, ↓GH.gp_eq, ↓GH.gp_ne, ↓GH.gs_eq, ↓GH.gs_ne, GH.push_next, GH.set_next, he]
          refine CallD.calm (w3 g6) ?_
          rintro v g7 hx7 rfl
          have hn7 := hx7.next
          have hok7 := hx7.ok hok6
          unfold vcV
          simp +decide (disch := first | assumption | exact cellV_int _ _ | exact cellV_bool _ | omega | (simp only [GH.pn, GH.sn] <;> omega) | (with_reducible ((repeat (first | apply GH.ok_push | apply GH.ok_set)); assumption)) | ((try simp only [GH.push_hid, GH.set_hid]); first | assumption | (refine GH.vis ?_ ?_ <;> first | assumption | ((try simp only [GH.pn, GH.sn]) <;> omega)))) only [go_sem, ↓reduceIte, Nat.reduceEqDiff, Nat.reduceAdd, Int.reduceToNat, Int.reduceAdd, Int.reduceNeg, Int.reduceSub, Int.reduceMul, Int.reduceLT, Int.reduceLE, Int.reduceEq, ↓GH.gp_eq, ↓GH.gp_ne, ↓GH.gs_eq, ↓GH.gs_ne, GH.push_next, GH.set_next, he, bslV]
          have hkp := ((hx5.kept.ext hx6).ext hx7).push hok7 (cellsOb (stpV i Z) 67)
          refine AppD.ownS (lw := g.next) (new := stpV i Z) (tx := 67) (ho4.kept hkp) (by rw [GH.gp_eq hok7 rfl]; rfl) rfl (by omega) (by omega) rfl (by have := stpN_le B Z i; omega) (by simp only [GH.push_next]; omega) hlo (Nat.le_refl _) (GH.ok_push hok7) (fun s' g8 lo8 sp wr hgr hlo8 => ?_)
          simp +decide (disch := first | assumption | (apply GH.ok_push; assumption) | exact cellV_int _ _ | exact cellV_bool _ | omega) only [go_sem, ↓reduceIte, Nat.reduceEqDiff, Nat.reduceAdd, Int.reduceToNat, he]
          refine ih (m - 1) _ _ _ (by omega) ⟨hlo8, (hk4.trans hkp).grewS hgr (Nat.le_refl _), i + 1, by omega, (by simp +decide (disch := first | assumption | (apply GH.ok_push; assumption) | exact cellV_int _ _ | exact cellV_bool _ | omega) only [go_sem, ↓reduceIte, Nat.reduceEqDiff, Nat.reduceAdd, Int.reduceToNat, he]; first | done | exact rfl), s', (by simp +decide (disch := first | assumption | (apply GH.ok_push; assumption) | exact cellV_int _ _ | exact cellV_bool _ | omega) only [go_sem, ↓reduceIte, Nat.reduceEqDiff, Nat.reduceAdd, Int.reduceToNat]; first | done | exact rfl), ?_⟩
          unfold stpN stpC
          rw [if_pos ⟨hB2, c⟩, if_pos ⟨hB2, c⟩]
          exact hgr.own
    · have ci' : ¬ (i : Int) < n := by omega
      simp +decide (disch := first | assumption | exact cellV_int _ _ | exact cellV_bool _ | omega | (simp only [GH.pn, GH.sn] <;> omega) | (with_reducible ((repeat (first | apply GH.ok_push | apply GH.ok_set)); assumption)) | ((try simp only [GH.push_hid, GH.set_hid]); first | assumption | (refine GH.vis ?_ ?_ <;> first | assumption | ((try simp only [GH.pn, GH.sn]) <;> omega)))) only [go_sem, ↓reduceIte, Nat.reduceEqDiff, Nat.reduceAdd, Int.reduceToNat, Int.reduceAdd, Int.reduceNeg, Int.reduceSub, Int.reduceMul, Int.reduceLT, Int.reduceLE, Int.reduceEq, ↓GH.gp_eq, ↓GH.gp_ne, ↓GH.gs_eq, ↓GH.gs_ne, GH.push_next, GH.set_next, he, ci']
      have : i = n := by omega
      subst this
      exact out _ _ _ ⟨hlo, hk, o, (by simp +decide (disch := first | assumption | (apply GH.ok_push; assumption) | exact cellV_int _ _ | exact cellV_bool _ | omega) only [go_sem, ↓reduceIte, Nat.reduceEqDiff, Nat.reduceAdd, Int.reduceToNat, h7]; first | done | exact rfl), hown⟩
end Go.Proofs.YtngmaccaldhjcaaDoor
set_option maxRecDepth 100000
set_option maxHeartbeats 4000000
set_option linter.unusedSimpArgs false
set_option linter.unusedVariables false
namespace Go.Proofs.YtngmaccaldhjcaaDoor
open Go.Ds
theorem obl3 (a b c : Value) (t : TypeId) (f : Nat) : obLoad (some 3) (slackOb [a, b, c] t f) 0 = some (.agg #[a, b, c]) := rfl
theorem lasts_rets {X : Caller} (hX : Xok X) (n : Nat) (hn : n ≤ 3) (m00 m01 m02 m10 m11 m12 m20 m21 m22 x0 x1 x2 d : Int) (hm : Sm9 m00 m01 m02 m10 m11 m12 m20 m21 m22) (hx : Sm 10000 x0 ∧ Sm 10000 x1 ∧ Sm 10000 x2) (hf : 1 ≤ fashF (v3 x0 x1 x2) 3) (B Z : Nat) (hB : (bestS (rowG m00 m01 m02 m10 m11 m12 m20 m21 m22 x0 x1 x2) n).1 = B) (hZ : tzN (fashF (v3 x0 x1 x2) 3) = Z) (lb : Bool)
    (hst : (stpN B Z n = 0 ∧ stpC B Z n = [] ∧ lb = true) ∨ ∃ i, i < 3 ∧ stpN B Z n = 1 ∧ stpC B Z n = stpV i Z ∧ lb = decide (gainZ m00 m01 m02 m10 m11 m12 m20 m21 m22 (uI i 0 - uI Z 0) (uI i 1 - uI Z 1) (uI i 2 - uI Z 2) (uI i 0 - uI Z 0) (uI i 1 - uI Z 1) (uI i 2 - uI Z 2) < 0)) (g : GH) (hT : HasTab g) :
    Rets Tryd.prog X 63 [mkV n m00 m01 m02 m10 m11 m12 m20 m21 m22, mxV x0 x1 x2 d] g (fun v g' lo => g.next ≤ lo ∧ v = .bool (decide (andn (fashF (v3 x0 x1 x2) 3) B = 0) && lb)) := by
  have hr := fun g' => atRest_rets hX n hn m00 m01 m02 m10 m11 m12 m20 m21 m22 x0 x1 x2 d hm hx g'
  have hs := fun g' h => steps_rets hX n hn m00 m01 m02 m10 m11 m12 m20 m21 m22 x0 x1 x2 d hm hx hf g' h
  rw [hB] at hr hs
  rw [hZ] at hs
  obtain ⟨R, hR⟩ : ∃ R, decide (andn (fashF (v3 x0 x1 x2) 3) B = 0) = R := ⟨_, rfl⟩
  rw [hR] at hr ⊢
  unfold mkV mxV at *
  refine Rets.run hX.pres p63 (hX.free 63 (by decide) _ _) rfl fun ho => ?_
  simp +decide (disch := first | assumption | exact cellV_int _ _ | exact cellV_bool _ | omega | (simp only [GH.pn, GH.sn] <;> omega) | (with_reducible ((repeat (first | apply GH.ok_push | apply GH.ok_set)); assumption)) | ((try simp only [GH.push_hid, GH.set_hid]); first | assumption | (refine GH.vis ?_ ?_ <;> first | assumption | ((try simp only [GH.pn, GH.sn]) <;> omega)))) only [go_sem, ↓reduceIte, Nat.reduceEqDiff, Nat.reduceAdd, Int.reduceToNat, Int.reduceAdd, Int.reduceNeg, Int.reduceSub, Int.reduceMul, Int.reduceLT, Int.reduceLE, Int.reduceEq, ↓GH.gp_eq, ↓GH.gp_ne, ↓GH.gs_eq, ↓GH.gs_ne, GH.push_next, GH.set_next]
  refine CallD.name fun H hH => ?_
  have hnH : H.next = g.next + 1 + 1 := by rw [hH]; rfl
  have hokH : H.ok := by rw [hH]; exact GH.ok_push (GH.ok_push ho)
  have hkH : Kept g H := by rw [hH]; exact (by (repeat' first | exact Kept.refl _ | assumption | refine Kept.push ?_ ?_ _ | refine Kept.setV ?_ ?_ ?_ _) <;> (first | assumption | exact cellV_int _ _ | exact cellV_bool _ | omega | (simp only [GH.pn, GH.sn] <;> omega) | (with_reducible ((repeat (first | apply GH.ok_push | apply GH.ok_set)); assumption)) | ((try simp only [GH.push_hid, GH.set_hid]); first | assumption | (refine GH.vis ?_ ?_ <;> first | assumption | ((try simp only [GH.pn, GH.sn]) <;> omega)))))
  have hA : H.get g.next = cellsOb [.int .i64 n, .int .i64 m00, .int .i64 m01, .int .i64 m02, .int .i64 m10, .int .i64 m11, .int .i64 m12, .int .i64 m20, .int .i64 m21, .int .i64 m22] 73 := by rw [hH]; exact (by simp (disch := first | assumption | exact cellV_int _ _ | exact cellV_bool _ | omega | (simp only [GH.pn, GH.sn] <;> omega) | (with_reducible ((repeat (first | apply GH.ok_push | apply GH.ok_set)); assumption)) | ((try simp only [GH.push_hid, GH.set_hid]); first | assumption | (refine GH.vis ?_ ?_ <;> first | assumption | ((try simp only [GH.pn, GH.sn]) <;> omega)))) only [↓GH.gp_eq, ↓GH.gp_ne, ↓GH.gs_eq, ↓GH.gs_ne, GH.push_next, GH.set_next]; first | done | exact rfl)
  have hC : H.get (g.next + 1) = cellsOb [.int .i64 x0, .int .i64 x1, .int .i64 x2, .int .i64 d] 69 := by rw [hH]; exact (by simp (disch := first | assumption | exact cellV_int _ _ | exact cellV_bool _ | omega | (simp only [GH.pn, GH.sn] <;> omega) | (with_reducible ((repeat (first | apply GH.ok_push | apply GH.ok_set)); assumption)) | ((try simp only [GH.push_hid, GH.set_hid]); first | assumption | (refine GH.vis ?_ ?_ <;> first | assumption | ((try simp only [GH.pn, GH.sn]) <;> omega)))) only [↓GH.gp_eq, ↓GH.gp_ne, ↓GH.gs_eq, ↓GH.gs_ne, GH.push_next, GH.set_next]; first | done | exact rfl)
  refine CallD.calm (hr H) ?_
  rintro v g1 hx1 rfl
  have hn1 := hx1.next
  have hok1 := hx1.ok hokH
  have hk1 := hkH.ext hx1
  have hA1 := (hx1.gets g.next (by omega)).trans hA
  have hC1 := (hx1.gets (g.next + 1) (by omega)).trans hC
  cases R with
  | false =>
    simp +decide (disch := first | assumption | exact cellV_int _ _ | exact cellV_bool _ | omega | (simp only [GH.pn, GH.sn] <;> omega) | (with_reducible ((repeat (first | apply GH.ok_push | apply GH.ok_set)); assumption)) | ((try simp only [GH.push_hid, GH.set_hid]); first | assumption | (refine GH.vis ?_ ?_ <;> first | assumption | ((try simp only [GH.pn, GH.sn]) <;> omega)))) only [go_sem, ↓reduceIte, Nat.reduceEqDiff, Nat.reduceAdd, Int.reduceToNat, Int.reduceAdd, Int.reduceNeg, Int.reduceSub, Int.reduceMul, Int.reduceLT, Int.reduceLE, Int.reduceEq, ↓GH.gp_eq, ↓GH.gp_ne, ↓GH.gs_eq, ↓GH.gs_ne, GH.push_next, GH.set_next]
    intro hx0
    exact ⟨by omega, rfl⟩
  | true =>
    rw [Bool.true_and]
    simp +decide (disch := first | assumption | exact cellV_int _ _ | exact cellV_bool _ | omega | (simp only [GH.pn, GH.sn] <;> omega) | (with_reducible ((repeat (first | apply GH.ok_push | apply GH.ok_set)); assumption)) | ((try simp only [GH.push_hid, GH.set_hid]); first | assumption | (refine GH.vis ?_ ?_ <;> first | assumption | ((try simp only [GH.pn, GH.sn]) <;> omega)))) only [go_sem, ↓reduceIte, Nat.reduceEqDiff, Nat.reduceAdd, Int.reduceToNat, Int.reduceAdd, Int.reduceNeg, Int.reduceSub, Int.reduceMul, Int.reduceLT, Int.reduceLE, Int.reduceEq, ↓GH.gp_eq, ↓GH.gp_ne, ↓GH.gs_eq, ↓GH.gs_ne, GH.push_next, GH.set_next, hA1, hC1]
    refine CallD.calm (R := fun v g2 => Kept g1 g2 ∧ OwnS g2 v 3 (stpN B Z n) (stpC B Z n) 67 g1.next) (hs g1 (hT.kept hk1)) ?_
    rintro w g2 hx2 ⟨hk12, hown⟩
    have hn2 := hx2.next
    have hok2 := hx2.ok hok1
    have hk2 := hk1.ext hx2
    have hA2 := (hx2.gets g.next (by omega)).trans hA1
    have hlw := hown.len
    rcases hst with ⟨s1, s2, rfl⟩ | ⟨i, hi, s1, s2, rfl⟩
    · rw [s1] at hlw
      simp +decide (disch := first | assumption | exact cellV_int _ _ | exact cellV_bool _ | omega | (simp only [GH.pn, GH.sn] <;> omega) | (with_reducible ((repeat (first | apply GH.ok_push | apply GH.ok_set)); assumption)) | ((try simp only [GH.push_hid, GH.set_hid]); first | assumption | (refine GH.vis ?_ ?_ <;> first | assumption | ((try simp only [GH.pn, GH.sn]) <;> omega)))) only [go_sem, ↓reduceIte, Nat.reduceEqDiff, Nat.reduceAdd, Int.reduceToNat, Int.reduceAdd, Int.reduceNeg, Int.reduceSub, Int.reduceMul, Int.reduceLT, Int.reduceLE, Int.reduceEq, ↓GH.gp_eq, ↓GH.gp_ne, ↓GH.gs_eq, ↓GH.gs_ne, GH.push_next, GH.set_next, hlw]
      repeat ((first | refine Wk.once ?_ | refine Wk.more (Wk.once ?_) | refine Wk.leave ?_); simp +decide (disch := first | assumption | exact cellV_int _ _ | exact cellV_bool _ | omega | (simp only [GH.pn, GH.sn] <;> omega) | (with_reducible ((repeat (first | apply GH.ok_push | apply GH.ok_set)); assumption)) | ((try simp only [GH.push_hid, GH.set_hid]); first | assumption | (refine GH.vis ?_ ?_ <;> first | assumption | ((try simp only [GH.pn, GH.sn]) <;> omega)))) only [go_sem, ↓reduceIte, Nat.reduceEqDiff, Nat.reduceAdd, Int.reduceToNat, Int.reduceAdd, Int.reduceNeg, Int.reduceSub, Int.reduceMul, Int.reduceLT, Int.reduceLE, Int.reduceEq, ↓GH.gp_eq, ↓GH.gp_ne, ↓GH.gs_eq, ↓GH.gs_ne, GH.push_next, GH.set_next, hlw])
      intro hx0
      exact ⟨by omega, rfl⟩
    · rw [s1, s2] at hown
      rw [s1] at hlw
      rcases hown with ⟨_, q, _⟩ | ⟨j, fam, rfl, q1, q2, q3, q4, q5, q6, q7⟩
      · exact absurd q (by unfold stpV; simp)
      · unfold stpV at q3
        have hga := fun G => gain_rets hX n m00 m01 m02 m10 m11 m12 m20 m21 m22 (uI i 0 - uI Z 0) (uI i 1 - uI Z 1) (uI i 2 - uI Z 2) (uI i 0 - uI Z 0) (uI i 1 - uI Z 1) (uI i 2 - uI Z 2) 10 10 20 hm (by have h0 := uI_sm i 0; have h1 := uI_sm i 1; have h2 := uI_sm i 2; have h3 := uI_sm Z 0; have h4 := uI_sm Z 1; have h5 := uI_sm Z 2; unfold Sm; omega) (by have h0 := uI_sm i 0; have h1 := uI_sm i 1; have h2 := uI_sm i 2; have h3 := uI_sm Z 0; have h4 := uI_sm Z 1; have h5 := uI_sm Z 2; unfold Sm; omega) (by decide) (by decide) G
        unfold mkV vcV at hga
        have hia : iaddrSF 3 (.slice (some ⟨j, 0, none⟩) 1 (OPEN + 3)) (.int .i64 0) = some (.pointer (some ⟨j, 0, none⟩)) := rfl
        have hob : obLoad (some 3) (g2.get j) 0 = some (.agg #[.int .i64 (uI i 0 - uI Z 0), .int .i64 (uI i 1 - uI Z 1), .int .i64 (uI i 2 - uI Z 2)]) := by rw [q3, obl3]
        simp +decide (disch := first | assumption | exact cellV_int _ _ | exact cellV_bool _ | omega | (simp only [GH.pn, GH.sn] <;> omega) | (with_reducible ((repeat (first | apply GH.ok_push | apply GH.ok_set)); assumption)) | ((try simp only [GH.push_hid, GH.set_hid]); first | assumption | (refine GH.vis ?_ ?_ <;> first | assumption | ((try simp only [GH.pn, GH.sn]) <;> omega)))) only [go_sem, ↓reduceIte, Nat.reduceEqDiff, Nat.reduceAdd, Int.reduceToNat, Int.reduceAdd, Int.reduceNeg, Int.reduceSub, Int.reduceMul, Int.reduceLT, Int.reduceLE, Int.reduceEq, ↓GH.gp_eq, ↓GH.gp_ne, ↓GH.gs_eq, ↓GH.gs_ne, GH.push_next, GH.set_next, hlw]
        repeat ((first | refine Wk.once ?_ | refine Wk.more (Wk.once ?_) | refine Wk.leave ?_); simp +decide (disch := first | assumption | exact cellV_int _ _ | exact cellV_bool _ | omega | (simp only [GH.pn, GH.sn] <;> omega) | (with_reducible ((repeat (first | apply GH.ok_push | apply GH.ok_set)); assumption)) | ((try simp only [GH.push_hid, GH.set_hid]); first | assumption | (refine GH.vis ?_ ?_ <;> first | assumption | ((try simp only [GH.pn, GH.sn]) <;> omega)))) only [go_sem, ↓reduceIte, Nat.reduceEqDiff, Nat.reduceAdd, Int.reduceToNat, Int.reduceAdd, Int.reduceNeg, Int.reduceSub, Int.reduceMul, Int.reduceLT, Int.reduceLE, Int.reduceEq, ↓GH.gp_eq, ↓GH.gp_ne, ↓GH.gs_eq, ↓GH.gs_ne, GH.push_next, GH.set_next, hlw, hia, hob, hA2])
        refine CallD.name fun G hG => ?_
        have hnG : G.next = g2.next + 1 := by rw [hG]; rfl
        have hokG : G.ok := by rw [hG]; exact GH.ok_set (GH.ok_push hok2)
        refine CallD.calm (hga G) ?_
        rintro v g3 hx3 rfl
        have hn3 := hx3.next
        obtain ⟨W, hW⟩ : ∃ W, gainZ m00 m01 m02 m10 m11 m12 m20 m21 m22 (uI i 0 - uI Z 0) (uI i 1 - uI Z 1) (uI i 2 - uI Z 2) (uI i 0 - uI Z 0) (uI i 1 - uI Z 1) (uI i 2 - uI Z 2) = W := ⟨_, rfl⟩
        rw [hW]
        by_cases c : W < 0
        · rw [decide_eq_true c]
          simp +decide (disch := first | assumption | exact cellV_int _ _ | exact cellV_bool _ | omega | (simp only [GH.pn, GH.sn] <;> omega) | (with_reducible ((repeat (first | apply GH.ok_push | apply GH.ok_set)); assumption)) | ((try simp only [GH.push_hid, GH.set_hid]); first | assumption | (refine GH.vis ?_ ?_ <;> first | assumption | ((try simp only [GH.pn, GH.sn]) <;> omega)))) only [go_sem, ↓reduceIte, Nat.reduceEqDiff, Nat.reduceAdd, Int.reduceToNat, Int.reduceAdd, Int.reduceNeg, Int.reduceSub, Int.reduceMul, Int.reduceLT, Int.reduceLE, Int.reduceEq, ↓GH.gp_eq, ↓GH.gp_ne, ↓GH.gs_eq, ↓GH.gs_ne, GH.push_next, GH.set_next, c]
          repeat ((first | refine Wk.once ?_ | refine Wk.more (Wk.once ?_) | refine Wk.leave ?_); simp +decide (disch := first | assumption | exact cellV_int _ _ | exact cellV_bool _ | omega | (simp only [GH.pn, GH.sn] <;> omega) | (with_reducible ((repeat (first | apply GH.ok_push | apply GH.ok_set)); assumption)) | ((try simp only [GH.push_hid, GH.set_hid]); first | assumption | (refine GH.vis ?_ ?_ <;> first | assumption | ((try simp only [GH.pn, GH.sn]) <;> omega)))) only [go_sem, ↓reduceIte, Nat.reduceEqDiff, Nat.reduceAdd, Int.reduceToNat, Int.reduceAdd, Int.reduceNeg, Int.reduceSub, Int.reduceMul, Int.reduceLT, Int.reduceLE, Int.reduceEq, ↓GH.gp_eq, ↓GH.gp_ne, ↓GH.gs_eq, ↓GH.gs_ne, GH.push_next, GH.set_next, hlw])
          intro hx0
          exact ⟨by omega, rfl⟩
        · rw [decide_eq_false c]
          simp +decide (disch := first | assumption | exact cellV_int _ _ | exact cellV_bool _ | omega | (simp only [GH.pn, GH.sn] <;> omega) | (with_reducible ((repeat (first | apply GH.ok_push | apply GH.ok_set)); assumption)) | ((try simp only [GH.push_hid, GH.set_hid]); first | assumption | (refine GH.vis ?_ ?_ <;> first | assumption | ((try simp only [GH.pn, GH.sn]) <;> omega)))) only [go_sem, ↓reduceIte, Nat.reduceEqDiff, Nat.reduceAdd, Int.reduceToNat, Int.reduceAdd, Int.reduceNeg, Int.reduceSub, Int.reduceMul, Int.reduceLT, Int.reduceLE, Int.reduceEq, ↓GH.gp_eq, ↓GH.gp_ne, ↓GH.gs_eq, ↓GH.gs_ne, GH.push_next, GH.set_next, c]
          intro hx0
          exact ⟨by omega, rfl⟩
end Go.Proofs.YtngmaccaldhjcaaDoor
set_option maxRecDepth 100000
set_option maxHeartbeats 4000000
set_option linter.unusedSimpArgs false
set_option linter.unusedVariables false
namespace Go.Proofs.YtngmaccaldhjcaaDoor
open Go.Ds
theorem obl6a (a b c d e f : Value) (t : TypeId) (k : Nat) : obLoad (some 3) (slackOb [a, b, c, d, e, f] t k) 0 = some (.agg #[a, b, c]) := rfl
theorem obl6b (a b c d e f : Value) (t : TypeId) (k : Nat) : obLoad (some 3) (slackOb [a, b, c, d, e, f] t k) 3 = some (.agg #[d, e, f]) := rfl
/-- What a step gains against a step. -/
def gS (m00 m01 m02 m10 m11 m12 m20 m21 m22 : Int) (i k Z : Nat) : Int := gainZ m00 m01 m02 m10 m11 m12 m20 m21 m22 (uI i 0 - uI Z 0) (uI i 1 - uI Z 1) (uI i 2 - uI Z 2) (uI k 0 - uI Z 0) (uI k 1 - uI Z 1) (uI k 2 - uI Z 2)
theorem uI_d (i Z j : Nat) : Sm 1 (uI i j - uI Z j) := by have h0 := uI_sm i j; have h1 := uI_sm Z j; unfold Sm; omega
theorem gS_sm {m00 m01 m02 m10 m11 m12 m20 m21 m22 : Int} (hm : Sm9 m00 m01 m02 m10 m11 m12 m20 m21 m22) (i k Z : Nat) : Sm 180 (gS m00 m01 m02 m10 m11 m12 m20 m21 m22 i k Z) := by
  obtain ⟨h00, h01, h02, h10, h11, h12, h20, h21, h22⟩ := hm
  have p : ∀ {x y m : Int}, Sm 1 x → Sm 1 y → Sm 20 m → Sm 20 (x * y * m) := fun h1 h2 h3 => (h1.mul h2).mul h3
  have q00 := p (uI_d i Z 0) (uI_d k Z 0) h00
  have q01 := p (uI_d i Z 0) (uI_d k Z 1) h01
  have q02 := p (uI_d i Z 0) (uI_d k Z 2) h02
  have q10 := p (uI_d i Z 1) (uI_d k Z 0) h10
  have q11 := p (uI_d i Z 1) (uI_d k Z 1) h11
  have q12 := p (uI_d i Z 1) (uI_d k Z 2) h12
  have q20 := p (uI_d i Z 2) (uI_d k Z 0) h20
  have q21 := p (uI_d i Z 2) (uI_d k Z 1) h21
  have q22 := p (uI_d i Z 2) (uI_d k Z 2) h22
  unfold gS gainZ
  unfold Sm at *
  omega
theorem gS_rets {X : Caller} (hX : Xok X) (n m00 m01 m02 m10 m11 m12 m20 m21 m22 : Int) (hm : Sm9 m00 m01 m02 m10 m11 m12 m20 m21 m22) (i k Z : Nat) (G : GH) :
    Rets Tryd.prog X 52 [.agg #[.int .i64 n, .int .i64 m00, .int .i64 m01, .int .i64 m02, .int .i64 m10, .int .i64 m11, .int .i64 m12, .int .i64 m20, .int .i64 m21, .int .i64 m22], .agg #[.int .i64 (uI i 0 - uI Z 0), .int .i64 (uI i 1 - uI Z 1), .int .i64 (uI i 2 - uI Z 2)], .agg #[.int .i64 (uI k 0 - uI Z 0), .int .i64 (uI k 1 - uI Z 1), .int .i64 (uI k 2 - uI Z 2)]] G (fun v g' lo => G.next ≤ lo ∧ v = .int .i64 (gS m00 m01 m02 m10 m11 m12 m20 m21 m22 i k Z)) :=
  gain_rets hX n m00 m01 m02 m10 m11 m12 m20 m21 m22 (uI i 0 - uI Z 0) (uI i 1 - uI Z 1) (uI i 2 - uI Z 2) (uI k 0 - uI Z 0) (uI k 1 - uI Z 1) (uI k 2 - uI Z 2) 1 1 20 hm ⟨uI_d i Z 0, uI_d i Z 1, uI_d i Z 2⟩ ⟨uI_d k Z 0, uI_d k Z 1, uI_d k Z 2⟩ (by decide) (by decide) G
/-- Whether all sums of two steps lose. -/
def lb2 (d A C M : Int) : Bool := decide (A < 0) && (decide (C < 0) && (decide (d = 1 ∧ M ≤ 0) || decide (M * M < 4 * A * C)))
theorem lasts2_rets {X : Caller} (hX : Xok X) (n : Nat) (hn : n ≤ 3) (m00 m01 m02 m10 m11 m12 m20 m21 m22 x0 x1 x2 d : Int) (hm : Sm9 m00 m01 m02 m10 m11 m12 m20 m21 m22) (hx : Sm 10000 x0 ∧ Sm 10000 x1 ∧ Sm 10000 x2) (hf : 1 ≤ fashF (v3 x0 x1 x2) 3) (B Z : Nat) (hB : (bestS (rowG m00 m01 m02 m10 m11 m12 m20 m21 m22 x0 x1 x2) n).1 = B) (hZ : tzN (fashF (v3 x0 x1 x2) 3) = Z) (i k : Nat)
    (s1 : stpN B Z n = 2) (s2 : stpC B Z n = stpV i Z ++ stpV k Z) (g : GH) (hT : HasTab g) :
    Rets Tryd.prog X 63 [mkV n m00 m01 m02 m10 m11 m12 m20 m21 m22, mxV x0 x1 x2 d] g (fun v g' lo => g.next ≤ lo ∧ v = .bool (decide (andn (fashF (v3 x0 x1 x2) 3) B = 0) && lb2 d (gS m00 m01 m02 m10 m11 m12 m20 m21 m22 i i Z) (gS m00 m01 m02 m10 m11 m12 m20 m21 m22 k k Z) (gS m00 m01 m02 m10 m11 m12 m20 m21 m22 i k Z + gS m00 m01 m02 m10 m11 m12 m20 m21 m22 k i Z))) := by
  have hr := fun g' => atRest_rets hX n hn m00 m01 m02 m10 m11 m12 m20 m21 m22 x0 x1 x2 d hm hx g'
  have hs := fun g' h => steps_rets hX n hn m00 m01 m02 m10 m11 m12 m20 m21 m22 x0 x1 x2 d hm hx hf g' h
  rw [hB] at hr hs
  rw [hZ] at hs
  have wii := fun G => gS_rets hX n m00 m01 m02 m10 m11 m12 m20 m21 m22 hm i i Z G
  have wik := fun G => gS_rets hX n m00 m01 m02 m10 m11 m12 m20 m21 m22 hm i k Z G
  have wki := fun G => gS_rets hX n m00 m01 m02 m10 m11 m12 m20 m21 m22 hm k i Z G
  have wkk := fun G => gS_rets hX n m00 m01 m02 m10 m11 m12 m20 m21 m22 hm k k Z G
  have tii := gS_sm hm i i Z
  have tik := gS_sm hm i k Z
  have tki := gS_sm hm k i Z
  have tkk := gS_sm hm k k Z
  obtain ⟨A, hA0⟩ : ∃ A, gS m00 m01 m02 m10 m11 m12 m20 m21 m22 i i Z = A := ⟨_, rfl⟩
  obtain ⟨M1, hM1⟩ : ∃ A, gS m00 m01 m02 m10 m11 m12 m20 m21 m22 i k Z = A := ⟨_, rfl⟩
  obtain ⟨M2, hM2⟩ : ∃ A, gS m00 m01 m02 m10 m11 m12 m20 m21 m22 k i Z = A := ⟨_, rfl⟩
  obtain ⟨C, hC0⟩ : ∃ A, gS m00 m01 m02 m10 m11 m12 m20 m21 m22 k k Z = A := ⟨_, rfl⟩
  rw [hA0] at wii tii ⊢
  rw [hM1] at wik tik ⊢
  rw [hM2] at wki tki ⊢
  rw [hC0] at wkk tkk ⊢
  have tM : Sm 360 (M1 + M2) := by unfold Sm at *; omega
  have tMM := tM.mul tM
  have t4 : Sm 720 (4 * A) := by unfold Sm at *; omega
  have t4C := t4.mul tkk
  unfold Sm at tii tik tki tkk tM tMM t4 t4C
  clear hA0 hM1 hM2 hC0
  obtain ⟨R, hR⟩ : ∃ R, decide (andn (fashF (v3 x0 x1 x2) 3) B = 0) = R := ⟨_, rfl⟩
  rw [hR] at hr ⊢
  unfold mkV mxV at *
  refine Rets.run hX.pres p63 (hX.free 63 (by decide) _ _) rfl fun ho => ?_
  simp +decide (disch := first | assumption | exact cellV_int _ _ | exact cellV_bool _ | omega | (simp only [GH.pn, GH.sn] <;> omega) | (with_reducible ((repeat (first | apply GH.ok_push | apply GH.ok_set)); assumption)) | ((try simp only [GH.push_hid, GH.set_hid]); first | assumption | (refine GH.vis ?_ ?_ <;> first | assumption | ((try simp only [GH.pn, GH.sn]) <;> omega)))) only [go_sem, ↓reduceIte, Nat.reduceEqDiff, Nat.reduceAdd, Int.reduceToNat, Int.reduceAdd, Int.reduceNeg, Int.reduceSub, Int.reduceMul, Int.reduceLT, Int.reduceLE, Int.reduceEq, ↓GH.gp_eq, ↓GH.gp_ne, ↓GH.gs_eq, ↓GH.gs_ne, GH.push_next, GH.set_next]
  refine CallD.name fun H hH => ?_
  have hnH : H.next = g.next + 1 + 1 := by rw [hH]; rfl
  have hokH : H.ok := by rw [hH]; exact GH.ok_push (GH.ok_push ho)
  have hkH : Kept g H := by rw [hH]; exact (by (repeat' first | exact Kept.refl _ | assumption | refine Kept.push ?_ ?_ _ | refine Kept.setV ?_ ?_ ?_ _) <;> (first | assumption | exact cellV_int _ _ | exact cellV_bool _ | omega | (simp only [GH.pn, GH.sn] <;> omega) | (with_reducible ((repeat (first | apply GH.ok_push | apply GH.ok_set)); assumption)) | ((try simp only [GH.push_hid, GH.set_hid]); first | assumption | (refine GH.vis ?_ ?_ <;> first | assumption | ((try simp only [GH.pn, GH.sn]) <;> omega)))))
  have hA : H.get g.next = cellsOb [.int .i64 n, .int .i64 m00, .int .i64 m01, .int .i64 m02, .int .i64 m10, .int .i64 m11, .int .i64 m12, .int .i64 m20, .int .i64 m21, .int .i64 m22] 73 := by rw [hH]; exact (by simp (disch := first | assumption | exact cellV_int _ _ | exact cellV_bool _ | omega | (simp only [GH.pn, GH.sn] <;> omega) | (with_reducible ((repeat (first | apply GH.ok_push | apply GH.ok_set)); assumption)) | ((try simp only [GH.push_hid, GH.set_hid]); first | assumption | (refine GH.vis ?_ ?_ <;> first | assumption | ((try simp only [GH.pn, GH.sn]) <;> omega)))) only [↓GH.gp_eq, ↓GH.gp_ne, ↓GH.gs_eq, ↓GH.gs_ne, GH.push_next, GH.set_next]; first | done | exact rfl)
  have hC : H.get (g.next + 1) = cellsOb [.int .i64 x0, .int .i64 x1, .int .i64 x2, .int .i64 d] 69 := by rw [hH]; exact (by simp (disch := first | assumption | exact cellV_int _ _ | exact cellV_bool _ | omega | (simp only [GH.pn, GH.sn] <;> omega) | (with_reducible ((repeat (first | apply GH.ok_push | apply GH.ok_set)); assumption)) | ((try simp only [GH.push_hid, GH.set_hid]); first | assumption | (refine GH.vis ?_ ?_ <;> first | assumption | ((try simp only [GH.pn, GH.sn]) <;> omega)))) only [↓GH.gp_eq, ↓GH.gp_ne, ↓GH.gs_eq, ↓GH.gs_ne, GH.push_next, GH.set_next]; first | done | exact rfl)
  refine CallD.calm (hr H) ?_
  rintro v g1 hx1 rfl
  have hn1 := hx1.next
  have hok1 := hx1.ok hokH
  have hk1 := hkH.ext hx1
  have hA1 := (hx1.gets g.next (by omega)).trans hA
  have hC1 := (hx1.gets (g.next + 1) (by omega)).trans hC
  cases R with
  | false =>
    simp +decide (disch := first | assumption | exact cellV_int _ _ | exact cellV_bool _ | omega | (simp only [GH.pn, GH.sn] <;> omega) | (with_reducible ((repeat (first | apply GH.ok_push | apply GH.ok_set)); assumption)) | ((try simp only [GH.push_hid, GH.set_hid]); first | assumption | (refine GH.vis ?_ ?_ <;> first | assumption | ((try simp only [GH.pn, GH.sn]) <;> omega)))) only [go_sem, ↓reduceIte, Nat.reduceEqDiff, Nat.reduceAdd, Int.reduceToNat, Int.reduceAdd, Int.reduceNeg, Int.reduceSub, Int.reduceMul, Int.reduceLT, Int.reduceLE, Int.reduceEq, ↓GH.gp_eq, ↓GH.gp_ne, ↓GH.gs_eq, ↓GH.gs_ne, GH.push_next, GH.set_next]
    intro hx0
    exact ⟨by omega, rfl⟩
  | true =>
    rw [Bool.true_and]
    simp +decide (disch := first | assumption | exact cellV_int _ _ | exact cellV_bool _ | omega | (simp only [GH.pn, GH.sn] <;> omega) | (with_reducible ((repeat (first | apply GH.ok_push | apply GH.ok_set)); assumption)) | ((try simp only [GH.push_hid, GH.set_hid]); first | assumption | (refine GH.vis ?_ ?_ <;> first | assumption | ((try simp only [GH.pn, GH.sn]) <;> omega)))) only [go_sem, ↓reduceIte, Nat.reduceEqDiff, Nat.reduceAdd, Int.reduceToNat, Int.reduceAdd, Int.reduceNeg, Int.reduceSub, Int.reduceMul, Int.reduceLT, Int.reduceLE, Int.reduceEq, ↓GH.gp_eq, ↓GH.gp_ne, ↓GH.gs_eq, ↓GH.gs_ne, GH.push_next, GH.set_next, hA1, hC1]
    refine CallD.calm (R := fun v g2 => Kept g1 g2 ∧ OwnS g2 v 3 (stpN B Z n) (stpC B Z n) 67 g1.next) (hs g1 (hT.kept hk1)) ?_
    rintro w g2 hx2 ⟨hk12, hown⟩
    have hn2 := hx2.next
    have hok2 := hx2.ok hok1
    have hk2 := hk1.ext hx2
    have hA2 := (hx2.gets g.next (by omega)).trans hA1
    have hC2 := (hx2.gets (g.next + 1) (by omega)).trans hC1
    have hlw := hown.len
    rw [s1, s2] at hown
    rw [s1] at hlw
    rcases hown with ⟨_, q, _⟩ | ⟨j, fam, rfl, q1, q2, q3, q4, q5, q6, q7⟩
    · exact absurd q (by unfold stpV; simp)
    unfold stpV at q3
    have hia0 : iaddrSF 3 (.slice (some ⟨j, 0, none⟩) 2 (OPEN + 3)) (.int .i64 0) = some (.pointer (some ⟨j, 0, none⟩)) := rfl
    have hia1 : iaddrSF 3 (.slice (some ⟨j, 0, none⟩) 2 (OPEN + 3)) (.int .i64 1) = some (.pointer (some ⟨j, 3, none⟩)) := rfl
    have hob0 : obLoad (some 3) (g2.get j) 0 = some (.agg #[.int .i64 (uI i 0 - uI Z 0), .int .i64 (uI i 1 - uI Z 1), .int .i64 (uI i 2 - uI Z 2)]) := by rw [q3]; exact obl6a ..
    have hob1 : obLoad (some 3) (g2.get j) 3 = some (.agg #[.int .i64 (uI k 0 - uI Z 0), .int .i64 (uI k 1 - uI Z 1), .int .i64 (uI k 2 - uI Z 2)]) := by rw [q3]; exact obl6b ..
    have hj2 : j < g2.next := by omega
    simp +decide (disch := first | assumption | exact cellV_int _ _ | exact cellV_bool _ | omega | (simp only [GH.pn, GH.sn] <;> omega) | (with_reducible ((repeat (first | apply GH.ok_push | apply GH.ok_set)); assumption)) | ((try simp only [GH.push_hid, GH.set_hid]); first | assumption | (refine GH.vis ?_ ?_ <;> first | assumption | ((try simp only [GH.pn, GH.sn]) <;> omega)))) only [go_sem, ↓reduceIte, Nat.reduceEqDiff, Nat.reduceAdd, Int.reduceToNat, Int.reduceAdd, Int.reduceNeg, Int.reduceSub, Int.reduceMul, Int.reduceLT, Int.reduceLE, Int.reduceEq, ↓GH.gp_eq, ↓GH.gp_ne, ↓GH.gs_eq, ↓GH.gs_ne, GH.push_next, GH.set_next, hlw]
    repeat ((first | refine Wk.once ?_ | refine Wk.more (Wk.once ?_) | refine Wk.leave ?_); simp +decide (disch := first | assumption | exact cellV_int _ _ | exact cellV_bool _ | omega | (simp only [GH.pn, GH.sn] <;> omega) | (with_reducible ((repeat (first | apply GH.ok_push | apply GH.ok_set)); assumption)) | ((try simp only [GH.push_hid, GH.set_hid]); first | assumption | (refine GH.vis ?_ ?_ <;> first | assumption | ((try simp only [GH.pn, GH.sn]) <;> omega)))) only [go_sem, ↓reduceIte, Nat.reduceEqDiff, Nat.reduceAdd, Int.reduceToNat, Int.reduceAdd, Int.reduceNeg, Int.reduceSub, Int.reduceMul, Int.reduceLT, Int.reduceLE, Int.reduceEq, ↓GH.gp_eq, ↓GH.gp_ne, ↓GH.gs_eq, ↓GH.gs_ne, GH.push_next, GH.set_next, hlw, hia0, hob0, hA2])
    refine CallD.name fun G hG => ?_
    have hnG : G.next = g2.next + 1 := by rw [hG]; rfl
    have hokG : G.ok := by rw [hG]; exact GH.ok_set (GH.ok_push hok2)
    have hexG : Kept g2 G := by rw [hG]; exact (by (repeat' first | exact Kept.refl _ | assumption | refine Kept.push ?_ ?_ _ | refine Kept.setV ?_ ?_ ?_ _) <;> (first | assumption | exact cellV_int _ _ | exact cellV_bool _ | omega | (simp only [GH.pn, GH.sn] <;> omega) | (with_reducible ((repeat (first | apply GH.ok_push | apply GH.ok_set)); assumption)) | ((try simp only [GH.push_hid, GH.set_hid]); first | assumption | (refine GH.vis ?_ ?_ <;> first | assumption | ((try simp only [GH.pn, GH.sn]) <;> omega)))))
    refine CallD.calm (wii G) ?_
    rintro v g3 hx3 rfl
    have hn3 := hx3.next
    have hok3 := hx3.ok hokG
    have hk3 := hexG.ext hx3
    have hA3 := (hx3.gets g.next (by omega)).trans ((hexG.gets g.next (by omega)).trans hA2)
    have hC3 := (hx3.gets (g.next + 1) (by omega)).trans ((hexG.gets (g.next + 1) (by omega)).trans hC2)
    have hob3 := (congrArg (fun o => obLoad (some 3) o 3) (hk3.gets j (by omega))).trans hob1
    by_cases c : A < 0
    rotate_left
    · unfold lb2
      rw [decide_eq_false c]
      simp +decide (disch := first | assumption | exact cellV_int _ _ | exact cellV_bool _ | omega | (simp only [GH.pn, GH.sn] <;> omega) | (with_reducible ((repeat (first | apply GH.ok_push | apply GH.ok_set)); assumption)) | ((try simp only [GH.push_hid, GH.set_hid]); first | assumption | (refine GH.vis ?_ ?_ <;> first | assumption | ((try simp only [GH.pn, GH.sn]) <;> omega)))) only [go_sem, ↓reduceIte, Nat.reduceEqDiff, Nat.reduceAdd, Int.reduceToNat, Int.reduceAdd, Int.reduceNeg, Int.reduceSub, Int.reduceMul, Int.reduceLT, Int.reduceLE, Int.reduceEq, ↓GH.gp_eq, ↓GH.gp_ne, ↓GH.gs_eq, ↓GH.gs_ne, GH.push_next, GH.set_next, c]
      intro hx0
      exact ⟨by omega, rfl⟩
    unfold lb2
    rw [decide_eq_true c, Bool.true_and]
    simp +decide (disch := first | assumption | exact cellV_int _ _ | exact cellV_bool _ | omega | (simp only [GH.pn, GH.sn] <;> omega) | (with_reducible ((repeat (first | apply GH.ok_push | apply GH.ok_set)); assumption)) | ((try simp only [GH.push_hid, GH.set_hid]); first | assumption | (refine GH.vis ?_ ?_ <;> first | assumption | ((try simp only [GH.pn, GH.sn]) <;> omega)))) only [go_sem, ↓reduceIte, Nat.reduceEqDiff, Nat.reduceAdd, Int.reduceToNat, Int.reduceAdd, Int.reduceNeg, Int.reduceSub, Int.reduceMul, Int.reduceLT, Int.reduceLE, Int.reduceEq, ↓GH.gp_eq, ↓GH.gp_ne, ↓GH.gs_eq, ↓GH.gs_ne, GH.push_next, GH.set_next, c]
    repeat ((first | refine Wk.once ?_ | refine Wk.more (Wk.once ?_) | refine Wk.leave ?_); simp +decide (disch := first | assumption | exact cellV_int _ _ | exact cellV_bool _ | omega | (simp only [GH.pn, GH.sn] <;> omega) | (with_reducible ((repeat (first | apply GH.ok_push | apply GH.ok_set)); assumption)) | ((try simp only [GH.push_hid, GH.set_hid]); first | assumption | (refine GH.vis ?_ ?_ <;> first | assumption | ((try simp only [GH.pn, GH.sn]) <;> omega)))) only [go_sem, ↓reduceIte, Nat.reduceEqDiff, Nat.reduceAdd, Int.reduceToNat, Int.reduceAdd, Int.reduceNeg, Int.reduceSub, Int.reduceMul, Int.reduceLT, Int.reduceLE, Int.reduceEq, ↓GH.gp_eq, ↓GH.gp_ne, ↓GH.gs_eq, ↓GH.gs_ne, GH.push_next, GH.set_next, hlw, hia1, hob3, hA3])
    refine CallD.name fun G2 hG2 => ?_
    have hnG2 : G2.next = g3.next + 1 := by rw [hG2]; rfl
    have hokG2 : G2.ok := by rw [hG2]; exact GH.ok_set (GH.ok_push hok3)
    have hexG2 : Kept g3 G2 := by rw [hG2]; exact (by (repeat' first | exact Kept.refl _ | assumption | refine Kept.push ?_ ?_ _ | refine Kept.setV ?_ ?_ ?_ _) <;> (first | assumption | exact cellV_int _ _ | exact cellV_bool _ | omega | (simp only [GH.pn, GH.sn] <;> omega) | (with_reducible ((repeat (first | apply GH.ok_push | apply GH.ok_set)); assumption)) | ((try simp only [GH.push_hid, GH.set_hid]); first | assumption | (refine GH.vis ?_ ?_ <;> first | assumption | ((try simp only [GH.pn, GH.sn]) <;> omega)))))
    refine CallD.calm (wkk G2) ?_
    rintro v g4 hx4 rfl
    have hn4 := hx4.next
    have hok4 := hx4.ok hokG2
    have hk4 := (hk3.trans hexG2).ext hx4
    by_cases cc : C < 0
    rotate_left
    · rw [decide_eq_false cc]
      simp +decide (disch := first | assumption | exact cellV_int _ _ | exact cellV_bool _ | omega | (simp only [GH.pn, GH.sn] <;> omega) | (with_reducible ((repeat (first | apply GH.ok_push | apply GH.ok_set)); assumption)) | ((try simp only [GH.push_hid, GH.set_hid]); first | assumption | (refine GH.vis ?_ ?_ <;> first | assumption | ((try simp only [GH.pn, GH.sn]) <;> omega)))) only [go_sem, ↓reduceIte, Nat.reduceEqDiff, Nat.reduceAdd, Int.reduceToNat, Int.reduceAdd, Int.reduceNeg, Int.reduceSub, Int.reduceMul, Int.reduceLT, Int.reduceLE, Int.reduceEq, ↓GH.gp_eq, ↓GH.gp_ne, ↓GH.gs_eq, ↓GH.gs_ne, GH.push_next, GH.set_next, cc]
      intro hx0
      exact ⟨by omega, rfl⟩
    rw [decide_eq_true cc, Bool.true_and]
    have hA4 := (hk4.gets g.next (by omega)).trans hA2
    have hC4 := (hk4.gets (g.next + 1) (by omega)).trans hC2
    have hob40 := (congrArg (fun o => obLoad (some 3) o 0) (hk4.gets j (by omega))).trans hob0
    have hob41 := (congrArg (fun o => obLoad (some 3) o 3) (hk4.gets j (by omega))).trans hob1
    simp +decide (disch := first | assumption | exact cellV_int _ _ | exact cellV_bool _ | omega | (simp only [GH.pn, GH.sn] <;> omega) | (with_reducible ((repeat (first | apply GH.ok_push | apply GH.ok_set)); assumption)) | ((try simp only [GH.push_hid, GH.set_hid]); first | assumption | (refine GH.vis ?_ ?_ <;> first | assumption | ((try simp only [GH.pn, GH.sn]) <;> omega)))) only [go_sem, ↓reduceIte, Nat.reduceEqDiff, Nat.reduceAdd, Int.reduceToNat, Int.reduceAdd, Int.reduceNeg, Int.reduceSub, Int.reduceMul, Int.reduceLT, Int.reduceLE, Int.reduceEq, ↓GH.gp_eq, ↓GH.gp_ne, ↓GH.gs_eq, ↓GH.gs_ne, GH.push_next, GH.set_next, cc]
    repeat ((first | refine Wk.once ?_ | refine Wk.more (Wk.once ?_) | refine Wk.leave ?_); simp +decide (disch := first | assumption | exact cellV_int _ _ | exact cellV_bool _ | omega | (simp only [GH.pn, GH.sn] <;> omega) | (with_reducible ((repeat (first | apply GH.ok_push | apply GH.ok_set)); assumption)) | ((try simp only [GH.push_hid, GH.set_hid]); first | assumption | (refine GH.vis ?_ ?_ <;> first | assumption | ((try simp only [GH.pn, GH.sn]) <;> omega)))) only [go_sem, ↓reduceIte, Nat.reduceEqDiff, Nat.reduceAdd, Int.reduceToNat, Int.reduceAdd, Int.reduceNeg, Int.reduceSub, Int.reduceMul, Int.reduceLT, Int.reduceLE, Int.reduceEq, ↓GH.gp_eq, ↓GH.gp_ne, ↓GH.gs_eq, ↓GH.gs_ne, GH.push_next, GH.set_next, hlw])
    simp +decide (disch := first | assumption | exact cellV_int _ _ | exact cellV_bool _ | omega | (simp only [GH.pn, GH.sn] <;> omega) | (with_reducible ((repeat (first | apply GH.ok_push | apply GH.ok_set)); assumption)) | ((try simp only [GH.push_hid, GH.set_hid]); first | assumption | (refine GH.vis ?_ ?_ <;> first | assumption | ((try simp only [GH.pn, GH.sn]) <;> omega)))) only [go_sem, ↓reduceIte, Nat.reduceEqDiff, Nat.reduceAdd, Int.reduceToNat, Int.reduceAdd, Int.reduceNeg, Int.reduceSub, Int.reduceMul, Int.reduceLT, Int.reduceLE, Int.reduceEq, ↓GH.gp_eq, ↓GH.gp_ne, ↓GH.gs_eq, ↓GH.gs_ne, GH.push_next, GH.set_next, hlw, hia0, hia1, hob40, hob41]
    refine StB.go (cells := [.int .i64 0, .int .i64 0, .int .i64 0]) (t := 67) rfl rfl rfl (by rw [GH.gp_ne (GH.ok_push hok4) (by simp only [GH.push_next]; omega), GH.gp_eq hok4 rfl]) (Nat.le_refl 3) (by simp only [GH.push_next]; omega) (by
      have hb : decide (j = g4.next) = false := decide_eq_false (by omega)
      simp [offB, beq_d, hb]) (by simp [spansOf, spanAt, inSpans, blt_d, show Nat.beq 7 5 = false from rfl, show Nat.beq 6 5 = false from rfl, show Nat.beq 5 5 = true from rfl]) rfl ?_
    simp +decide (disch := first | assumption | exact cellV_int _ _ | exact cellV_bool _ | omega | (simp only [GH.pn, GH.sn] <;> omega) | (with_reducible ((repeat (first | apply GH.ok_push | apply GH.ok_set)); assumption)) | ((try simp only [GH.push_hid, GH.set_hid]); first | assumption | (refine GH.vis ?_ ?_ <;> first | assumption | ((try simp only [GH.pn, GH.sn]) <;> omega)))) only [go_sem, ↓reduceIte, Nat.reduceEqDiff, Nat.reduceAdd, Int.reduceToNat, Int.reduceAdd, Int.reduceNeg, Int.reduceSub, Int.reduceMul, Int.reduceLT, Int.reduceLE, Int.reduceEq, ↓GH.gp_eq, ↓GH.gp_ne, ↓GH.gs_eq, ↓GH.gs_ne, GH.push_next, GH.set_next, hA4]
    refine CallD.name fun G3 hG3 => ?_
    have hnG3 : G3.next = g4.next + 1 + 1 := by rw [hG3]; rfl
    have hokG3 : G3.ok := by rw [hG3]; exact GH.ok_set (GH.ok_set (GH.ok_push (GH.ok_push hok4)))
    have hkG3 : Kept g4 G3 := by rw [hG3]; exact (by (repeat' first | exact Kept.refl _ | assumption | refine Kept.push ?_ ?_ _ | refine Kept.setV ?_ ?_ ?_ _) <;> (first | assumption | exact cellV_int _ _ | exact cellV_bool _ | omega | (simp only [GH.pn, GH.sn] <;> omega) | (with_reducible ((repeat (first | apply GH.ok_push | apply GH.ok_set)); assumption)) | ((try simp only [GH.push_hid, GH.set_hid]); first | assumption | (refine GH.vis ?_ ?_ <;> first | assumption | ((try simp only [GH.pn, GH.sn]) <;> omega)))))
    have hS8 : G3.get g4.next = cellsOb [.int .i64 (uI i 0 - uI Z 0), .int .i64 (uI i 1 - uI Z 1), .int .i64 (uI i 2 - uI Z 2)] 67 := by rw [hG3]; exact (by simp (disch := first | assumption | exact cellV_int _ _ | exact cellV_bool _ | omega | (simp only [GH.pn, GH.sn] <;> omega) | (with_reducible ((repeat (first | apply GH.ok_push | apply GH.ok_set)); assumption)) | ((try simp only [GH.push_hid, GH.set_hid]); first | assumption | (refine GH.vis ?_ ?_ <;> first | assumption | ((try simp only [GH.pn, GH.sn]) <;> omega)))) only [↓GH.gp_eq, ↓GH.gp_ne, ↓GH.gs_eq, ↓GH.gs_ne, GH.push_next, GH.set_next]; first | done | exact rfl)
    have hS9 : G3.get (g4.next + 1) = cellsOb [.int .i64 (uI k 0 - uI Z 0), .int .i64 (uI k 1 - uI Z 1), .int .i64 (uI k 2 - uI Z 2)] 67 := by rw [hG3]; exact (by simp (disch := first | assumption | exact cellV_int _ _ | exact cellV_bool _ | omega | (simp only [GH.pn, GH.sn] <;> omega) | (with_reducible ((repeat (first | apply GH.ok_push | apply GH.ok_set)); assumption)) | ((try simp only [GH.push_hid, GH.set_hid]); first | assumption | (refine GH.vis ?_ ?_ <;> first | assumption | ((try simp only [GH.pn, GH.sn]) <;> omega)))) only [↓GH.gp_eq, ↓GH.gp_ne, ↓GH.gs_eq, ↓GH.gs_ne, GH.push_next, GH.set_next]; first | done | exact rfl)
    have hA5 := (hkG3.gets g.next (by omega)).trans hA4
    have hC5 := (hkG3.gets (g.next + 1) (by omega)).trans hC4
    refine CallD.calm (wik G3) ?_
    rintro v g5 hx5 rfl
    have hn5 := hx5.next
    have hok5 := hx5.ok hokG3
    have hA6 := (hx5.gets g.next (by omega)).trans hA5
    have hC6 := (hx5.gets (g.next + 1) (by omega)).trans hC5
    have hS8a := (hx5.gets g4.next (by omega)).trans hS8
    have hS9a := (hx5.gets (g4.next + 1) (by omega)).trans hS9
    simp +decide (disch := first | assumption | exact cellV_int _ _ | exact cellV_bool _ | omega | (simp only [GH.pn, GH.sn] <;> omega) | (with_reducible ((repeat (first | apply GH.ok_push | apply GH.ok_set)); assumption)) | ((try simp only [GH.push_hid, GH.set_hid]); first | assumption | (refine GH.vis ?_ ?_ <;> first | assumption | ((try simp only [GH.pn, GH.sn]) <;> omega)))) only [go_sem, ↓reduceIte, Nat.reduceEqDiff, Nat.reduceAdd, Int.reduceToNat, Int.reduceAdd, Int.reduceNeg, Int.reduceSub, Int.reduceMul, Int.reduceLT, Int.reduceLE, Int.reduceEq, ↓GH.gp_eq, ↓GH.gp_ne, ↓GH.gs_eq, ↓GH.gs_ne, GH.push_next, GH.set_next, hA6, hS8a, hS9a]
    refine CallD.calm (wki g5) ?_
    rintro v g6 hx6 rfl
    have hn6 := hx6.next
    have hok6 := hx6.ok hok5
    have hA7 := (hx6.gets g.next (by omega)).trans hA6
    have hC7 := (hx6.gets (g.next + 1) (by omega)).trans hC6
    have hS8b := (hx6.gets g4.next (by omega)).trans hS8a
    have hS9b := (hx6.gets (g4.next + 1) (by omega)).trans hS9a
    by_cases c1 : d = 1 ∧ M1 + M2 ≤ 0
    · rw [decide_eq_true c1, Bool.true_or]
      obtain ⟨c2, c3⟩ := c1
      simp +decide (disch := first | assumption | exact cellV_int _ _ | exact cellV_bool _ | omega | (simp only [GH.pn, GH.sn] <;> omega) | (with_reducible ((repeat (first | apply GH.ok_push | apply GH.ok_set)); assumption)) | ((try simp only [GH.push_hid, GH.set_hid]); first | assumption | (refine GH.vis ?_ ?_ <;> first | assumption | ((try simp only [GH.pn, GH.sn]) <;> omega)))) only [go_sem, ↓reduceIte, Nat.reduceEqDiff, Nat.reduceAdd, Int.reduceToNat, Int.reduceAdd, Int.reduceNeg, Int.reduceSub, Int.reduceMul, Int.reduceLT, Int.reduceLE, Int.reduceEq, ↓GH.gp_eq, ↓GH.gp_ne, ↓GH.gs_eq, ↓GH.gs_ne, GH.push_next, GH.set_next, hC7, c2, c3]
      intro hx0
      exact ⟨by omega, rfl⟩
    rw [decide_eq_false c1, Bool.false_or]
    have hcc : (d = 1 ∧ ¬ (M1 + M2 ≤ 0)) ∨ (¬ d = 1 ∧ True) := by
      by_cases e : d = 1
      · exact .inl ⟨e, fun h => c1 ⟨e, h⟩⟩
      · exact .inr ⟨e, trivial⟩
    rcases hcc with ⟨q2, q4⟩ | ⟨q2, q4⟩
    all_goals
      simp +decide (disch := first | assumption | exact cellV_int _ _ | exact cellV_bool _ | omega | (simp only [GH.pn, GH.sn] <;> omega) | (with_reducible ((repeat (first | apply GH.ok_push | apply GH.ok_set)); assumption)) | ((try simp only [GH.push_hid, GH.set_hid]); first | assumption | (refine GH.vis ?_ ?_ <;> first | assumption | ((try simp only [GH.pn, GH.sn]) <;> omega)))) only [go_sem, ↓reduceIte, Nat.reduceEqDiff, Nat.reduceAdd, Int.reduceToNat, Int.reduceAdd, Int.reduceNeg, Int.reduceSub, Int.reduceMul, Int.reduceLT, Int.reduceLE, Int.reduceEq, ↓GH.gp_eq, ↓GH.gp_ne, ↓GH.gs_eq, ↓GH.gs_ne, GH.push_next, GH.set_next, hC7, hA7, hS8b, hS9b, q2, q4]
      refine CallD.calm (wii g6) ?_
      rintro v g7 hx7 rfl
      have hn7 := hx7.next
      have hok7 := hx7.ok hok6
      have hA8 := (hx7.gets g.next (by omega)).trans hA7
      have hS9c := (hx7.gets (g4.next + 1) (by omega)).trans hS9b
      simp +decide (disch := first | assumption | exact cellV_int _ _ | exact cellV_bool _ | omega | (simp only [GH.pn, GH.sn] <;> omega) | (with_reducible ((repeat (first | apply GH.ok_push | apply GH.ok_set)); assumption)) | ((try simp only [GH.push_hid, GH.set_hid]); first | assumption | (refine GH.vis ?_ ?_ <;> first | assumption | ((try simp only [GH.pn, GH.sn]) <;> omega)))) only [go_sem, ↓reduceIte, Nat.reduceEqDiff, Nat.reduceAdd, Int.reduceToNat, Int.reduceAdd, Int.reduceNeg, Int.reduceSub, Int.reduceMul, Int.reduceLT, Int.reduceLE, Int.reduceEq, ↓GH.gp_eq, ↓GH.gp_ne, ↓GH.gs_eq, ↓GH.gs_ne, GH.push_next, GH.set_next, hA8, hS9c]
      refine CallD.calm (wkk g7) ?_
      rintro v g8 hx8 rfl
      have hn8 := hx8.next
      simp +decide (disch := first | assumption | exact cellV_int _ _ | exact cellV_bool _ | omega | (simp only [GH.pn, GH.sn] <;> omega) | (with_reducible ((repeat (first | apply GH.ok_push | apply GH.ok_set)); assumption)) | ((try simp only [GH.push_hid, GH.set_hid]); first | assumption | (refine GH.vis ?_ ?_ <;> first | assumption | ((try simp only [GH.pn, GH.sn]) <;> omega)))) only [go_sem, ↓reduceIte, Nat.reduceEqDiff, Nat.reduceAdd, Int.reduceToNat, Int.reduceAdd, Int.reduceNeg, Int.reduceSub, Int.reduceMul, Int.reduceLT, Int.reduceLE, Int.reduceEq, ↓GH.gp_eq, ↓GH.gp_ne, ↓GH.gs_eq, ↓GH.gs_ne, GH.push_next, GH.set_next]
      intro hx0
      exact ⟨by omega, rfl⟩
end Go.Proofs.YtngmaccaldhjcaaDoor
set_option maxRecDepth 100000
set_option maxHeartbeats 4000000
set_option linter.unusedSimpArgs false
set_option linter.unusedVariables false
namespace Go.Proofs.YtngmaccaldhjcaaDoor
open Go.Ds
/-- The fashions of the steps. -/
def stpL (b f : Nat) : Nat → List Nat
  | 0 => []
  | i + 1 => if b.testBit i = true ∧ i ≠ f then stpL b f i ++ [i] else stpL b f i
theorem stpL_N (b f : Nat) : ∀ n, stpN b f n = (stpL b f n).length
  | 0 => rfl
  | n + 1 => by unfold stpN stpL; rw [stpL_N b f n]; split <;> simp
theorem stpL_C (b f : Nat) : ∀ n, stpC b f n = (stpL b f n).flatMap (fun i => stpV i f)
  | 0 => rfl
  | n + 1 => by unfold stpC stpL; rw [stpL_C b f n]; split <;> simp
theorem stpL_mem (b f : Nat) : ∀ n i, i ∈ stpL b f n ↔ (i < n ∧ b.testBit i = true ∧ i ≠ f)
  | 0, i => by simp [stpL]
  | n + 1, i => by
    unfold stpL
    split
    · rename_i h
      rw [List.mem_append, stpL_mem b f n i, List.mem_singleton]
      constructor
      · rintro (⟨a, c⟩ | rfl)
        · exact ⟨by omega, c⟩
        · exact ⟨by omega, h⟩
      · rintro ⟨a, c⟩
        by_cases e : i = n
        · exact .inr e
        · exact .inl ⟨by omega, c⟩
    · rename_i h
      rw [stpL_mem b f n i]
      constructor
      · rintro ⟨a, c⟩; exact ⟨by omega, c⟩
      · rintro ⟨a, c⟩
        by_cases e : i = n
        · subst e; exact absurd c h
        · exact ⟨by omega, c⟩
theorem stpL_two {b f n : Nat} (hn : n ≤ 3) (hf : f < 3) : (stpL b f n).length ≤ 2 := by
  obtain rfl | rfl | rfl | rfl : n = 0 ∨ n = 1 ∨ n = 2 ∨ n = 3 := by omega
  · simp [stpL]
  · simp only [stpL]; split <;> simp
  · simp only [stpL]; split <;> split <;> simp
  · obtain rfl | rfl | rfl : f = 0 ∨ f = 1 ∨ f = 2 := by omega
    all_goals simp only [stpL]
    all_goals split <;> split <;> split <;> simp_all
/-- Whether all sums of the steps lose. -/
def lbL (d m00 m01 m02 m10 m11 m12 m20 m21 m22 : Int) (Z : Nat) : List Nat → Bool
  | [] => true
  | [i] => decide (gS m00 m01 m02 m10 m11 m12 m20 m21 m22 i i Z < 0)
  | i :: k :: _ => lb2 d (gS m00 m01 m02 m10 m11 m12 m20 m21 m22 i i Z) (gS m00 m01 m02 m10 m11 m12 m20 m21 m22 k k Z) (gS m00 m01 m02 m10 m11 m12 m20 m21 m22 i k Z + gS m00 m01 m02 m10 m11 m12 m20 m21 m22 k i Z)
theorem lastsAll_rets {X : Caller} (hX : Xok X) (n : Nat) (hn : n ≤ 3) (m00 m01 m02 m10 m11 m12 m20 m21 m22 x0 x1 x2 d : Int) (hm : Sm9 m00 m01 m02 m10 m11 m12 m20 m21 m22) (hx : Sm 10000 x0 ∧ Sm 10000 x1 ∧ Sm 10000 x2) (hf : 1 ≤ fashF (v3 x0 x1 x2) 3) (B Z : Nat) (hB : (bestS (rowG m00 m01 m02 m10 m11 m12 m20 m21 m22 x0 x1 x2) n).1 = B) (hZ : tzN (fashF (v3 x0 x1 x2) 3) = Z) (g : GH) (hT : HasTab g) :
    Rets Tryd.prog X 63 [mkV n m00 m01 m02 m10 m11 m12 m20 m21 m22, mxV x0 x1 x2 d] g (fun v g' lo => g.next ≤ lo ∧ v = .bool (decide (andn (fashF (v3 x0 x1 x2) 3) B = 0) && lbL d m00 m01 m02 m10 m11 m12 m20 m21 m22 Z (stpL B Z n))) := by
  have hflt := fashF_lt (v3 x0 x1 x2) 3
  have hz3 : Z < 3 := by rw [← hZ]; exact tzN_lt hf (by omega)
  have h2 := stpL_two (b := B) hn hz3
  have hmm := stpL_mem B Z n
  have hN := stpL_N B Z n
  have hC := stpL_C B Z n
  obtain ⟨l, hl⟩ : ∃ l, stpL B Z n = l := ⟨_, rfl⟩
  rw [hl] at h2 hmm hN hC ⊢
  match l, h2, hmm, hN, hC with
  | [], _, _, hN, hC => exact lasts_rets hX n hn m00 m01 m02 m10 m11 m12 m20 m21 m22 x0 x1 x2 d hm hx hf B Z hB hZ true (.inl ⟨hN, hC, rfl⟩) g hT
  | [i], _, hmm, hN, hC =>
    have hi := ((hmm i).1 (by simp)).1
    exact lasts_rets hX n hn m00 m01 m02 m10 m11 m12 m20 m21 m22 x0 x1 x2 d hm hx hf B Z hB hZ _ (.inr ⟨i, by omega, hN, by rw [hC]; simp, rfl⟩) g hT
  | [i, k], _, _, hN, hC => exact lasts2_rets hX n hn m00 m01 m02 m10 m11 m12 m20 m21 m22 x0 x1 x2 d hm hx hf B Z hB hZ i k hN (by rw [hC]; simp) g hT
  | _ :: _ :: _ :: _, h, _, _, _ => simp at h
/-- Whether a mixture lasts. -/
def lastT (T : List (List Int)) (L : List Int) (d : Int) : Bool :=
  restB T L && lbL d (te T 0 0) (te T 0 1) (te T 0 2) (te T 1 0) (te T 1 1) (te T 1 2) (te T 2 0) (te T 2 1) (te T 2 2) (tzN (fashF (v3 (ne L 0) (ne L 1) (ne L 2)) 3)) (stpL (bestT T L) (tzN (fashF (v3 (ne L 0) (ne L 1) (ne L 2)) 3)) T.length)
def lastsR (T : List (List Int)) (L : List Int) (d : Int) : Value := if err1 T L d = 0 then .tuple #[.bool (lastT T L d), .int .i64 0] else .tuple #[.bool false, .int .i64 2]
theorem fash_one {n : Nat} {L : List Int} {d : Int} (h : mixB n L d = true) : 1 ≤ fashF (v3 (ne L 0) (ne L 1) (ne L 2)) 3 := by
  obtain ⟨a1, a2, a3, a4, a5, a6, a7, a8⟩ := mix_facts h
  have q0 := a6 0
  have q1 := a6 1
  have q2 := a6 2
  have hs : ne L 0 + ne L 1 + ne L 2 = d := mix_sum h
  simp only [fashF, v3]
  repeat' split
  all_goals first | omega | (simp at *; done) | skip
theorem Lasts_rets {X : Caller} (hX : Xok X) (T : List (List Int)) (hF : Few T) (L : List Int) (d : Int) (t s : Value) (g : GH) (hTab : HasTab g) (ht : Sl2 g t T) (hs : SlR g s (ints L)) :
    Rets Tryd.prog X 30 [t, paV s d] g (fun v g' lo => g.next ≤ lo ∧ v = lastsR T L d) := by
  have hc := hs.cell
  unfold paV
  refine Rets.run hX.pres p30 (hX.free 30 (by decide) _ _) rfl fun ho => ?_
  simp +decide (disch := first | assumption | exact cellV_int _ _ | exact cellV_bool _ | omega | (simp only [GH.pn, GH.sn] <;> omega) | (with_reducible ((repeat (first | apply GH.ok_push | apply GH.ok_set)); assumption)) | ((try simp only [GH.push_hid, GH.set_hid]); first | assumption | (refine GH.vis ?_ ?_ <;> first | assumption | ((try simp only [GH.pn, GH.sn]) <;> omega)))) only [go_sem, ↓reduceIte, Nat.reduceEqDiff, Nat.reduceAdd, Int.reduceToNat, Int.reduceAdd, Int.reduceNeg, Int.reduceSub, Int.reduceMul, Int.reduceLT, Int.reduceLE, Int.reduceEq, ↓GH.gp_eq, ↓GH.gp_ne, ↓GH.gs_eq, ↓GH.gs_ne, GH.push_next, GH.set_next, hc]
  refine CallD.name fun H hH => ?_
  have hnH : H.next = g.next + 1 + 1 := by rw [hH]; rfl
  have hokH : H.ok := by rw [hH]; exact GH.ok_push (GH.ok_push ho)
  have hk : Kept g H := by rw [hH]; exact (by (repeat' first | exact Kept.refl _ | assumption | refine Kept.push ?_ ?_ _ | refine Kept.setV ?_ ?_ ?_ _) <;> (first | assumption | exact cellV_int _ _ | exact cellV_bool _ | omega | (simp only [GH.pn, GH.sn] <;> omega) | (with_reducible ((repeat (first | apply GH.ok_push | apply GH.ok_set)); assumption)) | ((try simp only [GH.push_hid, GH.set_hid]); first | assumption | (refine GH.vis ?_ ?_ <;> first | assumption | ((try simp only [GH.pn, GH.sn]) <;> omega)))))
  have hA : H.get g.next = cellsOb [s, .int .i64 d] 25 := by rw [hH]; exact (by simp (disch := first | assumption | exact cellV_int _ _ | exact cellV_bool _ | omega | (simp only [GH.pn, GH.sn] <;> omega) | (with_reducible ((repeat (first | apply GH.ok_push | apply GH.ok_set)); assumption)) | ((try simp only [GH.push_hid, GH.set_hid]); first | assumption | (refine GH.vis ?_ ?_ <;> first | assumption | ((try simp only [GH.pn, GH.sn]) <;> omega)))) only [↓GH.gp_eq, ↓GH.gp_ne, ↓GH.gs_eq, ↓GH.gs_ne, GH.push_next, GH.set_next]; first | done | exact rfl)
  have hg : H.get (g.next + 1) = cellsOb [s, .int .i64 d] 25 := by rw [hH]; exact (by simp (disch := first | assumption | exact cellV_int _ _ | exact cellV_bool _ | omega | (simp only [GH.pn, GH.sn] <;> omega) | (with_reducible ((repeat (first | apply GH.ok_push | apply GH.ok_set)); assumption)) | ((try simp only [GH.push_hid, GH.set_hid]); first | assumption | (refine GH.vis ?_ ?_ <;> first | assumption | ((try simp only [GH.pn, GH.sn]) <;> omega)))) only [↓GH.gp_eq, ↓GH.gp_ne, ↓GH.gs_eq, ↓GH.gs_ne, GH.push_next, GH.set_next]; first | done | exact rfl)
  have hck := check1_rets hX T hF L d t s (g.next + 1) 25 H (ht.kept hk) (hs.kept hk) (by omega) hg
  refine CallD.calm hck ?_
  rintro v g1 hx1 rfl
  have hn1 := hx1.next
  have hok1 := hx1.ok hokH
  have hk1 := hk.ext hx1
  have hA1 := (hx1.gets g.next (by omega)).trans hA
  rcases err1_cases T L d with hE | ⟨hE, hT, hm1⟩
  · unfold lastsR
    rw [hE]
    simp +decide (disch := first | assumption | exact cellV_int _ _ | exact cellV_bool _ | omega | (simp only [GH.pn, GH.sn] <;> omega) | (with_reducible ((repeat (first | apply GH.ok_push | apply GH.ok_set)); assumption)) | ((try simp only [GH.push_hid, GH.set_hid]); first | assumption | (refine GH.vis ?_ ?_ <;> first | assumption | ((try simp only [GH.pn, GH.sn]) <;> omega)))) only [go_sem, ↓reduceIte, Nat.reduceEqDiff, Nat.reduceAdd, Int.reduceToNat, Int.reduceAdd, Int.reduceNeg, Int.reduceSub, Int.reduceMul, Int.reduceLT, Int.reduceLE, Int.reduceEq, ↓GH.gp_eq, ↓GH.gp_ne, ↓GH.gs_eq, ↓GH.gs_ne, GH.push_next, GH.set_next]
    intro hx0
    exact ⟨by omega, rfl⟩
  · obtain ⟨a1, a2, a3, a4, a5, a6, a7, a8⟩ := mix_facts hm1
    have hmo := mixtureOf_rets hX L (by omega) (by omega) d s
    unfold paV mxV at hmo
    have hma := market_rets hX T hT t
    unfold mkT mkV at hma
    unfold lastsR
    rw [hE]
    simp +decide (disch := first | assumption | exact cellV_int _ _ | exact cellV_bool _ | omega | (simp only [GH.pn, GH.sn] <;> omega) | (with_reducible ((repeat (first | apply GH.ok_push | apply GH.ok_set)); assumption)) | ((try simp only [GH.push_hid, GH.set_hid]); first | assumption | (refine GH.vis ?_ ?_ <;> first | assumption | ((try simp only [GH.pn, GH.sn]) <;> omega)))) only [go_sem, ↓reduceIte, Nat.reduceEqDiff, Nat.reduceAdd, Int.reduceToNat, Int.reduceAdd, Int.reduceNeg, Int.reduceSub, Int.reduceMul, Int.reduceLT, Int.reduceLE, Int.reduceEq, ↓GH.gp_eq, ↓GH.gp_ne, ↓GH.gs_eq, ↓GH.gs_ne, GH.push_next, GH.set_next]
    refine CallD.calm (hma g1 (ht.kept hk1)) ?_
    rintro v g2 hx2 rfl
    have hn2 := hx2.next
    have hok2 := hx2.ok hok1
    have hA2 := (hx2.gets g.next (by omega)).trans hA1
    have hk2 := hk1.ext hx2
    simp +decide (disch := first | assumption | exact cellV_int _ _ | exact cellV_bool _ | omega | (simp only [GH.pn, GH.sn] <;> omega) | (with_reducible ((repeat (first | apply GH.ok_push | apply GH.ok_set)); assumption)) | ((try simp only [GH.push_hid, GH.set_hid]); first | assumption | (refine GH.vis ?_ ?_ <;> first | assumption | ((try simp only [GH.pn, GH.sn]) <;> omega)))) only [go_sem, ↓reduceIte, Nat.reduceEqDiff, Nat.reduceAdd, Int.reduceToNat, Int.reduceAdd, Int.reduceNeg, Int.reduceSub, Int.reduceMul, Int.reduceLT, Int.reduceLE, Int.reduceEq, ↓GH.gp_eq, ↓GH.gp_ne, ↓GH.gs_eq, ↓GH.gs_ne, GH.push_next, GH.set_next, hA2]
    refine CallD.calm (hmo g2 (hs.kept hk2)) ?_
    rintro v g3 hx3 rfl
    have hn3 := hx3.next
    have hk3 := hk2.ext hx3
    have hsx : Sm 10000 (ne L 0) ∧ Sm 10000 (ne L 1) ∧ Sm 10000 (ne L 2) := ⟨mix_sm hm1 0, mix_sm hm1 1, mix_sm hm1 2⟩
    have hla := lastsAll_rets hX T.length (by omega) (te T 0 0) (te T 0 1) (te T 0 2) (te T 1 0) (te T 1 1) (te T 1 2) (te T 2 0) (te T 2 1) (te T 2 2) (ne L 0) (ne L 1) (ne L 2) d (tab_sm9 hT) hsx (fash_one hm1) (bestT T L) _ rfl rfl
    unfold mkV mxV at hla
    unfold lastT restB
    simp +decide (disch := first | assumption | exact cellV_int _ _ | exact cellV_bool _ | omega | (simp only [GH.pn, GH.sn] <;> omega) | (with_reducible ((repeat (first | apply GH.ok_push | apply GH.ok_set)); assumption)) | ((try simp only [GH.push_hid, GH.set_hid]); first | assumption | (refine GH.vis ?_ ?_ <;> first | assumption | ((try simp only [GH.pn, GH.sn]) <;> omega)))) only [go_sem, ↓reduceIte, Nat.reduceEqDiff, Nat.reduceAdd, Int.reduceToNat, Int.reduceAdd, Int.reduceNeg, Int.reduceSub, Int.reduceMul, Int.reduceLT, Int.reduceLE, Int.reduceEq, ↓GH.gp_eq, ↓GH.gp_ne, ↓GH.gs_eq, ↓GH.gs_ne, GH.push_next, GH.set_next]
    refine CallD.calm (hla _ (hTab.kept hk3)) ?_
    rintro v g4 hx4 rfl
    have hn4 := hx4.next
    simp +decide (disch := first | assumption | exact cellV_int _ _ | exact cellV_bool _ | omega | (simp only [GH.pn, GH.sn] <;> omega) | (with_reducible ((repeat (first | apply GH.ok_push | apply GH.ok_set)); assumption)) | ((try simp only [GH.push_hid, GH.set_hid]); first | assumption | (refine GH.vis ?_ ?_ <;> first | assumption | ((try simp only [GH.pn, GH.sn]) <;> omega)))) only [go_sem, ↓reduceIte, Nat.reduceEqDiff, Nat.reduceAdd, Int.reduceToNat, Int.reduceAdd, Int.reduceNeg, Int.reduceSub, Int.reduceMul, Int.reduceLT, Int.reduceLE, Int.reduceEq, ↓GH.gp_eq, ↓GH.gp_ne, ↓GH.gs_eq, ↓GH.gs_ne, GH.push_next, GH.set_next]
    intro hx0
    exact ⟨by omega, rfl⟩
end Go.Proofs.YtngmaccaldhjcaaDoor
