import Derived.Test.YtgnnhenbmnopaaaDtO
import Derived.Test.YtgnnhenbmnopaaaDtG
import Derived.Test.YtgnnhenbmnopaaaDsJ
import Derived.Laws.RangeString
import Derived.Laws.RangeAny
import Derived.Test.YtgnnhenbmnopaaaDtK
set_option linter.all false
set_option linter.unusedSimpArgs false
set_option linter.unnecessarySimpa false
set_option linter.unusedVariables false
set_option linter.unusedSectionVars false
set_option linter.unusedSectionVars false
set_option linter.unusedVariables false
namespace Go.Ds
/-! ## A string is gone through -/
theorem ext30 (a b c : Value) : extF (.tuple #[a, b, c]) 0 = some a := Eq.trans rfl rfl
theorem ext31 (a b c : Value) : extF (.tuple #[a, b, c]) 1 = some b := Eq.trans rfl rfl
theorem ext32 (a b c : Value) : extF (.tuple #[a, b, c]) 2 = some c := Eq.trans rfl rfl
theorem ext10 (a : Value) : extF (.tuple #[a]) 0 = some a := Eq.trans rfl rfl
theorem ext20 (a b : Value) : extF (.tuple #[a, b]) 0 = some a := Eq.trans rfl rfl
theorem ext21 (a b : Value) : extF (.tuple #[a, b]) 1 = some b := Eq.trans rfl rfl
theorem bytes_eq (a b : ByteArray) : (a.toList == b.toList) = decide (a = b) := by
  rw [ByteArray.toList_eq, ByteArray.toList_eq]
  by_cases h : a = b
  · subst h; simp
  · rw [decide_eq_false h, beq_eq_false_iff_ne]
    intro e
    apply h
    cases a; cases b
    congr 1
    exact Array.toList_inj.1 e
theorem str_eql (a b : ByteArray) : strB .eql a b = some (.bool (decide (a = b))) := by
  show some (Value.bool (a.toList == b.toList)) = _
  rw [bytes_eq]
theorem str_neq (a b : ByteArray) : strB .neq a b = some (.bool (!decide (a = b))) := by
  show some (Value.bool (!(a.toList == b.toList))) = _
  rw [bytes_eq]
theorem str_add {a b : ByteArray} (h : a.size + b.size ≤ 1099511627776) : strB .add a b = some (.string (a ++ b)) := by
  unfold strB
  rw [show Nat.ble (a.size + b.size) 1099511627776 = true from Nat.ble_eq ▸ h]
  rfl
attribute [go_sem] str_eql str_neq
attribute [go_sem] ext20 ext21 ext30 ext31 ext32 ext10
section
variable {P : Program} {X : Caller} {Q : Out → Env → GH → Nat → Prop}
variable {dd : Option P3} {l : List PI} {k : Nat} {sp : List (Nat × (Nat × Nat))} {wr : List Nat} {ks : List Fr} {e : Env} {g : GH} {lo : Nat}
theorem Wk.rngS {x : PO} {s : ByteArray} (hx : ev e x = .string s) (h : Wk P X Q (.R l (k + 1) ((k, (g.next, g.next + 1)) :: sp) wr ks (putE e dd (ptrTo g.next)) (g.push (iterOb s 0)) lo)) :
    Wk P X Q (.R (⟨none, dd, none, some (.rangeS x), []⟩ :: l) k sp wr ks e g lo) := by
  rw [Wk.of_GR fun n => rfl]
  refine GR.more (v := ptrTo g.next) (g' := g.push (iterOb s 0)) rfl (Hp.mk (bnd (g.next + 1)) fun call => ?_) rfl (Nat.le_succ _) h.R
  simp only [runH, hx, rangeSF]
  exact pushF_big (h := g.at g.next)
theorem Wk.nxtS {x : PO} {j pos c w : Nat} {s : ByteArray} (hx : ev e x = .pointer (some ⟨j, 0, Option.none⟩)) (hj : g.get j = iterOb s pos) (hlt : j < g.next) (hp : pos < s.size) (hd : Utf8.decode s pos = (c, w))
    (h : Wk P X Q (.R l (k + 1) ((k, (g.next, g.next)) :: sp) (k :: wr) ks (putE e dd (.tuple #[.bool true, .int .i64 pos, .int .i32 c])) (g.set j (iterOb s (pos + w))) (min lo j))) :
    Wk P X Q (.R (⟨none, dd, none, some (.nextS x), []⟩ :: l) k sp wr ks e g lo) := by
  rw [Wk.of_GR fun n => rfl]
  have hb : Nat.blt j g.next = true := Nat.blt_eq ▸ hlt
  have hs : nextF (g.at g.next) (.pointer (some ⟨j, 0, none⟩)) = some (.tuple #[.bool true, .int .i64 (.ofNat pos), .int .i32 c], (g.set j (iterOb s (pos + w))).at j) := by
    unfold nextF
    simp only []
    rw [show (g.at g.next).get j = iterOb s pos from hj]
    unfold iterOb
    simp only []
    rw [show Nat.blt j (g.at g.next).next = true from hb, show Nat.blt pos s.size = true from Nat.blt_eq ▸ hp]
    simp only [cond_true, hd]
    simp only [AH.set, GH.at, GH.set, hb, cond_true, iterOb]
  refine GR.wrote (lo' := j) (v := .tuple #[.bool true, .int .i64 (.ofNat pos), .int .i32 c]) (g' := g.set j (iterOb s (pos + w))) rfl (Hp.mk (bnd 0) fun call => ?_) rfl (Nat.le_refl _) ?_
  · simp only [runH, hx, hs]
  · rw [hb]
    exact h.R
theorem Wk.nxtE {x : PO} {j pos : Nat} {s : ByteArray} (hx : ev e x = .pointer (some ⟨j, 0, Option.none⟩)) (hj : g.get j = iterOb s pos) (hlt : j < g.next) (hp : ¬ pos < s.size)
    (h : Wk P X Q (.R l (k + 1) ((k, (g.next, g.next)) :: sp) wr ks (putE e dd (.tuple #[.bool false])) g lo)) :
    Wk P X Q (.R (⟨none, dd, none, some (.nextS x), []⟩ :: l) k sp wr ks e g lo) := by
  rw [Wk.of_GR fun n => rfl]
  have hb : Nat.blt j g.next = true := Nat.blt_eq ▸ hlt
  have hs : nextF (g.at g.next) (.pointer (some ⟨j, 0, none⟩)) = some (.tuple #[.bool false], g.at g.next) := by
    unfold nextF
    simp only []
    rw [show (g.at g.next).get j = iterOb s pos from hj]
    unfold iterOb
    simp only []
    rw [show Nat.blt j (g.at g.next).next = true from hb, show Nat.blt pos s.size = false from by cases q : Nat.blt pos s.size with | false => rfl | true => exact absurd (Nat.blt_eq ▸ q) hp]
    simp only [cond_true, cond_false]
  refine GR.same rfl (Hp.mk (bnd 0) fun call => ?_) h.R
  simp only [runH, hx, hs]
end
/-! ## A row that a known call has made -/
variable [Inhabited Bound]
theorem emb_born {φ : Phi} {h : AH} {B : Nat} {w w' : World} (E : Emb φ h B w) (hn : h.next < LIM) (b : RowKit.Below w.heap.size w w') (o : Ob) (hs : o.slack = false) {blk room : Nat} (h1 : w.heap.size ≤ blk) (h2 : blk < w'.heap.size) (hr : ObRel (φ.add h.next ⟨blk, room⟩) o ⟨blk, room⟩ w') :
    Emb (φ.add h.next ⟨blk, room⟩) (h.push o) B w' ∧ Ext B φ h w (φ.add h.next ⟨blk, room⟩) (h.push o) w' := by
  obtain ⟨E1, X1⟩ := E.grown b
  have hfr : φ h.next = none := E.fresh (Nat.le_refl _)
  have hle := Phi.add_le (e := ⟨blk, room⟩) hfr
  have old : ∀ i, i < h.next → (h.push o).get i = h.get i := by
    intro i hi
    rw [AH.get_eq, AH.get_eq]
    show (bif inSpans h.hid i then _ else T5.get (T5.set h.tr h.next o) i) = _
    rw [T5.get_set _ _ _ _ hn (by omega), if_neg (by omega)]
  have new : ((h.push o).get h.next).kind ≠ 0 → (h.push o).get h.next = o := by
    rw [AH.get_eq]
    show (bif inSpans h.hid h.next then _ else T5.get (T5.set h.tr h.next o) h.next).kind ≠ 0 → (bif inSpans h.hid h.next then _ else T5.get (T5.set h.tr h.next o) h.next) = o
    rw [T5.get_set _ _ _ _ hn hn, if_pos rfl]
    cases inSpans h.hid h.next with
    | true => intro h; exact absurd rfl h
    | false => intro _; rfl
  have oldφ : ∀ i, i ≠ h.next → (φ.add h.next ⟨blk, room⟩) i = φ i := fun i hi => by simp [Phi.add, hi]
  have newφ : (φ.add h.next ⟨blk, room⟩) h.next = some ⟨blk, room⟩ := Phi.add_same _ _ _
  refine ⟨⟨?_, ?_, ?_, ?_, ?_, ?_, E1.size⟩, ⟨hle, fun i hi => oldφ i (by omega), Nat.le_succ _, rfl, Nat.le_refl _, ?_, ?_, ?_, X1.below⟩⟩
  · intro i e hi
    by_cases c : i = h.next
    · subst c; exact Nat.lt_succ_self _
    · rw [oldφ i c] at hi; exact Nat.lt_succ_of_lt (E.dom i e hi)
  · intro i e hi
    by_cases c : i = h.next
    · subst c
      rw [newφ] at hi
      cases hi
      exact ⟨Nat.le_trans E.size h1, h2⟩
    · rw [oldφ i c] at hi; exact E1.base i e hi
  · intro i hi hk
    by_cases c : i = h.next
    · subst c
      rw [new hk]
      exact ⟨_, newφ, hr⟩
    · have hi' : i < h.next := by
        have : i < h.next + 1 := hi
        omega
      rw [old i hi'] at hk ⊢
      obtain ⟨e, a1, a2⟩ := E1.obj i hi' hk
      exact ⟨e, hle _ _ a1, a2.mono hle⟩
  · intro i j ei ej hi hj ki kj hij hbb
    by_cases c : i = h.next
    · subst c
      rw [newφ] at hi
      cases hi
      rw [oldφ j (Ne.symm hij)] at hj
      have := (E.base j ej hj).2
      simp at hbb; omega
    · by_cases d : j = h.next
      · subst d
        rw [newφ] at hj
        cases hj
        rw [oldφ i c] at hi
        have := (E.base i ei hi).2
        simp at hbb; omega
      · rw [oldφ i c] at hi
        rw [oldφ j d] at hj
        rw [old i (E.dom i ei hi)] at ki ⊢
        rw [old j (E.dom j ej hj)] at kj ⊢
        exact E1.apart i j ei ej hi hj ki kj hij hbb
  · intro i hi hk hsl
    by_cases c : i = h.next
    · subst c
      rw [new hk, hs] at hsl
      cases hsl
    · have hi' : i < h.next := by
        have : i < h.next + 1 := hi
        omega
      rw [old i hi'] at hk hsl ⊢
      exact E1.fam i hi' hk hsl
  · show h.next + 1 ≤ LIM
    omega
  · intro i hi _
    show T5.get (T5.set h.tr h.next o) i = T5.get h.tr i
    rw [T5.get_set _ _ _ _ hn (by omega), if_neg (by omega)]
  · intro k hk _
    exact b.block k hk
  · intro i e hi hf
    by_cases c : i = h.next
    · subst c
      rw [newφ] at hi
      cases hi
      exact .inl h1
    · rw [oldφ i c] at hi
      rw [hi] at hf; cases hf
end Go.Ds
set_option linter.unusedSimpArgs false
set_option linter.unusedVariables false
set_option linter.unusedSectionVars false
set_option maxHeartbeats 4000000
namespace Go.Ds
/-! ## Slices of elements of several cells -/
def SlQ (g : GH) (s : Value) (sz m : Nat) (vs : List Value) : Prop :=
  vs.length = m * sz ∧ ((m = 0 ∧ ∃ p c, s = .slice p 0 c) ∨ ∃ j off cap ob, s = .slice (some ⟨j, off, none⟩) m cap ∧ j < g.next ∧ g.get j = ob ∧ (ob.kind = 1 ∨ (ob.kind = 4 ∧ vs.any isJ = false)) ∧ off + vs.length ≤ ob.cells.length ∧ (ob.cells.drop off).take vs.length = vs)
theorem SlQ.len {g : GH} {s : Value} {sz m : Nat} {vs : List Value} (h : SlQ g s sz m vs) : lenLF s = some (.int .i64 (m : Int)) := by
  rcases h with ⟨_, ⟨rfl, p, c, rfl⟩ | ⟨j, off, cap, ob, rfl, _⟩⟩ <;> rfl
theorem SlQ.cell {g : GH} {s : Value} {sz m : Nat} {vs : List Value} (h : SlQ g s sz m vs) : cellV s = true := by
  rcases h with ⟨_, ⟨rfl, p, c, rfl⟩ | ⟨j, off, cap, ob, rfl, _⟩⟩ <;> rfl
theorem SlQ.kept {g g' : GH} {s : Value} {sz m : Nat} {vs : List Value} (h : SlQ g s sz m vs) (x : Kept g g') : SlQ g' s sz m vs := by
  rcases h with ⟨h0, h | ⟨j, off, cap, ob, h1, h2, h3, h4⟩⟩
  · exact ⟨h0, .inl h⟩
  · exact ⟨h0, .inr ⟨j, off, cap, ob, h1, Nat.lt_of_lt_of_le h2 x.next, (x.gets j h2).trans h3, h4⟩⟩
theorem SlQ.ptr {g : GH} {s : Value} {sz m : Nat} {vs : List Value} (h : SlQ g s sz m vs) {i : Nat} (hi : i < m) : ∃ j o, j < g.next ∧ (∀ n : Int, n = i → iaddrSF sz s (.int .i64 n) = some (.pointer (some ⟨j, o, none⟩))) ∧
    (∀ lo c v, c < sz → vs[i * sz + c]? = some v → loadF none (g.at lo) (.pointer (some ⟨j, o + c, none⟩)) = some v) ∧ (∀ lo, loadF (some sz) (g.at lo) (.pointer (some ⟨j, o, none⟩)) = some (.agg ((vs.drop (i * sz)).take sz).toArray)) := by
  rcases h with ⟨h0, ⟨rfl, _⟩ | ⟨j, off, cap, ob, rfl, h2, h3, h4, h5, h6⟩⟩
  · omega
  · have hb : i * sz + sz ≤ m * sz := by have := Nat.mul_le_mul_right sz hi; rw [Nat.succ_mul] at this; exact this
    refine ⟨j, off + i * sz, h2, fun n hn => ?_, fun lo c v hc hv => ?_, fun lo => ?_⟩
    · subst hn
      have a1 : Nat.blt i m = true := Nat.blt_eq ▸ hi
      simp only [iaddrSF, asNat_nat]
      rw [a1]
      simp only [cond_true, Addr.add]
      by_cases z : i * sz = 0
      · rw [if_pos z, z, Nat.add_zero]
      · rw [if_neg z]
    · have := SlR.readN (j := j) (off := off) (cap := cap) (lo := lo) (vs := vs) h3 h4 h5 h6 (i := i * sz + c) (n := 1) (by omega)
      rw [← Nat.add_assoc] at this
      simp only [loadF, this]
      obtain ⟨hl, he⟩ := List.getElem?_eq_some_iff.1 hv
      rw [List.drop_eq_getElem_cons hl, he]
      rfl
    · have := SlR.readN (j := j) (off := off) (cap := cap) (lo := lo) (vs := vs) h3 h4 h5 h6 (i := i * sz) (n := sz) (by omega)
      simp only [loadF, this]
      rfl
/-! ## Rows of elements of several cells, appended and written in place -/
/-- A slice of elements of several cells that was made by appending. -/
def OwnQ (g : GH) (s : Value) (sz m : Nat) (vs : List Value) (t : TypeId) (base : Nat) : Prop :=
  (s = .slice none 0 0 ∧ vs = [] ∧ m = 0) ∨ ∃ j fam, s = .slice (some ⟨j, 0, none⟩) m (OPEN + sz) ∧ vs.length = m * sz ∧ j < g.next ∧ g.get j = slackOb vs t fam ∧ vs ≠ [] ∧ base ≤ fam ∧ fam ≤ j ∧ (∀ x ∈ g.fams fam, x.2 ≤ vs.length ∧ fam ≤ x.1 ∧ x.1 ≤ j)
theorem OwnQ.nil {g : GH} {sz : Nat} {t : TypeId} {base : Nat} : OwnQ g (.slice none 0 0) sz 0 [] t base := .inl ⟨rfl, rfl, rfl⟩
theorem OwnQ.kept {g g' : GH} {s : Value} {sz m : Nat} {vs : List Value} {t : TypeId} {base : Nat} (h : OwnQ g s sz m vs t base) (x : Kept g g') : OwnQ g' s sz m vs t base := by
  rcases h with h | ⟨j, fam, h1, h2, h3, h4, h5, h6, h7, h8⟩
  · exact .inl h
  · exact .inr ⟨j, fam, h1, h2, Nat.lt_of_lt_of_le h3 x.next, (x.gets j h3).trans h4, h5, h6, h7, by rw [x.fams fam (by omega)]; exact h8⟩
theorem OwnQ.len {g : GH} {s : Value} {sz m : Nat} {vs : List Value} {t : TypeId} {base : Nat} (h : OwnQ g s sz m vs t base) : lenLF s = some (.int .i64 (m : Int)) := by
  rcases h with ⟨rfl, _, rfl⟩ | ⟨j, fam, rfl, _⟩ <;> rfl
theorem OwnQ.cell {g : GH} {s : Value} {sz m : Nat} {vs : List Value} {t : TypeId} {base : Nat} (h : OwnQ g s sz m vs t base) : cellV s = true := by
  rcases h with ⟨rfl, _⟩ | ⟨j, fam, rfl, _⟩ <;> rfl
structure GrewQ (g g' : GH) (s' : Value) (sz m : Nat) (vs : List Value) (t : TypeId) (base : Nat) : Prop where
  next : g'.next = g.next + 1
  hid : g'.hid = g.hid
  ok : g'.ok
  gets : ∀ j, j < g.next → g'.get j = g.get j
  fams : ∀ f, f < base → g'.fams f = g.fams f
  own : OwnQ g' s' sz m vs t base
theorem Kept.grewQ {a g g' : GH} {s' : Value} {sz m : Nat} {vs : List Value} {t : TypeId} {base : Nat} (h : Kept a g) (x : GrewQ g g' s' sz m vs t base) (hb : a.next ≤ base) : Kept a g' :=
  ⟨by have := h.next; have := x.next; omega, fun j hj => (x.gets j (Nat.lt_of_lt_of_le hj h.next)).trans (h.gets j hj), fun f hf => (x.fams f (by omega)).trans (h.fams f hf)⟩
section
variable {P : Program} {X : Caller} {Q : Out → Env → GH → Nat → Prop} {gd : Option (P3 × Bool)} {dd : Option P3} {l : List PI} {k : Nat} {sp : List (Nat × (Nat × Nat))} {wr : List Nat} {ks : List Fr} {e : Env} {g : GH} {lo : Nat}
theorem GR.appQ {t tx : TypeId} {sz b m n c jx : Nat} {s x : PO} {sv : Value} {vs new : List Value} {base lw : Nat} (hg : wantF e gd = some true) (hs : ev e s = sv) (hx : ev e x = .slice (some ⟨jx, 0, none⟩) n c) (hown : OwnQ g sv sz m vs t base) (hjx : g.get jx = cellsOb new tx) (hnl : new.length = n * sz) (hn : 0 < n) (hz0 : 0 < sz)
    (hc : new.all cellV = true) (hsz : (m + n) * (b + 1) ≤ 1073741824) (hb : base ≤ g.next) (hlo : lw ≤ lo) (hlw : lw ≤ base) (ho : g.ok)
    (h : ∀ s' g' lo' sp wr, GrewQ g g' s' sz (m + n) (vs ++ new) t base → lw ≤ lo' → GR P X Q l (Nat.succ k) sp wr ks (putE e dd s') g' lo') :
    GR P X Q (⟨gd, dd, none, some (.app t sz b s x), []⟩ :: l) k sp wr ks e g lo := by
  have hlen : lenF (.slice (some ⟨jx, 0, none⟩) n c) = some n := rfl
  have hstr : strOk sz (.slice (some ⟨jx, 0, none⟩) n c) = true := rfl
  have hfirst : ∀ lo, firstF (g.at lo) sz n (.slice (some ⟨jx, 0, none⟩) n c) = some new := by
    intro lo
    simp only [firstF]
    have := SlR.readN (j := jx) (off := 0) (cap := c) (lo := lo) (vs := new) hjx (.inl rfl) (by simp [cellsOb]) (by simp [cellsOb]) (i := 0) (n := n * sz) (by omega)
    rw [Nat.add_zero, List.drop_zero, ← hnl, List.take_length] at this
    rw [← hnl]
    exact this
  have hpos : 0 < n * sz := Nat.mul_pos hn hz0
  have hne : new ≠ [] := fun h => by rw [h] at hnl; simp at hnl; omega
  have hz : Nat.beq n 0 = false := by rw [beq_d, decide_eq_false_iff_not]; omega
  rcases hown with ⟨rfl, rfl, rfl⟩ | ⟨j, fam, rfl, hml, h2, h3, h4, h5, h6, h7⟩
  · let G : GH := ⟨T5.set g.tr g.next (slackOb new t g.next), Nat.succ g.next, g.hid, T5.set g.fams g.next [(g.next, new.length)]⟩
    refine GR.more (v := .slice (some ⟨g.next, 0, none⟩) n (OPEN + sz)) (g' := G) hg (Hp.mk (bnd (g.next + 1)) fun call => ?_) rfl (Nat.le_succ _) (h _ G lo _ _ ?_ hlo)
    · simp only [runH, hs, hx, hstr, cond_true, appF, hlen]
      rw [mul_succ_le (by simpa using hsz), hz, hfirst]
      simp only [cond_false]
      rw [show (Nat.beq 0 0 && Nat.beq 0 0) = true from rfl]
      simp only [cond_true, appNew]
      have : Nat.blt (g.at g.next).next (@LIM (bnd (g.next + 1))) = true := by rw [Nat.blt_eq]; exact Nat.lt_succ_self _
      rw [this]
      simp only [cond_true, lenN_length]
      rfl
    · have hget : ∀ j, G.get j = if g.next = j then slackOb new t g.next else g.get j := GH.get_push ho (slackOb new t g.next)
      refine ⟨rfl, rfl, fun i hi => ho i (Nat.le_trans (Nat.le_succ _) hi), fun i hi => by rw [hget, if_neg (by omega)], fun f hf => ?_, .inr ⟨g.next, g.next, by simp, by simpa using hnl, Nat.lt_succ_self _, by rw [hget, if_pos rfl]; simp, by simpa using hne, hb, Nat.le_refl _, ?_⟩⟩
      · show (T5.set g.fams g.next [(g.next, new.length)]) f = _
        rw [T5.get_set', if_neg (by omega)]
      · show ∀ x ∈ (T5.set g.fams g.next [(g.next, new.length)]) g.next, _
        rw [T5.get_set', if_pos rfl]
        intro x hx
        rw [List.mem_singleton] at hx
        subst hx
        exact ⟨by simp, Nat.le_refl _, Nat.le_refl _⟩
  · let G : GH := ⟨T5.set g.tr g.next (slackOb (vs ++ new) t fam), Nat.succ g.next, g.hid, T5.set (T5.set g.fams fam (g.fams fam)) fam ((g.next, (vs ++ new).length) :: g.fams fam)⟩
    have hvl : 0 < vs.length := List.length_pos_iff.2 h4
    have hstop : 0 + m * sz = vs.length := by omega
    refine GR.wrote (v := .slice (some ⟨g.next, 0, none⟩) (m + n) (OPEN + sz)) (g' := G) (lo' := j) hg (Hp.mk (bnd (g.next + 1)) fun call => ?_) rfl (Nat.le_succ _) (h _ G _ _ _ ?_ (by omega))
    · have hkill : killF (g.at g.next) fam (g.at g.next).next vs.length = (⟨g.tr, g.next, g.hid, T5.set g.fams fam (g.fams fam)⟩ : GH).at g.next := by
        unfold killF
        show (killGo _ _ (g.fams fam) _).setFam fam ((g.fams fam).filter _) = _
        rw [killGo_none _ _ _ _ (fun x hx => (h7 x hx).1), filter_all (fun x hx => (h7 x hx).1)]
        rfl
      have hb1 : Nat.ble (vs.length + new.length) vs.length = false := by rw [ble_d, decide_eq_false_iff_not]; omega
      have htake : takeN vs.length vs = some vs := by rw [takeN_len (Nat.le_refl _), List.take_length]
      have hm0 : Nat.beq m 0 = false := by
        rw [beq_d, decide_eq_false_iff_not]
        intro q
        rw [q, Nat.zero_mul] at hml
        omega
      have hlt : Nat.blt j g.next = true := Nat.blt_eq ▸ h2
      simp only [runH, hs, hx, hstr, cond_true, appF, hlen]
      rw [mul_succ_le hsz, hz, hfirst]
      simp only [cond_false]
      rw [show (g.at g.next).get j = slackOb vs t fam from h3]
      unfold slackOb
      simp only [lenN_length, hstop, hb1, hm0, Bool.false_and, cond_false, htake]
      rw [show Nat.beq (OPEN + sz) (OPEN + sz) = true by simp, show Nat.beq t t = true by simp]
      simp only [cond_true, Bool.and_self, appMay, hkill]
      have hL : Nat.blt (g.at g.next).next (@LIM (bnd (g.next + 1))) = true := by rw [Nat.blt_eq]; exact Nat.lt_succ_self _
      rw [hL, show Nat.blt j (g.at g.next).next = true from hlt, hc]
      rw [show Nat.beq 0 0 = true from rfl]
      simp only [Bool.and_self, cond_true, GH.at, hlt, lenN_length, T5.get_set', if_true]
      rfl
    · have hget : ∀ j, G.get j = if g.next = j then slackOb (vs ++ new) t fam else g.get j := GH.get_push ho (slackOb (vs ++ new) t fam)
      refine ⟨rfl, rfl, fun i hi => ho i (Nat.le_trans (Nat.le_succ _) hi), fun i hi => by rw [hget, if_neg (by omega)], fun f hf => ?_, .inr ⟨g.next, fam, by simp, by rw [List.length_append, hml, hnl, Nat.add_mul], Nat.lt_succ_self _, by rw [hget, if_pos rfl], by simp [hne], h5, by omega, ?_⟩⟩
      · show (T5.set (T5.set g.fams fam (g.fams fam)) fam ((g.next, (vs ++ new).length) :: g.fams fam)) f = _
        rw [T5.get_set', T5.get_set', if_neg (by omega), if_neg (by omega)]
      · show ∀ x ∈ (T5.set (T5.set g.fams fam (g.fams fam)) fam ((g.next, (vs ++ new).length) :: g.fams fam)) fam, _
        rw [T5.get_set', if_pos rfl]
        intro x hx
        rcases List.mem_cons.1 hx with rfl | hx
        · exact ⟨Nat.le_refl _, by simp; omega, Nat.le_refl _⟩
        · have := h7 x hx
          refine ⟨by simp; omega, this.2.1, ?_⟩
          omega
theorem AppD.ownQ {t tx : TypeId} {sz b m n c jx : Nat} {sv : Value} {vs new : List Value} {base lw : Nat} (hown : OwnQ g sv sz m vs t base) (hjx : g.get jx = cellsOb new tx) (hnl : new.length = n * sz) (hn : 0 < n) (hz0 : 0 < sz)
    (hc : new.all cellV = true) (hsz : (m + n) * (b + 1) ≤ 1073741824) (hb : base ≤ g.next) (hlo : lw ≤ lo) (hlw : lw ≤ base) (ho : g.ok)
    (h : ∀ s' g' lo' sp wr, GrewQ g g' s' sz (m + n) (vs ++ new) t base → lw ≤ lo' → Wk P X Q (.R l (k + 1) sp wr ks (putE e dd s') g' lo')) : AppD P X Q t sz b sv (.slice (some ⟨jx, 0, Option.none⟩) n c) [] dd l k sp wr ks e g lo := fun y z hy hz =>
  GR.appQ rfl hy hz hown hjx hnl hn hz0 hc hsz hb hlo hlw ho fun s' g' lo' sp wr hg hl => (h s' g' lo' sp wr hg hl).R
theorem OwnQ.put {x y : PO} {v : Value} {s : Value} {sz m : Nat} {vs : List Value} {t : TypeId} {base lw i j : Nat} (hrow : OwnQ g s sz m vs t base) (hp : AtBlk s j) (hi : i < vs.length) (hx : ev e x = .pointer (some ⟨j, i, Option.none⟩)) (hy : ev e y = v) (hcv : cellsOf v = [v]) (hc : cellV v = true) (ho : g.ok) (hlo : lw ≤ lo) (hlw : lw ≤ base)
    (h : ∀ g' lo' wr, RowW g g' base → OwnQ g' s sz m (vs.set i v) t base → lw ≤ lo' → Wk P X Q (.R l (k + 1) ((k, (g.next, g.next)) :: sp) wr ks (putE e dd undef) g' lo')) :
    oC (g.get j) (fun cells t => gP ([v].length = 1 ∧ [v].all cellV = true ∧ i + [v].length ≤ cells.length ∧ j < g.next)
      (Wk P X Q (.R l (k + 1) ((k, (g.next, g.next)) :: sp) (k :: wr) ks (putE e dd undef) (g.set j (cellsOb (splice i cells [v]) t)) (min lo j)))) (GR P X Q (⟨Option.none, dd, Option.none, some (.store 1 x y), []⟩ :: l) k sp wr ks e g lo) := by
  obtain ⟨n, c, rfl⟩ := hp
  rcases hrow with ⟨q, _⟩ | ⟨j', fam, q, hml, h2, h3, h4, h5, h6, h7⟩
  · cases q
  · cases q
    refine .inr ⟨by rw [h3]; rfl, ?_⟩
    refine GR.storeR rfl hx hy hcv hc h3 h2 hi h5 h6 h7 ho hlo hlw fun g' lo' wr w ⟨q1, q2, q3⟩ hl => (h g' lo' wr w (.inr ⟨j, fam, rfl, by rw [List.length_set]; exact hml, q2, q1, ?_, h5, h6, fun z hz => by rw [List.length_set]; exact q3 z hz⟩) hl).R
    intro e
    have := congrArg List.length e
    simp at this
    exact h4 (List.eq_nil_of_length_eq_zero (by simpa using this))
theorem OwnQ.read {s : Value} {sz m : Nat} {vs : List Value} {t : TypeId} {base : Nat} (h : OwnQ g s sz m vs t base) : SlQ g s sz m vs := by
  rcases h with ⟨rfl, rfl, rfl⟩ | ⟨j, fam, rfl, hml, h2, h3, h4, h5, h6, h7⟩
  · exact ⟨by simp, .inl ⟨rfl, _, _, rfl⟩⟩
  · exact ⟨hml, .inr ⟨j, 0, _, _, rfl, h2, h3, .inl rfl, by simp [slackOb], by simp [slackOb]⟩⟩
/-- The element at a place. -/
theorem OwnQ.at {s : Value} {sz m : Nat} {vs : List Value} {t : TypeId} {base : Nat} (h : OwnQ g s sz m vs t base) {i : Nat} (hi : i < m) : ∃ j, j < g.next ∧ (∀ n : Int, n = i → iaddrSF sz s (.int .i64 n) = some (.pointer (some ⟨j, i * sz, Option.none⟩))) ∧ (∀ lo o v, vs[o]? = some v → loadF Option.none (g.at lo) (.pointer (some ⟨j, o, Option.none⟩)) = some v) ∧ AtBlk s j := by
  rcases h with ⟨_, _, rfl⟩ | ⟨j, fam, rfl, hml, h2, h3, h4, h5, h6, h7⟩
  · omega
  · refine ⟨j, h2, fun n hn => ?_, fun lo o v hv => ?_, ⟨_, _, rfl⟩⟩
    · subst hn
      have a1 : Nat.blt i m = true := Nat.blt_eq ▸ hi
      simp only [iaddrSF, asNat_nat]
      rw [a1]
      simp only [cond_true, Addr.add]
      by_cases z : i * sz = 0
      · rw [if_pos z, z]
      · rw [if_neg z, Nat.zero_add]
    · rw [load_eq, h3, ob_s1]
      exact hv
/-- The text of a row of bytes. -/
theorem Wk.txtQ {x : PO} {sv : Value} {m : Nat} {vs : List Value} {t : TypeId} {base : Nat} {s : ByteArray} (hx : ev e x = sv) (hown : OwnQ g sv 1 m vs t base) (ht : textGo vs .empty = some s)
    (h : Wk P X Q (.R l (k + 1) ((k, (g.next, g.next)) :: sp) wr ks (putE e dd (.string s)) g lo)) :
    Wk P X Q (.R (⟨Option.none, dd, Option.none, some (.textOf x), []⟩ :: l) k sp wr ks e g lo) := by
  rw [Wk.of_GR fun n => rfl]
  refine GR.same rfl (Hp.mk (bnd 0) fun call => ?_) h.R
  simp only [runH, hx]
  rcases hown with ⟨rfl, rfl, rfl⟩ | ⟨j, fam, rfl, hml, h2, h3, h4, h5, h6, h7⟩
  · simp only [textGo, Option.some.injEq] at ht
    subst ht
    rfl
  · have := SlR.readN (j := j) (off := 0) (cap := OPEN + 1) (lo := g.next) (vs := vs) h3 (.inl rfl) (by simp [slackOb]) (by simp [slackOb]) (i := 0) (n := m) (by omega)
    rw [Nat.add_zero, List.drop_zero, List.take_of_length_le (by omega)] at this
    simp only [textF, this, ht]
    rfl
end
end Go.Ds
