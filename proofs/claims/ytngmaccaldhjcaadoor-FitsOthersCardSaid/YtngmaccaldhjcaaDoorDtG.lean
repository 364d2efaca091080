import Derived.Test.YtngmaccaldhjcaaDoorDtO
import Derived.Test.YtngmaccaldhjcaaDoorDsZd
set_option linter.all false
set_option linter.unusedSimpArgs false
set_option linter.unnecessarySimpa false
set_option linter.unusedVariables false
set_option linter.unusedSectionVars false
set_option linter.unusedSectionVars false
set_option linter.unusedVariables false
namespace Go.Ds
/-! ## Objects in known places: package-level tables -/
/-- A row that is only read, and lies at the beginning of a block that is known. -/
def tabOb (cells : List Value) (blk : Nat) : Ob := ⟨4, cells, 0, 0, false, [], 0, ByteArray.empty, blk + 1⟩
/-- What the world holds in a block, where it is known. -/
def TabIn (w : World) (blk : Nat) (cells : List Value) : Prop := ∃ c t fr, w.heap[blk]? = some (.cells c t fr) ∧ ∀ (k : Nat) v, cells[k]? = some v → isJ v = true ∨ (c[k]? = some v ∧ plainC v = true)
theorem Emb.tab [Inhabited Bound] {φ : Phi} {h : AH} {B : Nat} {w : World} (E : Emb φ h B w) {i : Nat} {blk : Nat} (hi : i < h.next) (hk4 : (h.get i).kind = 4) (hp0 : (h.get i).pos = blk + 1) {k : Nat} {v : Value} (hk : (h.get i).cells[k]? = some v) (hv : plainC v = true) (hj : isJ v = false) : w.cell? ⟨blk, k, none⟩ = some v := by
  obtain ⟨e, he, hr⟩ := E.obj i hi (by rw [hk4]; exact Nat.succ_ne_zero 3)
  rcases hr with ⟨x, _⟩ | ⟨x, _⟩ | ⟨x, _⟩ | ⟨_, ⟨_, hp⟩, c, t, fr, h1, h2⟩
  · rw [hk4] at x; cases x
  · rw [hk4] at x; cases x
  · rw [hk4] at x; cases x
  · have hb : e.blk = blk := by omega
    rcases h2 k v hk with h3 | ⟨v', h3, h4⟩
    · rw [hj] at h3; cases h3
    · have e1 := plainC_inv h4 hv
      rw [hb] at h1
      unfold World.cell?
      rw [h1]
      simp [h3, e1]

/-- Calls that are known in worlds of a kind. -/
def KnownI (P : Program) (I : World → Prop) (f : FuncId) (args : List Value) (v : Value) : Prop :=
  ∀ (w : World), I w → ∀ (o : Oper) (a : Act) (K : Act → World → Prop) (Q : Exit → Act → World → Prop), (∀ w', RowKit.Below w.heap.size w w' → K (a.put o.dst v) w') → o.upon P a K Q ((callFunc f args.toArray).run P w)
theorem KnownI.of_calls {P : Program} {I : World → Prop} {f : FuncId} {args : List Value} {v : Value} {fn : Func} (hf : P.funcs[f]? = some fn) (hn : (fn.name == "runtime.NumGoroutine") = false) (hb : fn.body.isNone = false)
    (h : ∀ w, I w → Calls P f args.toArray w fun e w' => e = .returned v ∧ RowKit.Below w.heap.size w w') : KnownI P I f args v := by
  intro w hI o a K Q hK
  have hn' : ¬ fn.name = "runtime.NumGoroutine" := by simpa using hn
  have hb' : ¬ fn.body = none := by intro e; rw [e] at hb; cases hb
  have hcall : (callFunc f args.toArray).run P w = .ok (.enter f args.toArray) w := by simp [callFunc, hf, hn', hb']
  rw [hcall, Oper.upon_enter]
  refine Calls.mono (h w hI) fun e w' ⟨h1, h2⟩ => ?_
  subst h1
  exact hK w' h2
/-- Known calls, where the heap shows what they ask of the world. -/
def knownT (T : AH → Bool) (K : FuncId → List Value → Option Value) : Caller := fun f args h => match knownX K f args h with
  | some r => bif T h then some r else none
  | none => none
theorem knownT_some [Inhabited Bound] {T : AH → Bool} {K : FuncId → List Value → Option Value} {f : FuncId} {args : List Value} {h h' : AH} {v : Value} (hr : knownT T K f args h = some (v, h')) : T h = true ∧ knownX K f args h = some (v, h') := by
  unfold knownT at hr
  split at hr
  · rename_i r hx
    obtain ⟨h1, h2⟩ := bif_some hr
    exact ⟨h1, by rw [hx, h2]⟩
  · cases hr
theorem knownT_orac [Inhabited Bound] {P : Program} {T : AH → Bool} {I : World → Prop} {K : FuncId → List Value → Option Value} (hT : ∀ φ h B w, Emb φ h B w → T h = true → I w) (hK : ∀ f args v, K f args = some v → KnownI P I f args v) : Orac P (knownT T K) where
  sound := fun B f args h v h' hr φ w args' M hl o a k Q hk => by
    obtain ⟨ht, hr⟩ := knownT_some hr
    obtain ⟨h1, h2, h3, rfl⟩ := knownX_some hr
    have : args'.toList = args := plainL_inv hl h1
    have ha : args' = args.toArray := by rw [← this]
    rw [ha]
    refine hK f args v h2 w (hT φ _ B w M ht) o a k Q fun w' hb => ?_
    obtain ⟨g1, g2⟩ := M.grown hb
    exact hk φ v w' (VRel.plainC h3) g1 g2
  pres := fun f args h v h' hr hl => by
    obtain ⟨ht, hr⟩ := knownT_some hr
    obtain ⟨_, _, _, rfl⟩ := knownX_some hr
    exact Pres.refl hl
theorem Rets.knownT {P : Program} {T : AH → Bool} {K : FuncId → List Value → Option Value} {f : FuncId} {args : List Value} {g : GH} {Q : Value → GH → Nat → Prop} {v : Value} (ht : T (g.at g.next) = true) (ha : args.all plainV = true) (hk : K f args = some v) (hv : plainC v = true) (h : Q v g g.next) : Rets P (Ds.knownT T K) f args g Q := by
  unfold Rets
  intro _
  refine ⟨v, g, g.next, ⟨bnd 0, 1, 0, ?_⟩, ⟨Nat.le_refl _, rfl, Nat.le_refl _, fun _ _ _ => rfl, fun _ _ _ => rfl⟩, h⟩
  have : Ds.knownT T K f args (g.at g.next) = some (v, g.at g.next) := by
    unfold Ds.knownT knownX
    rw [ha, hk]
    simp only [cond_true, hv, ht]
  simp only [evF, this]

/-! ### A heap with a table at its beginning -/
def seenP (r : List Value) (blk : Nat) (rows : List (List Value)) : GH := (seenG (r :: rows)).set 0 (tabOb r blk)
theorem seenP_next (r : List Value) (blk : Nat) (rows : List (List Value)) : (seenP r blk rows).next = rows.length + 1 := seen_next (r :: rows)
theorem seenP_ok (r : List Value) (blk : Nat) (rows : List (List Value)) : (seenP r blk rows).ok := GH.ok_set (seen_ok (r :: rows))
theorem seenP_zero (r : List Value) (blk : Nat) (rows : List (List Value)) : (seenP r blk rows).get 0 = tabOb r blk :=
  GH.get_set_same (seen_get (r :: rows) (i := 0) rfl) (Nat.succ_ne_zero 3) _
theorem seenP_get (r : List Value) (blk : Nat) (rows : List (List Value)) {i : Nat} (hi : i ≠ 0) : (seenP r blk rows).get i = (seenG (r :: rows)).get i :=
  GH.get_set_ne (seen_get (r :: rows) (i := 0) rfl) (Nat.succ_ne_zero 3) _ (fun h => hi h.symm)
theorem seenP_slr {r : List Value} {blk : Nat} {rows : List (List Value)} {s : Value} {vs : List Value} (h : SlR (seenG (r :: rows)) s vs) : SlR (seenP r blk rows) s vs := by
  rcases h with h | ⟨j, off, cap, ob, h1, h2, h3, h4, h5, h6⟩
  · exact .inl h
  · by_cases c : j = 0
    · subst c
      rw [seen_get (r :: rows) (i := 0) rfl] at h3
      subst h3
      refine .inr ⟨0, off, cap, _, h1, h2, seenP_zero r blk rows, ?_, h5, h6⟩
      rcases h4 with h4 | ⟨_, h4⟩
      · exact absurd h4 (by show ¬ 4 = 1; decide)
      · exact .inr ⟨rfl, h4⟩
    · exact .inr ⟨j, off, cap, ob, h1, h2, by rw [seenP_get r blk rows c]; exact h3, h4, h5, h6⟩
theorem SeenR.embP {w : World} {r : List Value} {rows : List (List Value)} {blk : Nat} {bs : List Nat} (h : SeenR w (r :: rows) (blk :: bs)) (lo : Nat) [Inhabited Bound] (hL : rows.length + 1 ≤ LIM) : Emb (seenPhi (blk :: bs)) ((seenP r blk rows).at lo) 0 w := by
  have E := h.emb lo hL
  refine ⟨E.dom, E.base, fun i hi hk => ?_, fun i j ei ej hi hj _ _ hne hb => ?_, fun i hi hk hs => ?_, E.lim, E.size⟩
  · by_cases c : i = 0
    · subst c
      obtain ⟨e, h1, h2⟩ := E.obj 0 hi (by rw [GH.get_at, seen_get (r :: rows) (i := 0) rfl]; exact Nat.succ_ne_zero 3)
      have he : e = ⟨blk, 0⟩ := by
        have : seenPhi (blk :: bs) 0 = some ⟨blk, 0⟩ := rfl
        rw [this] at h1; exact (Option.some.inj h1).symm
      subst he
      refine ⟨_, h1, ?_⟩
      rw [GH.get_at, seen_get (r :: rows) (i := 0) rfl] at h2
      rw [GH.get_at, seenP_zero]
      rcases h2 with ⟨x, _⟩ | ⟨x, _⟩ | ⟨x, _⟩ | ⟨_, _, h2⟩
      · exact absurd x (by show ¬ 4 = 1; decide)
      · exact absurd x (by show ¬ 4 = 2; decide)
      · exact absurd x (by show ¬ 4 = 3; decide)
      · exact .inr (.inr (.inr ⟨rfl, ⟨rfl, .inr rfl⟩, h2⟩))
    · rw [GH.get_at, seenP_get r blk rows c] at hk ⊢
      exact E.obj i hi hk
  · have h1 := seenPhi_some hi
    have h2 := seenPhi_some hj
    rw [← hb] at h2
    exact absurd (h.apart i j _ h1 h2) hne
  · by_cases c : i = 0
    · subst c
      rw [GH.get_at, seenP_zero] at hs
      cases hs
    · rw [GH.get_at, seenP_get r blk rows c] at hk hs
      exact absurd (E.fam i hi hk hs).1 (by
        intro hf
        have hr : i < (r :: rows).length := by rw [← seen_next (r :: rows)]; exact hi
        rw [seen_get (r :: rows) (List.getElem?_eq_getElem hr)] at hs
        cases hs)
/-- A call over what came in, beside a table. -/
theorem Rets.seenP {P : Program} {X : Caller} (hX : ∀ i, @Orac i P X) (hm : P.follows .mixedOrders = true) {f : FuncId} {args : List Value} {args' : Array Value} {r : List Value} {blk : Nat} {rows : List (List Value)} {bs : List Nat} {w : World} (hs : SeenR w (r :: rows) (blk :: bs))
    (ha : LRel (seenPhi (blk :: bs)) args args'.toList) (hf : ∀ h, X f args h = none) {v : Value} (hv : plainC v = true) (h : Rets P X f args (Ds.seenP r blk rows) (fun u _ lo => rows.length + 1 ≤ lo ∧ u = v)) :
    Calls P f args' w fun e w' => e = .returned v ∧ RowKit.Below w.heap.size w w' := by
  unfold Rets at h
  obtain ⟨u, g', lo, ⟨i, d, n, hr⟩, hx, hlo, rfl⟩ := h (seenP_ok r blk rows)
  let I := bnd (max (@LIM i) (rows.length + 1))
  have hL : @LIM i ≤ @LIM I := Nat.le_max_left _ _
  cases d with
  | zero => cases hr
  | succ d =>
    have hr : @evF I P X n (d + 1) f args ((Ds.seenP r blk rows).at (Ds.seenP r blk rows).next) = some (u, g'.at lo) := evF_mono hL (Nat.le_refl _) (Nat.le_refl _) _ _ _ _ hr
    have M := @SeenR.embP w r rows blk bs hs (Ds.seenP r blk rows).next I (Nat.le_max_right _ _)
    rcases @evF_some I P X n d f args _ _ _ hr with hx | ⟨c, rs, ou, e, l, hp, hlen, hev, hne, hres, rfl⟩
    · rw [hf] at hx; cases hx
    · refine (@body_calls I P 0 _ (@evF_sound I P X (hX I) hm n 0 d) (@evF_pres I P X (hX I).pres n d) hm n f args _ _ _ w args' M ha c rs ou e l hp hlen hev hne hres).2 _ fun φ' v' w' r1 r2 r3 => ⟨by rw [plainC_inv r1 hv], ?_⟩
      refine ⟨r3.below.os, r3.below.tape, r3.below.output, r3.below.size, fun k hk => r3.frame k hk fun i e hi hb => ?_⟩
      have := (List.getElem?_eq_some_iff.1 (seenPhi_some hi)).1
      rw [hs.len] at this
      exact Nat.lt_of_lt_of_le this hlo

/-! ### A closed run beside a table -/
def isTrueL (n : Nat) : Option (Value × AH) → Bool
  | some (.bool true, h) => Nat.ble n h.low
  | _ => false
theorem isTrueL_some {n : Nat} {r : Option (Value × AH)} (h : isTrueL n r = true) : ∃ h', r = some (.bool true, h') ∧ n ≤ h'.low := by
  unfold isTrueL at h
  split at h
  · exact ⟨_, rfl, Nat.le_of_ble_eq_true h⟩
  · cases h
theorem call_of_tab [i0 : Inhabited Bound] {P : Program} {X : Caller} (hX : Orac P X) (hm : P.follows .mixedOrders = true) {fuel d : Nat} {f : FuncId} {r : List Value} {blk : Nat} (hL : 1 ≤ LIM) (hf : X f [] ((seenP r blk []).at 1) = none) (hr : isTrueL 1 (evK P X fuel (d + 1) f [] ((seenP r blk []).at 1)) = true) (w : World) (hw : TabIn w blk r) :
    Calls P f #[] w fun e w' => e = .returned (.bool true) ∧ RowKit.Below w.heap.size w w' := by
  obtain ⟨h', hr, hlo⟩ := isTrueL_some hr
  rw [evK_eq] at hr
  have hs : SeenR w [r] [blk] := {
    len := rfl
    apart := fun i j b hi hj => by
      have h1 := (List.getElem?_eq_some_iff.1 hi).1
      have h2 := (List.getElem?_eq_some_iff.1 hj).1
      simp only [List.length_singleton] at h1 h2
      omega
    rel := fun i r' b hi hb => by
      have h1 := (List.getElem?_eq_some_iff.1 hi).1
      simp only [List.length_singleton] at h1
      have : i = 0 := by omega
      subst this
      simp only [List.getElem?_cons_zero, Option.some.injEq] at hi hb
      subst hi; subst hb
      obtain ⟨c, t, fr, g1, g2⟩ := hw
      exact ⟨(Array.getElem?_eq_some_iff.1 g1).1, c, t, fr, g1, fun k v hk => (g2 k v hk).imp id fun ⟨a, b⟩ => ⟨v, a, VRel.plainC b⟩⟩ }
  have M := hs.embP 1 hL
  rcases evF_some hr with hx | ⟨c, rs, ou, e, l, hp, hlen, hev, hne, hres, hv⟩
  · rw [hf] at hx; cases hx
  · refine (body_calls (args' := #[]) (evF_sound hX hm d) (evF_pres hX.pres d) hm M LRel.nil hp hlen hev hne hres).2 _ fun φ' v' w' r1 r2 r3 => ?_
    rw [← hv] at r1
    refine ⟨by rw [plainC_inv r1 rfl], r3.below.os, r3.below.tape, r3.below.output, r3.below.size, fun k hk => r3.frame k hk fun i e hi hb => ?_⟩
    have := (List.getElem?_eq_some_iff.1 (seenPhi_some hi)).1
    simp only [List.length_singleton] at this
    omega

/-! ### Copying into the middle of an object -/
section
variable {P : Program} {X : Caller} {Q : Out → Env → GH → Nat → Prop} {gd : Option (P3 × Bool)} {dd : Option P3} {l : List PI} {k : Nat} {sp : List (Nat × (Nat × Nat))} {wr : List Nat} {ks : List Fr} {e : Env} {g : GH} {lo : Nat}
theorem GR.cpyO {x y : PO} {j off c n : Nat} {cells new : List Value} {t : TypeId} {sv : Value} (hg : wantF e gd = some true) (hx : ev e x = .slice (some ⟨j, off, none⟩) n c) (hy : ev e y = sv) (hnew : SlR g sv new) (hj : g.get j = cellsOb cells t) (hn : off + n ≤ cells.length)
    (hlt : j < g.next) (hc : new.all cellV = true) (hle : new.length ≤ n) (ho : g.ok) (hne : new ≠ [])
    (h : ∀ g' lo' sp wr, Wrote g g' j (cellsOb (splice off cells new) t) → min lo j ≤ lo' → GR P X Q l (Nat.succ k) sp wr ks (putE e dd (.int .i64 new.length)) g' lo') :
    GR P X Q (⟨gd, dd, none, some (.cpy 1 x y), []⟩ :: l) k sp wr ks e g lo := by
  have hlen : lenF sv = some new.length := by
    rcases hnew with ⟨rfl, rfl⟩ | ⟨j, off, cap, ob, rfl, _⟩ <;> rfl
  have hstr : strOk 1 sv = true := by
    rcases hnew with ⟨rfl, rfl⟩ | ⟨j, off, cap, ob, rfl, _⟩ <;> rfl
  have hmin : Nat.min new.length n = new.length := Nat.min_eq_left hle
  have hfirst : ∀ lo, firstF (g.at lo) 1 new.length sv = some new := by
    intro lo
    rcases hnew with ⟨rfl, rfl⟩ | ⟨j, off, cap, ob, rfl, h2, h3, h4, h5, h6⟩
    · rfl
    · simp only [firstF, Nat.mul_one]
      have := SlR.readN (cap := cap) (lo := lo) h3 h4 h5 h6 (i := 0) (n := new.length) (by omega)
      rw [Nat.add_zero, List.drop_zero, List.take_length] at this
      exact this
  have h0 : new.length ≠ 0 := by intro h0; exact hne (List.eq_nil_of_length_eq_zero h0)
  have hz : Nat.beq new.length 0 = false := by rw [beq_d, decide_eq_false h0]
  have hw : writeF (g.at g.next) ⟨j, off, none⟩ new = some ((g.set j (cellsOb (splice off cells new) t)).at j) := by
    unfold writeF
    rw [show (g.at g.next).get j = cellsOb cells t from hj]
    unfold cellsOb
    simp only [lenN_length]
    rw [show Nat.ble (off + new.length) cells.length = true by rw [ble_d, decide_eq_true (by omega)], show Nat.blt j (g.at g.next).next = true from Nat.blt_eq ▸ hlt]
    simp only [Bool.and_self, cond_true, cond_false]
    have hb : Nat.blt j g.next = true := Nat.blt_eq ▸ hlt
    simp only [AH.set, GH.at, GH.set, hb, cond_true]
  refine GR.wrote (lo' := j) (v := .int .i64 new.length) (g' := g.set j (cellsOb (splice off cells new) t)) hg (Hp.mk (bnd 0) fun call => ?_) rfl (Nat.le_refl _) (h _ _ _ _ (Wrote.set hj Nat.one_ne_zero ho) (Nat.le_refl _))
  simp only [runH, hx, hy, hstr, cond_true, cpyF, hlen, hmin, hfirst, hz, hc, Bool.not_true, cond_false, hw]
  rfl
theorem Wk.cpyO {x y : PO} {j off c n : Nat} {cells new : List Value} {t : TypeId} {sv : Value} (hx : ev e x = .slice (some ⟨j, off, none⟩) n c) (hy : ev e y = sv) (hnew : SlR g sv new) (hj : g.get j = cellsOb cells t) (hn : off + n ≤ cells.length)
    (hlt : j < g.next) (hc : new.all cellV = true) (hle : new.length ≤ n) (ho : g.ok) (hne : new ≠ [])
    (h : ∀ g' lo' sp wr, Wrote g g' j (cellsOb (splice off cells new) t) → min lo j ≤ lo' → Wk P X Q (.R l (k + 1) sp wr ks (putE e dd (.int .i64 new.length)) g' lo')) :
    Wk P X Q (.R (⟨none, dd, none, some (.cpy 1 x y), []⟩ :: l) k sp wr ks e g lo) := by
  rw [Wk.of_GR fun n => rfl]
  exact GR.cpyO rfl hx hy hnew hj hn hlt hc hle ho hne fun g' lo' sp wr h1 h2 => (h g' lo' sp wr h1 h2).R
end
/-! ### What is hidden beside an operation -/
theorem Kept.hide {a g : GH} {L : List (Nat × Nat)} (h : Kept a g) (hL : ∀ x ∈ L, a.next ≤ x.1) : Kept a (g.hide (L ++ g.hid)) := by
  refine ⟨h.next, fun j hj => ?_, h.fams⟩
  rw [← h.gets j hj]
  have h1 : inSpans L j = false := by
    clear h
    induction L with
    | nil => rfl
    | cons x L ih =>
      obtain ⟨lo, hi⟩ := x
      have := hL (lo, hi) List.mem_cons_self
      simp only at this
      have hb : Nat.ble lo j = false := by rw [ble_d, decide_eq_false (by omega)]
      simp only [inSpans, hb, Bool.false_and, cond_false]
      exact ih fun x hx => hL x (List.mem_cons_of_mem _ hx)
  have h2 : ∀ M : List (Nat × Nat), inSpans (L ++ M) j = inSpans M j := by
    intro M
    clear hL h
    induction L with
    | nil => rfl
    | cons x L ih =>
      obtain ⟨lo, hi⟩ := x
      simp only [inSpans] at h1
      simp only [List.cons_append, inSpans]
      cases hb : (Nat.ble lo j && Nat.blt j hi) with
      | true => rw [hb] at h1; cases h1
      | false => rw [hb] at h1; exact ih h1
  unfold GH.get
  rw [@AH.get_eq ⟨⟨0⟩⟩, @AH.get_eq ⟨⟨0⟩⟩]
  show (bif inSpans (L ++ g.hid) j then dead else _) = (bif inSpans g.hid j then dead else _)
  rw [h2]; rfl
theorem Kept.setV {a b : GH} (h : Kept a b) {j : Nat} (hv : inSpans b.hid j = false) (hb : a.next ≤ j) (o : Ob) : Kept a (b.set j o) :=
  ⟨h.next, fun i hi => by rw [GH.get_set j hv, if_neg (by omega)]; exact h.gets i hi, h.fams⟩
section
variable {P : Program} {X : Caller} {Q : Out → Env → GH → Nat → Prop} {dd : Option P3} {l : List PI} {k : Nat} {sp : List (Nat × (Nat × Nat))} {wr : List Nat} {ks : List Fr} {e : Env} {g : GH} {lo : Nat}
/-- A name for the heap. -/
theorem CallD.name {f : FuncId} {args : List Value} {hide : List Nat} (h : ∀ G, G = g → CallD P X Q f args hide dd l k sp wr ks e G lo) : CallD P X Q f args hide dd l k sp wr ks e g lo := h g rfl
end
/-! ### Reading what was made and written -/
theorem GH.push_hid {g : GH} {o : Ob} : (g.push o).hid = g.hid := rfl
theorem GH.set_hid {g : GH} {i : Nat} {o : Ob} : (g.set i o).hid = g.hid := rfl
theorem GH.pn (g : GH) (o : Ob) : (g.push o).next = g.next + 1 := Eq.trans rfl rfl
theorem GH.sn (g : GH) (i : Nat) (o : Ob) : (g.set i o).next = g.next := Eq.trans rfl rfl
theorem GH.vis {g : GH} (h : g.ok) {i : Nat} (hi : g.next ≤ i) : inSpans g.hid i = false := h i hi
theorem GH.gp_eq {g : GH} {o : Ob} {j : Nat} (h : g.ok) (hj : j = g.next) : (g.push o).get j = o := by rw [GH.get_push h, if_pos hj.symm]
theorem GH.gp_ne {g : GH} {o : Ob} {j : Nat} (h : g.ok) (hj : j ≠ g.next) : (g.push o).get j = g.get j := by rw [GH.get_push h, if_neg fun e => hj e.symm]
theorem GH.gs_eq {g : GH} {o : Ob} {i j : Nat} (h : inSpans g.hid i = false) (hj : j = i) : (g.set i o).get j = o := by rw [GH.get_set i h, if_pos hj.symm]
theorem GH.gs_ne {g : GH} {o : Ob} {i j : Nat} (h : inSpans g.hid i = false) (hj : j ≠ i) : (g.set i o).get j = g.get j := by rw [GH.get_set i h, if_neg fun e => hj e.symm]
end Go.Ds
