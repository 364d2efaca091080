import Derived.Test.YtngmaccaldhjcaaDoorDsM
import Derived.MapKept
set_option linter.all false
set_option linter.unusedSimpArgs false
set_option linter.unnecessarySimpa false
set_option linter.unusedVariables false
set_option linter.unusedSectionVars false
set_option linter.unusedSectionVars false
set_option linter.unusedVariables false
namespace Go.Ds
variable [Inhabited Bound]

/-- One object, of which there is no second row, is another one now. -/
theorem emb_replace {φ : Phi} {h : AH} {B : Nat} {w w' : World} (E : Emb φ h B w) {i : Nat} (hi : i < h.next) {e : FE} (he : φ i = some e) (hk : (h.get i).kind ≠ 0) (hs : (h.get i).slack = false)
    (o' : Ob) (hs' : o'.slack = false) (hr : ObRel φ o' e w') (hsame : ∀ k, k ≠ e.blk → w'.heap[k]? = w.heap[k]?) (hsz : w'.heap.size = w.heap.size) (hos : w'.os = w.os) (htp : w'.tape = w.tape) (hout : w'.output = w.output) :
    Emb φ (h.set i o') B w' ∧ Ext B φ h w φ (h.set i o') w' := by
  have hi' : i < LIM := Nat.lt_of_lt_of_le hi E.lim
  have hb := E.base i e he
  have getj : ∀ j, j < LIM → j ≠ i → (h.set i o').get j = h.get j := by
    intro j hj hne
    rw [AH.get_set _ _ _ _ hi' hj, AH.get_eq, if_neg (fun x => hne x.symm)]
  have geti : ((h.set i o').get i).kind ≠ 0 → (h.set i o').get i = o' := by
    rw [AH.get_set _ _ _ _ hi' hi', if_pos rfl]
    cases inSpans h.hid i with
    | true => intro h; exact absurd rfl h
    | false => intro _; rfl
  have alone : ∀ j ej, j ≠ i → φ j = some ej → (h.get j).kind ≠ 0 → ej.blk ≠ e.blk := by
    intro j ej hne hj hkj hbb
    have := (E.apart i j e ej he hj hk hkj (fun x => hne x.symm) hbb.symm).1
    rw [hs] at this; cases this
  refine ⟨⟨E.dom, fun j ej hj => by rw [hsz]; exact E.base j ej hj, ?_, ?_, ?_, E.lim, by rw [hsz]; exact E.size⟩, ⟨Phi.le_refl φ, fun _ _ => rfl, Nat.le_refl _, rfl, (low_set i h.low).1, ?_, ?_, fun j ej a b => (by rw [a] at b; cases b), ⟨hos, htp, hout, by rw [hsz]; exact Nat.le_refl _, fun k hk => hsame k (by omega)⟩⟩⟩
  · intro j hj hkj
    by_cases cj : j = i
    · subst cj
      rw [geti hkj]
      exact ⟨e, he, hr⟩
    · have hj' : j < LIM := Nat.lt_of_lt_of_le hj E.lim
      rw [getj j hj' cj] at hkj ⊢
      obtain ⟨ej, hej, hrj⟩ := E.obj j hj hkj
      exact ⟨ej, hej, hrj.world (hsame _ (alone j ej cj hej hkj))⟩
  · intro j l ej el hj hl hkj hkl hne hbb
    have lj := Nat.lt_of_lt_of_le (E.dom j ej hj) E.lim
    have ll := Nat.lt_of_lt_of_le (E.dom l el hl) E.lim
    by_cases cj : j = i
    · have cl : l ≠ i := fun x => hne (cj.trans x.symm)
      subst cj
      rw [he] at hj
      cases hj
      rw [getj l ll cl] at hkl
      exact absurd hbb.symm (alone l el cl hl hkl)
    · rw [getj j lj cj] at hkj ⊢
      by_cases cl : l = i
      · subst cl
        rw [he] at hl
        cases hl
        exact absurd hbb (alone j ej cj hj hkj)
      · rw [getj l ll cl] at hkl ⊢
        exact E.apart j l ej el hj hl hkj hkl hne hbb
  · intro j hj hkj hsj
    by_cases cj : j = i
    · subst cj
      rw [geti hkj, hs'] at hsj; cases hsj
    · rw [getj j (Nat.lt_of_lt_of_le hj E.lim) cj] at hkj hsj ⊢
      exact E.fam j hj hkj hsj
  · intro j hj hlo
    have hlo' : j < (bif Nat.blt i h.low then i else h.low) := hlo
    have := low_set i h.low
    show T5.get (T5.set h.tr i o') j = _
    rw [T5.get_set _ _ _ _ hi' (Nat.lt_of_lt_of_le hj E.lim), if_neg (by omega)]
  · intro k _ hcond
    refine hsame k (fun x => ?_)
    have h1 : i < (bif Nat.blt i h.low then i else h.low) := hcond i e he x.symm
    have := low_set i h.low
    omega

/-! ## copy -/
theorem cpyF_gives {P : Program} {B : Nat} {φ : Phi} {h h' : AH} {w : World} (E : Emb φ h B w) {d s d' s' v : Value} (hd : VRel φ d d') (hs : VRel φ s s') {sz : Nat} {T e ty : TypeId} {ts : Array TypeId} (h0 : ts[0]? = some T) (ht : P.underlying T = some (.slice e)) {i : TypeInfo} (hi : P.info? e = some i) (hsz : i.size = sz)
    (hstr : ∀ t, s = .string t → sz = 1) (hc : cpyF sz h d s = some (v, h')) : HGives P B φ h w (Builtin.copy_ ts ty #[d', s']) v h' := by
  unfold cpyF at hc
  split at hc
  · rename_i base dLen dCap
    split at hc
    · rename_i n hn
      split at hc
      · rename_i new hf
        have hlen : ∀ {m}, lenF s = some m → Builtin.lenOf s' = (pure m : Sem Nat) := by
          intro m hm
          unfold lenF at hm
          split at hm
          · simp only [Option.some.injEq] at hm
            subst hm
            cases hs <;> rfl
          · simp only [Option.some.injEq] at hm
            subst hm
            cases hs; rfl
          · cases hm
        cases hz : Nat.beq (Nat.min n dLen) 0 with
        | true =>
          have hz' := beq_eq hz
          have hv : v = .int .i64 (.ofNat 0) ∧ h' = h := by
            split at hc
            · rw [hz] at hc
              simp only [cond_true, Option.some.injEq, Prod.mk.injEq] at hc
              exact ⟨hc.1.symm, hc.2.symm⟩
            · rw [hz'] at hc
              simp only [Option.some.injEq, Prod.mk.injEq] at hc
              exact ⟨hc.1.symm, hc.2.symm⟩
          obtain ⟨rfl, rfl⟩ := hv
          have hread : (Builtin.firstCells sz 0 s').run P w = .ok #[] w := by
            have hl0 : ∀ a, (loadCells a (0 * sz)).run P w = .ok #[] w := fun a => by simp [loadCells, loadCellsFrom]
            unfold lenF at hn
            split at hn
            · cases hs <;> first | rfl | exact hl0 _
            · cases hs
              simp [Builtin.firstCells, ByteArray.extract, ByteArray.copySlice]
            · cases hn
          have key : ∀ b c, d' = .slice b dLen c → (Builtin.copy_ ts ty #[d', s']).run P w = .ok (.int .i64 0) w := by
            intro b c hd'
            subst hd'
            simp only [Builtin.copy_, Sem.run_bind, List.getElem?_toArray, List.getElem?_cons_zero, List.getElem?_cons_succ, h0, run_underlying ht, Result.andThen_ok, hlen hn, Sem.run_pure, run_sizeOf' hi, hsz, hz', hread]
            cases b <;> simp [storeCells, goInt]
          refine ⟨φ, .int .i64 0, w, ?_, .int _ _, E, Ext.refl B φ h' w⟩
          cases hd with
          | snil => exact key _ _ rfl
          | sdead a a' => exact key _ _ rfl
          | slc a fe off l c he hc hl => exact key _ _ rfl
          | sopen a fe off off' l c sz' he hl hr => exact key _ _ rfl
        | false =>
          have hmin := beq_ne hz
          have hmn : Nat.min n dLen ≤ n := Nat.min_le_left _ _
          have hmd : Nat.min n dLen ≤ dLen := Nat.min_le_right _ _
          -- read
          have hread : ∃ new' : Array Value, LRel φ new new'.toList ∧ (Builtin.firstCells sz (Nat.min n dLen) s').run P w = .ok new' w := by
            generalize hm : Nat.min n dLen = m at *
            unfold firstF at hf
            split at hf
            · rename_i a l c
              simp only [lenF, Option.some.injEq] at hn
              have key : ∀ (b off : Nat) (e : FE) (c' : Nat), a = ⟨b, off, none⟩ → φ b = some e → s' = .slice (some ⟨e.blk, off, none⟩) l c' → ∃ new' : Array Value, LRel φ new new'.toList ∧ (Builtin.firstCells sz m s').run P w = .ok new' w := by
                intro b off e c' ha he hx'
                subst ha; subst hx'
                obtain ⟨l', h1, h2, h3⟩ := readN_rel E he hf
                refine ⟨l'.toArray, by simpa using h1, ?_⟩
                have := run_loadCells_list (P := P) w ⟨e.blk, off, none⟩ l' (fun j v hj => by rw [add_none]; exact h3 j v hj)
                have hl : l'.length = m * sz := by rw [← h1.1]; exact h2
                rw [hl] at this
                exact this
              cases hs with
              | sdead a a' => omega
              | slc b e off _ _ he hc hl => exact key b off e c rfl he rfl
              | sopen b e off off' _ c' sz' he hl hr =>
                rcases hr with ⟨h0, _⟩ | ⟨h0, _⟩
                · omega
                · subst h0; exact key b _ e c' rfl he rfl
            · simp only [lenF, Option.some.injEq] at hn
              cases hs
              omega
            · rename_i str
              cases hs
              simp only [lenF, Option.some.injEq] at hn
              obtain ⟨g1, g2⟩ := takeN_eq hf
              refine ⟨(str.extract 0 m).data.map fun b => .int .u8 b.toNat, ?_, by simp [Builtin.firstCells]⟩
              have e1 : ((str.extract 0 m).data.map fun b => Value.int .u8 b.toNat).toList = new := by
                rw [g1, byte_string]
                simp [ByteArray.extract, ByteArray.copySlice]
              rw [e1, g1]
              have : ∀ l : List UInt8, LRel φ (l.map byteV) (l.map byteV) := by
                intro l
                induction l with
                | nil => exact LRel.nil
                | cons b l ih => exact LRel.cons (.int _ _) ih
              exact (this _).take _
            · cases hf
          obtain ⟨new', hnew, hrd⟩ := hread
          split at hc
          · rename_i a
            rw [hz] at hc
            simp only [cond_false] at hc
            have hc0 := bind_if hc
            clear hc
            obtain ⟨hcv, hc⟩ := hc0
            simp only [Bool.not_eq_false'] at hcv
            split at hc
            · rename_i h2 hw
              simp only [Option.some.injEq, Prod.mk.injEq] at hc
              obtain ⟨rfl, rfl⟩ := hc
              have key : ∀ (b off : Nat) (fe : FE) (c : Nat), a = ⟨b, off, none⟩ → φ b = some fe → d' = .slice (some ⟨fe.blk, off, none⟩) dLen c → HGives P B φ h w (Builtin.copy_ ts ty #[d', s']) (.int .i64 (.ofNat (Nat.min n dLen))) h2 := by
                intro b off fe c ha he hd'
                subst ha; subst hd'
                obtain ⟨g1, g2, g3⟩ := writeF_gives (P := P) E he hnew (oneCells_rel hnew hcv) hw
                refine ⟨φ, .int .i64 (.ofNat (Nat.min n dLen)), _, ?_, .int _ _, g2, g3⟩
                simp only [Builtin.copy_, Sem.run_bind, List.getElem?_toArray, List.getElem?_cons_zero, List.getElem?_cons_succ, h0, run_underlying ht, Result.andThen_ok, hlen hn, Sem.run_pure, run_sizeOf' hi, hsz, hrd, g1]
                rfl
              cases hd with
              | sdead a a' => omega
              | slc b e off _ _ he hc hl => exact key b off e _ rfl he rfl
              | sopen b e off off' _ c' sz' he hl hr =>
                rcases hr with ⟨h0, _⟩ | ⟨h0, _⟩
                · omega
                · subst h0; exact key b _ e c' rfl he rfl
            · cases hc
          · cases hd
            omega
      · cases hc
    · cases hc
  · cases hc

/-! ## clear -/
theorem bif_somee {α : Type} {c : Bool} {x : Option α} {y : α} (h : (bif c then x else none) = some y) : c = true ∧ x = some y := by
  cases c with
  | true => exact ⟨rfl, h⟩
  | false => cases h

theorem clrF_gives {P : Program} {B : Nat} {φ : Phi} {h h' : AH} {w : World} (E : Emb φ h B w) {s s' : Value} (hs : VRel φ s s') {sz bytes : Nat} {z : Array Value} {T e ty : TypeId} {ts : Array TypeId} (h0 : ts[0]? = some T) (ht : P.underlying T = some (.slice e))
    (hz : zeroOf P e = some (sz, bytes, z)) (hc : clrF z.toList h s = some h') : HGives P B φ h w (Builtin.clear_ ts ty #[s']) undef h' := by
  obtain ⟨i, zv, hi, hzv, h1, h2, h3, h4, h5, h6⟩ := zeroOf_some hz
  unfold clrF at hc
  split at hc
  · rename_i base n c
    cases hn : Nat.beq n 0 with
    | true =>
      rw [hn] at hc
      simp only [cond_true, Option.some.injEq] at hc
      subst hc
      have hn0 := beq_eq hn
      subst hn0
      refine ⟨φ, undef, w, ?_, VRel.undef, E, Ext.refl B φ h w⟩
      have key : ∀ b c', s' = .slice b 0 c' → (Builtin.clear_ ts ty #[s']).run P w = .ok undef w := by
        intro b c' hs'
        subst hs'
        cases b <;> simp [Builtin.clear_, h0, run_underlying ht, undef]
      cases hs with
      | snil => exact key _ _ rfl
      | sdead a a' => exact key _ _ rfl
      | slc a fe off l c he hc hl => exact key _ _ rfl
      | sopen a fe off off' l c sz' he hl hr => exact key _ _ rfl
    | false =>
      rw [hn] at hc
      simp only [cond_false] at hc
      have hn0 := beq_ne hn
      split at hc
      · rename_i a
        obtain ⟨hcv, hc⟩ := bif_somee hc
        have hrep := repeatN_rel (h6 φ) n
        have key : ∀ (b off : Nat) (fe : FE) (c' : Nat), a = ⟨b, off, none⟩ → φ b = some fe → s' = .slice (some ⟨fe.blk, off, none⟩) n c' → HGives P B φ h w (Builtin.clear_ ts ty #[s']) undef h' := by
          intro b off fe c' ha he hs'
          subst ha; subst hs'
          obtain ⟨g1, g2, g3⟩ := writeF_gives (P := P) E he hrep (oneCells_rel hrep hcv) hc
          refine ⟨φ, undef, _, ?_, VRel.undef, g2, g3⟩
          have hzc : (Builtin.zeroCells zv.cells n).toList = repeatN z.toList n := by
            unfold Builtin.zeroCells
            rw [h3, range_repeat z (by omega) n]
          obtain ⟨m, rfl⟩ : ∃ m, n = m + 1 := ⟨n - 1, by omega⟩
          simp only [Builtin.clear_, Sem.run_bind, List.getElem?_toArray, List.getElem?_cons_zero, h0, run_underlying ht, Result.andThen_ok, run_zeroValue hi hzv, hzc, g1, Sem.run_pure]
          rfl
        cases hs with
        | sdead a a' => omega
        | slc b e off _ _ he hc hl => exact key b off e _ rfl he rfl
        | sopen b e off off' _ c' sz' he hl hr =>
          rcases hr with ⟨h0, _⟩ | ⟨h0, _⟩
          · omega
          · subst h0; exact key b _ e c' rfl he rfl
      · cases hs
        omega
  · cases hc

/-! ## A slice beyond the length -/
theorem slcHF_gives {P : Program} {B : Nat} {φ : Phi} {h : AH} {w : World} (E : Emb φ h B w) {sz : Nat} {x x' v : Value} {lo hi lo' hi' : Option Value} (hx : VRel φ x x') (hl : ORel φ lo lo') (hh : ORel φ hi hi') (hr : slcHF sz h x lo hi = some v) {t e : TypeId} {i : TypeInfo}
    (ht : P.underlying t = some (.slice e)) (hinf : P.info? e = some i) (hsz : i.size = sz) (hpos : 0 < sz) :
    ∃ v', VRel φ v v' ∧ Gives P (Instr.sliceAt t x' lo' hi' none) v' := by
  unfold slcHF at hr
  split at hr
  · rename_i a len cap
    split at hr
    · rename_i l m e1 e2
      cases hb : (Nat.beq cap (OPEN + sz) && Nat.blt len m && (Nat.blt 0 len || Nat.beq a.off 0)) with
      | false =>
        rw [hb] at hr
        exact slcLF_gives hx hl hh hr ht hinf hsz hpos
      | true =>
        rw [hb] at hr
        simp only [cond_true] at hr
        simp only [Bool.and_eq_true, Bool.or_eq_true] at hb
        have hcap := beq_eq hb.1.1
        have hlm := blt_lt hb.1.2
        split at hr
        · rename_i cells t1 fam sl es cc ss pp hob
          have hr0 := bif_somee hr
          clear hr
          obtain ⟨hg, hr⟩ := hr0
          simp only [Bool.and_eq_true] at hg
          have g1 := blt_lt hg.1.1
          have h1 := ble_le hg.1.2
          have g3 := ble_le hg.2
          rw [lenN_eq] at g3
          simp only [Option.some.injEq] at hr
          subst hr
          subst hcap
          generalize hcapv : OPEN + sz = capv at hx
          cases hx with
          | sdead a a' => omega
          | slc a e off l c hφ hc hl' => omega
          | sopen a e off off' _ c sz' hφ hlc hr =>
            have : sz' = sz := by omega
            subst this
            have hoff : off' = off ∧ off + c * sz' = e.room := by
              rcases hr with ⟨q1, q2⟩ | q
              · exfalso
                subst q1
                rcases hb.2 with c1 | c1
                · have := blt_lt c1; omega
                · have := beq_eq c1; dsimp only at this; omega
              · exact q
            obtain ⟨rfl, hroom⟩ := hoff
            have hk : (h.get a).kind ≠ 0 := by dsimp only at hob; rw [hob]; exact Nat.one_ne_zero
            obtain ⟨fe, he2, hrel⟩ := E.obj a g1 hk
            have : fe = e := by rw [hφ] at he2; exact (Option.some.inj he2).symm
            subst this
            dsimp only at hob g3
            rw [hob] at hrel
            have hmc : m ≤ c := by
              rcases hrel with ⟨_, ⟨cs, fr, q1, q2, q3, q4, q5⟩, _⟩ | ⟨x, _⟩ | ⟨x, _⟩ | ⟨x, _⟩
              · dsimp only at q4
                have : m * sz' ≤ c * sz' := by omega
                exact Nat.le_of_mul_le_mul_right this hpos
              · cases x
              · cases x
              · cases x
            have hbd := fun w => run_sliceBounds (P := P) (w := w) true len c lo' hi' l m (lowF_rel hl e1) (highF_rel hh e2) h1 hmc
            have hrun : ∀ w, (Instr.sliceAt t (.slice (some ⟨fe.blk, off', none⟩) len c) lo' hi' none).run P w = .ok (.slice (if c = l then some ⟨fe.blk, off', none⟩ else some ⟨fe.blk, off' + l * sz', none⟩) (m - l) (c - l)) w := by
              intro w
              simp only [Instr.sliceAt, Instr.slice, Sem.run_bind, run_underlying ht, Result.andThen_ok, hbd, run_sizeOf' hinf, hsz, Sem.run_pure]
              simp [add_none]
            rw [add_none]
            by_cases hcl : c = l
            · refine ⟨.slice (some ⟨fe.blk, off', none⟩) (m - l) (c - l), ?_, fun w => by rw [hrun w, if_pos hcl]⟩
              rw [← hcapv]
              refine .sopen a fe _ off' _ _ sz' hφ (by omega) ?_
              have hm0 : 0 < l := by omega
              have := Nat.mul_pos hm0 hpos
              left; exact ⟨by omega, by omega⟩
            · refine ⟨.slice (some ⟨fe.blk, off' + l * sz', none⟩) (m - l) (c - l), ?_, fun w => by rw [hrun w, if_neg hcl]⟩
              rw [← hcapv]
              refine .sopen a fe _ _ _ _ sz' hφ (by omega) ?_
              right
              refine ⟨rfl, ?_⟩
              have : l * sz' + (c - l) * sz' = c * sz' := by rw [← Nat.add_mul]; congr 1; omega
              omega
        · cases hr
    · cases hr
  · exact slcLF_gives hx hl hh hr ht hinf hsz hpos

/-! ## Strings -/
theorem textGo_run {P : Program} {w : World} : ∀ (l : List Value) (s r : ByteArray), textGo l s = some r →
    (forIn l s fun c s => match c with
      | .int .u8 n => pure (ForInStep.yield (s.push (UInt8.ofNat n.toNat)))
      | _ => do
        (stuck "bytesToString: byte expected" : Sem PUnit)
        pure (ForInStep.yield s) : Sem ByteArray).run P w = .ok r w
  | [], s, r, h => by simp only [textGo, Option.some.injEq] at h; subst h; simp
  | v :: l, s, r, h => by
    simp only [textGo] at h
    split at h
    · simp only [List.forIn_cons, Sem.run_bind, Sem.run_pure, Result.andThen_ok]
      exact textGo_run l _ r h
    · cases h
theorem textGo_rel {φ : Phi} : ∀ {l l' : List Value} {s r : ByteArray}, LRel φ l l' → textGo l s = some r → textGo l' s = some r
  | [], l', s, r, h, e => by rw [h.nil_inv]; exact e
  | v :: l, l', s, r, h, e => by
    obtain ⟨v', l'', rfl, hv, hl⟩ := h.cons_inv
    simp only [textGo] at e
    split at e
    · cases hv
      simp only [textGo]
      exact textGo_rel hl e
    · cases e
theorem readN_len {h : AH} {a : Addr} {n : Nat} {l : List Value} (hr : readN h a n = some l) : l.length = n := by
  have key : ∀ (n : Nat) (m : List Value) (l : List Value), takeN n m = some l → l.length = n := by
    intro n m l h
    obtain ⟨h1, h2⟩ := takeN_eq h
    rw [h1, List.length_take]; omega
  unfold readN at hr
  split at hr
  · exact key _ _ _ hr
  · unfold known at hr
    split at hr
    · rename_i l' e
      cases hb : l'.any isJ with
      | true => rw [hb] at hr; cases hr
      | false =>
        rw [hb] at hr
        simp only [cond_false, Option.some.injEq] at hr
        subst hr
        exact key _ _ _ e
    · cases hr
  · cases hr
theorem textF_gives {P : Program} {B : Nat} {φ : Phi} {h : AH} {w : World} (E : Emb φ h B w) {x x' v : Value} (hx : VRel φ x x') (ht : textF h x = some v) : ∃ v', VRel φ v v' ∧ (Conv.bytesToString x').run P w = .ok v' w := by
  unfold textF at ht
  split at ht
  · simp only [Option.some.injEq] at ht
    subst ht
    cases hx
    exact ⟨_, .str _, by simp [Conv.bytesToString]⟩
  · rename_i a n c
    split at ht
    · rename_i l hl
      simp only [Option.map_eq_some_iff] at ht
      obtain ⟨r, hr, rfl⟩ := ht
      have key : ∀ (off' : Nat) (fe : FE) (c' : Nat) (l' : List Value), LRel φ l l' → l'.length = n → (loadCells ⟨fe.blk, off', none⟩ n).run P w = .ok l'.toArray w → x' = .slice (some ⟨fe.blk, off', none⟩) n c' →
          ∃ v', VRel φ (.string r) v' ∧ (Conv.bytesToString x').run P w = .ok v' w := by
        intro off' fe c' l' h1 h2 h3 hx'
        subst hx'
        refine ⟨_, .str r, ?_⟩
        have := textGo_run (P := P) (w := w) l' .empty r (textGo_rel h1 hr)
        simp only [Conv.bytesToString, Sem.run_bind, h3, Result.andThen_ok]
        rw [← Array.forIn_toList]
        exact congrArg (fun r => Result.andThen r fun a w' => Sem.run P (pure (Value.string a)) w') this
      cases hx with
      | sdead a a' =>
        have hl0 : l = [] := List.eq_nil_of_length_eq_zero (readN_len hl)
        subst hl0
        simp only [textGo, Option.some.injEq] at hr
        subst hr
        exact ⟨_, .str _, by simp [Conv.bytesToString, loadCells, loadCellsFrom]⟩
      | slc b fe off _ _ he hc hle =>
        obtain ⟨l', h1, h2, h3⟩ := readN_rel E he hl
        have hl' : l'.length = n := by rw [← h1.1]; exact h2
        have := run_loadCells_list (P := P) w ⟨fe.blk, off, none⟩ l' (fun j v hj => by rw [add_none]; exact h3 j v hj)
        rw [hl'] at this
        exact key off fe c l' h1 hl' this rfl
      | sopen b fe off off' _ c' sz' he hle hr =>
        obtain ⟨l', h1, h2, h3⟩ := readN_rel E he hl
        have hl' : l'.length = n := by rw [← h1.1]; exact h2
        rcases hr with ⟨h0, _⟩ | ⟨h0, _⟩
        · subst h0
          have : l' = [] := List.eq_nil_of_length_eq_zero hl'
          subst this
          exact key off' fe c' [] h1 rfl (by simp [loadCells, loadCellsFrom]) rfl
        · subst h0
          have := run_loadCells_list (P := P) w ⟨fe.blk, off', none⟩ l' (fun j v hj => by rw [add_none]; exact h3 j v hj)
          rw [hl'] at this
          exact key off' fe c' l' h1 hl' this rfl
    · cases ht
  · cases ht
end Go.Ds
