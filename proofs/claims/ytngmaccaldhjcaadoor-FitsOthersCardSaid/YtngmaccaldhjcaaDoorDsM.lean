import Derived.Test.YtngmaccaldhjcaaDoorDsL
set_option linter.all false
set_option linter.unusedSimpArgs false
set_option linter.unnecessarySimpa false
set_option linter.unusedVariables false
set_option linter.unusedSectionVars false
set_option linter.unusedSectionVars false
set_option linter.unusedVariables false
namespace Go.Ds
variable [Inhabited Bound]

section
variable {P : Program} {B : Nat} {φ : Phi} {h : AH} {w : World} {T0 T1 e ty : TypeId} {d1 : TypeDesc} {sz bytes : Nat} {z : Array Value}

theorem appF_gives (E : Emb φ h B w) (ht : P.underlying T0 = some (.slice e)) (ht1 : P.underlying T1 = some d1) (hd : ∀ k, d1 ≠ .int k) (hz : zeroOf P e = some (sz, bytes, z)) {s x s' x' v : Value} (hs : VRel φ s s') (hx : VRel φ x x')
    (hstr : ∀ t, x = .string t → sz = 1) {h' : AH} (ha : appF e sz bytes h s x = some (v, h')) : HGives P B φ h w (Builtin.append_ #[T0, T1] ty #[s', x']) v h' := by
  obtain ⟨i, zv, hi, hzv, h1, h2, h3, h4, h5, h6⟩ := zeroOf_some hz
  unfold appF at ha
  split at ha
  · rename_i base sLen sCap
    split at ha
    · cases ha
    · rename_i n hn
      have ha0 := bind_if ha
      clear ha
      obtain ⟨hbd0, ha⟩ := ha0
      have hbd : (sLen + n) * (bytes + 1) ≤ 1073741824 := by
        refine Nat.le_of_not_lt fun hlt => ?_
        rw [← Nat.blt_eq] at hlt
        rw [show Nat.succ bytes = bytes + 1 from rfl] at hbd0
        rw [hlt] at hbd0; cases hbd0
      cases hq : Nat.beq n 0 with
      | true =>
        rw [hq] at ha
        simp only [cond_true, Option.some.injEq, Prod.mk.injEq] at ha
        obtain ⟨rfl, rfl⟩ := ha
        have hn0 := beq_eq hq
        subst hn0
        -- nothing is appended
        have hx0 : Source P w sz 0 x' #[] := by
          refine ⟨?_, fun w1 _ => ?_, by simp⟩
          · unfold lenF at hn
            split at hn
            · rename_i a l c
              simp only [Option.some.injEq] at hn
              subst hn
              generalize hl0 : (0 : Nat) = l0 at hx
              cases hx <;> first | rfl | (subst hl0; rfl)
            · rename_i t
              cases hx
              simp only [Option.some.injEq] at hn
              simp [Builtin.lenOf, hn]
            · cases hn
          · unfold lenF at hn
            split at hn
            · rename_i a l c
              simp only [Option.some.injEq] at hn
              subst hn
              have hl0 : ∀ a, (loadCells a (0 * sz)).run P w1 = .ok #[] w1 := fun a => by simp [loadCells, loadCellsFrom]
              generalize hl1 : (0 : Nat) = l0 at hx
              cases hx <;> first | rfl | exact hl0 _ | (subst hl1; exact hl0 _)
            · rename_i t
              cases hx
              simp [Builtin.firstCells, ByteArray.extract, ByteArray.copySlice]
            · cases hn
        have key : ∀ b l c, s' = .slice b l c → l ≤ c → (Builtin.append_ #[T0, T1] ty #[s', x']).run P w = .ok s' w := by
          intro b l c hs' hle
          subst hs'
          cases b with
          | some a =>
            obtain ⟨bb, oo, sp⟩ := a
            have hz' : (match d1 with | .int _ => true | _ => false) = false := by cases d1 <;> first | rfl | exact absurd rfl (hd _)
            have hr := hx0.read w rfl
            simp only [Builtin.append_, Sem.run_bind, List.getElem?_toArray, List.getElem?_cons_zero, List.getElem?_cons_succ, run_underlying ht, Result.andThen_ok, run_sizeOf' hi, h1, run_underlying ht1, Sem.run_pure, hz',
              Bool.false_eq_true, if_false, hx0.len]
            rw [if_pos (by omega)]
            simp only [Bool.not_false, if_true, Sem.run_bind, hr, Result.andThen_ok, storeCells, Sem.run_pure, Nat.add_zero]
          | none =>
            have hz' : (match d1 with | .int _ => true | _ => false) = false := by cases d1 <;> first | rfl | exact absurd rfl (hd _)
            have hr := hx0.read w rfl
            simp only [Builtin.append_, Sem.run_bind, List.getElem?_toArray, List.getElem?_cons_zero, List.getElem?_cons_succ, run_underlying ht, Result.andThen_ok, run_sizeOf' hi, h1, run_underlying ht1, Sem.run_pure, hz',
              Bool.false_eq_true, if_false, hx0.len]
            rw [if_pos (by omega)]
            simp only [Bool.not_false, if_true, Sem.run_bind, hr, Result.andThen_ok, Sem.run_pure, Nat.add_zero]
        refine ⟨φ, s', w, ?_, hs, E, Ext.refl B φ h w⟩
        cases hs with
        | snil => exact key _ _ _ rfl (Nat.le_refl _)
        | sdead a a' => exact key _ _ _ rfl (Nat.le_refl _)
        | slc a fe off l c he hc hl => exact key _ _ _ rfl hl
        | sopen a fe off off' l c sz' he hl hr => exact key _ _ _ rfl hl
      | false =>
        rw [hq] at ha
        simp only [cond_false] at ha
        have hn0 := beq_ne hq
        split at ha
        · cases ha
        · rename_i new hf
          obtain ⟨new', hnew, S⟩ := source_rel (P := P) E hx hn hf hn0 hstr
          have hnl : new.length = n * sz := by have := hnew.1; simp at this; rw [this]; exact S.size
          split at ha
          · -- nil
            cases hc : (Nat.beq sLen 0 && Nat.beq sCap 0) with
            | false => rw [hc] at ha; cases ha
            | true =>
              rw [hc] at ha
              simp only [cond_true] at ha
              simp only [Bool.and_eq_true] at hc
              have c1 := beq_eq hc.1
              have c2 := beq_eq hc.2
              subst c1; subst c2
              cases hs
              have ha' : appNew h e sz (0 + n) ([] ++ new) = some (v, h') := by simpa using ha
              exact appNew_gives E ht ht1 hd hz LRel.nil (old' := #[]) hnew S (by omega) hbd (by simp [Builtin.firstCells]) (by simp) ha'
          · rename_i a
            split at ha
            · rename_i cells el fam slack es cl st ps hob
              cases ho : Nat.beq sCap (OPEN + sz) with
              | true =>
                rw [ho] at ha
                simp only [cond_true] at ha
                have hcap := beq_eq ho
                subst hcap
                generalize hcapv : OPEN + sz = capv at hs
                cases hs with
                | sdead a a' => omega
                | slc a fe off l c he hc hl => omega
                | sopen a fe off off' _ c sz' he hl hr =>
                  have : sz' = sz := by omega
                  subst this
                  dsimp only at ha hob
                  have ha0 := bind_if ha
                  clear ha
                  obtain ⟨hz0, ha⟩ := ha0
                  have hoff : off' = off ∧ off + c * sz' = fe.room := by
                    rcases hr with ⟨r1, r2⟩ | r
                    · exfalso
                      subst r1
                      have : (Nat.beq 0 0 && Nat.blt 0 off) = true := by rw [Bool.and_eq_true]; exact ⟨rfl, by rw [Nat.blt_eq]; exact r2⟩
                      rw [this] at hz0; cases hz0
                    · exact r
                  obtain ⟨ho1, ho2⟩ := hoff
                  subst ho1
                  cases hfit : Nat.ble (off' + sLen * sz' + lenN new) (lenN cells) with
                  | true =>
                    rw [hfit] at ha
                    simp only [cond_true] at ha
                    -- it fits into what is seen
                    have hfit' := ble_le hfit
                    rw [lenN_eq, lenN_eq, hnl] at hfit'
                    have hle : sLen + n ≤ c := by
                      -- the cells that are seen lie within the room
                      have hk : (h.get a).kind ≠ 0 := by rw [hob]; exact Nat.one_ne_zero
                      obtain ⟨e2, he2, hrel⟩ := E.obj a (E.dom a fe he) hk
                      have : e2 = fe := by rw [he] at he2; exact (Option.some.inj he2).symm
                      subst this
                      rw [hob] at hrel
                      have hroom : cells.length ≤ e2.room := by
                        rcases hrel with ⟨_, ⟨_, _, _, _, _, q4, _⟩, _⟩ | ⟨x, _⟩ | ⟨x, _⟩ | ⟨x, _⟩
                        · exact q4
                        · cases x
                        · cases x
                        · cases x
                      have hm : (sLen + n) * sz' ≤ c * sz' := by rw [Nat.add_mul]; omega
                      exact Nat.le_of_mul_le_mul_right hm h5
                    refine appIn_gives E ht ht1 hd hz hnew S he hle (sCap := OPEN + sz') ha ?_
                    rw [hcapv]
                    rw [← hcapv]
                    exact .sopen a fe _ _ _ _ sz' he hle (.inr ⟨rfl, ho2⟩)
                  | false =>
                    rw [hfit] at ha
                    simp only [cond_false] at ha
                    cases hsl : (slack && Nat.beq el e) with
                    | false => rw [hsl] at ha; cases ha
                    | true =>
                      rw [hsl] at ha
                      simp only [cond_true] at ha
                      simp only [Bool.and_eq_true] at hsl
                      obtain ⟨rfl, hel⟩ := hsl
                      have hel' := beq_eq hel
                      subst hel'
                      split at ha
                      · rename_i pre hpre
                        exact appMay_gives E ht ht1 hd hz hnew S hnl he hob (fun h0 => by subst h0; exact ho2) hpre hbd ha
                      · cases ha
              | false =>
                rw [ho] at ha
                simp only [cond_false] at ha
                have ha0 := bind_if ha
                clear ha
                obtain ⟨hlt0, ha⟩ := ha0
                have hlt : sCap < OPEN := by
                  simp only [Bool.not_eq_false'] at hlt0
                  exact blt_lt hlt0
                cases hs with
                | sopen a fe off off' _ c sz' he hl hr => omega
                | sdead a a' =>
                  have hgt : ¬ 0 + n ≤ 0 := by omega
                  have hle0 : Nat.ble (0 + n) 0 = false := by
                    cases hq : Nat.ble (0 + n) 0 with
                    | false => rfl
                    | true => exact absurd (ble_le hq) hgt
                  rw [hle0] at ha
                  simp only [cond_false] at ha
                  split at ha
                  · rename_i old hold
                    obtain ⟨g1, g2⟩ := takeN_eq hold
                    have hol : old = [] := by
                      rw [g1, Nat.zero_mul]; rfl
                    subst hol
                    exact appNew_gives E ht ht1 hd hz LRel.nil (old' := #[]) hnew S hgt hbd (by simp [Builtin.firstCells, loadCells, loadCellsFrom]) (by simp) ha
                  · cases ha
                | slc a fe off l c he hc hl =>
                  dsimp only at ha hob
                  cases hle0 : Nat.ble (sLen + n) sCap with
                  | true =>
                    rw [hle0] at ha
                    simp only [cond_true] at ha
                    have hle := ble_le hle0
                    exact appIn_gives E ht ht1 hd hz hnew S he hle ha (.slc a fe _ _ _ he hc hle)
                  | false =>
                    rw [hle0] at ha
                    simp only [cond_false] at ha
                    have hgt : ¬ sLen + n ≤ sCap := fun hq => by rw [← Nat.ble_eq] at hq; rw [hq] at hle0; cases hle0
                    split at ha
                    · rename_i old hold
                      have hrd : readN h ⟨a, off, none⟩ (sLen * sz) = some old := by unfold readN; dsimp only; rw [hob]; exact hold
                      obtain ⟨l', r1, r2, r3⟩ := readN_rel E he hrd
                      have hcl : l'.length = sLen * sz := by rw [← r1.1]; exact r2
                      refine appNew_gives E ht ht1 hd hz (old' := l'.toArray) (by simpa using r1) hnew S hgt hbd ?_ (by simp [hcl]) ha
                      have := run_loadCells_list (P := P) w.drew ⟨fe.blk, off, none⟩ l' (fun j v hj => by rw [add_none]; exact r3 j v hj)
                      rw [hcl] at this
                      exact this
                    · cases ha
            · cases ha
  · cases ha
end
end Go.Ds
