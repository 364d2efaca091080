import Derived.Test.YtngmaccaldhjcaaDoorDsG
set_option linter.all false
set_option linter.unusedSimpArgs false
set_option linter.unnecessarySimpa false
set_option linter.unusedVariables false
set_option linter.unusedSectionVars false
set_option linter.unusedSectionVars false
set_option linter.unusedVariables false
namespace Go.Ds
variable [Inhabited Bound]

/-- The operation gives this value, whatever the world. -/
def OGives (P : Program) (o : Oper) (a : Act) (v : Value) : Prop := ∀ w, (execOp a.eval o).run P w = .ok (.value v) w

theorem Gives.op {P : Program} {s : Sem Value} {v : Value} (h : Gives P s v) (w : World) : (do pure (Next.value (← s)) : Sem Next).run P w = .ok (.value v) w := by
  simp [h w]

theorem bind_if {c : Bool} {α : Type} {x : Option α} {y : α} (h : (bif c then none else x) = some y) : c = false ∧ x = some y := by
  cases c with
  | true => cases h
  | false => exact ⟨rfl, h⟩

theorem prepOs_two {l : List Operand} {x y : PO} (h : prepOs l = some [x, y]) : ∃ a b, l = [a, b] ∧ prepO a = some x ∧ prepO b = some y := by
  match l, h with
  | [], h => simp [prepOs] at h
  | [a], h =>
    simp only [prepOs] at h
    split at h
    · rename_i v r h1 h2
      simp only [Option.some.injEq] at h h2
      subst h2; simp at h
    · cases h
  | [a, b], h =>
    simp only [prepOs] at h
    split at h
    · rename_i v r h1 h2
      simp only [Option.some.injEq, List.cons.injEq] at h
      obtain ⟨rfl, rfl⟩ := h
      split at h2
      · rename_i v' r' h3 h4
        simp only [Option.some.injEq, List.cons.injEq] at h2 h4
        exact ⟨a, b, rfl, h1, by rw [h3, h2.1]⟩
      · cases h2
    · cases h
  | a :: b :: c :: l, h =>
    simp only [prepOs] at h
    split at h
    · rename_i v r h1 h2
      split at h2
      · rename_i v' r' h3 h4
        split at h4
        · simp only [Option.some.injEq] at h h2 h4
          subst h4; subst h2; simp at h
        · cases h4
      · cases h2
    · cases h
theorem prepOs_three {l : List Operand} {x y z : PO} (h : prepOs l = some [x, y, z]) : ∃ a b c, l = [a, b, c] ∧ prepO a = some x ∧ prepO b = some y ∧ prepO c = some z := by
  match l, h with
  | [], h => simp [prepOs] at h
  | a :: l, h =>
    simp only [prepOs] at h
    split at h
    · rename_i v r h1 h2
      simp only [Option.some.injEq, List.cons.injEq] at h
      obtain ⟨rfl, rfl⟩ := h
      obtain ⟨b, c, rfl, h3, h4⟩ := prepOs_two h2
      exact ⟨a, b, c, rfl, h1, h3, h4⟩
    · cases h
theorem prepOs_one {l : List Operand} {x : PO} (h : prepOs l = some [x]) : ∃ a, l = [a] ∧ prepO a = some x := by
  match l, h with
  | [], h => simp [prepOs] at h
  | [a], h =>
    simp only [prepOs] at h
    split at h
    · rename_i v r h1 h2
      simp only [Option.some.injEq, List.cons.injEq] at h
      exact ⟨a, rfl, by rw [h1, h.1]⟩
    · cases h
  | a :: b :: l, h =>
    simp only [prepOs] at h
    split at h
    · rename_i v r h1 h2
      split at h2
      · simp only [Option.some.injEq] at h h2
        subst h2; simp at h
      · cases h2
    · cases h

set_option maxHeartbeats 1000000 in
theorem runP_sound {P : Program} {op : Op} {p : Pop} (hp : prepP P op = some p) {φ : Phi} {n : Nat} {e : Env} {a : Act} (he : ERel φ n e a) {v : Value} (hv : runP e p = some v) (o : Oper) (ho : o.op = op) :
    ∃ v', VRel φ v v' ∧ OGives P o a v' := by
  unfold prepP at hp
  split at hp
  · -- move
    rename_i x
    simp only [Option.map_eq_some_iff] at hp
    obtain ⟨q, hq, rfl⟩ := hp
    simp only [runP, Option.some.injEq] at hv
    subst hv
    exact ⟨_, ev_rel he hq, fun w => by simp [execOp, ho]⟩
  · -- assign
    rename_i x
    simp only [Option.map_eq_some_iff] at hp
    obtain ⟨q, hq, rfl⟩ := hp
    simp only [runP, Option.some.injEq] at hv
    subst hv
    exact ⟨_, ev_rel he hq, fun w => by simp [execOp, ho]⟩
  · -- pick
    rename_i oc oa ob
    split at hp
    · rename_i c b d h1 h2 h3
      simp only [Option.some.injEq] at hp
      subst hp
      simp only [runP] at hv
      obtain ⟨v', g1, g2⟩ := pickF_gives (P := P) (ev_rel he h1) (ev_rel he h2) (ev_rel he h3) hv
      refine ⟨v', g1, fun w => ?_⟩
      simp only [execOp, ho]
      have := g2 w
      revert this
      cases hb : (asBool (a.eval oc)).run P w with
      | ok x w' =>
        simp only [Sem.run_bind, hb, Result.andThen_ok, Sem.run_pure]
        intro h
        injection h with h1 h2
        rw [h1, h2]
      | halt x w' =>
        simp only [Sem.run_bind, hb, Result.andThen_halt]
        intro h
        cases h
    · cases hp
  · -- build
    rename_i t parts
    simp only [Option.bind_eq_some_iff] at hp
    obtain ⟨l, hl, hp⟩ := hp
    have hr := evParts_rel he hl
    obtain ⟨pl, st, z, rfl, hg⟩ := buildF_gives hp hr
    obtain ⟨v', g1, g2⟩ := hg v hv
    refine ⟨v', g1, fun w => ?_⟩
    have e1 : (parts.map fun (x : Nat × Operand) => (x.1, a.eval x.2)) = (parts.toList.map fun x => (x.1, a.eval x.2)).toArray := by
      apply Array.ext'; simp
    simp only [execOp, ho]
    have := g2 w
    rw [← e1] at this
    simp [this]
  · -- nilCheck
    rename_i x
    simp only [Option.map_eq_some_iff] at hp
    obtain ⟨q, hq, rfl⟩ := hp
    exact nilcF_gives (ev_rel he hq) hv o a x ho rfl
  · -- binOp
    rename_i bop t x y yt
    split at hp
    · rename_i px py h1 h2
      have hx := ev_rel he h1
      have hy := ev_rel he h2
      have key : ∀ v', Gives P (do eqGuard bop t x y (a.eval x) (a.eval y); binOp bop t (a.eval x) (a.eval y)) v' → OGives P o a v' := by
        intro v' g w
        simp only [execOp, ho]
        exact g.op w
      unfold prepBin at hp
      split at hp
      · simp only [Option.some.injEq] at hp
        subst hp
        obtain ⟨v', g1, g2⟩ := binF_gives (P := P) hx hy hv t x y
        exact ⟨v', g1, key _ g2⟩
      · simp only [Option.some.injEq] at hp
        subst hp
        obtain ⟨v', g1, g2⟩ := binF_gives (P := P) hx hy hv t x y
        exact ⟨v', g1, key _ g2⟩
      · rename_i ht
        split at hp
        · simp only [Option.some.injEq] at hp
          subst hp
          obtain ⟨v', g1, g2⟩ := eqBF_gives (P := P) hx hy hv t ht x y
          exact ⟨v', g1, key _ g2⟩
        · simp only [Option.some.injEq] at hp
          subst hp
          obtain ⟨v', g1, g2⟩ := eqBF_gives (P := P) hx hy hv t ht x y
          exact ⟨v', g1, key _ g2⟩
        · cases hp
      · rename_i el ht
        split at hp
        · cases hn : nilSl py with
          | false => rw [hn] at hp; cases hp
          | true =>
            rw [hn] at hp
            simp only [cond_true, Option.some.injEq] at hp
            subst hp
            have hyn : a.eval y = .slice none 0 0 := by
              unfold nilSl at hn
              split at hn
              · split at hn
                · have hy2 : VRel φ (.slice none 0 0) (a.eval y) := hy
                  generalize a.eval y = z at hy2
                  cases hy2; rfl
                · cases hn
              · cases hn
            obtain ⟨v', g1, g2⟩ := eqSF_gives (P := P) hx hv t el ht x y
            refine ⟨v', g1, key _ ?_⟩
            rw [hyn]
            exact g2
        · cases hn : nilSl py with
          | false => rw [hn] at hp; cases hp
          | true =>
            rw [hn] at hp
            simp only [cond_true, Option.some.injEq] at hp
            subst hp
            have hyn : a.eval y = .slice none 0 0 := by
              unfold nilSl at hn
              split at hn
              · split at hn
                · have hy2 : VRel φ (.slice none 0 0) (a.eval y) := hy
                  generalize a.eval y = z at hy2
                  cases hy2; rfl
                · cases hn
              · cases hn
            obtain ⟨v', g1, g2⟩ := eqSF_gives (P := P) hx hv t el ht x y
            refine ⟨v', g1, key _ ?_⟩
            rw [hyn]
            exact g2
        · cases hp
      · split at hp
        · rename_i m ht
          simp only [Option.some.injEq] at hp
          subst hp
          obtain ⟨v', g1, g2⟩ := eqAF_gives (P := P) hx hy hv t ht x y
          exact ⟨v', g1, key _ g2⟩
        · rename_i m ht
          simp only [Option.some.injEq] at hp
          subst hp
          obtain ⟨v', g1, g2⟩ := eqAF_gives (P := P) hx hy hv t ht x y
          exact ⟨v', g1, key _ g2⟩
        · cases hp
    · cases hp
  · -- unOp
    simp only [Option.map_eq_some_iff] at hp
    obtain ⟨q, hq, rfl⟩ := hp
    obtain ⟨v', g1, g2⟩ := unF_gives (P := P) (ev_rel he hq) hv
    exact ⟨v', g1, fun w => by simp only [execOp, ho]; exact g2.op w⟩
  · -- convert
    split at hp
    · rename_i ks k hs hd
      simp only [Option.map_eq_some_iff] at hp
      obtain ⟨q, hq, rfl⟩ := hp
      obtain ⟨v', g1, g2⟩ := convF_gives (P := P) (ev_rel he hq) hv hs hd
      exact ⟨v', g1, fun w => by simp only [execOp, ho]; exact g2.op w⟩
    · rename_i hs hd
      simp only [Option.map_eq_some_iff] at hp
      obtain ⟨q, hq, rfl⟩ := hp
      obtain ⟨v', g1, g2⟩ := sconvF_gives (P := P) (ev_rel he hq) hv hs hd
      exact ⟨v', g1, fun w => by simp only [execOp, ho]; exact g2.op w⟩
    · cases hp
  · -- makeFunc
    rename_i f first captured
    split at hp
    · rename_i la lb h1 h2
      simp only [Option.some.injEq] at hp
      subst hp
      simp only [runP, Option.some.injEq] at hv
      subst hv
      refine ⟨.func (.func f) (first.map a.eval) (captured.map a.eval), LRel.func ?_ ?_, fun w => ?_⟩
      · simpa using evs_rel he h1
      · simpa using evs_rel he h2
      · simp [execOp, ho, Instr.makeFunc]
    · cases hp
  · -- slice
    rename_i t x lo hi
    split at hp
    · rename_i px plo phi h1 h2 h3
      have hx := ev_rel he h1
      have hl := evOpt_rel he h2
      have hh := evOpt_rel he h3
      have key : ∀ v', Gives P (Instr.sliceAt t (a.eval x) (lo.map a.eval) (hi.map a.eval) none) v' → OGives P o a v' := by
        intro v' g w
        simp only [execOp, ho]
        exact g.op w
      unfold prepSlice at hp
      split at hp
      · rename_i ht
        simp only [Option.some.injEq] at hp
        subst hp
        obtain ⟨v', g1, g2⟩ := slcSF_gives (P := P) hx hl hh hv ht
        exact ⟨v', g1, key _ g2⟩
      · rename_i el ht
        simp only [Option.bind_eq_some_iff] at hp
        obtain ⟨i, hi, hp⟩ := hp
        obtain ⟨hz, hp⟩ := bind_if hp
        simp only [Option.some.injEq] at hp
        subst hp
        obtain ⟨v', g1, g2⟩ := slcLF_gives (P := P) hx hl hh hv ht hi rfl (Nat.pos_of_ne_zero (beq_ne hz))
        exact ⟨v', g1, key _ g2⟩
      · rename_i m el ht
        simp only [Option.bind_eq_some_iff] at hp
        obtain ⟨i, hi, hp⟩ := hp
        obtain ⟨hz, hp⟩ := bind_if hp
        simp only [Option.some.injEq] at hp
        simp only [Bool.or_eq_false_iff, Bool.not_eq_false'] at hz
        subst hp
        obtain ⟨v', g1, g2⟩ := slcAF_gives (P := P) hx hl hh hv ht hi rfl (blt_lt hz.2)
        exact ⟨v', g1, key _ g2⟩
      · cases hp
    · cases hp
  · -- slice with three indexes
    rename_i t x lo hi mx
    split at hp
    · rename_i px plo phi pmx h1 h2 h3 h4
      have hx := ev_rel he h1
      have hl := evOpt_rel he h2
      have hh := ev_rel he h3
      have hm := ev_rel he h4
      unfold prepSliceM at hp
      split at hp
      · rename_i el ht
        simp only [Option.bind_eq_some_iff] at hp
        obtain ⟨i, hi, hp⟩ := hp
        obtain ⟨hz, hp⟩ := bind_if hp
        simp only [Option.some.injEq] at hp
        subst hp
        obtain ⟨v', g1, g2⟩ := slcMF_gives (P := P) hx hl hh hm hv ht hi rfl (Nat.pos_of_ne_zero (beq_ne hz))
        exact ⟨v', g1, fun w => by simp only [execOp, ho]; exact g2.op w⟩
      · cases hp
    · cases hp
  · -- fieldAddr
    split at hp
    · rename_i off ft px h1 h2
      simp only [Option.bind_eq_some_iff] at hp
      obtain ⟨i, hi, hp⟩ := hp
      obtain ⟨hz, hp⟩ := bind_if hp
      simp only [Option.some.injEq] at hp
      subst hp
      unfold fieldOf at h1
      split at h1
      · rename_i fs hs
        simp only [Option.map_eq_some_iff, Prod.mk.injEq] at h1
        obtain ⟨fd, hf, ho1, ho2⟩ := h1
        subst ho2
        obtain ⟨v', g1, g2⟩ := faddrF_gives (P := P) (ev_rel he h2) hv hs hf ho1 hi (beq_ne hz)
        exact ⟨v', g1, fun w => by simp only [execOp, ho]; exact g2.op w⟩
      · cases h1
    · cases hp
  · -- field
    split at hp
    · rename_i off ft px h1 h2
      simp only [Option.map_eq_some_iff] at hp
      obtain ⟨m, hm, rfl⟩ := hp
      unfold fieldOf at h1
      split at h1
      · rename_i fs hs
        simp only [Option.map_eq_some_iff, Prod.mk.injEq] at h1
        obtain ⟨fd, hf, ho1, ho2⟩ := h1
        subst ho2
        obtain ⟨v', g1, g2⟩ := fldF_gives (P := P) (ev_rel he h2) hv hs hf ho1 hm
        exact ⟨v', g1, fun w => by simp only [execOp, ho]; exact g2.op w⟩
      · cases h1
    · cases hp
  · -- indexAddr
    split at hp
    · rename_i m el px pi ht h1 h2
      simp only [Option.map_eq_some_iff] at hp
      obtain ⟨inf, hinf, rfl⟩ := hp
      obtain ⟨v', g1, g2⟩ := iaddrAF_gives (P := P) (ev_rel he h1) (ev_rel he h2) hv ht hinf rfl
      exact ⟨v', g1, fun w => by simp only [execOp, ho]; exact g2.op w⟩
    · rename_i el px pi ht h1 h2
      simp only [Option.map_eq_some_iff] at hp
      obtain ⟨inf, hinf, rfl⟩ := hp
      obtain ⟨v', g1, g2⟩ := iaddrSF_gives (P := P) (ev_rel he h1) (ev_rel he h2) hv ht hinf rfl
      exact ⟨v', g1, fun w => by simp only [execOp, ho]; exact g2.op w⟩
    · cases hp
  · -- index
    split at hp
    · rename_i m el px pi ht h1 h2
      split at hp
      · rename_i inf g hinf hg
        simp only [Option.some.injEq] at hp
        subst hp
        obtain ⟨v', g1, g2⟩ := idxAF_gives (P := P) (ev_rel he h1) (ev_rel he h2) hv ht hinf rfl hg
        exact ⟨v', g1, fun w => by simp only [execOp, ho]; exact g2.op w⟩
      · cases hp
    · rename_i px pi ht h1 h2
      simp only [Option.some.injEq] at hp
      subst hp
      obtain ⟨v', g1, g2⟩ := idxSF_gives (P := P) (ev_rel he h1) (ev_rel he h2) hv ht
      exact ⟨v', g1, fun w => by simp only [execOp, ho]; exact g2.op w⟩
    · cases hp
  · -- extract
    simp only [Option.map_eq_some_iff] at hp
    obtain ⟨q, hq, rfl⟩ := hp
    obtain ⟨v', g1, g2⟩ := extF_gives (P := P) (ev_rel he hq) hv
    exact ⟨v', g1, fun w => by simp only [execOp, ho]; exact g2.op w⟩
  · -- len
    rename_i as ts
    split at hp
    · rename_i px t h1 h2
      obtain ⟨x, hl, h3⟩ := prepOs_one h1
      have hx := ev_rel he h3
      have has : as = #[x] := Array.toList_inj.1 hl
      subst has
      have key : ∀ v', Gives P (Builtin.len_ ts o.type #[a.eval x]) v' → OGives P o a v' := by
        intro v' g w
        simp [execOp, ho, resolve, invoke, builtin, g w]
      unfold prepLen at hp
      split at hp
      · rename_i ht
        simp only [Option.some.injEq] at hp
        subst hp
        simp only [runP] at hv
        unfold lenSF at hv
        split at hv
        · rename_i s hs
          simp only [Option.some.injEq] at hv
          subst hv
          rw [hs] at hx
          cases hx' : a.eval x <;> rw [hx'] at hx <;> cases hx
          exact ⟨_, .int _ _, key _ (fun w => by simp [Builtin.len_, h2, run_underlying ht, hx', goInt])⟩
        · cases hv
      · rename_i el ht
        simp only [Option.some.injEq] at hp
        subst hp
        simp only [runP] at hv
        unfold lenLF at hv
        split at hv
        · rename_i b m c hs
          simp only [Option.some.injEq] at hv
          subst hv
          rw [hs] at hx
          have : ∃ b' c', a.eval x = .slice b' m c' := by
            generalize a.eval x = y at hx
            cases hx <;> exact ⟨_, _, rfl⟩
          obtain ⟨b', c', hb⟩ := this
          exact ⟨_, .int _ _, key _ (fun w => by simp [Builtin.len_, h2, run_underlying ht, hb, goInt])⟩
        · cases hv
      · rename_i m el ht
        simp only [Option.some.injEq] at hp
        subst hp
        simp only [runP, Option.some.injEq] at hv
        subst hv
        exact ⟨_, .int _ _, key _ (fun w => by simp [Builtin.len_, h2, run_underlying ht, goInt])⟩
      · cases hp
    · cases hp
  · -- max
    rename_i as ts
    split at hp
    · rename_i px py h1
      obtain ⟨x, y, hl, h3, h4⟩ := prepOs_two h1
      simp only [Option.some.injEq] at hp
      subst hp
      have has : as = #[x, y] := Array.toList_inj.1 hl
      subst has
      obtain ⟨v', g1, g2⟩ := mxF_gives (P := P) (ev_rel he h3) (ev_rel he h4) hv ts o.type
      exact ⟨v', g1, fun w => by simp [execOp, ho, resolve, invoke, builtin, g2 w]⟩
    · rename_i px py pz h1
      obtain ⟨x, y, z, hl, h3, h4, h5⟩ := prepOs_three h1
      simp only [Option.some.injEq] at hp
      subst hp
      have has : as = #[x, y, z] := Array.toList_inj.1 hl
      subst has
      obtain ⟨v', g1, g2⟩ := mx3F_gives (P := P) (ev_rel he h3) (ev_rel he h4) (ev_rel he h5) hv ts o.type
      exact ⟨v', g1, fun w => by simp [execOp, ho, resolve, invoke, builtin, g2 w]⟩
    · cases hp
  · -- min
    rename_i as ts
    split at hp
    · rename_i px py h1
      obtain ⟨x, y, hl, h3, h4⟩ := prepOs_two h1
      simp only [Option.some.injEq] at hp
      subst hp
      have has : as = #[x, y] := Array.toList_inj.1 hl
      subst has
      obtain ⟨v', g1, g2⟩ := mnF_gives (P := P) (ev_rel he h3) (ev_rel he h4) hv ts o.type
      exact ⟨v', g1, fun w => by simp [execOp, ho, resolve, invoke, builtin, g2 w]⟩
    · rename_i px py pz h1
      obtain ⟨x, y, z, hl, h3, h4, h5⟩ := prepOs_three h1
      simp only [Option.some.injEq] at hp
      subst hp
      have has : as = #[x, y, z] := Array.toList_inj.1 hl
      subst has
      obtain ⟨v', g1, g2⟩ := mn3F_gives (P := P) (ev_rel he h3) (ev_rel he h4) (ev_rel he h5) hv ts o.type
      exact ⟨v', g1, fun w => by simp [execOp, ho, resolve, invoke, builtin, g2 w]⟩
    · cases hp
  · cases hp
end Go.Ds
