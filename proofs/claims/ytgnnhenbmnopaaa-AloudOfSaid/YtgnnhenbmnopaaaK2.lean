import Derived.Test.YtgnnhenbmnopaaaDtN
import Derived.Test.YtgnnhenbmnopaaaDtO
import Derived.Test.YtgnnhenbmnopaaaDtH
import Derived.Test.YtgnnhenbmnopaaaKa
import Derived.Test.YtgnnhenbmnopaaaKc
set_option linter.all false
set_option linter.unusedSimpArgs false
set_option linter.unnecessarySimpa false
set_option linter.unusedVariables false
set_option linter.unusedSectionVars false
set_option maxRecDepth 100000
set_option maxHeartbeats 4000000
set_option linter.unusedSimpArgs false
set_option linter.unusedVariables false
namespace Go.Proofs.Ytgnnhenbmnopaaa
open Go.Ds Go.Aw
def isKn (f : Nat) : Bool := Nat.beq f 17 || Nat.beq f 45 || Nat.beq f 23 || Nat.beq f 43
structure Xfr (X : Caller) : Prop where
  pres : ∀ i, @CallPres i X
  free : ∀ f, isKn f = false → ∀ l h, X f l h = none
/-- All bytes are digits from 1 to 9. -/
def allD (s : ByteArray) : Bool := s.data.toList.all fun b => decide (49 ≤ b.toNat) && decide (b.toNat ≤ 57)
theorem allD_get {s : ByteArray} : allD s = true ↔ ∀ (i : Nat) (h : i < s.size), 49 ≤ (s[i]'h).toNat ∧ (s[i]'h).toNat ≤ 57 := by
  unfold allD
  rw [List.all_eq_true]
  constructor
  · intro h i hi
    have := h (s[i]'hi) (by
      have : s[i]'hi = s.data.toList[i]'(by simpa using hi) := by simp; rfl
      rw [this]; exact List.getElem_mem _)
    simpa using this
  · intro h b hb
    obtain ⟨i, hi, rfl⟩ := List.getElem_of_mem hb
    have hi' : i < s.size := by simpa using hi
    have := h i hi'
    have e : s[i]'hi' = s.data.toList[i]'hi := by simp; rfl
    rw [e] at this
    simpa using this
def digs (s : ByteArray) : List Nat := s.data.toList.map fun b => b.toNat - 48
theorem digs_len (s : ByteArray) : (digs s).length = s.size := by unfold digs; rw [List.length_map, Array.length_toList]; rfl
theorem digs_dig {s : ByteArray} (h : allD s = true) : Dig (digs s) := by
  intro d hd
  simp only [digs, List.mem_map] at hd
  obtain ⟨b, hb, rfl⟩ := hd
  unfold allD at h
  rw [List.all_eq_true] at h
  have := h b hb
  simp at this
  omega
/-- The error of a word. -/
def werr (s : ByteArray) : Int := if 200 < s.size then 3 else if s.size ≠ 0 ∧ allD s = true then 0 else 5
def isW (s : ByteArray) : Bool := decide (s.size ≠ 0) && decide (s.size ≤ 200) && allD s
theorem isWord_rets {X : Caller} (hX : Xfr X) (s : ByteArray) (g : GH) : Rets Try.prog X 18 [.string s] g (fun v g' lo => g.next ≤ lo ∧ v = .bool (isW s)) := by
  refine Rets.run hX.pres p18 (hX.free 18 (by decide) _ _) rfl fun ho => ?_
  by_cases h0 : s.size = 0
  · simp +decide (disch := first | assumption | (apply GH.ok_push; assumption) | exact cellV_int _ _ | exact cellV_bool _ | omega) only [go_sem, ↓reduceIte, Nat.reduceEqDiff, Nat.reduceAdd, Int.reduceToNat, h0]
    intro hx
    exact ⟨Nat.le_refl _, by simp [isW, h0]⟩
  · by_cases h2 : s.size ≤ 200
    · simp +decide (disch := first | assumption | (apply GH.ok_push; assumption) | exact cellV_int _ _ | exact cellV_bool _ | omega) only [go_sem, ↓reduceIte, Nat.reduceEqDiff, Nat.reduceAdd, Int.reduceToNat, h0, h2]
      refine Wk.rngS (s := s) (by simp +decide (disch := first | assumption | (apply GH.ok_push; assumption) | exact cellV_int _ _ | exact cellV_bool _ | omega) only [go_sem, ↓reduceIte, Nat.reduceEqDiff, Nat.reduceAdd, Int.reduceToNat]; first | done | exact rfl) ?_
      simp +decide (disch := first | assumption | (apply GH.ok_push; assumption) | exact cellV_int _ _ | exact cellV_bool _ | omega) only [go_sem, ↓reduceIte, Nat.reduceEqDiff, Nat.reduceAdd, Int.reduceToNat]
      refine Wk.loops (fun m e g' lo => g.next ≤ lo ∧ ∃ pos : Nat, (pos ≤ s.size ∧ m = s.size - pos) ∧ g'.get g.next = iterOb s pos ∧ g.next < g'.next ∧ ev e (.s 14) = ptrTo g.next ∧ ∀ (i : Nat) (h : i < s.size), i < pos → 49 ≤ (s[i]'h).toNat ∧ (s[i]'h).toNat ≤ 57)
        (fun e g' lo => g.next ≤ lo ∧ allD s = true) (n := s.size) ?_ ?_ ?_
      · exact ⟨Nat.le_refl _, 0, ⟨Nat.zero_le _, rfl⟩, (GH.get_push ho _ _).trans (if_pos rfl), Nat.lt_succ_self _, (by simp +decide (disch := first | assumption | (apply GH.ok_push; assumption) | exact cellV_int _ _ | exact cellV_bool _ | omega) only [go_sem, ↓reduceIte, Nat.reduceEqDiff, Nat.reduceAdd, Int.reduceToNat]; first | done | exact rfl), fun i h q => by omega⟩
      · rintro e g' lo - - ⟨hlo, h⟩
        simp +decide (disch := first | assumption | (apply GH.ok_push; assumption) | exact cellV_int _ _ | exact cellV_bool _ | omega) only [go_sem, ↓reduceIte, Nat.reduceEqDiff, Nat.reduceAdd, Int.reduceToNat]
        intro hx
        exact ⟨hlo, by simp [isW, h0, h2, h]⟩
      · rintro m e g' lo ho' hl' ih out ⟨hlo, pos, ⟨hp1, hp2⟩, hit, hlt, he, hd⟩
        simp +decide (disch := first | assumption | (apply GH.ok_push; assumption) | exact cellV_int _ _ | exact cellV_bool _ | omega) only [go_sem, ↓reduceIte, Nat.reduceEqDiff, Nat.reduceAdd, Int.reduceToNat]
        by_cases hp : pos < s.size
        · by_cases ha : (s[pos]'hp).toNat < 128
          · refine Wk.nxtS (j := g.next) (pos := pos) (s := s) (c := (s[pos]'hp).toNat) (w := 1) (by rw [he]; rfl) hit hlt hp (decode_ascii s pos hp ha) ?_
            by_cases hdg : 49 ≤ (s[pos]'hp).toNat
            · by_cases hdg2 : (s[pos]'hp).toNat ≤ 57
              · simp +decide (disch := first | assumption | (apply GH.ok_push; assumption) | exact cellV_int _ _ | exact cellV_bool _ | omega) only [go_sem, ↓reduceIte, Nat.reduceEqDiff, Nat.reduceAdd, Int.reduceToNat, hdg, hdg2]
                refine ih (s.size - (pos + 1)) _ _ _ (by omega) ⟨by omega, pos + 1, ⟨by omega, rfl⟩, GH.get_set_same hit (by simp [iterOb]) _, hlt, (by simp +decide (disch := first | assumption | (apply GH.ok_push; assumption) | exact cellV_int _ _ | exact cellV_bool _ | omega) only [go_sem, ↓reduceIte, Nat.reduceEqDiff, Nat.reduceAdd, Int.reduceToNat, he]; first | done | exact rfl), ?_⟩
                intro i h hi
                rcases Nat.lt_or_ge i pos with c | c
                · exact hd i h c
                · obtain rfl : i = pos := by omega
                  exact ⟨hdg, hdg2⟩
              · simp +decide (disch := first | assumption | (apply GH.ok_push; assumption) | exact cellV_int _ _ | exact cellV_bool _ | omega) only [go_sem, ↓reduceIte, Nat.reduceEqDiff, Nat.reduceAdd, Int.reduceToNat, hdg, hdg2]
                intro hx
                refine ⟨by omega, ?_⟩
                have : isW s = false := by
                  cases q : allD s with
                  | false => simp [isW, q]
                  | true => exact absurd (allD_get.1 q pos hp).2 hdg2
                rw [this]
            · simp +decide (disch := first | assumption | (apply GH.ok_push; assumption) | exact cellV_int _ _ | exact cellV_bool _ | omega) only [go_sem, ↓reduceIte, Nat.reduceEqDiff, Nat.reduceAdd, Int.reduceToNat, hdg]
              intro hx
              refine ⟨by omega, ?_⟩
              have : isW s = false := by
                cases q : allD s with
                | false => simp [isW, q]
                | true => exact absurd (allD_get.1 q pos hp).1 hdg
              rw [this]
          · have hh := decode_high s pos hp (by omega)
            refine Wk.nxtS (j := g.next) (pos := pos) (s := s) (c := (Utf8.decode s pos).1) (w := (Utf8.decode s pos).2) (by rw [he]; rfl) hit hlt hp rfl ?_
            simp +decide (disch := first | assumption | (apply GH.ok_push; assumption) | exact cellV_int _ _ | exact cellV_bool _ | omega) only [go_sem, ↓reduceIte, Nat.reduceEqDiff, Nat.reduceAdd, Int.reduceToNat, hh]
            intro hx
            refine ⟨by omega, ?_⟩
            have : isW s = false := by
              cases q : allD s with
              | false => simp [isW, q]
              | true => exact absurd (allD_get.1 q pos hp).2 (by omega)
            rw [this]
        · refine Wk.nxtE (j := g.next) (pos := pos) (s := s) (by rw [he]; rfl) hit hlt hp ?_
          simp +decide (disch := first | assumption | (apply GH.ok_push; assumption) | exact cellV_int _ _ | exact cellV_bool _ | omega) only [go_sem, ↓reduceIte, Nat.reduceEqDiff, Nat.reduceAdd, Int.reduceToNat]
          refine out _ _ _ ⟨by omega, allD_get.2 fun i h => hd i h (by omega)⟩
    · simp +decide (disch := first | assumption | (apply GH.ok_push; assumption) | exact cellV_int _ _ | exact cellV_bool _ | omega) only [go_sem, ↓reduceIte, Nat.reduceEqDiff, Nat.reduceAdd, Int.reduceToNat, h0, h2]
      intro hx
      exact ⟨Nat.le_refl _, by simp [isW, h2]⟩
theorem wordErr_rets {X : Caller} (hX : Xfr X) (s : ByteArray) (g : GH) : Rets Try.prog X 40 [.string s] g (fun v g' lo => g.next ≤ lo ∧ v = .int .i64 (werr s)) := by
  refine Rets.run hX.pres p40 (hX.free 40 (by decide) _ _) rfl fun ho => ?_
  by_cases h2 : 200 < s.size
  · simp +decide (disch := first | assumption | (apply GH.ok_push; assumption) | exact cellV_int _ _ | exact cellV_bool _ | omega) only [go_sem, ↓reduceIte, Nat.reduceEqDiff, Nat.reduceAdd, Int.reduceToNat, h2]
    intro hx
    exact ⟨Nat.le_refl _, by simp [werr, h2]⟩
  · simp +decide (disch := first | assumption | (apply GH.ok_push; assumption) | exact cellV_int _ _ | exact cellV_bool _ | omega) only [go_sem, ↓reduceIte, Nat.reduceEqDiff, Nat.reduceAdd, Int.reduceToNat, h2]
    refine CallD.calm (isWord_rets hX s _) fun v g' hg hv => ?_
    subst hv
    cases q : isW s with
    | true =>
      simp +decide (disch := first | assumption | (apply GH.ok_push; assumption) | exact cellV_int _ _ | exact cellV_bool _ | omega) only [go_sem, ↓reduceIte, Nat.reduceEqDiff, Nat.reduceAdd, Int.reduceToNat, q]
      intro hx
      simp only [isW, Bool.and_eq_true, decide_eq_true_eq] at q
      exact ⟨Nat.le_refl _, by rw [werr, if_neg h2, if_pos ⟨q.1.1, q.2⟩]⟩
    | false =>
      simp +decide (disch := first | assumption | (apply GH.ok_push; assumption) | exact cellV_int _ _ | exact cellV_bool _ | omega) only [go_sem, ↓reduceIte, Nat.reduceEqDiff, Nat.reduceAdd, Int.reduceToNat, q]
      intro hx
      refine ⟨Nat.le_refl _, ?_⟩
      rw [werr, if_neg h2, if_neg]
      rintro ⟨a, b⟩
      simp [isW, a, b] at q
      omega
theorem mixedO : Try.prog.follows .mixedOrders = true := by kernel_rfl
def noneX (_ : FuncId) (_ : List Value) : Option Value := none
theorem noneX_sound : ∀ f args v, noneX f args = some v → Known Try.prog f args v := fun _ _ _ h => by cases h
theorem none_free (f : FuncId) (l : List Value) (h : AH) : knownX noneX f l h = none := by
  unfold knownX noneX
  cases l.all plainV <;> rfl
theorem none_ok : Xfr (knownX noneX) where
  pres := fun i => (@knownX_orac i Try.prog noneX noneX_sound).pres
  free := fun f _ l h => none_free f l h
theorem wordErr_calls (s : ByteArray) (w : World) : Calls Try.prog 40 #[.string s] w fun e w' => e = .returned (.int .i64 (werr s)) ∧ RowKit.Below w.heap.size w w' :=
  have inst : Inhabited Bound := ⟨⟨0⟩⟩
  Rets.calls (fun i => @knownX_orac i Try.prog noneX noneX_sound) mixedO (args := [.string s]) rfl (none_free _ _ _) rfl ((wordErr_rets none_ok s GH.zero).mono fun _ _ _ _ h => h.2) w
end Go.Proofs.Ytgnnhenbmnopaaa
