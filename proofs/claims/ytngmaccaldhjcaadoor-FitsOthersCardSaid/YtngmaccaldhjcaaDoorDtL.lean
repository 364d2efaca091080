import Derived.Test.YtngmaccaldhjcaaDoorDtK
import Derived.Test.YtngmaccaldhjcaaDoorDsZd
set_option linter.all false
set_option linter.unusedSimpArgs false
set_option linter.unnecessarySimpa false
set_option linter.unusedVariables false
set_option linter.unusedSectionVars false
set_option linter.unusedSectionVars false
set_option linter.unusedVariables false
namespace Go.Ds

/-! ## Calls over what came in: rows that are only read -/
/-- A row that came in. -/
def seenOb (cells : List Value) : Ob := ⟨4, cells, 0, 0, false, [], 0, ByteArray.empty, 0⟩
def junkV : Value := .complex .f64 0 0
/-- A heap of rows that came in. -/
def seenG (rows : List (List Value)) : GH := rows.foldl (fun g r => g.push (seenOb r)) GH.zero
theorem seen_fold : ∀ (rows : List (List Value)) (g : GH), g.ok → (rows.foldl (fun g r => g.push (seenOb r)) g).ok ∧ (rows.foldl (fun g r => g.push (seenOb r)) g).next = g.next + rows.length ∧ (rows.foldl (fun g r => g.push (seenOb r)) g).hid = g.hid ∧
    ∀ i, (rows.foldl (fun g r => g.push (seenOb r)) g).get i = if i < g.next then g.get i else match rows[i - g.next]? with
      | some r => seenOb r
      | none => g.get i
  | [], g, h => ⟨h, rfl, rfl, fun i => by simp⟩
  | r :: rows, g, h => by
    obtain ⟨h1, h2, h3, h4⟩ := seen_fold rows (g.push (seenOb r)) (GH.ok_push h)
    refine ⟨h1, by rw [List.foldl_cons, h2, GH.push_next, List.length_cons]; omega, h3, fun i => ?_⟩
    rw [List.foldl_cons, h4, GH.push_next, GH.get_push h]
    by_cases c : i < g.next
    · rw [if_pos (by omega), if_neg (by omega), if_pos c]
    · by_cases c2 : i = g.next
      · subst c2
        rw [if_pos (by omega), if_pos rfl, if_neg c, Nat.sub_self]; rfl
      · rw [if_neg (by omega), if_neg (by omega), if_neg c, show i - g.next = (i - (g.next + 1)) + 1 by omega, List.getElem?_cons_succ]
theorem seen_ok (rows : List (List Value)) : (seenG rows).ok := (seen_fold rows GH.zero GH.ok_zero).1
theorem seen_next (rows : List (List Value)) : (seenG rows).next = rows.length := by
  rw [seenG, (seen_fold rows GH.zero GH.ok_zero).2.1]; show 0 + _ = _; omega
theorem seen_get (rows : List (List Value)) {i : Nat} {r : List Value} (h : rows[i]? = some r) : (seenG rows).get i = seenOb r := by
  rw [seenG, (seen_fold rows GH.zero GH.ok_zero).2.2.2, show GH.zero.next = 0 from rfl, if_neg (by omega), Nat.sub_zero, h]

/-- The rows lie in these blocks. -/
structure SeenIn (w : World) (rows : List (List Value)) (bs : List Nat) : Prop where
  len : bs.length = rows.length
  apart : ∀ (i j b : Nat), bs[i]? = some b → bs[j]? = some b → i = j
  rel : ∀ (i : Nat) r b, rows[i]? = some r → bs[i]? = some b → b < w.heap.size ∧ ∃ c t fr, w.heap[b]? = some (.cells c t fr) ∧ ∀ (k : Nat) v, r[k]? = some v → isJ v = true ∨ (c[k]? = some v ∧ plainC v = true)
def seenPhi (bs : List Nat) : Phi := fun i => match bs[i]? with
  | some b => some ⟨b, 0⟩
  | none => none
theorem seenPhi_some {bs : List Nat} {i : Nat} {e : FE} (h : seenPhi bs i = some e) : bs[i]? = some e.blk := by
  unfold seenPhi at h
  split at h
  · rename_i b hb; cases h; exact hb
  · cases h
theorem SeenIn.emb {w : World} {rows : List (List Value)} {bs : List Nat} (h : SeenIn w rows bs) (lo : Nat) [Inhabited Bound] (hL : rows.length ≤ LIM) : Emb (seenPhi bs) ((seenG rows).at lo) 0 w where
  dom := fun i e hi => by
    have := (List.getElem?_eq_some_iff.1 (seenPhi_some hi)).1
    show i < (seenG rows).next
    rw [seen_next, ← h.len]; exact this
  base := fun i e hi => by
    have hb := seenPhi_some hi
    have hlt := (List.getElem?_eq_some_iff.1 hb).1
    exact ⟨Nat.zero_le _, (h.rel i _ _ (List.getElem?_eq_getElem (by rw [← h.len]; exact hlt)) hb).1⟩
  obj := fun i hi hk => by
    have hi : i < rows.length := by rw [← seen_next rows]; exact hi
    have hr := List.getElem?_eq_getElem hi
    have hb := List.getElem?_eq_getElem (show i < bs.length by rw [h.len]; exact hi)
    obtain ⟨h1, c, t, fr, h2, h3⟩ := h.rel i _ _ hr hb
    refine ⟨⟨bs[i]'(by rw [h.len]; exact hi), 0⟩, by unfold seenPhi; rw [hb], ?_⟩
    have hg : ((seenG rows).at lo).get i = seenOb rows[i] := seen_get rows hr
    rw [hg]
    exact .inr (.inr (.inr ⟨rfl, ⟨rfl, .inl rfl⟩, c, t, fr, h2, fun k v hv => (h3 k v hv).imp id fun ⟨a, b⟩ => ⟨v, a, VRel.plainC b⟩⟩))
  apart := fun i j ei ej hi hj _ _ hne hb => by
    have h1 := seenPhi_some hi
    have h2 := seenPhi_some hj
    rw [← hb] at h2
    exact absurd (h.apart i j _ h1 h2) hne
  fam := fun i hi hk hs => by
    have hi : i < rows.length := by rw [← seen_next rows]; exact hi
    have hg : ((seenG rows).at lo).get i = seenOb rows[i] := seen_get rows (List.getElem?_eq_getElem hi)
    rw [hg] at hs; cases hs
  lim := by show (seenG rows).next ≤ _; rw [seen_next]; exact hL
  size := Nat.zero_le _

/-- A call over what came in: its value, and that nothing old is changed. -/
theorem Rets.seen {P : Program} {X : Caller} (hX : ∀ i, @Orac i P X) (hm : P.follows .mixedOrders = true) {f : FuncId} {args : List Value} {args' : Array Value} {rows : List (List Value)} {bs : List Nat} {w : World} (hs : SeenIn w rows bs)
    (ha : LRel (seenPhi bs) args args'.toList) (hf : ∀ h, X f args h = none) {v : Value} (hv : plainC v = true) (h : Rets P X f args (seenG rows) (fun u _ lo => rows.length ≤ lo ∧ u = v)) :
    Calls P f args' w fun e w' => e = .returned v ∧ RowKit.Below w.heap.size w w' := by
  unfold Rets at h
  obtain ⟨u, g', lo, ⟨i, d, n, hr⟩, hx, hlo, rfl⟩ := h (seen_ok rows)
  let I := bnd (max (@LIM i) rows.length)
  have hL : @LIM i ≤ @LIM I := Nat.le_max_left _ _
  cases d with
  | zero => cases hr
  | succ d =>
    have hr : @evF I P X n (d + 1) f args ((seenG rows).at (seenG rows).next) = some (u, g'.at lo) := evF_mono hL (Nat.le_refl _) (Nat.le_refl _) _ _ _ _ hr
    have M := @SeenIn.emb w rows bs hs (seenG rows).next I (Nat.le_max_right _ _)
    rcases @evF_some I P X n d f args _ _ _ hr with hx | ⟨c, rs, ou, e, l, hp, hlen, hev, hne, hres, rfl⟩
    · rw [hf] at hx; cases hx
    · refine (@body_calls I P 0 _ (@evF_sound I P X (hX I) hm n 0 d) (@evF_pres I P X (hX I).pres n d) hm n f args _ _ _ w args' M ha c rs ou e l hp hlen hev hne hres).2 _ fun φ' v' w' r1 r2 r3 => ⟨by rw [plainC_inv r1 hv], ?_⟩
      refine ⟨r3.below.os, r3.below.tape, r3.below.output, r3.below.size, fun k hk => r3.frame k hk fun i e hi hb => ?_⟩
      have := (List.getElem?_eq_some_iff.1 (seenPhi_some hi)).1
      rw [hs.len] at this
      exact Nat.lt_of_lt_of_le this hlo
end Go.Ds
