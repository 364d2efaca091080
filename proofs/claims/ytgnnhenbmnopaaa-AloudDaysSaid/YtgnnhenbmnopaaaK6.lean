import Derived.Test.YtgnnhenbmnopaaaK5
import Derived.Test.YtgnnhenbmnopaaaKa
set_option linter.all false
set_option linter.unusedSimpArgs false
set_option linter.unnecessarySimpa false
set_option linter.unusedVariables false
set_option linter.unusedSectionVars false
set_option maxRecDepth 100000
set_option maxHeartbeats 8000000
set_option linter.unusedSimpArgs false
set_option linter.unusedVariables false
namespace Go.Proofs.Ytgnnhenbmnopaaa
open Go.Ds Go.Aw
/-- What was heard. -/
def heardV (ds : List Nat) : Value := match heard ds with
  | some v => .tuple #[.string (Try.txt v), .bool true]
  | none => .tuple #[.string ⟨#[]⟩, .bool false]
theorem heardV_none {ds : List Nat} (h : heard ds = none) : heardV ds = .tuple #[.string ⟨#[]⟩, .bool false] := by rw [heardV, h]
theorem heardV_some {ds v : List Nat} (h : heard ds = some v) : heardV ds = .tuple #[.string (Try.txt v), .bool true] := by rw [heardV, h]
theorem pairs_dig {ds : List Nat} (hd : Dig ds) : ∀ p ∈ pairs ds, 1 ≤ p.1 ∧ p.1 ≤ 9 ∧ 1 ≤ p.2 ∧ p.2 ≤ 9 := by
  intro p hp
  obtain ⟨h1, h2⟩ := pairs_mem ds p hp
  exact ⟨(hd _ h1).1, (hd _ h1).2, (hd _ h2).1, (hd _ h2).2⟩
theorem refHeard_rets {X : Caller} (hX : Xfr X) (ds : List Nat) (hd : Dig ds) (hlen : ds.length ≤ 200000) (g : GH) :
    Rets Try.prog X 48 [.string (Try.txt ds)] g (fun v g' lo => g.next ≤ lo ∧ v = heardV ds) := by
  refine Rets.run hX.pres p48 (hX.free 48 (by decide) _ _) rfl fun ho => ?_
  have hsz := Try.txt_size ds
  have hPl := pairs_len ds
  by_cases ho2 : ds.length % 2 = 1
  · have hrem : ((ds.length : Int)).tmod 2 = 1 := by have := Int.ofNat_tmod ds.length 2; rw [ho2] at this; exact this.symm
    simp +decide (disch := first | assumption | (apply GH.ok_push; assumption) | exact cellV_int _ _ | exact cellV_bool _ | omega) only [go_sem, ↓reduceIte, Nat.reduceEqDiff, Nat.reduceAdd, Int.reduceToNat, hsz, hrem]
    intro hx
    refine ⟨Nat.le_refl _, (heardV_none ?_).symm⟩
    unfold heard
    rw [if_neg]
    rintro ⟨a, _⟩
    omega
  · have hrem : ((ds.length : Int)).tmod 2 = 0 := by have := Int.ofNat_tmod ds.length 2; rw [show ds.length % 2 = 0 by omega] at this; exact this.symm
    simp +decide (disch := first | assumption | (apply GH.ok_push; assumption) | exact cellV_int _ _ | exact cellV_bool _ | omega) only [go_sem, ↓reduceIte, Nat.reduceEqDiff, Nat.reduceAdd, Int.reduceToNat, hsz, hrem]
    refine Wk.loops (fun m e g' lo => g.next ≤ lo ∧ Kept g g' ∧ ∃ i : Nat, (i ≤ (pairs ds).length ∧ m = (pairs ds).length - i) ∧ Aw.Good ((pairs ds).take i) ∧ ∃ o, (ev e (.s 0) = .string (Try.txt ds) ∧ ev e (.s 5) = .int .i64 ((2 * i : Nat) : Int) ∧ ev e (.s 4) = o) ∧ OwnQ g' o 2 i (cellsP ((pairs ds).take i)) 52 g.next)
      (fun e g' lo => g.next ≤ lo ∧ Aw.Good (pairs ds) ∧ ∃ o, ev e (.s 4) = o ∧ OwnQ g' o 2 (pairs ds).length (cellsP (pairs ds)) 52 g.next) (n := (pairs ds).length) ?_ ?_ ?_
    · exact ⟨Nat.le_refl _, Kept.refl g, 0, ⟨Nat.zero_le _, rfl⟩, trivial, _, (by simp +decide (disch := first | assumption | (apply GH.ok_push; assumption) | exact cellV_int _ _ | exact cellV_bool _ | omega) only [go_sem, ↓reduceIte, Nat.reduceEqDiff, Nat.reduceAdd, Int.reduceToNat]; first | done | exact rfl), OwnQ.nil⟩
    · rintro e g' lo ho' - ⟨hlo, hg, o, he, h⟩
      simp +decide (disch := first | assumption | (apply GH.ok_push; assumption) | exact cellV_int _ _ | exact cellV_bool _ | omega) only [go_sem, ↓reduceIte, Nat.reduceEqDiff, Nat.reduceAdd, Int.reduceToNat, he]
      refine CallD.calm (spelled_rets hX (pairs ds) (fun p hp => ⟨by have := pairs_dig hd p hp; omega, (pairs_dig hd p hp).2.2.2⟩) (by omega) o _ h.read) ?_
      rintro v g2 hx2 rfl
      have hn2 := hx2.next
      simp +decide (disch := first | assumption | (apply GH.ok_push; assumption) | exact cellV_int _ _ | exact cellV_bool _ | omega) only [go_sem, ↓reduceIte, Nat.reduceEqDiff, Nat.reduceAdd, Int.reduceToNat]
      intro hx
      exact ⟨hlo, (heardV_some (by unfold heard; rw [if_pos ⟨by omega, hg⟩])).symm⟩
    · rintro m e g' lo ho' hl' ih out ⟨hlo, hk, i, ⟨hi, hm⟩, hgd, o, he, hown⟩
      have hkn := hk.next
      by_cases c : i < (pairs ds).length
      · obtain ⟨c1, c2, hpe⟩ := pairs_get ds i c
        have hga := idx_w hd (2 * i) c1 ((2 * i : Nat) : Int) rfl
        have hgb := idx_w hd (2 * i + 1) c2 (((2 * i : Nat) : Int) + 1) (by omega)
        have ha9 := hd _ (List.getElem_mem c1)
        have hb9 := hd _ (List.getElem_mem c2)
        have ht := take_pair c
        rw [hpe] at ht
        have hPi : (pairs ds)[i].1 = ds[2 * i] ∧ (pairs ds)[i].2 = ds[2 * i + 1] := by rw [hpe]; exact ⟨rfl, rfl⟩
        obtain ⟨a, ha⟩ : ∃ a, ds[2 * i] = a := ⟨_, rfl⟩
        obtain ⟨b, hb⟩ : ∃ b, ds[2 * i + 1] = b := ⟨_, rfl⟩
        rw [ha] at hga ha9 ht hPi
        rw [hb] at hgb hb9 ht hPi
        have hcv := conv_dig a ha9.2
        have hcv2 := conv_dig b hb9.2
        have c' : ((2 * i : Nat) : Int) < (ds.length : Int) := by omega
        have step : ∀ (g8 : GH) (s' : Value) (sp : List (Nat × (Nat × Nat))), True := fun _ _ _ => trivial
        by_cases c0 : i = 0
        · subst c0
          have hi0 : ¬ ((2 * 0 : Nat) : Int) > 0 := by omega
          simp +decide (disch := first | assumption | exact cellV_int _ _ | exact cellV_bool _ | omega | (simp only [GH.pn, GH.sn] <;> omega) | (with_reducible ((repeat (first | apply GH.ok_push | apply GH.ok_set)); assumption)) | ((try simp only [GH.push_hid, GH.set_hid]); first | assumption | (refine GH.vis ?_ ?_ <;> first | assumption | ((try simp only [GH.pn, GH.sn]) <;> omega)))) only [go_sem, ↓reduceIte, Nat.reduceEqDiff, Nat.reduceAdd, Int.reduceToNat, Int.reduceAdd, Int.reduceNeg, Int.reduceSub, Int.reduceMul, Int.reduceLT, Int.reduceLE, Int.reduceEq, ↓GH.gp_eq, ↓GH.gp_ne, ↓GH.gs_eq, ↓GH.gs_ne, GH.push_next, GH.set_next, he, hsz, hga, hgb, hcv, hcv2, c', hi0, bslQ]
          refine AppD.ownQ (lw := g.next) (new := [.int .i64 a, .int .i64 b]) (tx := 52) (hown.kept ((Kept.refl g').push ho' _)) (by simp (disch := first | assumption | exact cellV_int _ _ | exact cellV_bool _ | omega | (simp only [GH.pn, GH.sn] <;> omega) | (with_reducible ((repeat (first | apply GH.ok_push | apply GH.ok_set)); assumption)) | ((try simp only [GH.push_hid, GH.set_hid]); first | assumption | (refine GH.vis ?_ ?_ <;> first | assumption | ((try simp only [GH.pn, GH.sn]) <;> omega)))) only [↓GH.gp_eq, ↓GH.gp_ne, ↓GH.gs_eq, ↓GH.gs_ne, GH.push_next, GH.set_next]; first | done | exact rfl) rfl (by omega) (by omega) rfl (by omega) (by simp only [GH.push_next]; omega) hlo (Nat.le_refl _) (GH.ok_push ho') (fun s' g8 lo8 sp wr hgr hlo8 => ?_)
          simp +decide (disch := first | assumption | (apply GH.ok_push; assumption) | exact cellV_int _ _ | exact cellV_bool _ | omega) only [go_sem, ↓reduceIte, Nat.reduceEqDiff, Nat.reduceAdd, Int.reduceToNat, he]
          refine ih (m - 1) _ _ _ (by omega) ⟨hlo8, (hk.push ho' _).grewQ hgr (Nat.le_refl _), 0 + 1, ⟨by omega, by omega⟩, good_take_succ c hgd (by omega) (fun q => absurd rfl q), s', (by simp +decide (disch := first | assumption | (apply GH.ok_push; assumption) | exact cellV_int _ _ | exact cellV_bool _ | omega) only [go_sem, ↓reduceIte, Nat.reduceEqDiff, Nat.reduceAdd, Int.reduceToNat, he]; first | done | exact rfl), ?_⟩
          rw [ht, cellsP_snoc]
          exact hgr.own
        · have hi0 : ((2 * i : Nat) : Int) > 0 := by omega
          have hgm := idx_w hd (2 * i - 1) (by omega) (((2 * i : Nat) : Int) - 1) (by omega)
          obtain ⟨d1, d2, hpe2⟩ := pairs_get ds (i - 1) (by omega)
          have hPm : (pairs ds)[i - 1].2 = ds[2 * i - 1] := by
            rw [hpe2]
            show ds[2 * (i - 1) + 1] = _
            congr 1
            omega
          obtain ⟨z, hz⟩ : ∃ z, ds[2 * i - 1] = z := ⟨_, rfl⟩
          rw [hz] at hgm hPm
          by_cases cz : b = z
          · subst cz
            simp +decide (disch := first | assumption | exact cellV_int _ _ | exact cellV_bool _ | omega | (simp only [GH.pn, GH.sn] <;> omega) | (with_reducible ((repeat (first | apply GH.ok_push | apply GH.ok_set)); assumption)) | ((try simp only [GH.push_hid, GH.set_hid]); first | assumption | (refine GH.vis ?_ ?_ <;> first | assumption | ((try simp only [GH.pn, GH.sn]) <;> omega)))) only [go_sem, ↓reduceIte, Nat.reduceEqDiff, Nat.reduceAdd, Int.reduceToNat, Int.reduceAdd, Int.reduceNeg, Int.reduceSub, Int.reduceMul, Int.reduceLT, Int.reduceLE, Int.reduceEq, ↓GH.gp_eq, ↓GH.gp_ne, ↓GH.gs_eq, ↓GH.gs_ne, GH.push_next, GH.set_next, he, hsz, hga, hgb, hgm, hcv, hcv2, c', hi0, bslQ]
            intro hx
            refine ⟨hlo, (heardV_none ?_).symm⟩
            unfold heard
            rw [if_neg]
            rintro ⟨_, q⟩
            have := good_adj _ (i - 1) (by omega) q
            apply this
            have e2 : (pairs ds)[i - 1 + 1].2 = (pairs ds)[i].2 := by congr 2; omega
            rw [e2, hPm, hPi.2]
          · have cz' : ¬ ((b : Int) = z) := by omega
            simp +decide (disch := first | assumption | exact cellV_int _ _ | exact cellV_bool _ | omega | (simp only [GH.pn, GH.sn] <;> omega) | (with_reducible ((repeat (first | apply GH.ok_push | apply GH.ok_set)); assumption)) | ((try simp only [GH.push_hid, GH.set_hid]); first | assumption | (refine GH.vis ?_ ?_ <;> first | assumption | ((try simp only [GH.pn, GH.sn]) <;> omega)))) only [go_sem, ↓reduceIte, Nat.reduceEqDiff, Nat.reduceAdd, Int.reduceToNat, Int.reduceAdd, Int.reduceNeg, Int.reduceSub, Int.reduceMul, Int.reduceLT, Int.reduceLE, Int.reduceEq, ↓GH.gp_eq, ↓GH.gp_ne, ↓GH.gs_eq, ↓GH.gs_ne, GH.push_next, GH.set_next, he, hsz, hga, hgb, hgm, hcv, hcv2, c', hi0, bslQ, cz, cz']
            refine AppD.ownQ (lw := g.next) (new := [.int .i64 a, .int .i64 b]) (tx := 52) (hown.kept ((Kept.refl g').push ho' _)) (by simp (disch := first | assumption | exact cellV_int _ _ | exact cellV_bool _ | omega | (simp only [GH.pn, GH.sn] <;> omega) | (with_reducible ((repeat (first | apply GH.ok_push | apply GH.ok_set)); assumption)) | ((try simp only [GH.push_hid, GH.set_hid]); first | assumption | (refine GH.vis ?_ ?_ <;> first | assumption | ((try simp only [GH.pn, GH.sn]) <;> omega)))) only [↓GH.gp_eq, ↓GH.gp_ne, ↓GH.gs_eq, ↓GH.gs_ne, GH.push_next, GH.set_next]; first | done | exact rfl) rfl (by omega) (by omega) rfl (by omega) (by simp only [GH.push_next]; omega) hlo (Nat.le_refl _) (GH.ok_push ho') (fun s' g8 lo8 sp wr hgr hlo8 => ?_)
            simp +decide (disch := first | assumption | (apply GH.ok_push; assumption) | exact cellV_int _ _ | exact cellV_bool _ | omega) only [go_sem, ↓reduceIte, Nat.reduceEqDiff, Nat.reduceAdd, Int.reduceToNat, he]
            refine ih (m - 1) _ _ _ (by omega) ⟨hlo8, (hk.push ho' _).grewQ hgr (Nat.le_refl _), i + 1, ⟨by omega, by omega⟩, good_take_succ c hgd (by omega) (fun q => by rw [hPm, hPi.2]; exact fun z => cz z.symm), s', (by simp +decide (disch := first | assumption | (apply GH.ok_push; assumption) | exact cellV_int _ _ | exact cellV_bool _ | omega) only [go_sem, ↓reduceIte, Nat.reduceEqDiff, Nat.reduceAdd, Int.reduceToNat, he]; first | done | exact rfl), ?_⟩
            rw [ht, cellsP_snoc]
            exact hgr.own
      · have hie : i = (pairs ds).length := by omega
        subst hie
        have c' : ¬ ((2 * (pairs ds).length : Nat) : Int) < (ds.length : Int) := by omega
        simp +decide (disch := first | assumption | exact cellV_int _ _ | exact cellV_bool _ | omega | (simp only [GH.pn, GH.sn] <;> omega) | (with_reducible ((repeat (first | apply GH.ok_push | apply GH.ok_set)); assumption)) | ((try simp only [GH.push_hid, GH.set_hid]); first | assumption | (refine GH.vis ?_ ?_ <;> first | assumption | ((try simp only [GH.pn, GH.sn]) <;> omega)))) only [go_sem, ↓reduceIte, Nat.reduceEqDiff, Nat.reduceAdd, Int.reduceToNat, Int.reduceAdd, Int.reduceNeg, Int.reduceSub, Int.reduceMul, Int.reduceLT, Int.reduceLE, Int.reduceEq, ↓GH.gp_eq, ↓GH.gp_ne, ↓GH.gs_eq, ↓GH.gs_ne, GH.push_next, GH.set_next, he, hsz, c']
        rw [List.take_length] at hown hgd
        exact out _ _ _ ⟨hlo, hgd, o, (by simp +decide (disch := first | assumption | (apply GH.ok_push; assumption) | exact cellV_int _ _ | exact cellV_bool _ | omega) only [go_sem, ↓reduceIte, Nat.reduceEqDiff, Nat.reduceAdd, Int.reduceToNat, he]; first | done | exact rfl), hown⟩
end Go.Proofs.Ytgnnhenbmnopaaa
set_option maxRecDepth 100000
set_option maxHeartbeats 8000000
set_option linter.unusedSimpArgs false
set_option linter.unusedVariables false
namespace Go.Proofs.Ytgnnhenbmnopaaa
open Go.Ds Go.Aw
theorem small_pairs {ds : List Nat} (hd : Dig ds) (hlen : ds.length ≤ 200000) : smallP (pairs ds) = true := by
  unfold smallP
  have hPl := pairs_len ds
  rw [Bool.and_eq_true, List.all_eq_true]
  refine ⟨by rw [Nat.ble_eq]; omega, fun p hp => ?_⟩
  have := pairs_dig hd p hp
  rw [Bool.and_eq_true, Nat.ble_eq, Nat.ble_eq]
  omega
theorem before_rets {X : Caller} (hX : Xok X) (ds : List Nat) (hd : Dig ds) (hlen : ds.length ≤ 200000) (g : GH) :
    Rets Try.prog X 47 [.string (Try.txt ds)] g (fun v g' lo => g.next ≤ lo ∧ v = heardV ds) := by
  refine Rets.run hX.pres p47 (hX.free 47 (by decide) _ _) rfl fun ho => ?_
  have hsz := Try.txt_size ds
  have hPl := pairs_len ds
  by_cases ho2 : ds.length % 2 = 1
  · have hrem : ((ds.length : Int)).tmod 2 = 1 := by have := Int.ofNat_tmod ds.length 2; rw [ho2] at this; exact this.symm
    simp +decide (disch := first | assumption | (apply GH.ok_push; assumption) | exact cellV_int _ _ | exact cellV_bool _ | omega) only [go_sem, ↓reduceIte, Nat.reduceEqDiff, Nat.reduceAdd, Int.reduceToNat, hsz, hrem]
    intro hx
    refine ⟨Nat.le_refl _, (heardV_none ?_).symm⟩
    unfold heard
    rw [if_neg]
    rintro ⟨a, _⟩
    omega
  · have hrem : ((ds.length : Int)).tmod 2 = 0 := by have := Int.ofNat_tmod ds.length 2; rw [show ds.length % 2 = 0 by omega] at this; exact this.symm
    simp +decide (disch := first | assumption | (apply GH.ok_push; assumption) | exact cellV_int _ _ | exact cellV_bool _ | omega) only [go_sem, ↓reduceIte, Nat.reduceEqDiff, Nat.reduceAdd, Int.reduceToNat, hsz, hrem]
    refine Wk.loops (fun m e g' lo => g.next ≤ lo ∧ Kept g g' ∧ ∃ i : Nat, (i ≤ (pairs ds).length ∧ m = (pairs ds).length - i) ∧ Aw.Good ((pairs ds).take i) ∧ ∃ (o : Value) (q : Nat), (ev e (.s 0) = .string (Try.txt ds) ∧ ev e (.s 6) = .int .i64 ((2 * i : Nat) : Int) ∧ ev e (.s 4) = o ∧ ev e (.s 5) = .int .i64 q) ∧ ((i = 0 ∧ q = 0) ∨ ∃ h : i - 1 < (pairs ds).length, i ≠ 0 ∧ q = (pairs ds)[i - 1].2) ∧ OwnQ g' o 2 i (cellsP ((pairs ds).take i)) 52 g.next)
      (fun e g' lo => g.next ≤ lo ∧ Aw.Good (pairs ds) ∧ ∃ o, ev e (.s 4) = o ∧ OwnQ g' o 2 (pairs ds).length (cellsP (pairs ds)) 52 g.next) (n := (pairs ds).length) ?_ ?_ ?_
    · exact ⟨Nat.le_refl _, Kept.refl g, 0, ⟨Nat.zero_le _, rfl⟩, trivial, _, 0, (by simp +decide (disch := first | assumption | (apply GH.ok_push; assumption) | exact cellV_int _ _ | exact cellV_bool _ | omega) only [go_sem, ↓reduceIte, Nat.reduceEqDiff, Nat.reduceAdd, Int.reduceToNat]; first | done | exact rfl), .inl ⟨rfl, rfl⟩, OwnQ.nil⟩
    · rintro e g' lo ho' - ⟨hlo, hg, o, he, h⟩
      simp +decide (disch := first | assumption | (apply GH.ok_push; assumption) | exact cellV_int _ _ | exact cellV_bool _ | omega) only [go_sem, ↓reduceIte, Nat.reduceEqDiff, Nat.reduceAdd, Int.reduceToNat, he]
      refine CallD.calm (hX.written (pairs ds) o _ h.read (small_pairs hd hlen)) ?_
      rintro v g2 hx2 ⟨rfl, rfl⟩
      simp +decide (disch := first | assumption | (apply GH.ok_push; assumption) | exact cellV_int _ _ | exact cellV_bool _ | omega) only [go_sem, ↓reduceIte, Nat.reduceEqDiff, Nat.reduceAdd, Int.reduceToNat]
      intro hx
      exact ⟨hlo, (heardV_some (by unfold heard; rw [if_pos ⟨by omega, hg⟩])).symm⟩
    · rintro m e g' lo ho' hl' ih out ⟨hlo, hk, i, ⟨hi, hm⟩, hgd, o, q, he, hq, hown⟩
      have hkn := hk.next
      by_cases c : i < (pairs ds).length
      · obtain ⟨c1, c2, hpe⟩ := pairs_get ds i c
        have hga := idx_w hd (2 * i) c1 ((2 * i : Nat) : Int) rfl
        have hgb := idx_w hd (2 * i + 1) c2 (((2 * i : Nat) : Int) + 1) (by omega)
        have ha9 := hd _ (List.getElem_mem c1)
        have hb9 := hd _ (List.getElem_mem c2)
        have ht := take_pair c
        rw [hpe] at ht
        have hPi : (pairs ds)[i].1 = ds[2 * i] ∧ (pairs ds)[i].2 = ds[2 * i + 1] := by rw [hpe]; exact ⟨rfl, rfl⟩
        obtain ⟨a, ha⟩ : ∃ a, ds[2 * i] = a := ⟨_, rfl⟩
        obtain ⟨b, hb⟩ : ∃ b, ds[2 * i + 1] = b := ⟨_, rfl⟩
        rw [ha] at hga ha9 ht hPi
        rw [hb] at hgb hb9 ht hPi
        have hcv := conv_dig a ha9.2
        have hcv2 := conv_dig b hb9.2
        have c' : ((2 * i : Nat) : Int) < (ds.length : Int) := by omega
        by_cases cz : b = q
        · subst cz
          simp +decide (disch := first | assumption | exact cellV_int _ _ | exact cellV_bool _ | omega | (simp only [GH.pn, GH.sn] <;> omega) | (with_reducible ((repeat (first | apply GH.ok_push | apply GH.ok_set)); assumption)) | ((try simp only [GH.push_hid, GH.set_hid]); first | assumption | (refine GH.vis ?_ ?_ <;> first | assumption | ((try simp only [GH.pn, GH.sn]) <;> omega)))) only [go_sem, ↓reduceIte, Nat.reduceEqDiff, Nat.reduceAdd, Int.reduceToNat, Int.reduceAdd, Int.reduceNeg, Int.reduceSub, Int.reduceMul, Int.reduceLT, Int.reduceLE, Int.reduceEq, ↓GH.gp_eq, ↓GH.gp_ne, ↓GH.gs_eq, ↓GH.gs_ne, GH.push_next, GH.set_next, he, hsz, hga, hgb, hcv, hcv2, c']
          intro hx
          refine ⟨by omega, (heardV_none ?_).symm⟩
          unfold heard
          rw [if_neg]
          rintro ⟨_, q⟩
          rcases hq with ⟨_, hq⟩ | ⟨h1, h2, h3⟩
          · omega
          · have := good_adj _ (i - 1) (by omega) q
            apply this
            have e2 : (pairs ds)[i - 1 + 1].2 = (pairs ds)[i].2 := by congr 2; omega
            rw [e2, hPi.2, ← h3]
        · have cz' : ¬ ((b : Int) = q) := by omega
          simp +decide (disch := first | assumption | exact cellV_int _ _ | exact cellV_bool _ | omega | (simp only [GH.pn, GH.sn] <;> omega) | (with_reducible ((repeat (first | apply GH.ok_push | apply GH.ok_set)); assumption)) | ((try simp only [GH.push_hid, GH.set_hid]); first | assumption | (refine GH.vis ?_ ?_ <;> first | assumption | ((try simp only [GH.pn, GH.sn]) <;> omega)))) only [go_sem, ↓reduceIte, Nat.reduceEqDiff, Nat.reduceAdd, Int.reduceToNat, Int.reduceAdd, Int.reduceNeg, Int.reduceSub, Int.reduceMul, Int.reduceLT, Int.reduceLE, Int.reduceEq, ↓GH.gp_eq, ↓GH.gp_ne, ↓GH.gs_eq, ↓GH.gs_ne, GH.push_next, GH.set_next, he, hsz, hga, hgb, hcv, hcv2, c', bslQ, cz, cz']
          refine AppD.ownQ (lw := g.next) (new := [.int .i64 a, .int .i64 b]) (tx := 52) (hown.kept (by (repeat' first | exact Kept.refl _ | assumption | refine Kept.push ?_ ?_ _ | refine Kept.setV ?_ ?_ ?_ _) <;> (first | assumption | exact cellV_int _ _ | exact cellV_bool _ | omega | (simp only [GH.pn, GH.sn] <;> omega) | (with_reducible ((repeat (first | apply GH.ok_push | apply GH.ok_set)); assumption)) | ((try simp only [GH.push_hid, GH.set_hid]); first | assumption | (refine GH.vis ?_ ?_ <;> first | assumption | ((try simp only [GH.pn, GH.sn]) <;> omega)))))) (by simp (disch := first | assumption | exact cellV_int _ _ | exact cellV_bool _ | omega | (simp only [GH.pn, GH.sn] <;> omega) | (with_reducible ((repeat (first | apply GH.ok_push | apply GH.ok_set)); assumption)) | ((try simp only [GH.push_hid, GH.set_hid]); first | assumption | (refine GH.vis ?_ ?_ <;> first | assumption | ((try simp only [GH.pn, GH.sn]) <;> omega)))) only [↓GH.gp_eq, ↓GH.gp_ne, ↓GH.gs_eq, ↓GH.gs_ne, GH.push_next, GH.set_next]; first | done | exact rfl) rfl (by omega) (by omega) rfl (by omega) (by simp only [GH.push_next, GH.set_next]; omega) (by omega) (Nat.le_refl _) (by with_reducible ((repeat (first | apply GH.ok_push | apply GH.ok_set)); assumption)) (fun s' g8 lo8 sp wr hgr hlo8 => ?_)
          have hg7 : g8.get g'.next = cellsOb [.int .i64 a, .int .i64 b] 52 := (hgr.gets _ (by simp only [GH.push_next, GH.set_next]; omega)).trans (by simp (disch := first | assumption | exact cellV_int _ _ | exact cellV_bool _ | omega | (simp only [GH.pn, GH.sn] <;> omega) | (with_reducible ((repeat (first | apply GH.ok_push | apply GH.ok_set)); assumption)) | ((try simp only [GH.push_hid, GH.set_hid]); first | assumption | (refine GH.vis ?_ ?_ <;> first | assumption | ((try simp only [GH.pn, GH.sn]) <;> omega)))) only [↓GH.gp_eq, ↓GH.gp_ne, ↓GH.gs_eq, ↓GH.gs_ne, GH.push_next, GH.set_next]; first | done | exact rfl)
          have hk8 : Kept g g8 := Kept.grewQ (hk.trans (by (repeat' first | exact Kept.refl _ | assumption | refine Kept.push ?_ ?_ _ | refine Kept.setV ?_ ?_ ?_ _) <;> (first | assumption | exact cellV_int _ _ | exact cellV_bool _ | omega | (simp only [GH.pn, GH.sn] <;> omega) | (with_reducible ((repeat (first | apply GH.ok_push | apply GH.ok_set)); assumption)) | ((try simp only [GH.push_hid, GH.set_hid]); first | assumption | (refine GH.vis ?_ ?_ <;> first | assumption | ((try simp only [GH.pn, GH.sn]) <;> omega)))))) hgr (Nat.le_refl _)
          have hn8 := hgr.next
          simp only [GH.push_next, GH.set_next] at hn8
          simp +decide (disch := first | assumption | exact cellV_int _ _ | exact cellV_bool _ | omega | (simp only [GH.pn, GH.sn] <;> omega) | (with_reducible ((repeat (first | apply GH.ok_push | apply GH.ok_set)); assumption)) | ((try simp only [GH.push_hid, GH.set_hid]); first | assumption | (refine GH.vis ?_ ?_ <;> first | assumption | ((try simp only [GH.pn, GH.sn]) <;> omega)))) only [go_sem, ↓reduceIte, Nat.reduceEqDiff, Nat.reduceAdd, Int.reduceToNat, Int.reduceAdd, Int.reduceNeg, Int.reduceSub, Int.reduceMul, Int.reduceLT, Int.reduceLE, Int.reduceEq, ↓GH.gp_eq, ↓GH.gp_ne, ↓GH.gs_eq, ↓GH.gs_ne, GH.push_next, GH.set_next, he, hg7]
          have z1 : m - 1 < m := by clear hq; omega
          have z2 : i + 1 ≤ (pairs ds).length ∧ m - 1 = (pairs ds).length - (i + 1) := by clear hq; omega
          have z3 : 1 ≤ (pairs ds)[i].1 := by rw [hPi.1]; exact ha9.1
          refine ih (m - 1) _ _ _ z1 ⟨hlo8, hk8, i + 1, z2, good_take_succ c hgd z3 (fun h0 => ?_), s', b, (by simp +decide (disch := first | assumption | (apply GH.ok_push; assumption) | exact cellV_int _ _ | exact cellV_bool _ | omega) only [go_sem, ↓reduceIte, Nat.reduceEqDiff, Nat.reduceAdd, Int.reduceToNat, he]; first | done | exact rfl), .inr ⟨by clear hq; omega, Nat.succ_ne_zero i, ?_⟩, ?_⟩
          · rcases hq with ⟨hq, _⟩ | ⟨h1, h2, h3⟩
            · exact absurd hq h0
            · rw [hPi.2, ← h3]; exact fun z => cz z.symm
          · have e2 : (pairs ds)[i + 1 - 1].2 = (pairs ds)[i].2 := by congr 1
            rw [e2, hPi.2]
          · rw [ht, cellsP_snoc]
            exact hgr.own
      · have hie : i = (pairs ds).length := by omega
        subst hie
        have c' : ¬ ((2 * (pairs ds).length : Nat) : Int) < (ds.length : Int) := by omega
        simp +decide (disch := first | assumption | exact cellV_int _ _ | exact cellV_bool _ | omega | (simp only [GH.pn, GH.sn] <;> omega) | (with_reducible ((repeat (first | apply GH.ok_push | apply GH.ok_set)); assumption)) | ((try simp only [GH.push_hid, GH.set_hid]); first | assumption | (refine GH.vis ?_ ?_ <;> first | assumption | ((try simp only [GH.pn, GH.sn]) <;> omega)))) only [go_sem, ↓reduceIte, Nat.reduceEqDiff, Nat.reduceAdd, Int.reduceToNat, Int.reduceAdd, Int.reduceNeg, Int.reduceSub, Int.reduceMul, Int.reduceLT, Int.reduceLE, Int.reduceEq, ↓GH.gp_eq, ↓GH.gp_ne, ↓GH.gs_eq, ↓GH.gs_ne, GH.push_next, GH.set_next, he, hsz, c']
        rw [List.take_length] at hown hgd
        exact out _ _ _ ⟨hlo, hgd, o, (by simp +decide (disch := first | assumption | (apply GH.ok_push; assumption) | exact cellV_int _ _ | exact cellV_bool _ | omega) only [go_sem, ↓reduceIte, Nat.reduceEqDiff, Nat.reduceAdd, Int.reduceToNat, he]; first | done | exact rfl), hown⟩
end Go.Proofs.Ytgnnhenbmnopaaa
set_option maxRecDepth 100000
set_option maxHeartbeats 8000000
set_option linter.unusedSimpArgs false
set_option linter.unusedVariables false
namespace Go.Proofs.Ytgnnhenbmnopaaa
open Go.Ds Go.Aw
/-- A word. -/
structure Wd (ds : List Nat) : Prop where
  dig : Dig ds
  ne : ds ≠ []
  len : ds.length ≤ 200
theorem werr_word {s : ByteArray} (h : werr s = 0) : ∃ ds, Wd ds ∧ s = Try.txt ds := by
  obtain ⟨h1, h2, h3⟩ := Go.Proofs.werr_zero h
  refine ⟨digs s, ⟨digs_dig h3, ?_, by rw [digs_len]; exact h1⟩, (Try.txt_digs h3).symm⟩
  intro e
  have := digs_len s
  rw [e] at this
  exact h2 this.symm
theorem Wd.werr {ds : List Nat} (h : Wd ds) : werr (Try.txt ds) = 0 := by
  have h1 := h.len
  have h2 : ds.length ≠ 0 := fun e => h.ne (List.eq_nil_of_length_eq_zero e)
  unfold Go.Proofs.Ytgnnhenbmnopaaa.werr
  rw [Try.txt_size, if_neg (by omega), if_pos ⟨h2, txt_allD h.dig⟩]
def sayV (s : ByteArray) : Value := if werr s = 0 then Try.saidV (digs s) else .tuple #[.string ⟨#[]⟩, .int .i64 (werr s)]
def beforeV (s : ByteArray) : Value := if werr s = 0 then (match heard (digs s) with
  | some v => .tuple #[.string (Try.txt v), .int .i64 0]
  | none => .tuple #[.string ⟨#[]⟩, .int .i64 10]) else .tuple #[.string ⟨#[]⟩, .int .i64 (werr s)]
theorem sayV_word {ds : List Nat} (h : Wd ds) : sayV (Try.txt ds) = Try.saidV ds := by
  unfold sayV; rw [if_pos h.werr, digs_txt h.dig]
theorem sayV_err {s : ByteArray} (h : werr s ≠ 0) : sayV s = .tuple #[.string ⟨#[]⟩, .int .i64 (werr s)] := if_neg h
theorem beforeV_word {ds : List Nat} (h : Wd ds) : beforeV (Try.txt ds) = (match heard ds with
  | some v => .tuple #[.string (Try.txt v), .int .i64 0]
  | none => .tuple #[.string ⟨#[]⟩, .int .i64 10]) := by
  unfold beforeV; rw [if_pos h.werr, digs_txt h.dig]
theorem beforeV_err {s : ByteArray} (h : werr s ≠ 0) : beforeV s = .tuple #[.string ⟨#[]⟩, .int .i64 (werr s)] := if_neg h
theorem say_rets {X : Caller} (hX : Xok X) (s : ByteArray) (g : GH) : Rets Try.prog X 27 [.string s] g (fun v g' lo => g.next ≤ lo ∧ v = sayV s) := by
  refine Rets.run hX.pres p27 (hX.free 27 (by decide) _ _) rfl fun ho => ?_
  simp +decide (disch := first | assumption | (apply GH.ok_push; assumption) | exact cellV_int _ _ | exact cellV_bool _ | omega) only [go_sem, ↓reduceIte, Nat.reduceEqDiff, Nat.reduceAdd, Int.reduceToNat]
  refine CallD.calm (wordErr_rets hX.toXfr s _) ?_
  rintro v g1 hx1 rfl
  by_cases hz : werr s = 0
  · obtain ⟨ds, hw, rfl⟩ := werr_word hz
    simp +decide (disch := first | assumption | (apply GH.ok_push; assumption) | exact cellV_int _ _ | exact cellV_bool _ | omega) only [go_sem, ↓reduceIte, Nat.reduceEqDiff, Nat.reduceAdd, Int.reduceToNat, hz]
    refine CallD.calm (hX.said ds hw.dig (by have := hw.len; omega) _) ?_
    rintro v g2 hx2 ⟨rfl, rfl⟩
    simp only [Try.saidV]
    simp +decide (disch := first | assumption | (apply GH.ok_push; assumption) | exact cellV_int _ _ | exact cellV_bool _ | omega) only [go_sem, ↓reduceIte, Nat.reduceEqDiff, Nat.reduceAdd, Int.reduceToNat]
    intro hx
    refine ⟨by first | exact Nat.le_refl _ | omega, ?_⟩
    rw [sayV_word hw]
    rfl
  · have hz' : ¬ (werr s = 0) := hz
    simp +decide (disch := first | assumption | (apply GH.ok_push; assumption) | exact cellV_int _ _ | exact cellV_bool _ | omega) only [go_sem, ↓reduceIte, Nat.reduceEqDiff, Nat.reduceAdd, Int.reduceToNat, hz']
    intro hx
    exact ⟨by first | exact Nat.le_refl _ | omega, (sayV_err hz).symm⟩
theorem refSay_rets {X : Caller} (hX : Xok X) (s : ByteArray) (g : GH) : Rets Try.prog X 28 [.string s] g (fun v g' lo => g.next ≤ lo ∧ v = sayV s) := by
  refine Rets.run hX.pres p28 (hX.free 28 (by decide) _ _) rfl fun ho => ?_
  simp +decide (disch := first | assumption | (apply GH.ok_push; assumption) | exact cellV_int _ _ | exact cellV_bool _ | omega) only [go_sem, ↓reduceIte, Nat.reduceEqDiff, Nat.reduceAdd, Int.reduceToNat]
  refine CallD.calm (refWord_rets hX.toXfr s _) ?_
  rintro v g1 hx1 ⟨rfl, rfl⟩
  by_cases hz : werr s = 0
  · obtain ⟨ds, hw, rfl⟩ := werr_word hz
    simp +decide (disch := first | assumption | (apply GH.ok_push; assumption) | exact cellV_int _ _ | exact cellV_bool _ | omega) only [go_sem, ↓reduceIte, Nat.reduceEqDiff, Nat.reduceAdd, Int.reduceToNat, hz]
    refine CallD.calm (refSaid_rets hX.toXfr ds hw.dig (by have := hw.len; omega) _) ?_
    rintro v g2 hx2 rfl
    have hn2 := hx2.next
    simp only [rsaidV]
    by_cases c : Sayable ds
    · simp only [if_pos c, decide_eq_true c]
      simp +decide (disch := first | assumption | (apply GH.ok_push; assumption) | exact cellV_int _ _ | exact cellV_bool _ | omega) only [go_sem, ↓reduceIte, Nat.reduceEqDiff, Nat.reduceAdd, Int.reduceToNat]
      intro hx
      refine ⟨by first | exact Nat.le_refl _ | omega, ?_⟩
      rw [sayV_word hw, Try.saidV]
      simp only [if_pos c]
    · simp only [if_neg c, decide_eq_false c]
      simp +decide (disch := first | assumption | (apply GH.ok_push; assumption) | exact cellV_int _ _ | exact cellV_bool _ | omega) only [go_sem, ↓reduceIte, Nat.reduceEqDiff, Nat.reduceAdd, Int.reduceToNat]
      intro hx
      refine ⟨by first | exact Nat.le_refl _ | omega, ?_⟩
      rw [sayV_word hw, Try.saidV]
      simp only [if_neg c]
  · have hz' : ¬ (werr s = 0) := hz
    simp +decide (disch := first | assumption | (apply GH.ok_push; assumption) | exact cellV_int _ _ | exact cellV_bool _ | omega) only [go_sem, ↓reduceIte, Nat.reduceEqDiff, Nat.reduceAdd, Int.reduceToNat, hz']
    intro hx
    exact ⟨by first | exact Nat.le_refl _ | omega, (sayV_err hz).symm⟩
theorem beforeP_rets {X : Caller} (hX : Xok X) (s : ByteArray) (g : GH) : Rets Try.prog X 29 [.string s] g (fun v g' lo => g.next ≤ lo ∧ v = beforeV s) := by
  refine Rets.run hX.pres p29 (hX.free 29 (by decide) _ _) rfl fun ho => ?_
  simp +decide (disch := first | assumption | (apply GH.ok_push; assumption) | exact cellV_int _ _ | exact cellV_bool _ | omega) only [go_sem, ↓reduceIte, Nat.reduceEqDiff, Nat.reduceAdd, Int.reduceToNat]
  refine CallD.calm (wordErr_rets hX.toXfr s _) ?_
  rintro v g1 hx1 rfl
  have hn1 := hx1.next
  by_cases hz : werr s = 0
  · obtain ⟨ds, hw, rfl⟩ := werr_word hz
    simp +decide (disch := first | assumption | (apply GH.ok_push; assumption) | exact cellV_int _ _ | exact cellV_bool _ | omega) only [go_sem, ↓reduceIte, Nat.reduceEqDiff, Nat.reduceAdd, Int.reduceToNat, hz]
    refine CallD.calm (before_rets hX ds hw.dig (by have := hw.len; omega) _) ?_
    rintro v g2 hx2 rfl
    have hn2 := hx2.next
    cases hh : heard ds with
    | some v =>
      rw [heardV_some hh]
      simp +decide (disch := first | assumption | (apply GH.ok_push; assumption) | exact cellV_int _ _ | exact cellV_bool _ | omega) only [go_sem, ↓reduceIte, Nat.reduceEqDiff, Nat.reduceAdd, Int.reduceToNat]
      intro hx
      refine ⟨by first | exact Nat.le_refl _ | omega, ?_⟩
      rw [beforeV_word hw, hh]
    | none =>
      rw [heardV_none hh]
      simp +decide (disch := first | assumption | (apply GH.ok_push; assumption) | exact cellV_int _ _ | exact cellV_bool _ | omega) only [go_sem, ↓reduceIte, Nat.reduceEqDiff, Nat.reduceAdd, Int.reduceToNat]
      intro hx
      refine ⟨by first | exact Nat.le_refl _ | omega, ?_⟩
      rw [beforeV_word hw, hh]
  · have hz' : ¬ (werr s = 0) := hz
    simp +decide (disch := first | assumption | (apply GH.ok_push; assumption) | exact cellV_int _ _ | exact cellV_bool _ | omega) only [go_sem, ↓reduceIte, Nat.reduceEqDiff, Nat.reduceAdd, Int.reduceToNat, hz']
    intro hx
    exact ⟨by first | exact Nat.le_refl _ | omega, (beforeV_err hz).symm⟩
theorem refBefore_rets {X : Caller} (hX : Xok X) (s : ByteArray) (g : GH) : Rets Try.prog X 30 [.string s] g (fun v g' lo => g.next ≤ lo ∧ v = beforeV s) := by
  refine Rets.run hX.pres p30 (hX.free 30 (by decide) _ _) rfl fun ho => ?_
  simp +decide (disch := first | assumption | (apply GH.ok_push; assumption) | exact cellV_int _ _ | exact cellV_bool _ | omega) only [go_sem, ↓reduceIte, Nat.reduceEqDiff, Nat.reduceAdd, Int.reduceToNat]
  refine CallD.calm (refWord_rets hX.toXfr s _) ?_
  rintro v g1 hx1 ⟨rfl, rfl⟩
  have hn1 := hx1.next
  by_cases hz : werr s = 0
  · obtain ⟨ds, hw, rfl⟩ := werr_word hz
    simp +decide (disch := first | assumption | (apply GH.ok_push; assumption) | exact cellV_int _ _ | exact cellV_bool _ | omega) only [go_sem, ↓reduceIte, Nat.reduceEqDiff, Nat.reduceAdd, Int.reduceToNat, hz]
    refine CallD.calm (refHeard_rets hX.toXfr ds hw.dig (by have := hw.len; omega) _) ?_
    rintro v g2 hx2 rfl
    have hn2 := hx2.next
    cases hh : heard ds with
    | some v =>
      rw [heardV_some hh]
      simp +decide (disch := first | assumption | (apply GH.ok_push; assumption) | exact cellV_int _ _ | exact cellV_bool _ | omega) only [go_sem, ↓reduceIte, Nat.reduceEqDiff, Nat.reduceAdd, Int.reduceToNat]
      intro hx
      refine ⟨by first | exact Nat.le_refl _ | omega, ?_⟩
      rw [beforeV_word hw, hh]
    | none =>
      rw [heardV_none hh]
      simp +decide (disch := first | assumption | (apply GH.ok_push; assumption) | exact cellV_int _ _ | exact cellV_bool _ | omega) only [go_sem, ↓reduceIte, Nat.reduceEqDiff, Nat.reduceAdd, Int.reduceToNat]
      intro hx
      refine ⟨by first | exact Nat.le_refl _ | omega, ?_⟩
      rw [beforeV_word hw, hh]
  · have hz' : ¬ (werr s = 0) := hz
    simp +decide (disch := first | assumption | (apply GH.ok_push; assumption) | exact cellV_int _ _ | exact cellV_bool _ | omega) only [go_sem, ↓reduceIte, Nat.reduceEqDiff, Nat.reduceAdd, Int.reduceToNat, hz']
    intro hx
    exact ⟨by first | exact Nat.le_refl _ | omega, (beforeV_err hz).symm⟩
end Go.Proofs.Ytgnnhenbmnopaaa
set_option maxRecDepth 100000
set_option maxHeartbeats 8000000
set_option linter.unusedSimpArgs false
set_option linter.unusedVariables false
namespace Go.Proofs.Ytgnnhenbmnopaaa
open Go.Ds Go.Aw
theorem txt_inj {a b : List Nat} (ha : Dig a) (hb : Dig b) : Try.txt a = Try.txt b ↔ a = b := by
  refine ⟨fun h => ?_, fun h => by rw [h]⟩
  have := congrArg digs h
  rwa [digs_txt ha, digs_txt hb] at this
theorem dig22 : Dig [2, 2] := by intro d hd; simp at hd; omega
theorem txt22 : (⟨#[50, 50]⟩ : ByteArray) = Try.txt [2, 2] := rfl
theorem is22 {ds : List Nat} (hd : Dig ds) : (Try.txt ds = (⟨#[50, 50]⟩ : ByteArray)) ↔ ds = [2, 2] := by rw [txt22]; exact txt_inj hd dig22
open Classical in
noncomputable def ageN (ds : List Nat) : Nat := if h : ∃ n, Chain ds n then Classical.choose h else 0
theorem ageN_is {ds : List Nat} {n : Nat} (h : Chain ds n) : ageN ds = n := by
  have hx : ∃ n, Chain ds n := ⟨n, h⟩
  unfold ageN
  rw [dif_pos hx]
  exact Chain.det (Classical.choose_spec hx) h
noncomputable def ageV (s : ByteArray) : Value := if werr s = 0 then (if digs s = [2, 2] then .tuple #[.int .i64 0, .int .i64 9] else .tuple #[.int .i64 (ageN (digs s)), .int .i64 0]) else .tuple #[.int .i64 0, .int .i64 (werr s)]
theorem ageV_22 {ds : List Nat} (h : Wd ds) (h2 : ds = [2, 2]) : ageV (Try.txt ds) = .tuple #[.int .i64 0, .int .i64 9] := by
  unfold ageV; rw [if_pos h.werr, digs_txt h.dig, if_pos h2]
theorem ageV_n {ds : List Nat} (h : Wd ds) (h2 : ds ≠ [2, 2]) {n : Nat} (hc : Chain ds n) : ageV (Try.txt ds) = .tuple #[.int .i64 n, .int .i64 0] := by
  unfold ageV; rw [if_pos h.werr, digs_txt h.dig, if_neg h2, ageN_is hc]
theorem ageV_err {s : ByteArray} (h : werr s ≠ 0) : ageV s = .tuple #[.int .i64 0, .int .i64 (werr s)] := if_neg h
/-- The two values that say what was heard. -/
def heardS (ds : List Nat) : Value := match heard ds with
  | some v => .string (Try.txt v)
  | none => .string ⟨#[]⟩
def heardB (ds : List Nat) : Bool := (heard ds).isSome
theorem heardV_eq (ds : List Nat) : heardV ds = .tuple #[heardS ds, .bool (heardB ds)] := by
  unfold heardV heardS heardB
  cases heard ds <;> rfl
theorem age_rets {X : Caller} (hX : Xok X) (s : ByteArray) (g : GH) : Rets Try.prog X 31 [.string s] g (fun v g' lo => g.next ≤ lo ∧ v = ageV s) := by
  refine Rets.run hX.pres p31 (hX.free 31 (by decide) _ _) rfl fun ho => ?_
  simp +decide (disch := first | assumption | (apply GH.ok_push; assumption) | exact cellV_int _ _ | exact cellV_bool _ | omega) only [go_sem, ↓reduceIte, Nat.reduceEqDiff, Nat.reduceAdd, Int.reduceToNat]
  refine CallD.calm (wordErr_rets hX.toXfr s _) ?_
  rintro v g1 hx1 rfl
  have hn1 := hx1.next
  by_cases hz : werr s = 0
  · obtain ⟨ds, hw, rfl⟩ := werr_word hz
    have h2 := is22 hw.dig
    by_cases c22 : ds = [2, 2]
    · have c22' : decide (Try.txt ds = (⟨#[50, 50]⟩ : ByteArray)) = true := decide_eq_true (h2.2 c22)
      simp +decide (disch := first | assumption | (apply GH.ok_push; assumption) | exact cellV_int _ _ | exact cellV_bool _ | omega) only [go_sem, ↓reduceIte, Nat.reduceEqDiff, Nat.reduceAdd, Int.reduceToNat, hz, c22']
      intro hx
      exact ⟨by first | exact Nat.le_refl _ | omega, (ageV_22 hw c22).symm⟩
    · have c22' : ¬ (Try.txt ds = (⟨#[50, 50]⟩ : ByteArray)) := fun h => c22 (h2.1 h)
      have c23' : decide (Try.txt ds = (⟨#[50, 50]⟩ : ByteArray)) = false := decide_eq_false c22'
      obtain ⟨n, hnb, hc⟩ := chain_any hw.dig hw.ne c22
      have hwl := hw.len
      simp +decide (disch := first | assumption | (apply GH.ok_push; assumption) | exact cellV_int _ _ | exact cellV_bool _ | omega) only [go_sem, ↓reduceIte, Nat.reduceEqDiff, Nat.reduceAdd, Int.reduceToNat, hz, c23']
      refine CallD.calm (before_rets hX ds hw.dig (by omega) _) ?_
      rintro v g2 hx2 rfl
      have hn2 := hx2.next
      rw [heardV_eq]
      simp +decide (disch := first | assumption | (apply GH.ok_push; assumption) | exact cellV_int _ _ | exact cellV_bool _ | omega) only [go_sem, ↓reduceIte, Nat.reduceEqDiff, Nat.reduceAdd, Int.reduceToNat]
      refine Wk.loops (fun m e g' lo => g.next ≤ lo ∧ ∃ (k : Nat) (x : List Nat), (k ≤ n ∧ m = n - k) ∧ Dig x ∧ (heard x ≠ none → x.length ≤ 200) ∧ Chain x (n - k) ∧ (ev e (.s 5) = .int .i64 k ∧ ev e (.s 6) = heardS x ∧ ev e (.s 7) = .bool (heardB x)))
        (fun e g' lo => g.next ≤ lo ∧ ev e (.s 5) = .int .i64 n) (n := n) ?_ ?_ ?_
      · exact ⟨by first | exact Nat.le_refl _ | omega, 0, ds, ⟨Nat.zero_le _, rfl⟩, hw.dig, fun _ => hwl, hc, (by simp +decide (disch := first | assumption | (apply GH.ok_push; assumption) | exact cellV_int _ _ | exact cellV_bool _ | omega) only [go_sem, ↓reduceIte, Nat.reduceEqDiff, Nat.reduceAdd, Int.reduceToNat]; first | done | exact rfl)⟩
      · rintro e g' lo - - ⟨hlo, he⟩
        simp +decide (disch := first | assumption | (apply GH.ok_push; assumption) | exact cellV_int _ _ | exact cellV_bool _ | omega) only [go_sem, ↓reduceIte, Nat.reduceEqDiff, Nat.reduceAdd, Int.reduceToNat, he]
        intro hx
        exact ⟨hlo, (ageV_n hw c22 hc).symm⟩
      · rintro m e g' lo ho' hl' ih out ⟨hlo, k, x, ⟨hk, hm⟩, hd, hxl, hch, he⟩
        cases hh : heard x with
        | none =>
          have hb : heardB x = false := by unfold heardB; rw [hh]; rfl
          have hkn : k = n := by
            cases q : n - k with
            | zero => omega
            | succ q2 =>
              rw [q] at hch
              obtain ⟨v, e1, _⟩ := hch
              rw [hh] at e1; cases e1
          subst hkn
          simp +decide (disch := first | assumption | (apply GH.ok_push; assumption) | exact cellV_int _ _ | exact cellV_bool _ | omega) only [go_sem, ↓reduceIte, Nat.reduceEqDiff, Nat.reduceAdd, Int.reduceToNat, he, hb]
          exact out _ _ _ ⟨hlo, (by simp +decide (disch := first | assumption | (apply GH.ok_push; assumption) | exact cellV_int _ _ | exact cellV_bool _ | omega) only [go_sem, ↓reduceIte, Nat.reduceEqDiff, Nat.reduceAdd, Int.reduceToNat, he]; first | done | exact rfl)⟩
        | some v =>
          have hb : heardB x = true := by unfold heardB; rw [hh]; rfl
          have hs : heardS x = .string (Try.txt v) := by unfold heardS; rw [hh]
          have hxl2 := hxl (by rw [hh]; exact fun z => by cases z)
          have hvb := heard_bound hd hh
          have hvd := heard_dig hd hh
          have hkn : k < n ∧ Chain v (n - (k + 1)) := by
            cases q : n - k with
            | zero =>
              rw [q] at hch
              rw [show heard x = none from hch] at hh; cases hh
            | succ q2 =>
              rw [q] at hch
              obtain ⟨v2, e1, h3⟩ := hch
              rw [hh] at e1; cases e1
              refine ⟨by omega, ?_⟩
              rw [show n - (k + 1) = q2 by omega]
              exact h3
          simp +decide (disch := first | assumption | (apply GH.ok_push; assumption) | exact cellV_int _ _ | exact cellV_bool _ | omega) only [go_sem, ↓reduceIte, Nat.reduceEqDiff, Nat.reduceAdd, Int.reduceToNat, he, hb, hs]
          refine CallD.calm (before_rets hX v hvd (by omega) _) ?_
          rintro u g3 hx3 rfl
          have hn3 := hx3.next
          rw [heardV_eq]
          simp +decide (disch := first | assumption | (apply GH.ok_push; assumption) | exact cellV_int _ _ | exact cellV_bool _ | omega) only [go_sem, ↓reduceIte, Nat.reduceEqDiff, Nat.reduceAdd, Int.reduceToNat, he]
          refine ih (m - 1) _ _ _ (by omega) ⟨by omega, k + 1, v, ⟨by omega, by omega⟩, hvd, fun h => ?_, hkn.2, (by simp +decide (disch := first | assumption | (apply GH.ok_push; assumption) | exact cellV_int _ _ | exact cellV_bool _ | omega) only [go_sem, ↓reduceIte, Nat.reduceEqDiff, Nat.reduceAdd, Int.reduceToNat, he]; first | done | exact rfl)⟩
          cases hv : heard v with
          | none => exact absurd hv h
          | some u => have := heard_len hh hv; omega
  · have hz' : ¬ (werr s = 0) := hz
    simp +decide (disch := first | assumption | (apply GH.ok_push; assumption) | exact cellV_int _ _ | exact cellV_bool _ | omega) only [go_sem, ↓reduceIte, Nat.reduceEqDiff, Nat.reduceAdd, Int.reduceToNat, hz']
    intro hx
    exact ⟨by first | exact Nat.le_refl _ | omega, (ageV_err hz).symm⟩
theorem refAge_rets {X : Caller} (hX : Xok X) (s : ByteArray) (g : GH) : Rets Try.prog X 32 [.string s] g (fun v g' lo => g.next ≤ lo ∧ v = ageV s) := by
  refine Rets.run hX.pres p32 (hX.free 32 (by decide) _ _) rfl fun ho => ?_
  simp +decide (disch := first | assumption | (apply GH.ok_push; assumption) | exact cellV_int _ _ | exact cellV_bool _ | omega) only [go_sem, ↓reduceIte, Nat.reduceEqDiff, Nat.reduceAdd, Int.reduceToNat]
  refine CallD.calm (refWord_rets hX.toXfr s _) ?_
  rintro v g1 hx1 ⟨rfl, rfl⟩
  by_cases hz : werr s = 0
  · obtain ⟨ds, hw, rfl⟩ := werr_word hz
    have h2 := is22 hw.dig
    by_cases c22 : ds = [2, 2]
    · have c22' : decide (Try.txt ds = (⟨#[50, 50]⟩ : ByteArray)) = true := decide_eq_true (h2.2 c22)
      simp +decide (disch := first | assumption | (apply GH.ok_push; assumption) | exact cellV_int _ _ | exact cellV_bool _ | omega) only [go_sem, ↓reduceIte, Nat.reduceEqDiff, Nat.reduceAdd, Int.reduceToNat, hz, c22']
      intro hx
      exact ⟨by first | exact Nat.le_refl _ | omega, (ageV_22 hw c22).symm⟩
    · have c22' : ¬ (Try.txt ds = (⟨#[50, 50]⟩ : ByteArray)) := fun h => c22 (h2.1 h)
      have c23' : decide (Try.txt ds = (⟨#[50, 50]⟩ : ByteArray)) = false := decide_eq_false c22'
      obtain ⟨n, hnb, hc⟩ := chain_any hw.dig hw.ne c22
      have hwl := hw.len
      simp +decide (disch := first | assumption | (apply GH.ok_push; assumption) | exact cellV_int _ _ | exact cellV_bool _ | omega) only [go_sem, ↓reduceIte, Nat.reduceEqDiff, Nat.reduceAdd, Int.reduceToNat, hz, c23']
      refine CallD.calm (refHeard_rets hX.toXfr ds hw.dig (by omega) _) ?_
      rintro v g2 hx2 rfl
      have hn2 := hx2.next
      rw [heardV_eq]
      simp +decide (disch := first | assumption | (apply GH.ok_push; assumption) | exact cellV_int _ _ | exact cellV_bool _ | omega) only [go_sem, ↓reduceIte, Nat.reduceEqDiff, Nat.reduceAdd, Int.reduceToNat]
      refine Wk.loops (fun m e g' lo => g1.next ≤ lo ∧ ∃ (k : Nat) (x : List Nat), (k ≤ n ∧ m = n - k) ∧ Dig x ∧ (heard x ≠ none → x.length ≤ 200) ∧ Chain x (n - k) ∧ (ev e (.s 5) = .int .i64 k ∧ ev e (.s 6) = heardS x ∧ ev e (.s 7) = .bool (heardB x)))
        (fun e g' lo => g1.next ≤ lo ∧ ev e (.s 5) = .int .i64 n) (n := n) ?_ ?_ ?_
      · exact ⟨by first | exact Nat.le_refl _ | omega, 0, ds, ⟨Nat.zero_le _, rfl⟩, hw.dig, fun _ => hwl, hc, (by simp +decide (disch := first | assumption | (apply GH.ok_push; assumption) | exact cellV_int _ _ | exact cellV_bool _ | omega) only [go_sem, ↓reduceIte, Nat.reduceEqDiff, Nat.reduceAdd, Int.reduceToNat]; first | done | exact rfl)⟩
      · rintro e g' lo - - ⟨hlo, he⟩
        simp +decide (disch := first | assumption | (apply GH.ok_push; assumption) | exact cellV_int _ _ | exact cellV_bool _ | omega) only [go_sem, ↓reduceIte, Nat.reduceEqDiff, Nat.reduceAdd, Int.reduceToNat, he]
        intro hx
        exact ⟨hlo, (ageV_n hw c22 hc).symm⟩
      · rintro m e g' lo ho' hl' ih out ⟨hlo, k, x, ⟨hk, hm⟩, hd, hxl, hch, he⟩
        cases hh : heard x with
        | none =>
          have hb : heardB x = false := by unfold heardB; rw [hh]; rfl
          have hkn : k = n := by
            cases q : n - k with
            | zero => omega
            | succ q2 =>
              rw [q] at hch
              obtain ⟨v, e1, _⟩ := hch
              rw [hh] at e1; cases e1
          subst hkn
          simp +decide (disch := first | assumption | (apply GH.ok_push; assumption) | exact cellV_int _ _ | exact cellV_bool _ | omega) only [go_sem, ↓reduceIte, Nat.reduceEqDiff, Nat.reduceAdd, Int.reduceToNat, he, hb]
          exact out _ _ _ ⟨hlo, (by simp +decide (disch := first | assumption | (apply GH.ok_push; assumption) | exact cellV_int _ _ | exact cellV_bool _ | omega) only [go_sem, ↓reduceIte, Nat.reduceEqDiff, Nat.reduceAdd, Int.reduceToNat, he]; first | done | exact rfl)⟩
        | some v =>
          have hb : heardB x = true := by unfold heardB; rw [hh]; rfl
          have hs : heardS x = .string (Try.txt v) := by unfold heardS; rw [hh]
          have hxl2 := hxl (by rw [hh]; exact fun z => by cases z)
          have hvb := heard_bound hd hh
          have hvd := heard_dig hd hh
          have hkn : k < n ∧ Chain v (n - (k + 1)) := by
            cases q : n - k with
            | zero =>
              rw [q] at hch
              rw [show heard x = none from hch] at hh; cases hh
            | succ q2 =>
              rw [q] at hch
              obtain ⟨v2, e1, h3⟩ := hch
              rw [hh] at e1; cases e1
              refine ⟨by omega, ?_⟩
              rw [show n - (k + 1) = q2 by omega]
              exact h3
          simp +decide (disch := first | assumption | (apply GH.ok_push; assumption) | exact cellV_int _ _ | exact cellV_bool _ | omega) only [go_sem, ↓reduceIte, Nat.reduceEqDiff, Nat.reduceAdd, Int.reduceToNat, he, hb, hs]
          refine CallD.calm (refHeard_rets hX.toXfr v hvd (by omega) _) ?_
          rintro u g3 hx3 rfl
          have hn3 := hx3.next
          rw [heardV_eq]
          simp +decide (disch := first | assumption | (apply GH.ok_push; assumption) | exact cellV_int _ _ | exact cellV_bool _ | omega) only [go_sem, ↓reduceIte, Nat.reduceEqDiff, Nat.reduceAdd, Int.reduceToNat, he]
          refine ih (m - 1) _ _ _ (by omega) ⟨by omega, k + 1, v, ⟨by omega, by omega⟩, hvd, fun h => ?_, hkn.2, (by simp +decide (disch := first | assumption | (apply GH.ok_push; assumption) | exact cellV_int _ _ | exact cellV_bool _ | omega) only [go_sem, ↓reduceIte, Nat.reduceEqDiff, Nat.reduceAdd, Int.reduceToNat, he]; first | done | exact rfl)⟩
          cases hv : heard v with
          | none => exact absurd hv h
          | some u => have := heard_len hh hv; omega
  · have hz' : ¬ (werr s = 0) := hz
    simp +decide (disch := first | assumption | (apply GH.ok_push; assumption) | exact cellV_int _ _ | exact cellV_bool _ | omega) only [go_sem, ↓reduceIte, Nat.reduceEqDiff, Nat.reduceAdd, Int.reduceToNat, hz']
    intro hx
    exact ⟨by first | exact Nat.le_refl _ | omega, (ageV_err hz).symm⟩
end Go.Proofs.Ytgnnhenbmnopaaa
