import Derived.Test.YtngmaccaldhjcaaDoorDtG
import Derived.Test.YtngmaccaldhjcaaDoorKt
import Derived.KernelRfl
set_option linter.all false
set_option linter.unusedSimpArgs false
set_option linter.unnecessarySimpa false
set_option linter.unusedVariables false
set_option linter.unusedSectionVars false
set_option maxRecDepth 100000
set_option linter.unusedVariables false
namespace Go.Proofs.YtngmaccaldhjcaaDoor
open Go.RowKit
open Go.Ds
def isU8 (n : Nat) : Value → Bool
  | .int .u8 (.ofNat m) => Nat.beq m n
  | _ => false
theorem isU8_eq {n : Nat} {v : Value} (h : isU8 n v = true) : v = .int .u8 n := by
  unfold isU8 at h
  split at h
  · rw [Nat.eq_of_beq_eq_true h]; rfl
  · cases h
def tabT (h : AH) : Bool :=
  Nat.blt 0 h.next && match h.get 0 with
  | ⟨kd, cells, _, _, _, _, _, _, po⟩ => Nat.beq kd 4 && Nat.beq po 2 && match cells with
    | a :: b :: _ :: d :: _ => isU8 0 a && isU8 1 b && isU8 2 d
    | _ => false
theorem tabT_world [Inhabited Bound] (φ : Phi) (h : AH) (B : Nat) (w : World) (E : Emb φ h B w) (ht : tabT h = true) : TabW w := by
  unfold tabT at ht
  rw [Bool.and_eq_true] at ht
  obtain ⟨h1, h2⟩ := ht
  have h1 : 0 < h.next := by rw [blt_d] at h1; simpa using h1
  generalize hob : h.get 0 = ob at h2
  obtain ⟨kd, cells, el, fam, sl, es, cl, st, po⟩ := ob
  simp only [Bool.and_eq_true] at h2
  obtain ⟨⟨hk, hp⟩, h3⟩ := h2
  split at h3
  · rename_i a b c d l
    simp only [Bool.and_eq_true] at h3
    obtain ⟨⟨ha, hb⟩, hd⟩ := h3
    have k4 : (h.get 0).kind = 4 := by rw [hob]; exact Nat.eq_of_beq_eq_true hk
    have p2 : (h.get 0).pos = 1 + 1 := by rw [hob]; exact Nat.eq_of_beq_eq_true hp
    exact ⟨E.tab h1 k4 p2 (k := 0) (by rw [hob, isU8_eq ha]; rfl) rfl rfl, E.tab h1 k4 p2 (k := 1) (by rw [hob, isU8_eq hb]; rfl) rfl rfl, E.tab h1 k4 p2 (k := 3) (by rw [hob, isU8_eq hd]; rfl) rfl rfl⟩
  · cases h3
def tzK (f : FuncId) (args : List Value) : Option Value :=
  bif Nat.beq f 87 then match args with
  | [.int .u64 (.ofNat x)] => bif Nat.ble 1 x && Nat.ble x 7 then some (.int .i64 (.ofNat (tzN x))) else none
  | _ => none
  else none
theorem tzK_sound : ∀ f args v, tzK f args = some v → KnownI Tryd.prog TabW f args v := by
  have inst : Inhabited Bound := ⟨⟨0⟩⟩
  intro f args v h
  unfold tzK at h
  obtain ⟨hf, h2⟩ := bif_some h
  have hf := beq_eq hf
  subst hf
  split at h2
  · rename_i x
    obtain ⟨hx, h3⟩ := bif_some h2
    simp only [Bool.and_eq_true] at hx
    cases h3
    exact KnownI.of_calls Tryd.func87 (by kernel_rfl) (by kernel_rfl) fun w hw => tz_calls x (Nat.le_of_ble_eq_true hx.1) (Nat.le_of_ble_eq_true hx.2) w hw
  · cases h2
def tabCells : List Value := [.int .u8 0, .int .u8 1, junkV, .int .u8 2]
theorem Tryd.mixed : Tryd.prog.follows .mixedOrders = true := by kernel_rfl
@[reducible] def bigRoom : Inhabited Bound := ⟨⟨1000000000⟩⟩
theorem alive_ev : isTrueL 1 (@evK bigRoom Tryd.prog (knownT tabT tzK) 100000 50 16 [] ((seenP tabCells 1 []).at 1)) = true := by kernel_rfl
theorem TabW.tabIn {w : World} (h : TabW w) : TabIn w 1 tabCells := by
  obtain ⟨h0, h1, h2⟩ := h
  obtain ⟨_, c, t, fr, hc, _⟩ := cell_has h0
  have g : ∀ (k : Nat) v, w.cell? ⟨1, k, none⟩ = some v → c[k]? = some v := by
    intro k v hk
    unfold World.cell? at hk
    rw [hc] at hk
    simpa using hk
  refine ⟨c, t, fr, hc, fun k v hk => ?_⟩
  match k with
  | 0 => cases hk; exact .inr ⟨g 0 _ h0, rfl⟩
  | 1 => cases hk; exact .inr ⟨g 1 _ h1, rfl⟩
  | 2 => cases hk; exact .inl rfl
  | 3 => cases hk; exact .inr ⟨g 3 _ h2, rfl⟩
  | k + 4 => simp [tabCells] at hk
theorem alive_calls (w : World) (hw : TabW w) : Calls Tryd.prog 16 #[] w fun e w' => e = .returned (.bool true) ∧ RowKit.Below w.heap.size w w' :=
  @call_of_tab bigRoom Tryd.prog (knownT tabT tzK) (@knownT_orac bigRoom Tryd.prog tabT TabW tzK (fun φ h B w => @tabT_world bigRoom φ h B w) tzK_sound) Tryd.mixed 100000 49 16 tabCells 1 (by decide) (by kernel_rfl) alive_ev w hw.tabIn
end Go.Proofs.YtngmaccaldhjcaaDoor
