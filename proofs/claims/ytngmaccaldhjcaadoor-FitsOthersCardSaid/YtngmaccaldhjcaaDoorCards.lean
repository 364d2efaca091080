/-
  DERIVED. GIVEN WITH THE SEED: THE CARDS: each row of YtngmaccaldhjcaaDoorRows.lean that lists a variable, with what it lists TIED to the program's text (the seventh form; the later family's looks); each row that meets fmt, with fmt's text TOLD by the authors' own Lean function (tested against real Go, not proved from fmt's source: count such statements apart). THE CARD IS WHAT COUNTS. Prove the row's statement (the work); the ties are given (YtngmaccaldhjcaaDoorTie.lean); close each card by the builder's one call (the guide's Derived/Test/ToyasCard.lean, 'card_holds'). Laid BY PROGRAM, IN A SANDBOX (cutbox-door.mjs). By AI agents, Wed Nov 11 2026. No macro, syntax, notation, axiom, sorry.
-/
import Derived.Test.YtngmaccaldhjcaaDoorRows
import GoSem.ClaimSeven
namespace Go.Proofs.YtngmaccaldhjcaaDoor
namespace Rows

/-- THE TIED CARD OF 'clochelaw06.FitsGains'. -/
def fitsGainsCard : Claim7 := { stood := { row := fitsGainsRow, standIns := [], harness := (true, "75be6b8a0160bc6dc50e80f3e2eb776b556dbdc2a1f63662a9c8369ed8ec9dbf"), looks := false }, kinds := [], alts := [], laidByText := true, laidKinds := [.data, .data], laidTests := true, laidLooks := .later }
def FitsGainsCardSaid : Prop := Claim7.holds Tryd.pinned (.plain (OpenSpec.ofChange fitsGainsSpec)) fitsGainsCard

/-- THE TIED CARD OF 'clochelaw06.FitsRests'. -/
def fitsRestsCard : Claim7 := { stood := { row := fitsRestsRow, standIns := [], harness := (true, "75be6b8a0160bc6dc50e80f3e2eb776b556dbdc2a1f63662a9c8369ed8ec9dbf"), looks := false }, kinds := [], alts := [], laidByText := true, laidKinds := [.data, .data], laidTests := true, laidLooks := .later }
def FitsRestsCardSaid : Prop := Claim7.holds Tryd.pinned (.plain (OpenSpec.ofChange fitsRestsSpec)) fitsRestsCard

/-- THE TIED CARD OF 'clochelaw06.FitsLasting'. -/
def fitsLastingCard : Claim7 := { stood := { row := fitsLastingRow, standIns := [], harness := (true, "75be6b8a0160bc6dc50e80f3e2eb776b556dbdc2a1f63662a9c8369ed8ec9dbf"), looks := false }, kinds := [], alts := [], laidByText := true, laidKinds := [.data, .data], laidTests := true, laidLooks := .later }
def FitsLastingCardSaid : Prop := Claim7.holds Tryd.pinned (.plain (OpenSpec.ofChange fitsLastingSpec)) fitsLastingCard

/-- THE TIED CARD OF 'clochelaw06.FitsLimits'. -/
def fitsLimitsCard : Claim7 := { stood := { row := fitsLimitsRow, standIns := [], harness := (true, "75be6b8a0160bc6dc50e80f3e2eb776b556dbdc2a1f63662a9c8369ed8ec9dbf"), looks := false }, kinds := [], alts := [], laidByText := true, laidKinds := [.data, .data], laidTests := true, laidLooks := .later }
def FitsLimitsCardSaid : Prop := Claim7.holds Tryd.pinned (.plain (OpenSpec.ofChange fitsLimitsSpec)) fitsLimitsCard

/-- THE TIED CARD OF 'clochelaw06.FitsShifts'. -/
def fitsShiftsCard : Claim7 := { stood := { row := fitsShiftsRow, standIns := [], harness := (true, "75be6b8a0160bc6dc50e80f3e2eb776b556dbdc2a1f63662a9c8369ed8ec9dbf"), looks := false }, kinds := [], alts := [], laidByText := true, laidKinds := [.data, .data], laidTests := true, laidLooks := .later }
def FitsShiftsCardSaid : Prop := Claim7.holds Tryd.pinned (.plain (OpenSpec.ofChange fitsShiftsSpec)) fitsShiftsCard

/-- THE TIED CARD OF 'clochelaw06.FitsRest'. -/
def fitsRestCard : Claim7 := { stood := { row := fitsRestRow, standIns := [], harness := (true, "75be6b8a0160bc6dc50e80f3e2eb776b556dbdc2a1f63662a9c8369ed8ec9dbf"), looks := false }, kinds := [], alts := [], laidByText := true, laidKinds := [.data, .data], laidTests := true, laidLooks := .later }
def FitsRestCardSaid : Prop := Claim7.holds Tryd.pinned (.plain (OpenSpec.ofChange fitsRestSpec)) fitsRestCard

/-- THE TIED CARD OF 'clochelaw06.FitsBishop'. -/
def fitsBishopCard : Claim7 := { stood := { row := fitsBishopRow, standIns := [], harness := (true, "75be6b8a0160bc6dc50e80f3e2eb776b556dbdc2a1f63662a9c8369ed8ec9dbf"), looks := false }, kinds := [], alts := [], laidByText := true, laidKinds := [.data, .data], laidTests := true, laidLooks := .later }
def FitsBishopCardSaid : Prop := Claim7.holds Tryd.pinned (.plain (OpenSpec.ofChange fitsBishopSpec)) fitsBishopCard

/-- THE TIED CARD OF 'clochelaw06.FitsHaigh'. -/
def fitsHaighCard : Claim7 := { stood := { row := fitsHaighRow, standIns := [], harness := (true, "75be6b8a0160bc6dc50e80f3e2eb776b556dbdc2a1f63662a9c8369ed8ec9dbf"), looks := false }, kinds := [], alts := [], laidByText := true, laidKinds := [.data, .data], laidTests := true, laidLooks := .later }
def FitsHaighCardSaid : Prop := Claim7.holds Tryd.pinned (.plain (OpenSpec.ofChange fitsHaighSpec)) fitsHaighCard

/-- THE TIED CARD OF 'clochelaw06.FitsOthers'. -/
def fitsOthersCard : Claim7 := { stood := { row := fitsOthersRow, standIns := [], harness := (true, "75be6b8a0160bc6dc50e80f3e2eb776b556dbdc2a1f63662a9c8369ed8ec9dbf"), looks := false }, kinds := [], alts := [], laidByText := true, laidKinds := [.data, .data], laidTests := true, laidLooks := .later }
def FitsOthersCardSaid : Prop := Claim7.holds Tryd.pinned (.plain (OpenSpec.ofChange fitsOthersSpec)) fitsOthersCard

/-- THE TIED CARD OF 'clochelaw06.FitsAlone'. -/
def fitsAloneCard : Claim7 := { stood := { row := fitsAloneRow, standIns := [], harness := (true, "75be6b8a0160bc6dc50e80f3e2eb776b556dbdc2a1f63662a9c8369ed8ec9dbf"), looks := false }, kinds := [], alts := [], laidByText := true, laidKinds := [.data, .data], laidTests := true, laidLooks := .later }
def FitsAloneCardSaid : Prop := Claim7.holds Tryd.pinned (.plain (OpenSpec.ofChange fitsAloneSpec)) fitsAloneCard

/-- THE TIED CARD OF 'clochelaw06.FitsShifted'. -/
def fitsShiftedCard : Claim7 := { stood := { row := fitsShiftedRow, standIns := [], harness := (true, "75be6b8a0160bc6dc50e80f3e2eb776b556dbdc2a1f63662a9c8369ed8ec9dbf"), looks := false }, kinds := [], alts := [], laidByText := true, laidKinds := [.data, .data], laidTests := true, laidLooks := .later }
def FitsShiftedCardSaid : Prop := Claim7.holds Tryd.pinned (.plain (OpenSpec.ofChange fitsShiftedSpec)) fitsShiftedCard

/-- THE TIED CARD OF 'clochelaw06.FitsRings'. -/
def fitsRingsCard : Claim7 := { stood := { row := fitsRingsRow, standIns := [], harness := (true, "75be6b8a0160bc6dc50e80f3e2eb776b556dbdc2a1f63662a9c8369ed8ec9dbf"), looks := false }, kinds := [], alts := [], laidByText := true, laidKinds := [.data, .data], laidTests := true, laidLooks := .later }
def FitsRingsCardSaid : Prop := Claim7.holds Tryd.pinned (.plain (OpenSpec.ofChange fitsRingsSpec)) fitsRingsCard

/-- THE SECOND FORM's CARD OF 'clochelaw06.FitsGains'. -/
def fitsGainsUptoCard : Claim7 := { stood := { row := fitsGainsUptoRow, standIns := [], harness := (true, "75be6b8a0160bc6dc50e80f3e2eb776b556dbdc2a1f63662a9c8369ed8ec9dbf"), looks := false }, kinds := [], alts := [], laidByText := true, laidKinds := [.data, .data], laidTests := true, laidLooks := .later }
def FitsGainsUptoCardSaid : Prop := Claim7.holds Tryd.pinned (.plain (OpenSpec.upto fitsGainsSpec)) fitsGainsUptoCard

/-- THE SECOND FORM's CARD OF 'clochelaw06.FitsRests'. -/
def fitsRestsUptoCard : Claim7 := { stood := { row := fitsRestsUptoRow, standIns := [], harness := (true, "75be6b8a0160bc6dc50e80f3e2eb776b556dbdc2a1f63662a9c8369ed8ec9dbf"), looks := false }, kinds := [], alts := [], laidByText := true, laidKinds := [.data, .data], laidTests := true, laidLooks := .later }
def FitsRestsUptoCardSaid : Prop := Claim7.holds Tryd.pinned (.plain (OpenSpec.upto fitsRestsSpec)) fitsRestsUptoCard

/-- THE SECOND FORM's CARD OF 'clochelaw06.FitsLasting'. -/
def fitsLastingUptoCard : Claim7 := { stood := { row := fitsLastingUptoRow, standIns := [], harness := (true, "75be6b8a0160bc6dc50e80f3e2eb776b556dbdc2a1f63662a9c8369ed8ec9dbf"), looks := false }, kinds := [], alts := [], laidByText := true, laidKinds := [.data, .data], laidTests := true, laidLooks := .later }
def FitsLastingUptoCardSaid : Prop := Claim7.holds Tryd.pinned (.plain (OpenSpec.upto fitsLastingSpec)) fitsLastingUptoCard

/-- THE SECOND FORM's CARD OF 'clochelaw06.FitsLimits'. -/
def fitsLimitsUptoCard : Claim7 := { stood := { row := fitsLimitsUptoRow, standIns := [], harness := (true, "75be6b8a0160bc6dc50e80f3e2eb776b556dbdc2a1f63662a9c8369ed8ec9dbf"), looks := false }, kinds := [], alts := [], laidByText := true, laidKinds := [.data, .data], laidTests := true, laidLooks := .later }
def FitsLimitsUptoCardSaid : Prop := Claim7.holds Tryd.pinned (.plain (OpenSpec.upto fitsLimitsSpec)) fitsLimitsUptoCard

/-- THE SECOND FORM's CARD OF 'clochelaw06.FitsShifts'. -/
def fitsShiftsUptoCard : Claim7 := { stood := { row := fitsShiftsUptoRow, standIns := [], harness := (true, "75be6b8a0160bc6dc50e80f3e2eb776b556dbdc2a1f63662a9c8369ed8ec9dbf"), looks := false }, kinds := [], alts := [], laidByText := true, laidKinds := [.data, .data], laidTests := true, laidLooks := .later }
def FitsShiftsUptoCardSaid : Prop := Claim7.holds Tryd.pinned (.plain (OpenSpec.upto fitsShiftsSpec)) fitsShiftsUptoCard

/-- THE SECOND FORM's CARD OF 'clochelaw06.FitsRest'. -/
def fitsRestUptoCard : Claim7 := { stood := { row := fitsRestUptoRow, standIns := [], harness := (true, "75be6b8a0160bc6dc50e80f3e2eb776b556dbdc2a1f63662a9c8369ed8ec9dbf"), looks := false }, kinds := [], alts := [], laidByText := true, laidKinds := [.data, .data], laidTests := true, laidLooks := .later }
def FitsRestUptoCardSaid : Prop := Claim7.holds Tryd.pinned (.plain (OpenSpec.upto fitsRestSpec)) fitsRestUptoCard

/-- THE SECOND FORM's CARD OF 'clochelaw06.FitsBishop'. -/
def fitsBishopUptoCard : Claim7 := { stood := { row := fitsBishopUptoRow, standIns := [], harness := (true, "75be6b8a0160bc6dc50e80f3e2eb776b556dbdc2a1f63662a9c8369ed8ec9dbf"), looks := false }, kinds := [], alts := [], laidByText := true, laidKinds := [.data, .data], laidTests := true, laidLooks := .later }
def FitsBishopUptoCardSaid : Prop := Claim7.holds Tryd.pinned (.plain (OpenSpec.upto fitsBishopSpec)) fitsBishopUptoCard

/-- THE SECOND FORM's CARD OF 'clochelaw06.FitsHaigh'. -/
def fitsHaighUptoCard : Claim7 := { stood := { row := fitsHaighUptoRow, standIns := [], harness := (true, "75be6b8a0160bc6dc50e80f3e2eb776b556dbdc2a1f63662a9c8369ed8ec9dbf"), looks := false }, kinds := [], alts := [], laidByText := true, laidKinds := [.data, .data], laidTests := true, laidLooks := .later }
def FitsHaighUptoCardSaid : Prop := Claim7.holds Tryd.pinned (.plain (OpenSpec.upto fitsHaighSpec)) fitsHaighUptoCard

/-- THE SECOND FORM's CARD OF 'clochelaw06.FitsOthers'. -/
def fitsOthersUptoCard : Claim7 := { stood := { row := fitsOthersUptoRow, standIns := [], harness := (true, "75be6b8a0160bc6dc50e80f3e2eb776b556dbdc2a1f63662a9c8369ed8ec9dbf"), looks := false }, kinds := [], alts := [], laidByText := true, laidKinds := [.data, .data], laidTests := true, laidLooks := .later }
def FitsOthersUptoCardSaid : Prop := Claim7.holds Tryd.pinned (.plain (OpenSpec.upto fitsOthersSpec)) fitsOthersUptoCard

/-- THE SECOND FORM's CARD OF 'clochelaw06.FitsAlone'. -/
def fitsAloneUptoCard : Claim7 := { stood := { row := fitsAloneUptoRow, standIns := [], harness := (true, "75be6b8a0160bc6dc50e80f3e2eb776b556dbdc2a1f63662a9c8369ed8ec9dbf"), looks := false }, kinds := [], alts := [], laidByText := true, laidKinds := [.data, .data], laidTests := true, laidLooks := .later }
def FitsAloneUptoCardSaid : Prop := Claim7.holds Tryd.pinned (.plain (OpenSpec.upto fitsAloneSpec)) fitsAloneUptoCard

/-- THE SECOND FORM's CARD OF 'clochelaw06.FitsShifted'. -/
def fitsShiftedUptoCard : Claim7 := { stood := { row := fitsShiftedUptoRow, standIns := [], harness := (true, "75be6b8a0160bc6dc50e80f3e2eb776b556dbdc2a1f63662a9c8369ed8ec9dbf"), looks := false }, kinds := [], alts := [], laidByText := true, laidKinds := [.data, .data], laidTests := true, laidLooks := .later }
def FitsShiftedUptoCardSaid : Prop := Claim7.holds Tryd.pinned (.plain (OpenSpec.upto fitsShiftedSpec)) fitsShiftedUptoCard

/-- THE SECOND FORM's CARD OF 'clochelaw06.FitsRings'. -/
def fitsRingsUptoCard : Claim7 := { stood := { row := fitsRingsUptoRow, standIns := [], harness := (true, "75be6b8a0160bc6dc50e80f3e2eb776b556dbdc2a1f63662a9c8369ed8ec9dbf"), looks := false }, kinds := [], alts := [], laidByText := true, laidKinds := [.data, .data], laidTests := true, laidLooks := .later }
def FitsRingsUptoCardSaid : Prop := Claim7.holds Tryd.pinned (.plain (OpenSpec.upto fitsRingsSpec)) fitsRingsUptoCard
end Rows
end Go.Proofs.YtngmaccaldhjcaaDoor
