/-
  NARROWER THAN 'FOR EVERY INPUT', by the rows' own cells (each row's printed sentence says how): FitsGains: laid · FitsRests: laid · FitsLasting: laid · FitsLimits: laid · FitsShifts: laid · FitsRest: laid · FitsBishop: laid · FitsHaigh: laid · FitsOthers: laid · FitsAlone: laid · FitsShifted: laid · FitsRings: laid.
  DERIVED. THE GIVEN ROWS OF THIS SEAT. 12 by the template 'for every input the law returns true; each argument reads behind the call as it read before'; 0 by the template 'total and deterministic' (their statements: YtngmaccaldhjcaaDoorTotals.lean).
  GIVEN WITH THE SEED: the statements are not yours to turn. If you find one false, say at which input.
  Laid BY PROGRAM, IN A SANDBOX (cutbox-rows.mjs): the forced cells as the released guide's own fill.sh prints them over the translation dabfb5a7cc81e4ac… (all of the seat's roots in one cut). By AI agents, Wed Nov 11 2026. No macro, syntax, notation, axiom, sorry.
-/
import Derived.Test.YtngmaccaldhjcaaDoorChecked
import GoSem.Claim
import GoSem.ClaimJoined
import GoSem.ClaimMapViews
import Derived.JoinedTies
import Derived.KernelRfl
namespace Go.Proofs.YtngmaccaldhjcaaDoor
/- THE CELL 'sum', in the pinned program and in every row, IS THE sha256 OF THE DUMP (.gsa) THAT YtngmaccaldhjcaaDoorProg.lean LOADS. Nothing in Lean hashes anything: it is a label: what it is worth is what the hold of that sum in a sandbox is worth. -/
noncomputable def Tryd.pinned : Pinned := { name := "ytngmaccaldhjcaadoor", sum := "dabfb5a7cc81e4acb3340188934089b037b0ed317a9e04fad5ed1cc92da9f6ae", checked := Tryd.checked }
namespace Rows
def none {H : Type} : Left H := { results := [], args := [] }

/- WHAT THE LISTED PACKAGE-LEVEL VARIABLES READ AS WHEN THE CALL BEGINS. Each datum BY PROGRAM (the guide's laid-datum.mjs) off the statement by which the dump's own 'gosem.cut.vars' lays the variable. In a bare row this is a premise. The card (YtngmaccaldhjcaaDoorCards.lean) ties it to the program's text. -/
def laid_math_bits_deBruijn32tab {H : Type} : DataW H := .agg [.lit (.int .u8 0), .lit (.int .u8 1), .lit (.int .u8 28), .lit (.int .u8 2), .lit (.int .u8 29), .lit (.int .u8 14), .lit (.int .u8 24), .lit (.int .u8 3), .lit (.int .u8 30), .lit (.int .u8 22), .lit (.int .u8 20), .lit (.int .u8 15), .lit (.int .u8 25), .lit (.int .u8 17), .lit (.int .u8 4), .lit (.int .u8 8), .lit (.int .u8 31), .lit (.int .u8 27), .lit (.int .u8 13), .lit (.int .u8 23), .lit (.int .u8 21), .lit (.int .u8 19), .lit (.int .u8 16), .lit (.int .u8 7), .lit (.int .u8 26), .lit (.int .u8 12), .lit (.int .u8 18), .lit (.int .u8 6), .lit (.int .u8 11), .lit (.int .u8 5), .lit (.int .u8 10), .lit (.int .u8 9)]
def laid_math_bits_deBruijn64tab {H : Type} : DataW H := .agg [.lit (.int .u8 0), .lit (.int .u8 1), .lit (.int .u8 56), .lit (.int .u8 2), .lit (.int .u8 57), .lit (.int .u8 49), .lit (.int .u8 28), .lit (.int .u8 3), .lit (.int .u8 61), .lit (.int .u8 58), .lit (.int .u8 42), .lit (.int .u8 50), .lit (.int .u8 38), .lit (.int .u8 29), .lit (.int .u8 17), .lit (.int .u8 4), .lit (.int .u8 62), .lit (.int .u8 47), .lit (.int .u8 59), .lit (.int .u8 36), .lit (.int .u8 45), .lit (.int .u8 43), .lit (.int .u8 51), .lit (.int .u8 22), .lit (.int .u8 53), .lit (.int .u8 39), .lit (.int .u8 33), .lit (.int .u8 30), .lit (.int .u8 24), .lit (.int .u8 18), .lit (.int .u8 12), .lit (.int .u8 5), .lit (.int .u8 63), .lit (.int .u8 55), .lit (.int .u8 48), .lit (.int .u8 27), .lit (.int .u8 60), .lit (.int .u8 41), .lit (.int .u8 37), .lit (.int .u8 16), .lit (.int .u8 46), .lit (.int .u8 35), .lit (.int .u8 44), .lit (.int .u8 21), .lit (.int .u8 52), .lit (.int .u8 32), .lit (.int .u8 23), .lit (.int .u8 11), .lit (.int .u8 54), .lit (.int .u8 26), .lit (.int .u8 40), .lit (.int .u8 15), .lit (.int .u8 34), .lit (.int .u8 20), .lit (.int .u8 31), .lit (.int .u8 10), .lit (.int .u8 25), .lit (.int .u8 14), .lit (.int .u8 19), .lit (.int .u8 9), .lit (.int .u8 13), .lit (.int .u8 8), .lit (.int .u8 7), .lit (.int .u8 6)]

/-- 'clochelaw06.FitsGains': WHATEVER THE INPUT: true; the input reads as it did. -/
def fitsGainsSpec : ChangeSpec := { name := "fitsGains", fn := fun _ => fun
  | [d1, d2, d3, d4] => { results := [.lit (.bool true)], args := [d1, d2, d3, d4] }
  | _ => none }
def fitsGainsRow : OpenClaim := { program := "ytngmaccaldhjcaadoor", sum := "dabfb5a7cc81e4acb3340188934089b037b0ed317a9e04fad5ed1cc92da9f6ae", func := "cloche/clochelaw06.FitsGains", spec := "fitsGains", named := ["math/bits.deBruijn32tab", "math/bits.deBruijn64tab"], apart := false, laid := [("math/bits.deBruijn32tab", laid_math_bits_deBruijn32tab), ("math/bits.deBruijn64tab", laid_math_bits_deBruijn64tab)] }
def FitsGainsSaid : Prop := fitsGainsRow.holds Tryd.pinned (OpenSpec.ofChange fitsGainsSpec)

/-- ITS FALSE NEIGHBOUR: 'it returns false'. Refute it at one input. -/
def fitsGainsWrong : ChangeSpec := { name := "fitsGains", fn := fun _ => fun
  | [d1, d2, d3, d4] => { results := [.lit (.bool false)], args := [d1, d2, d3, d4] }
  | _ => none }
def FitsGainsWrongFalsely : Prop := fitsGainsRow.holds Tryd.pinned (OpenSpec.ofChange fitsGainsWrong)

/-- 'clochelaw06.FitsRests': WHATEVER THE INPUT: true; the input reads as it did. -/
def fitsRestsSpec : ChangeSpec := { name := "fitsRests", fn := fun _ => fun
  | [d1, d2, d3] => { results := [.lit (.bool true)], args := [d1, d2, d3] }
  | _ => none }
def fitsRestsRow : OpenClaim := { program := "ytngmaccaldhjcaadoor", sum := "dabfb5a7cc81e4acb3340188934089b037b0ed317a9e04fad5ed1cc92da9f6ae", func := "cloche/clochelaw06.FitsRests", spec := "fitsRests", named := ["math/bits.deBruijn32tab", "math/bits.deBruijn64tab"], apart := false, laid := [("math/bits.deBruijn32tab", laid_math_bits_deBruijn32tab), ("math/bits.deBruijn64tab", laid_math_bits_deBruijn64tab)] }
def FitsRestsSaid : Prop := fitsRestsRow.holds Tryd.pinned (OpenSpec.ofChange fitsRestsSpec)

/-- ITS FALSE NEIGHBOUR: 'it returns false'. Refute it at one input. -/
def fitsRestsWrong : ChangeSpec := { name := "fitsRests", fn := fun _ => fun
  | [d1, d2, d3] => { results := [.lit (.bool false)], args := [d1, d2, d3] }
  | _ => none }
def FitsRestsWrongFalsely : Prop := fitsRestsRow.holds Tryd.pinned (OpenSpec.ofChange fitsRestsWrong)

/-- 'clochelaw06.FitsLasting': WHATEVER THE INPUT: true; the input reads as it did. -/
def fitsLastingSpec : ChangeSpec := { name := "fitsLasting", fn := fun _ => fun
  | [d] => { results := [.lit (.bool true)], args := [d] }
  | _ => none }
def fitsLastingRow : OpenClaim := { program := "ytngmaccaldhjcaadoor", sum := "dabfb5a7cc81e4acb3340188934089b037b0ed317a9e04fad5ed1cc92da9f6ae", func := "cloche/clochelaw06.FitsLasting", spec := "fitsLasting", named := ["math/bits.deBruijn32tab", "math/bits.deBruijn64tab"], apart := false, laid := [("math/bits.deBruijn32tab", laid_math_bits_deBruijn32tab), ("math/bits.deBruijn64tab", laid_math_bits_deBruijn64tab)] }
def FitsLastingSaid : Prop := fitsLastingRow.holds Tryd.pinned (OpenSpec.ofChange fitsLastingSpec)

/-- ITS FALSE NEIGHBOUR: 'it returns false'. Refute it at one input. -/
def fitsLastingWrong : ChangeSpec := { name := "fitsLasting", fn := fun _ => fun
  | [d] => { results := [.lit (.bool false)], args := [d] }
  | _ => none }
def FitsLastingWrongFalsely : Prop := fitsLastingRow.holds Tryd.pinned (OpenSpec.ofChange fitsLastingWrong)

/-- 'clochelaw06.FitsLimits': WHATEVER THE INPUT: true; the input reads as it did. -/
def fitsLimitsSpec : ChangeSpec := { name := "fitsLimits", fn := fun _ => fun
  | [d1, d2, d3] => { results := [.lit (.bool true)], args := [d1, d2, d3] }
  | _ => none }
def fitsLimitsRow : OpenClaim := { program := "ytngmaccaldhjcaadoor", sum := "dabfb5a7cc81e4acb3340188934089b037b0ed317a9e04fad5ed1cc92da9f6ae", func := "cloche/clochelaw06.FitsLimits", spec := "fitsLimits", unfollowed := true, recurses := true, named := ["math/bits.deBruijn32tab", "math/bits.deBruijn64tab"], apart := false, laid := [("math/bits.deBruijn32tab", laid_math_bits_deBruijn32tab), ("math/bits.deBruijn64tab", laid_math_bits_deBruijn64tab)] }
def FitsLimitsSaid : Prop := fitsLimitsRow.holds Tryd.pinned (OpenSpec.ofChange fitsLimitsSpec)

/-- ITS FALSE NEIGHBOUR: 'it returns false'. Refute it at one input. -/
def fitsLimitsWrong : ChangeSpec := { name := "fitsLimits", fn := fun _ => fun
  | [d1, d2, d3] => { results := [.lit (.bool false)], args := [d1, d2, d3] }
  | _ => none }
def FitsLimitsWrongFalsely : Prop := fitsLimitsRow.holds Tryd.pinned (OpenSpec.ofChange fitsLimitsWrong)

/-- 'clochelaw06.FitsShifts': WHATEVER THE INPUT: true; the input reads as it did. -/
def fitsShiftsSpec : ChangeSpec := { name := "fitsShifts", fn := fun _ => fun
  | [d1, d2, d3, d4] => { results := [.lit (.bool true)], args := [d1, d2, d3, d4] }
  | _ => none }
def fitsShiftsRow : OpenClaim := { program := "ytngmaccaldhjcaadoor", sum := "dabfb5a7cc81e4acb3340188934089b037b0ed317a9e04fad5ed1cc92da9f6ae", func := "cloche/clochelaw06.FitsShifts", spec := "fitsShifts", named := ["math/bits.deBruijn32tab", "math/bits.deBruijn64tab"], apart := false, laid := [("math/bits.deBruijn32tab", laid_math_bits_deBruijn32tab), ("math/bits.deBruijn64tab", laid_math_bits_deBruijn64tab)] }
def FitsShiftsSaid : Prop := fitsShiftsRow.holds Tryd.pinned (OpenSpec.ofChange fitsShiftsSpec)

/-- ITS FALSE NEIGHBOUR: 'it returns false'. Refute it at one input. -/
def fitsShiftsWrong : ChangeSpec := { name := "fitsShifts", fn := fun _ => fun
  | [d1, d2, d3, d4] => { results := [.lit (.bool false)], args := [d1, d2, d3, d4] }
  | _ => none }
def FitsShiftsWrongFalsely : Prop := fitsShiftsRow.holds Tryd.pinned (OpenSpec.ofChange fitsShiftsWrong)

/-- 'clochelaw06.FitsRest': WHATEVER THE INPUT: true; the input reads as it did. -/
def fitsRestSpec : ChangeSpec := { name := "fitsRest", fn := fun _ => fun
  | [d1, d2, d3] => { results := [.lit (.bool true)], args := [d1, d2, d3] }
  | _ => none }
def fitsRestRow : OpenClaim := { program := "ytngmaccaldhjcaadoor", sum := "dabfb5a7cc81e4acb3340188934089b037b0ed317a9e04fad5ed1cc92da9f6ae", func := "cloche/clochelaw06.FitsRest", spec := "fitsRest", named := ["math/bits.deBruijn32tab", "math/bits.deBruijn64tab"], apart := false, laid := [("math/bits.deBruijn32tab", laid_math_bits_deBruijn32tab), ("math/bits.deBruijn64tab", laid_math_bits_deBruijn64tab)] }
def FitsRestSaid : Prop := fitsRestRow.holds Tryd.pinned (OpenSpec.ofChange fitsRestSpec)

/-- ITS FALSE NEIGHBOUR: 'it returns false'. Refute it at one input. -/
def fitsRestWrong : ChangeSpec := { name := "fitsRest", fn := fun _ => fun
  | [d1, d2, d3] => { results := [.lit (.bool false)], args := [d1, d2, d3] }
  | _ => none }
def FitsRestWrongFalsely : Prop := fitsRestRow.holds Tryd.pinned (OpenSpec.ofChange fitsRestWrong)

/-- 'clochelaw06.FitsBishop': WHATEVER THE INPUT: true; the input reads as it did. -/
def fitsBishopSpec : ChangeSpec := { name := "fitsBishop", fn := fun _ => fun
  | [d1, d2] => { results := [.lit (.bool true)], args := [d1, d2] }
  | _ => none }
def fitsBishopRow : OpenClaim := { program := "ytngmaccaldhjcaadoor", sum := "dabfb5a7cc81e4acb3340188934089b037b0ed317a9e04fad5ed1cc92da9f6ae", func := "cloche/clochelaw06.FitsBishop", spec := "fitsBishop", named := ["math/bits.deBruijn32tab", "math/bits.deBruijn64tab"], apart := false, laid := [("math/bits.deBruijn32tab", laid_math_bits_deBruijn32tab), ("math/bits.deBruijn64tab", laid_math_bits_deBruijn64tab)] }
def FitsBishopSaid : Prop := fitsBishopRow.holds Tryd.pinned (OpenSpec.ofChange fitsBishopSpec)

/-- ITS FALSE NEIGHBOUR: 'it returns false'. Refute it at one input. -/
def fitsBishopWrong : ChangeSpec := { name := "fitsBishop", fn := fun _ => fun
  | [d1, d2] => { results := [.lit (.bool false)], args := [d1, d2] }
  | _ => none }
def FitsBishopWrongFalsely : Prop := fitsBishopRow.holds Tryd.pinned (OpenSpec.ofChange fitsBishopWrong)

/-- 'clochelaw06.FitsHaigh': WHATEVER THE INPUT: true; the input reads as it did. -/
def fitsHaighSpec : ChangeSpec := { name := "fitsHaigh", fn := fun _ => fun
  | [d1, d2] => { results := [.lit (.bool true)], args := [d1, d2] }
  | _ => none }
def fitsHaighRow : OpenClaim := { program := "ytngmaccaldhjcaadoor", sum := "dabfb5a7cc81e4acb3340188934089b037b0ed317a9e04fad5ed1cc92da9f6ae", func := "cloche/clochelaw06.FitsHaigh", spec := "fitsHaigh", named := ["math/bits.deBruijn32tab", "math/bits.deBruijn64tab"], apart := false, laid := [("math/bits.deBruijn32tab", laid_math_bits_deBruijn32tab), ("math/bits.deBruijn64tab", laid_math_bits_deBruijn64tab)] }
def FitsHaighSaid : Prop := fitsHaighRow.holds Tryd.pinned (OpenSpec.ofChange fitsHaighSpec)

/-- ITS FALSE NEIGHBOUR: 'it returns false'. Refute it at one input. -/
def fitsHaighWrong : ChangeSpec := { name := "fitsHaigh", fn := fun _ => fun
  | [d1, d2] => { results := [.lit (.bool false)], args := [d1, d2] }
  | _ => none }
def FitsHaighWrongFalsely : Prop := fitsHaighRow.holds Tryd.pinned (OpenSpec.ofChange fitsHaighWrong)

/-- 'clochelaw06.FitsOthers': WHATEVER THE INPUT: true; the input reads as it did. -/
def fitsOthersSpec : ChangeSpec := { name := "fitsOthers", fn := fun _ => fun
  | [d1, d2, d3] => { results := [.lit (.bool true)], args := [d1, d2, d3] }
  | _ => none }
def fitsOthersRow : OpenClaim := { program := "ytngmaccaldhjcaadoor", sum := "dabfb5a7cc81e4acb3340188934089b037b0ed317a9e04fad5ed1cc92da9f6ae", func := "cloche/clochelaw06.FitsOthers", spec := "fitsOthers", unfollowed := true, recurses := true, named := ["math/bits.deBruijn32tab", "math/bits.deBruijn64tab"], apart := false, laid := [("math/bits.deBruijn32tab", laid_math_bits_deBruijn32tab), ("math/bits.deBruijn64tab", laid_math_bits_deBruijn64tab)] }
def FitsOthersSaid : Prop := fitsOthersRow.holds Tryd.pinned (OpenSpec.ofChange fitsOthersSpec)

/-- ITS FALSE NEIGHBOUR: 'it returns false'. Refute it at one input. -/
def fitsOthersWrong : ChangeSpec := { name := "fitsOthers", fn := fun _ => fun
  | [d1, d2, d3] => { results := [.lit (.bool false)], args := [d1, d2, d3] }
  | _ => none }
def FitsOthersWrongFalsely : Prop := fitsOthersRow.holds Tryd.pinned (OpenSpec.ofChange fitsOthersWrong)

/-- 'clochelaw06.FitsAlone': WHATEVER THE INPUT: true; the input reads as it did. -/
def fitsAloneSpec : ChangeSpec := { name := "fitsAlone", fn := fun _ => fun
  | [d] => { results := [.lit (.bool true)], args := [d] }
  | _ => none }
def fitsAloneRow : OpenClaim := { program := "ytngmaccaldhjcaadoor", sum := "dabfb5a7cc81e4acb3340188934089b037b0ed317a9e04fad5ed1cc92da9f6ae", func := "cloche/clochelaw06.FitsAlone", spec := "fitsAlone", unfollowed := true, recurses := true, named := ["math/bits.deBruijn32tab", "math/bits.deBruijn64tab"], apart := false, laid := [("math/bits.deBruijn32tab", laid_math_bits_deBruijn32tab), ("math/bits.deBruijn64tab", laid_math_bits_deBruijn64tab)] }
def FitsAloneSaid : Prop := fitsAloneRow.holds Tryd.pinned (OpenSpec.ofChange fitsAloneSpec)

/-- ITS FALSE NEIGHBOUR: 'it returns false'. Refute it at one input. -/
def fitsAloneWrong : ChangeSpec := { name := "fitsAlone", fn := fun _ => fun
  | [d] => { results := [.lit (.bool false)], args := [d] }
  | _ => none }
def FitsAloneWrongFalsely : Prop := fitsAloneRow.holds Tryd.pinned (OpenSpec.ofChange fitsAloneWrong)

/-- 'clochelaw06.FitsShifted': WHATEVER THE INPUT: true; the input reads as it did. -/
def fitsShiftedSpec : ChangeSpec := { name := "fitsShifted", fn := fun _ => fun
  | [d1, d2, d3, d4, d5, d6] => { results := [.lit (.bool true)], args := [d1, d2, d3, d4, d5, d6] }
  | _ => none }
def fitsShiftedRow : OpenClaim := { program := "ytngmaccaldhjcaadoor", sum := "dabfb5a7cc81e4acb3340188934089b037b0ed317a9e04fad5ed1cc92da9f6ae", func := "cloche/clochelaw06.FitsShifted", spec := "fitsShifted", unfollowed := true, recurses := true, named := ["math/bits.deBruijn32tab", "math/bits.deBruijn64tab"], apart := false, laid := [("math/bits.deBruijn32tab", laid_math_bits_deBruijn32tab), ("math/bits.deBruijn64tab", laid_math_bits_deBruijn64tab)] }
def FitsShiftedSaid : Prop := fitsShiftedRow.holds Tryd.pinned (OpenSpec.ofChange fitsShiftedSpec)

/-- ITS FALSE NEIGHBOUR: 'it returns false'. Refute it at one input. -/
def fitsShiftedWrong : ChangeSpec := { name := "fitsShifted", fn := fun _ => fun
  | [d1, d2, d3, d4, d5, d6] => { results := [.lit (.bool false)], args := [d1, d2, d3, d4, d5, d6] }
  | _ => none }
def FitsShiftedWrongFalsely : Prop := fitsShiftedRow.holds Tryd.pinned (OpenSpec.ofChange fitsShiftedWrong)

/-- 'clochelaw06.FitsRings': WHATEVER THE INPUT: true; the input reads as it did. -/
def fitsRingsSpec : ChangeSpec := { name := "fitsRings", fn := fun _ => fun
  | [d1, d2] => { results := [.lit (.bool true)], args := [d1, d2] }
  | _ => none }
def fitsRingsRow : OpenClaim := { program := "ytngmaccaldhjcaadoor", sum := "dabfb5a7cc81e4acb3340188934089b037b0ed317a9e04fad5ed1cc92da9f6ae", func := "cloche/clochelaw06.FitsRings", spec := "fitsRings", named := ["math/bits.deBruijn32tab", "math/bits.deBruijn64tab"], apart := false, laid := [("math/bits.deBruijn32tab", laid_math_bits_deBruijn32tab), ("math/bits.deBruijn64tab", laid_math_bits_deBruijn64tab)] }
def FitsRingsSaid : Prop := fitsRingsRow.holds Tryd.pinned (OpenSpec.ofChange fitsRingsSpec)

/-- ITS FALSE NEIGHBOUR: 'it returns false'. Refute it at one input. -/
def fitsRingsWrong : ChangeSpec := { name := "fitsRings", fn := fun _ => fun
  | [d1, d2] => { results := [.lit (.bool false)], args := [d1, d2] }
  | _ => none }
def FitsRingsWrongFalsely : Prop := fitsRingsRow.holds Tryd.pinned (OpenSpec.ofChange fitsRingsWrong)

/- THE SECOND FORM. 'bulk': how many values and letters a reading holds, each counted each time it is reached (what is shared counts as often as it is met; a slice's spare places count too). A statement '..UptoSaid' is the law's where the arguments, and the package variables that the reading takes, are together of bulk at most 1048576: NARROWER than '..Said'. Prove '..Said' where nothing that the law and all that it calls make is longer than what came in: it says more and counts as full. Else prove '..UptoSaid'. A law counts once. -/
mutual
def uptoBulk {H : Type} : DataW H → Nat
  | .lit (.string bytes) => bytes.length + 1
  | .lit _ => 1
  | .nil => 1
  | .ptr d => uptoBulk d + 1
  | .slice elems spare => uptoBulkAll elems + uptoBulkAll spare + 1
  | .agg parts => uptoBulkAll parts + 1
  | .iface _ d => uptoBulk d + 1
  | .map entries => uptoBulkEntries entries + 1
  | .held _ => 1
def uptoBulkAll {H : Type} : List (DataW H) → Nat
  | [] => 0
  | d :: r => uptoBulk d + uptoBulkAll r
def uptoBulkEntries {H : Type} : List (Lit × DataW H) → Nat
  | [] => 0
  | x :: r => uptoBulkEntry x + uptoBulkEntries r
def uptoBulkEntry {H : Type} : Lit × DataW H → Nat
  | (.string bytes, d) => bytes.length + uptoBulk d + 1
  | (_, d) => uptoBulk d + 1
 end
def uptoSmall : (H : Type) → List (DataW H) → Bool := fun _ ds => decide (uptoBulkAll ds ≤ 1048576)
def OpenSpec.upto (s : _root_.Go.ChangeSpec) : _root_.Go.OpenSpec := { _root_.Go.OpenSpec.ofChange s with cond := some uptoSmall }

/-- 'clochelaw06.FitsGains', WHERE WHAT IT READS IS OF BULK AT MOST 1048576: true; the input reads as it did. -/
def fitsGainsUptoRow : OpenClaim := { program := "ytngmaccaldhjcaadoor", sum := "dabfb5a7cc81e4acb3340188934089b037b0ed317a9e04fad5ed1cc92da9f6ae", func := "cloche/clochelaw06.FitsGains", spec := "fitsGains", named := ["math/bits.deBruijn32tab", "math/bits.deBruijn64tab"], apart := false, laid := [("math/bits.deBruijn32tab", laid_math_bits_deBruijn32tab), ("math/bits.deBruijn64tab", laid_math_bits_deBruijn64tab)], narrowed := true }
def FitsGainsUptoSaid : Prop := fitsGainsUptoRow.holds Tryd.pinned (OpenSpec.upto fitsGainsSpec)

/-- 'clochelaw06.FitsRests', WHERE WHAT IT READS IS OF BULK AT MOST 1048576: true; the input reads as it did. -/
def fitsRestsUptoRow : OpenClaim := { program := "ytngmaccaldhjcaadoor", sum := "dabfb5a7cc81e4acb3340188934089b037b0ed317a9e04fad5ed1cc92da9f6ae", func := "cloche/clochelaw06.FitsRests", spec := "fitsRests", named := ["math/bits.deBruijn32tab", "math/bits.deBruijn64tab"], apart := false, laid := [("math/bits.deBruijn32tab", laid_math_bits_deBruijn32tab), ("math/bits.deBruijn64tab", laid_math_bits_deBruijn64tab)], narrowed := true }
def FitsRestsUptoSaid : Prop := fitsRestsUptoRow.holds Tryd.pinned (OpenSpec.upto fitsRestsSpec)

/-- 'clochelaw06.FitsLasting', WHERE WHAT IT READS IS OF BULK AT MOST 1048576: true; the input reads as it did. -/
def fitsLastingUptoRow : OpenClaim := { program := "ytngmaccaldhjcaadoor", sum := "dabfb5a7cc81e4acb3340188934089b037b0ed317a9e04fad5ed1cc92da9f6ae", func := "cloche/clochelaw06.FitsLasting", spec := "fitsLasting", named := ["math/bits.deBruijn32tab", "math/bits.deBruijn64tab"], apart := false, laid := [("math/bits.deBruijn32tab", laid_math_bits_deBruijn32tab), ("math/bits.deBruijn64tab", laid_math_bits_deBruijn64tab)], narrowed := true }
def FitsLastingUptoSaid : Prop := fitsLastingUptoRow.holds Tryd.pinned (OpenSpec.upto fitsLastingSpec)

/-- 'clochelaw06.FitsLimits', WHERE WHAT IT READS IS OF BULK AT MOST 1048576: true; the input reads as it did. -/
def fitsLimitsUptoRow : OpenClaim := { program := "ytngmaccaldhjcaadoor", sum := "dabfb5a7cc81e4acb3340188934089b037b0ed317a9e04fad5ed1cc92da9f6ae", func := "cloche/clochelaw06.FitsLimits", spec := "fitsLimits", unfollowed := true, recurses := true, named := ["math/bits.deBruijn32tab", "math/bits.deBruijn64tab"], apart := false, laid := [("math/bits.deBruijn32tab", laid_math_bits_deBruijn32tab), ("math/bits.deBruijn64tab", laid_math_bits_deBruijn64tab)], narrowed := true }
def FitsLimitsUptoSaid : Prop := fitsLimitsUptoRow.holds Tryd.pinned (OpenSpec.upto fitsLimitsSpec)

/-- 'clochelaw06.FitsShifts', WHERE WHAT IT READS IS OF BULK AT MOST 1048576: true; the input reads as it did. -/
def fitsShiftsUptoRow : OpenClaim := { program := "ytngmaccaldhjcaadoor", sum := "dabfb5a7cc81e4acb3340188934089b037b0ed317a9e04fad5ed1cc92da9f6ae", func := "cloche/clochelaw06.FitsShifts", spec := "fitsShifts", named := ["math/bits.deBruijn32tab", "math/bits.deBruijn64tab"], apart := false, laid := [("math/bits.deBruijn32tab", laid_math_bits_deBruijn32tab), ("math/bits.deBruijn64tab", laid_math_bits_deBruijn64tab)], narrowed := true }
def FitsShiftsUptoSaid : Prop := fitsShiftsUptoRow.holds Tryd.pinned (OpenSpec.upto fitsShiftsSpec)

/-- 'clochelaw06.FitsRest', WHERE WHAT IT READS IS OF BULK AT MOST 1048576: true; the input reads as it did. -/
def fitsRestUptoRow : OpenClaim := { program := "ytngmaccaldhjcaadoor", sum := "dabfb5a7cc81e4acb3340188934089b037b0ed317a9e04fad5ed1cc92da9f6ae", func := "cloche/clochelaw06.FitsRest", spec := "fitsRest", named := ["math/bits.deBruijn32tab", "math/bits.deBruijn64tab"], apart := false, laid := [("math/bits.deBruijn32tab", laid_math_bits_deBruijn32tab), ("math/bits.deBruijn64tab", laid_math_bits_deBruijn64tab)], narrowed := true }
def FitsRestUptoSaid : Prop := fitsRestUptoRow.holds Tryd.pinned (OpenSpec.upto fitsRestSpec)

/-- 'clochelaw06.FitsBishop', WHERE WHAT IT READS IS OF BULK AT MOST 1048576: true; the input reads as it did. -/
def fitsBishopUptoRow : OpenClaim := { program := "ytngmaccaldhjcaadoor", sum := "dabfb5a7cc81e4acb3340188934089b037b0ed317a9e04fad5ed1cc92da9f6ae", func := "cloche/clochelaw06.FitsBishop", spec := "fitsBishop", named := ["math/bits.deBruijn32tab", "math/bits.deBruijn64tab"], apart := false, laid := [("math/bits.deBruijn32tab", laid_math_bits_deBruijn32tab), ("math/bits.deBruijn64tab", laid_math_bits_deBruijn64tab)], narrowed := true }
def FitsBishopUptoSaid : Prop := fitsBishopUptoRow.holds Tryd.pinned (OpenSpec.upto fitsBishopSpec)

/-- 'clochelaw06.FitsHaigh', WHERE WHAT IT READS IS OF BULK AT MOST 1048576: true; the input reads as it did. -/
def fitsHaighUptoRow : OpenClaim := { program := "ytngmaccaldhjcaadoor", sum := "dabfb5a7cc81e4acb3340188934089b037b0ed317a9e04fad5ed1cc92da9f6ae", func := "cloche/clochelaw06.FitsHaigh", spec := "fitsHaigh", named := ["math/bits.deBruijn32tab", "math/bits.deBruijn64tab"], apart := false, laid := [("math/bits.deBruijn32tab", laid_math_bits_deBruijn32tab), ("math/bits.deBruijn64tab", laid_math_bits_deBruijn64tab)], narrowed := true }
def FitsHaighUptoSaid : Prop := fitsHaighUptoRow.holds Tryd.pinned (OpenSpec.upto fitsHaighSpec)

/-- 'clochelaw06.FitsOthers', WHERE WHAT IT READS IS OF BULK AT MOST 1048576: true; the input reads as it did. -/
def fitsOthersUptoRow : OpenClaim := { program := "ytngmaccaldhjcaadoor", sum := "dabfb5a7cc81e4acb3340188934089b037b0ed317a9e04fad5ed1cc92da9f6ae", func := "cloche/clochelaw06.FitsOthers", spec := "fitsOthers", unfollowed := true, recurses := true, named := ["math/bits.deBruijn32tab", "math/bits.deBruijn64tab"], apart := false, laid := [("math/bits.deBruijn32tab", laid_math_bits_deBruijn32tab), ("math/bits.deBruijn64tab", laid_math_bits_deBruijn64tab)], narrowed := true }
def FitsOthersUptoSaid : Prop := fitsOthersUptoRow.holds Tryd.pinned (OpenSpec.upto fitsOthersSpec)

/-- 'clochelaw06.FitsAlone', WHERE WHAT IT READS IS OF BULK AT MOST 1048576: true; the input reads as it did. -/
def fitsAloneUptoRow : OpenClaim := { program := "ytngmaccaldhjcaadoor", sum := "dabfb5a7cc81e4acb3340188934089b037b0ed317a9e04fad5ed1cc92da9f6ae", func := "cloche/clochelaw06.FitsAlone", spec := "fitsAlone", unfollowed := true, recurses := true, named := ["math/bits.deBruijn32tab", "math/bits.deBruijn64tab"], apart := false, laid := [("math/bits.deBruijn32tab", laid_math_bits_deBruijn32tab), ("math/bits.deBruijn64tab", laid_math_bits_deBruijn64tab)], narrowed := true }
def FitsAloneUptoSaid : Prop := fitsAloneUptoRow.holds Tryd.pinned (OpenSpec.upto fitsAloneSpec)

/-- 'clochelaw06.FitsShifted', WHERE WHAT IT READS IS OF BULK AT MOST 1048576: true; the input reads as it did. -/
def fitsShiftedUptoRow : OpenClaim := { program := "ytngmaccaldhjcaadoor", sum := "dabfb5a7cc81e4acb3340188934089b037b0ed317a9e04fad5ed1cc92da9f6ae", func := "cloche/clochelaw06.FitsShifted", spec := "fitsShifted", unfollowed := true, recurses := true, named := ["math/bits.deBruijn32tab", "math/bits.deBruijn64tab"], apart := false, laid := [("math/bits.deBruijn32tab", laid_math_bits_deBruijn32tab), ("math/bits.deBruijn64tab", laid_math_bits_deBruijn64tab)], narrowed := true }
def FitsShiftedUptoSaid : Prop := fitsShiftedUptoRow.holds Tryd.pinned (OpenSpec.upto fitsShiftedSpec)

/-- 'clochelaw06.FitsRings', WHERE WHAT IT READS IS OF BULK AT MOST 1048576: true; the input reads as it did. -/
def fitsRingsUptoRow : OpenClaim := { program := "ytngmaccaldhjcaadoor", sum := "dabfb5a7cc81e4acb3340188934089b037b0ed317a9e04fad5ed1cc92da9f6ae", func := "cloche/clochelaw06.FitsRings", spec := "fitsRings", named := ["math/bits.deBruijn32tab", "math/bits.deBruijn64tab"], apart := false, laid := [("math/bits.deBruijn32tab", laid_math_bits_deBruijn32tab), ("math/bits.deBruijn64tab", laid_math_bits_deBruijn64tab)], narrowed := true }
def FitsRingsUptoSaid : Prop := fitsRingsUptoRow.holds Tryd.pinned (OpenSpec.upto fitsRingsSpec)

end Rows
end Go.Proofs.YtngmaccaldhjcaaDoor
