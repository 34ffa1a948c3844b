/-
  DERIVED. GIVEN WITH THE SEED: THE CARDS: each row of YtklbbcaebdfjeaaDoorRows.lean that lists a variable, with what it lists TIED to the program's text (the seventh form; the later family's looks); each row that meets fmt, with fmt's text TOLD by the authors' own Lean function (tested against real Go, not proved from fmt's source: count such statements apart). THE CARD IS WHAT COUNTS. Prove the row's statement (the work); the ties are given (YtklbbcaebdfjeaaDoorTie.lean); close each card by the builder's one call (the guide's Derived/Test/ToyasCard.lean, 'card_holds'). Laid BY PROGRAM, IN A SANDBOX (cutbox-door.mjs). By AI agents, Wed Nov 11 2026. No macro, syntax, notation, axiom, sorry.
-/
import Derived.Test.YtklbbcaebdfjeaaDoorRows
import GoSem.ClaimSeven
namespace Go.Proofs.YtklbbcaebdfjeaaDoor
namespace Rows

/-- THE TIED CARD OF 'afterglowlaw08.SizeClasses'. -/
def sizeClassesCard : Claim7 := { stood := { row := sizeClassesRow, standIns := [], harness := (true, "0b1377dac71fd6e74304949554203255d50946aeb3c99270b3f5f1a86e68491a"), looks := false }, kinds := [], alts := [], laidByText := true, laidKinds := [.data], laidTests := true, laidLooks := .later }
def SizeClassesCardSaid : Prop := Claim7.holds Tryd.pinned (.plain (OpenSpec.ofChange sizeClassesSpec)) sizeClassesCard

/-- THE TIED CARD OF 'afterglowlaw08.SizePlaces'. -/
def sizePlacesCard : Claim7 := { stood := { row := sizePlacesRow, standIns := [], harness := (true, "0b1377dac71fd6e74304949554203255d50946aeb3c99270b3f5f1a86e68491a"), looks := false }, kinds := [], alts := [], laidByText := true, laidKinds := [.data], laidTests := true, laidLooks := .later }
def SizePlacesCardSaid : Prop := Claim7.holds Tryd.pinned (.plain (OpenSpec.ofChange sizePlacesSpec)) sizePlacesCard

/-- THE TIED CARD OF 'afterglowlaw08.SizeLies'. -/
def sizeLiesCard : Claim7 := { stood := { row := sizeLiesRow, standIns := [], harness := (true, "0b1377dac71fd6e74304949554203255d50946aeb3c99270b3f5f1a86e68491a"), looks := false }, kinds := [], alts := [], laidByText := true, laidKinds := [.data], laidTests := true, laidLooks := .later }
def SizeLiesCardSaid : Prop := Claim7.holds Tryd.pinned (.plain (OpenSpec.ofChange sizeLiesSpec)) sizeLiesCard

/-- THE TIED CARD OF 'afterglowlaw08.SizeBack'. -/
def sizeBackCard : Claim7 := { stood := { row := sizeBackRow, standIns := [], harness := (true, "0b1377dac71fd6e74304949554203255d50946aeb3c99270b3f5f1a86e68491a"), looks := false }, kinds := [], alts := [], laidByText := true, laidKinds := [.data], laidTests := true, laidLooks := .later }
def SizeBackCardSaid : Prop := Claim7.holds Tryd.pinned (.plain (OpenSpec.ofChange sizeBackSpec)) sizeBackCard

/-- THE TIED CARD OF 'afterglowlaw08.SizeParts'. -/
def sizePartsCard : Claim7 := { stood := { row := sizePartsRow, standIns := [], harness := (true, "0b1377dac71fd6e74304949554203255d50946aeb3c99270b3f5f1a86e68491a"), looks := false }, kinds := [], alts := [], laidByText := true, laidKinds := [.data], laidTests := true, laidLooks := .later }
def SizePartsCardSaid : Prop := Claim7.holds Tryd.pinned (.plain (OpenSpec.ofChange sizePartsSpec)) sizePartsCard

/-- THE TIED CARD OF 'afterglowlaw08.SizeNests'. -/
def sizeNestsCard : Claim7 := { stood := { row := sizeNestsRow, standIns := [], harness := (true, "0b1377dac71fd6e74304949554203255d50946aeb3c99270b3f5f1a86e68491a"), looks := false }, kinds := [], alts := [], laidByText := true, laidKinds := [.data], laidTests := true, laidLooks := .later }
def SizeNestsCardSaid : Prop := Claim7.holds Tryd.pinned (.plain (OpenSpec.ofChange sizeNestsSpec)) sizeNestsCard

/-- THE TIED CARD OF 'afterglowlaw08.SizeFits'. -/
def sizeFitsCard : Claim7 := { stood := { row := sizeFitsRow, standIns := [], harness := (true, "0b1377dac71fd6e74304949554203255d50946aeb3c99270b3f5f1a86e68491a"), looks := false }, kinds := [], alts := [], laidByText := true, laidKinds := [.data], laidTests := true, laidLooks := .later }
def SizeFitsCardSaid : Prop := Claim7.holds Tryd.pinned (.plain (OpenSpec.ofChange sizeFitsSpec)) sizeFitsCard

/-- THE SECOND FORM's CARD OF 'afterglowlaw08.SizeClasses'. -/
def sizeClassesUptoCard : Claim7 := { stood := { row := sizeClassesUptoRow, standIns := [], harness := (true, "0b1377dac71fd6e74304949554203255d50946aeb3c99270b3f5f1a86e68491a"), looks := false }, kinds := [], alts := [], laidByText := true, laidKinds := [.data], laidTests := true, laidLooks := .later }
def SizeClassesUptoCardSaid : Prop := Claim7.holds Tryd.pinned (.plain (OpenSpec.upto sizeClassesSpec)) sizeClassesUptoCard

/-- THE SECOND FORM's CARD OF 'afterglowlaw08.SizePlaces'. -/
def sizePlacesUptoCard : Claim7 := { stood := { row := sizePlacesUptoRow, standIns := [], harness := (true, "0b1377dac71fd6e74304949554203255d50946aeb3c99270b3f5f1a86e68491a"), looks := false }, kinds := [], alts := [], laidByText := true, laidKinds := [.data], laidTests := true, laidLooks := .later }
def SizePlacesUptoCardSaid : Prop := Claim7.holds Tryd.pinned (.plain (OpenSpec.upto sizePlacesSpec)) sizePlacesUptoCard

/-- THE SECOND FORM's CARD OF 'afterglowlaw08.SizeLies'. -/
def sizeLiesUptoCard : Claim7 := { stood := { row := sizeLiesUptoRow, standIns := [], harness := (true, "0b1377dac71fd6e74304949554203255d50946aeb3c99270b3f5f1a86e68491a"), looks := false }, kinds := [], alts := [], laidByText := true, laidKinds := [.data], laidTests := true, laidLooks := .later }
def SizeLiesUptoCardSaid : Prop := Claim7.holds Tryd.pinned (.plain (OpenSpec.upto sizeLiesSpec)) sizeLiesUptoCard

/-- THE SECOND FORM's CARD OF 'afterglowlaw08.SizeBack'. -/
def sizeBackUptoCard : Claim7 := { stood := { row := sizeBackUptoRow, standIns := [], harness := (true, "0b1377dac71fd6e74304949554203255d50946aeb3c99270b3f5f1a86e68491a"), looks := false }, kinds := [], alts := [], laidByText := true, laidKinds := [.data], laidTests := true, laidLooks := .later }
def SizeBackUptoCardSaid : Prop := Claim7.holds Tryd.pinned (.plain (OpenSpec.upto sizeBackSpec)) sizeBackUptoCard

/-- THE SECOND FORM's CARD OF 'afterglowlaw08.SizeParts'. -/
def sizePartsUptoCard : Claim7 := { stood := { row := sizePartsUptoRow, standIns := [], harness := (true, "0b1377dac71fd6e74304949554203255d50946aeb3c99270b3f5f1a86e68491a"), looks := false }, kinds := [], alts := [], laidByText := true, laidKinds := [.data], laidTests := true, laidLooks := .later }
def SizePartsUptoCardSaid : Prop := Claim7.holds Tryd.pinned (.plain (OpenSpec.upto sizePartsSpec)) sizePartsUptoCard

/-- THE SECOND FORM's CARD OF 'afterglowlaw08.SizeNests'. -/
def sizeNestsUptoCard : Claim7 := { stood := { row := sizeNestsUptoRow, standIns := [], harness := (true, "0b1377dac71fd6e74304949554203255d50946aeb3c99270b3f5f1a86e68491a"), looks := false }, kinds := [], alts := [], laidByText := true, laidKinds := [.data], laidTests := true, laidLooks := .later }
def SizeNestsUptoCardSaid : Prop := Claim7.holds Tryd.pinned (.plain (OpenSpec.upto sizeNestsSpec)) sizeNestsUptoCard

/-- THE SECOND FORM's CARD OF 'afterglowlaw08.SizeFits'. -/
def sizeFitsUptoCard : Claim7 := { stood := { row := sizeFitsUptoRow, standIns := [], harness := (true, "0b1377dac71fd6e74304949554203255d50946aeb3c99270b3f5f1a86e68491a"), looks := false }, kinds := [], alts := [], laidByText := true, laidKinds := [.data], laidTests := true, laidLooks := .later }
def SizeFitsUptoCardSaid : Prop := Claim7.holds Tryd.pinned (.plain (OpenSpec.upto sizeFitsSpec)) sizeFitsUptoCard
end Rows
end Go.Proofs.YtklbbcaebdfjeaaDoor
