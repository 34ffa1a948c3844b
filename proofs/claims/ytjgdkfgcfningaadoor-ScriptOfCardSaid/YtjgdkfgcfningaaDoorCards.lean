/-
  DERIVED. GIVEN WITH THE SEED: THE CARDS: each row of YtjgdkfgcfningaaDoorRows.lean that lists a variable, with what it lists TIED to the program's text (the seventh form; the later family's looks); each row that meets fmt, with fmt's text TOLD by the authors' own Lean function (tested against real Go, not proved from fmt's source: count such statements apart). THE CARD IS WHAT COUNTS. Prove the row's statement (the work); the ties are given (YtjgdkfgcfningaaDoorTie.lean); close each card by the builder's one call (the guide's Derived/Test/ToyasCard.lean, 'card_holds'). Laid BY PROGRAM, IN A SANDBOX (cutbox-door.mjs). By AI agents, Wed Nov 11 2026. No macro, syntax, notation, axiom, sorry.
-/
import Derived.Test.YtjgdkfgcfningaaDoorRows
import GoSem.ClaimSeven
namespace Go.Proofs.YtjgdkfgcfningaaDoor
namespace Rows

/-- THE TIED CARD OF 'afterglowlaw03.ScriptOf'. -/
def scriptOfCard : Claim7 := { stood := { row := scriptOfRow, standIns := [], harness := (true, "448ab4db7cad7d31a6b7f91a2188fd7cccd47f914bbe398ff034efeca408c720"), looks := false }, kinds := [], alts := [], laidByText := true, laidKinds := [.data], laidTests := true, laidLooks := .later }
def ScriptOfCardSaid : Prop := Claim7.holds Tryd.pinned (.plain (OpenSpec.ofChange scriptOfSpec)) scriptOfCard

/-- THE TIED CARD OF 'afterglowlaw03.ScriptReads'. -/
def scriptReadsCard : Claim7 := { stood := { row := scriptReadsRow, standIns := [], harness := (true, "448ab4db7cad7d31a6b7f91a2188fd7cccd47f914bbe398ff034efeca408c720"), looks := false }, kinds := [], alts := [], laidByText := true, laidKinds := [.data], laidTests := true, laidLooks := .later }
def ScriptReadsCardSaid : Prop := Claim7.holds Tryd.pinned (.plain (OpenSpec.ofChange scriptReadsSpec)) scriptReadsCard

/-- THE TIED CARD OF 'afterglowlaw03.ScriptBack'. -/
def scriptBackCard : Claim7 := { stood := { row := scriptBackRow, standIns := [], harness := (true, "448ab4db7cad7d31a6b7f91a2188fd7cccd47f914bbe398ff034efeca408c720"), looks := false }, kinds := [], alts := [], laidByText := true, laidKinds := [.data], laidTests := true, laidLooks := .later }
def ScriptBackCardSaid : Prop := Claim7.holds Tryd.pinned (.plain (OpenSpec.ofChange scriptBackSpec)) scriptBackCard

/-- THE TIED CARD OF 'afterglowlaw03.ScriptPasses'. -/
def scriptPassesCard : Claim7 := { stood := { row := scriptPassesRow, standIns := [], harness := (true, "448ab4db7cad7d31a6b7f91a2188fd7cccd47f914bbe398ff034efeca408c720"), looks := false }, kinds := [], alts := [], laidByText := true, laidKinds := [.data], laidTests := true, laidLooks := .later }
def ScriptPassesCardSaid : Prop := Claim7.holds Tryd.pinned (.plain (OpenSpec.ofChange scriptPassesSpec)) scriptPassesCard

/-- THE TIED CARD OF 'afterglowlaw03.ScriptRuns'. -/
def scriptRunsCard : Claim7 := { stood := { row := scriptRunsRow, standIns := [], harness := (true, "448ab4db7cad7d31a6b7f91a2188fd7cccd47f914bbe398ff034efeca408c720"), looks := false }, kinds := [], alts := [], laidByText := true, laidKinds := [.data], laidTests := true, laidLooks := .later }
def ScriptRunsCardSaid : Prop := Claim7.holds Tryd.pinned (.plain (OpenSpec.ofChange scriptRunsSpec)) scriptRunsCard

/-- THE SECOND FORM's CARD OF 'afterglowlaw03.ScriptOf'. -/
def scriptOfUptoCard : Claim7 := { stood := { row := scriptOfUptoRow, standIns := [], harness := (true, "448ab4db7cad7d31a6b7f91a2188fd7cccd47f914bbe398ff034efeca408c720"), looks := false }, kinds := [], alts := [], laidByText := true, laidKinds := [.data], laidTests := true, laidLooks := .later }
def ScriptOfUptoCardSaid : Prop := Claim7.holds Tryd.pinned (.plain (OpenSpec.upto scriptOfSpec)) scriptOfUptoCard

/-- THE SECOND FORM's CARD OF 'afterglowlaw03.ScriptReads'. -/
def scriptReadsUptoCard : Claim7 := { stood := { row := scriptReadsUptoRow, standIns := [], harness := (true, "448ab4db7cad7d31a6b7f91a2188fd7cccd47f914bbe398ff034efeca408c720"), looks := false }, kinds := [], alts := [], laidByText := true, laidKinds := [.data], laidTests := true, laidLooks := .later }
def ScriptReadsUptoCardSaid : Prop := Claim7.holds Tryd.pinned (.plain (OpenSpec.upto scriptReadsSpec)) scriptReadsUptoCard

/-- THE SECOND FORM's CARD OF 'afterglowlaw03.ScriptBack'. -/
def scriptBackUptoCard : Claim7 := { stood := { row := scriptBackUptoRow, standIns := [], harness := (true, "448ab4db7cad7d31a6b7f91a2188fd7cccd47f914bbe398ff034efeca408c720"), looks := false }, kinds := [], alts := [], laidByText := true, laidKinds := [.data], laidTests := true, laidLooks := .later }
def ScriptBackUptoCardSaid : Prop := Claim7.holds Tryd.pinned (.plain (OpenSpec.upto scriptBackSpec)) scriptBackUptoCard

/-- THE SECOND FORM's CARD OF 'afterglowlaw03.ScriptPasses'. -/
def scriptPassesUptoCard : Claim7 := { stood := { row := scriptPassesUptoRow, standIns := [], harness := (true, "448ab4db7cad7d31a6b7f91a2188fd7cccd47f914bbe398ff034efeca408c720"), looks := false }, kinds := [], alts := [], laidByText := true, laidKinds := [.data], laidTests := true, laidLooks := .later }
def ScriptPassesUptoCardSaid : Prop := Claim7.holds Tryd.pinned (.plain (OpenSpec.upto scriptPassesSpec)) scriptPassesUptoCard

/-- THE SECOND FORM's CARD OF 'afterglowlaw03.ScriptRuns'. -/
def scriptRunsUptoCard : Claim7 := { stood := { row := scriptRunsUptoRow, standIns := [], harness := (true, "448ab4db7cad7d31a6b7f91a2188fd7cccd47f914bbe398ff034efeca408c720"), looks := false }, kinds := [], alts := [], laidByText := true, laidKinds := [.data], laidTests := true, laidLooks := .later }
def ScriptRunsUptoCardSaid : Prop := Claim7.holds Tryd.pinned (.plain (OpenSpec.upto scriptRunsSpec)) scriptRunsUptoCard
end Rows
end Go.Proofs.YtjgdkfgcfningaaDoor
