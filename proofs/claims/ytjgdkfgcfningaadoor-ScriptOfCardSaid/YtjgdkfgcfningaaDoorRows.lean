/-
  NARROWER THAN 'FOR EVERY INPUT', by the rows' own cells (each row's printed sentence says how): ScriptOf: laid · ScriptReads: laid · ScriptBack: laid · ScriptPasses: laid · ScriptRuns: laid.
  DERIVED. THE GIVEN ROWS OF THIS SEAT. 5 by the template 'for every input the law returns true; each argument reads behind the call as it read before'; 0 by the template 'total and deterministic' (their statements: YtjgdkfgcfningaaDoorTotals.lean).
  GIVEN WITH THE SEED: the statements are not yours to turn. If you find one false, say at which input.
  Laid BY PROGRAM, IN A SANDBOX (cutbox-rows.mjs): the forced cells as the released guide's own fill.sh prints them over the translation a52fa3b6c9f78198… (all of the seat's roots in one cut). By AI agents, Wed Nov 11 2026. No macro, syntax, notation, axiom, sorry.
-/
import Derived.Test.YtjgdkfgcfningaaDoorChecked
import GoSem.Claim
import GoSem.ClaimJoined
import GoSem.ClaimMapViews
import Derived.JoinedTies
import Derived.KernelRfl
namespace Go.Proofs.YtjgdkfgcfningaaDoor
/- THE CELL 'sum', in the pinned program and in every row, IS THE sha256 OF THE DUMP (.gsa) THAT YtjgdkfgcfningaaDoorProg.lean LOADS. Nothing in Lean hashes anything: it is a label: what it is worth is what the hold of that sum in a sandbox is worth. -/
noncomputable def Tryd.pinned : Pinned := { name := "ytjgdkfgcfningaadoor", sum := "a52fa3b6c9f781980c5a22496e8343a5071a62b325c3636e26fb6f7ecbcce39d", checked := Tryd.checked }
namespace Rows
def none {H : Type} : Left H := { results := [], args := [] }

/- WHAT THE LISTED PACKAGE-LEVEL VARIABLES READ AS WHEN THE CALL BEGINS. Each datum BY PROGRAM (the guide's laid-datum.mjs) off the statement by which the dump's own 'gosem.cut.vars' lays the variable. In a bare row this is a premise. The card (YtjgdkfgcfningaaDoorCards.lean) ties it to the program's text. -/
def laid_afterglow_script_fields {H : Type} : DataW H := .agg [.agg [.lit (.int .i64 0), .lit (.int .i64 3)], .agg [.lit (.int .i64 8), .lit (.int .i64 6)], .agg [.lit (.int .i64 0), .lit (.int .i64 2)], .agg [.lit (.int .i64 8), .lit (.int .i64 3)], .agg [.lit (.int .i64 16), .lit (.int .i64 8)]]

/-- 'afterglowlaw03.ScriptOf': WHATEVER THE INPUT: true; the input reads as it did. -/
def scriptOfSpec : ChangeSpec := { name := "scriptOf", fn := fun _ => fun
  | [d1, d2, d3] => { results := [.lit (.bool true)], args := [d1, d2, d3] }
  | _ => none }
def scriptOfRow : OpenClaim := { program := "ytjgdkfgcfningaadoor", sum := "a52fa3b6c9f781980c5a22496e8343a5071a62b325c3636e26fb6f7ecbcce39d", func := "afterglow/afterglowlaw03.ScriptOf", spec := "scriptOf", unfollowed := true, recurses := true, named := ["afterglow/script.fields"], apart := false, laid := [("afterglow/script.fields", laid_afterglow_script_fields)] }
def ScriptOfSaid : Prop := scriptOfRow.holds Tryd.pinned (OpenSpec.ofChange scriptOfSpec)

/-- ITS FALSE NEIGHBOUR: 'it returns false'. Refute it at one input. -/
def scriptOfWrong : ChangeSpec := { name := "scriptOf", fn := fun _ => fun
  | [d1, d2, d3] => { results := [.lit (.bool false)], args := [d1, d2, d3] }
  | _ => none }
def ScriptOfWrongFalsely : Prop := scriptOfRow.holds Tryd.pinned (OpenSpec.ofChange scriptOfWrong)

/-- 'afterglowlaw03.ScriptReads': WHATEVER THE INPUT: true; the input reads as it did. -/
def scriptReadsSpec : ChangeSpec := { name := "scriptReads", fn := fun _ => fun
  | [d] => { results := [.lit (.bool true)], args := [d] }
  | _ => none }
def scriptReadsRow : OpenClaim := { program := "ytjgdkfgcfningaadoor", sum := "a52fa3b6c9f781980c5a22496e8343a5071a62b325c3636e26fb6f7ecbcce39d", func := "afterglow/afterglowlaw03.ScriptReads", spec := "scriptReads", unfollowed := true, recurses := true, named := ["afterglow/script.fields"], apart := false, laid := [("afterglow/script.fields", laid_afterglow_script_fields)] }
def ScriptReadsSaid : Prop := scriptReadsRow.holds Tryd.pinned (OpenSpec.ofChange scriptReadsSpec)

/-- ITS FALSE NEIGHBOUR: 'it returns false'. Refute it at one input. -/
def scriptReadsWrong : ChangeSpec := { name := "scriptReads", fn := fun _ => fun
  | [d] => { results := [.lit (.bool false)], args := [d] }
  | _ => none }
def ScriptReadsWrongFalsely : Prop := scriptReadsRow.holds Tryd.pinned (OpenSpec.ofChange scriptReadsWrong)

/-- 'afterglowlaw03.ScriptBack': WHATEVER THE INPUT: true; the input reads as it did. -/
def scriptBackSpec : ChangeSpec := { name := "scriptBack", fn := fun _ => fun
  | [d1, d2] => { results := [.lit (.bool true)], args := [d1, d2] }
  | _ => none }
def scriptBackRow : OpenClaim := { program := "ytjgdkfgcfningaadoor", sum := "a52fa3b6c9f781980c5a22496e8343a5071a62b325c3636e26fb6f7ecbcce39d", func := "afterglow/afterglowlaw03.ScriptBack", spec := "scriptBack", unfollowed := true, recurses := true, named := ["afterglow/script.fields"], apart := false, laid := [("afterglow/script.fields", laid_afterglow_script_fields)] }
def ScriptBackSaid : Prop := scriptBackRow.holds Tryd.pinned (OpenSpec.ofChange scriptBackSpec)

/-- ITS FALSE NEIGHBOUR: 'it returns false'. Refute it at one input. -/
def scriptBackWrong : ChangeSpec := { name := "scriptBack", fn := fun _ => fun
  | [d1, d2] => { results := [.lit (.bool false)], args := [d1, d2] }
  | _ => none }
def ScriptBackWrongFalsely : Prop := scriptBackRow.holds Tryd.pinned (OpenSpec.ofChange scriptBackWrong)

/-- 'afterglowlaw03.ScriptPasses': WHATEVER THE INPUT: true; the input reads as it did. -/
def scriptPassesSpec : ChangeSpec := { name := "scriptPasses", fn := fun _ => fun
  | [d1, d2] => { results := [.lit (.bool true)], args := [d1, d2] }
  | _ => none }
def scriptPassesRow : OpenClaim := { program := "ytjgdkfgcfningaadoor", sum := "a52fa3b6c9f781980c5a22496e8343a5071a62b325c3636e26fb6f7ecbcce39d", func := "afterglow/afterglowlaw03.ScriptPasses", spec := "scriptPasses", unfollowed := true, recurses := true, named := ["afterglow/script.fields"], apart := false, laid := [("afterglow/script.fields", laid_afterglow_script_fields)] }
def ScriptPassesSaid : Prop := scriptPassesRow.holds Tryd.pinned (OpenSpec.ofChange scriptPassesSpec)

/-- ITS FALSE NEIGHBOUR: 'it returns false'. Refute it at one input. -/
def scriptPassesWrong : ChangeSpec := { name := "scriptPasses", fn := fun _ => fun
  | [d1, d2] => { results := [.lit (.bool false)], args := [d1, d2] }
  | _ => none }
def ScriptPassesWrongFalsely : Prop := scriptPassesRow.holds Tryd.pinned (OpenSpec.ofChange scriptPassesWrong)

/-- 'afterglowlaw03.ScriptRuns': WHATEVER THE INPUT: true; the input reads as it did. -/
def scriptRunsSpec : ChangeSpec := { name := "scriptRuns", fn := fun _ => fun
  | [d] => { results := [.lit (.bool true)], args := [d] }
  | _ => none }
def scriptRunsRow : OpenClaim := { program := "ytjgdkfgcfningaadoor", sum := "a52fa3b6c9f781980c5a22496e8343a5071a62b325c3636e26fb6f7ecbcce39d", func := "afterglow/afterglowlaw03.ScriptRuns", spec := "scriptRuns", unfollowed := true, recurses := true, named := ["afterglow/script.fields"], apart := false, laid := [("afterglow/script.fields", laid_afterglow_script_fields)] }
def ScriptRunsSaid : Prop := scriptRunsRow.holds Tryd.pinned (OpenSpec.ofChange scriptRunsSpec)

/-- ITS FALSE NEIGHBOUR: 'it returns false'. Refute it at one input. -/
def scriptRunsWrong : ChangeSpec := { name := "scriptRuns", fn := fun _ => fun
  | [d] => { results := [.lit (.bool false)], args := [d] }
  | _ => none }
def ScriptRunsWrongFalsely : Prop := scriptRunsRow.holds Tryd.pinned (OpenSpec.ofChange scriptRunsWrong)

/- THE SECOND FORM. 'bulk': how many values and letters a reading holds, each counted each time it is reached (what is shared counts as often as it is met; a slice's spare places count too). A statement '..UptoSaid' is the law's where the arguments, and the package variables that the reading takes, are together of bulk at most 1048576: NARROWER than '..Said'. Prove '..Said' where nothing that the law and all that it calls make is longer than what came in: it says more and counts as full. Else prove '..UptoSaid'. A law counts once. -/
mutual
def uptoBulk {H : Type} : DataW H → Nat
  | .lit (.string bytes) => bytes.length + 1
  | .lit _ => 1
  | .nil => 1
  | .ptr d => uptoBulk d + 1
  | .slice elems spare => uptoBulkAll elems + uptoBulkAll spare + 1
  | .agg parts => uptoBulkAll parts + 1
  | .iface _ d => uptoBulk d + 1
  | .map entries => uptoBulkEntries entries + 1
  | .held _ => 1
def uptoBulkAll {H : Type} : List (DataW H) → Nat
  | [] => 0
  | d :: r => uptoBulk d + uptoBulkAll r
def uptoBulkEntries {H : Type} : List (Lit × DataW H) → Nat
  | [] => 0
  | x :: r => uptoBulkEntry x + uptoBulkEntries r
def uptoBulkEntry {H : Type} : Lit × DataW H → Nat
  | (.string bytes, d) => bytes.length + uptoBulk d + 1
  | (_, d) => uptoBulk d + 1
 end
def uptoSmall : (H : Type) → List (DataW H) → Bool := fun _ ds => decide (uptoBulkAll ds ≤ 1048576)
def OpenSpec.upto (s : _root_.Go.ChangeSpec) : _root_.Go.OpenSpec := { _root_.Go.OpenSpec.ofChange s with cond := some uptoSmall }

/-- 'afterglowlaw03.ScriptOf', WHERE WHAT IT READS IS OF BULK AT MOST 1048576: true; the input reads as it did. -/
def scriptOfUptoRow : OpenClaim := { program := "ytjgdkfgcfningaadoor", sum := "a52fa3b6c9f781980c5a22496e8343a5071a62b325c3636e26fb6f7ecbcce39d", func := "afterglow/afterglowlaw03.ScriptOf", spec := "scriptOf", unfollowed := true, recurses := true, named := ["afterglow/script.fields"], apart := false, laid := [("afterglow/script.fields", laid_afterglow_script_fields)], narrowed := true }
def ScriptOfUptoSaid : Prop := scriptOfUptoRow.holds Tryd.pinned (OpenSpec.upto scriptOfSpec)

/-- 'afterglowlaw03.ScriptReads', WHERE WHAT IT READS IS OF BULK AT MOST 1048576: true; the input reads as it did. -/
def scriptReadsUptoRow : OpenClaim := { program := "ytjgdkfgcfningaadoor", sum := "a52fa3b6c9f781980c5a22496e8343a5071a62b325c3636e26fb6f7ecbcce39d", func := "afterglow/afterglowlaw03.ScriptReads", spec := "scriptReads", unfollowed := true, recurses := true, named := ["afterglow/script.fields"], apart := false, laid := [("afterglow/script.fields", laid_afterglow_script_fields)], narrowed := true }
def ScriptReadsUptoSaid : Prop := scriptReadsUptoRow.holds Tryd.pinned (OpenSpec.upto scriptReadsSpec)

/-- 'afterglowlaw03.ScriptBack', WHERE WHAT IT READS IS OF BULK AT MOST 1048576: true; the input reads as it did. -/
def scriptBackUptoRow : OpenClaim := { program := "ytjgdkfgcfningaadoor", sum := "a52fa3b6c9f781980c5a22496e8343a5071a62b325c3636e26fb6f7ecbcce39d", func := "afterglow/afterglowlaw03.ScriptBack", spec := "scriptBack", unfollowed := true, recurses := true, named := ["afterglow/script.fields"], apart := false, laid := [("afterglow/script.fields", laid_afterglow_script_fields)], narrowed := true }
def ScriptBackUptoSaid : Prop := scriptBackUptoRow.holds Tryd.pinned (OpenSpec.upto scriptBackSpec)

/-- 'afterglowlaw03.ScriptPasses', WHERE WHAT IT READS IS OF BULK AT MOST 1048576: true; the input reads as it did. -/
def scriptPassesUptoRow : OpenClaim := { program := "ytjgdkfgcfningaadoor", sum := "a52fa3b6c9f781980c5a22496e8343a5071a62b325c3636e26fb6f7ecbcce39d", func := "afterglow/afterglowlaw03.ScriptPasses", spec := "scriptPasses", unfollowed := true, recurses := true, named := ["afterglow/script.fields"], apart := false, laid := [("afterglow/script.fields", laid_afterglow_script_fields)], narrowed := true }
def ScriptPassesUptoSaid : Prop := scriptPassesUptoRow.holds Tryd.pinned (OpenSpec.upto scriptPassesSpec)

/-- 'afterglowlaw03.ScriptRuns', WHERE WHAT IT READS IS OF BULK AT MOST 1048576: true; the input reads as it did. -/
def scriptRunsUptoRow : OpenClaim := { program := "ytjgdkfgcfningaadoor", sum := "a52fa3b6c9f781980c5a22496e8343a5071a62b325c3636e26fb6f7ecbcce39d", func := "afterglow/afterglowlaw03.ScriptRuns", spec := "scriptRuns", unfollowed := true, recurses := true, named := ["afterglow/script.fields"], apart := false, laid := [("afterglow/script.fields", laid_afterglow_script_fields)], narrowed := true }
def ScriptRunsUptoSaid : Prop := scriptRunsUptoRow.holds Tryd.pinned (OpenSpec.upto scriptRunsSpec)

end Rows
end Go.Proofs.YtjgdkfgcfningaaDoor
