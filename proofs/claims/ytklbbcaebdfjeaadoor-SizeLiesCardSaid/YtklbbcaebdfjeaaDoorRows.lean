/-
  NARROWER THAN 'FOR EVERY INPUT', by the rows' own cells (each row's printed sentence says how): SizeClasses: laid · SizePlaces: laid · SizeLies: laid · SizeBack: laid · SizeParts: laid · SizeNests: laid · SizeFits: laid.
  DERIVED. THE GIVEN ROWS OF THIS SEAT. 7 by the template 'for every input the law returns true; each argument reads behind the call as it read before'; 0 by the template 'total and deterministic' (their statements: YtklbbcaebdfjeaaDoorTotals.lean).
  GIVEN WITH THE SEED: the statements are not yours to turn. If you find one false, say at which input.
  Laid BY PROGRAM, IN A SANDBOX (cutbox-rows.mjs): the forced cells as the released guide's own fill.sh prints them over the translation 582385199cc30c23… (all of the seat's roots in one cut). By AI agents, Wed Nov 11 2026. No macro, syntax, notation, axiom, sorry.
-/
import Derived.Test.YtklbbcaebdfjeaaDoorChecked
import GoSem.Claim
import GoSem.ClaimJoined
import GoSem.ClaimMapViews
import Derived.JoinedTies
import Derived.KernelRfl
namespace Go.Proofs.YtklbbcaebdfjeaaDoor
/- THE CELL 'sum', in the pinned program and in every row, IS THE sha256 OF THE DUMP (.gsa) THAT YtklbbcaebdfjeaaDoorProg.lean LOADS. Nothing in Lean hashes anything: it is a label: what it is worth is what the hold of that sum in a sandbox is worth. -/
noncomputable def Tryd.pinned : Pinned := { name := "ytklbbcaebdfjeaadoor", sum := "582385199cc30c233e44360f313ce84a5ff3770363c8fb5787fedb7630c169c7", checked := Tryd.checked }
namespace Rows
def none {H : Type} : Left H := { results := [], args := [] }

/- WHAT THE LISTED PACKAGE-LEVEL VARIABLES READ AS WHEN THE CALL BEGINS. Each datum BY PROGRAM (the guide's laid-datum.mjs) off the statement by which the dump's own 'gosem.cut.vars' lays the variable. In a bare row this is a premise. The card (YtklbbcaebdfjeaaDoorCards.lean) ties it to the program's text. -/
def laid_afterglow_size_sizes {H : Type} : DataW H := .agg [.lit (.int .i64 2), .lit (.int .i64 4), .lit (.int .i64 8), .lit (.int .i64 16)]

/-- 'afterglowlaw08.SizeClasses': WHATEVER THE INPUT: true; the input reads as it did. -/
def sizeClassesSpec : ChangeSpec := { name := "sizeClasses", fn := fun _ => fun
  | [d] => { results := [.lit (.bool true)], args := [d] }
  | _ => none }
def sizeClassesRow : OpenClaim := { program := "ytklbbcaebdfjeaadoor", sum := "582385199cc30c233e44360f313ce84a5ff3770363c8fb5787fedb7630c169c7", func := "afterglow/afterglowlaw08.SizeClasses", spec := "sizeClasses", unfollowed := true, recurses := true, named := ["afterglow/size.sizes"], apart := false, laid := [("afterglow/size.sizes", laid_afterglow_size_sizes)] }
def SizeClassesSaid : Prop := sizeClassesRow.holds Tryd.pinned (OpenSpec.ofChange sizeClassesSpec)

/-- ITS FALSE NEIGHBOUR: 'it returns false'. Refute it at one input. -/
def sizeClassesWrong : ChangeSpec := { name := "sizeClasses", fn := fun _ => fun
  | [d] => { results := [.lit (.bool false)], args := [d] }
  | _ => none }
def SizeClassesWrongFalsely : Prop := sizeClassesRow.holds Tryd.pinned (OpenSpec.ofChange sizeClassesWrong)

/-- 'afterglowlaw08.SizePlaces': WHATEVER THE INPUT: true; the input reads as it did. -/
def sizePlacesSpec : ChangeSpec := { name := "sizePlaces", fn := fun _ => fun
  | [d1, d2] => { results := [.lit (.bool true)], args := [d1, d2] }
  | _ => none }
def sizePlacesRow : OpenClaim := { program := "ytklbbcaebdfjeaadoor", sum := "582385199cc30c233e44360f313ce84a5ff3770363c8fb5787fedb7630c169c7", func := "afterglow/afterglowlaw08.SizePlaces", spec := "sizePlaces", unfollowed := true, recurses := true, named := ["afterglow/size.sizes"], apart := false, laid := [("afterglow/size.sizes", laid_afterglow_size_sizes)] }
def SizePlacesSaid : Prop := sizePlacesRow.holds Tryd.pinned (OpenSpec.ofChange sizePlacesSpec)

/-- ITS FALSE NEIGHBOUR: 'it returns false'. Refute it at one input. -/
def sizePlacesWrong : ChangeSpec := { name := "sizePlaces", fn := fun _ => fun
  | [d1, d2] => { results := [.lit (.bool false)], args := [d1, d2] }
  | _ => none }
def SizePlacesWrongFalsely : Prop := sizePlacesRow.holds Tryd.pinned (OpenSpec.ofChange sizePlacesWrong)

/-- 'afterglowlaw08.SizeLies': WHATEVER THE INPUT: true; the input reads as it did. -/
def sizeLiesSpec : ChangeSpec := { name := "sizeLies", fn := fun _ => fun
  | [d1, d2] => { results := [.lit (.bool true)], args := [d1, d2] }
  | _ => none }
def sizeLiesRow : OpenClaim := { program := "ytklbbcaebdfjeaadoor", sum := "582385199cc30c233e44360f313ce84a5ff3770363c8fb5787fedb7630c169c7", func := "afterglow/afterglowlaw08.SizeLies", spec := "sizeLies", unfollowed := true, recurses := true, named := ["afterglow/size.sizes"], apart := false, laid := [("afterglow/size.sizes", laid_afterglow_size_sizes)] }
def SizeLiesSaid : Prop := sizeLiesRow.holds Tryd.pinned (OpenSpec.ofChange sizeLiesSpec)

/-- ITS FALSE NEIGHBOUR: 'it returns false'. Refute it at one input. -/
def sizeLiesWrong : ChangeSpec := { name := "sizeLies", fn := fun _ => fun
  | [d1, d2] => { results := [.lit (.bool false)], args := [d1, d2] }
  | _ => none }
def SizeLiesWrongFalsely : Prop := sizeLiesRow.holds Tryd.pinned (OpenSpec.ofChange sizeLiesWrong)

/-- 'afterglowlaw08.SizeBack': WHATEVER THE INPUT: true; the input reads as it did. -/
def sizeBackSpec : ChangeSpec := { name := "sizeBack", fn := fun _ => fun
  | [d1, d2] => { results := [.lit (.bool true)], args := [d1, d2] }
  | _ => none }
def sizeBackRow : OpenClaim := { program := "ytklbbcaebdfjeaadoor", sum := "582385199cc30c233e44360f313ce84a5ff3770363c8fb5787fedb7630c169c7", func := "afterglow/afterglowlaw08.SizeBack", spec := "sizeBack", unfollowed := true, recurses := true, named := ["afterglow/size.sizes"], apart := false, laid := [("afterglow/size.sizes", laid_afterglow_size_sizes)] }
def SizeBackSaid : Prop := sizeBackRow.holds Tryd.pinned (OpenSpec.ofChange sizeBackSpec)

/-- ITS FALSE NEIGHBOUR: 'it returns false'. Refute it at one input. -/
def sizeBackWrong : ChangeSpec := { name := "sizeBack", fn := fun _ => fun
  | [d1, d2] => { results := [.lit (.bool false)], args := [d1, d2] }
  | _ => none }
def SizeBackWrongFalsely : Prop := sizeBackRow.holds Tryd.pinned (OpenSpec.ofChange sizeBackWrong)

/-- 'afterglowlaw08.SizeParts': WHATEVER THE INPUT: true; the input reads as it did. -/
def sizePartsSpec : ChangeSpec := { name := "sizeParts", fn := fun _ => fun
  | [d1, d2] => { results := [.lit (.bool true)], args := [d1, d2] }
  | _ => none }
def sizePartsRow : OpenClaim := { program := "ytklbbcaebdfjeaadoor", sum := "582385199cc30c233e44360f313ce84a5ff3770363c8fb5787fedb7630c169c7", func := "afterglow/afterglowlaw08.SizeParts", spec := "sizeParts", unfollowed := true, recurses := true, named := ["afterglow/size.sizes"], apart := false, laid := [("afterglow/size.sizes", laid_afterglow_size_sizes)] }
def SizePartsSaid : Prop := sizePartsRow.holds Tryd.pinned (OpenSpec.ofChange sizePartsSpec)

/-- ITS FALSE NEIGHBOUR: 'it returns false'. Refute it at one input. -/
def sizePartsWrong : ChangeSpec := { name := "sizeParts", fn := fun _ => fun
  | [d1, d2] => { results := [.lit (.bool false)], args := [d1, d2] }
  | _ => none }
def SizePartsWrongFalsely : Prop := sizePartsRow.holds Tryd.pinned (OpenSpec.ofChange sizePartsWrong)

/-- 'afterglowlaw08.SizeNests': WHATEVER THE INPUT: true; the input reads as it did. -/
def sizeNestsSpec : ChangeSpec := { name := "sizeNests", fn := fun _ => fun
  | [d1, d2] => { results := [.lit (.bool true)], args := [d1, d2] }
  | _ => none }
def sizeNestsRow : OpenClaim := { program := "ytklbbcaebdfjeaadoor", sum := "582385199cc30c233e44360f313ce84a5ff3770363c8fb5787fedb7630c169c7", func := "afterglow/afterglowlaw08.SizeNests", spec := "sizeNests", unfollowed := true, recurses := true, named := ["afterglow/size.sizes"], apart := false, laid := [("afterglow/size.sizes", laid_afterglow_size_sizes)] }
def SizeNestsSaid : Prop := sizeNestsRow.holds Tryd.pinned (OpenSpec.ofChange sizeNestsSpec)

/-- ITS FALSE NEIGHBOUR: 'it returns false'. Refute it at one input. -/
def sizeNestsWrong : ChangeSpec := { name := "sizeNests", fn := fun _ => fun
  | [d1, d2] => { results := [.lit (.bool false)], args := [d1, d2] }
  | _ => none }
def SizeNestsWrongFalsely : Prop := sizeNestsRow.holds Tryd.pinned (OpenSpec.ofChange sizeNestsWrong)

/-- 'afterglowlaw08.SizeFits': WHATEVER THE INPUT: true; the input reads as it did. -/
def sizeFitsSpec : ChangeSpec := { name := "sizeFits", fn := fun _ => fun
  | [d] => { results := [.lit (.bool true)], args := [d] }
  | _ => none }
def sizeFitsRow : OpenClaim := { program := "ytklbbcaebdfjeaadoor", sum := "582385199cc30c233e44360f313ce84a5ff3770363c8fb5787fedb7630c169c7", func := "afterglow/afterglowlaw08.SizeFits", spec := "sizeFits", unfollowed := true, recurses := true, named := ["afterglow/size.sizes"], apart := false, laid := [("afterglow/size.sizes", laid_afterglow_size_sizes)] }
def SizeFitsSaid : Prop := sizeFitsRow.holds Tryd.pinned (OpenSpec.ofChange sizeFitsSpec)

/-- ITS FALSE NEIGHBOUR: 'it returns false'. Refute it at one input. -/
def sizeFitsWrong : ChangeSpec := { name := "sizeFits", fn := fun _ => fun
  | [d] => { results := [.lit (.bool false)], args := [d] }
  | _ => none }
def SizeFitsWrongFalsely : Prop := sizeFitsRow.holds Tryd.pinned (OpenSpec.ofChange sizeFitsWrong)

/- THE SECOND FORM. 'bulk': how many values and letters a reading holds, each counted each time it is reached (what is shared counts as often as it is met; a slice's spare places count too). A statement '..UptoSaid' is the law's where the arguments, and the package variables that the reading takes, are together of bulk at most 1048576: NARROWER than '..Said'. Prove '..Said' where nothing that the law and all that it calls make is longer than what came in: it says more and counts as full. Else prove '..UptoSaid'. A law counts once. -/
mutual
def uptoBulk {H : Type} : DataW H → Nat
  | .lit (.string bytes) => bytes.length + 1
  | .lit _ => 1
  | .nil => 1
  | .ptr d => uptoBulk d + 1
  | .slice elems spare => uptoBulkAll elems + uptoBulkAll spare + 1
  | .agg parts => uptoBulkAll parts + 1
  | .iface _ d => uptoBulk d + 1
  | .map entries => uptoBulkEntries entries + 1
  | .held _ => 1
def uptoBulkAll {H : Type} : List (DataW H) → Nat
  | [] => 0
  | d :: r => uptoBulk d + uptoBulkAll r
def uptoBulkEntries {H : Type} : List (Lit × DataW H) → Nat
  | [] => 0
  | x :: r => uptoBulkEntry x + uptoBulkEntries r
def uptoBulkEntry {H : Type} : Lit × DataW H → Nat
  | (.string bytes, d) => bytes.length + uptoBulk d + 1
  | (_, d) => uptoBulk d + 1
 end
def uptoSmall : (H : Type) → List (DataW H) → Bool := fun _ ds => decide (uptoBulkAll ds ≤ 1048576)
def OpenSpec.upto (s : _root_.Go.ChangeSpec) : _root_.Go.OpenSpec := { _root_.Go.OpenSpec.ofChange s with cond := some uptoSmall }

/-- 'afterglowlaw08.SizeClasses', WHERE WHAT IT READS IS OF BULK AT MOST 1048576: true; the input reads as it did. -/
def sizeClassesUptoRow : OpenClaim := { program := "ytklbbcaebdfjeaadoor", sum := "582385199cc30c233e44360f313ce84a5ff3770363c8fb5787fedb7630c169c7", func := "afterglow/afterglowlaw08.SizeClasses", spec := "sizeClasses", unfollowed := true, recurses := true, named := ["afterglow/size.sizes"], apart := false, laid := [("afterglow/size.sizes", laid_afterglow_size_sizes)], narrowed := true }
def SizeClassesUptoSaid : Prop := sizeClassesUptoRow.holds Tryd.pinned (OpenSpec.upto sizeClassesSpec)

/-- 'afterglowlaw08.SizePlaces', WHERE WHAT IT READS IS OF BULK AT MOST 1048576: true; the input reads as it did. -/
def sizePlacesUptoRow : OpenClaim := { program := "ytklbbcaebdfjeaadoor", sum := "582385199cc30c233e44360f313ce84a5ff3770363c8fb5787fedb7630c169c7", func := "afterglow/afterglowlaw08.SizePlaces", spec := "sizePlaces", unfollowed := true, recurses := true, named := ["afterglow/size.sizes"], apart := false, laid := [("afterglow/size.sizes", laid_afterglow_size_sizes)], narrowed := true }
def SizePlacesUptoSaid : Prop := sizePlacesUptoRow.holds Tryd.pinned (OpenSpec.upto sizePlacesSpec)

/-- 'afterglowlaw08.SizeLies', WHERE WHAT IT READS IS OF BULK AT MOST 1048576: true; the input reads as it did. -/
def sizeLiesUptoRow : OpenClaim := { program := "ytklbbcaebdfjeaadoor", sum := "582385199cc30c233e44360f313ce84a5ff3770363c8fb5787fedb7630c169c7", func := "afterglow/afterglowlaw08.SizeLies", spec := "sizeLies", unfollowed := true, recurses := true, named := ["afterglow/size.sizes"], apart := false, laid := [("afterglow/size.sizes", laid_afterglow_size_sizes)], narrowed := true }
def SizeLiesUptoSaid : Prop := sizeLiesUptoRow.holds Tryd.pinned (OpenSpec.upto sizeLiesSpec)

/-- 'afterglowlaw08.SizeBack', WHERE WHAT IT READS IS OF BULK AT MOST 1048576: true; the input reads as it did. -/
def sizeBackUptoRow : OpenClaim := { program := "ytklbbcaebdfjeaadoor", sum := "582385199cc30c233e44360f313ce84a5ff3770363c8fb5787fedb7630c169c7", func := "afterglow/afterglowlaw08.SizeBack", spec := "sizeBack", unfollowed := true, recurses := true, named := ["afterglow/size.sizes"], apart := false, laid := [("afterglow/size.sizes", laid_afterglow_size_sizes)], narrowed := true }
def SizeBackUptoSaid : Prop := sizeBackUptoRow.holds Tryd.pinned (OpenSpec.upto sizeBackSpec)

/-- 'afterglowlaw08.SizeParts', WHERE WHAT IT READS IS OF BULK AT MOST 1048576: true; the input reads as it did. -/
def sizePartsUptoRow : OpenClaim := { program := "ytklbbcaebdfjeaadoor", sum := "582385199cc30c233e44360f313ce84a5ff3770363c8fb5787fedb7630c169c7", func := "afterglow/afterglowlaw08.SizeParts", spec := "sizeParts", unfollowed := true, recurses := true, named := ["afterglow/size.sizes"], apart := false, laid := [("afterglow/size.sizes", laid_afterglow_size_sizes)], narrowed := true }
def SizePartsUptoSaid : Prop := sizePartsUptoRow.holds Tryd.pinned (OpenSpec.upto sizePartsSpec)

/-- 'afterglowlaw08.SizeNests', WHERE WHAT IT READS IS OF BULK AT MOST 1048576: true; the input reads as it did. -/
def sizeNestsUptoRow : OpenClaim := { program := "ytklbbcaebdfjeaadoor", sum := "582385199cc30c233e44360f313ce84a5ff3770363c8fb5787fedb7630c169c7", func := "afterglow/afterglowlaw08.SizeNests", spec := "sizeNests", unfollowed := true, recurses := true, named := ["afterglow/size.sizes"], apart := false, laid := [("afterglow/size.sizes", laid_afterglow_size_sizes)], narrowed := true }
def SizeNestsUptoSaid : Prop := sizeNestsUptoRow.holds Tryd.pinned (OpenSpec.upto sizeNestsSpec)

/-- 'afterglowlaw08.SizeFits', WHERE WHAT IT READS IS OF BULK AT MOST 1048576: true; the input reads as it did. -/
def sizeFitsUptoRow : OpenClaim := { program := "ytklbbcaebdfjeaadoor", sum := "582385199cc30c233e44360f313ce84a5ff3770363c8fb5787fedb7630c169c7", func := "afterglow/afterglowlaw08.SizeFits", spec := "sizeFits", unfollowed := true, recurses := true, named := ["afterglow/size.sizes"], apart := false, laid := [("afterglow/size.sizes", laid_afterglow_size_sizes)], narrowed := true }
def SizeFitsUptoSaid : Prop := sizeFitsUptoRow.holds Tryd.pinned (OpenSpec.upto sizeFitsSpec)

end Rows
end Go.Proofs.YtklbbcaebdfjeaaDoor
