/-
  small, the chapter's memory: eight words, of which three are live; and whether two memories are the same that read so, and whether one says nothing.
  Conditions: as each has them.
-/
import Derived.Test.YtcledklajcdfiaaMNew
import Derived.Test.YtcledklajcdfiaaMLive
import Derived.Test.YtcledklajcdfiaaMEqual
namespace Go.Proofs.Ytcledklajcdfiaa
open Go.RowKit Go.Shelf

/-- The chapter's memory. -/
def smallW : List Int := [0, 0, 0, 0, 0, 0, 0, 0]
def smallL : List Bool := [false, false, true, true, true, false, false, false]
def SmallOk (B : Nat) (e : Ending) (w' : World) : Prop :=
  ∃ gw cw gl cl, e = .returned (.tuple #[.agg #[.slice (some ⟨gw, 0, none⟩) 8 cw, .slice (some ⟨gl, 0, none⟩) 8 cl, .bool false], .bool true]) ∧
  w'.ownsRow B 22 1 (.slice (some ⟨gw, 0, none⟩) 8 cw) 8 (smallW.map (Value.int .u64)) ∧ w'.ownsRow B 4 1 (.slice (some ⟨gl, 0, none⟩) 8 cl) 8 (smallL.map Value.bool)

end Go.Proofs.Ytcledklajcdfiaa
