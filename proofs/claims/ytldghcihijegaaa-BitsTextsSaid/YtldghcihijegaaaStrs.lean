/-
  What it is for a slice to read as texts.
  Conditions: none.
-/
import Derived.WalkKit
namespace Go.Proofs.Ytldghcihijegaaa

/-- A slice that reads as these texts. -/
def StrsAt (W : World) (v : Value) (ts : List ByteArray) : Prop := ∃ p cap, v = .slice p ts.length cap ∧
  (ts ≠ [] → ∃ b off, p = some ⟨b, off, none⟩ ∧ ∀ i (h : i < ts.length), W.cell? ⟨b, off + i, none⟩ = some (.string ts[i]))

end Go.Proofs.Ytldghcihijegaaa
