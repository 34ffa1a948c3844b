/-
  What it is for a slice to read as numbers of one kind.
  Conditions: none.
-/
import Derived.WalkKit
namespace Go.Proofs.Ytjfphhemhaphbab

/-- A slice that reads as these numbers of one kind. -/
def NumsAt (W : World) (k : IntKind) (v : Value) (ns : List Int) : Prop := ∃ p cap, v = .slice p ns.length cap ∧
  (ns ≠ [] → ∃ b off, p = some ⟨b, off, none⟩ ∧ ∀ i (h : i < ns.length), W.cell? ⟨b, off + i, none⟩ = some (.int k ns[i]))

end Go.Proofs.Ytjfphhemhaphbab
