/-
  Opening arguments: a slice of words; nil has no room.
  Conditions: none.
-/
import Derived.Test.YtjgdkfgcfningaaDoorSArg
namespace Go.Proofs.YtjgdkfgcfningaaDoor
open Go.ChangeShapes Go.WideShapes Go.ChangeAt Go.RowKit

set_option maxRecDepth 100000 in
theorem words_open2 {H : Type} {enc : TypeId × Value → H} {W : World} {base : Nat} {v : Value} {d : DataW H} {ps : List MemPlace}
    (hval : Value.okWide Tryd.prog W .any base 32 v) (h : DataW.Trod enc Tryd.prog W 0 (fun _ => true) true 32 v d ps) :
    ∃ p n c ws, v = .slice p n c ∧ WAt W p n c ws ∧ (p = none → c = 0) ∧ n ≤ 9223372036854775807 := by
  obtain ⟨p, n, c, ws, rfl, hw, hn⟩ := words_open hval h
  obtain ⟨fuel, hf⟩ := h
  refine ⟨p, n, c, ws, rfl, hw, ?_, hn⟩
  rcases open_ints Tryd.underlying32 Tryd.underlying37 (by kernel_rfl) hf with ⟨hcs, _⟩ | ⟨a, len', cap', zs, hcs, _, hl, hm, hz, _⟩
  · simp [Value.cells] at hcs
    obtain ⟨rfl, rfl, rfl⟩ := hcs
    exact fun _ => rfl
  · simp [Value.cells] at hcs
    obtain ⟨rfl, rfl, rfl⟩ := hcs
    exact fun h => by cases h

end Go.Proofs.YtjgdkfgcfningaaDoor
