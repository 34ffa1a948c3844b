/-
  Opening arguments of layer 7: a pool, a row of numbers.
  Conditions: none.
-/
import Derived.Test.YthjkaabbbhfjhaaPOwn
import Derived.Test.YthjkaabbbhfjhaaClose
import Derived.Lib.SmallJoins
import Derived.Laws.IdiomArrays
import Derived.Deep.Grids
namespace Go.Proofs.Ythjkaabbbhfjhaa
open Go.ChangeShapes Go.WideShapes Go.ChangeAt Go.RowKit Go.Deep Go.Joins

theorem ints_argr {H : Type} {enc : TypeId × Value → H} {P : Program} {W : World} {t e : TypeId} {n : Nat} {v : Value} {y : DataW H × List MemPlace} (ht : P.underlying t = some (.slice e)) (he : P.underlying e = some (.int .i64)) (hc : P.cellsOf e = 1)
    (hf : DataW.trod enc P W 0 (fun _ => true) true n t [v] = some y) :
    ∃ ns : List Int, ArgR W v (ns.map (Value.int .i64)) ∧ ns.length ≤ 9223372036854775807 := by
  rcases open_ints ht he hc hf with ⟨hcs, _⟩ | ⟨a, len', cap', zs, hcs, _, hl, hm, hz, _, hcell, hwz⟩
  · simp only [List.cons.injEq, and_true] at hcs
    subst hcs
    exact ⟨[], ⟨_, _, _, rfl, rfl, .inl ⟨rfl, rfl, rfl⟩⟩, by decide⟩
  · simp only [List.cons.injEq, and_true] at hcs
    subst hcs
    simp only [if_true] at hz
    have hlen : (zs.take len').length = len' := List.length_take_of_le (by omega)
    refine ⟨zs.take len', ⟨_, _, _, rfl, by rw [List.length_map, hlen], .inr ⟨a, rfl, hl, fun j u hj => ?_⟩⟩, by rw [hlen]; unfold maxLen at hm; omega⟩
    obtain ⟨hj1, rfl⟩ := List.getElem?_eq_some_iff.1 hj
    have hj2 : j < len' := by
      have := hj1
      rw [List.length_map, hlen] at this
      exact this
    have h1 := hcell j (by omega)
    rw [List.getD_eq_getElem?_getD, List.getElem?_eq_getElem (by omega)] at h1
    simpa using h1
set_option maxRecDepth 100000 in
theorem row_open {H : Type} {enc : TypeId × Value → H} {W : World} {v : Value} {d : DataW H} {ps : List MemPlace}
    (h : DataW.Trod enc Try.prog W 0 (fun _ => true) true 22 v d ps) (hv : ∃ p n c, v = .slice p n c) :
    ∃ ns : List Int, ArgR W v (ns.map (Value.int .i64)) ∧ ns.length ≤ 9223372036854775807 := by
  obtain ⟨p, n, c, rfl⟩ := hv
  obtain ⟨fuel, hf⟩ := h
  exact ints_argr (t := 22) Try.underlying22 Try.underlying3 (by kernel_rfl) hf
set_option maxRecDepth 100000 in
theorem pool_open {H : Type} {enc : TypeId × Value → H} {W : World} {base : Nat} {v : Value} {d : DataW H} {ps : List MemPlace}
    (hval : Value.okWide Try.prog W .any base 24 v) (h : DataW.Trod enc Try.prog W 0 (fun _ => true) true 24 v d ps) :
    ∃ (b pg : Int) (sv : Value) (ns : List Int), v = .agg #[.int .i64 b, .int .i64 pg, sv] ∧ ArgR W sv (ns.map (Value.int .i64)) ∧ ns.length ≤ 9223372036854775807 := by
  obtain ⟨v0, v1, v2, y0, y1, y2, n, rfl, _, _, h0, h1, h2⟩ := open_agg3 Try.underlying24 (by kernel_rfl) (by kernel_rfl) hval h
  obtain ⟨b, hb, _, wb⟩ := DataW.trod_int (t := 3) Try.underlying3 h0
  obtain ⟨pg, hp, _, wp⟩ := DataW.trod_int (t := 3) Try.underlying3 h1
  simp only [List.cons.injEq, and_true] at hb hp
  subst hb hp
  obtain ⟨ns, hn, hl⟩ := ints_argr (t := 22) Try.underlying22 Try.underlying3 (by kernel_rfl) h2
  exact ⟨b, pg, v2, ns, rfl, hn, hl⟩
end Go.Proofs.Ythjkaabbbhfjhaa
