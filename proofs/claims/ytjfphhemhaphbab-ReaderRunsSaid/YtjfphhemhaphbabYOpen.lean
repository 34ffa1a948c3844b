/-
  Opening arguments of layer 11: readers.
  Conditions: none.
-/
import Derived.Test.YtjfphhemhaphbabYOwnL
import Derived.Test.YtjfphhemhaphbabClose
import Derived.Lib.SmallJoins
import Derived.Laws.IdiomArrays
import Derived.Deep.Grids
namespace Go.Proofs.Ytjfphhemhaphbab
open Go.ChangeShapes Go.WideShapes Go.ChangeAt Go.RowKit Go.Deep Go.Joins

theorem ints_argr {H : Type} {enc : TypeId × Value → H} {P : Program} {W : World} {t e : TypeId} {n : Nat} {v : Value} {y : DataW H × List MemPlace} (ht : P.underlying t = some (.slice e)) (he : P.underlying e = some (.int .i64)) (hc : P.cellsOf e = 1)
    (hf : DataW.trod enc P W 0 (fun _ => true) true n t [v] = some y) :
    ∃ ns : List Int, ArgR W v (ns.map (Value.int .i64)) ∧ ns.length ≤ 9223372036854775807 ∧ ∀ x ∈ ns, I64 x := by
  rcases open_ints ht he hc hf with ⟨hcs, _⟩ | ⟨a, len', cap', zs, hcs, _, hl, hm, hz, _, hcell, hwz⟩
  · simp only [List.cons.injEq, and_true] at hcs
    subst hcs
    exact ⟨[], ⟨_, _, _, rfl, rfl, .inl ⟨rfl, rfl, rfl⟩⟩, by decide, fun x hx => by cases hx⟩
  · simp only [List.cons.injEq, and_true] at hcs
    subst hcs
    simp only [if_true] at hz
    have hlen : (zs.take len').length = len' := List.length_take_of_le (by omega)
    refine ⟨zs.take len', ⟨_, _, _, rfl, by rw [List.length_map, hlen], .inr ⟨a, rfl, hl, fun j u hj => ?_⟩⟩, by rw [hlen]; unfold maxLen at hm; omega, fun x hx => by
      have := hwz x (List.mem_of_mem_take hx)
      simpa [Lit.wf, IntKind.min, IntKind.max, IntKind.signed, IntKind.bits, I64] using this⟩
    obtain ⟨hj1, rfl⟩ := List.getElem?_eq_some_iff.1 hj
    have hj2 : j < len' := by
      have := hj1
      rw [List.length_map, hlen] at this
      exact this
    have h1 := hcell j (by omega)
    rw [List.getD_eq_getElem?_getD, List.getElem?_eq_getElem (by omega)] at h1
    simpa using h1
set_option maxRecDepth 100000 in
theorem readers_open {H : Type} {enc : TypeId × Value → H} {W : World} {base : Nat} {v : Value} {d : DataW H} {ps : List MemPlace}
    (hval : Value.okWide Try.prog W .any base 24 v) (h : DataW.Trod enc Try.prog W 0 (fun _ => true) true 24 v d ps) :
    ∃ (now : Int) (u1 u2 : Value) (xs ys : List Int), v = .agg #[.int .i64 now, u1, u2] ∧ ArgR W u1 (xs.map (Value.int .i64)) ∧ ArgR W u2 (ys.map (Value.int .i64)) ∧ xs.length ≤ 9223372036854775807 ∧ ys.length ≤ 9223372036854775807 ∧ (∀ y ∈ ys, I64 y) ∧ I64 now := by
  obtain ⟨v0, v1, v2, y0, y1, y2, n, rfl, _, _, h0, h1, h2⟩ := open_agg3 Try.underlying24 (by kernel_rfl) (by kernel_rfl) hval h
  obtain ⟨b, hb, _, wb⟩ := DataW.trod_int (t := 3) Try.underlying3 h0
  simp only [List.cons.injEq, and_true] at hb
  subst hb
  obtain ⟨xs, hx, lx, -⟩ := ints_argr (t := 22) Try.underlying22 Try.underlying3 (by kernel_rfl) h1
  obtain ⟨ys, hy, ly, ry⟩ := ints_argr (t := 22) Try.underlying22 Try.underlying3 (by kernel_rfl) h2
  exact ⟨b, v1, v2, xs, ys, rfl, hx, hy, lx, ly, ry, by simpa [Lit.wf, IntKind.min, IntKind.max, IntKind.signed, IntKind.bits, I64] using wb⟩
end Go.Proofs.Ytjfphhemhaphbab
