/-
  Opening arguments of layer 2: a memory, an access, a row of three words.
  Conditions: none.
-/
import Derived.Test.YtcledklajcdfiaaMOwn
import Derived.Test.YtcledklajcdfiaaClose
import Derived.Lib.SmallJoins
import Derived.Laws.IdiomArrays
import Derived.Deep.Grids
namespace Go.Proofs.Ytcledklajcdfiaa
open Go.ChangeShapes Go.WideShapes Go.ChangeAt Go.RowKit Go.Deep Go.Joins

theorem words_argr {H : Type} {enc : TypeId × Value → H} {P : Program} {W : World} {t e : TypeId} {n : Nat} {v : Value} {y : DataW H × List MemPlace} (ht : P.underlying t = some (.slice e)) (he : P.underlying e = some (.int .u64)) (hc : P.cellsOf e = 1)
    (hf : DataW.trod enc P W 0 (fun _ => true) true n t [v] = some y) :
    ∃ ns : List Int, ArgR W v (ns.map (Value.int .u64)) ∧ WRange ns ∧ ns.length ≤ 9223372036854775807 := by
  rcases open_ints ht he hc hf with ⟨hcs, _⟩ | ⟨a, len', cap', zs, hcs, _, hl, hm, hz, _, hcell, hwz⟩
  · simp only [List.cons.injEq, and_true] at hcs
    subst hcs
    exact ⟨[], ⟨_, _, _, rfl, rfl, .inl ⟨rfl, rfl, rfl⟩⟩, (fun x hx => by cases hx), by decide⟩
  · simp only [List.cons.injEq, and_true] at hcs
    subst hcs
    simp only [if_true] at hz
    have hlen : (zs.take len').length = len' := List.length_take_of_le (by omega)
    refine ⟨zs.take len', ⟨_, _, _, rfl, by rw [List.length_map, hlen], .inr ⟨a, rfl, hl, fun j u hj => ?_⟩⟩, fun x hx => by simpa [Lit.wf, IntKind.min, IntKind.max, IntKind.signed, IntKind.bits] using hwz x (List.mem_of_mem_take hx), by rw [hlen]; unfold maxLen at hm; omega⟩
    obtain ⟨hj1, rfl⟩ := List.getElem?_eq_some_iff.1 hj
    have hj2 : j < len' := by
      have := hj1
      rw [List.length_map, hlen] at this
      exact this
    have h1 := hcell j (by omega)
    rw [List.getD_eq_getElem?_getD, List.getElem?_eq_getElem (by omega)] at h1
    simpa using h1
theorem bools_argr {H : Type} {enc : TypeId × Value → H} {P : Program} {W : World} {t e : TypeId} {n : Nat} {v : Value} {y : DataW H × List MemPlace} (ht : P.underlying t = some (.slice e)) (he : P.underlying e = some .bool) (hc : P.cellsOf e = 1)
    (hf : DataW.trod enc P W 0 (fun _ => true) true n t [v] = some y) :
    ∃ ls : List Bool, ArgR W v (ls.map Value.bool) ∧ ls.length ≤ 9223372036854775807 := by
  rcases open_bools ht he hc hf with ⟨hcs, _⟩ | ⟨a, len', cap', B, hcs, _, hl, hm, _, hcell⟩
  · simp only [List.cons.injEq, and_true] at hcs
    subst hcs
    exact ⟨[], ⟨_, _, _, rfl, rfl, .inl ⟨rfl, rfl, rfl⟩⟩, by decide⟩
  · simp only [List.cons.injEq, and_true] at hcs
    subst hcs
    refine ⟨(List.range len').map B, ⟨_, _, _, rfl, by simp, .inr ⟨a, rfl, hl, fun j u hj => ?_⟩⟩, by simp; unfold maxLen at hm; omega⟩
    obtain ⟨hj1, rfl⟩ := List.getElem?_eq_some_iff.1 hj
    have hj2 : j < len' := by simpa using hj1
    rw [hcell j (by omega)]
    simp

set_option maxRecDepth 100000 in
theorem mem_open {H : Type} {enc : TypeId × Value → H} {W : World} {base : Nat} {v : Value} {d : DataW H} {ps : List MemPlace}
    (hval : Value.okWide Try.prog W .any base 46 v) (h : DataW.Trod enc Try.prog W 0 (fun _ => true) true 46 v d ps) :
    ∃ (v0 v1 : Value) (f : Bool) (ws : List Int) (ls : List Bool), v = .agg #[v0, v1, .bool f] ∧ ArgR W v0 (ws.map (Value.int .u64)) ∧ ArgR W v1 (ls.map Value.bool) ∧ WRange ws ∧ ws.length ≤ 9223372036854775807 ∧ ls.length ≤ 9223372036854775807 := by
  obtain ⟨v0, v1, v2, y0, y1, y2, n, rfl, _, _, h0, h1, h2⟩ := open_agg3 Try.underlying46 (by kernel_rfl) (by kernel_rfl) hval h
  obtain ⟨ws, hw, hr, hl⟩ := words_argr (t := 43) Try.underlying43 Try.underlying22 (by kernel_rfl) h0
  obtain ⟨ls, hb, hl2⟩ := bools_argr (t := 44) Try.underlying44 Try.underlying4 (by kernel_rfl) h1
  obtain ⟨f, hf, _⟩ := DataW.trod_bool (t := 4) Try.underlying4 h2
  simp only [List.cons.injEq, and_true] at hf
  subst hf
  exact ⟨v0, v1, f, ws, ls, rfl, hw, hb, hr, hl, hl2⟩

/-- A number that fits in a word with a sign. -/
def I64 (x : Int) : Prop := -9223372036854775808 ≤ x ∧ x ≤ 9223372036854775807
def U64 (x : Int) : Prop := 0 ≤ x ∧ x ≤ 18446744073709551615
set_option maxRecDepth 100000 in
theorem acc_open {H : Type} {enc : TypeId × Value → H} {W : World} {base : Nat} {v : Value} {d : DataW H} {ps : List MemPlace}
    (hval : Value.okWide Try.prog W .any base 31 v) (h : DataW.Trod enc Try.prog W 0 (fun _ => true) true 31 v d ps) :
    ∃ k a o n, v = .agg #[.int .i64 k, .int .i64 a, .int .u64 o, .int .u64 n] ∧ I64 k ∧ I64 a ∧ U64 o ∧ U64 n := by
  obtain ⟨v0, v1, v2, v3, y0, y1, y2, y3, n, rfl, _, _, h0, h1, h2, h3⟩ := open_agg4 Try.underlying31 (by kernel_rfl) (by kernel_rfl) hval h
  obtain ⟨k, hk, _, wk⟩ := DataW.trod_int (t := 3) Try.underlying3 h0
  obtain ⟨a, ha, _, wa⟩ := DataW.trod_int (t := 3) Try.underlying3 h1
  obtain ⟨o, ho, _, wo⟩ := DataW.trod_int (t := 22) Try.underlying22 h2
  obtain ⟨n, hn, _, wn⟩ := DataW.trod_int (t := 22) Try.underlying22 h3
  simp only [List.cons.injEq, and_true] at hk ha ho hn
  subst hk ha ho hn
  exact ⟨k, a, o, n, rfl, by simpa [I64, Lit.wf, IntKind.min, IntKind.max, IntKind.signed, IntKind.bits] using wk, by simpa [I64, Lit.wf, IntKind.min, IntKind.max, IntKind.signed, IntKind.bits] using wa, by simpa [U64, Lit.wf, IntKind.min, IntKind.max, IntKind.signed, IntKind.bits] using wo, by simpa [U64, Lit.wf, IntKind.min, IntKind.max, IntKind.signed, IntKind.bits] using wn⟩
end Go.Proofs.Ytcledklajcdfiaa
