/-
  Opening arguments: a slice of fields, and a slice of words, as lists.
  Conditions: none.
-/
import Derived.Test.YtejendpkkdmjhaaClose
import Derived.Test.YtejendpkkdmjhaaStayLib
import Derived.Deep.SlicePairs
namespace Go.Proofs.Ytejendpkkdmjhaa
open Go.ChangeShapes Go.WideShapes Go.ChangeAt Go.RowKit Go.Deep

theorem words_open {H : Type} {enc : TypeId × Value → H} {P : Program} {W : World} {base : Nat} {t e : TypeId} {v : Value} {d : DataW H} {ps : List MemPlace} (ht : P.underlying t = some (.slice e)) (he : P.underlying e = some (.int .u64)) (hc : P.cellsOf e = 1)
    (hval : Value.okWide P W .any base t v) (h : DataW.Trod enc P W 0 (fun _ => true) true t v d ps) :
    ∃ ns : List Int, ArgW W v ns ∧ (∀ x ∈ ns, (Lit.int .u64 x).wf = true) ∧ ns.length ≤ 9223372036854775807 := by
  obtain ⟨a0, len, cap, rfl⟩ := okWide_slice ht hval
  obtain ⟨fuel, hf⟩ := h
  rcases open_ints ht he hc hf with ⟨hcs, _⟩ | ⟨a, len', cap', zs, hcs, _, hl, hm, hz, _, hcell, hwz⟩
  · simp [Value.cells] at hcs
    obtain ⟨rfl, rfl, rfl⟩ := hcs
    exact ⟨[], ⟨_, _, _, rfl, rfl, .inl ⟨rfl, rfl, rfl⟩⟩, (fun x hx => by cases hx), by decide⟩
  · simp [Value.cells] at hcs
    obtain ⟨rfl, rfl, rfl⟩ := hcs
    simp only [if_true] at hz
    have hlen : (zs.take len).length = len := List.length_take_of_le (by omega)
    refine ⟨zs.take len, ⟨_, _, _, rfl, hlen.symm, .inr ⟨a, rfl, hl, fun j u hj => ?_⟩⟩, fun x hx => hwz x (List.mem_of_mem_take hx), by rw [hlen]; unfold maxLen at hm; omega⟩
    obtain ⟨hj1, rfl⟩ := List.getElem?_eq_some_iff.1 hj
    have hj2 : j < len := by
      have := hj1
      rw [List.length_map, hlen] at this
      exact this
    have h1 := hcell j (by omega)
    rw [List.getD_eq_getElem?_getD, List.getElem?_eq_getElem (by omega)] at h1
    simpa using h1

theorem flatF_at : ∀ (fs : List (Int × Int)) (j : Nat) (u : Value), (flatF fs)[j]? = some u → ∃ i, ∃ h : i < fs.length, (j = i * 2 ∧ u = .int .i64 fs[i].1) ∨ (j = i * 2 + 1 ∧ u = .int .i64 fs[i].2)
  | [], j, u, h => by simp [flatF] at h
  | f :: r, 0, u, h => ⟨0, by simp, .inl ⟨rfl, by simpa [flatF] using h.symm⟩⟩
  | f :: r, 1, u, h => ⟨0, by simp, .inr ⟨rfl, by simpa [flatF] using h.symm⟩⟩
  | f :: r, j + 2, u, h => by
    obtain ⟨i, hi, hh⟩ := flatF_at r j u (by simpa [flatF] using h)
    refine ⟨i + 1, by simpa using hi, ?_⟩
    rcases hh with ⟨rfl, rfl⟩ | ⟨rfl, rfl⟩
    · exact .inl ⟨by omega, by simp⟩
    · exact .inr ⟨by omega, by simp⟩

theorem fields_open {H : Type} {enc : TypeId × Value → H} {P : Program} {W : World} {base : Nat} {t e : TypeId} {f0 f1 : Go.Field} {v : Value} {d : DataW H} {ps : List MemPlace} (ht : P.underlying t = some (.slice e)) (he : P.underlying e = some (.struct #[f0, f1]))
    (ce : P.cellsOf e = 2) (o0 : f0.offset = 0) (o1 : f1.offset = 1) (c0 : P.cellsOf f0.type = 1) (c1 : P.cellsOf f1.type = 1) (k0 : P.underlying f0.type = some (.int .i64)) (k1 : P.underlying f1.type = some (.int .i64))
    (hval : Value.okWide P W .any base t v) (h : DataW.Trod enc P W 0 (fun _ => true) true t v d ps) :
    ∃ fs : List (Int × Int), ArgF W v fs ∧ FRange fs ∧ fs.length ≤ 9223372036854775807 := by
  obtain ⟨a0, len, cap, rfl⟩ := okWide_slice ht hval
  obtain ⟨fuel, hf⟩ := h
  rcases open_slice_pairs ht he ce o0 o1 c0 c1 hf with ⟨hcs, _⟩ | ⟨a, len', cap', m, n, V0, V1, D0, D1, P0, P1, hcs, _, hl, hm, hmm, _, hcell⟩
  · simp [Value.cells] at hcs
    obtain ⟨rfl, rfl, rfl⟩ := hcs
    exact ⟨[], ⟨_, _, _, rfl, rfl, .inl ⟨rfl, rfl, rfl⟩⟩, (fun f hf => by cases hf), by decide⟩
  · simp [Value.cells] at hcs
    obtain ⟨rfl, rfl, rfl⟩ := hcs
    simp only [if_true] at hmm
    have hall : ∀ i, i < len → ∃ f : Int × Int, ((W.cell? (a.add (i * 2)) = some (.int .i64 f.1) ∧ W.cell? (a.add (i * 2 + 1)) = some (.int .i64 f.2)) ∧ (Lit.int .i64 f.1).wf = true ∧ (Lit.int .i64 f.2).wf = true) := by
      intro i hi
      obtain ⟨h1, h2, h3, h4⟩ := hcell i (by omega)
      obtain ⟨x, hx, _, hxw⟩ := DataW.trod_int k0 h3
      obtain ⟨y, hy, _, hyw⟩ := DataW.trod_int k1 h4
      simp only [List.cons.injEq, and_true] at hx hy
      rw [hx] at h1
      rw [hy] at h2
      exact ⟨(x, y), ⟨h1, h2⟩, hxw, hyw⟩
    obtain ⟨F, hF⟩ := choose_lt hall
    have hlen : ((List.range len).map F).length = len := by simp
    refine ⟨(List.range len).map F, ⟨_, _, _, rfl, hlen.symm, .inr ⟨a, rfl, hl, fun j u hj => ?_⟩⟩, fun f hf => ?_, by rw [hlen]; unfold maxLen at hm; omega⟩
    · obtain ⟨i, hi, hh⟩ := flatF_at _ j u hj
      have hi2 : i < len := by simpa using hi
      obtain ⟨⟨h1, h2⟩, _⟩ := hF i hi2
      rcases hh with ⟨rfl, rfl⟩ | ⟨rfl, rfl⟩
      · simpa using h1
      · simpa using h2
    · obtain ⟨i, hi, rfl⟩ := List.mem_map.1 hf
      obtain ⟨_, h1, h2⟩ := hF i (List.mem_range.1 hi)
      simpa [Lit.wf, IntKind.min, IntKind.max, IntKind.signed, IntKind.bits] using And.intro h1 h2

end Go.Proofs.Ytejendpkkdmjhaa
