/-
  Opening arguments of layer 11: a row of readings.
  Conditions: none.
-/
import Derived.Test.YtjfphhemhaphbabYOpen
import Derived.Test.YtjfphhemhaphbabYRunL
namespace Go.Proofs.Ytjfphhemhaphbab
open Go.ChangeShapes Go.WideShapes Go.ChangeAt Go.RowKit Go.Deep Go.Joins

theorem choose_lt' {α : Type} [Inhabited α] {P : Nat → α → Prop} {n : Nat} (h : ∀ i, i < n → ∃ x, P i x) : ∃ F : Nat → α, ∀ i, i < n → P i (F i) := by
  classical
  refine ⟨fun i => if hi : i < n then (h i hi).choose else default, fun i hi => ?_⟩
  simp only [hi, dif_pos]
  exact (h i hi).choose_spec
theorem spot_none {W : World} {b off : Nat} {sp : Option Nat} {u : Value} (h : W.cell? ⟨b, off, sp⟩ = some u) : sp = none := by
  cases sp with
  | none => rfl
  | some x =>
    simp only [World.cell?] at h
    split at h <;> simp at h

set_option maxRecDepth 100000 in
theorem readings_open {H : Type} {enc : TypeId × Value → H} {W : World} {base : Nat} {v : Value} {d : DataW H} {ps : List MemPlace}
    (hval : Value.okWide Try.prog W .any base 25 v) (h : DataW.Trod enc Try.prog W 0 (fun _ => true) true 25 v d ps) :
    ∃ bs : List (Int × Bool), RgsAt W v bs ∧ bs.length ≤ 9223372036854775807 ∧ ∀ p n c, v = .slice p n c → n ≤ c ∧ (p = none → c = 0) := by
  obtain ⟨a0, len, cap, rfl⟩ := okWide_slice Try.underlying25 hval
  obtain ⟨fuel, hf⟩ := h
  have hce : Try.prog.cellsOf 33 = 2 := by kernel_rfl
  have hcu : Try.prog.cellsOf 3 = 1 := by kernel_rfl
  have hcb : Try.prog.cellsOf 4 = 1 := by kernel_rfl
  rcases open_slice Try.underlying25 hf with ⟨hcs, _⟩ | ⟨a, len', cap', m, n, D, Pl, hcs, _, hl, hm, hmm, _, hall⟩
  · simp [Value.cells] at hcs
    obtain ⟨rfl, rfl, rfl⟩ := hcs
    exact ⟨[], ⟨_, _, rfl, fun h => absurd rfl h⟩, by decide, fun p n c e => by cases e; exact ⟨Nat.le_refl _, fun _ => rfl⟩⟩
  · simp [Value.cells] at hcs
    obtain ⟨rfl, rfl, rfl⟩ := hcs
    simp only [if_true] at hmm
    have hone : ∀ i, i < len → ∃ g : Int × Bool, W.cell? (a.add (i * 2)) = some (.int .i64 g.1) ∧ W.cell? (a.add (i * 2 + 1)) = some (.bool g.2) := by
      intro i hi
      obtain ⟨cs', hc, ht⟩ := hall i (by omega)
      rw [hce] at hc
      obtain ⟨_, hcl, hat⟩ := World.cells?_some hc
      obtain ⟨xs, k, _, _, _, hlx, hx⟩ := DataW.trod_struct Try.underlying33 ht
      have hlx : xs.length = 2 := hlx
      match cs', hcl with
      | [c0, c1], _ =>
        have h0 : DataW.trod enc Try.prog W 0 (fun _ => true) true k 3 (([c0, c1].drop 0).take (Try.prog.cellsOf 3)) = xs[0]? := hx 0 _ rfl
        have h1 : DataW.trod enc Try.prog W 0 (fun _ => true) true k 4 (([c0, c1].drop 1).take (Try.prog.cellsOf 4)) = xs[1]? := hx 1 _ rfl
        rw [hcu] at h0
        rw [hcb] at h1
        simp only [List.drop_zero, List.take_succ_cons, List.take_zero, List.drop_succ_cons] at h0 h1
        rw [List.getElem?_eq_getElem (by omega)] at h0 h1
        have e0 := hat 0 (by decide)
        have e1 := hat 1 (by decide)
        rw [Go.Deep.add_add] at e0 e1
        obtain ⟨x0, y0, _, w0⟩ := DataW.trod_int (t := 3) Try.underlying3 h0
        obtain ⟨x1, y1, _⟩ := DataW.trod_bool (t := 4) Try.underlying4 h1
        simp only [List.cons.injEq, and_true] at y0 y1
        subst y0 y1
        exact ⟨(x0, x1), by simpa using e0, by simpa using e1⟩
    obtain ⟨F, hF⟩ := choose_lt' hone
    have hlen : ((List.range len).map F).length = len := by simp
    refine ⟨(List.range len).map F, ⟨_, _, by rw [hlen], fun hne => ?_⟩, by rw [hlen]; unfold maxLen at hm; omega, fun p n c e => by cases e; exact ⟨hl, fun h => by cases h⟩⟩
    have hpos : 0 < len := by
      rcases Nat.eq_zero_or_pos len with e | e
      · subst e; exact absurd rfl hne
      · exact e
    obtain ⟨b, off, sp⟩ := a
    have h0 := (hF 0 hpos).1
    rw [Nat.zero_mul, Addr.add_zero'] at h0
    obtain rfl := spot_none h0
    refine ⟨b, off, rfl, fun i hi => ?_⟩
    rw [hlen] at hi
    have hg := hF i hi
    rw [addr_add_off, addr_add_off] at hg
    simp only [List.getElem_map, List.getElem_range]
    exact ⟨hg.1, by rw [Nat.add_assoc]; exact hg.2⟩


end Go.Proofs.Ytjfphhemhaphbab
