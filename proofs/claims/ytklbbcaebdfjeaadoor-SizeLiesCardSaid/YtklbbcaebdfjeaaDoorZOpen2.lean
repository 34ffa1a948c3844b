/-
  Opening arguments of layer 8: a row of blocks, a row of places.
  Conditions: none.
-/
import Derived.Test.YtklbbcaebdfjeaaDoorOpen
import Derived.Test.YtklbbcaebdfjeaaDoorZOpen
import Derived.Test.YtklbbcaebdfjeaaDoorZTaken
namespace Go.Proofs.YtklbbcaebdfjeaaDoor
open Go.ChangeShapes Go.WideShapes Go.ChangeAt Go.RowKit Go.Deep Go.Joins

/-- A slice that reads as these places. -/
def PlcsAt (W : World) (v : Value) (ps : List (Int × Int × Int)) : Prop := ∃ p cap, v = .slice p ps.length cap ∧
  (ps ≠ [] → ∃ b off, p = some ⟨b, off, none⟩ ∧ ∀ i (h : i < ps.length), W.cell? ⟨b, off + i * 3, none⟩ = some (.int .i64 ps[i].1) ∧ W.cell? ⟨b, off + i * 3 + 1, none⟩ = some (.int .i64 ps[i].2.1) ∧ W.cell? ⟨b, off + i * 3 + 2, none⟩ = some (.int .i64 ps[i].2.2))
theorem choose_lt' {α : Type} [Inhabited α] {P : Nat → α → Prop} {n : Nat} (h : ∀ i, i < n → ∃ x, P i x) : ∃ F : Nat → α, ∀ i, i < n → P i (F i) := by
  classical
  refine ⟨fun i => if hi : i < n then (h i hi).choose else default, fun i hi => ?_⟩
  simp only [hi, dif_pos]
  exact (h i hi).choose_spec
theorem spot_none {W : World} {b off : Nat} {sp : Option Nat} {u : Value} (h : W.cell? ⟨b, off, sp⟩ = some u) : sp = none := by
  cases sp with
  | none => rfl
  | some x =>
    simp only [World.cell?] at h
    split at h <;> simp at h

set_option maxRecDepth 100000 in
theorem blks_arg {H : Type} {enc : TypeId × Value → H} {W : World} {base : Nat} {v : Value} {d : DataW H} {ps : List MemPlace}
    (hval : Value.okWide Tryd.prog W .any base 30 v) (h : DataW.Trod enc Tryd.prog W 0 (fun _ => true) true 30 v d ps) :
    ∃ bs : List (Int × Int), BlksAt W v bs ∧ (∀ b ∈ bs, I64 b.1 ∧ I64 b.2) ∧ bs.length ≤ 9223372036854775807 ∧ ∀ p n c, v = .slice p n c → n ≤ c ∧ (p = none → c = 0) := by
  obtain ⟨a0, len, cap, rfl⟩ := okWide_slice Tryd.underlying30 hval
  obtain ⟨fuel, hf⟩ := h
  have hce : Tryd.prog.cellsOf 33 = 2 := by kernel_rfl
  have hcu : Tryd.prog.cellsOf 3 = 1 := by kernel_rfl
  rcases open_slice Tryd.underlying30 hf with ⟨hcs, _⟩ | ⟨a, len', cap', m, n, D, Pl, hcs, _, hl, hm, hmm, _, hall⟩
  · simp [Value.cells] at hcs
    obtain ⟨rfl, rfl, rfl⟩ := hcs
    exact ⟨[], ⟨_, _, rfl, fun h => absurd rfl h⟩, (fun b hb => by cases hb), by decide, fun p n c e => by cases e; exact ⟨Nat.le_refl _, fun _ => rfl⟩⟩
  · simp [Value.cells] at hcs
    obtain ⟨rfl, rfl, rfl⟩ := hcs
    simp only [if_true] at hmm
    have hone : ∀ i, i < len → ∃ g : Int × Int, W.cell? (a.add (i * 2)) = some (.int .i64 g.1) ∧ W.cell? (a.add (i * 2 + 1)) = some (.int .i64 g.2) ∧ I64 g.1 ∧ I64 g.2 := by
      intro i hi
      obtain ⟨cs', hc, ht⟩ := hall i (by omega)
      rw [hce] at hc
      obtain ⟨_, hcl, hat⟩ := World.cells?_some hc
      obtain ⟨xs, k, _, _, _, hlx, hx⟩ := DataW.trod_struct Tryd.underlying33 ht
      have hlx : xs.length = 2 := hlx
      match cs', hcl with
      | [c0, c1], _ =>
        have h0 : DataW.trod enc Tryd.prog W 0 (fun _ => true) true k 3 (([c0, c1].drop 0).take (Tryd.prog.cellsOf 3)) = xs[0]? := hx 0 _ rfl
        have h1 : DataW.trod enc Tryd.prog W 0 (fun _ => true) true k 3 (([c0, c1].drop 1).take (Tryd.prog.cellsOf 3)) = xs[1]? := hx 1 _ rfl
        rw [hcu] at h0 h1
        simp only [List.drop_zero, List.take_succ_cons, List.take_zero, List.drop_succ_cons] at h0 h1
        rw [List.getElem?_eq_getElem (by omega)] at h0 h1
        have e0 := hat 0 (by decide)
        have e1 := hat 1 (by decide)
        rw [Go.Deep.add_add] at e0 e1
        obtain ⟨x0, y0, _, w0⟩ := DataW.trod_int (t := 3) Tryd.underlying3 h0
        obtain ⟨x1, y1, _, w1⟩ := DataW.trod_int (t := 3) Tryd.underlying3 h1
        simp only [List.cons.injEq, and_true] at y0 y1
        subst y0 y1
        exact ⟨(x0, x1), by simpa using e0, by simpa using e1, i64_of w0, i64_of w1⟩
    obtain ⟨F, hF⟩ := choose_lt' hone
    have hlen : ((List.range len).map F).length = len := by simp
    refine ⟨(List.range len).map F, ⟨_, _, by rw [hlen], fun hne => ?_⟩, fun b hb => ?_, by rw [hlen]; unfold maxLen at hm; omega, fun p n c e => by cases e; exact ⟨hl, fun h => by cases h⟩⟩
    · have hpos : 0 < len := by
        rcases Nat.eq_zero_or_pos len with e | e
        · subst e; exact absurd rfl hne
        · exact e
      obtain ⟨b, off, sp⟩ := a
      have h0 := (hF 0 hpos).1
      rw [Nat.zero_mul, Addr.add_zero'] at h0
      obtain rfl := spot_none h0
      refine ⟨b, off, rfl, fun i hi => ?_⟩
      rw [hlen] at hi
      have hg := hF i hi
      rw [addr_add_at, addr_add_at] at hg
      simp only [List.getElem_map, List.getElem_range]
      exact ⟨hg.1, by rw [Nat.add_assoc]; exact hg.2.1⟩
    · obtain ⟨i, hi, rfl⟩ := List.mem_map.1 hb
      exact (hF i (List.mem_range.1 hi)).2.2

set_option maxRecDepth 100000 in
theorem places_arg {H : Type} {enc : TypeId × Value → H} {W : World} {base : Nat} {v : Value} {d : DataW H} {ps : List MemPlace}
    (hval : Value.okWide Tryd.prog W .any base 31 v) (h : DataW.Trod enc Tryd.prog W 0 (fun _ => true) true 31 v d ps) :
    ∃ bs : List (Int × Int × Int), PlcsAt W v bs ∧ (∀ b ∈ bs, I64 b.1 ∧ I64 b.2.1 ∧ I64 b.2.2) ∧ bs.length ≤ 9223372036854775807 := by
  obtain ⟨a0, len, cap, rfl⟩ := okWide_slice Tryd.underlying31 hval
  obtain ⟨fuel, hf⟩ := h
  have hce : Tryd.prog.cellsOf 38 = 3 := by kernel_rfl
  rcases open_slice Tryd.underlying31 hf with ⟨hcs, _⟩ | ⟨a, len', cap', m, n, D, Pl, hcs, _, hl, hm, hmm, _, hall⟩
  · simp [Value.cells] at hcs
    obtain ⟨rfl, rfl, rfl⟩ := hcs
    exact ⟨[], ⟨_, _, rfl, fun h => absurd rfl h⟩, (fun b hb => by cases hb), by decide⟩
  · simp [Value.cells] at hcs
    obtain ⟨rfl, rfl, rfl⟩ := hcs
    simp only [if_true] at hmm
    have hone : ∀ i, i < len → ∃ g : Int × Int × Int, (W.cell? (a.add (i * 3)) = some (.int .i64 g.1) ∧ W.cell? (a.add (i * 3 + 1)) = some (.int .i64 g.2.1) ∧ W.cell? (a.add (i * 3 + 2)) = some (.int .i64 g.2.2)) ∧ I64 g.1 ∧ I64 g.2.1 ∧ I64 g.2.2 := by
      intro i hi
      obtain ⟨cs', hc, ht⟩ := hall i (by omega)
      rw [hce] at hc
      obtain ⟨_, hcl, hat⟩ := World.cells?_some hc
      match cs', hcl with
      | [c0, c1, c2], _ =>
        obtain ⟨y0, y1, y2, k, h0, h1, h2⟩ := trod_array3 Tryd.underlying38 (by kernel_rfl) ht
        have e0 := hat 0 (by decide)
        have e1 := hat 1 (by decide)
        have e2 := hat 2 (by decide)
        rw [Go.Deep.add_add] at e0 e1 e2
        obtain ⟨x0, y0, _, w0⟩ := DataW.trod_int (t := 3) Tryd.underlying3 h0
        obtain ⟨x1, y1, _, w1⟩ := DataW.trod_int (t := 3) Tryd.underlying3 h1
        obtain ⟨x2, y2, _, w2⟩ := DataW.trod_int (t := 3) Tryd.underlying3 h2
        simp only [List.cons.injEq, and_true] at y0 y1 y2
        subst y0 y1 y2
        exact ⟨(x0, x1, x2), ⟨by simpa using e0, by simpa using e1, by simpa using e2⟩, i64_of w0, i64_of w1, i64_of w2⟩
    obtain ⟨F, hF⟩ := choose_lt' hone
    have hlen : ((List.range len).map F).length = len := by simp
    refine ⟨(List.range len).map F, ⟨_, _, by rw [hlen], fun hne => ?_⟩, fun b hb => ?_, by rw [hlen]; unfold maxLen at hm; omega⟩
    · have hpos : 0 < len := by
        rcases Nat.eq_zero_or_pos len with e | e
        · subst e; exact absurd rfl hne
        · exact e
      obtain ⟨b, off, sp⟩ := a
      have h0 := (hF 0 hpos).1.1
      rw [Nat.zero_mul, Addr.add_zero'] at h0
      obtain rfl := spot_none h0
      refine ⟨b, off, rfl, fun i hi => ?_⟩
      rw [hlen] at hi
      have hg := (hF i hi).1
      rw [addr_add_at, addr_add_at, addr_add_at] at hg
      simp only [List.getElem_map, List.getElem_range]
      exact ⟨hg.1, by rw [Nat.add_assoc]; exact hg.2.1, by rw [Nat.add_assoc]; exact hg.2.2⟩
    · obtain ⟨i, hi, rfl⟩ := List.mem_map.1 hb
      exact (hF i (List.mem_range.1 hi)).2

end Go.Proofs.YtklbbcaebdfjeaaDoor
