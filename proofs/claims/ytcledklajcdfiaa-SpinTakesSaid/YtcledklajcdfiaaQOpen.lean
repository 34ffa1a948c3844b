/-
  Opening arguments of layer 5: one who wants a lock, and a row of what accesses came to.
  Conditions: none.
-/
import Derived.Test.YtcledklajcdfiaaMOpen
import Derived.Test.YtcledklajcdfiaaMEqual
import Derived.Test.YtcledklajcdfiaaQMath
namespace Go.Proofs.Ytcledklajcdfiaa
open Go.ChangeShapes Go.WideShapes Go.ChangeAt Go.RowKit Go.Deep Go.Joins

set_option maxRecDepth 100000 in
theorem spin_open {H : Type} {enc : TypeId × Value → H} {W : World} {base : Nat} {v : Value} {d : DataW H} {ps : List MemPlace}
    (hval : Value.okWide Try.prog W .any base 24 v) (h : DataW.Trod enc Try.prog W 0 (fun _ => true) true 24 v d ps) :
    ∃ s : SpM, v = .agg #[.int .i64 s.a, .int .i64 s.p, .int .u64 s.t] ∧ SpR s := by
  obtain ⟨v0, v1, v2, y0, y1, y2, n, rfl, _, _, h0, h1, h2⟩ := open_agg3 Try.underlying24 (by kernel_rfl) (by kernel_rfl) hval h
  obtain ⟨a, ha, _, wa⟩ := DataW.trod_int (t := 3) Try.underlying3 h0
  obtain ⟨p, hp, _, wp⟩ := DataW.trod_int (t := 3) Try.underlying3 h1
  obtain ⟨t, ht, _, wt⟩ := DataW.trod_int (t := 22) Try.underlying22 h2
  simp only [List.cons.injEq, and_true] at ha hp ht
  subst ha hp ht
  have ha : I64 a := by simpa [I64, Lit.wf, IntKind.min, IntKind.max, IntKind.signed, IntKind.bits] using wa
  have hp : I64 p := by simpa [I64, Lit.wf, IntKind.min, IntKind.max, IntKind.signed, IntKind.bits] using wp
  have ht : U64 t := by simpa [U64, Lit.wf, IntKind.min, IntKind.max, IntKind.signed, IntKind.bits] using wt
  exact ⟨⟨a, p, t⟩, rfl, by constructor <;> first | exact ha.1 | exact ha.2 | exact hp.1 | exact hp.2 | exact ht.1 | exact ht.2⟩

set_option maxRecDepth 100000 in
theorem gots_open {H : Type} {enc : TypeId × Value → H} {W : World} {base : Nat} {v : Value} {d : DataW H} {ps : List MemPlace}
    (hval : Value.okWide Try.prog W .any base 25 v) (h : DataW.Trod enc Try.prog W 0 (fun _ => true) true 25 v d ps) :
    ∃ gs : List (Int × Bool), GotsAt W v gs ∧ gs.length ≤ 9223372036854775807 := by
  obtain ⟨a0, len, cap, rfl⟩ := okWide_slice Try.underlying25 hval
  obtain ⟨fuel, hf⟩ := h
  have hce : Try.prog.cellsOf 36 = 2 := by kernel_rfl
  have hcb : Try.prog.cellsOf 4 = 1 := by kernel_rfl
  have hcu : Try.prog.cellsOf 22 = 1 := by kernel_rfl
  rcases open_slice Try.underlying25 hf with ⟨hcs, _⟩ | ⟨a, len', cap', m, n, D, Pl, hcs, _, hl, hm, hmm, _, hall⟩
  · simp [Value.cells] at hcs
    obtain ⟨rfl, rfl, rfl⟩ := hcs
    exact ⟨[], ⟨_, _, rfl, fun h => absurd rfl h⟩, by decide⟩
  · simp [Value.cells] at hcs
    obtain ⟨rfl, rfl, rfl⟩ := hcs
    simp only [if_true] at hmm
    have hone : ∀ i, i < len → ∃ g : Int × Bool, W.cell? (a.add (i * 2)) = some (.int .u64 g.1) ∧ W.cell? (a.add (i * 2 + 1)) = some (.bool g.2) := by
      intro i hi
      obtain ⟨cs', hc, ht⟩ := hall i (by omega)
      rw [hce] at hc
      obtain ⟨_, hcl, hat⟩ := World.cells?_some hc
      obtain ⟨xs, k, _, _, _, hlx, hx⟩ := DataW.trod_struct Try.underlying36 ht
      have hlx : xs.length = 2 := hlx
      match cs', hcl with
      | [c0, c1], _ =>
        have h0 : DataW.trod enc Try.prog W 0 (fun _ => true) true k 22 (([c0, c1].drop 0).take (Try.prog.cellsOf 22)) = xs[0]? := hx 0 _ rfl
        have h1 : DataW.trod enc Try.prog W 0 (fun _ => true) true k 4 (([c0, c1].drop 1).take (Try.prog.cellsOf 4)) = xs[1]? := hx 1 _ rfl
        rw [hcu] at h0
        rw [hcb] at h1
        simp only [List.drop_zero, List.take_succ_cons, List.take_zero, List.drop_succ_cons] at h0 h1
        rw [List.getElem?_eq_getElem (by omega)] at h0 h1
        have e0 := hat 0 (by decide)
        have e1 := hat 1 (by decide)
        rw [Go.Deep.add_add] at e0 e1
        obtain ⟨x0, y0, _, _⟩ := DataW.trod_int Try.underlying22 h0
        obtain ⟨x1, y1, _⟩ := DataW.trod_bool (t := 4) Try.underlying4 h1
        simp only [List.cons.injEq, and_true] at y0 y1
        subst y0 y1
        exact ⟨(x0, x1), by simpa using e0, by simpa using e1⟩
    obtain ⟨F, hF⟩ := choose_lt hone
    have hlen : ((List.range len).map F).length = len := by simp
    refine ⟨(List.range len).map F, ⟨_, _, by rw [hlen], fun hne => ?_⟩, by rw [hlen]; unfold maxLen at hm; omega⟩
    have hpos : 0 < len := by
      rcases Nat.eq_zero_or_pos len with e | e
      · subst e; exact absurd rfl hne
      · exact e
    obtain ⟨b, off, sp⟩ := a
    have hspot : sp = none := by
      have h0 := (hF 0 hpos).1
      simp only [Nat.zero_mul, Addr.add, if_true, World.cell?] at h0
      split at h0
      · cases sp with
        | none => rfl
        | some x => simp at h0
      · cases h0
    subst hspot
    refine ⟨b, off, rfl, fun i hi => ?_⟩
    have hi2 : i < len := by rw [hlen] at hi; exact hi
    have hg : ((List.range len).map F)[i] = F i := by simp
    rw [hg]
    have h2 := hF i hi2
    rw [addr_add_off, addr_add_off] at h2
    exact ⟨h2.1, h2.2⟩
end Go.Proofs.Ytcledklajcdfiaa
