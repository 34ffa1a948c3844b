/-
  MemoryTags returns true for every memory and row of pairs, and its arguments read behind the call as they read before.
  Conditions: none.
-/
import Derived.Test.YtelgaakjhjcopaaClose
import Derived.Test.YtelgaakjhjcopaaMOpen
import Derived.Test.YtelgaakjhjcopaaMTags
namespace Go.Proofs.Ytelgaakjhjcopaa
open Go.RowKit Go.Shelf
open Go.ChangeShapes Go.WideShapes Go.ChangeAt Go.Deep
open Go.ChangeMaps (open_string shut_string)

theorem pairs_open {H : Type} {enc : TypeId × Value → H} {W : World} {base : Nat} {v : Value} {d : DataW H} {ps : List MemPlace}
    (hval : Value.okWide Try.prog W .any base 26 v) (h : DataW.Trod enc Try.prog W 0 (fun _ => true) true 26 v d ps) :
    ∃ gs : List (Int × Int), PairsAt W v gs ∧ (∀ g ∈ gs, I64 g.1 ∧ I64 g.2) ∧ gs.length ≤ 9223372036854775807 := by
  obtain ⟨a0, len, cap, rfl⟩ := okWide_slice Try.underlying26 hval
  obtain ⟨fuel, hf⟩ := h
  have hce : Try.prog.cellsOf 29 = 2 := by kernel_rfl
  have hci : Try.prog.cellsOf 3 = 1 := by kernel_rfl
  rcases open_slice Try.underlying26 hf with ⟨hcs, _⟩ | ⟨a, len', cap', m, n, D, Pl, hcs, _, hl, hm, hmm, _, hall⟩
  · simp [Value.cells] at hcs
    obtain ⟨rfl, rfl, rfl⟩ := hcs
    exact ⟨[], ⟨_, _, rfl, fun h => absurd rfl h⟩, (fun g hg => by cases hg), by decide⟩
  · simp [Value.cells] at hcs
    obtain ⟨rfl, rfl, rfl⟩ := hcs
    simp only [if_true] at hmm
    have hpair : ∀ i, i < len → ∃ g : Int × Int, (W.cell? (a.add (i * 2)) = some (.int .i64 g.1) ∧ W.cell? (a.add (i * 2 + 1)) = some (.int .i64 g.2)) ∧ I64 g.1 ∧ I64 g.2 := by
      intro i hi
      obtain ⟨cs', hc, ht⟩ := hall i (by omega)
      rw [hce] at hc
      obtain ⟨_, hcl, hat⟩ := World.cells?_some hc
      obtain ⟨xs, k, _, _, _, _, hx⟩ := DataW.trod_array Try.underlying29 ht
      rw [hci] at hx
      match cs', hcl with
      | [c0, c1], _ =>
        have h0 := hx 0 (by decide)
        have h1 := hx 1 (by decide)
        simp only [Nat.zero_mul, Nat.one_mul, List.drop_zero, List.take_succ_cons, List.take_zero, List.drop_succ_cons] at h0 h1
        have hc0 := hat 0 (by decide)
        have hc1 := hat 1 (by decide)
        rw [Go.Deep.add_add] at hc0 hc1
        cases hx0 : xs[0]? with
        | none =>
          rw [hx0] at h0
          rename_i hlx _
          exact absurd hx0 (by rw [List.getElem?_eq_none_iff]; omega)
        | some y0 =>
          cases hx1 : xs[1]? with
          | none =>
            rename_i hlx _ _
            exact absurd hx1 (by rw [List.getElem?_eq_none_iff]; omega)
          | some y1 =>
            rw [hx0] at h0
            rw [hx1] at h1
            obtain ⟨x0, hx0', _, hw0⟩ := DataW.trod_int Try.underlying3 h0
            obtain ⟨x1, hx1', _, hw1⟩ := DataW.trod_int Try.underlying3 h1
            simp only [List.cons.injEq, and_true] at hx0' hx1'
            subst hx0' hx1'
            exact ⟨(x0, x1), ⟨by simpa using hc0, by simpa using hc1⟩, by simpa [I64, Lit.wf, IntKind.min, IntKind.max, IntKind.signed, IntKind.bits] using hw0, by simpa [I64, Lit.wf, IntKind.min, IntKind.max, IntKind.signed, IntKind.bits] using hw1⟩
    obtain ⟨F, hF⟩ := choose_lt hpair
    have hlen : ((List.range len).map F).length = len := by simp
    refine ⟨(List.range len).map F, ⟨_, _, by rw [hlen], fun hne => ?_⟩, fun g hg => ?_, by rw [hlen]; unfold maxLen at hm; omega⟩
    · have hpos : 0 < len := by
        rcases Nat.eq_zero_or_pos len with e | e
        · subst e; exact absurd rfl hne
        · exact e
      obtain ⟨b, off, sp⟩ := a
      have hspot : sp = none := by
        have h0 := (hF 0 hpos).1.1
        simp only [Nat.zero_mul, Addr.add, if_true, World.cell?] at h0
        split at h0
        · cases sp with
          | none => rfl
          | some x => simp at h0
        · cases h0
      subst hspot
      refine ⟨b, off, rfl, fun i hi => ?_⟩
      rw [hlen] at hi
      have h1 := (hF i hi).1
      rw [addr_add_off, addr_add_off] at h1
      simpa [Nat.add_assoc] using h1
    · obtain ⟨i, hi, rfl⟩ := List.mem_map.1 hg
      exact (hF i (List.mem_range.1 hi)).2

set_option maxRecDepth 100000 in
theorem memoryTags_lifted (os : Os) (started : os.Started) (H : Type) (enc : TypeId × Value → H) :
    ReturnsInHanded {} Try.checked os 3 .any (Rows.memoryTagsSpec.pre6 enc Try.prog Try.f3 Rows.memoryTagsRow.domain false) (Rows.memoryTagsSpec.post enc Try.prog Try.f3 false true false false) := by
  refine returnsInHanded_of_change (C := Try.checked) own started (by kernel_rfl) Try.func3
    (ChangeSpec.witness6 (enc := enc) (C := Try.checked) false ⟨#[], #[.agg #[.slice none 0 0, .slice none 0 0, .bool false], .slice none 0 0], []⟩ 8 (by kernel_rfl) (by kernel_rfl) (by kernel_rfl) (by kernel_rfl)) ?_
  intro W base args ds gs before hval0 hW hcnd _
  have hval : ∀ (j : Nat) t v, Try.f3.params[j]? = some t → args[j]? = some v → Value.okWide Try.prog W .any base t v := hval0
  have hW' := hW
  obtain ⟨p, q, hA0, hV, rfl, hfz, hnd⟩ := hW
  have hA : DataW.TrodAll enc Try.prog W 0 (fun _ => true) true Try.f3.params.toList args.toList ds p := hA0
  rw [Try.params3] at hA hval
  have hA2 := hA
  obtain ⟨v0, vs0, d0, ds0, p0, q0, hargs, rfl, rfl, h0, r0⟩ := trodAll_cons hA
  obtain ⟨v1, vs1, d1, ds1, p1, q1, rfl, rfl, rfl, h1, r1⟩ := trodAll_cons r0
  obtain ⟨rfl, rfl, rfl⟩ := trodAll_nil r1
  obtain rfl : args = #[v0, v1] := by cases args; simp_all
  obtain ⟨rfl, rfl⟩ := trodVars_none hV
  obtain ⟨x0, x1, f, ws, ls, rfl, hw, hl, hr, hwl, hll⟩ := mem_open (hval 0 25 v0 rfl rfl) h0
  obtain ⟨gs, hg, hgr, hgl⟩ := pairs_open (hval 1 26 v1 rfl rfl) h1
  clear hA0 hval0
  simp only [List.append_nil] at hW'
  refine (tags_c x0 x1 v1 f ws ls gs W hw hl hwl hll hg hgr hgl).mono fun e W' ⟨he, hb⟩ => ?_
  subst he
  exact ⟨_, rfl, _, _, _, [], _, [], hW', trodAll_cons_mk (shut_bool Try.underlying4 _) trodAll_mk0, trodAll_stays laidOut hb (by kernel_rfl) hA2 (fun x hx => by simpa using hW'.lt x (by simpa using hx)), rfl, hb.frame _, fun h => by cases h⟩

theorem memoryTags_holds : Rows.MemoryTagsSaid :=
  OpenClaim.holds_of_wide 3 Try.f3 rfl rfl rfl rfl rfl rfl rfl ⟨rfl, rfl, rfl, rfl, rfl⟩ rfl rfl rfl rfl rfl (by kernel_rfl) Try.func3 (by kernel_rfl)
    (of_decide_eq_true (by kernel_rfl)) (by unfold Func.isWrapper; first | (rw [if_pos (by decide +kernel)]; kernel_rfl) | (rw [if_neg (by decide +kernel)]; exact ⟨rfl, rfl⟩))
    (fun os started H enc _ => memoryTags_lifted os started H enc)

end Go.Proofs.Ytelgaakjhjcopaa
