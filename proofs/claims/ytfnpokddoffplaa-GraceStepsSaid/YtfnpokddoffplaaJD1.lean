/-
  Words for GraceSteps: what Ask, Begin, Report and Pick answer, right or not; spoil.
  Conditions: the ranges of Go's types.
-/
import Derived.Test.YtfnpokddoffplaaJA8
import Derived.Test.YtfnpokddoffplaaJAH
import Derived.Maps.AppendAt
import Derived.WalkSpells
import Derived.Test.YtfnpokddoffplaaJA9
/-
  Opening arguments of layer 12: a row of numbers.
  Conditions: none.
-/
namespace Go.Proofs.Ytfnpokddoffplaa
open Go.ChangeShapes Go.WideShapes Go.ChangeAt Go.RowKit Go.Deep Go.Joins

theorem nums_open {H : Type} {enc : TypeId × Value → H} {P : Program} {W : World} {base : Nat} {t e : TypeId} {k : IntKind} {v : Value} {d : DataW H} {ps : List MemPlace} (ht : P.underlying t = some (.slice e)) (he : P.underlying e = some (.int k)) (hc : P.cellsOf e = 1)
    (hval : Value.okWide P W .any base t v) (h : DataW.Trod enc P W 0 (fun _ => true) true t v d ps) :
    ∃ ns : List Int, NumsAt W k v ns ∧ (∀ x ∈ ns, (Lit.int k x).wf = true) ∧ ns.length ≤ 9223372036854775807 := by
  obtain ⟨a0, len, cap, rfl⟩ := okWide_slice ht hval
  obtain ⟨fuel, hf⟩ := h
  rcases open_ints ht he hc hf with ⟨hcs, _⟩ | ⟨a, len', cap', zs, hcs, _, hl, hm, hz, _, hcell, hwz⟩
  · simp [Value.cells] at hcs
    obtain ⟨rfl, rfl, rfl⟩ := hcs
    exact ⟨[], ⟨_, _, rfl, fun h => absurd rfl h⟩, (fun x hx => by cases hx), by decide⟩
  · simp [Value.cells] at hcs
    obtain ⟨rfl, rfl, rfl⟩ := hcs
    simp only [if_true] at hz
    have hlen : (zs.take len).length = len := List.length_take_of_le (by omega)
    refine ⟨zs.take len, ⟨_, _, by rw [hlen], fun hne => ?_⟩, fun x hx => hwz x (List.mem_of_mem_take hx), by rw [hlen]; unfold maxLen at hm; omega⟩
    have hpos : 0 < len := by
      rcases Nat.eq_zero_or_pos len with e | e
      · subst e; exact absurd (List.take_zero) hne
      · exact e
    obtain ⟨b, off, sp⟩ := a
    have hspot : sp = none := by
      have h0 := hcell 0 (by omega)
      simp only [Addr.add, if_true, World.cell?] at h0
      split at h0
      · cases sp with
        | none => rfl
        | some x => simp at h0
      · cases h0
    subst hspot
    refine ⟨b, off, rfl, fun i hi => ?_⟩
    rw [hlen] at hi
    have h1 := hcell i (by omega)
    rw [addr_add_off, List.getD_eq_getElem?_getD, List.getElem?_eq_getElem (by omega)] at h1
    simpa using h1

end Go.Proofs.Ytfnpokddoffplaa
/-
  The reference of layer 12: Same; none, of the statements.
  Conditions: the ranges of Go's types.
-/
namespace Go.Proofs.Ytfnpokddoffplaa
set_option maxRecDepth 100000
open Go.RowKit Go.Shelf
attribute [local go_sem] Oper.semAt_some

/-- A place of a row of truth values. -/
theorem bools_at {W : World} {p : Option Addr} {n c : Nat} {bs : List Bool} (h : BoolsAt W (.slice p n c) bs) {j : Nat} (hj : j < bs.length) : ∃ b off, p = some ⟨b, off, none⟩ ∧ W.cell? ⟨b, off + j, none⟩ = some (.bool (bs.getD j false)) := by
  obtain ⟨q, cap, e, hc⟩ := h
  injection e with e1 e2 e3
  subst e1
  obtain ⟨b, off, e, hcs⟩ := hc (by intro e; rw [e] at hj; simp at hj)
  exact ⟨b, off, e, by rw [List.getD_eq_getElem?_getD, List.getElem?_eq_getElem hj]; exact hcs j hj⟩
theorem getB_lt {l : List Bool} {k : Nat} (h : k < l.length) : l.getD k false = l[k] := by rw [List.getD_eq_getElem?_getD, List.getElem?_eq_getElem h]; rfl

set_option maxHeartbeats 8000000 in
theorem rgsame_c (s t : GrS) (v v' : Value) (W : World) (hn : BoolsAt W v s.nd) (hn' : BoolsAt W v' t.nd) (l1 : s.nd.length ≤ 9223372036854775807) (l2 : t.nd.length ≤ 9223372036854775807) :
    Calls Try.prog 16 #[.agg #[.int .i64 s.done, .int .i64 s.asked, .bool s.on, v], .agg #[.int .i64 t.done, .int .i64 t.asked, .bool t.on, v']] W fun e w' => e = .returned (.bool (gsameB s t)) ∧ Below W.heap.size W w' := by
  obtain ⟨sd, sa, sw, sn⟩ := s
  obtain ⟨td, ta, tw, tn⟩ := t
  dsimp only at hn hn' l1 l2 ⊢
  have HF := Lib.hid (wSG_facts W sd sa sw v td ta tw v')
  obtain ⟨w0, hw0⟩ : ∃ X, X = wSG W sd sa sw v td ta tw v' := ⟨_, rfl⟩
  rw [← hw0] at HF
  unfold wSG at hw0
  have HV := Lib.hid (And.intro (bools_below hn HF.out.2.2) (bools_below hn' HF.out.2.2))
  obtain ⟨p, c, rfl, -⟩ := hn
  obtain ⟨p', c', rfl, -⟩ := hn'
  obtain ⟨d0, d1, d2, d3⟩ := HF.out.1.cells
  obtain ⟨e0, e1, e2, e3⟩ := HF.out.2.1.cells
  unfold gsameB
  dsimp only
  by_cases h1 : sd = td
  · have q1 : (sd != td) = false := by rw [bne_eq_false_iff_eq]; exact h1
    rw [decide_eq_true h1, Bool.true_and]
    clear h1
    by_cases h2 : sa = ta
    · have q2 : (sa != ta) = false := by rw [bne_eq_false_iff_eq]; exact h2
      rw [decide_eq_true h2, Bool.true_and]
      clear h2
      by_cases h3 : sw = tw
      · rw [decide_eq_true h3, Bool.true_and]
        subst h3
        by_cases hl : sn.length = tn.length
        · have q4 : ((sn.length : Int) != (tn.length : Int)) = false := by rw [hl]; simp
          have HL := Lib.hid hl
          clear hl
          obtain ⟨R, hR⟩ : ∃ R, R = decide (sn = tn) := ⟨_, rfl⟩
          rw [← hR]
          have HR := Lib.hid hR
          clear hR
          go_enter Try.func16, Try.ntmps16
          go_wp2_with fail
          rw [← hw0]
          clear hw0 d0 d1 d2 d3 e0 e1 e2 e3 q1 q2 q4
          go_loopw [38] (fun iv wr => ∃ k : Nat, k ≤ sn.length ∧ iv = .int .i64 (k : Int) ∧ Hid (sn.take k = tn.take k) ∧ Hid (Below w0.heap.size w0 wr)) (fun iv _ => sn.length - (intOf iv).toNat)
          case atStart => exact ⟨0, Nat.zero_le _, rfl, Lib.hid (by simp), Lib.hid (Below.refl _ _)⟩
          case round =>
            obtain ⟨k, hk, rfl, HE, HB⟩ := hrel
            by_cases hlt : k < sn.length
            · have hlt2 : k < tn.length := by have := HL.out; omega
              obtain ⟨b, off, rfl, a1⟩ := bools_at (bools_below HV.out.1 HB.out) hlt
              obtain ⟨b2, off2, rfl, a2⟩ := bools_at (bools_below HV.out.2 HB.out) hlt2
              obtain ⟨x, hx⟩ : ∃ x, x = sn.getD k false := ⟨_, rfl⟩
              obtain ⟨y, hy⟩ : ∃ y, y = tn.getD k false := ⟨_, rfl⟩
              rw [← hx] at a1
              rw [← hy] at a2
              have HX := Lib.hid (show x = sn[k] ∧ y = tn[k] by rw [hx, hy, getB_lt hlt, getB_lt hlt2]; exact ⟨rfl, rfl⟩)
              have hk0 : (0 : Int) ≤ (k : Int) := by omega
              have hkx : (k : Int) < (sn.length : Int) := by omega
              have hky : (k : Int) < (tn.length : Int) := by omega
              obtain ⟨e0, e1, e2, e3⟩ := (HF.out.2.1.below HB.out).cells
              clear hx hy
              by_cases he : x = y
              · have hq2 : (!(x == y)) = false := by rw [he]; simp
                have HE2 := Lib.hid (show sn.take (k + 1) = tn.take (k + 1) by rw [List.take_succ_eq_append_getElem hlt, List.take_succ_eq_append_getElem hlt2, HE.out, ← HX.out.1, ← HX.out.2, he])
                clear he
                go_wp2
                go_roundw
                case rel => exact ⟨k + 1, by omega, rfl, HE2, HB⟩
                case measure => first | omega | (simp [intOf]; omega)
              · have hq2 : (!(x == y)) = true := by simpa using he
                have hne : decide (sn = tn) = false := decide_eq_false (fun e => he (by rw [HX.out.1, HX.out.2]; simp only [e]))
                have HN := Lib.hid hne
                clear he hne
                go_wp2
                go_ret
                exact ⟨ret_bool (HN.out.symm.trans HR.out.symm), HF.out.2.2.trans (HB.out.mono HF.out.2.2.size)⟩
            · have hye : decide (sn = tn) = true := decide_eq_true (by
                have h := HE.out
                rwa [List.take_of_length_le (by omega), List.take_of_length_le (by have := HL.out; omega)] at h)
              have HN := Lib.hid hye
              clear hye
              go_wp2
              go_ret
              exact ⟨ret_bool (HN.out.symm.trans HR.out.symm), HF.out.2.2.trans (HB.out.mono HF.out.2.2.size)⟩
        · have q4 : ((sn.length : Int) != (tn.length : Int)) = true := by rw [bne_iff_ne]; omega
          rw [decide_eq_false (fun e => hl (by rw [e]))]
          clear hl
          go_enter Try.func16, Try.ntmps16
          go_wp2
          rw [← hw0]
          go_ret
          exact ⟨rfl, HF.out.2.2⟩
      · rw [decide_eq_false h3, Bool.false_and]
        obtain ⟨rfl, rfl⟩ | ⟨rfl, rfl⟩ : (sw = true ∧ tw = false) ∨ (sw = false ∧ tw = true) := by cases sw <;> cases tw <;> simp_all
        all_goals
          clear h3
          go_enter Try.func16, Try.ntmps16
          go_wp2
          rw [← hw0]
          go_ret
          exact ⟨rfl, HF.out.2.2⟩
    · have q2 : (sa != ta) = true := by rw [bne_iff_ne]; exact h2
      rw [decide_eq_false h2, Bool.false_and]
      clear h2
      go_enter Try.func16, Try.ntmps16
      go_wp2
      rw [← hw0]
      go_ret
      exact ⟨rfl, HF.out.2.2⟩
  · have q1 : (sd != td) = true := by rw [bne_iff_ne]; exact h1
    rw [decide_eq_false h1, Bool.false_and]
    clear h1
    go_enter Try.func16, Try.ntmps16
    go_wp2
    rw [← hw0]
    go_ret
    exact ⟨rfl, HF.out.2.2⟩

/-- The grace that says nothing. -/
def noG : GrS := ⟨0, 0, false, []⟩
theorem noG_at (W : World) : BoolsAt W (.slice none 0 0) noG.nd := ⟨none, 0, rfl, fun h => absurd rfl h⟩
set_option maxHeartbeats 4000000 in
theorem none_c (W : World) : Calls Try.prog 34 #[.agg #[.int .i64 0, .int .i64 0, .bool false, .slice none 0 0]] W fun e w' => e = .returned (.bool true) ∧ Below W.heap.size W w' := by
  obtain ⟨w0, hw0⟩ : ∃ X : World, X = W.alloc (.cells #[.int .i64 0, .int .i64 0, .bool false, .slice none 0 0] 24) := ⟨_, rfl⟩
  have HB := Lib.hid (show GBox w0 W.heap.size 0 0 false (.slice none 0 0) ∧ Below W.heap.size W w0 by rw [hw0]; exact ⟨GBox.new _ _ _ _ _, below1 _ _⟩)
  have HC := Lib.hid (show Calls Try.prog 16 #[.agg #[.int .i64 0, .int .i64 0, .bool false, .slice none 0 0], .agg #[.int .i64 0, .int .i64 0, .bool false, .slice none 0 0]] w0 fun e w' => e = .returned (.bool true) ∧ Below w0.heap.size w0 w' from rgsame_c noG noG (.slice none 0 0) (.slice none 0 0) w0 (noG_at _) (noG_at _) (by decide) (by decide))
  obtain ⟨d0, d1, d2, d3⟩ := HB.out.1.cells
  go_enter Try.func34, Try.ntmps34
  go_wp2_with fail
  rw [← hw0]
  clear hw0
  (with_reducible refine HC.out.mono ?_)
  rintro e w1 ⟨rfl, hb1⟩
  have HB1 := Lib.hid (below_then HB.out.2 HB.out.2.size hb1)
  go_wp2
  go_ret
  exact ⟨rfl, HB1.out⟩

end Go.Proofs.Ytfnpokddoffplaa
/-
  The reference of layer 12: Needed, Right, Next.
  Conditions: the ranges of Go's types.
-/
namespace Go.Proofs.Ytfnpokddoffplaa
set_option maxRecDepth 100000
open Go.RowKit Go.Shelf
attribute [local go_sem] Oper.semAt_some

set_option maxHeartbeats 8000000 in
theorem rneed_c (d a : Int) (on : Bool) (v : Value) (nd : List Bool) (W : World) (hv : BoolsAt W v nd) (hl : nd.length ≤ 9223372036854775807) :
    Calls Try.prog 39 #[.agg #[.int .i64 d, .int .i64 a, .bool on, v]] W fun e w' => e = .returned (.int .i64 (manyG nd : Int)) ∧ Below W.heap.size W w' := by
  obtain ⟨w0, hw0⟩ : ∃ X : World, X = W.alloc (.cells #[.int .i64 d, .int .i64 a, .bool on, v] 24) := ⟨_, rfl⟩
  have HB := Lib.hid (show GBox w0 W.heap.size d a on v ∧ Below W.heap.size W w0 by rw [hw0]; exact ⟨GBox.new _ _ _ _ _, below1 _ _⟩)
  have HV := Lib.hid (bools_below hv HB.out.2)
  obtain ⟨d0, d1, d2, d3⟩ := HB.out.1.cells
  obtain ⟨p, c, rfl, -⟩ := hv
  go_enter Try.func39, Try.ntmps39
  go_upto_region 1 with fail
  rw [← hw0]
  clear hw0
  go_wp2_with fail
  clear d0 d1 d2 d3
  go_loopw [3, 9] (fun sv iv wr => ∃ k : Nat, k ≤ nd.length ∧ iv = .int .i64 (k : Int) ∧ sv = .int .i64 ((trN nd k).length : Int) ∧ Hid (Below w0.heap.size w0 wr)) (fun _ iv _ => nd.length - (intOf iv).toNat)
  case atStart => exact ⟨0, Nat.zero_le _, rfl, rfl, Lib.hid (Below.refl _ _)⟩
  case round =>
    obtain ⟨k, hk, rfl, rfl, HK⟩ := hrel
    by_cases hlt : k < nd.length
    · obtain ⟨b, off, rfl, a1⟩ := bools_at (bools_below HV.out HK.out) hlt
      obtain ⟨m, hm⟩ : ∃ m, m = (trN nd k).length := ⟨_, rfl⟩
      have hmk : m ≤ k := by rw [hm]; exact trN_len nd k
      have hk0 : (0 : Int) ≤ (k : Int) := by omega
      have hkx : (k : Int) < (nd.length : Int) := by omega
      rw [← hm]
      cases hx : nd.getD k false with
      | true =>
        rw [hx] at a1
        have HM := Lib.hid (show (trN nd (k + 1)).length = m + 1 by rw [show trN nd (k + 1) = trN nd k ++ (if nd.getD k false = true then [(k : Int)] else []) from rfl, if_pos hx, List.length_append, hm]; rfl)
        clear hm hx
        go_wp2
        go_roundw
        case rel => exact ⟨k + 1, by omega, by go_num, by rw [HM.out]; go_num, HK⟩
        case measure => simp [intOf]; omega
      | false =>
        rw [hx] at a1
        have HM := Lib.hid (show (trN nd (k + 1)).length = m by rw [show trN nd (k + 1) = trN nd k ++ (if nd.getD k false = true then [(k : Int)] else []) from rfl, if_neg (by rw [hx]; exact Bool.false_ne_true), List.length_append, hm]; rfl)
        clear hm hx
        go_wp2
        go_roundw
        case rel => exact ⟨k + 1, by omega, by go_num, by rw [HM.out], HK⟩
        case measure => simp [intOf]; omega
    · obtain rfl : k = nd.length := by omega
      go_wp2
      go_ret
      exact ⟨rfl, HB.out.2.trans (HK.out.mono HB.out.2.size)⟩

set_option maxHeartbeats 8000000 in
theorem rright_c (g : GrS) (v : Value) (W : World) (hv : BoolsAt W v g.nd) (hl : g.nd.length ≤ 9223372036854775807) :
    Calls Try.prog 10 #[.agg #[.int .i64 g.done, .int .i64 g.asked, .bool g.on, v]] W fun e w' => e = .returned (.bool (mayG g)) ∧ Below W.heap.size W w' := by
  obtain ⟨R, hR⟩ : ∃ R, R = mayG g := ⟨_, rfl⟩
  rw [← hR]
  have HR := Lib.hid hR
  obtain ⟨d, a, on, nd⟩ := g
  dsimp only at hv hl ⊢
  obtain ⟨w0, hw0⟩ : ∃ X : World, X = W.alloc (.cells #[.int .i64 d, .int .i64 a, .bool on, v] 24) := ⟨_, rfl⟩
  have HB := Lib.hid (show GBox w0 W.heap.size d a on v ∧ Below W.heap.size W w0 by rw [hw0]; exact ⟨GBox.new _ _ _ _ _, below1 _ _⟩)
  have HC := Lib.hid (rneed_c d a on v nd w0 (bools_below hv HB.out.2) hl)
  obtain ⟨m, hm⟩ : ∃ m, m = manyG nd := ⟨_, rfl⟩
  rw [← hm] at HC
  have HM := Lib.hid hm
  obtain ⟨d0, d1, d2, d3⟩ := HB.out.1.cells
  obtain ⟨p, c, rfl, -⟩ := hv
  clear hR hm
  go_enter Try.func10, Try.ntmps10
  go_upto_region 1 with fail
  rw [← hw0]
  clear hw0
  have leaf : ∀ b : Bool, (mayG ⟨d, a, on, nd⟩ = true ↔ b = true) → Value.bool b = Value.bool R := fun b h => by
    have : b = mayG ⟨d, a, on, nd⟩ := by rw [Bool.eq_iff_iff]; exact h.symm
    rw [HR.out, this]
  have LF := Lib.hid leaf
  clear leaf
  have mg : mayG ⟨d, a, on, nd⟩ = true ↔ (1 ≤ nd.length ∧ nd.length ≤ 8 ∧ 0 ≤ d ∧ d ≤ a ∧ a ≤ 2147483645) ∧ (if on = true then 0 < (m : Int) ∧ 1 ≤ a - d ∧ a - d ≤ 2 else (m : Int) = 0 ∧ a - d ≤ 1) := by
    rw [HM.out]
    unfold mayG numsG mayCpus tellG
    dsimp only
    cases on <;> simp <;> omega
  have MG := Lib.hid mg
  clear mg
  by_cases c1 : nd.length < 1
  · go_wp2
    go_ret
    exact ⟨congrArg Ending.returned (LF.out false (by rw [MG.out]; simp; omega)), HB.out.2⟩
  · by_cases c2 : 8 < nd.length
    · go_wp2
      go_ret
      exact ⟨congrArg Ending.returned (LF.out false (by rw [MG.out]; simp; omega)), HB.out.2⟩
    · by_cases c3 : d < 0
      · go_wp2
        go_ret
        exact ⟨congrArg Ending.returned (LF.out false (by rw [MG.out]; simp; omega)), HB.out.2⟩
      · by_cases c4 : 2147483645 < a
        · go_wp2
          go_ret
          exact ⟨congrArg Ending.returned (LF.out false (by rw [MG.out]; simp; omega)), HB.out.2⟩
        · go_upto_region 3 with fail
          cases on with
          | true =>
            go_wp2_with fail
            (with_reducible refine HC.out.mono ?_)
            rintro e w1 ⟨rfl, hb1⟩
            have HB1 := Lib.hid (below_then HB.out.2 HB.out.2.size hb1)
            have g1 := HB.out.1.below hb1
            clear d0 d1 d2 d3
            obtain ⟨d0, d1, d2, d3⟩ := g1.cells
            clear hb1 g1
            by_cases c5 : (0 : Int) < (m : Int)
            · by_cases c6 : d < a
              · by_cases c7 : a ≤ d + 2
                · go_wp2
                  go_ret
                  exact ⟨congrArg Ending.returned (LF.out true (by rw [MG.out]; simp; omega)), HB1.out⟩
                · go_wp2
                  go_ret
                  exact ⟨congrArg Ending.returned (LF.out (decide (a ≤ d + 2)) (by rw [MG.out]; simp; omega)), HB1.out⟩
              · go_wp2
                go_ret
                exact ⟨congrArg Ending.returned (LF.out false (by rw [MG.out]; simp; omega)), HB1.out⟩
            · go_wp2
              go_ret
              exact ⟨congrArg Ending.returned (LF.out false (by rw [MG.out]; simp; omega)), HB1.out⟩
          | false =>
            go_wp2_with fail
            (with_reducible refine HC.out.mono ?_)
            rintro e w1 ⟨rfl, hb1⟩
            have HB1 := Lib.hid (below_then HB.out.2 HB.out.2.size hb1)
            have g1 := HB.out.1.below hb1
            clear d0 d1 d2 d3
            obtain ⟨d0, d1, d2, d3⟩ := g1.cells
            clear hb1 g1
            by_cases c5 : m = 0
            · have hq : ((m : Int) == 0) = true := by rw [c5]; rfl
              by_cases c6 : d ≤ a
              · by_cases c7 : a ≤ d + 1
                · go_wp2
                  go_ret
                  exact ⟨congrArg Ending.returned (LF.out true (by rw [MG.out]; simp; omega)), HB1.out⟩
                · go_wp2
                  go_ret
                  exact ⟨congrArg Ending.returned (LF.out (decide (a ≤ d + 1)) (by rw [MG.out]; simp; omega)), HB1.out⟩
              · go_wp2
                go_ret
                exact ⟨congrArg Ending.returned (LF.out false (by rw [MG.out]; simp; omega)), HB1.out⟩
            · have hq : ((m : Int) == 0) = false := by rw [beq_eq_false_iff_ne]; omega
              go_wp2
              go_ret
              exact ⟨congrArg Ending.returned (LF.out false (by rw [MG.out]; simp; omega)), HB1.out⟩

end Go.Proofs.Ytfnpokddoffplaa
/-
  The reference of layer 12: Next, Ask.
  Conditions: the grace may be.
-/
namespace Go.Proofs.Ytfnpokddoffplaa
set_option maxRecDepth 100000
open Go.RowKit Go.Shelf
attribute [local go_sem] Oper.semAt_some

set_option maxHeartbeats 4000000 in
theorem rnext_c (g : GrS) (v : Value) (hg : GoodG g) (W : World) :
    Calls Try.prog 14 #[.agg #[.int .i64 g.done, .int .i64 g.asked, .bool g.on, v]] W fun e w' => e = .returned (.int .i64 (nextG g)) ∧ Below W.heap.size W w' := by
  obtain ⟨w0, hw0⟩ : ∃ X : World, X = W.alloc (.cells #[.int .i64 g.done, .int .i64 g.asked, .bool g.on, v] 24) := ⟨_, rfl⟩
  have HB := Lib.hid (show GBox w0 W.heap.size g.done g.asked g.on v ∧ Below W.heap.size W w0 by rw [hw0]; exact ⟨GBox.new _ _ _ _ _, below1 _ _⟩)
  have h0 := hg.d0
  have h1 : g.done ≤ 2147483645 := by
    have := hg.a1
    cases ho : g.on with
    | true => have := hg.on1 ho; omega
    | false => have := hg.on0 ho; omega
  obtain ⟨d0, d1, d2, d3⟩ := HB.out.1.cells
  cases ho : g.on with
  | true =>
    have HN := Lib.hid (show nextG g = g.done + 2 by unfold nextG; rw [if_pos ho]; omega)
    rw [HN.out]
    rw [ho] at d2 hw0
    clear ho hg
    go_enter Try.func14, Try.ntmps14
    go_upto_region 1 with fail
    rw [← hw0]
    clear hw0
    go_wp2
    go_ret
    exact ⟨rfl, HB.out.2⟩
  | false =>
    have HN := Lib.hid (show nextG g = g.done + 1 by unfold nextG; rw [if_neg (by rw [ho]; exact Bool.false_ne_true)])
    rw [HN.out]
    rw [ho] at d2 hw0
    clear ho hg
    go_enter Try.func14, Try.ntmps14
    go_upto_region 1 with fail
    rw [← hw0]
    clear hw0
    go_wp2
    go_ret
    exact ⟨rfl, HB.out.2⟩

/-- A grace, in one form. -/
def aggG (g : GrS) (v : Value) : Value := .agg #[.int .i64 g.done, .int .i64 g.asked, .bool g.on, v]
set_option maxHeartbeats 8000000 in
theorem rask_c (g : GrS) (p : Option Addr) (n c : Nat) (hg : GoodG g) (W : World) :
    Calls Try.prog 13 #[.agg #[.int .i64 g.done, .int .i64 g.asked, .bool g.on, .slice p n c]] W fun e w' => ((askE g ≠ 0 ∧ e = .returned (.tuple #[.agg #[.int .i64 0, .int .i64 0, .bool false, .slice none 0 0], .bool false])) ∨ (askE g = 0 ∧ e = .returned (.tuple #[.agg #[.int .i64 (askG g).done, .int .i64 (askG g).asked, .bool (askG g).on, .slice p n c], .bool true]))) ∧ Below W.heap.size W w' := by
  have hnx := hg.next
  obtain ⟨N, hN⟩ : ∃ N, N = nextG g := ⟨_, rfl⟩
  have HN := Lib.hid hN
  have HC := Lib.hid (rnext_c g (.slice p n c) hg)
  rw [← hN] at HC hnx
  have HE := Lib.hid (show askE g = (if 2147483645 < N then 6 else 0) by rw [hN]; rfl)
  have HA := Lib.hid (show askG g = ⟨g.done, N, g.on, g.nd⟩ by rw [hN]; rfl)
  have hna := hnx.1
  obtain ⟨d, a, on, nd⟩ := g
  dsimp only at HC HA hna ⊢
  obtain ⟨w0, hw0⟩ : ∃ X : World, X = wSG W d a on (.slice p n c) 0 0 false (.slice none 0 0) := ⟨_, rfl⟩
  have HF := Lib.hid (wSG_facts W d a on (.slice p n c) 0 0 false (.slice none 0 0))
  rw [← hw0] at HF
  have HSZ := Lib.hid (show w0.heap.size = W.heap.size + 2 by rw [hw0]; unfold wSG; simp)
  unfold wSG at hw0
  obtain ⟨d0, d1, d2, d3⟩ := HF.out.1.cells
  have HW0 := Lib.hid hw0
  clear hN hnx hg hw0
  go_enter Try.func13, Try.ntmps13
  go_upto_region 1 with fail
  rw [← HW0.out]
  clear HW0
  go_wp2_with fail
  (with_reducible refine (HC.out w0).mono ?_)
  rintro e w1 ⟨rfl, hb1⟩
  have g1 := HF.out.1.below hb1
  have g2 := HF.out.2.1.below hb1
  have HB1 := Lib.hid (below_then HF.out.2.2 HF.out.2.2.size hb1)
  clear hb1 d0 d1 d2 d3
  obtain ⟨d0, d1, d2, d3⟩ := g1.cells
  obtain ⟨e0, e1, e2, e3⟩ := g2.cells
  have m0 := g2.marks 0
  have m1 := g2.marks 1
  have m2 := g2.marks 2
  have m3 := g2.marks 3
  have n1 := g1.marks 1
  by_cases c1 : 2147483645 < N
  · have HP := Lib.hid (g2.put 0 0 false (.slice none 0 0))
    have HK := Lib.hid (GBox.putK w1 (W.heap.size + 1) 0 0 false (.slice none 0 0))
    have HE6 := Lib.hid (show askE ⟨d, a, on, nd⟩ ≠ 0 by rw [HE.out, if_pos c1]; decide)
    clear HE HA g1 g2
    go_wp2
    exact bodyPost_ret (HP.out.result2 rfl _ rfl rfl) rfl ⟨.inl ⟨HE6.out, rfl⟩, HB1.out.trans (HK.out.below HB1.out.size (fun k e => by omega))⟩
  · have HE0 := Lib.hid (show askE ⟨d, a, on, nd⟩ = 0 by rw [HE.out, if_neg c1])
    by_cases c2 : a < N
    · obtain ⟨w2, hw2⟩ : ∃ X : World, X = w1.setCell ⟨W.heap.size, 1, none⟩ (.int .i64 N) := ⟨_, rfl⟩
      have hg2 : GBox w2 W.heap.size d N on (.slice p n c) := by rw [hw2]; unfold GBox; rw [heap_setCell_same w1 W.heap.size 1 _ _ _ g1]; rfl
      have hk2 : Keeps (fun k => k = W.heap.size) w1 w2 := by rw [hw2]; exact setK w1 W.heap.size 1 (.int .i64 N)
      have hz2 := g2.keeps hk2 (by omega)
      have HB2 := Lib.hid (HB1.out.trans (hk2.below HB1.out.size (fun k e => by omega)))
      have HP := Lib.hid (hz2.put d N on (.slice p n c))
      have HK := Lib.hid (GBox.putK w2 (W.heap.size + 1) d N on (.slice p n c))
      have HW2 := Lib.hid hw2
      have HX := Lib.hid (And.intro hg2 hz2)
      clear HE hw2 hg2 hk2 hz2 g1 g2
      go_upto_region 6 with fail
      rw [← HW2.out]
      clear HW2 d0 d1 d2 d3 e0 e1 e2 e3 m0 m1 m2 m3 n1
      obtain ⟨d0, d1, d2, d3⟩ := HX.out.1.cells
      obtain ⟨e0, e1, e2, e3⟩ := HX.out.2.cells
      have m0 := HX.out.2.marks 0
      have m1 := HX.out.2.marks 1
      have m2 := HX.out.2.marks 2
      have m3 := HX.out.2.marks 3
      go_wp2
      exact bodyPost_ret (HP.out.result2 rfl _ rfl rfl) rfl ⟨.inr ⟨HE0.out, by rw [HA.out]; rfl⟩, HB2.out.trans (HK.out.below HB2.out.size (fun k e => by omega))⟩
    · obtain rfl : a = N := by omega
      have HP := Lib.hid (g2.put d a on (.slice p n c))
      have HK := Lib.hid (GBox.putK w1 (W.heap.size + 1) d a on (.slice p n c))
      clear HE g1 g2
      go_wp2
      exact bodyPost_ret (HP.out.result2 rfl _ rfl rfl) rfl ⟨.inr ⟨HE0.out, by rw [HA.out]; rfl⟩, HB1.out.trans (HK.out.below HB1.out.size (fun k e => by omega))⟩

end Go.Proofs.Ytfnpokddoffplaa
/-
  The reference of layer 12: Begin.
  Conditions: the grace may be.
-/
namespace Go.Proofs.Ytfnpokddoffplaa
set_option maxRecDepth 100000
open Go.RowKit Go.Shelf
attribute [local go_sem] Oper.semAt_some

theorem owns_far {B : Nat} {E : TypeId} {W : World} {p : Option Addr} {n c : Nat} {xs : List Value} (h : W.ownsRow B E 1 (.slice p n c) n xs) : ∀ a : Addr, p = some a → B ≤ a.block := fun a e => by
  rcases h.2 with ⟨e2, _⟩ | ⟨g, cap, cur, e2, hB, _⟩
  · injection e2 with e2 _ _; rw [e] at e2; cases e2
  · injection e2 with e2 _ _; rw [e] at e2; injection e2 with e2; rw [e2]; exact hB
theorem bools_other {w w' : World} {p : Option Addr} {n c z : Nat} {bs : List Bool} (h : BoolsAt w (.slice p n c) bs) (hz : ∀ a : Addr, p = some a → a.block ≠ z) (hk : Keeps (fun k => k = z) w w') : BoolsAt w' (.slice p n c) bs := by
  obtain ⟨q, d, e, hc⟩ := h
  refine ⟨q, d, e, fun hne => ?_⟩
  obtain ⟨b, off, rfl, hcs⟩ := hc hne
  injection e with e1 e2 e3
  refine ⟨b, off, rfl, fun i hi => ?_⟩
  have h1 := hcs i hi
  have hb : b < w.heap.size := World.block_lt_of_cell? w _ h1
  have h2 := hk.block b hb (hz _ e1)
  simp only [World.cell?] at h1 ⊢
  rw [h2]; exact h1
theorem bools_lt {w : World} {p : Option Addr} {n c : Nat} {bs : List Bool} (h : BoolsAt w (.slice p n c) bs) (hne : bs ≠ []) : ∀ a : Addr, p = some a → a.block < w.heap.size := fun a e => by
  obtain ⟨q, d, e', hc⟩ := h
  injection e' with e1 e2 e3
  obtain ⟨b, off, rfl, hcs⟩ := hc hne
  rw [e] at e1
  injection e1 with e1
  rw [e1]
  exact World.block_lt_of_cell? w _ (hcs 0 (List.length_pos_iff.2 hne))
/-- A grace that a reference answers, whose row is new. -/
def RefO (B : Nat) (g : GrS) (e : Ending) (w : World) : Prop := ∃ p c, e = .returned (.agg #[.int .i64 g.done, .int .i64 g.asked, .bool g.on, .slice p g.nd.length c]) ∧ BoolsAt w (.slice p g.nd.length c) g.nd ∧ ∀ a : Addr, p = some a → B ≤ a.block
/-- A grace that a reference answers, whose row is new, or p's. -/
def RefX (B : Nat) (p : Option Addr) (g : GrS) (e : Ending) (w : World) : Prop := ∃ q c, e = .returned (.agg #[.int .i64 g.done, .int .i64 g.asked, .bool g.on, .slice q g.nd.length c]) ∧ BoolsAt w (.slice q g.nd.length c) g.nd ∧ (q = p ∨ ∀ a : Addr, q = some a → B ≤ a.block)
/-- A grace that a reference answers: its row reads so. -/
def RefG (g : GrS) (e : Ending) (w : World) : Prop := ∃ p c, e = .returned (.agg #[.int .i64 g.done, .int .i64 g.asked, .bool g.on, .slice p g.nd.length c]) ∧ BoolsAt w (.slice p g.nd.length c) g.nd
set_option maxHeartbeats 8000000 in
theorem rbegin_c (g : GrS) (p : Option Addr) (c : Nat) (hg : GoodG g) (W : World) :
    Calls Try.prog 15 #[.agg #[.int .i64 g.done, .int .i64 g.asked, .bool g.on, .slice p g.nd.length c]] W fun e w' => RefO (W.heap.size + 2) (beginG g) e w' ∧ Below W.heap.size W w' := by
  obtain ⟨n, hn⟩ : ∃ n, n = g.nd.length := ⟨_, rfl⟩
  have HBG := Lib.hid (show beginG g = ⟨g.done, g.asked, true, List.replicate n true⟩ by rw [hn]; rfl)
  have h8 : n ≤ 8 := by rw [hn]; exact hg.l8
  rw [← hn]
  obtain ⟨d, a, on, nd⟩ := g
  dsimp only at HBG ⊢
  obtain ⟨w0, hw0⟩ : ∃ X : World, X = wSG W d a on (.slice p n c) 0 0 false (.slice none 0 0) := ⟨_, rfl⟩
  have HF := Lib.hid (wSG_facts W d a on (.slice p n c) 0 0 false (.slice none 0 0))
  rw [← hw0] at HF
  have HSZ := Lib.hid (show w0.heap.size = W.heap.size + 2 by rw [hw0]; unfold wSG; simp)
  unfold wSG at hw0
  obtain ⟨d0, d1, d2, d3⟩ := HF.out.1.cells
  have HW0 := Lib.hid hw0
  obtain ⟨i1, hi1, hy0, hy1, hy2⟩ := info_parts cloneB_info
  have HI1 := Lib.hid (And.intro hi1 (And.intro hy0 (And.intro hy1 hy2)))
  clear hn hg hw0 hi1 hy0 hy1 hy2
  go_enter Try.func15, Try.ntmps15
  go_upto_region 1 with fail
  rw [← HW0.out]
  clear HW0
  go_wp2_with fail
  clear d0 d1 d2 d3
  go_loopw [3, 7] (fun pv kv wx => ∃ (k : Nat) (pq : Option Addr) (cq : Nat), k ≤ n ∧ kv = .int .i64 (k : Int) ∧ pv = .slice pq k cq ∧ Hid (wx.ownsRow w0.heap.size 4 1 (.slice pq k cq) k ((List.replicate k true).map Value.bool) ∧ Below w0.heap.size w0 wx)) (fun _ kv _ => n - (intOf kv).toNat)
  case atStart => exact ⟨0, none, 0, Nat.zero_le _, rfl, rfl, Lib.hid ⟨World.ownsRow_nil _ _ _ _, Below.refl _ _⟩⟩
  case round =>
    obtain ⟨k, pq, cq, hk, rfl, rfl, HP⟩ := hrel
    by_cases hkn : k < n
    · have HSZ2 := Lib.hid HP.out.2.size
      go_upto_region 4 with fail
      go_wp2_with (at_builtin; refine wpList_append_own _ rfl _ _ 22 rfl w0.heap.size 4 i1 (.bool false) 1 1 Try.underlying22 HI1.out.1 HI1.out.2.1 HI1.out.2.2.1 HI1.out.2.2.2 rfl (by decide) (.slice pq k cq) k _ rfl (HP.out.1.alloc _) ⟨wr.heap.size, 0, none⟩ 1 1 [.bool true] rfl rfl (cell_one_new _ _ _) (fun y hy => by rw [List.mem_singleton.1 hy]; rfl) (by unfold maxLen; omega) (by omega) (by have := HSZ2.out; simp; omega) ?_; intro v' w5 hown' hgrow _; obtain ⟨q6, d6, rfl⟩ := owns_slice hown')
      have HP2 := Lib.hid (show w5.ownsRow w0.heap.size 4 1 (.slice q6 (k + 1) d6) (k + 1) ((List.replicate (k + 1) true).map Value.bool) ∧ Below w0.heap.size w0 w5 from ⟨by
        have e : (List.replicate (k + 1) true).map Value.bool = (List.replicate k true).map Value.bool ++ [.bool true] := by rw [List.replicate_succ', List.map_append]; rfl
        rw [e]; exact hown', below_grown (below_then HP.out.2 HP.out.2.size (below1 wr (.cells #[.bool true] 4))) hgrow (fun r hr => (HP.out.1.lt r hr).1)⟩)
      clear hown' hgrow HP
      go_roundw
      case rel => exact ⟨k + 1, q6, d6, by omega, by go_num, rfl, HP2⟩
      case measure => simp [intOf]; omega
    · obtain rfl : k = n := by omega
      have g1 := HF.out.1.below HP.out.2
      have g2 := HF.out.2.1.below HP.out.2
      have HB1 := Lib.hid (HF.out.2.2.trans (HP.out.2.mono HF.out.2.2.size))
      obtain ⟨d0, d1, d2, d3⟩ := g1.cells
      have n2 := g1.marks 2
      have n3 := g1.marks 3
      obtain ⟨w2, hw2⟩ : ∃ X : World, X = (wr.setCell ⟨W.heap.size, 3, none⟩ (.slice pq k cq)).setCell ⟨W.heap.size, 2, none⟩ (.bool true) := ⟨_, rfl⟩
      have hgA : GBox (wr.setCell ⟨W.heap.size, 3, none⟩ (.slice pq k cq)) W.heap.size d a on (.slice pq k cq) := by unfold GBox; rw [heap_setCell_same wr W.heap.size 3 _ _ _ g1]; rfl
      have hgB : GBox w2 W.heap.size d a true (.slice pq k cq) := by rw [hw2]; unfold GBox; rw [heap_setCell_same _ W.heap.size 2 _ _ _ hgA]; rfl
      have hk2 : Keeps (fun k => k = W.heap.size) wr w2 := by rw [hw2]; exact (setK wr W.heap.size 3 (.slice pq k cq)).trans (setK _ W.heap.size 2 (.bool true))
      have hz2 := g2.keeps hk2 (by omega)
      have HB2 := Lib.hid (HB1.out.trans (hk2.below HB1.out.size (fun k e => by omega)))
      have HO2 := Lib.hid (hk2.row HP.out.1 (fun q hq e => by have := (HP.out.1.lt q hq).1; have := HSZ.out; omega))
      have HPT := Lib.hid (hz2.put d a true (.slice pq k cq))
      have HK := Lib.hid (GBox.putK w2 (W.heap.size + 1) d a true (.slice pq k cq))
      have HW2 := Lib.hid hw2
      have HX := Lib.hid (And.intro hgB hz2)
      clear hw2 hgA hgB hk2 hz2 g1 g2 HP
      go_upto_region 7 with fail
      rw [← HW2.out]
      clear HW2 d0 d1 d2 d3 n2 n3
      obtain ⟨d0, d1, d2, d3⟩ := HX.out.1.cells
      obtain ⟨e0, e1, e2, e3⟩ := HX.out.2.cells
      have m0 := HX.out.2.marks 0
      have m1 := HX.out.2.marks 1
      have m2 := HX.out.2.marks 2
      have m3 := HX.out.2.marks 3
      go_wp2
      refine bodyPost_ret (HPT.out.result1 rfl _ rfl) rfl ⟨⟨pq, cq, ?_, ?_, fun a e => by have := owns_far HO2.out a e; have := HSZ.out; omega⟩, HB2.out.trans (HK.out.below HB2.out.size (fun k e => by omega))⟩
      · rw [HBG.out]; simp
      · rw [HBG.out]
        have h := bools_of_owns (bs := List.replicate k true) (by simp) (HK.out.row HO2.out (fun q hq e => by have := (HO2.out.lt q hq).1; have := HSZ.out; omega))
        simpa using h

end Go.Proofs.Ytfnpokddoffplaa
/-
  The reference of layer 12: Report, Pick.
  Conditions: the grace may be; the CPU is there.
-/
namespace Go.Proofs.Ytfnpokddoffplaa
set_option maxRecDepth 100000
open Go.RowKit Go.Shelf
attribute [local go_sem] Oper.semAt_some

theorem rep_last' {g : GrS} {i : Nat} (h : lastB g.nd i = true) : reportG g i = ⟨g.done + 1, g.asked, false, g.nd.set i false⟩ := by unfold reportG; rw [if_pos h]
theorem rep_not' {g : GrS} {i : Nat} (h : ¬ lastB g.nd i = true) : reportG g i = ⟨g.done, g.asked, g.on, g.nd.set i false⟩ := by unfold reportG; rw [if_neg h]
theorem many_last (nd : List Bool) (i : Nat) : manyG (nd.set i false) = 0 ↔ lastB nd i = true := by
  rw [last_iff]
  constructor
  · intro h j hj hb
    refine Classical.byContradiction fun hne => ?_
    have : 0 < manyG (nd.set i false) := (many_pos _).2 ⟨j, by rw [List.length_set]; exact hj, by rw [getB_set, if_neg (fun e => hne e.1)]; exact hb⟩
    omega
  · intro h
    have : ¬ 0 < manyG (nd.set i false) := fun hp => by
      obtain ⟨j, hj, hb⟩ := (many_pos _).1 hp
      rw [List.length_set] at hj
      rw [getB_set] at hb
      split at hb
      · cases hb
      · rename_i hn
        have := h j hj hb
        subst this
        exact hn ⟨rfl, hj⟩
    omega

set_option maxHeartbeats 8000000 in
theorem rreport_c (g : GrS) (v : Value) (i : Nat) (hg : GoodG g) (ho : g.on = true) (hi : i < g.nd.length) (W : World) (hv : BoolsAt W v g.nd) :
    Calls Try.prog 21 #[.agg #[.int .i64 g.done, .int .i64 g.asked, .bool g.on, v], .int .i64 (i : Int)] W fun e w' => RefO (W.heap.size + 2) (reportG g i) e w' ∧ Below W.heap.size W w' := by
  obtain ⟨RG, hRG⟩ : ∃ r, r = reportG g i := ⟨_, rfl⟩
  rw [← hRG]
  have HRG := Lib.hid (show (lastB g.nd i = true → RG = ⟨g.done + 1, g.asked, false, g.nd.set i false⟩) ∧ (¬ lastB g.nd i = true → RG = ⟨g.done, g.asked, g.on, g.nd.set i false⟩) by rw [hRG]; exact ⟨rep_last', rep_not'⟩)
  have h8 := hg.l8
  have hd0 := hg.d0
  have hd1 : g.done ≤ 2147483645 := by have := hg.a1; have := hg.on1 ho; omega
  obtain ⟨b, off, hs⟩ : ∃ b off, ∃ c, v = .slice (some ⟨b, off, none⟩) g.nd.length c ∧ ∀ j (h : j < g.nd.length), W.cell? ⟨b, off + j, none⟩ = some (.bool g.nd[j]) := by
    obtain ⟨p, c, rfl, hc⟩ := hv
    obtain ⟨b, off, rfl, hcs⟩ := hc (by intro e; rw [e] at hi; simp at hi)
    exact ⟨b, off, c, rfl, hcs⟩
  obtain ⟨c, rfl, hcs⟩ := hs
  obtain ⟨d, a, on, nd⟩ := g
  dsimp only at *
  subst ho
  clear hRG hg hv
  obtain ⟨n, hn⟩ : ∃ n, n = nd.length := ⟨_, rfl⟩
  obtain ⟨w0, hw0⟩ : ∃ X : World, X = wSG W d a true (.slice (some ⟨b, off, none⟩) n c) 0 0 false (.slice none 0 0) := ⟨_, rfl⟩
  have HF := Lib.hid (wSG_facts W d a true (.slice (some ⟨b, off, none⟩) n c) 0 0 false (.slice none 0 0))
  rw [← hw0] at HF
  have HSZ := Lib.hid (show w0.heap.size = W.heap.size + 2 by rw [hw0]; unfold wSG; simp)
  unfold wSG at hw0
  have HCS := Lib.hid (show ∀ j u, (nd.map Value.bool)[j]? = some u → w0.cell? ((⟨b, off, none⟩ : Addr).add j) = some u from fun j u hj => by
    obtain ⟨hj1, rfl⟩ := List.getElem?_eq_some_iff.1 hj
    rw [List.length_map] at hj1
    rw [addr_add_off, List.getElem_map]
    exact below_cell HF.out.2.2 (hcs j hj1))
  obtain ⟨d0, d1, d2, d3⟩ := HF.out.1.cells
  have HW0 := Lib.hid hw0
  have HN := Lib.hid hn
  obtain ⟨i1, hi1, hy0, hy1, hy2⟩ := info_parts cloneB_info
  have HI1 := Lib.hid (And.intro hi1 (And.intro hy0 (And.intro hy1 hy2)))
  rw [← hn] at hi h8 ⊢
  clear hw0 hi1 hy0 hy1 hy2 hcs hn
  go_enter Try.func21, Try.ntmps21
  go_upto_region 1 with fail
  rw [← HW0.out]
  clear HW0
  have hszA : w0.heap.size ≤ (w0.alloc (.cells #[] 4)).heap.size := (below1 w0 _).size
  have HOA := Lib.hid (show (w0.alloc (.cells #[] 4)).ownsRow w0.heap.size 4 1 (.slice (some ⟨w0.heap.size, 0, none⟩) 0 0) 0 [] by
    have h : BBlock (w0.alloc (.cells #[] 4)) w0.heap.size [] := World.alloc_heap_new w0 _
    have := h.owns (B := w0.heap.size) (Nat.le_refl _) (by simp)
    simpa using this)
  have HCA := Lib.hid (show ∀ j u, (nd.map Value.bool)[j]? = some u → (w0.alloc (.cells #[] 4)).cell? ((⟨b, off, none⟩ : Addr).add j) = some u from fun j u hj => below_cell (below1 _ _) (HCS.out j u hj))
  clear d0 d1 d2 d3
  obtain ⟨d0, d1, d2, d3⟩ := (HF.out.1.below (below1 w0 (.cells #[] 4))).cells
  go_upto_region 2 with (at_builtin; refine wpList_append_own _ rfl _ _ 22 rfl w0.heap.size 4 i1 (.bool false) 1 1 Try.underlying22 HI1.out.1 HI1.out.2.1 HI1.out.2.2.1 HI1.out.2.2.2 rfl (by decide) (.slice (some ⟨w0.heap.size, 0, none⟩) 0 0) 0 _ rfl HOA.out ⟨b, off, none⟩ n c (nd.map Value.bool) rfl (by rw [List.length_map, HN.out]; omega) HCA.out (fun y hy => by obtain ⟨x, _, rfl⟩ := List.mem_map.1 hy; rfl) (by unfold maxLen; omega) (by omega) hszA ?_; intro v' w5 hown' hgrow _; obtain ⟨q6, d6, rfl⟩ := owns_slice hown'; obtain ⟨gq, rfl⟩ : ∃ q, q6 = some ⟨q, 0, none⟩ := by (obtain ⟨g, cap, e, _⟩ := hown'.form (by omega); injection e with e1 _ _; exact ⟨g, e1⟩))
  rw [Nat.zero_add, List.nil_append] at hown'
  have hgb : ∀ {k : Nat}, k < W.heap.size + 2 → w5.heap[k]? = (w0.alloc (.cells #[] 4)).heap[k]? := fun {k} hk => hgrow.block k (by have := HSZ.out; simp; omega) (fun e => by injection e with e; have e2 : k = w0.heap.size := e; have := HSZ.out; omega)
  have hb5 : Below (W.heap.size + 2) w0 w5 := ⟨hgrow.os, hgrow.tape, hgrow.output, Nat.le_trans hszA hgrow.size, fun k hk => (hgb hk).trans ((below1 w0 (.cells #[] 4)).block k (by have := HSZ.out; omega))⟩
  have g5 : GBox w5 W.heap.size d a true (.slice (some ⟨b, off, none⟩) n c) := (hb5.block _ (by omega)).trans HF.out.1
  have z5 : GBox w5 (W.heap.size + 1) 0 0 false (.slice none 0 0) := (hb5.block _ (by omega)).trans HF.out.2.1
  have hB5 : Below W.heap.size W w5 := HF.out.2.2.trans (hb5.mono (by omega))
  have hc1 := hown'.cellAt i (by omega)
  have hm1 := hown'.frozenAt i
  have hgq := (hown'.lt gq rfl).1
  rw [List.getElem?_map, List.getElem?_eq_getElem (by have := HN.out; omega)] at hc1
  obtain ⟨we, hwe⟩ : ∃ X : World, X = w5.setCell ⟨gq, i, none⟩ (.bool false) := ⟨_, rfl⟩
  have hke : Keeps (fun q => q = gq) w5 we := by rw [hwe]; exact Keeps.setCell w5 (S := (· = gq)) (p := ⟨gq, i, none⟩) rfl _
  have hN2 : we.ownsRow w0.heap.size 4 1 (.slice (some ⟨gq, 0, none⟩) n d6) n ((nd.set i false).map Value.bool) := by
    rw [hwe, List.map_set]
    exact (hown'.stored i _).1
  have ge := g5.keeps hke (fun e => by have := HSZ.out; omega)
  have ze := z5.keeps hke (fun e => by have := HSZ.out; omega)
  have hBe := hB5.trans (hke.below hB5.size (fun q e => by have := HSZ.out; omega))
  obtain ⟨wf, hwf⟩ : ∃ X : World, X = we.setCell ⟨W.heap.size, 3, none⟩ (.slice (some ⟨gq, 0, none⟩) n d6) := ⟨_, rfl⟩
  have hkf : Keeps (fun q => q = W.heap.size) we wf := by rw [hwf]; exact setK we W.heap.size 3 _
  have gf : GBox wf W.heap.size d a true (.slice (some ⟨gq, 0, none⟩) n d6) := by rw [hwf]; unfold GBox; rw [heap_setCell_same we W.heap.size 3 _ _ _ ge]; rfl
  have hNf := hkf.row hN2 (fun q hq e => by have := (hN2.lt q hq).1; have := HSZ.out; omega)
  have HFF := Lib.hid (And.intro gf (And.intro (ze.keeps hkf (by omega)) (And.intro hNf (hBe.trans (hkf.below hBe.size (fun q e => by omega))))))
  obtain ⟨m, hm⟩ : ∃ m, m = manyG (nd.set i false) := ⟨_, rfl⟩
  have HC := Lib.hid (rneed_c d a true (.slice (some ⟨gq, 0, none⟩) n d6) (nd.set i false) wf (bools_of_owns (by rw [List.length_set, HN.out]) hNf) (by rw [List.length_set, ← HN.out]; omega))
  rw [← hm] at HC
  have HM := Lib.hid hm
  have HWE := Lib.hid hwe
  have HWF := Lib.hid hwf
  have HGE := Lib.hid (And.intro ge hgq)
  obtain ⟨k0, k1, k2, k3⟩ := g5.cells
  clear d0 d1 d2 d3
  clear hgb hb5 g5 z5 hB5 hke hN2 ge ze hBe hkf gf hNf hm hwe hwf hgrow hown' hgq
  go_upto_region 3 with fail
  rw [← HWE.out]
  clear hc1 hm1 k0 k1 k2 k3 HWE
  obtain ⟨k0, k1, k2, k3⟩ := HGE.out.1.cells
  have y3 := HGE.out.1.marks 3
  go_upto_region 4 with fail
  rw [← HWF.out]
  clear HWF k0 k1 k2 k3 y3
  obtain ⟨f0, f1, f2, f3⟩ := HFF.out.1.cells
  go_wp2_with fail
  (with_reducible refine HC.out.mono ?_)
  rintro e w6 ⟨rfl, hb6⟩
  replace HFF := Lib.hid (And.intro (HFF.out.1.below hb6) (And.intro (HFF.out.2.1.below hb6) (And.intro (owns_below HFF.out.2.2.1 hb6) (below_then HFF.out.2.2.2 HFF.out.2.2.2.size hb6))))
  obtain ⟨wf, hwf⟩ : ∃ X, X = w6 := ⟨_, rfl⟩
  rw [← hwf] at HFF ⊢
  clear hwf hb6 f0 f1 f2 f3 HC HGE
  obtain ⟨f0, f1, f2, f3⟩ := HFF.out.1.cells
  by_cases hl : lastB nd i = true
  · have hq : ((m : Int) == 0) = true := by rw [beq_iff_eq]; have := (many_last nd i).2 hl; have := HM.out; omega
    have HRE := Lib.hid (HRG.out.1 hl)
    clear hl
    obtain ⟨wg, hwg⟩ : ∃ X : World, X = (wf.setCell ⟨W.heap.size, 0, none⟩ (.int .i64 (d + 1))).setCell ⟨W.heap.size, 2, none⟩ (.bool false) := ⟨_, rfl⟩
    have hgA : GBox (wf.setCell ⟨W.heap.size, 0, none⟩ (.int .i64 (d + 1))) W.heap.size (d + 1) a true (.slice (some ⟨gq, 0, none⟩) n d6) := by unfold GBox; rw [heap_setCell_same wf W.heap.size 0 _ _ _ HFF.out.1]; rfl
    have hgB : GBox wg W.heap.size (d + 1) a false (.slice (some ⟨gq, 0, none⟩) n d6) := by rw [hwg]; unfold GBox; rw [heap_setCell_same _ W.heap.size 2 _ _ _ hgA]; rfl
    have hkg : Keeps (fun k => k = W.heap.size) wf wg := by rw [hwg]; exact (setK wf W.heap.size 0 (.int .i64 (d + 1))).trans (setK _ W.heap.size 2 (.bool false))
    have HGX := Lib.hid (And.intro hgB (And.intro (HFF.out.2.1.keeps hkg (by omega)) (And.intro (hkg.row HFF.out.2.2.1 (fun q hq e => by have := (HFF.out.2.2.1.lt q hq).1; have := HSZ.out; omega)) (HFF.out.2.2.2.trans (hkg.below HFF.out.2.2.2.size (fun k e => by omega))))))
    have HWG := Lib.hid hwg
    have n0 := HFF.out.1.marks 0
    have n2 := HFF.out.1.marks 2
    clear hgA hgB hkg hwg
    go_upto_region 6 with fail
    rw [← HWG.out]
    clear HWG n0 n2 f0 f1 f2 f3
    obtain ⟨f0, f1, f2, f3⟩ := HGX.out.1.cells
    obtain ⟨e0, e1, e2, e3⟩ := HGX.out.2.1.cells
    have m0 := HGX.out.2.1.marks 0
    have m1 := HGX.out.2.1.marks 1
    have m2 := HGX.out.2.1.marks 2
    have m3 := HGX.out.2.1.marks 3
    have HPT := Lib.hid (HGX.out.2.1.put (d + 1) a false (.slice (some ⟨gq, 0, none⟩) n d6))
    have HKK := Lib.hid (GBox.putK wg (W.heap.size + 1) (d + 1) a false (.slice (some ⟨gq, 0, none⟩) n d6))
    go_wp2
    refine bodyPost_ret (HPT.out.result1 rfl _ rfl) rfl ⟨⟨some ⟨gq, 0, none⟩, d6, ?_, ?_, fun a e => by have := owns_far HGX.out.2.2.1 a e; have := HSZ.out; omega⟩, HGX.out.2.2.2.trans (HKK.out.below HGX.out.2.2.2.size (fun k e => by omega))⟩
    · rw [HRE.out]; simp only [List.length_set]; rw [← HN.out]
    · rw [HRE.out]
      have h := bools_of_owns (bs := nd.set i false) (by rw [List.length_set, HN.out]) (HKK.out.row HGX.out.2.2.1 (fun q hq e => by have := (HGX.out.2.2.1.lt q hq).1; have := HSZ.out; omega))
      simpa [HN.out] using h
  · have hq : ((m : Int) == 0) = false := by rw [beq_eq_false_iff_ne]; intro e; exact hl ((many_last nd i).1 (by have := HM.out; omega))
    have HRE := Lib.hid (HRG.out.2 hl)
    clear hl
    have HGX := Lib.hid HFF.out
    clear f0 f1 f2 f3
    obtain ⟨f0, f1, f2, f3⟩ := HGX.out.1.cells
    obtain ⟨e0, e1, e2, e3⟩ := HGX.out.2.1.cells
    have m0 := HGX.out.2.1.marks 0
    have m1 := HGX.out.2.1.marks 1
    have m2 := HGX.out.2.1.marks 2
    have m3 := HGX.out.2.1.marks 3
    have HPT := Lib.hid (HGX.out.2.1.put d a true (.slice (some ⟨gq, 0, none⟩) n d6))
    have HKK := Lib.hid (GBox.putK wf (W.heap.size + 1) d a true (.slice (some ⟨gq, 0, none⟩) n d6))
    go_wp2
    refine bodyPost_ret (HPT.out.result1 rfl _ rfl) rfl ⟨⟨some ⟨gq, 0, none⟩, d6, ?_, ?_, fun a e => by have := owns_far HGX.out.2.2.1 a e; have := HSZ.out; omega⟩, HGX.out.2.2.2.trans (HKK.out.below HGX.out.2.2.2.size (fun k e => by omega))⟩
    · rw [HRE.out]; simp only [List.length_set]; rw [← HN.out]
    · rw [HRE.out]
      have h := bools_of_owns (bs := nd.set i false) (by rw [List.length_set, HN.out]) (HKK.out.row HGX.out.2.2.1 (fun q hq e => by have := (HGX.out.2.2.1.lt q hq).1; have := HSZ.out; omega))
      simpa [HN.out] using h

end Go.Proofs.Ytfnpokddoffplaa
/-
  The reference of layer 12: Pick; spoil, of the statements.
  Conditions: the grace may be; the CPU is there.
-/
namespace Go.Proofs.Ytfnpokddoffplaa
set_option maxRecDepth 100000
open Go.RowKit Go.Shelf
attribute [local go_sem] Oper.semAt_some

set_option maxHeartbeats 8000000 in
theorem rpick_c (g : GrS) (p : Option Addr) (n c : Nat) (i : Nat) (q : Bool) (hn : n = g.nd.length) (hg : GoodG g) (hi : i < g.nd.length) (W : World) (hv : BoolsAt W (.slice p n c) g.nd) :
    Calls Try.prog 20 #[.agg #[.int .i64 g.done, .int .i64 g.asked, .bool g.on, .slice p n c], .int .i64 (i : Int), .bool q] W fun e w' => RefX W.heap.size p (pickG g i q) e w' ∧ Below W.heap.size W w' := by
  obtain ⟨RG, hRG⟩ : ∃ r, r = pickG g i q := ⟨_, rfl⟩
  rw [← hRG]
  have hne : g.nd ≠ [] := fun e => by rw [e] at hi; cases hi
  have HLV := Lib.hid (bools_lt hv hne)
  obtain ⟨w0, hw0⟩ : ∃ X : World, X = wSG W g.done g.asked g.on (.slice p n c) 0 0 false (.slice none 0 0) := ⟨_, rfl⟩
  have HF := Lib.hid (wSG_facts W g.done g.asked g.on (.slice p n c) 0 0 false (.slice none 0 0))
  rw [← hw0] at HF
  have HSZ := Lib.hid (show w0.heap.size = W.heap.size + 2 by rw [hw0]; unfold wSG; simp)
  unfold wSG at hw0
  have HV := Lib.hid (bools_below hv HF.out.2.2)
  have HI := Lib.hid (And.intro hi hn)
  have HG := Lib.hid hg
  obtain ⟨d0, d1, d2, d3⟩ := HF.out.1.cells
  clear hv hi hn hg hne
  go_enter Try.func20, Try.ntmps20
  have HW0 := Lib.hid hw0
  clear hw0
  go_upto_region 1 with fail
  rw [← HW0.out]
  clear HW0
  cases hon : g.on with
  | true =>
    rw [hon] at d2
    cases q with
    | true =>
      have HC := Lib.hid (show Calls Try.prog 21 #[.agg #[.int .i64 g.done, .int .i64 g.asked, .bool true, .slice p n c], .int .i64 (i : Int)] w0 fun e w' => RefO (w0.heap.size + 2) RG e w' ∧ Below w0.heap.size w0 w' by
        have h := rreport_c g (.slice p n c) i HG.out hon HI.out.1 w0 HV.out
        rwa [hon, ← pick_yes hon, ← hRG] at h)
      clear hon hRG
      go_wp2_with fail
      (with_reducible refine HC.out.mono ?_)
      rintro e w1 ⟨⟨pq, cq, rfl, hB, hfar⟩, hb1⟩
      have z1 := HF.out.2.1.below hb1
      have HB1 := Lib.hid (below_then HF.out.2.2 HF.out.2.2.size hb1)
      obtain ⟨e0, e1, e2, e3⟩ := z1.cells
      have m0 := z1.marks 0
      have m1 := z1.marks 1
      have m2 := z1.marks 2
      have m3 := z1.marks 3
      have HPT := Lib.hid (z1.put RG.done RG.asked RG.on (.slice pq RG.nd.length cq))
      have HKK := Lib.hid (GBox.putK w1 (W.heap.size + 1) RG.done RG.asked RG.on (.slice pq RG.nd.length cq))
      have HBL := Lib.hid (show ∀ w2, Keeps (fun k => k = W.heap.size + 1) w1 w2 → BoolsAt w2 (.slice pq RG.nd.length cq) RG.nd from fun w2 hk => bools_other hB (fun a e => by have := hfar a e; have := HSZ.out; omega) hk)
      have HFA := Lib.hid (show ∀ a : Addr, pq = some a → W.heap.size ≤ a.block from fun a e => by have := hfar a e; have := HSZ.out; omega)
      clear z1 hB hfar hb1 HC
      go_wp2
      exact bodyPost_ret (HPT.out.result1 rfl _ rfl) rfl ⟨⟨pq, cq, rfl, HBL.out _ HKK.out, .inr HFA.out⟩, HB1.out.trans (HKK.out.below HB1.out.size (fun k e => by omega))⟩
    | false =>
      have HR := Lib.hid (show RG = g by rw [hRG]; exact pick_off hon i)
      clear hRG
      have z1 := HF.out.2.1
      obtain ⟨e0, e1, e2, e3⟩ := z1.cells
      have m0 := z1.marks 0
      have m1 := z1.marks 1
      have m2 := z1.marks 2
      have m3 := z1.marks 3
      have HPT := Lib.hid (z1.put g.done g.asked true (.slice p n c))
      have HKK := Lib.hid (GBox.putK w0 (W.heap.size + 1) g.done g.asked true (.slice p n c))
      have HBL := Lib.hid (show ∀ w2, Keeps (fun k => k = W.heap.size + 1) w0 w2 → BoolsAt w2 (.slice p n c) g.nd from fun w2 hk => bools_other HV.out (fun a e => by have := HLV.out a e; omega) hk)
      have HON := Lib.hid hon
      clear z1 hon
      go_wp2
      refine bodyPost_ret (HPT.out.result1 rfl _ rfl) rfl ⟨⟨p, c, ?_, ?_, .inl rfl⟩, HF.out.2.2.trans (HKK.out.below HF.out.2.2.size (fun k e => by omega))⟩
      · rw [HR.out, HON.out, ← HI.out.2]
      · rw [HR.out, ← HI.out.2]; exact HBL.out _ HKK.out
  | false =>
    rw [hon] at d2
    by_cases hlt : g.done < g.asked
    · have HC := Lib.hid (show Calls Try.prog 15 #[.agg #[.int .i64 g.done, .int .i64 g.asked, .bool false, .slice p n c]] w0 fun e w' => RefO (w0.heap.size + 2) RG e w' ∧ Below w0.heap.size w0 w' by
        have h := rbegin_c g p c HG.out w0
        rw [hon, ← HI.out.2] at h
        rwa [hRG, show pickG g i q = beginG g by unfold pickG; rw [if_neg (by rw [hon]; exact Bool.false_ne_true), if_pos hlt]])
      clear hon hRG
      go_wp2_with fail
      (with_reducible refine HC.out.mono ?_)
      rintro e w1 ⟨⟨pq, cq, rfl, hB, hfar⟩, hb1⟩
      have z1 := HF.out.2.1.below hb1
      have HB1 := Lib.hid (below_then HF.out.2.2 HF.out.2.2.size hb1)
      obtain ⟨e0, e1, e2, e3⟩ := z1.cells
      have m0 := z1.marks 0
      have m1 := z1.marks 1
      have m2 := z1.marks 2
      have m3 := z1.marks 3
      have HPT := Lib.hid (z1.put RG.done RG.asked RG.on (.slice pq RG.nd.length cq))
      have HKK := Lib.hid (GBox.putK w1 (W.heap.size + 1) RG.done RG.asked RG.on (.slice pq RG.nd.length cq))
      have HBL := Lib.hid (show ∀ w2, Keeps (fun k => k = W.heap.size + 1) w1 w2 → BoolsAt w2 (.slice pq RG.nd.length cq) RG.nd from fun w2 hk => bools_other hB (fun a e => by have := hfar a e; have := HSZ.out; omega) hk)
      have HFA := Lib.hid (show ∀ a : Addr, pq = some a → W.heap.size ≤ a.block from fun a e => by have := hfar a e; have := HSZ.out; omega)
      clear z1 hB hfar hb1 HC
      go_wp2
      exact bodyPost_ret (HPT.out.result1 rfl _ rfl) rfl ⟨⟨pq, cq, rfl, HBL.out _ HKK.out, .inr HFA.out⟩, HB1.out.trans (HKK.out.below HB1.out.size (fun k e => by omega))⟩
    · have HR := Lib.hid (show RG = g by rw [hRG]; unfold pickG; rw [if_neg (by rw [hon]; exact Bool.false_ne_true), if_neg hlt])
      clear hRG
      have z1 := HF.out.2.1
      obtain ⟨e0, e1, e2, e3⟩ := z1.cells
      have m0 := z1.marks 0
      have m1 := z1.marks 1
      have m2 := z1.marks 2
      have m3 := z1.marks 3
      have HPT := Lib.hid (z1.put g.done g.asked false (.slice p n c))
      have HKK := Lib.hid (GBox.putK w0 (W.heap.size + 1) g.done g.asked false (.slice p n c))
      have HBL := Lib.hid (show ∀ w2, Keeps (fun k => k = W.heap.size + 1) w0 w2 → BoolsAt w2 (.slice p n c) g.nd from fun w2 hk => bools_other HV.out (fun a e => by have := HLV.out a e; omega) hk)
      have HON := Lib.hid hon
      clear z1 hon
      go_wp2
      refine bodyPost_ret (HPT.out.result1 rfl _ rfl) rfl ⟨⟨p, c, ?_, ?_, .inl rfl⟩, HF.out.2.2.trans (HKK.out.below HF.out.2.2.size (fun k e => by omega))⟩
      · rw [HR.out, HON.out, ← HI.out.2]
      · rw [HR.out, ← HI.out.2]; exact HBL.out _ HKK.out

set_option maxHeartbeats 8000000 in
theorem spoil_c (d a : Int) (on : Bool) (nb : Nat) (bs : List Bool) (n : Nat) (hn : n = bs.length) (h8 : n ≤ 8) (W : World) (hb : BBlock W nb bs) :
    Calls Try.prog 17 #[.agg #[.int .i64 d, .int .i64 a, .bool on, .slice (some ⟨nb, 0, none⟩) n n]] W fun e w' => e = .returned (.tuple #[]) ∧ Keeps (fun q => q = nb) W w' := by
  obtain ⟨w0, hw0⟩ : ∃ X : World, X = W.alloc (.cells #[.int .i64 d, .int .i64 a, .bool on, .slice (some ⟨nb, 0, none⟩) n n] 24) := ⟨_, rfl⟩
  have hb0 : Below W.heap.size W w0 := by rw [hw0]; exact below1 _ _
  have hx : GBox w0 W.heap.size d a on (.slice (some ⟨nb, 0, none⟩) n n) := by rw [hw0]; exact GBox.new _ _ _ _ _
  have HNE := Lib.hid (show nb ≠ W.heap.size by have := hb.lt; omega)
  have HI0 := Lib.hid (And.intro hx (And.intro (hb.below hb0) (Keeps.refl (fun q => q = nb) w0)))
  have HB0 := Lib.hid hb0
  obtain ⟨d0, d1, d2, d3⟩ := hx.cells
  have HW0 := Lib.hid hw0
  have HNB := Lib.hid hn
  clear hw0 hb0 hx hb hn
  go_enter Try.func17, Try.ntmps17
  go_upto_region 1 with fail
  rw [← HW0.out]
  clear HW0
  go_wp2_with fail
  clear d0 d1 d2 d3
  go_loopw [6] (fun iv wx => ∃ (k : Nat) (cs : List Bool), k ≤ n ∧ iv = .int .i64 (k : Int) ∧ cs.length = n ∧ Hid (GBox wx W.heap.size d a on (.slice (some ⟨nb, 0, none⟩) n n) ∧ BBlock wx nb cs ∧ Keeps (fun q => q = nb) w0 wx)) (fun iv _ => n - (intOf iv).toNat)
  case atStart => exact ⟨0, bs, Nat.zero_le _, rfl, HNB.out.symm, HI0⟩
  case round =>
    obtain ⟨k, cs, hk, rfl, hcs, HI⟩ := hrel
    clear HI0
    by_cases hkn : k < n
    · have hk0 : (0 : Int) ≤ (k : Int) := by omega
      have hkx : (k : Int) < (n : Int) := by omega
      obtain ⟨x, hx⟩ : ∃ x, x = cs[k]'(by omega) := ⟨_, rfl⟩
      have hc := HI.out.2.1.cell k (by omega)
      rw [← hx] at hc
      clear hx
      go_upto_region 4 with fail
      refine wpTwo_begin (T := fun w' => GBox w' W.heap.size d a on (.slice (some ⟨nb, 0, none⟩) n n)) (S := fun w' => w'.cell? ⟨nb, k, none⟩ = some (.bool x)) (late := fun j => [10].contains j) (by kernel_rfl) ?_
      obtain ⟨X0, hX0⟩ : ∃ X : World, X = wr.drew := ⟨_, rfl⟩
      rw [← hX0]
      have hbx : Below wr.heap.size wr X0 := by rw [hX0]; exact (Below.refl _ _).drew
      have hT0 := HI.out.1.below hbx
      have hS0 := below_cell hbx hc
      have HX := Lib.hid (And.intro (HI.out.2.1.below hbx) hbx)
      clear hX0 hbx hc
      refine wpTwo_takeT (i := 0) (v := .pointer (some ⟨W.heap.size, 3, none⟩)) rfl (by kernel_rfl) (by kernel_rfl) (by kernel_rfl) (fun _ _ _ h => h) ⟨by rfl, ?_⟩ hT0 ?_
      · rintro w hTw
        go_simp
      (try simp only [Act.put, List.getElem_toArray, List.getElem_cons_zero, List.setIfInBounds_toArray, List.set_cons_succ, List.set_cons_zero])
      refine wpTwo_takeT (i := 1) (v := .slice (some ⟨nb, 0, none⟩) n n) rfl (by kernel_rfl) (by kernel_rfl) (by kernel_rfl) (fun _ _ _ h => h) ⟨by rfl, ?_⟩ hT0 ?_
      · rintro w hTw
        obtain ⟨q0, q1, q2, q3⟩ := hTw.cells
        go_simp
      (try simp only [Act.put, List.getElem_toArray, List.getElem_cons_succ, List.getElem_cons_zero, List.setIfInBounds_toArray, List.set_cons_succ, List.set_cons_zero])
      refine wpTwo_takeT (i := 2) (v := .int .i64 (k : Int)) rfl (by kernel_rfl) (by kernel_rfl) (by kernel_rfl) (fun _ _ _ h => h) ⟨by rfl, ?_⟩ hT0 ?_
      · rintro w hTw
        go_simp
      (try simp only [Act.put, List.getElem_toArray, List.getElem_cons_succ, List.getElem_cons_zero, List.setIfInBounds_toArray, List.set_cons_succ, List.set_cons_zero])
      refine wpTwo_takeT (i := 3) (v := .pointer (some ⟨W.heap.size, 3, none⟩)) rfl (by kernel_rfl) (by kernel_rfl) (by kernel_rfl) (fun _ _ _ h => h) ⟨by rfl, ?_⟩ hT0 ?_
      · rintro w hTw
        go_simp
      (try simp only [Act.put, List.getElem_toArray, List.getElem_cons_succ, List.getElem_cons_zero, List.setIfInBounds_toArray, List.set_cons_succ, List.set_cons_zero])
      refine wpTwo_takeT (i := 4) (v := .slice (some ⟨nb, 0, none⟩) n n) rfl (by kernel_rfl) (by kernel_rfl) (by kernel_rfl) (fun _ _ _ h => h) ⟨by rfl, ?_⟩ hT0 ?_
      · rintro w hTw
        obtain ⟨q0, q1, q2, q3⟩ := hTw.cells
        go_simp
      (try simp only [Act.put, List.getElem_toArray, List.getElem_cons_succ, List.getElem_cons_zero, List.setIfInBounds_toArray, List.set_cons_succ, List.set_cons_zero])
      refine wpTwo_takeT (i := 5) (v := .int .i64 (k : Int)) rfl (by kernel_rfl) (by kernel_rfl) (by kernel_rfl) (fun _ _ _ h => h) ⟨by rfl, ?_⟩ hT0 ?_
      · rintro w hTw
        go_simp
      (try simp only [Act.put, List.getElem_toArray, List.getElem_cons_succ, List.getElem_cons_zero, List.setIfInBounds_toArray, List.set_cons_succ, List.set_cons_zero])
      refine wpTwo_takeT (i := 6) (v := .pointer (some ⟨nb, k, none⟩)) rfl (by kernel_rfl) (by kernel_rfl) (by kernel_rfl) (fun _ _ _ h => h) ⟨by rfl, ?_⟩ hT0 ?_
      · rintro w hTw
        go_simp
      (try simp only [Act.put, List.getElem_toArray, List.getElem_cons_succ, List.getElem_cons_zero, List.setIfInBounds_toArray, List.set_cons_succ, List.set_cons_zero])
      refine wpTwo_takeS (i := 7) (v := .bool x) (waits_all (by kernel_rfl)) rfl (by kernel_rfl) (by kernel_rfl) (by kernel_rfl) (fun _ _ _ h => h) ⟨by rfl, ?_⟩ ⟨hT0, hS0⟩ ?_
      · rintro w hTw
        have q0 := hTw.2
        go_simp
      (try simp only [Act.put, List.getElem_toArray, List.getElem_cons_succ, List.getElem_cons_zero, List.setIfInBounds_toArray, List.set_cons_succ, List.set_cons_zero])
      refine wpTwo_takeT (i := 8) (v := .bool (!x)) rfl (by kernel_rfl) (by kernel_rfl) (by kernel_rfl) (fun _ _ _ h => h) ⟨by rfl, ?_⟩ hT0 ?_
      · rintro w hTw
        go_simp
      (try simp only [Act.put, List.getElem_toArray, List.getElem_cons_succ, List.getElem_cons_zero, List.setIfInBounds_toArray, List.set_cons_succ, List.set_cons_zero])
      refine wpTwo_takeT (i := 9) (v := .pointer (some ⟨nb, k, none⟩)) rfl (by kernel_rfl) (by kernel_rfl) (by kernel_rfl) (fun _ _ _ h => h) ⟨by rfl, ?_⟩ hT0 ?_
      · rintro w hTw
        go_simp
      (try simp only [Act.put, List.getElem_toArray, List.getElem_cons_succ, List.getElem_cons_zero, List.setIfInBounds_toArray, List.set_cons_succ, List.set_cons_zero])
      obtain ⟨X1, hX1⟩ : ∃ X : World, X = X0.setCell ⟨nb, k, none⟩ (.bool (!x)) := ⟨_, rfl⟩
      have hke : Keeps (fun q => q = nb) X0 X1 := by rw [hX1]; exact Keeps.setCell X0 (S := (· = nb)) (p := ⟨nb, k, none⟩) rfl _
      have q0 := hS0
      have m0 : X0.frozen? ⟨nb, k, none⟩ = false := HX.out.1.free k
      have hTn := hT0.keeps hke (fun e => HNE.out e.symm)
      have HN2 := Lib.hid (show GBox X1 W.heap.size d a on (.slice (some ⟨nb, 0, none⟩) n n) ∧ BBlock X1 nb (cs.set k (!x)) ∧ Keeps (fun q => q = nb) w0 X1 from ⟨hTn, by rw [hX1]; exact HX.out.1.set k _, HI.out.2.2.trans ((Keeps.of_below HX.out.2).trans hke)⟩)
      have HX1 := Lib.hid hX1
      clear hX1 hke
      refine wpTwo_ready (rs := [10]) (by kernel_rfl) (by simp) ?_
      refine (AllTwo.cons rfl (fun K hK => ?_) AllTwo.nil)
      go_simp
      rw [← HX1.out]
      refine hK.out _ _ ⟨hTn, fun h => by cases h⟩ ?_
      clear hK K q0 m0 HX1 hS0 hT0 hTn
      (try simp only [Act.put])
      refine wpTwo_end (by kernel_rfl) ?_ _
      go_wp2
      go_roundw
      case rel => exact ⟨k + 1, cs.set k (!x), by omega, by go_num, by rw [List.length_set]; exact hcs, HN2⟩
      case measure => simp [intOf]; omega
    · go_wp2
      exact ⟨rfl, .tuple #[], (by simp [results, Try.results17, go_sem]), rfl, (Keeps.of_below HB0.out).trans HI.out.2.2⟩
set_option maxHeartbeats 4000000 in
theorem spoil_no (d a : Int) (on : Bool) (W : World) :
    Calls Try.prog 17 #[.agg #[.int .i64 d, .int .i64 a, .bool on, .slice none 0 0]] W fun e w' => e = .returned (.tuple #[]) ∧ Below W.heap.size W w' := by
  obtain ⟨w0, hw0⟩ : ∃ X : World, X = W.alloc (.cells #[.int .i64 d, .int .i64 a, .bool on, .slice none 0 0] 24) := ⟨_, rfl⟩
  have HB0 := Lib.hid (show Below W.heap.size W w0 by rw [hw0]; exact below1 _ _)
  have hx : GBox w0 W.heap.size d a on (.slice none 0 0) := by rw [hw0]; exact GBox.new _ _ _ _ _
  obtain ⟨d0, d1, d2, d3⟩ := hx.cells
  have HW0 := Lib.hid hw0
  clear hw0 hx
  go_enter Try.func17, Try.ntmps17
  go_upto_region 1 with fail
  rw [← HW0.out]
  clear HW0
  go_wp2_with fail
  refine wp_loop_rounds 1 ?_
  rw [rounds_succ]
  go_wp2
  exact ⟨rfl, .tuple #[], (by simp [results, Try.results17, go_sem]), rfl, HB0.out⟩

end Go.Proofs.Ytfnpokddoffplaa
namespace Go.Proofs.Ytfnpokddoffplaa
set_option maxRecDepth 100000
open Go.RowKit Go.Shelf

/-- A row that can be written over. -/
def SpG (B : Nat) (W : World) (g : GrS) (p : Option Addr) (c : Nat) : Prop := (g.nd = [] ∧ p = none ∧ c = 0) ∨ ∃ nb, p = some ⟨nb, 0, none⟩ ∧ c = g.nd.length ∧ BBlock W nb g.nd ∧ B ≤ nb ∧ g.nd.length ≤ 8
theorem SpG.bools {B : Nat} {W : World} {g : GrS} {p : Option Addr} {c : Nat} (h : SpG B W g p c) : BoolsAt W (.slice p g.nd.length c) g.nd := by
  rcases h with ⟨h1, rfl, rfl⟩ | ⟨nb, rfl, rfl, h1, _, _⟩
  · exact ⟨none, 0, rfl, fun hne => absurd h1 hne⟩
  · exact h1.bools
theorem SpG.keeps {S : Nat → Prop} {B : Nat} {W W' : World} {g : GrS} {p : Option Addr} {c : Nat} (h : SpG B W g p c) (hk : Keeps S W W') (hS : ∀ q, S q → BBlock W q g.nd → q < B) : SpG B W' g p c := by
  rcases h with h | ⟨nb, h1, h2, h3, h4, h5⟩
  · exact .inl h
  · exact .inr ⟨nb, h1, h2, h3.keeps hk (fun hs => by have := hS nb hs h3; omega), h4, h5⟩
theorem SpG.keeps2 {S : Nat → Prop} {B : Nat} {W W' : World} {g : GrS} {p : Option Addr} {c : Nat} (h : SpG B W g p c) (hk : Keeps S W W') (hS : ∀ q, p = some ⟨q, 0, none⟩ → ¬ S q) : SpG B W' g p c := by
  rcases h with h | ⟨nb, h1, h2, h3, h4, h5⟩
  · exact .inl h
  · exact .inr ⟨nb, h1, h2, h3.keeps hk (hS nb h1), h4, h5⟩
theorem SpG.lt {B : Nat} {W : World} {g : GrS} {p : Option Addr} {c : Nat} (h : SpG B W g p c) : ∀ q, p = some ⟨q, 0, none⟩ → B ≤ q ∧ q < W.heap.size := fun q e => by
  rcases h with ⟨_, h1, _⟩ | ⟨nb, h1, h2, h3, h4, h5⟩
  · rw [h1] at e; cases e
  · rw [h1] at e; injection e with e; injection e with e _ _; subst e; exact ⟨h4, h3.lt⟩
theorem SpG.below {B : Nat} {W W' : World} {g : GrS} {p : Option Addr} {c : Nat} (h : SpG B W g p c) (hb : Below W.heap.size W W') : SpG B W' g p c := h.keeps (S := fun _ => False) (Keeps.of_below hb) (fun _ h => h.elim)
theorem SpG.mono {B B' : Nat} {W : World} {g : GrS} {p : Option Addr} {c : Nat} (h : SpG B W g p c) (hB : B' ≤ B) : SpG B' W g p c := by
  rcases h with h | ⟨nb, h1, h2, h3, h4, h5⟩
  · exact .inl h
  · exact .inr ⟨nb, h1, h2, h3, Nat.le_trans hB h4, h5⟩
theorem SpG.len {B : Nat} {W : World} {g : GrS} {p : Option Addr} {c : Nat} (h : SpG B W g p c) : g.nd.length ≤ 8 := by
  rcases h with h | ⟨nb, h1, h2, h3, h4, h5⟩
  · rw [h.1]; simp
  · exact h5
/-- What is answered: the grace, or none. -/
def orNo (E : Int) (g : GrS) : GrS := if E = 0 then g else noG
theorem ansU {B : Nat} {E : Int} {g' : GrS} {w : World} {d a : Int} {on : Bool} {p : Option Addr} {n c : Nat} {x : Int} (h8 : E = 0 → g'.nd.length ≤ 8) (h : AnsG B E g' d a on p n c x w) : d = (orNo E g').done ∧ a = (orNo E g').asked ∧ on = (orNo E g').on ∧ n = (orNo E g').nd.length ∧ x = E ∧ SpG B w (orNo E g') p c := by
  unfold orNo
  rcases h with ⟨h0, rfl, rfl, rfl, rfl, rfl, rfl, rfl⟩ | ⟨h0, rfl, rfl, rfl, rfl, nb, rfl, rfl, rfl, h1, h2⟩
  · rw [if_neg h0]; exact ⟨rfl, rfl, rfl, rfl, rfl, .inl ⟨rfl, rfl, rfl⟩⟩
  · rw [if_pos h0]; exact ⟨rfl, rfl, rfl, rfl, h0.symm, .inr ⟨nb, rfl, rfl, h1, h2, h8 h0⟩⟩
theorem errG_zero {g : GrS} {e : Int} (h : errG g e = 0) : GoodG g ∧ e = 0 := by
  unfold errG at h
  split at h
  · rename_i hm; exact ⟨(goodG_iff g).1 hm, h⟩
  · cases h
theorem askU (g : GrS) (v : Value) (W : World) (hv : BoolsAt W v g.nd) (hl : g.nd.length ≤ 9223372036854775807) (G : GrS) (E : Int) (hE : E = errG g (askE g)) (hG : G = orNo E (askG g)) :
    Calls Try.prog 11 #[.agg #[.int .i64 g.done, .int .i64 g.asked, .bool g.on, v]] W fun e w' => (∃ p c, e = .returned (.tuple #[.agg #[.int .i64 G.done, .int .i64 G.asked, .bool G.on, .slice p G.nd.length c], .int .i64 (if E = 0 then nextG g else 0), .int .i64 E]) ∧ SpG W.heap.size w' G p c) ∧ Below W.heap.size W w' := by
  refine (gAsk_c g v W hv hl).mono ?_
  rintro e w' ⟨⟨d, a, on, p, n, cc, k, x, rfl, hA, hk⟩, hb⟩
  rw [← hE] at hA hk
  obtain ⟨rfl, rfl, rfl, rfl, rfl, hs⟩ := ansU (fun h0 => by rw [hE] at h0; exact (errG_zero h0).1.l8) hA
  rw [hG]
  exact ⟨⟨p, cc, by rw [hk], hs⟩, hb⟩
theorem beginU (g : GrS) (v : Value) (W : World) (hv : BoolsAt W v g.nd) (hl : g.nd.length ≤ 9223372036854775807) (G : GrS) (E : Int) (hE : E = errG g (beginE g)) (hG : G = orNo E (beginG g)) :
    Calls Try.prog 12 #[.agg #[.int .i64 g.done, .int .i64 g.asked, .bool g.on, v]] W fun e w' => (∃ p c, e = .returned (.tuple #[.agg #[.int .i64 G.done, .int .i64 G.asked, .bool G.on, .slice p G.nd.length c], .int .i64 E]) ∧ SpG W.heap.size w' G p c) ∧ Below W.heap.size W w' := by
  refine (gBegin_c g v W hv hl).mono ?_
  rintro e w' ⟨⟨d, a, on, p, n, cc, x, rfl, hA⟩, hb⟩
  rw [← hE] at hA
  obtain ⟨rfl, rfl, rfl, rfl, rfl, hs⟩ := ansU (fun h0 => by rw [hE] at h0; rw [beginG_len]; exact (errG_zero h0).1.l8) hA
  rw [hG]
  exact ⟨⟨p, cc, rfl, hs⟩, hb⟩
theorem reportU (g : GrS) (v : Value) (k : Int) (W : World) (hv : BoolsAt W v g.nd) (hl : g.nd.length ≤ 9223372036854775807) (G : GrS) (E : Int) (hE : E = errG g (reportE g k)) (hG : G = orNo E (reportG g k.toNat)) :
    Calls Try.prog 18 #[.agg #[.int .i64 g.done, .int .i64 g.asked, .bool g.on, v], .int .i64 k] W fun e w' => (∃ p c, e = .returned (.tuple #[.agg #[.int .i64 G.done, .int .i64 G.asked, .bool G.on, .slice p G.nd.length c], .int .i64 E]) ∧ SpG W.heap.size w' G p c) ∧ Below W.heap.size W w' := by
  refine (gReport_c g v k W hv hl).mono ?_
  rintro e w' ⟨⟨d, a, on, p, n, cc, x, rfl, hA⟩, hb⟩
  rw [← hE] at hA
  obtain ⟨rfl, rfl, rfl, rfl, rfl, hs⟩ := ansU (fun h0 => by
    rw [hE] at h0
    obtain ⟨h1, h2⟩ := errG_zero h0
    have ho : g.on = true := by
      unfold reportE at h2
      split at h2
      · cases h2
      · split at h2
        · assumption
        · cases h2
    exact (h1.report k.toNat ho).l8) hA
  rw [hG]
  exact ⟨⟨p, cc, rfl, hs⟩, hb⟩
theorem pickU (g : GrS) (v : Value) (k : Int) (q : Bool) (W : World) (hv : BoolsAt W v g.nd) (hl : g.nd.length ≤ 9223372036854775807) (G : GrS) (E : Int) (hE : E = errG g (pickE g k)) (hG : G = orNo E (pickG g k.toNat q)) :
    Calls Try.prog 19 #[.agg #[.int .i64 g.done, .int .i64 g.asked, .bool g.on, v], .int .i64 k, .bool q] W fun e w' => (∃ p c, e = .returned (.tuple #[.agg #[.int .i64 G.done, .int .i64 G.asked, .bool G.on, .slice p G.nd.length c], .int .i64 E]) ∧ SpG W.heap.size w' G p c) ∧ Below W.heap.size W w' := by
  refine (gPick_c g v k q W hv hl).mono ?_
  rintro e w' ⟨⟨d, a, on, p, n, cc, x, rfl, hA⟩, hb⟩
  rw [← hE] at hA
  obtain ⟨rfl, rfl, rfl, rfl, rfl, hs⟩ := ansU (fun h0 => by rw [hE] at h0; exact ((errG_zero h0).1.pick k.toNat q).l8) hA
  rw [hG]
  exact ⟨⟨p, cc, rfl, hs⟩, hb⟩
theorem spoilU (B : Nat) (g : GrS) (p : Option Addr) (c : Nat) (W : World) (h : SpG B W g p c) :
    Calls Try.prog 17 #[.agg #[.int .i64 g.done, .int .i64 g.asked, .bool g.on, .slice p g.nd.length c]] W fun e w' => e = .returned (.tuple #[]) ∧ Keeps (fun q => B ≤ q ∧ BBlock W q g.nd ∧ p = some ⟨q, 0, none⟩) W w' := by
  rcases h with ⟨h1, rfl, rfl⟩ | ⟨nb, rfl, rfl, h1, h2, h3⟩
  · rw [h1]
    refine (spoil_no g.done g.asked g.on W).mono ?_
    rintro e w' ⟨rfl, hb⟩
    exact ⟨rfl, Keeps.of_below hb⟩
  · refine (spoil_c g.done g.asked g.on nb g.nd g.nd.length rfl h3 W h1).mono ?_
    rintro e w' ⟨rfl, hk⟩
    exact ⟨rfl, hk.sub (fun k _ e => by rw [e]; exact ⟨h2, h1, rfl⟩)⟩
theorem sameR (s : GrS) (v v' : Value) (W : World) (hn : BoolsAt W v s.nd) (hn' : BoolsAt W v' s.nd) (l1 : s.nd.length ≤ 9223372036854775807) :
    Calls Try.prog 16 #[.agg #[.int .i64 s.done, .int .i64 s.asked, .bool s.on, v], .agg #[.int .i64 s.done, .int .i64 s.asked, .bool s.on, v']] W fun e w' => e = .returned (.bool true) ∧ Below W.heap.size W w' := by
  have h := rgsame_c s s v v' W hn hn' l1 l1
  rwa [(gsameB_iff s s).2 rfl] at h
theorem GzAt.keeps {S : Nat → Prop} {W W' : World} {z : Nat} {g : GrS} {p : Option Addr} {c : Nat} (h : GzAt W z g p c) (hk : Keeps S W W') (hz : ¬ S z) (hS : g.nd ≠ [] → ∀ a : Addr, p = some a → ¬ S a.block) : GzAt W' z g p c := by
  refine ⟨h.box.keeps hk hz, ?_⟩
  obtain ⟨q, d, e, hc⟩ := h.row
  refine ⟨q, d, e, fun hne => ?_⟩
  obtain ⟨b, off, rfl, hcs⟩ := hc hne
  injection e with e1 e2 e3
  refine ⟨b, off, rfl, fun i hi => ?_⟩
  have h1 := hcs i hi
  have h2 := hk.block b (World.block_lt_of_cell? W _ h1) (hS hne _ e1)
  simp only [World.cell?] at h1 ⊢
  rw [h2]; exact h1

end Go.Proofs.Ytfnpokddoffplaa
