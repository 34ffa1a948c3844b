/-
  GraceEnds answers true of all graces and numbers, and leaves its arguments as they were.
  Conditions: none.
-/
import Derived.Test.YtfnpokddoffplaaJAH
import Derived.Test.YtfnpokddoffplaaJA9
import Derived.Test.YtfnpokddoffplaaJA1
import Derived.Test.YtfnpokddoffplaaJA8
/-
  The reference of layer 12: Same; none, of the statements.
  Conditions: the ranges of Go's types.
-/
namespace Go.Proofs.Ytfnpokddoffplaa
set_option maxRecDepth 100000
open Go.RowKit Go.Shelf
attribute [local go_sem] Oper.semAt_some

/-- A place of a row of truth values. -/
theorem bools_at {W : World} {p : Option Addr} {n c : Nat} {bs : List Bool} (h : BoolsAt W (.slice p n c) bs) {j : Nat} (hj : j < bs.length) : ∃ b off, p = some ⟨b, off, none⟩ ∧ W.cell? ⟨b, off + j, none⟩ = some (.bool (bs.getD j false)) := by
  obtain ⟨q, cap, e, hc⟩ := h
  injection e with e1 e2 e3
  subst e1
  obtain ⟨b, off, e, hcs⟩ := hc (by intro e; rw [e] at hj; simp at hj)
  exact ⟨b, off, e, by rw [List.getD_eq_getElem?_getD, List.getElem?_eq_getElem hj]; exact hcs j hj⟩
theorem getB_lt {l : List Bool} {k : Nat} (h : k < l.length) : l.getD k false = l[k] := by rw [List.getD_eq_getElem?_getD, List.getElem?_eq_getElem h]; rfl

set_option maxHeartbeats 8000000 in
theorem rgsame_c (s t : GrS) (v v' : Value) (W : World) (hn : BoolsAt W v s.nd) (hn' : BoolsAt W v' t.nd) (l1 : s.nd.length ≤ 9223372036854775807) (l2 : t.nd.length ≤ 9223372036854775807) :
    Calls Try.prog 16 #[.agg #[.int .i64 s.done, .int .i64 s.asked, .bool s.on, v], .agg #[.int .i64 t.done, .int .i64 t.asked, .bool t.on, v']] W fun e w' => e = .returned (.bool (gsameB s t)) ∧ Below W.heap.size W w' := by
  obtain ⟨sd, sa, sw, sn⟩ := s
  obtain ⟨td, ta, tw, tn⟩ := t
  dsimp only at hn hn' l1 l2 ⊢
  have HF := Lib.hid (wSG_facts W sd sa sw v td ta tw v')
  obtain ⟨w0, hw0⟩ : ∃ X, X = wSG W sd sa sw v td ta tw v' := ⟨_, rfl⟩
  rw [← hw0] at HF
  unfold wSG at hw0
  have HV := Lib.hid (And.intro (bools_below hn HF.out.2.2) (bools_below hn' HF.out.2.2))
  obtain ⟨p, c, rfl, -⟩ := hn
  obtain ⟨p', c', rfl, -⟩ := hn'
  obtain ⟨d0, d1, d2, d3⟩ := HF.out.1.cells
  obtain ⟨e0, e1, e2, e3⟩ := HF.out.2.1.cells
  unfold gsameB
  dsimp only
  by_cases h1 : sd = td
  · have q1 : (sd != td) = false := by rw [bne_eq_false_iff_eq]; exact h1
    rw [decide_eq_true h1, Bool.true_and]
    clear h1
    by_cases h2 : sa = ta
    · have q2 : (sa != ta) = false := by rw [bne_eq_false_iff_eq]; exact h2
      rw [decide_eq_true h2, Bool.true_and]
      clear h2
      by_cases h3 : sw = tw
      · rw [decide_eq_true h3, Bool.true_and]
        subst h3
        by_cases hl : sn.length = tn.length
        · have q4 : ((sn.length : Int) != (tn.length : Int)) = false := by rw [hl]; simp
          have HL := Lib.hid hl
          clear hl
          obtain ⟨R, hR⟩ : ∃ R, R = decide (sn = tn) := ⟨_, rfl⟩
          rw [← hR]
          have HR := Lib.hid hR
          clear hR
          go_enter Try.func16, Try.ntmps16
          go_wp2_with fail
          rw [← hw0]
          clear hw0 d0 d1 d2 d3 e0 e1 e2 e3 q1 q2 q4
          go_loopw [38] (fun iv wr => ∃ k : Nat, k ≤ sn.length ∧ iv = .int .i64 (k : Int) ∧ Hid (sn.take k = tn.take k) ∧ Hid (Below w0.heap.size w0 wr)) (fun iv _ => sn.length - (intOf iv).toNat)
          case atStart => exact ⟨0, Nat.zero_le _, rfl, Lib.hid (by simp), Lib.hid (Below.refl _ _)⟩
          case round =>
            obtain ⟨k, hk, rfl, HE, HB⟩ := hrel
            by_cases hlt : k < sn.length
            · have hlt2 : k < tn.length := by have := HL.out; omega
              obtain ⟨b, off, rfl, a1⟩ := bools_at (bools_below HV.out.1 HB.out) hlt
              obtain ⟨b2, off2, rfl, a2⟩ := bools_at (bools_below HV.out.2 HB.out) hlt2
              obtain ⟨x, hx⟩ : ∃ x, x = sn.getD k false := ⟨_, rfl⟩
              obtain ⟨y, hy⟩ : ∃ y, y = tn.getD k false := ⟨_, rfl⟩
              rw [← hx] at a1
              rw [← hy] at a2
              have HX := Lib.hid (show x = sn[k] ∧ y = tn[k] by rw [hx, hy, getB_lt hlt, getB_lt hlt2]; exact ⟨rfl, rfl⟩)
              have hk0 : (0 : Int) ≤ (k : Int) := by omega
              have hkx : (k : Int) < (sn.length : Int) := by omega
              have hky : (k : Int) < (tn.length : Int) := by omega
              obtain ⟨e0, e1, e2, e3⟩ := (HF.out.2.1.below HB.out).cells
              clear hx hy
              by_cases he : x = y
              · have hq2 : (!(x == y)) = false := by rw [he]; simp
                have HE2 := Lib.hid (show sn.take (k + 1) = tn.take (k + 1) by rw [List.take_succ_eq_append_getElem hlt, List.take_succ_eq_append_getElem hlt2, HE.out, ← HX.out.1, ← HX.out.2, he])
                clear he
                go_wp2
                go_roundw
                case rel => exact ⟨k + 1, by omega, rfl, HE2, HB⟩
                case measure => first | omega | (simp [intOf]; omega)
              · have hq2 : (!(x == y)) = true := by simpa using he
                have hne : decide (sn = tn) = false := decide_eq_false (fun e => he (by rw [HX.out.1, HX.out.2]; simp only [e]))
                have HN := Lib.hid hne
                clear he hne
                go_wp2
                go_ret
                exact ⟨ret_bool (HN.out.symm.trans HR.out.symm), HF.out.2.2.trans (HB.out.mono HF.out.2.2.size)⟩
            · have hye : decide (sn = tn) = true := decide_eq_true (by
                have h := HE.out
                rwa [List.take_of_length_le (by omega), List.take_of_length_le (by have := HL.out; omega)] at h)
              have HN := Lib.hid hye
              clear hye
              go_wp2
              go_ret
              exact ⟨ret_bool (HN.out.symm.trans HR.out.symm), HF.out.2.2.trans (HB.out.mono HF.out.2.2.size)⟩
        · have q4 : ((sn.length : Int) != (tn.length : Int)) = true := by rw [bne_iff_ne]; omega
          rw [decide_eq_false (fun e => hl (by rw [e]))]
          clear hl
          go_enter Try.func16, Try.ntmps16
          go_wp2
          rw [← hw0]
          go_ret
          exact ⟨rfl, HF.out.2.2⟩
      · rw [decide_eq_false h3, Bool.false_and]
        obtain ⟨rfl, rfl⟩ | ⟨rfl, rfl⟩ : (sw = true ∧ tw = false) ∨ (sw = false ∧ tw = true) := by cases sw <;> cases tw <;> simp_all
        all_goals
          clear h3
          go_enter Try.func16, Try.ntmps16
          go_wp2
          rw [← hw0]
          go_ret
          exact ⟨rfl, HF.out.2.2⟩
    · have q2 : (sa != ta) = true := by rw [bne_iff_ne]; exact h2
      rw [decide_eq_false h2, Bool.false_and]
      clear h2
      go_enter Try.func16, Try.ntmps16
      go_wp2
      rw [← hw0]
      go_ret
      exact ⟨rfl, HF.out.2.2⟩
  · have q1 : (sd != td) = true := by rw [bne_iff_ne]; exact h1
    rw [decide_eq_false h1, Bool.false_and]
    clear h1
    go_enter Try.func16, Try.ntmps16
    go_wp2
    rw [← hw0]
    go_ret
    exact ⟨rfl, HF.out.2.2⟩

/-- The grace that says nothing. -/
def noG : GrS := ⟨0, 0, false, []⟩
theorem noG_at (W : World) : BoolsAt W (.slice none 0 0) noG.nd := ⟨none, 0, rfl, fun h => absurd rfl h⟩
set_option maxHeartbeats 4000000 in
theorem none_c (W : World) : Calls Try.prog 34 #[.agg #[.int .i64 0, .int .i64 0, .bool false, .slice none 0 0]] W fun e w' => e = .returned (.bool true) ∧ Below W.heap.size W w' := by
  obtain ⟨w0, hw0⟩ : ∃ X : World, X = W.alloc (.cells #[.int .i64 0, .int .i64 0, .bool false, .slice none 0 0] 24) := ⟨_, rfl⟩
  have HB := Lib.hid (show GBox w0 W.heap.size 0 0 false (.slice none 0 0) ∧ Below W.heap.size W w0 by rw [hw0]; exact ⟨GBox.new _ _ _ _ _, below1 _ _⟩)
  have HC := Lib.hid (show Calls Try.prog 16 #[.agg #[.int .i64 0, .int .i64 0, .bool false, .slice none 0 0], .agg #[.int .i64 0, .int .i64 0, .bool false, .slice none 0 0]] w0 fun e w' => e = .returned (.bool true) ∧ Below w0.heap.size w0 w' from rgsame_c noG noG (.slice none 0 0) (.slice none 0 0) w0 (noG_at _) (noG_at _) (by decide) (by decide))
  obtain ⟨d0, d1, d2, d3⟩ := HB.out.1.cells
  go_enter Try.func34, Try.ntmps34
  go_wp2_with fail
  rw [← hw0]
  clear hw0
  (with_reducible refine HC.out.mono ?_)
  rintro e w1 ⟨rfl, hb1⟩
  have HB1 := Lib.hid (below_then HB.out.2 HB.out.2.size hb1)
  go_wp2
  go_ret
  exact ⟨rfl, HB1.out⟩

end Go.Proofs.Ytfnpokddoffplaa
/-
  GraceEnds, called with any grace and number: it answers true.
  Conditions: the ranges of Go's types.
-/
namespace Go.Proofs.Ytfnpokddoffplaa
set_option maxRecDepth 100000
open Go.RowKit Go.Shelf
attribute [local go_sem] Oper.semAt_some

/-- How many rounds of picks are left. -/
def leftG (g : GrS) : Int := 2 * (g.asked - g.done) - (if g.on = true then 1 else 0)
theorem GoodG.left {g : GrS} (h : GoodG g) : 0 ≤ leftG g ∧ (leftG g = 0 → g.done = g.asked) := by
  unfold leftG
  cases ho : g.on with
  | true => have := h.on1 ho; simp only [if_true]; omega
  | false => have := h.on0 ho; simp only [Bool.false_eq_true, if_false]; omega
/-- Inside a round of picks. -/
structure EndI (A : Int) (n f r j : Nat) (g : GrS) : Prop where
  good : GoodG g
  len : g.nd.length = n
  ask : g.asked = A
  le : leftG g ≤ (r : Int)
  lt : leftG g < (r : Int) ∨ j = 0 ∨ (g.on = true ∧ ∀ i, i < j → ndB g ((i + f) % n) = false)
theorem report_last {g : GrS} {i : Nat} (h : lastB g.nd i = true) : reportG g i = ⟨g.done + 1, g.asked, false, g.nd.set i false⟩ := by unfold reportG; rw [if_pos h]
theorem report_not {g : GrS} {i : Nat} (h : ¬ lastB g.nd i = true) : reportG g i = ⟨g.done, g.asked, g.on, g.nd.set i false⟩ := by unfold reportG; rw [if_neg h]
theorem EndI.step {A : Int} {n f r j : Nat} {g : GrS} (h : EndI A n f (r + 1) j g) : EndI A n f (r + 1) (j + 1) (pickG g ((j + f) % n) true) := by
  have hn : 0 < n := by have := h.good.l1; have := h.len; omega
  have hk : (j + f) % n < n := Nat.mod_lt _ hn
  refine ⟨h.good.pick _ _, by rw [pickG_len]; exact h.len, by rw [(pick_bound _ _ _).2.2]; exact h.ask, ?_, ?_⟩
  · have := h.le
    by_cases ho : g.on = true
    · rw [pick_yes ho]
      by_cases hl : lastB g.nd ((j + f) % n) = true
      · rw [report_last hl]; unfold leftG at *; simp [ho] at this ⊢; omega
      · rw [report_not hl]; unfold leftG at *; exact this
    · unfold pickG
      rw [if_neg ho]
      split
      · unfold leftG beginG at *; simp [ho] at this ⊢; omega
      · exact this
  · have hle := h.le
    by_cases ho : g.on = true
    · rw [pick_yes ho]
      by_cases hl : lastB g.nd ((j + f) % n) = true
      · rw [report_last hl]; left; unfold leftG at *; simp [ho] at hle ⊢; omega
      · rw [report_not hl]
        rcases h.lt with h1 | h1 | h1
        · left; exact h1
        · right; right
          refine ⟨ho, fun i hi => ?_⟩
          obtain rfl : i = j := by omega
          unfold ndB; simp only
          rw [getB_set, if_pos ⟨rfl, by rw [h.len]; exact hk⟩]
        · right; right
          refine ⟨ho, fun i hi => ?_⟩
          unfold ndB; simp only
          rw [getB_set]
          split
          · rfl
          · rename_i hne
            by_cases e : i = j
            · subst e; exact absurd ⟨rfl, by rw [h.len]; exact hk⟩ hne
            · exact h1.2 i (by omega)
    · left
      unfold pickG
      rw [if_neg ho]
      have h0 := h.good.on0 (by simpa using ho)
      split
      · unfold leftG beginG at *; simp [ho] at hle ⊢; omega
      · unfold leftG at *; simp [ho] at hle ⊢; omega
theorem EndI.round {A : Int} {n f r : Nat} {g : GrS} (h : EndI A n f (r + 1) n g) : EndI A n f r 0 g := by
  have hn : 0 < n := by have := h.good.l1; have := h.len; omega
  refine ⟨h.good, h.len, h.ask, ?_, .inr (.inl rfl)⟩
  rcases h.lt with h1 | h1 | h1
  · omega
  · omega
  · exfalso
    obtain ⟨q, hq, hb⟩ := (h.good.on1 h1.1).1
    rw [h.len] at hq
    have := h1.2 ((q + n - f % n) % n) (Nat.mod_lt _ hn)
    have e : ((q + n - f % n) % n + f) % n = q := by
      have hf : f % n < n := Nat.mod_lt _ hn
      rw [Nat.add_mod, Nat.mod_mod, ← Nat.add_mod]
      have : (q + n - f % n + f) = q + n * (1 + f / n) := by
        have := Nat.div_add_mod f n
        rw [Nat.mul_add, Nat.mul_one]; omega
      rw [this, Nat.add_mul_mod_self_left, Nat.mod_eq_of_lt hq]
    rw [e, hb] at this
    cases this
theorem EndI.start {g : GrS} (h : GoodG g) (he : askE g = 0) (f : Nat) : EndI (nextG g) g.nd.length f (if g.on = true then 5 else 3) 0 (askG g) := by
  refine ⟨h.ask he, rfl, rfl, ?_, .inr (.inl rfl)⟩
  unfold leftG askG nextG
  cases ho : g.on with
  | true => simp; omega
  | false => simp; omega
theorem EndI.over {A : Int} {n f : Nat} {g : GrS} (h : EndI A n f 0 0 g) (hA : 1 ≤ A) : overB g A = true ∧ g.done = A := by
  have h1 := h.good.left
  have h2 := h.le
  have h3 := h1.2 (by omega)
  have h4 := h.ask
  refine ⟨?_, by omega⟩
  unfold overB
  rw [(goodG_iff g).2 h.good]
  simp
  omega
theorem askT (g : GrS) (v : Value) (hg : GoodG g) (he : askE g = 0) (W : World) (hv : BoolsAt W v g.nd) :
    Calls Try.prog 11 #[.agg #[.int .i64 g.done, .int .i64 g.asked, .bool g.on, v]] W fun e w' => (∃ nb, e = .returned (.tuple #[.agg #[.int .i64 (askG g).done, .int .i64 (askG g).asked, .bool (askG g).on, .slice (some ⟨nb, 0, none⟩) (askG g).nd.length (askG g).nd.length], .int .i64 (nextG g), .int .i64 0]) ∧ BBlock w' nb (askG g).nd ∧ W.heap.size ≤ nb) ∧ Below W.heap.size W w' := by
  refine (gAsk_c g v W hv hg.lmax).mono ?_
  rintro e w' ⟨⟨d, a, on, p, n, cc, k, x, rfl, hA, hk⟩, hb⟩
  have hE : errG g (askE g) = 0 := by rw [errG_good hg]; exact he
  rw [hE] at hA hk
  rw [if_pos rfl] at hk
  rcases hA with h | ⟨_, rfl, rfl, rfl, rfl, nb, rfl, rfl, rfl, h1, h2⟩
  · exact absurd rfl h.1
  · exact ⟨⟨nb, by rw [hk], h1, h2⟩, hb⟩
theorem askN (g : GrS) (v : Value) (hl : g.nd.length ≤ 9223372036854775807) (he : errG g (askE g) ≠ 0) (W : World) (hv : BoolsAt W v g.nd) :
    Calls Try.prog 11 #[.agg #[.int .i64 g.done, .int .i64 g.asked, .bool g.on, v]] W fun e w' => e = .returned (.tuple #[.agg #[.int .i64 0, .int .i64 0, .bool false, .slice none 0 0], .int .i64 0, .int .i64 (errG g (askE g))]) ∧ Below W.heap.size W w' := by
  refine (gAsk_c g v W hv hl).mono ?_
  rintro e w' ⟨⟨d, a, on, p, n, cc, k, x, rfl, hA, hk⟩, hb⟩
  rw [if_neg he] at hk
  rcases hA with ⟨_, rfl, rfl, rfl, rfl, rfl, rfl, rfl⟩ | h
  · exact ⟨by rw [hk], hb⟩
  · exact absurd h.1 he
theorem wrap_i64 (x : Int) : wrap64 x = IntKind.i64.wrap x := by
  unfold wrap64
  simp only [IntKind.wrap, IntKind.signed, IntKind.bits]
  simp
  try omega
theorem first8 (p : Int) : ∃ r : Nat, r < 8 ∧ wrap64 ((IntKind.u64.wrap p).tmod 8) = (r : Int) := pick8 p (n := 8) (by omega) (by omega)

set_option maxHeartbeats 16000000 in
theorem graceEnds_c (d0 a0 : Int) (on0 : Bool) (v : Value) (xs : List Bool) (more : Int) (W : World) (h0 : ArgR W v (xs.map Value.bool)) (hx : xs.length ≤ 9223372036854775807) :
    Calls Try.prog 6 #[.agg #[.int .i64 d0, .int .i64 a0, .bool on0, v], .int .i64 more] W fun e w' => e = .returned (.bool true) ∧ Below W.heap.size W w' := by
  obtain ⟨g, hg⟩ : ∃ g : GrS, g = ⟨d0, a0, on0, xs.take 10⟩ := ⟨_, rfl⟩
  have HG := Lib.hid hg
  have hxl : g.nd.length ≤ 9223372036854775807 := by rw [hg, List.length_take]; omega
  obtain ⟨p0, n0, c0, rfl, hn0, hp0⟩ := id h0
  obtain ⟨wa, hwa⟩ : ∃ X : World, X = W.alloc (.cells #[.int .i64 d0, .int .i64 a0, .bool on0, .slice p0 n0 c0] 24) := ⟨_, rfl⟩
  have hba : Below W.heap.size W wa := by rw [hwa]; exact below1 _ _
  have HB0 := Lib.hid (show GBox wa W.heap.size d0 a0 on0 (.slice p0 n0 c0) ∧ ArgR wa (.slice p0 n0 c0) (xs.map Value.bool) ∧ Below W.heap.size W wa from ⟨by rw [hwa]; exact GBox.new _ _ _ _ _, h0.below hba, hba⟩)
  have HWK := Lib.hid (wakes_c wa)
  have HX := Lib.hid hx
  have HXL := Lib.hid hxl
  clear hg hxl hn0 hp0 h0 hba hx
  go_enter Try.func6, Try.ntmps6
  go_wp2_with fail
  rw [← hwa]
  clear hwa
  (with_reducible refine HWK.out.mono ?_)
  rintro e w1 ⟨rfl, hb1⟩
  have g1 := HB0.out.1.below hb1
  have HB1 := Lib.hid (below_then HB0.out.2.2 HB0.out.2.2.size hb1)
  have HOW := Lib.hid (show Calls Try.prog 9 #[.agg #[.int .i64 d0, .int .i64 a0, .bool on0, .slice p0 n0 c0]] w1 fun e w' => GivesG w1.heap.size g e w' ∧ Below w1.heap.size w1 w' by
    have h := own12_c d0 a0 on0 (.slice p0 n0 c0) xs w1 (HB0.out.2.1.below hb1) HX.out
    rwa [← HG.out] at h)
  obtain ⟨k0, k1, k2, k3⟩ := g1.cells
  clear hb1 HB0 HWK g1
  go_upto_region 3 with fail
  go_wp2_with fail
  (with_reducible refine HOW.out.mono ?_)
  rintro e w2 ⟨⟨p, c, rfl, ho⟩, hb2⟩
  clear k0 k1 k2 k3 HOW HG HX
  obtain ⟨wb, hwb⟩ : ∃ X : World, X = w2.alloc (.cells #[.int .i64 g.done, .int .i64 g.asked, .bool g.on, .slice p g.nd.length c] 24) := ⟨_, rfl⟩
  obtain ⟨z, hz⟩ : ∃ z, z = w2.heap.size := ⟨_, rfl⟩
  have hb3 : Below w2.heap.size w2 wb := by rw [hwb]; exact below1 _ _
  have HZ := Lib.hid (show GzAt wb z g p c by rw [hwb, hz]; exact GzAt.new _ _ _ _ (bools_of_owns rfl ho))
  have HBB := Lib.hid (below_then (below_then HB1.out HB1.out.size hb2) (below_then HB1.out HB1.out.size hb2).size hb3)
  have HWB := Lib.hid (And.intro hwb hz)
  obtain ⟨d0', d1, d2, d3⟩ := HZ.out.box.cells
  clear hb2 hb3 ho hwb hz HB1
  by_cases he : errG g (askE g) = 0
  · have hm : mayG g = true := by
      unfold errG at he
      split at he
      · assumption
      · cases he
    have HGD := Lib.hid ((goodG_iff g).1 hm)
    have HAE := Lib.hid (show askE g = 0 by rw [errG_good HGD.out] at he; exact he)
    obtain ⟨f, hf, hfe⟩ := first8 more
    obtain ⟨ga, hga⟩ : ∃ ga, ga = askG g := ⟨_, rfl⟩
    obtain ⟨N, hN⟩ : ∃ N, N = nextG g := ⟨_, rfl⟩
    have HN1 := Lib.hid (show 1 ≤ N by rw [hN]; have := HGD.out.next; have := HGD.out.d0; omega)
    have HC := Lib.hid (askT g _ HGD.out HAE.out wb HZ.out.row)
    rw [← hga, ← hN] at HC
    clear hm he
    go_upto_region 4 with fail
    rw [← HWB.out.1, ← HWB.out.2]
    clear HWB
    go_wp2_with fail
    (with_reducible refine HC.out.mono ?_)
    rintro e w5 ⟨⟨nb, rfl, hB, hnb⟩, hb5⟩
    obtain ⟨w6, za, hw6, hza, ha, hb6⟩ := box_out hB
    have HZ6 := Lib.hid ((HZ.out.below hb5).below hb6)
    have HB6 := Lib.hid (below_then (below_then HBB.out HBB.out.size hb5) (below_then HBB.out HBB.out.size hb5).size hb6)
    have HZA := Lib.hid (show W.heap.size ≤ za by rw [hza]; exact (below_then HBB.out HBB.out.size hb5).size)
    have HW6 := Lib.hid (And.intro hw6 hza)
    have HZAX := Lib.hid ha
    clear d0' d1 d2 d3
    obtain ⟨d0', d1, d2, d3⟩ := HZ6.out.box.cells
    clear hb5 hb6 hw6 hza ha hB hnb HC HZ HBB
    cases hon : g.on with
    | true =>
      have HS := Lib.hid (show EndI N g.nd.length f 5 0 ga by
        have h := EndI.start HGD.out HAE.out f
        rw [hon] at h
        rw [hga, hN]
        exact h)
      rw [hon] at d2
      clear hon hga hN
      go_upto_region 5 with fail
      rw [← HW6.out.1, ← HW6.out.2]
      go_upto_region 11 with fail
      rw [hfe]
      clear HW6 hfe d0' d1 d2 d3 HZ6
      go_wp2_with fail
      go_loopw [33] (fun iv wx => ∃ (k : Nat) (a : GrS) (p : Option Addr) (c : Nat), k ≤ 5 ∧ iv = .int .i64 (k : Int) ∧ Hid (GzAt wx za a p c) ∧ Hid (EndI N g.nd.length f (5 - k) 0 a) ∧ Hid (Below W.heap.size W wx)) (fun iv _ => 5 - (intOf iv).toNat)
      case atStart => exact ⟨0, ga, _, _, Nat.zero_le _, rfl, HZAX, HS, HB6⟩
      case round =>
        obtain ⟨k, a, p, c, hk, rfl, HA, HE, HBR⟩ := hrel
        clear HS HB6 HZAX
        by_cases hkr : k < 5
        · have hdk : decide ((k : Int) < 5) = true := decide_eq_true (by omega)
          obtain ⟨f0, f1, f2, f3⟩ := HA.out.box.cells
          have hal : a.nd.length = g.nd.length := HE.out.len
          obtain ⟨r, hr⟩ : ∃ r, r + 1 = 5 - k := ⟨5 - k - 1, by omega⟩
          rw [hal] at f3
          have HR := Lib.hid hr
          rw [← hr] at HE
          clear hr hal
          go_wp2_with fail
          go_loopw [38] (fun iv wx => ∃ (j : Nat) (a : GrS) (p : Option Addr) (c : Nat), j ≤ g.nd.length ∧ iv = .int .i64 (j : Int) ∧ Hid (GzAt wx za a p c) ∧ Hid (EndI N g.nd.length f (r + 1) j a) ∧ Hid (Below W.heap.size W wx)) (fun iv _ => g.nd.length - (intOf iv).toNat)
          case atStart => exact ⟨0, a, p, c, Nat.zero_le _, rfl, HA, HE, HBR⟩
          case round =>
            clear f0 f1 f2 f3 HA HE HBR
            obtain ⟨j, b, q, c', hj, rfl, HA, HE, HBR⟩ := hrel
            by_cases hjn : j < g.nd.length
            · obtain ⟨f0, f1, f2, f3⟩ := HA.out.box.cells
              have m0 := HA.out.box.marks 0
              have m1 := HA.out.box.marks 1
              have m2 := HA.out.box.marks 2
              have m3 := HA.out.box.marks 3
              have hbl : b.nd.length = g.nd.length := HE.out.len
              obtain ⟨i, hi⟩ : ∃ i, i = (j + f) % g.nd.length := ⟨_, rfl⟩
              have hil : i < g.nd.length := by rw [hi]; exact Nat.mod_lt _ (by omega)
              obtain ⟨b', hb'⟩ : ∃ b', b' = pickG b i true := ⟨_, rfl⟩
              have HP := Lib.hid (fun (Z : World) (hZ : Below wr.heap.size wr Z) => pickOk b b' (.slice q b.nd.length c') i true hb' HE.out.good (by rw [hbl]; exact hil) Z (bools_below HA.out.row hZ))
              have hE2 := HE.out.step
              rw [← hi, ← hb'] at hE2
              have HE2 := Lib.hid hE2
              have hadd : wrap64 ((j : Int) + (f : Int)) = (j : Int) + (f : Int) := by have := HGD.out.l8; unfold wrap64; omega
              have hadd2 : IntKind.i64.wrap ((j : Int) + (f : Int)) = (j : Int) + (f : Int) := by rw [← wrap_i64]; exact hadd
              have hmod : Int.tmod ((j : Int) + (f : Int)) (g.nd.length : Int) = (i : Int) := by rw [hi]; rfl
              have hwi : IntKind.i64.wrap (i : Int) = (i : Int) := by rw [← wrap_i64]; have := HGD.out.l8; unfold wrap64; omega
              have hnz : ((g.nd.length : Int) == 0) = false := by rw [beq_eq_false_iff_ne]; omega
              have hnz1 : ¬ g.nd = [] := fun e => by rw [e] at hjn; cases hjn
              have hnz2 : ¬ (g.nd.length : Int) = 0 := by omega
              rw [hbl] at f3 HP
              have HBL := Lib.hid (show b'.nd.length = g.nd.length from HE2.out.len)
              clear hE2 hi hil hb' hbl
              go_upto_region 16 with fail
              have HSB := Lib.hid (show GBox wr za b.done b.asked b.on (.slice q g.nd.length c') by have := HA.out.box; rwa [HE.out.len] at this)
              refine wpTwo_begin (T := fun _ => True) (S := fun w' => GBox w' za b.done b.asked b.on (.slice q g.nd.length c')) (late := fun j => [12].contains j) (by kernel_rfl) ?_
              obtain ⟨X0, hX0⟩ : ∃ X : World, X = wr.drew := ⟨_, rfl⟩
              rw [← hX0]
              have hbx : Below wr.heap.size wr X0 := by rw [hX0]; exact (Below.refl _ _).drew
              have hS0 := HSB.out.below hbx
              have HP4 := Lib.hid (HP.out X0 hbx)
              have HBX := Lib.hid hbx
              clear hX0 hbx HP
              refine wpTwo_takeS (i := 0) (v := .agg #[.int .i64 b.done, .int .i64 b.asked, .bool b.on, .slice q g.nd.length c']) (waits_all (by kernel_rfl)) rfl (by kernel_rfl) (by kernel_rfl) (by kernel_rfl) (fun _ _ _ h => h) ⟨by rfl, ?_⟩ ⟨trivial, hS0⟩ ?_
              · rintro w hTw
                obtain ⟨t0, t1, t2, t3⟩ := GBox.cells hTw.2
                go_simp
              (try simp only [Act.put, List.getElem_toArray, List.getElem_cons_zero, List.setIfInBounds_toArray, List.set_cons_succ, List.set_cons_zero])
              refine wpTwo_takeT (i := 1) (v := .int .i64 (j : Int)) rfl (by kernel_rfl) (by kernel_rfl) (by kernel_rfl) (fun _ _ _ h => h) ⟨by rfl, ?_⟩ trivial ?_
              · rintro w hTw
                go_simp
              (try simp only [Act.put, List.getElem_toArray, List.getElem_cons_succ, List.getElem_cons_zero, List.setIfInBounds_toArray, List.set_cons_succ, List.set_cons_zero])
              refine wpTwo_takeT (i := 2) (v := .int .i64 (f : Int)) rfl (by kernel_rfl) (by kernel_rfl) (by kernel_rfl) (fun _ _ _ h => h) ⟨by rfl, ?_⟩ trivial ?_
              · rintro w hTw
                go_simp
              (try simp only [Act.put, List.getElem_toArray, List.getElem_cons_succ, List.getElem_cons_zero, List.setIfInBounds_toArray, List.set_cons_succ, List.set_cons_zero])
              refine wpTwo_takeT (i := 3) (v := .int .i64 ((j : Int) + (f : Int))) rfl (by kernel_rfl) (by kernel_rfl) (by kernel_rfl) (fun _ _ _ h => h) ⟨by rfl, ?_⟩ trivial ?_
              · rintro w hTw
                go_simp
              (try simp only [Act.put, List.getElem_toArray, List.getElem_cons_succ, List.getElem_cons_zero, List.setIfInBounds_toArray, List.set_cons_succ, List.set_cons_zero])
              refine wpTwo_takeT (i := 4) (v := .pointer (some ⟨za, 3, none⟩)) rfl (by kernel_rfl) (by kernel_rfl) (by kernel_rfl) (fun _ _ _ h => h) ⟨by rfl, ?_⟩ trivial ?_
              · rintro w hTw
                go_simp
              (try simp only [Act.put, List.getElem_toArray, List.getElem_cons_succ, List.getElem_cons_zero, List.setIfInBounds_toArray, List.set_cons_succ, List.set_cons_zero])
              refine wpTwo_takeS (i := 5) (v := .slice q g.nd.length c') (waits_all (by kernel_rfl)) rfl (by kernel_rfl) (by kernel_rfl) (by kernel_rfl) (fun _ _ _ h => h) ⟨by rfl, ?_⟩ ⟨trivial, hS0⟩ ?_
              · rintro w hTw
                obtain ⟨t0, t1, t2, t3⟩ := GBox.cells hTw.2
                go_simp
              (try simp only [Act.put, List.getElem_toArray, List.getElem_cons_succ, List.getElem_cons_zero, List.setIfInBounds_toArray, List.set_cons_succ, List.set_cons_zero])
              refine wpTwo_takeT (i := 6) (v := .int .i64 (g.nd.length : Int)) rfl (by kernel_rfl) (by kernel_rfl) (by kernel_rfl) (fun _ _ _ h => h) ⟨by rfl, ?_⟩ trivial ?_
              · rintro w hTw
                go_simp
              (try simp only [Act.put, List.getElem_toArray, List.getElem_cons_succ, List.getElem_cons_zero, List.setIfInBounds_toArray, List.set_cons_succ, List.set_cons_zero])
              refine wpTwo_takeT (i := 7) (v := .int .i64 (i : Int)) rfl (by kernel_rfl) (by kernel_rfl) (by kernel_rfl) (fun _ _ _ h => h) ⟨by rfl, ?_⟩ trivial ?_
              · rintro w hTw
                go_simp
              (try simp only [Act.put, List.getElem_toArray, List.getElem_cons_succ, List.getElem_cons_zero, List.setIfInBounds_toArray, List.set_cons_succ, List.set_cons_zero])
              refine wpTwo_ready (rs := [8]) (by kernel_rfl) (by simp) ?_
              refine (AllTwo.cons rfl (fun K hK => ?_) AllTwo.nil)
              go_simp
              (with_reducible refine HP4.out.mono ?_)
              rintro e w4 ⟨⟨nb4, rfl, hB, hnb⟩, hb4⟩
              have hS4 := hS0.below hb4
              go_wp2_with fail
              refine hK.out _ _ ⟨trivial, fun _ _ => hS4⟩ ?_
              clear hK K hS0
              (try simp only [Act.put, List.getElem_toArray, List.getElem_cons_succ, List.getElem_cons_zero, List.setIfInBounds_toArray, List.set_cons_succ, List.set_cons_zero])
              refine wpTwo_takeT (i := 9) (v := .tuple #[.agg #[.int .i64 b'.done, .int .i64 b'.asked, .bool b'.on, .slice (some ⟨nb4, 0, none⟩) b'.nd.length b'.nd.length], .int .i64 0]) rfl (by kernel_rfl) (by kernel_rfl) (by kernel_rfl) (fun _ _ _ h => h) ⟨by rfl, ?_⟩ trivial ?_
              · rintro w hTw
                go_simp
              (try simp only [Act.put, List.getElem_toArray, List.getElem_cons_succ, List.getElem_cons_zero, List.setIfInBounds_toArray, List.set_cons_succ, List.set_cons_zero])
              refine wpTwo_takeT (i := 10) (v := .agg #[.int .i64 b'.done, .int .i64 b'.asked, .bool b'.on, .slice (some ⟨nb4, 0, none⟩) b'.nd.length b'.nd.length]) rfl (by kernel_rfl) (by kernel_rfl) (by kernel_rfl) (fun _ _ _ h => h) ⟨by rfl, ?_⟩ trivial ?_
              · rintro w hTw
                go_simp
              (try simp only [Act.put, List.getElem_toArray, List.getElem_cons_succ, List.getElem_cons_zero, List.setIfInBounds_toArray, List.set_cons_succ, List.set_cons_zero])
              refine wpTwo_takeT (i := 11) (v := .int .i64 0) rfl (by kernel_rfl) (by kernel_rfl) (by kernel_rfl) (fun _ _ _ h => h) ⟨by rfl, ?_⟩ trivial ?_
              · rintro w hTw
                go_simp
              (try simp only [Act.put, List.getElem_toArray, List.getElem_cons_succ, List.getElem_cons_zero, List.setIfInBounds_toArray, List.set_cons_succ, List.set_cons_zero])
              have hbw : Below wr.heap.size wr w4 := below_then HBX.out HBX.out.size hb4
              have g4 := HA.out.box.below hbw
              clear m0 m1 m2 m3 f0 f1 f2 f3
              have m0 := g4.marks 0
              have m1 := g4.marks 1
              have m2 := g4.marks 2
              have m3 := g4.marks 3
              obtain ⟨f0, f1, f2, f3⟩ := g4.cells
              have HB4 := Lib.hid (And.intro hB (show nb4 ≠ za from ne_bool g4 (by decide) hB))
              have HPUT := Lib.hid (g4.put b'.done b'.asked b'.on (.slice (some ⟨nb4, 0, none⟩) b'.nd.length b'.nd.length))
              have HK := Lib.hid (GBox.putK w4 za b'.done b'.asked b'.on (.slice (some ⟨nb4, 0, none⟩) b'.nd.length b'.nd.length))
              have hn8 : g.nd.length ≤ 8 := HGD.out.l8
              have HBW := Lib.hid (below_then HBR.out HBR.out.size hbw)
              clear hbw g4 hB hnb hb4 HP4 HA HE HBR hadd hadd2 hmod hwi hnz hnz1 hnz2 hS4 HSB HBX
              refine wpTwo_ready (rs := [12]) (by kernel_rfl) (by simp) ?_
              refine (AllTwo.cons rfl (fun K hK => ?_) AllTwo.nil)
              go_simp
              refine hK.out _ _ ⟨trivial, fun h => by cases h⟩ ?_
              clear hK K
              (try simp only [Act.put])
              refine wpTwo_takeT (i := 13) (v := .int .i64 0) rfl (by kernel_rfl) (by kernel_rfl) (by kernel_rfl) (fun _ _ _ h => h) ⟨by rfl, ?_⟩ trivial ?_
              · rintro w hTw
                go_simp
              (try simp only [Act.put, List.getElem_toArray, List.getElem_cons_succ, List.getElem_cons_zero, List.setIfInBounds_toArray, List.set_cons_succ, List.set_cons_zero])
              refine wpTwo_end (by kernel_rfl) ?_ _
              go_wp2
              go_roundw
              case rel => exact ⟨j + 1, b', some ⟨nb4, 0, none⟩, b'.nd.length, by omega, by go_num, Lib.hid ⟨HPUT.out, (HB4.out.1.keeps HK.out (fun e => HB4.out.2 e)).bools⟩, HE2, Lib.hid (HBW.out.trans (HK.out.below HBW.out.size (fun q e => by have := HZA.out; omega)))⟩
              case measure => simp [intOf]; omega
            · obtain rfl : j = g.nd.length := by omega
              have HE3 := Lib.hid HE.out.round
              clear HE
              go_wp2
              go_roundw
              case rel => exact ⟨k + 1, b, q, c', by omega, by go_num, HA, Lib.hid (by have := HE3.out; rwa [show r = 5 - (k + 1) by have := HR.out; omega] at this), HBR⟩
              case measure => simp [intOf]; omega
        · obtain rfl : k = 5 := by omega
          have hov := EndI.over (show EndI N g.nd.length f 0 0 a from HE.out) HN1.out
          have hda : decide (a.done ≤ a.asked) = true := by have := HE.out.ask; have := hov.2; exact decide_eq_true (by omega)
          have haN : (a.asked == N) = true := by have := HE.out.ask; rw [beq_iff_eq]; exact this
          have HOV := Lib.hid (show Calls Try.prog 30 #[.agg #[.int .i64 a.done, .int .i64 a.asked, .bool a.on, .slice p a.nd.length c], .int .i64 N] wr fun e w' => e = .returned (.bool true) ∧ Below wr.heap.size wr w' by
            have h := gover_c a (.slice p a.nd.length c) N wr HA.out.row HE.out.good.lmax
            rwa [hov.1] at h)
          obtain ⟨f0, f1, f2, f3⟩ := HA.out.box.cells
          clear hov
          go_wp2_with fail
          (with_reducible refine HOV.out.mono ?_)
          rintro e w5 ⟨rfl, hb5⟩
          have HC5 := Lib.hid (checkT a (.slice p a.nd.length c) HE.out.good w5 (bools_below HA.out.row hb5))
          have HB5 := Lib.hid (below_then HBR.out HBR.out.size hb5)
          clear f0 f1 f2 f3
          obtain ⟨f0, f1, f2, f3⟩ := (HA.out.box.below hb5).cells
          have HA5 := Lib.hid (HA.out.below hb5)
          clear hb5 HOV
          go_wp2_with fail
          (with_reducible refine HC5.out.mono ?_)
          rintro e w7 ⟨rfl, hb7⟩
          have HB7 := Lib.hid (below_then HB5.out HB5.out.size hb7)
          clear f0 f1 f2 f3
          obtain ⟨f0, f1, f2, f3⟩ := (HA5.out.box.below hb7).cells
          clear hb7 HC5
          go_wp2_with fail
          go_ret
          exact ⟨rfl, HB7.out⟩
    | false =>
      have HS := Lib.hid (show EndI N g.nd.length f 3 0 ga by
        have h := EndI.start HGD.out HAE.out f
        rw [hon] at h
        rw [hga, hN]
        exact h)
      rw [hon] at d2
      clear hon hga hN
      go_upto_region 5 with fail
      rw [← HW6.out.1, ← HW6.out.2]
      go_upto_region 11 with fail
      rw [hfe]
      clear HW6 hfe d0' d1 d2 d3 HZ6
      go_wp2_with fail
      go_loopw [33] (fun iv wx => ∃ (k : Nat) (a : GrS) (p : Option Addr) (c : Nat), k ≤ 3 ∧ iv = .int .i64 (k : Int) ∧ Hid (GzAt wx za a p c) ∧ Hid (EndI N g.nd.length f (3 - k) 0 a) ∧ Hid (Below W.heap.size W wx)) (fun iv _ => 3 - (intOf iv).toNat)
      case atStart => exact ⟨0, ga, _, _, Nat.zero_le _, rfl, HZAX, HS, HB6⟩
      case round =>
        obtain ⟨k, a, p, c, hk, rfl, HA, HE, HBR⟩ := hrel
        clear HS HB6 HZAX
        by_cases hkr : k < 3
        · have hdk : decide ((k : Int) < 3) = true := decide_eq_true (by omega)
          obtain ⟨f0, f1, f2, f3⟩ := HA.out.box.cells
          have hal : a.nd.length = g.nd.length := HE.out.len
          obtain ⟨r, hr⟩ : ∃ r, r + 1 = 3 - k := ⟨3 - k - 1, by omega⟩
          rw [hal] at f3
          have HR := Lib.hid hr
          rw [← hr] at HE
          clear hr hal
          go_wp2_with fail
          go_loopw [38] (fun iv wx => ∃ (j : Nat) (a : GrS) (p : Option Addr) (c : Nat), j ≤ g.nd.length ∧ iv = .int .i64 (j : Int) ∧ Hid (GzAt wx za a p c) ∧ Hid (EndI N g.nd.length f (r + 1) j a) ∧ Hid (Below W.heap.size W wx)) (fun iv _ => g.nd.length - (intOf iv).toNat)
          case atStart => exact ⟨0, a, p, c, Nat.zero_le _, rfl, HA, HE, HBR⟩
          case round =>
            clear f0 f1 f2 f3 HA HE HBR
            obtain ⟨j, b, q, c', hj, rfl, HA, HE, HBR⟩ := hrel
            by_cases hjn : j < g.nd.length
            · obtain ⟨f0, f1, f2, f3⟩ := HA.out.box.cells
              have m0 := HA.out.box.marks 0
              have m1 := HA.out.box.marks 1
              have m2 := HA.out.box.marks 2
              have m3 := HA.out.box.marks 3
              have hbl : b.nd.length = g.nd.length := HE.out.len
              obtain ⟨i, hi⟩ : ∃ i, i = (j + f) % g.nd.length := ⟨_, rfl⟩
              have hil : i < g.nd.length := by rw [hi]; exact Nat.mod_lt _ (by omega)
              obtain ⟨b', hb'⟩ : ∃ b', b' = pickG b i true := ⟨_, rfl⟩
              have HP := Lib.hid (fun (Z : World) (hZ : Below wr.heap.size wr Z) => pickOk b b' (.slice q b.nd.length c') i true hb' HE.out.good (by rw [hbl]; exact hil) Z (bools_below HA.out.row hZ))
              have hE2 := HE.out.step
              rw [← hi, ← hb'] at hE2
              have HE2 := Lib.hid hE2
              have hadd : wrap64 ((j : Int) + (f : Int)) = (j : Int) + (f : Int) := by have := HGD.out.l8; unfold wrap64; omega
              have hadd2 : IntKind.i64.wrap ((j : Int) + (f : Int)) = (j : Int) + (f : Int) := by rw [← wrap_i64]; exact hadd
              have hmod : Int.tmod ((j : Int) + (f : Int)) (g.nd.length : Int) = (i : Int) := by rw [hi]; rfl
              have hwi : IntKind.i64.wrap (i : Int) = (i : Int) := by rw [← wrap_i64]; have := HGD.out.l8; unfold wrap64; omega
              have hnz : ((g.nd.length : Int) == 0) = false := by rw [beq_eq_false_iff_ne]; omega
              have hnz1 : ¬ g.nd = [] := fun e => by rw [e] at hjn; cases hjn
              have hnz2 : ¬ (g.nd.length : Int) = 0 := by omega
              rw [hbl] at f3 HP
              have HBL := Lib.hid (show b'.nd.length = g.nd.length from HE2.out.len)
              clear hE2 hi hil hb' hbl
              go_upto_region 16 with fail
              have HSB := Lib.hid (show GBox wr za b.done b.asked b.on (.slice q g.nd.length c') by have := HA.out.box; rwa [HE.out.len] at this)
              refine wpTwo_begin (T := fun _ => True) (S := fun w' => GBox w' za b.done b.asked b.on (.slice q g.nd.length c')) (late := fun j => [12].contains j) (by kernel_rfl) ?_
              obtain ⟨X0, hX0⟩ : ∃ X : World, X = wr.drew := ⟨_, rfl⟩
              rw [← hX0]
              have hbx : Below wr.heap.size wr X0 := by rw [hX0]; exact (Below.refl _ _).drew
              have hS0 := HSB.out.below hbx
              have HP4 := Lib.hid (HP.out X0 hbx)
              have HBX := Lib.hid hbx
              clear hX0 hbx HP
              refine wpTwo_takeS (i := 0) (v := .agg #[.int .i64 b.done, .int .i64 b.asked, .bool b.on, .slice q g.nd.length c']) (waits_all (by kernel_rfl)) rfl (by kernel_rfl) (by kernel_rfl) (by kernel_rfl) (fun _ _ _ h => h) ⟨by rfl, ?_⟩ ⟨trivial, hS0⟩ ?_
              · rintro w hTw
                obtain ⟨t0, t1, t2, t3⟩ := GBox.cells hTw.2
                go_simp
              (try simp only [Act.put, List.getElem_toArray, List.getElem_cons_zero, List.setIfInBounds_toArray, List.set_cons_succ, List.set_cons_zero])
              refine wpTwo_takeT (i := 1) (v := .int .i64 (j : Int)) rfl (by kernel_rfl) (by kernel_rfl) (by kernel_rfl) (fun _ _ _ h => h) ⟨by rfl, ?_⟩ trivial ?_
              · rintro w hTw
                go_simp
              (try simp only [Act.put, List.getElem_toArray, List.getElem_cons_succ, List.getElem_cons_zero, List.setIfInBounds_toArray, List.set_cons_succ, List.set_cons_zero])
              refine wpTwo_takeT (i := 2) (v := .int .i64 (f : Int)) rfl (by kernel_rfl) (by kernel_rfl) (by kernel_rfl) (fun _ _ _ h => h) ⟨by rfl, ?_⟩ trivial ?_
              · rintro w hTw
                go_simp
              (try simp only [Act.put, List.getElem_toArray, List.getElem_cons_succ, List.getElem_cons_zero, List.setIfInBounds_toArray, List.set_cons_succ, List.set_cons_zero])
              refine wpTwo_takeT (i := 3) (v := .int .i64 ((j : Int) + (f : Int))) rfl (by kernel_rfl) (by kernel_rfl) (by kernel_rfl) (fun _ _ _ h => h) ⟨by rfl, ?_⟩ trivial ?_
              · rintro w hTw
                go_simp
              (try simp only [Act.put, List.getElem_toArray, List.getElem_cons_succ, List.getElem_cons_zero, List.setIfInBounds_toArray, List.set_cons_succ, List.set_cons_zero])
              refine wpTwo_takeT (i := 4) (v := .pointer (some ⟨za, 3, none⟩)) rfl (by kernel_rfl) (by kernel_rfl) (by kernel_rfl) (fun _ _ _ h => h) ⟨by rfl, ?_⟩ trivial ?_
              · rintro w hTw
                go_simp
              (try simp only [Act.put, List.getElem_toArray, List.getElem_cons_succ, List.getElem_cons_zero, List.setIfInBounds_toArray, List.set_cons_succ, List.set_cons_zero])
              refine wpTwo_takeS (i := 5) (v := .slice q g.nd.length c') (waits_all (by kernel_rfl)) rfl (by kernel_rfl) (by kernel_rfl) (by kernel_rfl) (fun _ _ _ h => h) ⟨by rfl, ?_⟩ ⟨trivial, hS0⟩ ?_
              · rintro w hTw
                obtain ⟨t0, t1, t2, t3⟩ := GBox.cells hTw.2
                go_simp
              (try simp only [Act.put, List.getElem_toArray, List.getElem_cons_succ, List.getElem_cons_zero, List.setIfInBounds_toArray, List.set_cons_succ, List.set_cons_zero])
              refine wpTwo_takeT (i := 6) (v := .int .i64 (g.nd.length : Int)) rfl (by kernel_rfl) (by kernel_rfl) (by kernel_rfl) (fun _ _ _ h => h) ⟨by rfl, ?_⟩ trivial ?_
              · rintro w hTw
                go_simp
              (try simp only [Act.put, List.getElem_toArray, List.getElem_cons_succ, List.getElem_cons_zero, List.setIfInBounds_toArray, List.set_cons_succ, List.set_cons_zero])
              refine wpTwo_takeT (i := 7) (v := .int .i64 (i : Int)) rfl (by kernel_rfl) (by kernel_rfl) (by kernel_rfl) (fun _ _ _ h => h) ⟨by rfl, ?_⟩ trivial ?_
              · rintro w hTw
                go_simp
              (try simp only [Act.put, List.getElem_toArray, List.getElem_cons_succ, List.getElem_cons_zero, List.setIfInBounds_toArray, List.set_cons_succ, List.set_cons_zero])
              refine wpTwo_ready (rs := [8]) (by kernel_rfl) (by simp) ?_
              refine (AllTwo.cons rfl (fun K hK => ?_) AllTwo.nil)
              go_simp
              (with_reducible refine HP4.out.mono ?_)
              rintro e w4 ⟨⟨nb4, rfl, hB, hnb⟩, hb4⟩
              have hS4 := hS0.below hb4
              go_wp2_with fail
              refine hK.out _ _ ⟨trivial, fun _ _ => hS4⟩ ?_
              clear hK K hS0
              (try simp only [Act.put, List.getElem_toArray, List.getElem_cons_succ, List.getElem_cons_zero, List.setIfInBounds_toArray, List.set_cons_succ, List.set_cons_zero])
              refine wpTwo_takeT (i := 9) (v := .tuple #[.agg #[.int .i64 b'.done, .int .i64 b'.asked, .bool b'.on, .slice (some ⟨nb4, 0, none⟩) b'.nd.length b'.nd.length], .int .i64 0]) rfl (by kernel_rfl) (by kernel_rfl) (by kernel_rfl) (fun _ _ _ h => h) ⟨by rfl, ?_⟩ trivial ?_
              · rintro w hTw
                go_simp
              (try simp only [Act.put, List.getElem_toArray, List.getElem_cons_succ, List.getElem_cons_zero, List.setIfInBounds_toArray, List.set_cons_succ, List.set_cons_zero])
              refine wpTwo_takeT (i := 10) (v := .agg #[.int .i64 b'.done, .int .i64 b'.asked, .bool b'.on, .slice (some ⟨nb4, 0, none⟩) b'.nd.length b'.nd.length]) rfl (by kernel_rfl) (by kernel_rfl) (by kernel_rfl) (fun _ _ _ h => h) ⟨by rfl, ?_⟩ trivial ?_
              · rintro w hTw
                go_simp
              (try simp only [Act.put, List.getElem_toArray, List.getElem_cons_succ, List.getElem_cons_zero, List.setIfInBounds_toArray, List.set_cons_succ, List.set_cons_zero])
              refine wpTwo_takeT (i := 11) (v := .int .i64 0) rfl (by kernel_rfl) (by kernel_rfl) (by kernel_rfl) (fun _ _ _ h => h) ⟨by rfl, ?_⟩ trivial ?_
              · rintro w hTw
                go_simp
              (try simp only [Act.put, List.getElem_toArray, List.getElem_cons_succ, List.getElem_cons_zero, List.setIfInBounds_toArray, List.set_cons_succ, List.set_cons_zero])
              have hbw : Below wr.heap.size wr w4 := below_then HBX.out HBX.out.size hb4
              have g4 := HA.out.box.below hbw
              clear m0 m1 m2 m3 f0 f1 f2 f3
              have m0 := g4.marks 0
              have m1 := g4.marks 1
              have m2 := g4.marks 2
              have m3 := g4.marks 3
              obtain ⟨f0, f1, f2, f3⟩ := g4.cells
              have HB4 := Lib.hid (And.intro hB (show nb4 ≠ za from ne_bool g4 (by decide) hB))
              have HPUT := Lib.hid (g4.put b'.done b'.asked b'.on (.slice (some ⟨nb4, 0, none⟩) b'.nd.length b'.nd.length))
              have HK := Lib.hid (GBox.putK w4 za b'.done b'.asked b'.on (.slice (some ⟨nb4, 0, none⟩) b'.nd.length b'.nd.length))
              have hn8 : g.nd.length ≤ 8 := HGD.out.l8
              have HBW := Lib.hid (below_then HBR.out HBR.out.size hbw)
              clear hbw g4 hB hnb hb4 HP4 HA HE HBR hadd hadd2 hmod hwi hnz hnz1 hnz2 hS4 HSB HBX
              refine wpTwo_ready (rs := [12]) (by kernel_rfl) (by simp) ?_
              refine (AllTwo.cons rfl (fun K hK => ?_) AllTwo.nil)
              go_simp
              refine hK.out _ _ ⟨trivial, fun h => by cases h⟩ ?_
              clear hK K
              (try simp only [Act.put])
              refine wpTwo_takeT (i := 13) (v := .int .i64 0) rfl (by kernel_rfl) (by kernel_rfl) (by kernel_rfl) (fun _ _ _ h => h) ⟨by rfl, ?_⟩ trivial ?_
              · rintro w hTw
                go_simp
              (try simp only [Act.put, List.getElem_toArray, List.getElem_cons_succ, List.getElem_cons_zero, List.setIfInBounds_toArray, List.set_cons_succ, List.set_cons_zero])
              refine wpTwo_end (by kernel_rfl) ?_ _
              go_wp2
              go_roundw
              case rel => exact ⟨j + 1, b', some ⟨nb4, 0, none⟩, b'.nd.length, by omega, by go_num, Lib.hid ⟨HPUT.out, (HB4.out.1.keeps HK.out (fun e => HB4.out.2 e)).bools⟩, HE2, Lib.hid (HBW.out.trans (HK.out.below HBW.out.size (fun q e => by have := HZA.out; omega)))⟩
              case measure => simp [intOf]; omega
            · obtain rfl : j = g.nd.length := by omega
              have HE3 := Lib.hid HE.out.round
              clear HE
              go_wp2
              go_roundw
              case rel => exact ⟨k + 1, b, q, c', by omega, by go_num, HA, Lib.hid (by have := HE3.out; rwa [show r = 3 - (k + 1) by have := HR.out; omega] at this), HBR⟩
              case measure => simp [intOf]; omega
        · obtain rfl : k = 3 := by omega
          have hov := EndI.over (show EndI N g.nd.length f 0 0 a from HE.out) HN1.out
          have hda : decide (a.done ≤ a.asked) = true := by have := HE.out.ask; have := hov.2; exact decide_eq_true (by omega)
          have haN : (a.asked == N) = true := by have := HE.out.ask; rw [beq_iff_eq]; exact this
          have HOV := Lib.hid (show Calls Try.prog 30 #[.agg #[.int .i64 a.done, .int .i64 a.asked, .bool a.on, .slice p a.nd.length c], .int .i64 N] wr fun e w' => e = .returned (.bool true) ∧ Below wr.heap.size wr w' by
            have h := gover_c a (.slice p a.nd.length c) N wr HA.out.row HE.out.good.lmax
            rwa [hov.1] at h)
          obtain ⟨f0, f1, f2, f3⟩ := HA.out.box.cells
          clear hov
          go_wp2_with fail
          (with_reducible refine HOV.out.mono ?_)
          rintro e w5 ⟨rfl, hb5⟩
          have HC5 := Lib.hid (checkT a (.slice p a.nd.length c) HE.out.good w5 (bools_below HA.out.row hb5))
          have HB5 := Lib.hid (below_then HBR.out HBR.out.size hb5)
          clear f0 f1 f2 f3
          obtain ⟨f0, f1, f2, f3⟩ := (HA.out.box.below hb5).cells
          have HA5 := Lib.hid (HA.out.below hb5)
          clear hb5 HOV
          go_wp2_with fail
          (with_reducible refine HC5.out.mono ?_)
          rintro e w7 ⟨rfl, hb7⟩
          have HB7 := Lib.hid (below_then HB5.out HB5.out.size hb7)
          clear f0 f1 f2 f3
          obtain ⟨f0, f1, f2, f3⟩ := (HA5.out.box.below hb7).cells
          clear hb7 HC5
          go_wp2_with fail
          go_ret
          exact ⟨rfl, HB7.out⟩
  · have hne : (errG g (askE g) != 0) = true := by rw [bne_iff_ne]; exact he
    have HC := Lib.hid (askN g _ HXL.out he wb HZ.out.row)
    have HNO := Lib.hid none_c
    obtain ⟨E, hE⟩ : ∃ E, E = errG g (askE g) := ⟨_, rfl⟩
    rw [← hE] at HC hne
    clear hE he
    go_upto_region 4 with fail
    rw [← HWB.out.1, ← HWB.out.2]
    clear HWB
    go_wp2_with fail
    (with_reducible refine HC.out.mono ?_)
    rintro e w5 ⟨rfl, hb5⟩
    replace HBB := Lib.hid (below_then HBB.out HBB.out.size hb5)
    obtain ⟨w6, hw6⟩ : ∃ X : World, X = w5.alloc (.cells #[.int .i64 0, .int .i64 0, .bool false, .slice none 0 0] 24) := ⟨_, rfl⟩
    obtain ⟨za, hza⟩ : ∃ z, z = w5.heap.size := ⟨_, rfl⟩
    have hbx : GBox w6 za 0 0 false (.slice none 0 0) := by rw [hw6, hza]; exact GBox.new _ _ _ _ _
    replace HBB := Lib.hid (below_then HBB.out HBB.out.size (show Below w5.heap.size w5 w6 by rw [hw6]; exact below1 _ _))
    clear d0' d1 d2 d3
    obtain ⟨d0', d1, d2, d3⟩ := hbx.cells
    have HW6 := Lib.hid (And.intro hw6 hza)
    have HN6 := Lib.hid (HNO.out w6)
    clear hb5 hw6 hza hbx HC HNO
    go_upto_region 5 with fail
    rw [← HW6.out.1, ← HW6.out.2]
    clear HW6
    go_wp2_with fail
    (with_reducible refine HN6.out.mono ?_)
    rintro e w7 ⟨rfl, hb7⟩
    replace HBB := Lib.hid (below_then HBB.out HBB.out.size hb7)
    clear hb7
    go_wp2_with fail
    go_ret
    exact ⟨rfl, HBB.out⟩

end Go.Proofs.Ytfnpokddoffplaa
namespace Go.Proofs.Ytfnpokddoffplaa
open Go.RowKit Go.Shelf
open Go.ChangeShapes Go.WideShapes Go.ChangeAt Go.Deep
open Go.ChangeMaps (open_string shut_string)

set_option maxRecDepth 100000 in
theorem graceEnds_lifted (os : Os) (started : os.Started) (H : Type) (enc : TypeId × Value → H) :
    ReturnsInHanded {} Try.checked os 6 .any (Rows.graceEndsSpec.pre6 enc Try.prog Try.f6 Rows.graceEndsRow.domain false) (Rows.graceEndsSpec.post enc Try.prog Try.f6 false true false false) := by
  refine returnsInHanded_of_change (C := Try.checked) own started (by kernel_rfl) Try.func6
    (ChangeSpec.witness6 (enc := enc) (C := Try.checked) false ⟨#[], #[.agg #[.int .i64 0, .int .i64 0, .bool false, .slice none 0 0], .int .i64 0], []⟩ 8 (by kernel_rfl) (by kernel_rfl) (by kernel_rfl) (by kernel_rfl)) ?_
  intro W base args ds gs before hval0 hW hcnd _
  have hval : ∀ (j : Nat) t v, Try.f6.params[j]? = some t → args[j]? = some v → Value.okWide Try.prog W .any base t v := hval0
  have hW' := hW
  obtain ⟨p, q, hA0, hV, rfl, hfz, hnd⟩ := hW
  have hA : DataW.TrodAll enc Try.prog W 0 (fun _ => true) true Try.f6.params.toList args.toList ds p := hA0
  rw [Try.params6] at hA hval
  have hA2 := hA
  obtain ⟨v0, vs0, d0, ds0, pp0, qq0, hargs, rfl, rfl, h0, r0⟩ := trodAll_cons hA
  obtain ⟨v1, vs1, d1, ds1, pp1, qq1, rfl, rfl, rfl, h1, r1⟩ := trodAll_cons r0
  obtain ⟨rfl, rfl, rfl⟩ := trodAll_nil r1
  obtain rfl : args = #[v0, v1] := by cases args; simp_all
  obtain ⟨rfl, rfl⟩ := trodVars_none hV
  obtain ⟨k0, m0, f0, u0, x0, rfl, a0, l0, i0, w0⟩ := grace_open (hval 0 24 v0 rfl rfl) h0
  obtain ⟨a1, rfl, rfl, rfl, w1⟩ := open_int Try.underlying3 (hval 1 3 v1 rfl rfl) h1
  clear hA0 hval0
  simp only [List.append_nil] at hW'
  refine (graceEnds_c k0 m0 f0 u0 x0 a1 W a0 l0).mono fun e W' ⟨he, hb⟩ => ?_
  subst he
  exact ⟨_, rfl, _, _, _, [], _, [], hW', trodAll_cons_mk (shut_bool Try.underlying4 _) trodAll_mk0, trodAll_stays laidOut hb (by kernel_rfl) hA2 (fun x hx => by simpa using hW'.lt x (by simpa using hx)), rfl, hb.frame _, fun h => by cases h⟩

theorem graceEnds_holds : Rows.GraceEndsSaid :=
  OpenClaim.holds_of_wide 6 Try.f6 rfl rfl rfl rfl rfl rfl rfl ⟨rfl, rfl, rfl, rfl, rfl⟩ rfl rfl rfl rfl rfl (by kernel_rfl) Try.func6 (by kernel_rfl)
    (of_decide_eq_true (by kernel_rfl)) (by unfold Func.isWrapper; first | (rw [if_pos (by decide +kernel)]; kernel_rfl) | (rw [if_neg (by decide +kernel)]; exact ⟨rfl, rfl⟩))
    (fun os started H enc _ => graceEnds_lifted os started H enc)

end Go.Proofs.Ytfnpokddoffplaa
