/-
  PoolApart: no word is in two pages, and each page has its sixteen, one behind the other.
  Conditions: the ranges of Go's types.
-/
import Derived.Test.YthjkaabbbhfjhaaPWakes
import Derived.Test.YthjkaabbbhfjhaaPWord
namespace Go.Proofs.Ythjkaabbbhfjhaa
open Go.RowKit Go.Shelf
attribute [local go_sem] Oper.semAt_some

theorem u64wrap_nonneg (x : Int) : 0 ≤ IntKind.u64.wrap x := by
  unfold IntKind.wrap
  simp [IntKind.bits, IntKind.signed]
  omega
theorem rem16 (off : Int) : ∃ N : Nat, wrap64 ((IntKind.u64.wrap off).tmod 16) = (N : Int) ∧ N ≤ 15 := by
  have h := u64wrap_nonneg off
  obtain ⟨x, hx⟩ := Int.eq_ofNat_of_zero_le h
  refine ⟨x % 16, ?_, by omega⟩
  rw [hx]
  have e : ((x : Int)).tmod 16 = ((x % 16 : Nat) : Int) := rfl
  rw [e]
  unfold wrap64
  omega

set_option maxRecDepth 100000 in
set_option maxHeartbeats 8000000 in
theorem apart_law (b pg : Int) (v : Value) (xs : List Int) (page off : Int) (W : World) (h0 : ArgR W v (xs.map (Value.int .i64))) (hw : xs.length ≤ 9223372036854775807) :
    Calls Try.prog 6 #[.agg #[.int .i64 b, .int .i64 pg, v], .int .i64 page, .int .i64 off] W fun e w' => e = .returned (.bool true) ∧ Below W.heap.size W w' := by
  obtain ⟨us, hus⟩ : ∃ us, us = xs.take 70 := ⟨_, rfl⟩
  have HLU := Lib.hid (show us.length ≤ 70 by rw [hus, List.length_take]; omega)
  have HOW := Lib.hid (fun (Z : World) (hb : Below W.heap.size W Z) => hus ▸ own7_c b pg v xs Z (h0.below hb) hw)
  obtain ⟨p0, n0, c0, rfl, -, -⟩ := h0
  obtain ⟨w0, hw0⟩ : ∃ X : World, X = W.alloc (.cells #[.int .i64 b, .int .i64 pg, .slice p0 n0 c0] 24) := ⟨_, rfl⟩
  have HP0 := Lib.hid (show PBox w0 W.heap.size b pg (.slice p0 n0 c0) by rw [hw0]; exact PBox.new _ _ _ _)
  have HB0 := Lib.hid (show Below W.heap.size W w0 by rw [hw0]; exact below1 _ _)
  have HW0 := Lib.hid hw0
  clear hw0 hus hw
  go_enter Try.func6, Try.ntmps6
  go_wp2_with fail
  rw [← HW0.out]
  clear HW0
  refine (wakes7 w0).mono ?_
  rintro e w1 ⟨rfl, hb1⟩
  have HB1 := Lib.hid (below_then HB0.out HB0.out.size hb1)
  have HP1 := Lib.hid (HP0.out.below hb1)
  obtain ⟨d0, d1, d2⟩ := HP1.out.cells
  clear hb1 HP0 HB0
  go_wp2_with fail
  refine (HOW.out w1 HB1.out).mono ?_
  rintro e w2 ⟨⟨p, c, rfl, ho⟩, hb2⟩
  have hv2 := PV.of_owns (b := b) (pg := pg) ho rfl
  obtain ⟨w3, hw3⟩ : ∃ X : World, X = w2.alloc (.cells #[.int .i64 b, .int .i64 pg, .slice p us.length c] 24) := ⟨_, rfl⟩
  have hb3 : Below w2.heap.size w2 w3 := by rw [hw3]; exact below1 _ _
  have HV3 := Lib.hid (show PV w3 w2.heap.size b pg p us.length c us by rw [hw3]; exact hv2)
  have HB3 := Lib.hid (below_then (below_then HB1.out HB1.out.size hb2) (below_then HB1.out HB1.out.size hb2).size hb3)
  have HW3 := Lib.hid hw3
  have hm64 : us.length ≤ 4611686018427387904 := by have := HLU.out; omega
  have HWORD := Lib.hid (fun (n : Int) (Z : World) (hb : Below w3.heap.size w3 Z) => word_c b pg n p c us Z hm64 (nums_below HV3.out.2.1 hb))
  have HPAGE := Lib.hid (fun (n : Int) (Z : World) (hb : Below w3.heap.size w3 Z) => page_c b pg n p c us Z hm64 (nums_below HV3.out.2.1 hb))
  have HCHECK := Lib.hid (fun (Z : World) (hb : Below w3.heap.size w3 Z) => check_c b pg p c us Z hm64 (nums_below HV3.out.2.1 hb))
  clear hw3 hb2 hb3 ho hv2 d0 d1 d2 HP1 HOW HB1 hm64
  go_upto_region 4 with fail
  rw [← HW3.out]
  clear HW3
  obtain ⟨z, hz⟩ : ∃ z, z = w2.heap.size := ⟨_, rfl⟩
  rw [← hz] at HV3 ⊢
  clear hz
  obtain ⟨d0, d1, d2⟩ := HV3.out.1.cells
  cases hr : rightP b pg us with
  | false =>
    have HW1 := Lib.hid (HWORD.out page w3 (Below.refl _ _))
    rw [show wordM b pg us page = (0, 170) by unfold wordM; rw [if_neg (by rw [hr]; simp)]] at HW1
    have HR := Lib.hid hr
    clear hr
    go_wp2_with fail
    refine HW1.out.mono ?_
    rintro e w4 ⟨rfl, hb4⟩
    have HB4 := Lib.hid hb4
    have HV4 := Lib.hid (HV3.out.below hb4)
    clear hb4 d0 d1 d2
    obtain ⟨d0, d1, d2⟩ := HV4.out.1.cells
    have HC4 := Lib.hid (HCHECK.out w4 HB4.out)
    rw [if_neg (by rw [HR.out]; simp)] at HC4
    go_wp2_with fail
    refine HC4.out.mono ?_
    rintro e w5 ⟨rfl, hb5⟩
    have HBF := Lib.hid (below_then (below_then HB3.out HB3.out.size HB4.out) (below_then HB3.out HB3.out.size HB4.out).size hb5)
    clear hb5
    go_wp2
    go_ret
    exact ⟨rfl, HBF.out⟩
  | true =>
    cases hh : hasB pg page with
    | false =>
      have HW1 := Lib.hid (HWORD.out page w3 (Below.refl _ _))
      rw [show wordM b pg us page = (0, 2) by unfold wordM; rw [if_pos hr, if_neg (by rw [hh]; simp)]] at HW1
      have HR := Lib.hid hr
      clear hr hh
      go_wp2_with fail
      refine HW1.out.mono ?_
      rintro e w4 ⟨rfl, hb4⟩
      have HB4 := Lib.hid hb4
      have HV4 := Lib.hid (HV3.out.below hb4)
      clear hb4 d0 d1 d2
      obtain ⟨d0, d1, d2⟩ := HV4.out.1.cells
      have HC4 := Lib.hid (HCHECK.out w4 HB4.out)
      rw [if_pos HR.out] at HC4
      go_wp2_with fail
      refine HC4.out.mono ?_
      rintro e w5 ⟨rfl, hb5⟩
      have HBF := Lib.hid (below_then (below_then HB3.out HB3.out.size HB4.out) (below_then HB3.out HB3.out.size HB4.out).size hb5)
      clear hb5
      go_wp2
      go_ret
      exact ⟨rfl, HBF.out⟩
    | true =>
      obtain ⟨hf0, hf1, -, hf2, hf3, hf4⟩ := fits_parts (rightP_iff.1 hr).1
      obtain ⟨hn0, hn1⟩ := has_parts hh
      have HW1 := Lib.hid (HWORD.out page w3 (Below.refl _ _))
      rw [show wordM b pg us page = (b + 16 * page, 0) by unfold wordM; rw [if_pos hr, if_pos hh]] at HW1
      have HR := Lib.hid hr
      clear hr hh
      go_wp2_with fail
      refine HW1.out.mono ?_
      rintro e w4 ⟨rfl, hb4⟩
      have HB4 := Lib.hid hb4
      have HV4 := Lib.hid (HV3.out.below hb4)
      clear hb4 d0 d1 d2 HW1
      go_upto_region 7 with fail
      go_cut [10] (fun s10 wd => ∃ N : Nat, s10 = .int .i64 (N : Int) ∧ N ≤ 15 ∧ wd = w4)
      case first =>
        go_wp2_with fail
        go_meet
        obtain ⟨N, h1, h2⟩ := rem16 off
        exact ⟨N, by rw [h1], h2, rfl⟩
      case rest =>
        obtain ⟨k, rfl, hk, rfl⟩ := hcut
        obtain ⟨d0, d1, d2⟩ := HV4.out.1.cells
        have HPG := Lib.hid (HPAGE.out (b + 16 * page + (k : Int)) wc HB4.out)
        rw [show pageM b pg us (b + 16 * page + (k : Int)) = (page, (k : Int), 0) by
          unfold pageM; rw [if_pos HR.out, if_pos (by omega)]; congr 1; omega; congr 1; omega] at HPG
        go_wp2_with fail
        refine HPG.out.mono ?_
        rintro e w5 ⟨rfl, hb5⟩
        have HB5 := Lib.hid (HB4.out.trans (hb5.mono HB4.out.size))
        have HV5 := Lib.hid (HV4.out.below hb5)
        clear hb5 d0 d1 d2 HPG
        obtain ⟨d0, d1, d2⟩ := HV5.out.1.cells
        have HW5 := Lib.hid (HWORD.out (page + 1) w5 HB5.out)
        by_cases hlt : page + 1 < pg
        · rw [show wordM b pg us (page + 1) = (b + 16 * (page + 1), 0) by unfold wordM; rw [if_pos HR.out, if_pos (by unfold hasB; simp; omega)]] at HW5
          go_wp2_with fail
          refine HW5.out.mono ?_
          rintro e w6 ⟨rfl, hb6⟩
          have HB6 := Lib.hid (HB5.out.trans (hb6.mono HB5.out.size))
          have HV6 := Lib.hid (HV5.out.below hb6)
          clear hb6 d0 d1 d2 HW5
          obtain ⟨d0, d1, d2⟩ := HV6.out.1.cells
          have HPG := Lib.hid (HPAGE.out (b + 16 * page + 16) w6 HB6.out)
          rw [show pageM b pg us (b + 16 * page + 16) = (page + 1, 0, 0) by
            unfold pageM; rw [if_pos HR.out, if_pos (by omega)]; congr 1; omega; congr 1; omega] at HPG
          go_wp2_with fail
          refine HPG.out.mono ?_
          rintro e w7 ⟨rfl, hb7⟩
          have HBF := Lib.hid (below_then HB3.out HB3.out.size (HB6.out.trans (hb7.mono HB6.out.size)))
          have HV7 := Lib.hid (HV6.out.below hb7)
          clear hb7 d0 d1 d2 HPG
          obtain ⟨d0, d1, d2⟩ := HV7.out.1.cells
          have hq : (b + 16 * (page + 1) == b + 16 * page + 16) = true := by rw [beq_iff_eq]; omega
          have hq2 : decide (page + 1 < pg) = true := decide_eq_true hlt
          go_wp2
          go_ret
          exact ⟨rfl, HBF.out⟩
        · rw [show wordM b pg us (page + 1) = (0, 2) by unfold wordM; rw [if_pos HR.out, if_neg (by unfold hasB; simp; omega)]] at HW5
          go_wp2_with fail
          refine HW5.out.mono ?_
          rintro e w6 ⟨rfl, hb6⟩
          have HB6 := Lib.hid (HB5.out.trans (hb6.mono HB5.out.size))
          have HV6 := Lib.hid (HV5.out.below hb6)
          clear hb6 d0 d1 d2 HW5
          obtain ⟨d0, d1, d2⟩ := HV6.out.1.cells
          have HPG := Lib.hid (HPAGE.out (b + 16 * page + 16) w6 HB6.out)
          rw [show pageM b pg us (b + 16 * page + 16) = (0, 0, 2) by
            unfold pageM; rw [if_pos HR.out, if_neg (by omega)]] at HPG
          go_wp2_with fail
          refine HPG.out.mono ?_
          rintro e w7 ⟨rfl, hb7⟩
          have HBF := Lib.hid (below_then HB3.out HB3.out.size (HB6.out.trans (hb7.mono HB6.out.size)))
          have HV7 := Lib.hid (HV6.out.below hb7)
          clear hb7 d0 d1 d2 HPG
          obtain ⟨d0, d1, d2⟩ := HV7.out.1.cells
          have hq2 : decide (page + 1 < pg) = false := decide_eq_false (by omega)
          go_wp2
          go_ret
          exact ⟨rfl, HBF.out⟩
end Go.Proofs.Ythjkaabbbhfjhaa
