/-
  PoolWords: where pages are, and which page has a word, as the document says.
  Conditions: the ranges of Go's types.
-/
import Derived.Test.YthjkaabbbhfjhaaPWakes
import Derived.Test.YthjkaabbbhfjhaaPWord
import Derived.Test.YthjkaabbbhfjhaaPRefD
namespace Go.Proofs.Ythjkaabbbhfjhaa
open Go.RowKit Go.Shelf
attribute [local go_sem] Oper.semAt_some

theorem nums_of_argr {W : World} {v : Value} {ns : List Int} (h : ArgR W v (ns.map (Value.int .i64))) : ∃ p c, v = .slice p ns.length c ∧ NumsAt W .i64 (.slice p ns.length c) ns ∧ ns.length ≤ c ∧ (p = none → c = 0) := by
  obtain ⟨p, n, c, rfl, hn, h⟩ := h
  rw [List.length_map] at hn
  subst hn
  refine ⟨p, c, rfl, ?_⟩
  rcases h with ⟨rfl, h1, rfl⟩ | ⟨a, rfl, hl, hcs⟩
  · exact ⟨⟨none, 0, rfl, fun hne => absurd (List.eq_nil_of_length_eq_zero h1) hne⟩, by omega, fun _ => rfl⟩
  · refine ⟨⟨some a, c, rfl, fun hne => ?_⟩, hl, fun e => by cases e⟩
    have hpos : 0 < ns.length := by cases ns with | nil => exact absurd rfl hne | cons _ _ => simp
    obtain ⟨b, off, sp⟩ := a
    have hspot : sp = none := by
      have h0 := hcs 0 (.int .i64 ns[0]) (by simp [hpos])
      simp only [Addr.add, if_true, World.cell?] at h0
      split at h0
      · cases sp with
        | none => rfl
        | some x => simp at h0
      · cases h0
    subst hspot
    refine ⟨b, off, rfl, fun i hi => ?_⟩
    have h1 := hcs i (.int .i64 ns[i]) (by simp [hi])
    rw [addr_add_off] at h1
    exact h1

set_option maxRecDepth 100000 in
set_option maxHeartbeats 8000000 in
theorem words_law (b pg : Int) (v : Value) (xs : List Int) (nv : Value) (ns : List Int) (W : World) (h0 : ArgR W v (xs.map (Value.int .i64))) (hw : xs.length ≤ 9223372036854775807) (hn : ArgR W nv (ns.map (Value.int .i64))) (hnl : ns.length ≤ 9223372036854775807) :
    Calls Try.prog 4 #[.agg #[.int .i64 b, .int .i64 pg, v], nv] W fun e w' => e = .returned (.bool true) ∧ Below W.heap.size W w' := by
  obtain ⟨np, nc, rfl, hnums, -, -⟩ := nums_of_argr hn
  have HNU := Lib.hid hnums
  clear hn hnums
  obtain ⟨us, hus⟩ : ∃ us, us = xs.take 70 := ⟨_, rfl⟩
  have HLU := Lib.hid (show us.length ≤ 70 by rw [hus, List.length_take]; omega)
  have HOW := Lib.hid (fun (Z : World) (hb : Below W.heap.size W Z) => hus ▸ own7_c b pg v xs Z (h0.below hb) hw)
  obtain ⟨p0, n0, c0, rfl, -, -⟩ := h0
  obtain ⟨w0, hw0⟩ : ∃ X : World, X = W.alloc (.cells #[.int .i64 b, .int .i64 pg, .slice p0 n0 c0] 24) := ⟨_, rfl⟩
  have HP0 := Lib.hid (show PBox w0 W.heap.size b pg (.slice p0 n0 c0) by rw [hw0]; exact PBox.new _ _ _ _)
  have HB0 := Lib.hid (show Below W.heap.size W w0 by rw [hw0]; exact below1 _ _)
  have HW0 := Lib.hid hw0
  clear hw0 hus hw
  go_enter Try.func4, Try.ntmps4
  go_wp2_with fail
  rw [← HW0.out]
  clear HW0
  refine (wakes7 w0).mono ?_
  rintro e w1 ⟨rfl, hb1⟩
  have HB1 := Lib.hid (below_then HB0.out HB0.out.size hb1)
  have HP1 := Lib.hid (HP0.out.below hb1)
  obtain ⟨d0, d1, d2⟩ := HP1.out.cells
  clear hb1 HP0 HB0
  go_wp2_with fail
  refine (HOW.out w1 HB1.out).mono ?_
  rintro e w2 ⟨⟨p, c, rfl, ho⟩, hb2⟩
  have hv2 := PV.of_owns (b := b) (pg := pg) ho rfl
  obtain ⟨w3, hw3⟩ : ∃ X : World, X = w2.alloc (.cells #[.int .i64 b, .int .i64 pg, .slice p us.length c] 24) := ⟨_, rfl⟩
  have hb3 : Below w2.heap.size w2 w3 := by rw [hw3]; exact below1 _ _
  have HV3 := Lib.hid (show PV w3 w2.heap.size b pg p us.length c us by rw [hw3]; exact hv2)
  have HB3 := Lib.hid (below_then (below_then HB1.out HB1.out.size hb2) (below_then HB1.out HB1.out.size hb2).size hb3)
  have HW3 := Lib.hid hw3
  have hm64 : us.length ≤ 4611686018427387904 := by have := HLU.out; omega
  have HWORD := Lib.hid (fun (n : Int) (Z : World) (hb : Below w3.heap.size w3 Z) => word_c b pg n p c us Z hm64 (nums_below HV3.out.2.1 hb))
  have HPAGE := Lib.hid (fun (n : Int) (Z : World) (hb : Below w3.heap.size w3 Z) => page_c b pg n p c us Z hm64 (nums_below HV3.out.2.1 hb))
  have HRI := Lib.hid (rright_c b pg p c us w3 hm64 HV3.out.2.1 HV3.out.2.2.2.2)
  have d3 := HV3.out.1.cells
  rw [hw3] at d3
  obtain ⟨d30, d31, d32⟩ := d3
  clear hw3 hb2 hb3 ho hv2 d0 d1 d2 HP1 HOW HB1 hm64
  go_wp2_with fail
  rw [← HW3.out]
  clear HW3 d30 d31 d32
  refine HRI.out.mono ?_
  rintro e w4 ⟨rfl, hw4⟩
  have hb4 : Below w3.heap.size w3 w4 := by rw [hw4]; exact below1 _ _
  obtain ⟨z, hz⟩ : ∃ z, z = w2.heap.size := ⟨_, rfl⟩
  rw [← hz] at HV3 ⊢
  have HV4 := Lib.hid (HV3.out.below hb4)
  have HB4 := Lib.hid hb4
  obtain ⟨rb, hrb⟩ : ∃ r, r = rightP b pg us := ⟨_, rfl⟩
  rw [← hrb]
  have HRB := Lib.hid hrb
  clear hz hw4 hb4 HRI hrb
  go_wp2
  go_loopw [27] (fun iv wr => ∃ i : Nat, i ≤ ns.length ∧ iv = .int .i64 (i : Int) ∧ Hid (PV wr z b pg p us.length c us ∧ Below w3.heap.size w3 wr)) (fun iv _ => ns.length - (pIntOf iv).toNat)
  case atStart => exact ⟨0, Nat.zero_le _, rfl, HV4.out, HB4.out⟩
  case round =>
    clear HV4 HB4
    obtain ⟨i, hi, rfl, HR⟩ := hrel
    by_cases hlt : i < ns.length
    · by_cases h10 : i = 10
      · subst h10
        have HBF := Lib.hid (below_then HB3.out HB3.out.size HR.out.2)
        obtain ⟨qq, cc, e, hc⟩ := HNU.out
        injection e with e1 _ e3
        subst e1
        obtain ⟨bb, off, rfl, hcs⟩ := hc (by intro e; rw [e] at hlt; exact absurd hlt (Nat.not_lt_zero _))
        have hx := below_cell (below_then HB3.out HB3.out.size HR.out.2) (hcs 10 hlt)
        clear hc hcs e3
        go_wp2
        go_ret
        exact ⟨rfl, HBF.out⟩
      · have hne : ((i : Int) == 10) = false := by rw [beq_eq_false_iff_ne]; omega
        obtain ⟨qq, cc, e, hc⟩ := HNU.out
        injection e with e1 _ e3
        subst e1
        obtain ⟨bb, off, rfl, hcs⟩ := hc (by intro e; rw [e] at hlt; exact absurd hlt (Nat.not_lt_zero _))
        have hx := below_cell (below_then HB3.out HB3.out.size HR.out.2) (hcs i hlt)
        obtain ⟨n, hne2⟩ : ∃ n, n = ns[i] := ⟨_, rfl⟩
        rw [← hne2] at hx
        obtain ⟨d0, d1, d2⟩ := HR.out.1.1.cells
        have HW1 := Lib.hid (HWORD.out n wr HR.out.2)
        clear hc hcs e3 hne2 h10
        cases rb with
        | false =>
          have HRX := Lib.hid HRB.out.symm
          rw [show wordM b pg us n = (0, 170) from by unfold wordM; rw [if_neg (by rw [HRX.out]; simp)]] at HW1
          go_wp2_with fail
          refine HW1.out.mono ?_
          rintro e w5 ⟨rfl, hb5⟩
          have HV5 := Lib.hid (HR.out.1.below hb5)
          have HB5 := Lib.hid (HR.out.2.trans (hb5.mono HR.out.2.size))
          clear hb5 d0 d1 d2 HW1 hx
          obtain ⟨d0, d1, d2⟩ := HV5.out.1.cells
          have HP5 := Lib.hid (HPAGE.out n w5 HB5.out)
          rw [show pageM b pg us n = (0, 0, 170) from by unfold pageM; rw [if_neg (by rw [HRX.out]; simp)]] at HP5
          go_wp2_with fail
          refine HP5.out.mono ?_
          rintro e w6 ⟨rfl, hb6⟩
          have HV6 := Lib.hid (HV5.out.below hb6)
          have HB6 := Lib.hid (HB5.out.trans (hb6.mono HB5.out.size))
          clear hb6 d0 d1 d2 HP5 HV5 HB5
          go_wp2
          go_roundw
          case rel => exact ⟨i + 1, by omega, by go_num, HV6.out, HB6.out⟩
          case measure => simp [pIntOf]; omega
        | true =>
          have HRX := Lib.hid HRB.out.symm
          obtain ⟨hf0, hf1, -, hf2, hf3, -⟩ := fits_parts (rightP_iff.1 HRB.out.symm).1
          obtain ⟨k, rfl⟩ := Int.eq_ofNat_of_zero_le hf2
          have hk64 : k ≤ 64 := by omega
          cases hh : hasB k n with
          | false =>
            have hno : ¬ (0 ≤ n ∧ n < (k : Int)) := fun h => by unfold hasB at hh; simp only [Bool.and_eq_false_iff, decide_eq_false_iff_not] at hh; omega
            have HH := Lib.hid hh
            have HNO := Lib.hid hno
            clear hh hno
            by_cases hin : b ≤ n ∧ n < b + 16 * (k : Int)
            · have HIN := Lib.hid hin
              clear hin
              by_cases hn0 : 0 ≤ n
              · have hnk : (k : Int) ≤ n := by have := HNO.out; omega
                rw [show wordM b k us n = (0, 2) from by unfold wordM; rw [if_pos HRX.out, if_neg (by rw [HH.out]; simp)]] at HW1
                go_wp2_with fail
                refine HW1.out.mono ?_
                rintro e w5 ⟨rfl, hb5⟩
                have HV5 := Lib.hid (HR.out.1.below hb5)
                have HB5 := Lib.hid (HR.out.2.trans (hb5.mono HR.out.2.size))
                clear hb5 d0 d1 d2 HW1 hx
                obtain ⟨d0, d1, d2⟩ := HV5.out.1.cells
                have HP5 := Lib.hid (HPAGE.out n w5 HB5.out)
                rw [show pageM b k us n = ((n - b) / 16, (n - b) % 16, 0) from by unfold pageM; rw [if_pos HRX.out, if_pos HIN.out]] at HP5
                go_wp2_with fail
                refine HP5.out.mono ?_
                rintro e w6 ⟨rfl, hb6⟩
                have HV6 := Lib.hid (HV5.out.below hb6)
                have HB6 := Lib.hid (HB5.out.trans (hb6.mono HB5.out.size))
                clear hb6 d0 d1 d2 HP5 HV5 HB5
                obtain ⟨d0, d1, d2⟩ := HV6.out.1.cells
                have HQ6 := Lib.hid (rpage_c b n k (.slice p us.length c) ⟨hf0, hf1⟩ hk64 w6)
                rw [show pageF b k n = ((n - b) / 16, (n - b) % 16) from by unfold pageF; rw [if_pos HIN.out]] at HQ6
                go_wp2_with fail
                refine HQ6.out.mono ?_
                rintro e w7 ⟨rfl, hb7⟩
                have HV7 := Lib.hid (HV6.out.below hb7)
                have HB7 := Lib.hid (HB6.out.trans (hb7.mono HB6.out.size))
                clear hb7 d0 d1 d2 HQ6 HV6 HB6
                have hq0 : 0 ≤ (n - b) / 16 := by have := HIN.out; omega
                go_wp2
                go_roundw
                case rel => exact ⟨i + 1, by omega, by go_num, HV7.out, HB7.out⟩
                case measure => simp [pIntOf]; omega
              · have hn0' : n < 0 := by omega
                rw [show wordM b k us n = (0, 2) from by unfold wordM; rw [if_pos HRX.out, if_neg (by rw [HH.out]; simp)]] at HW1
                go_wp2_with fail
                refine HW1.out.mono ?_
                rintro e w5 ⟨rfl, hb5⟩
                have HV5 := Lib.hid (HR.out.1.below hb5)
                have HB5 := Lib.hid (HR.out.2.trans (hb5.mono HR.out.2.size))
                clear hb5 d0 d1 d2 HW1 hx
                obtain ⟨d0, d1, d2⟩ := HV5.out.1.cells
                have HP5 := Lib.hid (HPAGE.out n w5 HB5.out)
                rw [show pageM b k us n = ((n - b) / 16, (n - b) % 16, 0) from by unfold pageM; rw [if_pos HRX.out, if_pos HIN.out]] at HP5
                go_wp2_with fail
                refine HP5.out.mono ?_
                rintro e w6 ⟨rfl, hb6⟩
                have HV6 := Lib.hid (HV5.out.below hb6)
                have HB6 := Lib.hid (HB5.out.trans (hb6.mono HB5.out.size))
                clear hb6 d0 d1 d2 HP5 HV5 HB5
                obtain ⟨d0, d1, d2⟩ := HV6.out.1.cells
                have HQ6 := Lib.hid (rpage_c b n k (.slice p us.length c) ⟨hf0, hf1⟩ hk64 w6)
                rw [show pageF b k n = ((n - b) / 16, (n - b) % 16) from by unfold pageF; rw [if_pos HIN.out]] at HQ6
                go_wp2_with fail
                refine HQ6.out.mono ?_
                rintro e w7 ⟨rfl, hb7⟩
                have HV7 := Lib.hid (HV6.out.below hb7)
                have HB7 := Lib.hid (HB6.out.trans (hb7.mono HB6.out.size))
                clear hb7 d0 d1 d2 HQ6 HV6 HB6
                have hq0 : 0 ≤ (n - b) / 16 := by have := HIN.out; omega
                go_wp2
                go_roundw
                case rel => exact ⟨i + 1, by omega, by go_num, HV7.out, HB7.out⟩
                case measure => simp [pIntOf]; omega
            · have HIN := Lib.hid hin
              clear hin
              by_cases hn0 : 0 ≤ n
              · have hnk : (k : Int) ≤ n := by have := HNO.out; omega
                rw [show wordM b k us n = (0, 2) from by unfold wordM; rw [if_pos HRX.out, if_neg (by rw [HH.out]; simp)]] at HW1
                go_wp2_with fail
                refine HW1.out.mono ?_
                rintro e w5 ⟨rfl, hb5⟩
                have HV5 := Lib.hid (HR.out.1.below hb5)
                have HB5 := Lib.hid (HR.out.2.trans (hb5.mono HR.out.2.size))
                clear hb5 d0 d1 d2 HW1 hx
                obtain ⟨d0, d1, d2⟩ := HV5.out.1.cells
                have HP5 := Lib.hid (HPAGE.out n w5 HB5.out)
                rw [show pageM b k us n = (0, 0, 2) from by unfold pageM; rw [if_pos HRX.out, if_neg HIN.out]] at HP5
                go_wp2_with fail
                refine HP5.out.mono ?_
                rintro e w6 ⟨rfl, hb6⟩
                have HV6 := Lib.hid (HV5.out.below hb6)
                have HB6 := Lib.hid (HB5.out.trans (hb6.mono HB5.out.size))
                clear hb6 d0 d1 d2 HP5 HV5 HB5
                obtain ⟨d0, d1, d2⟩ := HV6.out.1.cells
                have HQ6 := Lib.hid (rpage_c b n k (.slice p us.length c) ⟨hf0, hf1⟩ hk64 w6)
                rw [show pageF b k n = (-1, 0) from by unfold pageF; rw [if_neg HIN.out]] at HQ6
                go_wp2_with fail
                refine HQ6.out.mono ?_
                rintro e w7 ⟨rfl, hb7⟩
                have HV7 := Lib.hid (HV6.out.below hb7)
                have HB7 := Lib.hid (HB6.out.trans (hb7.mono HB6.out.size))
                clear hb7 d0 d1 d2 HQ6 HV6 HB6
                go_wp2
                go_roundw
                case rel => exact ⟨i + 1, by omega, by go_num, HV7.out, HB7.out⟩
                case measure => simp [pIntOf]; omega
              · have hn0' : n < 0 := by omega
                rw [show wordM b k us n = (0, 2) from by unfold wordM; rw [if_pos HRX.out, if_neg (by rw [HH.out]; simp)]] at HW1
                go_wp2_with fail
                refine HW1.out.mono ?_
                rintro e w5 ⟨rfl, hb5⟩
                have HV5 := Lib.hid (HR.out.1.below hb5)
                have HB5 := Lib.hid (HR.out.2.trans (hb5.mono HR.out.2.size))
                clear hb5 d0 d1 d2 HW1 hx
                obtain ⟨d0, d1, d2⟩ := HV5.out.1.cells
                have HP5 := Lib.hid (HPAGE.out n w5 HB5.out)
                rw [show pageM b k us n = (0, 0, 2) from by unfold pageM; rw [if_pos HRX.out, if_neg HIN.out]] at HP5
                go_wp2_with fail
                refine HP5.out.mono ?_
                rintro e w6 ⟨rfl, hb6⟩
                have HV6 := Lib.hid (HV5.out.below hb6)
                have HB6 := Lib.hid (HB5.out.trans (hb6.mono HB5.out.size))
                clear hb6 d0 d1 d2 HP5 HV5 HB5
                obtain ⟨d0, d1, d2⟩ := HV6.out.1.cells
                have HQ6 := Lib.hid (rpage_c b n k (.slice p us.length c) ⟨hf0, hf1⟩ hk64 w6)
                rw [show pageF b k n = (-1, 0) from by unfold pageF; rw [if_neg HIN.out]] at HQ6
                go_wp2_with fail
                refine HQ6.out.mono ?_
                rintro e w7 ⟨rfl, hb7⟩
                have HV7 := Lib.hid (HV6.out.below hb7)
                have HB7 := Lib.hid (HB6.out.trans (hb7.mono HB6.out.size))
                clear hb7 d0 d1 d2 HQ6 HV6 HB6
                go_wp2
                go_roundw
                case rel => exact ⟨i + 1, by omega, by go_num, HV7.out, HB7.out⟩
                case measure => simp [pIntOf]; omega
          | true =>
            obtain ⟨hn0, hn1⟩ := has_parts hh
            have HH := Lib.hid hh
            clear hh
            by_cases hin : b ≤ n ∧ n < b + 16 * (k : Int)
            · have HIN := Lib.hid hin
              clear hin
              rw [show wordM b k us n = (b + 16 * n, 0) from by unfold wordM; rw [if_pos HRX.out, if_pos HH.out]] at HW1
              go_wp2_with fail
              refine HW1.out.mono ?_
              rintro e w5 ⟨rfl, hb5⟩
              have HV5 := Lib.hid (HR.out.1.below hb5)
              have HB5 := Lib.hid (HR.out.2.trans (hb5.mono HR.out.2.size))
              clear hb5 d0 d1 d2 HW1 hx
              obtain ⟨d0, d1, d2⟩ := HV5.out.1.cells
              have HP5 := Lib.hid (HPAGE.out n w5 HB5.out)
              rw [show pageM b k us n = ((n - b) / 16, (n - b) % 16, 0) from by unfold pageM; rw [if_pos HRX.out, if_pos HIN.out]] at HP5
              go_wp2_with fail
              refine HP5.out.mono ?_
              rintro e w6 ⟨rfl, hb6⟩
              have HV6 := Lib.hid (HV5.out.below hb6)
              have HB6 := Lib.hid (HB5.out.trans (hb6.mono HB5.out.size))
              clear hb6 d0 d1 d2 HP5 HV5 HB5
              obtain ⟨d0, d1, d2⟩ := HV6.out.1.cells
              have HQ6 := Lib.hid (rpage_c b n k (.slice p us.length c) ⟨hf0, hf1⟩ hk64 w6)
              rw [show pageF b k n = ((n - b) / 16, (n - b) % 16) from by unfold pageF; rw [if_pos HIN.out]] at HQ6
              go_wp2_with fail
              refine HQ6.out.mono ?_
              rintro e w7 ⟨rfl, hb7⟩
              have HV7 := Lib.hid (HV6.out.below hb7)
              have HB7 := Lib.hid (HB6.out.trans (hb7.mono HB6.out.size))
              clear hb7 d0 d1 d2 HQ6 HV6 HB6
              have hq0 : 0 ≤ (n - b) / 16 := by have := HIN.out; omega
              go_wp2
              go_roundw
              case rel => exact ⟨i + 1, by omega, by go_num, HV7.out, HB7.out⟩
              case measure => simp [pIntOf]; omega
            · have HIN := Lib.hid hin
              clear hin
              rw [show wordM b k us n = (b + 16 * n, 0) from by unfold wordM; rw [if_pos HRX.out, if_pos HH.out]] at HW1
              go_wp2_with fail
              refine HW1.out.mono ?_
              rintro e w5 ⟨rfl, hb5⟩
              have HV5 := Lib.hid (HR.out.1.below hb5)
              have HB5 := Lib.hid (HR.out.2.trans (hb5.mono HR.out.2.size))
              clear hb5 d0 d1 d2 HW1 hx
              obtain ⟨d0, d1, d2⟩ := HV5.out.1.cells
              have HP5 := Lib.hid (HPAGE.out n w5 HB5.out)
              rw [show pageM b k us n = (0, 0, 2) from by unfold pageM; rw [if_pos HRX.out, if_neg HIN.out]] at HP5
              go_wp2_with fail
              refine HP5.out.mono ?_
              rintro e w6 ⟨rfl, hb6⟩
              have HV6 := Lib.hid (HV5.out.below hb6)
              have HB6 := Lib.hid (HB5.out.trans (hb6.mono HB5.out.size))
              clear hb6 d0 d1 d2 HP5 HV5 HB5
              obtain ⟨d0, d1, d2⟩ := HV6.out.1.cells
              have HQ6 := Lib.hid (rpage_c b n k (.slice p us.length c) ⟨hf0, hf1⟩ hk64 w6)
              rw [show pageF b k n = (-1, 0) from by unfold pageF; rw [if_neg HIN.out]] at HQ6
              go_wp2_with fail
              refine HQ6.out.mono ?_
              rintro e w7 ⟨rfl, hb7⟩
              have HV7 := Lib.hid (HV6.out.below hb7)
              have HB7 := Lib.hid (HB6.out.trans (hb7.mono HB6.out.size))
              clear hb7 d0 d1 d2 HQ6 HV6 HB6
              go_wp2
              go_roundw
              case rel => exact ⟨i + 1, by omega, by go_num, HV7.out, HB7.out⟩
              case measure => simp [pIntOf]; omega
    · have HBF := Lib.hid (below_then HB3.out HB3.out.size HR.out.2)
      go_wp2
      go_ret
      exact ⟨rfl, HBF.out⟩

end Go.Proofs.Ythjkaabbbhfjhaa
