/-
  SizeFits returns true for every number of words; what was in memory stays.
  Conditions: the package's table of sizes is as it was laid; the range of Go's int.
-/
import Derived.Test.YtklbbcaebdfjeaaDoorZWakes
namespace Go.Proofs.YtklbbcaebdfjeaaDoor
open Go.RowKit Go.Shelf
attribute [local go_sem] Oper.semAt_some

set_option maxRecDepth 100000 in
set_option maxHeartbeats 8000000 in
theorem fits_walk (n : Int) (hn : I64 n) (W : World) (hT : Tab W) : Calls Tryd.prog 9 #[.int .i64 n] W fun e w' => e = .returned (.bool true) ∧ Below W.heap.size W w' := by
  have HW := Lib.hid (wakes_c W hT)
  have HT := Lib.hid hT
  have HN := Lib.hid hn
  obtain ⟨hn1, hn2⟩ := hn
  clear hT
  have hcase : n < 1 ∨ 16 < n ∨ (1 ≤ n ∧ n ≤ 2) ∨ (3 ≤ n ∧ n ≤ 4) ∨ (5 ≤ n ∧ n ≤ 8) ∨ (9 ≤ n ∧ n ≤ 16) := by omega
  rcases hcase with h | h | ⟨h, h'⟩ | ⟨h, h'⟩ | ⟨h, h'⟩ | ⟨h, h'⟩
  · have HC := Lib.hid (fun (X : World) (hX : Tab X) => class_c n HN.out X hX)
    rw [show classA n = (0, 2) by unfold classA; rw [if_pos h]] at HC
    go_enter Tryd.func9, Tryd.ntmps9
    go_wp2_with fail
    refine HW.out.mono ?_
    rintro e w1 ⟨rfl, hb1⟩
    have HT1 := Lib.hid (HT.out.below hb1)
    have HB1 := Lib.hid hb1
    clear HW hb1 HT
    go_wp2_with fail
    refine (HC.out _ HT1.out).mono ?_
    rintro e w2 ⟨rfl, hb2⟩
    have HT2 := Lib.hid (HT1.out.below hb2)
    have HB2 := Lib.hid (below_then HB1.out HB1.out.size hb2)
    clear HC hb2 HT1 HB1
    dsimp only
    have hd : (decide (n < 1) == true) = true := by rw [decide_eq_true h]; rfl
    go_wp2
    go_ret
    exact ⟨rfl, HB2.out⟩
  · have HC := Lib.hid (fun (X : World) (hX : Tab X) => class_c n HN.out X hX)
    rw [show classA n = (0, 3) by unfold classA; rw [if_neg (by omega), if_pos h]] at HC
    go_enter Tryd.func9, Tryd.ntmps9
    go_wp2_with fail
    refine HW.out.mono ?_
    rintro e w1 ⟨rfl, hb1⟩
    have HT1 := Lib.hid (HT.out.below hb1)
    have HB1 := Lib.hid hb1
    clear HW hb1 HT
    go_wp2_with fail
    refine (HC.out _ HT1.out).mono ?_
    rintro e w2 ⟨rfl, hb2⟩
    have HT2 := Lib.hid (HT1.out.below hb2)
    have HB2 := Lib.hid (below_then HB1.out HB1.out.size hb2)
    clear HC hb2 HT1 HB1
    dsimp only
    have hd : (decide (n < 1) == false) = true := by rw [decide_eq_false (by omega)]; rfl
    go_wp2
    go_ret
    exact ⟨rfl, HB2.out⟩
  · have HC := Lib.hid (fun (X : World) (hX : Tab X) => class_c n HN.out X hX)
    rw [show classA n = (0, 0) by unfold classA; rw [if_neg (by omega), if_neg (by omega)]; unfold clsN; rw [if_pos (by omega)]; rfl] at HC
    go_enter Tryd.func9, Tryd.ntmps9
    go_wp2_with fail
    refine HW.out.mono ?_
    rintro e w1 ⟨rfl, hb1⟩
    have HT1 := Lib.hid (HT.out.below hb1)
    have HB1 := Lib.hid hb1
    clear HW hb1 HT
    go_wp2_with fail
    refine (HC.out _ HT1.out).mono ?_
    rintro e w2 ⟨rfl, hb2⟩
    have HT2 := Lib.hid (HT1.out.below hb2)
    have HB2 := Lib.hid (below_then HB1.out HB1.out.size hb2)
    clear HC hb2 HT1 HB1
    dsimp only
    have H1 := Lib.hid (words_c 0 w2 HT2.out)
    rw [show isB 0 = true by decide, if_pos rfl, if_pos rfl, show ((szN (Int.toNat 0) : Nat) : Int) = 2 by decide] at H1
    have H2 := Lib.hid (manyF_c 0 w2 HT2.out)
    rw [show isB 0 = true by decide, if_pos rfl, if_pos rfl, show ((16 / szN (Int.toNat 0) : Nat) : Int) = 8 by decide] at H2
    have H3 := Lib.hid (words_c (-1) w2 HT2.out)
    rw [show (if isB (-1) = true then ((szN (Int.toNat (-1)) : Nat) : Int) else 0) = 0 by decide, show (if isB (-1) = true then (0 : Int) else 2) = 2 by decide] at H3
    go_wp2_with fail
    refine H1.out.mono ?_
    rintro e w3 ⟨rfl, rfl⟩
    clear H1
    dsimp only
    go_wp2_with fail
    refine H2.out.mono ?_
    rintro e w4 ⟨rfl, rfl⟩
    clear H2
    dsimp only
    go_wp2_with fail
    refine H3.out.mono ?_
    rintro e w5 ⟨rfl, rfl⟩
    clear H3
    dsimp only
    go_wp2
    go_ret
    exact ⟨rfl, HB2.out⟩
  · have HC := Lib.hid (fun (X : World) (hX : Tab X) => class_c n HN.out X hX)
    rw [show classA n = (1, 0) by unfold classA; rw [if_neg (by omega), if_neg (by omega)]; unfold clsN; rw [if_neg (by omega), if_pos (by omega)]; rfl] at HC
    go_enter Tryd.func9, Tryd.ntmps9
    go_wp2_with fail
    refine HW.out.mono ?_
    rintro e w1 ⟨rfl, hb1⟩
    have HT1 := Lib.hid (HT.out.below hb1)
    have HB1 := Lib.hid hb1
    clear HW hb1 HT
    go_wp2_with fail
    refine (HC.out _ HT1.out).mono ?_
    rintro e w2 ⟨rfl, hb2⟩
    have HT2 := Lib.hid (HT1.out.below hb2)
    have HB2 := Lib.hid (below_then HB1.out HB1.out.size hb2)
    clear HC hb2 HT1 HB1
    dsimp only
    have H1 := Lib.hid (words_c 1 w2 HT2.out)
    rw [show isB 1 = true by decide, if_pos rfl, if_pos rfl, show ((szN (Int.toNat 1) : Nat) : Int) = 4 by decide] at H1
    have H2 := Lib.hid (manyF_c 1 w2 HT2.out)
    rw [show isB 1 = true by decide, if_pos rfl, if_pos rfl, show ((16 / szN (Int.toNat 1) : Nat) : Int) = 4 by decide] at H2
    have H3 := Lib.hid (words_c (0) w2 HT2.out)
    rw [show (if isB (0) = true then ((szN (Int.toNat (0)) : Nat) : Int) else 0) = 2 by decide, show (if isB (0) = true then (0 : Int) else 2) = 0 by decide] at H3
    go_wp2_with fail
    refine H1.out.mono ?_
    rintro e w3 ⟨rfl, rfl⟩
    clear H1
    dsimp only
    go_wp2_with fail
    refine H2.out.mono ?_
    rintro e w4 ⟨rfl, rfl⟩
    clear H2
    dsimp only
    go_wp2_with fail
    refine H3.out.mono ?_
    rintro e w5 ⟨rfl, rfl⟩
    clear H3
    dsimp only
    go_wp2
    go_ret
    exact ⟨rfl, HB2.out⟩
  · have HC := Lib.hid (fun (X : World) (hX : Tab X) => class_c n HN.out X hX)
    rw [show classA n = (2, 0) by unfold classA; rw [if_neg (by omega), if_neg (by omega)]; unfold clsN; rw [if_neg (by omega), if_neg (by omega), if_pos (by omega)]; rfl] at HC
    go_enter Tryd.func9, Tryd.ntmps9
    go_wp2_with fail
    refine HW.out.mono ?_
    rintro e w1 ⟨rfl, hb1⟩
    have HT1 := Lib.hid (HT.out.below hb1)
    have HB1 := Lib.hid hb1
    clear HW hb1 HT
    go_wp2_with fail
    refine (HC.out _ HT1.out).mono ?_
    rintro e w2 ⟨rfl, hb2⟩
    have HT2 := Lib.hid (HT1.out.below hb2)
    have HB2 := Lib.hid (below_then HB1.out HB1.out.size hb2)
    clear HC hb2 HT1 HB1
    dsimp only
    have H1 := Lib.hid (words_c 2 w2 HT2.out)
    rw [show isB 2 = true by decide, if_pos rfl, if_pos rfl, show ((szN (Int.toNat 2) : Nat) : Int) = 8 by decide] at H1
    have H2 := Lib.hid (manyF_c 2 w2 HT2.out)
    rw [show isB 2 = true by decide, if_pos rfl, if_pos rfl, show ((16 / szN (Int.toNat 2) : Nat) : Int) = 2 by decide] at H2
    have H3 := Lib.hid (words_c (1) w2 HT2.out)
    rw [show (if isB (1) = true then ((szN (Int.toNat (1)) : Nat) : Int) else 0) = 4 by decide, show (if isB (1) = true then (0 : Int) else 2) = 0 by decide] at H3
    go_wp2_with fail
    refine H1.out.mono ?_
    rintro e w3 ⟨rfl, rfl⟩
    clear H1
    dsimp only
    go_wp2_with fail
    refine H2.out.mono ?_
    rintro e w4 ⟨rfl, rfl⟩
    clear H2
    dsimp only
    go_wp2_with fail
    refine H3.out.mono ?_
    rintro e w5 ⟨rfl, rfl⟩
    clear H3
    dsimp only
    go_wp2
    go_ret
    exact ⟨rfl, HB2.out⟩
  · have HC := Lib.hid (fun (X : World) (hX : Tab X) => class_c n HN.out X hX)
    rw [show classA n = (3, 0) by unfold classA; rw [if_neg (by omega), if_neg (by omega)]; unfold clsN; rw [if_neg (by omega), if_neg (by omega), if_neg (by omega)]; rfl] at HC
    go_enter Tryd.func9, Tryd.ntmps9
    go_wp2_with fail
    refine HW.out.mono ?_
    rintro e w1 ⟨rfl, hb1⟩
    have HT1 := Lib.hid (HT.out.below hb1)
    have HB1 := Lib.hid hb1
    clear HW hb1 HT
    go_wp2_with fail
    refine (HC.out _ HT1.out).mono ?_
    rintro e w2 ⟨rfl, hb2⟩
    have HT2 := Lib.hid (HT1.out.below hb2)
    have HB2 := Lib.hid (below_then HB1.out HB1.out.size hb2)
    clear HC hb2 HT1 HB1
    dsimp only
    have H1 := Lib.hid (words_c 3 w2 HT2.out)
    rw [show isB 3 = true by decide, if_pos rfl, if_pos rfl, show ((szN (Int.toNat 3) : Nat) : Int) = 16 by decide] at H1
    have H2 := Lib.hid (manyF_c 3 w2 HT2.out)
    rw [show isB 3 = true by decide, if_pos rfl, if_pos rfl, show ((16 / szN (Int.toNat 3) : Nat) : Int) = 1 by decide] at H2
    have H3 := Lib.hid (words_c (2) w2 HT2.out)
    rw [show (if isB (2) = true then ((szN (Int.toNat (2)) : Nat) : Int) else 0) = 8 by decide, show (if isB (2) = true then (0 : Int) else 2) = 0 by decide] at H3
    go_wp2_with fail
    refine H1.out.mono ?_
    rintro e w3 ⟨rfl, rfl⟩
    clear H1
    dsimp only
    go_wp2_with fail
    refine H2.out.mono ?_
    rintro e w4 ⟨rfl, rfl⟩
    clear H2
    dsimp only
    go_wp2_with fail
    refine H3.out.mono ?_
    rintro e w5 ⟨rfl, rfl⟩
    clear H3
    dsimp only
    go_wp2
    go_ret
    exact ⟨rfl, HB2.out⟩

end Go.Proofs.YtklbbcaebdfjeaaDoor
