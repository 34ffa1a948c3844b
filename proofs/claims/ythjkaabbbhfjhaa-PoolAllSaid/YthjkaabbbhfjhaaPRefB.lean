/-
  The reference's Same.
  Conditions: rows have at most 2 to the power 62 numbers.
-/
import Derived.Test.YthjkaabbbhfjhaaPRefA
import Derived.Test.YthjkaabbbhfjhaaPSame
namespace Go.Proofs.Ythjkaabbbhfjhaa
open Go.RowKit Go.Shelf
attribute [local go_sem] Oper.semAt_some

set_option maxRecDepth 100000 in
set_option maxHeartbeats 4000000 in
theorem rsame_c (b b' pg pg' : Int) (v v' : Value) (fs gs : List Int) (W : World) (hl : NumsAt W .i64 v fs) (hl' : NumsAt W .i64 v' gs) (hm : fs.length ≤ 4611686018427387904) :
    Calls Try.prog 11 #[.agg #[.int .i64 b, .int .i64 pg, v], .agg #[.int .i64 b', .int .i64 pg', v']] W fun e w' => e = .returned (.bool (sameB b b' pg pg' fs gs)) ∧ Below W.heap.size W w' := by
  obtain ⟨w0, hw0⟩ : ∃ X : World, X = (W.alloc (.cells #[.int .i64 b, .int .i64 pg, v] 24)).alloc (.cells #[.int .i64 b', .int .i64 pg', v'] 24) := ⟨_, rfl⟩
  have hB : Below W.heap.size W w0 := by rw [hw0]; exact below2 _ _ _
  have HL := Lib.hid (And.intro (nums_below hl hB) (nums_below hl' hB))
  obtain ⟨p, c, rfl, -⟩ := hl
  obtain ⟨p', c', rfl, -⟩ := hl'
  have HP := Lib.hid (show PBox w0 W.heap.size b pg (.slice p fs.length c) by rw [hw0]; exact (PBox.new _ _ _ _).below (below1 _ _))
  have HQ := Lib.hid (show PBox w0 (W.heap.size + 1) b' pg' (.slice p' gs.length c') by rw [hw0]; have h := PBox.new (W.alloc (.cells #[.int .i64 b, .int .i64 pg, .slice p fs.length c] 24)) b' pg' (.slice p' gs.length c'); rw [World.size_alloc] at h; exact h)
  have HB := Lib.hid hB
  obtain ⟨r, hr⟩ : ∃ r, r = sameB b b' pg pg' fs gs := ⟨_, rfl⟩
  rw [← hr]
  unfold sameB at hr
  have HW0 := Lib.hid hw0
  obtain ⟨d0, d1, d2⟩ := HP.out.cells
  obtain ⟨e0, e1, e2⟩ := HQ.out.cells
  rw [hw0] at d0 d1 d2 e0 e1 e2
  clear hw0 hB
  by_cases h1 : b = b'
  · subst h1
    by_cases h2 : pg = pg'
    · subst h2
      rw [decide_eq_true (rfl : b = b), decide_eq_true (rfl : pg = pg), Bool.true_and, Bool.true_and] at hr
      by_cases h3 : fs.length = gs.length
      · have hq : ((fs.length : Int) != (gs.length : Int)) = false := by rw [bne_eq_false_iff_eq]; omega
        have HR := Lib.hid hr
        have HLEN := Lib.hid h3
        clear hr h3
        go_enter Try.func11, Try.ntmps11
        go_wp2
        rw [← HW0.out]
        clear d0 d1 d2 e0 e1 e2 HW0 hq
        go_loop [31] (fun iv => ∃ i : Nat, i ≤ fs.length ∧ iv = .int .i64 (i : Int) ∧ Hid (fs.take i = gs.take i)) (fun iv => fs.length - (pIntOf iv).toNat)
        case atStart => exact ⟨0, Nat.zero_le _, rfl, Lib.hid rfl⟩
        case round =>
          obtain ⟨i, hi, rfl, HT⟩ := hrel
          obtain ⟨d0, d1, d2⟩ := HP.out.cells
          obtain ⟨e0, e1, e2⟩ := HQ.out.cells
          by_cases hlt : i < fs.length
          · have hlt' : i < gs.length := by have := HLEN.out; omega
            obtain ⟨q1, cc1, ee1, hc1⟩ := HL.out.1
            injection ee1 with a1 _ a3
            subst a1
            obtain ⟨b1, o1, rfl, hs1⟩ := hc1 (by intro e; rw [e] at hlt; exact absurd hlt (Nat.not_lt_zero _))
            obtain ⟨q2, cc2, ee2, hc2⟩ := HL.out.2
            injection ee2 with a4 _ a6
            subst a4
            obtain ⟨b2, o2, rfl, hs2⟩ := hc2 (by intro e; rw [e] at hlt'; exact absurd hlt' (Nat.not_lt_zero _))
            have hx := hs1 i hlt
            have hy := hs2 i hlt'
            have ht1 := List.take_succ_eq_append_getElem hlt
            have ht2 := List.take_succ_eq_append_getElem hlt'
            have hg1 : fs[i]? = some fs[i] := List.getElem?_eq_getElem hlt
            have hg2 : gs[i]? = some gs[i] := List.getElem?_eq_getElem hlt'
            obtain ⟨x, hxe⟩ : ∃ x, x = fs[i] := ⟨_, rfl⟩
            obtain ⟨y, hye⟩ : ∃ y, y = gs[i] := ⟨_, rfl⟩
            rw [← hxe] at hx ht1 hg1
            rw [← hye] at hy ht2 hg2
            have HG := Lib.hid (And.intro (And.intro ht1 ht2) (And.intro hg1 hg2))
            clear hc1 hc2 hs1 hs2 ht1 ht2 hxe hye a3 a6 hg1 hg2
            by_cases hxy : x = y
            · subst hxy
              have HT2 := Lib.hid (show fs.take (i + 1) = gs.take (i + 1) by rw [HG.out.1.1, HG.out.1.2, HT.out])
              go_wp2
              go_round
              case rel => exact ⟨i + 1, by omega, by go_num, HT2⟩
              case measure => simp [pIntOf]; omega
            · have hne : (x != y) = true := by rw [bne_iff_ne]; exact hxy
              have HRF := Lib.hid (show r = false by rw [HR.out]; refine decide_eq_false fun e => hxy ?_; have h1 := HG.out.2.1; rw [e, HG.out.2.2] at h1; injection h1 with h1; exact h1.symm)
              clear hxy
              go_wp2
              go_ret
              exact ⟨by rw [HRF.out]; rfl, HB.out⟩
          · have HRF := Lib.hid (show r = true by
              rw [HR.out]; have h := HT.out; rw [List.take_of_length_le (by omega), List.take_of_length_le (by have := HLEN.out; omega)] at h; exact decide_eq_true h)
            go_wp2
            go_ret
            exact ⟨by rw [HRF.out]; rfl, HB.out⟩
      · have hq : ((fs.length : Int) != (gs.length : Int)) = true := by rw [bne_iff_ne]; omega
        have HRF := Lib.hid (show r = false by rw [hr]; exact decide_eq_false fun e => h3 (by rw [e]))
        clear hr h3
        go_enter Try.func11, Try.ntmps11
        go_wp2
        rw [← HW0.out]
        go_ret
        exact ⟨by rw [HRF.out]; rfl, HB.out⟩
    · have q2 : (pg != pg') = true := by rw [bne_iff_ne]; exact h2
      have HRF := Lib.hid (show r = false by rw [hr, decide_eq_false h2, Bool.false_and, Bool.and_false])
      clear hr h2
      go_enter Try.func11, Try.ntmps11
      go_wp2
      rw [← HW0.out]
      go_ret
      exact ⟨by rw [HRF.out]; rfl, HB.out⟩
  · have q1 : (b != b') = true := by rw [bne_iff_ne]; exact h1
    have HRF := Lib.hid (show r = false by rw [hr, decide_eq_false h1, Bool.false_and])
    clear hr h1
    go_enter Try.func11, Try.ntmps11
    go_wp2
    rw [← HW0.out]
    go_ret
    exact ⟨by rw [HRF.out]; rfl, HB.out⟩

end Go.Proofs.Ythjkaabbbhfjhaa
