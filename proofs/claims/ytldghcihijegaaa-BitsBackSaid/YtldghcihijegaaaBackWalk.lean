/-
  The walk of BitsBack: it returns true, for every word, number and text, and leaves memory as it was.
  Conditions: none.
-/
import Derived.Test.YtldghcihijegaaaSays
import Derived.Deep.DeepCutAuto
namespace Go.Proofs.Ytldghcihijegaaa
open Go.RowKit Go.Shelf

set_option maxRecDepth 100000 in
set_option maxHeartbeats 4000000 in
theorem bitsBack_walk (w : Nat) (hw : w < 18446744073709551616) (n : Int) (hn : I64 n) (s : ByteArray) (hs : s.size ≤ maxLen) (W : World) :
    Calls Try.prog 8 #[.int .u64 w, .int .i64 n, .string s] W fun e w' => e = .returned (.bool true) ∧ Below W.heap.size W w' := by
  unfold I64 at hn
  unfold maxLen at hs
  go_enter Try.func8, Try.ntmps8
  go_wp2_with fail
  refine (wakes_c _).mono ?_
  rintro e w1 ⟨rfl, hB⟩
  go_upto_if 35 with (go_at_call 27; refine (turn_any w hw n _).mono ?_; rintro e w2 ⟨⟨v, c, hsays, rfl⟩, hb2⟩)
  go_cut [] (fun wc => Below W.heap.size W wc)
  case first =>
    have hB2 := below_then hB hB.size hb2
    clear hb2
    rcases hsays with ⟨_, rfl, rfl⟩ | ⟨m, rfl, _, _, rfl, rfl⟩ | ⟨m, rfl, hm, hf, rfl, rfl⟩
    · go_wp2
      go_meet
      exact hB2
    · go_wp2
      go_meet
      exact hB2
    · have ht := turnN_lt w m
      have ht64 : turnN w m < 18446744073709551616 := Nat.lt_of_lt_of_le ht (pow_le_64 hm)
      have htt := turnN_turnN w m (of_decide_eq_true hf)
      have hfit : fitsB (turnN w m) m = true := by simpa [fitsB] using ht
      have HT := Lib.hid htt
      clear htt
      go_wp2_with fail
      refine (turn_yes (turnN w m) m ht64 hm hfit _).mono ?_
      rintro e w3 ⟨rfl, hb3⟩
      rw [HT.out]
      go_wp2
      go_meet
      exact below_then hB2 hB2.size hb3
  case rest =>
  clear hb2 hsays hB
  go_upto_if 56 with (go_at_call 31; refine (signed_any w n _).mono ?_; rintro e w3 ⟨⟨v2, c2, hsays2, rfl⟩, rfl⟩)
  go_cut [] (fun wc => Below W.heap.size W wc)
  case first =>
    rcases hsays2 with ⟨_, rfl, rfl⟩ | ⟨m, rfl, h1, hm, rfl, rfl⟩
    · go_wp2
      go_meet
      exact hcut
    · have hu := uns_sgn w m h1
      have hg : getN w 0 m = w % 2 ^ m := by simp [getN]
      have HU := Lib.hid hu
      have HG := Lib.hid hg
      clear hu hg
      go_wp2_with fail
      refine (unsigned_yes (sgnN w m) m h1 hm (sgn_range w m) _).mono ?_
      rintro e w4 ⟨rfl, hb4⟩
      rw [HU.out]
      have hB4 := below_then hcut hcut.size hb4
      clear hb4
      go_wp2_with fail
      refine (get_yes w hw 0 m h1 (by omega) _).mono ?_
      rintro e w5 ⟨rfl, hb5⟩
      rw [HG.out]
      go_wp2
      go_meet
      exact below_then hB4 hB4.size hb5
  case rest =>
  clear hsays2
  go_upto_region 15 with (go_at_call 25; refine (left_any w hw n _).mono ?_; rintro e w3 ⟨⟨v3, c3, hsays3, rfl⟩, rfl⟩)
  go_cut [95] (fun s95 wc => s95 = .bool false ∧ Below W.heap.size W wc)
  case first =>
    rcases hsays3 with ⟨_, rfl, rfl⟩ | ⟨m, rfl, _, rfl, rfl⟩ | ⟨m, rfl, hlt, rfl, rfl⟩
    · go_wp2
      go_meet
      exact ⟨rfl, hcut⟩
    · go_wp2
      go_meet
      exact ⟨rfl, hcut⟩
    · have hr : w * 2 ^ m / 2 ^ m = w := Nat.mul_div_cancel _ (Nat.two_pow_pos m)
      have HR := Lib.hid hr
      clear hr
      go_wp2_with fail
      refine (right_c (w * 2 ^ m) m hlt _).mono ?_
      rintro e w4 ⟨rfl, rfl⟩
      rw [Int.toNat_natCast, HR.out]
      go_wp2
      go_meet
      exact ⟨by simp, hcut⟩
  case rest =>
  clear hsays3
  obtain ⟨rfl, hB⟩ := hcut
  go_upto_region 17 with fail
  go_cut [2] (fun s2 wc => (∃ s' : ByteArray, s2 = .string s' ∧ s'.size ≤ maxLen) ∧ Below W.heap.size W wc)
  case first =>
    by_cases h12 : s.size < 12
    · go_wp2
      all_goals go_meet
      all_goals exact ⟨⟨s, by first | rfl | simp, hs⟩, hB⟩
    · go_wp2
      all_goals go_meet
      all_goals exact ⟨⟨_, rfl, by simp [maxLen]; omega⟩, hB⟩
  case rest =>
  obtain ⟨⟨t, ht, htl⟩, hB2⟩ := hcut
  subst ht
  go_upto_if 107 with (go_at_call 35; refine (text_any t htl _).mono ?_; rintro e w4 ⟨⟨v4, c4, hsays4, rfl⟩, hb4⟩)
  go_cut [] (fun wc => Below W.heap.size W wc)
  case first =>
    have hB4 := below_then hB2 hB2.size hb4
    clear hb4
    rcases hsays4 with ⟨_, rfl, rfl⟩ | ⟨_, _, rfl, rfl⟩ | ⟨hl8, hnul, rfl, rfl⟩
    · go_wp2
      go_meet
      exact hB4
    · go_wp2
      go_meet
      exact hB4
    · go_wp2_with fail
      refine (back_yes t.data.toList hl8 hnul _).mono ?_
      rintro e w5 ⟨rfl, hb5⟩
      rw [show (⟨t.data.toList.toArray⟩ : ByteArray) = t by simp]
      go_wp2
      go_meet
      exact below_then hB4 hB4.size hb5
  case rest =>
  clear hsays4 hb4 hB2
  go_upto_if 126 with (go_at_call 38; refine (back_any w hw _).mono ?_; rintro e w5 ⟨⟨s5, c5, hsays5, rfl⟩, hb5⟩)
  have hB5 := below_then hcut hcut.size hb5
  clear hb5
  rcases hsays5 with ⟨_, rfl, rfl⟩ | ⟨l, ⟨hl8, hnul, hwl⟩, rfl, rfl⟩
  · go_wp2
    go_ret
    exact ⟨rfl, hB5⟩
  · have HW := Lib.hid hwl
    clear hwl
    go_wp2_with fail
    refine (text_c ⟨l.toArray⟩ (by simpa [ByteArray.size] using hl8) _).mono ?_
    rintro e w6 ⟨rfl, hb6⟩
    have hv : textV (⟨l.toArray⟩ : ByteArray).data.toList = w := by rw [HW.out]; simp [textV, hnul]
    have he : textE (⟨l.toArray⟩ : ByteArray).data.toList = 0 := by simp [textE, hnul]
    rw [hv, he]
    clear hv he
    go_wp2
    go_ret
    exact ⟨rfl, below_then hB5 hB5.size hb6⟩

end Go.Proofs.Ytldghcihijegaaa
