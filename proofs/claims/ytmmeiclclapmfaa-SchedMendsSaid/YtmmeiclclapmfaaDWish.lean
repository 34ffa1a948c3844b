/-
  wished of package sched.
  Conditions: the wish is an int; there are from 1 to 8 CPUs.
-/
import Derived.Test.YtmmeiclclapmfaaDFairC
namespace Go.Proofs.Ytmmeiclclapmfaa
open Go.RowKit Go.Shelf

theorem tmod_cases (w : Int) (c : Nat) (hc : 1 ≤ c) : (0 ≤ w.tmod (c : Int) ∧ w.tmod (c : Int) < c ∧ w.tmod (c : Int) = w % (c : Int)) ∨ (w.tmod (c : Int) < 0 ∧ -(c : Int) < w.tmod (c : Int) ∧ w.tmod (c : Int) + c = w % (c : Int)) := by
  by_cases h : 0 ≤ w
  · left
    rw [Int.tmod_eq_emod_of_nonneg h]
    exact ⟨Int.emod_nonneg _ (by omega), Int.emod_lt_of_pos _ (by omega), rfl⟩
  · have h1 : w.tmod (c : Int) = -((-w) % (c : Int)) := by
      have := Int.neg_tmod (a := -w) (b := (c : Int))
      rw [Int.neg_neg] at this
      rw [this, Int.tmod_eq_emod_of_nonneg (by omega)]
    have h2 := Int.emod_nonneg (-w) (show (c : Int) ≠ 0 by omega)
    have h3 := Int.emod_lt_of_pos (-w) (show (0 : Int) < c by omega)
    have h4 := Int.emod_nonneg w (show (c : Int) ≠ 0 by omega)
    have h5 := Int.emod_lt_of_pos w (show (0 : Int) < c by omega)
    have h6 : (w + -w) % (c : Int) = 0 := by rw [Int.add_right_neg]; exact Int.zero_emod _
    rw [Int.add_emod] at h6
    obtain ⟨r, hr⟩ : ∃ r, r = w % (c : Int) := ⟨_, rfl⟩
    obtain ⟨s, hs⟩ : ∃ s, s = (-w) % (c : Int) := ⟨_, rfl⟩
    rw [← hr, ← hs] at h6
    rw [← hr] at h4 h5 ⊢
    rw [← hs] at h1 h2 h3
    rw [h1]
    by_cases h7 : r + s < c
    · rw [Int.emod_eq_of_lt (by omega) h7] at h6
      left; omega
    · have h8 : (r + s) % (c : Int) = r + s - c := by
        rw [← Int.sub_emod_right, Int.emod_eq_of_lt (by omega) (by omega)]
      rw [h8] at h6
      right; omega

set_option maxHeartbeats 4000000 in
theorem wished_c (w : Int) (c : Nat) (hc : 1 ≤ c ∧ c ≤ 8) (hw : -9223372036854775808 ≤ w ∧ w ≤ 9223372036854775807) (W : World) :
    Calls Try.prog 34 #[.int .i64 w, .int .i64 (c : Int)] W fun e w' => e = .returned (.int .i64 (w % (c : Int))) ∧ w' = W := by
  obtain ⟨hc1, hc8⟩ := hc
  obtain ⟨hw1, hw2⟩ := hw
  have hcz : ((c : Int) == 0) = false := by rw [beq_eq_false_iff_ne]; omega
  have hcm : ((c : Int) == -1) = false := by rw [beq_eq_false_iff_ne]; omega
  rcases tmod_cases w c hc1 with ⟨h1, h2, h3⟩ | ⟨h1, h2, h3⟩
  · have H3 := Lib.hid h3
    clear h3
    go_enter Try.func34, Try.ntmps34
    go_wp2
    go_ret
    exact ⟨ret_int H3.out, rfl⟩
  · have H3 := Lib.hid h3
    clear h3
    go_enter Try.func34, Try.ntmps34
    go_wp2
    go_ret
    exact ⟨ret_int H3.out, rfl⟩

end Go.Proofs.Ytmmeiclclapmfaa
