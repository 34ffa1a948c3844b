/-
  The small functions of package bits: part.is, low, fits, part.of, Left, Right, Get, Set, each for every word, and for the numbers that it is called with.
  Conditions: fits and low are called with 0 to 64 bits; part.of with a field.
-/
import Derived.Test.YtjgdkfgcfningaaDoorMask
import Derived.Test.YtjgdkfgcfningaaDoorGBase
import Derived.Lib.Hide
import Derived.Deep.RegionHeld3
namespace Go.Proofs.YtjgdkfgcfningaaDoor
open Go.RowKit Go.Shelf

theorem ret_two {a b c d : Value} (h : a = c) (h' : b = d) : Ending.returned (.tuple #[a, b]) = .returned (.tuple #[c, d]) := by rw [h, h']
theorem val_int {k : IntKind} {a b : Int} (h : a = b) : Value.int k a = .int k b := by rw [h]

/-- Is it a field? -/
def isF (a k : Int) : Bool := decide (1 ≤ k ∧ 0 ≤ a ∧ a + k ≤ 64)
theorem isF_iff {a k : Int} : isF a k = true ↔ (1 ≤ k ∧ 0 ≤ a ∧ a + k ≤ 64) := by simp [isF]
theorem isF_no {a k : Int} (h : ¬ (1 ≤ k ∧ 0 ≤ a ∧ a + k ≤ 64)) : isF a k = false := by simp only [isF, decide_eq_false_iff_not]; exact h

theorem div_min (w n : Nat) (hw : w < 18446744073709551616) : (w : Int) / 2 ^ min n 64 = (w / 2 ^ n : Nat) := by
  have e : w / 2 ^ min n 64 = w / 2 ^ n := by
    by_cases h : n ≤ 64
    · rw [show min n 64 = n by omega]
    · rw [show min n 64 = 64 by omega, Nat.div_eq_of_lt (show w < 2 ^ 64 from hw), Nat.div_eq_of_lt (Nat.lt_of_lt_of_le hw (Nat.pow_le_pow_right (n := 2) (by decide) (by omega : 64 ≤ n)))]
  rw [← e]; simp
theorem left_min (w n : Nat) (h : w * 2 ^ n < 18446744073709551616) : w * 2 ^ min n 64 = w * 2 ^ n := by
  by_cases h64 : n ≤ 64
  · rw [show min n 64 = n by omega]
  · have hp : 2 ^ 64 ≤ 2 ^ n := Nat.pow_le_pow_right (by decide) (by omega)
    have h0 : w = 0 := by
      rcases Nat.eq_zero_or_pos w with h0 | h0
      · exact h0
      · have := Nat.mul_le_mul h0 hp; simp only [Nat.one_mul] at this; omega
    subst h0; simp
theorem left_val (w n : Nat) (h : w * 2 ^ n < 18446744073709551616) : IntKind.u64.wrap ((w : Int) * 2 ^ min n 64) = (w * 2 ^ n : Nat) := by
  rw [wrap_u64, show (w : Int) * 2 ^ min n 64 = ((w * 2 ^ min n 64 : Nat) : Int) by simp, left_min w n h]
  omega
theorem left_back (w n : Nat) (h : w * 2 ^ n < 18446744073709551616) : (IntKind.u64.wrap ((w : Int) * 2 ^ min n 64) / 2 ^ min n 64 != (w : Int)) = false := by
  rw [left_val w n h, ← left_min w n h, show (2 : Int) ^ min n 64 = ((2 ^ min n 64 : Nat) : Int) by simp, ← Int.natCast_ediv, Nat.mul_div_cancel _ (Nat.two_pow_pos _)]
  simp
theorem left_not_back (w n : Nat) (hw : w < 18446744073709551616) (h : ¬ w * 2 ^ n < 18446744073709551616) : (IntKind.u64.wrap ((w : Int) * 2 ^ min n 64) / 2 ^ min n 64 != (w : Int)) = true := by
  rw [bne_iff_ne]
  intro e
  rw [wrap_u64, show (w : Int) * 2 ^ min n 64 = ((w * 2 ^ min n 64 : Nat) : Int) by simp, show (2 : Int) ^ min n 64 = ((2 ^ min n 64 : Nat) : Int) by simp] at e
  have e2 : w * 2 ^ min n 64 % 18446744073709551616 / 2 ^ min n 64 = w := by
    have h0 : (((w * 2 ^ min n 64 % 18446744073709551616 / 2 ^ min n 64 : Nat)) : Int) = (w : Int) := by simpa using e
    exact Int.ofNat.inj h0
  have h1 : w * 2 ^ min n 64 ≤ w * 2 ^ min n 64 % 18446744073709551616 := by
    have := Nat.div_mul_le_self (w * 2 ^ min n 64 % 18446744073709551616) (2 ^ min n 64)
    rwa [e2] at this
  have h2 : w * 2 ^ min n 64 < 18446744073709551616 := Nat.lt_of_le_of_lt h1 (Nat.mod_lt _ (by decide))
  by_cases h64 : n ≤ 64
  · rw [show min n 64 = n by omega] at h2; exact h h2
  · rw [show min n 64 = 64 by omega] at h2
    have : w = 0 := by omega
    subst this; simp at h

theorem mask_c (a k : Nat) (hak : a + k ≤ 64) (w : World) :
    Calls Tryd.prog 60 #[.func (.func 61) #[partV a k] #[]] w fun e w' => e = .returned (.int .u64 (maskN a k)) ∧ Below w.heap.size w w' :=
  (callsIn_wide (n := 3)).1 (mask_in Fence.wide 3 trivial trivial rfl (by omega) a k hak w)
theorem low_mask_c (k : Nat) (hak : k ≤ 64) (w : World) :
    Calls Tryd.prog 60 #[.func (.func 61) #[partV 0 k] #[]] w fun e w' => e = .returned (.int .u64 (maskN 0 k)) ∧ Below w.heap.size w w' :=
  mask_c 0 k (by omega) w

set_option maxHeartbeats 1000000 in
theorem is_c (a k : Int) (hk1 : -9223372036854775808 ≤ k) (hk2 : k ≤ 9223372036854775807) (w : World) :
    Calls Tryd.prog 63 #[partV a k] w fun e w' => e = .returned (.bool (isF a k)) ∧ Below w.heap.size w w' := by
  by_cases h1 : 1 ≤ k
  · by_cases h2 : 0 ≤ a
    · go_enter Tryd.func63, Tryd.ntmps63
      go_wp2
      go_ret
      exact ⟨ret_bool (by simp only [isF, decide_eq_decide]; omega), (Below.refl _ _).alloc (Nat.le_refl _) _⟩
    · go_enter Tryd.func63, Tryd.ntmps63
      go_wp2
      go_ret
      exact ⟨ret_bool (isF_no (by omega)).symm, (Below.refl _ _).alloc (Nat.le_refl _) _⟩
  · go_enter Tryd.func63, Tryd.ntmps63
    go_wp2
    go_ret
    exact ⟨ret_bool (isF_no (by omega)).symm, (Below.refl _ _).alloc (Nat.le_refl _) _⟩

theorem low_c (k : Int) (w : World) :
    Calls Tryd.prog 64 #[.int .i64 k] w fun e w' => e = .returned (partV 0 k) ∧ Below w.heap.size w w' := by
  go_enter Tryd.func64, Tryd.ntmps64
  go_wp2
  exact bodyPost_ret (v := partV 0 k) (by simp [results, Tryd.results64, go_sem]) rfl ⟨rfl, (Below.refl _ _).alloc (Nat.le_refl _) _⟩


/-- Is the word below 2 to the power n? -/
def fitsB (w n : Nat) : Bool := decide (w < 2 ^ n)

theorem fits_val (w n : Nat) (hw : w < 18446744073709551616) (hn : n ≤ 64) : (bits .andNot .u64 (w : Int) (maskN 0 n : Nat) == 0) = fitsB w n := by
  rw [u64_andNot_nat _ _ hw (maskN_64 0 n (by omega)), Bool.eq_iff_iff]
  have := fits_bits w n hw hn
  simp only [beq_iff_eq, fitsB, decide_eq_true_eq]
  omega

set_option maxHeartbeats 1000000 in
theorem fits_c (w n : Nat) (hw : w < 18446744073709551616) (hn : n ≤ 64) (W : World) :
    Calls Tryd.prog 59 #[.int .u64 w, .int .i64 n] W fun e w' => e = .returned (.bool (fitsB w n)) ∧ Below W.heap.size W w' := by
  go_enter Tryd.func59, Tryd.ntmps59
  go_wp2_with fail
  refine (low_c _ _).mono ?_
  rintro e w1 ⟨rfl, hb1⟩
  go_wp2_with fail
  refine (low_mask_c n hn _).mono ?_
  rintro e w2 ⟨rfl, hb2⟩
  go_wp2
  go_ret
  exact ⟨ret_bool (fits_val w n hw hn), below_then hb1 hb1.size hb2⟩

theorem of_val (w a k : Nat) (hw : w < 18446744073709551616) (hak : a + k ≤ 64) : bits .and .u64 (w : Int) (maskN a k : Nat) / 2 ^ a = (getN w a k : Nat) := by
  rw [u64_and_nat _ _ hw (maskN_64 a k hak), show (2 : Int) ^ a = ((2 ^ a : Nat) : Int) by simp, ← Int.natCast_ediv, and_mask_div]

set_option maxHeartbeats 1000000 in
theorem of_c (w a k : Nat) (hw : w < 18446744073709551616) (hak : a + k ≤ 64) (W : World) :
    Calls Tryd.prog 62 #[partV a k, .int .u64 w] W fun e w' => e = .returned (.int .u64 (getN w a k)) ∧ Below W.heap.size W w' := by
  go_enter Tryd.func62, Tryd.ntmps62
  go_wp2_with fail
  go_region_held3 (fun w' => w'.cell? ⟨W.heap.size, 0, none⟩ = some (.int .i64 a) ∧ w'.cell? ⟨W.heap.size, 1, none⟩ = some (.int .i64 k) ∧ Below W.heap.size W w')
    (first
      | exact ⟨by simp, by simp, (((Below.refl _ _).alloc (Nat.le_refl _) _).drew)⟩
      | go_keep
      | (go_split_ands; exact ⟨below_cell hb1 (by assumption), below_cell hb1 (by assumption), below_then (by assumption) (Below.size (by assumption)) hb1⟩))
    (first | (go_at_call 60; refine (mask_c a k hak _).mono ?_; rintro e w1 ⟨rfl, hb1⟩))
  all_goals go_wp2
  all_goals go_ret
  all_goals go_split_ands
  all_goals exact ⟨ret_int (of_val w a k hw hak), by assumption⟩

end Go.Proofs.YtjgdkfgcfningaaDoor
