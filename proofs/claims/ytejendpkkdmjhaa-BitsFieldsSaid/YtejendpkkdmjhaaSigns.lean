/-
  Signed and Unsigned of package bits, for every word, number, and number of bits.
  Conditions: none but the ranges of Go's types.
-/
import Derived.Test.YtejendpkkdmjhaaBits
namespace Go.Proofs.Ytejendpkkdmjhaa
open Go.RowKit Go.Shelf

/-- What the lowest n bits say, the highest of them counting as minus what it would be (n at least 1). -/
def sgnN (w n : Nat) : Int := (w % 2 ^ (n - 1) : Nat) - (2 ^ (n - 1) * bitN w (n - 1) : Nat)
/-- The lowest n bits of a number. -/
def unsN (x : Int) (n : Nat) : Nat := (x % ((2 ^ n : Nat) : Int)).toNat
/-- Can n bits say the number? -/
def inN (x : Int) (n : Nat) : Prop := -((2 ^ (n - 1) : Nat) : Int) ≤ x ∧ x < ((2 ^ (n - 1) : Nat) : Int)

theorem sgn_val (w n : Nat) (h1 : 1 ≤ n) (h2 : n ≤ 64) : wrap64 (IntKind.u64.wrap ((w : Int) * 2 ^ (64 - n))) / 2 ^ (64 - n) = sgnN w n := by
  obtain ⟨m, rfl⟩ : ∃ m, n = m + 1 := ⟨n - 1, by omega⟩
  obtain ⟨s, hs⟩ : ∃ s, s = 64 - (m + 1) := ⟨_, rfl⟩
  have hms : m + s = 63 := by omega
  rw [← hs]
  have hS : (2 : Int) ^ s = ((2 ^ s : Nat) : Int) := by simp
  have hpos : 0 < 2 ^ s := Nat.two_pow_pos s
  have h63 : 2 ^ m * 2 ^ s = 9223372036854775808 := by rw [← Nat.pow_add, hms]
  have hmod : w * 2 ^ s % 18446744073709551616 = (w % 2 ^ m) * 2 ^ s + 9223372036854775808 * bitN w m := by
    rw [show 18446744073709551616 = 2 ^ (m + 1) * 2 ^ s by rw [← Nat.pow_add, show m + 1 + s = 64 by omega], Nat.mul_mod_mul_right, Nat.mod_pow_succ, Nat.add_mul]
    show _ + 2 ^ m * bitN w m * 2 ^ s = _
    rw [Nat.mul_right_comm, h63]
  have hr : (w % 2 ^ m) * 2 ^ s < 9223372036854775808 := by
    rw [← h63]; exact Nat.mul_lt_mul_of_pos_right (Nat.mod_lt _ (Nat.two_pow_pos m)) hpos
  have hb := bitN_le w m
  have hu : IntKind.u64.wrap ((w : Int) * 2 ^ s) = ((w * 2 ^ s % 18446744073709551616 : Nat) : Int) := by
    rw [wrap_u64]; simp
  have hw64 : wrap64 (IntKind.u64.wrap ((w : Int) * 2 ^ s)) = (((w % 2 ^ m : Nat) : Int) - ((2 ^ m * bitN w m : Nat) : Int)) * ((2 ^ s : Nat) : Int) := by
    rw [hu, hmod, Int.sub_mul, ← Int.natCast_mul, ← Int.natCast_mul, show 2 ^ m * bitN w m * 2 ^ s = 9223372036854775808 * bitN w m by rw [Nat.mul_right_comm, h63]]
    unfold wrap64
    omega
  rw [hw64, hS, Int.mul_ediv_cancel _ (by omega)]
  rfl

theorem sgn_range (w n : Nat) : inN (sgnN w n) n := by
  have h := Nat.mod_lt w (Nat.two_pow_pos (n - 1))
  have hb := bitN_le w (n - 1)
  unfold inN sgnN
  have hm : 2 ^ (n - 1) * bitN w (n - 1) ≤ 2 ^ (n - 1) := by
    rcases Nat.le_one_iff_eq_zero_or_eq_one.1 hb with e | e <;> rw [e] <;> simp
  omega
theorem sgn_cong (w n : Nat) (h1 : 1 ≤ n) : ∃ q : Int, sgnN w n = w - ((2 ^ n : Nat) : Int) * q := by
  obtain ⟨m, rfl⟩ : ∃ m, n = m + 1 := ⟨n - 1, by omega⟩
  refine ⟨(w / 2 ^ (m + 1) + bitN w m : Nat), ?_⟩
  have h := Nat.div_add_mod w (2 ^ (m + 1))
  rw [Nat.mod_pow_succ] at h
  unfold sgnN
  simp only [Nat.add_sub_cancel]
  rw [← Int.natCast_mul, Nat.mul_add, show 2 ^ (m + 1) * bitN w m = 2 ^ m * bitN w m + 2 ^ m * bitN w m by rw [Nat.pow_succ, Nat.mul_assoc, Nat.two_mul, Nat.mul_add]]
  have : 2 ^ m * (w / 2 ^ m % 2) = 2 ^ m * bitN w m := rfl
  omega
theorem uns_eq (x : Int) (n : Nat) : (unsN x n : Int) = x - ((2 ^ n : Nat) : Int) * (x / ((2 ^ n : Nat) : Int)) := by
  have hp := Nat.two_pow_pos n
  have h0 := Int.emod_nonneg x (show ((2 ^ n : Nat) : Int) ≠ 0 by omega)
  have h := Int.mul_ediv_add_emod x ((2 ^ n : Nat) : Int)
  unfold unsN
  omega
theorem uns_lt (x : Int) (n : Nat) : unsN x n < 2 ^ n := by
  have hp := Nat.two_pow_pos n
  have h0 := Int.emod_nonneg x (show ((2 ^ n : Nat) : Int) ≠ 0 by omega)
  have h := Int.emod_lt_of_pos x (show (0 : Int) < ((2 ^ n : Nat) : Int) by omega)
  unfold unsN
  omega
theorem sgn_uns (x : Int) (n : Nat) (h1 : 1 ≤ n) (h : inN x n) : sgnN (unsN x n) n = x := by
  obtain ⟨q, hq⟩ := sgn_cong (unsN x n) n h1
  rw [uns_eq] at hq
  have hr := sgn_range (unsN x n) n
  unfold inN at h hr
  generalize sgnN (unsN x n) n = s at *
  obtain ⟨m, rfl⟩ : ∃ m, n = m + 1 := ⟨n - 1, by omega⟩
  simp only [Nat.add_sub_cancel] at h hr
  generalize x / ((2 ^ (m + 1) : Nat) : Int) = d at *
  have hP : ((2 ^ (m + 1) : Nat) : Int) = 2 * ((2 ^ m : Nat) : Int) := by rw [Nat.pow_succ]; omega
  have hd : s - x = ((2 ^ (m + 1) : Nat) : Int) * (-d - q) := by
    rw [hq, Int.mul_sub, Int.mul_neg]; omega
  have hp := Nat.two_pow_pos m
  rcases Int.lt_trichotomy (-d - q) 0 with t | t | t
  · have := Int.mul_le_mul_of_nonneg_left (show -d - q ≤ -1 by omega) (show (0 : Int) ≤ ((2 ^ (m + 1) : Nat) : Int) by omega)
    omega
  · rw [t] at hd; omega
  · have := Int.mul_le_mul_of_nonneg_left (show 1 ≤ -d - q by omega) (show (0 : Int) ≤ ((2 ^ (m + 1) : Nat) : Int) by omega)
    omega
theorem sgn_uns_no (x : Int) (n : Nat) (h : ¬ inN x n) : sgnN (unsN x n) n ≠ x := fun e => h (e ▸ sgn_range (unsN x n) n)
theorem uns_sgn (w n : Nat) (h1 : 1 ≤ n) : unsN (sgnN w n) n = w % 2 ^ n := by
  obtain ⟨q, hq⟩ := sgn_cong w n h1
  unfold unsN
  rw [hq, Int.sub_mul_emod_self_left, ← Int.natCast_emod]
  exact Int.toNat_natCast _
theorem uns_val (x : Int) (n : Nat) (h2 : n ≤ 64) : bits .and .u64 (IntKind.u64.wrap x) (maskN 0 n : Nat) = (unsN x n : Nat) := by
  have hu : IntKind.u64.wrap x = ((x % 18446744073709551616).toNat : Int) := by rw [wrap_u64]; omega
  rw [hu, u64_and_nat _ _ (by omega) (maskN_64 0 n (by omega)), and_mask]
  congr 1
  unfold getN unsN
  simp only [Nat.pow_zero, Nat.div_one, Nat.mul_one]
  have hdvd : ((2 ^ n : Nat) : Int) ∣ 18446744073709551616 := by
    obtain ⟨d, hd⟩ := Nat.exists_eq_add_of_le h2
    exact ⟨((2 ^ d : Nat) : Int), by rw [← Int.natCast_mul, ← Nat.pow_add, ← hd]; rfl⟩
  have h0 := Int.emod_nonneg x (show (18446744073709551616 : Int) ≠ 0 by omega)
  have := Int.emod_emod_of_dvd x hdvd
  rw [← this]
  have e : (((x % 18446744073709551616).toNat % 2 ^ n : Nat) : Int) = x % 18446744073709551616 % ((2 ^ n : Nat) : Int) := by
    rw [Int.natCast_emod, Int.toNat_of_nonneg h0]
  omega

set_option maxHeartbeats 1000000 in
theorem signed_no (w : Nat) (n : Int) (h : ¬ (1 ≤ n ∧ n ≤ 64)) (W : World) :
    Calls Try.prog 31 #[.int .u64 w, .int .i64 n] W fun e w' => e = .returned (.tuple #[.int .i64 0, .int .i64 2]) ∧ w' = W := by
  by_cases h1 : n < 1
  · go_enter Try.func31, Try.ntmps31
    go_wp2
    go_ret2
    exact ⟨rfl, rfl⟩
  · have h2 : 64 < n := by omega
    go_enter Try.func31, Try.ntmps31
    go_wp2
    go_ret2
    exact ⟨rfl, rfl⟩

set_option maxHeartbeats 1000000 in
theorem signed_yes (w n : Nat) (h1 : 1 ≤ n) (h2 : n ≤ 64) (W : World) :
    Calls Try.prog 31 #[.int .u64 w, .int .i64 n] W fun e w' => e = .returned (.tuple #[.int .i64 (sgnN w n), .int .i64 0]) ∧ w' = W := by
  have h3 : ¬ ((n : Int) < 1) := by omega
  have h4 : ¬ ((64 : Int) < n) := by omega
  go_enter Try.func31, Try.ntmps31
  go_wp2
  go_ret2
  exact ⟨ret_two (val_int (sgn_val w n h1 h2)) rfl, rfl⟩

set_option maxHeartbeats 1000000 in
theorem unsigned_no (x : Int) (n : Int) (h : ¬ (1 ≤ n ∧ n ≤ 64)) (W : World) :
    Calls Try.prog 33 #[.int .i64 x, .int .i64 n] W fun e w' => e = .returned (.tuple #[.int .u64 0, .int .i64 2]) ∧ w' = W := by
  by_cases h1 : n < 1
  · go_enter Try.func33, Try.ntmps33
    go_wp2
    go_ret2
    exact ⟨rfl, rfl⟩
  · have h2 : 64 < n := by omega
    go_enter Try.func33, Try.ntmps33
    go_wp2
    go_ret2
    exact ⟨rfl, rfl⟩

set_option maxHeartbeats 1000000 in
theorem unsigned_yes (x : Int) (n : Nat) (h1 : 1 ≤ n) (h2 : n ≤ 64) (hx : inN x n) (W : World) :
    Calls Try.prog 33 #[.int .i64 x, .int .i64 n] W fun e w' => e = .returned (.tuple #[.int .u64 (unsN x n), .int .i64 0]) ∧ Below W.heap.size W w' := by
  have h3 : ¬ ((n : Int) < 1) := by omega
  have h4 : ¬ ((64 : Int) < n) := by omega
  have hne : (sgnN (unsN x n) n != x) = false := by rw [sgn_uns x n h1 hx]; simp
  go_enter Try.func33, Try.ntmps33
  go_wp2_with fail
  refine (low_c _ _).mono ?_
  rintro e w1 ⟨rfl, hb1⟩
  go_wp2_with fail
  refine (low_mask_c n h2 _).mono ?_
  rintro e w2 ⟨rfl, hb2⟩
  go_wp2_with fail
  rw [uns_val x n h2]
  refine (signed_yes (unsN x n) n h1 h2 _).mono ?_
  rintro e w3 ⟨rfl, rfl⟩
  go_wp2
  go_ret2
  exact ⟨rfl, below_then hb1 hb1.size hb2⟩

set_option maxHeartbeats 1000000 in
theorem unsigned_over (x : Int) (n : Nat) (h1 : 1 ≤ n) (h2 : n ≤ 64) (hx : ¬ inN x n) (W : World) :
    Calls Try.prog 33 #[.int .i64 x, .int .i64 n] W fun e w' => e = .returned (.tuple #[.int .u64 0, .int .i64 111]) ∧ Below W.heap.size W w' := by
  have h3 : ¬ ((n : Int) < 1) := by omega
  have h4 : ¬ ((64 : Int) < n) := by omega
  have hne : (sgnN (unsN x n) n != x) = true := by rw [bne_iff_ne]; exact sgn_uns_no x n hx
  go_enter Try.func33, Try.ntmps33
  go_wp2_with fail
  refine (low_c _ _).mono ?_
  rintro e w1 ⟨rfl, hb1⟩
  go_wp2_with fail
  refine (low_mask_c n h2 _).mono ?_
  rintro e w2 ⟨rfl, hb2⟩
  go_wp2_with fail
  rw [uns_val x n h2]
  refine (signed_yes (unsN x n) n h1 h2 _).mono ?_
  rintro e w3 ⟨rfl, rfl⟩
  go_wp2
  go_ret2
  exact ⟨rfl, below_then hb1 hb1.size hb2⟩

end Go.Proofs.Ytejendpkkdmjhaa
