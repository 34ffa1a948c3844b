/-
  Plain mathematics of words: parts of words, words turned round, the highest bit, numbers with a sign; no program.
  Conditions: as each lemma has them.
-/
import Derived.WalkKit
namespace Go.Proofs.YtjgdkfgcfningaaDoor

/-- 2 to the power 64 -/
abbrev W64 : Nat := 18446744073709551616
theorem W64_eq : W64 = 2 ^ 64 := rfl

/-- The word that has 1 at the k places from a on. -/
def maskN (a k : Nat) : Nat := (2 ^ k - 1) * 2 ^ a
/-- What a word has in a field. -/
def getN (w a k : Nat) : Nat := w / 2 ^ a % 2 ^ k
/-- The word with v in the field. -/
def setN (w a k v : Nat) : Nat := 2 ^ (a + k) * (w / 2 ^ (a + k)) + (2 ^ a * v + w % 2 ^ a)

theorem maskN_zero (a : Nat) : maskN a 0 = 0 := by simp [maskN]
theorem maskN_lt (a k : Nat) : maskN a k < 2 ^ (a + k) := by
  unfold maskN
  rw [Nat.pow_add, Nat.mul_comm (2 ^ a)]
  exact Nat.mul_lt_mul_of_pos_right (by have := Nat.two_pow_pos k; omega) (Nat.two_pow_pos a)
theorem maskN_succ (a k : Nat) : maskN a k ||| 2 ^ (a + k) = maskN a (k + 1) := by
  rw [Nat.or_comm, nat_join (a + k) _ _ (Nat.mod_self _) (maskN_lt a k)]
  unfold maskN
  rw [Nat.pow_succ, Nat.pow_add, Nat.mul_comm (2 ^ a), ← Nat.add_mul]
  congr 1
  have := Nat.two_pow_pos k
  omega
theorem maskN_64 (a k : Nat) (h : a + k ≤ 64) : maskN a k < 18446744073709551616 :=
  Nat.lt_of_lt_of_le (maskN_lt a k) (Nat.pow_le_pow_right (n := 2) (by decide) h : 2 ^ (a + k) ≤ 2 ^ 64)
theorem maskN_bit (a k i : Nat) : (maskN a k).testBit i = decide (a ≤ i ∧ i < a + k) := by
  unfold maskN
  rw [Nat.testBit_mul_two_pow, Nat.testBit_two_pow_sub_one]
  by_cases h : a ≤ i <;> by_cases h2 : i < a + k <;> simp [h, h2] <;> omega
theorem notMask_bit (a k i : Nat) (h : a + k ≤ 64) : (18446744073709551615 - maskN a k).testBit i = (decide (i < 64) && !decide (a ≤ i ∧ i < a + k)) := by
  rw [show 18446744073709551615 - maskN a k = 2 ^ 64 - (maskN a k + 1) by have := maskN_64 a k h; omega, Nat.testBit_two_pow_sub_succ (maskN_64 a k h), maskN_bit]

theorem pow_le_64 {n : Nat} (h : n ≤ 64) : 2 ^ n ≤ 18446744073709551616 := Nat.pow_le_pow_right (n := 2) (by decide) h
theorem bit_ge_64 {w i : Nat} (hw : w < 18446744073709551616) (h : 64 ≤ i) : w.testBit i = false := Nat.testBit_lt_two_pow (Nat.lt_of_lt_of_le hw (Nat.pow_le_pow_right (n := 2) (by decide) h))

theorem bit_far {v k i : Nat} (hv : v < 2 ^ k) (h : k ≤ i) : v.testBit i = false := Nat.testBit_lt_two_pow (Nat.lt_of_lt_of_le hv (Nat.pow_le_pow_right (by decide) h))
theorem and_mask (w a k : Nat) : w &&& maskN a k = getN w a k * 2 ^ a := by
  refine Nat.eq_of_testBit_eq fun i => ?_
  unfold getN
  rw [Nat.testBit_and, maskN_bit, Nat.testBit_mul_two_pow, Nat.testBit_mod_two_pow, Nat.testBit_div_two_pow]
  by_cases h : a ≤ i
  · rw [show i - a + a = i by omega]
    by_cases h2 : i < a + k <;> simp [h, h2] <;> omega
  · simp [h]
theorem and_mask_div (w a k : Nat) : (w &&& maskN a k) / 2 ^ a = getN w a k := by
  rw [and_mask, Nat.mul_div_cancel _ (Nat.two_pow_pos a)]
theorem getN_lt (w a k : Nat) : getN w a k < 2 ^ k := Nat.mod_lt _ (Nat.two_pow_pos k)

/-- A word, in three parts. -/
theorem parts (w a k : Nat) : 2 ^ (a + k) * (w / 2 ^ (a + k)) + (2 ^ a * getN w a k + w % 2 ^ a) = w := by
  unfold getN
  have h1 := Nat.div_add_mod w (2 ^ a)
  have h2 := Nat.div_add_mod (w / 2 ^ a) (2 ^ k)
  rw [Nat.div_div_eq_div_mul, ← Nat.pow_add] at h2
  have h3 : 2 ^ a * (2 ^ k * (w / 2 ^ (a + k))) = 2 ^ (a + k) * (w / 2 ^ (a + k)) := by rw [← Nat.mul_assoc, ← Nat.pow_add]
  have h4 : 2 ^ a * (2 ^ k * (w / 2 ^ (a + k)) + w / 2 ^ a % 2 ^ k) = 2 ^ a * (w / 2 ^ a) := by rw [h2]
  rw [Nat.mul_add, h3] at h4
  omega
theorem low_lt (w a k v : Nat) (hv : v < 2 ^ k) : 2 ^ a * v + w % 2 ^ a < 2 ^ (a + k) := by
  have h1 : w % 2 ^ a < 2 ^ a := Nat.mod_lt _ (Nat.two_pow_pos a)
  have h2 : 2 ^ a * (v + 1) ≤ 2 ^ a * 2 ^ k := Nat.mul_le_mul_left _ hv
  rw [← Nat.pow_add, Nat.mul_add] at h2
  omega
theorem setN_bit (w a k v i : Nat) (hv : v < 2 ^ k) : (setN w a k v).testBit i = if a ≤ i ∧ i < a + k then v.testBit (i - a) else w.testBit i := by
  unfold setN
  rw [Nat.testBit_two_pow_mul_add _ (low_lt w a k v hv), Nat.testBit_two_pow_mul_add _ (Nat.mod_lt _ (Nat.two_pow_pos a)), Nat.testBit_div_two_pow, Nat.testBit_mod_two_pow]
  by_cases h1 : i < a
  · simp [h1, show i < a + k by omega, show ¬ a ≤ i by omega]
  · by_cases h2 : i < a + k
    · simp [h1, h2, show a ≤ i by omega]
    · rw [show i - (a + k) + (a + k) = i by omega]
      simp [h2]
theorem setN_lt (w a k v : Nat) (hw : w < 18446744073709551616) (h : a + k ≤ 64) (hv : v < 2 ^ k) : setN w a k v < 18446744073709551616 := by
  refine Nat.lt_pow_two_of_testBit (n := 64) _ fun i hi => ?_
  rw [setN_bit _ _ _ _ _ hv, if_neg (by omega)]
  exact bit_ge_64 hw hi
theorem set_bits (w a k v : Nat) (hw : w < 18446744073709551616) (h : a + k ≤ 64) (hv : v < 2 ^ k) : (w &&& (18446744073709551615 - maskN a k)) ||| v * 2 ^ a = setN w a k v := by
  refine Nat.eq_of_testBit_eq fun i => ?_
  rw [setN_bit _ _ _ _ _ hv, Nat.testBit_or, Nat.testBit_and, notMask_bit _ _ _ h, Nat.testBit_mul_two_pow]
  by_cases h64 : i < 64
  · by_cases h1 : a ≤ i
    · by_cases h2 : i < a + k
      · simp [h1, h2, h64]
      · have : v.testBit (i - a) = false := Nat.testBit_lt_two_pow (Nat.lt_of_lt_of_le hv (Nat.pow_le_pow_right (by decide) (by omega)))
        simp [h1, h2, h64, this]
    · simp [h1, h64]
  · rw [bit_ge_64 hw (by omega), if_neg (by omega)]
    have : v.testBit (i - a) = false := Nat.testBit_lt_two_pow (Nat.lt_of_lt_of_le hv (Nat.pow_le_pow_right (by decide) (by omega)))
    simp [this]
theorem fits_bits (w n : Nat) (hw : w < 18446744073709551616) (h : n ≤ 64) : (w &&& (18446744073709551615 - maskN 0 n) = 0) ↔ w < 2 ^ n := by
  constructor
  · intro e
    refine Nat.lt_pow_two_of_testBit _ fun i hi => ?_
    by_cases h64 : i < 64
    · have := congrArg (fun x => x.testBit i) e
      simp only [Nat.testBit_and, notMask_bit _ _ _ (show 0 + n ≤ 64 by omega), Nat.zero_testBit] at this
      simpa [h64, show ¬ i < n by omega] using this
    · exact bit_ge_64 hw (by omega)
  · intro hlt
    refine Nat.eq_of_testBit_eq fun i => ?_
    rw [Nat.testBit_and, notMask_bit _ _ _ (by omega), Nat.zero_testBit]
    by_cases hi : i < n
    · simp [hi]
    · rw [Nat.testBit_lt_two_pow (Nat.lt_of_lt_of_le hlt (Nat.pow_le_pow_right (by decide) (by omega)))]
      rfl

/-- What is had in a field: of a word that was set there, and of one that was set apart. -/
theorem getN_bit (w a k i : Nat) : (getN w a k).testBit i = (decide (i < k) && w.testBit (i + a)) := by
  unfold getN; rw [Nat.testBit_mod_two_pow, Nat.testBit_div_two_pow]
theorem getN_setN (w a k v : Nat) (hv : v < 2 ^ k) : getN (setN w a k v) a k = v := by
  refine Nat.eq_of_testBit_eq fun i => ?_
  rw [getN_bit, setN_bit _ _ _ _ _ hv]
  by_cases h : i < k
  · simp [h, show i + a < a + k by omega]
  · rw [bit_far (i := i) hv (by omega)]; simp [h]
theorem getN_setN_apart (w a k v b j : Nat) (hv : v < 2 ^ k) (h : a + k ≤ b ∨ b + j ≤ a) : getN (setN w a k v) b j = getN w b j := by
  refine Nat.eq_of_testBit_eq fun i => ?_
  rw [getN_bit, getN_bit, setN_bit _ _ _ _ _ hv]
  by_cases hi : i < j
  · rw [if_neg (by omega)]
  · simp [hi]
theorem setN_part (w a k v : Nat) : setN w a k v + 2 ^ a * getN w a k = w + 2 ^ a * v := by
  have := parts w a k
  unfold setN
  omega

/-- One bit more. -/
def bitN (w i : Nat) : Nat := w / 2 ^ i % 2
theorem bitN_le (w i : Nat) : bitN w i ≤ 1 := by unfold bitN; omega
theorem getN_succ (w a k : Nat) : getN w a (k + 1) = getN w a k + 2 ^ k * bitN w (a + k) := by
  unfold getN bitN
  rw [Nat.mod_pow_succ, Nat.div_div_eq_div_mul, ← Nat.pow_add]
theorem getN_top (w a k : Nat) : getN w a (k + 1) = bitN w a + 2 * getN w (a + 1) k := by
  unfold getN bitN
  rw [Nat.pow_succ, Nat.mul_comm (2 ^ k) 2, Nat.mod_mul, Nat.div_div_eq_div_mul, ← Nat.pow_succ]

/-- The lowest n bits in the other order. -/
def turnN (w : Nat) : Nat → Nat
  | 0 => 0
  | n + 1 => 2 * turnN w n + bitN w n
theorem turnN_lt (w n : Nat) : turnN w n < 2 ^ n := by
  induction n with
  | zero => simp [turnN]
  | succ n ih => have := bitN_le w n; rw [Nat.pow_succ]; simp only [turnN]; omega
theorem turnN_bit (w n i : Nat) : (turnN w n).testBit i = (decide (i < n) && w.testBit (n - 1 - i)) := by
  induction n generalizing i with
  | zero => simp [turnN]
  | succ n ih =>
    have hb : bitN w n < 2 ^ 1 := by have := bitN_le w n; omega
    have := Nat.testBit_two_pow_mul_add (turnN w n) hb i
    rw [Nat.pow_one] at this
    simp only [turnN]
    rw [this]
    cases i with
    | zero =>
      simp only [if_true, Nat.sub_zero, Nat.zero_lt_succ, decide_true, Bool.true_and, Nat.add_sub_cancel]
      unfold bitN
      rw [Nat.testBit_eq_decide_div_mod_eq, Nat.testBit_eq_decide_div_mod_eq]
      simp
    | succ i =>
      rw [if_neg (by omega), ih]
      simp only [Nat.add_sub_cancel, Nat.add_lt_add_iff_right, show n - 1 - i = n - (i + 1) by omega]
theorem turnN_turnN (w n : Nat) (h : w < 2 ^ n) : turnN (turnN w n) n = w := by
  refine Nat.eq_of_testBit_eq fun i => ?_
  rw [turnN_bit, turnN_bit]
  by_cases hi : i < n
  · simp [hi, show n - 1 - i < n by omega, show n - 1 - (n - 1 - i) = i by omega]
  · rw [bit_far (i := i) h (by omega)]; simp [hi]

/-- How many bits a word has up to its highest 1. -/
def lenN (w : Nat) : Nat := if w = 0 then 0 else Nat.log2 w + 1
theorem lenN_zero : lenN 0 = 0 := rfl
theorem lenN_half {w : Nat} (h : w ≠ 0) : lenN w = lenN (w / 2) + 1 := by
  unfold lenN
  rw [if_neg h]
  by_cases h2 : w / 2 = 0
  · have : w = 1 := by omega
    subst this; simp [Nat.log2_def]
  · rw [if_neg h2, Nat.log2_def w, if_pos (by omega)]
theorem lenN_le {w n : Nat} (h : w < 2 ^ n) : lenN w ≤ n := by
  unfold lenN
  split
  · omega
  · have := (Nat.log2_lt (by assumption)).2 h; omega
theorem lenN_top {x j : Nat} (h1 : 2 ^ j ≤ x) (h2 : x < 2 ^ (j + 1)) : lenN x = j + 1 := by
  have h0 : x ≠ 0 := by have := Nat.two_pow_pos j; omega
  unfold lenN
  rw [if_neg h0]
  have := (Nat.log2_lt h0).2 h2
  have := (Nat.le_log2 h0).2 h1
  omega
theorem lenN_step (w j : Nat) : lenN (w % 2 ^ (j + 1)) = if bitN w j = 1 then j + 1 else lenN (w % 2 ^ j) := by
  have hlt : w % 2 ^ j < 2 ^ j := Nat.mod_lt _ (Nat.two_pow_pos j)
  have hs : w % 2 ^ (j + 1) = w % 2 ^ j + 2 ^ j * bitN w j := Nat.mod_pow_succ
  rw [hs]
  split
  · rename_i hb
    rw [hb]
    refine lenN_top (by omega) ?_
    rw [Nat.pow_succ]; omega
  · have : bitN w j = 0 := by have := bitN_le w j; omega
    rw [this]; simp

end Go.Proofs.YtjgdkfgcfningaaDoor
