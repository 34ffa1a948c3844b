/-
  The document's answers for words (afterglowref01): Power, Bit, Fits, Log, Left, Right, Turn, each for every word, and for the numbers that the statements call it with.
  Conditions: Power is called with 0 to 63, Bit with 0 to 63, Fits and Turn with 0 to 64, Left and Right with at least 0.
-/
import Derived.Test.YtejendpkkdmjhaaSays
namespace Go.Proofs.Ytejendpkkdmjhaa
open Go.RowKit Go.Shelf

/-- 2 to the power n, closed to the walk. -/
def pw (n : Nat) : Nat := 2 ^ n
theorem pw_succ (n : Nat) : pw (n + 1) = 2 * pw n := by unfold pw; rw [Nat.pow_succ]; omega
theorem pw_pos (n : Nat) : 1 ≤ pw n := Nat.two_pow_pos n
theorem pw_le {a b : Nat} (h : a ≤ b) : pw a ≤ pw b := Nat.pow_le_pow_right (by decide) h
theorem pw_63 : pw 63 = 9223372036854775808 := rfl
theorem wrap_nat (n : Nat) (h : n < 18446744073709551616) : IntKind.u64.wrap (n : Int) = (n : Int) := by rw [wrap_u64]; omega
theorem pw_lt {n : Nat} (h : n ≤ 63) : pw n ≤ 9223372036854775808 := by rw [← pw_63]; exact pw_le h

set_option maxHeartbeats 1000000 in
theorem power_c (n : Nat) (hn : n ≤ 63) (W : World) :
    Calls Try.prog 47 #[.int .i64 n] W fun e w' => e = .returned (.int .u64 (pw n)) ∧ w' = W := by
  go_enter Try.func47, Try.ntmps47
  go_wp2
  go_loop [3, 5] (fun v i => ∃ k : Nat, k ≤ n ∧ i = .int .i64 k ∧ v = .int .u64 (pw k)) (fun _ i => n - (intOf i).toNat)
  case atStart => exact ⟨0, Nat.zero_le _, rfl, rfl⟩
  case round =>
    obtain ⟨k, hk, rfl, rfl⟩ := hrel
    by_cases hlt : k < n
    · have hp := pw_lt (show k + 1 ≤ 63 by omega)
      have hs : IntKind.u64.wrap (2 * (pw k : Int)) = (pw (k + 1) : Int) := by
        rw [show 2 * (pw k : Int) = (pw (k + 1) : Int) by rw [pw_succ]; omega, wrap_nat _ (by omega)]
      go_wp2
      go_round
      case rel => exact ⟨k + 1, by omega, by go_num, rfl⟩
      case measure => simp [intOf]; omega
    · obtain rfl : k = n := by omega
      go_wp2
      go_ret
      exact ⟨rfl, rfl⟩

theorem bit_def (w i : Nat) (hw : w < 18446744073709551616) : (IntKind.u64.wrap ((w : Int) / (pw i : Int))).tmod 2 = (bitN w i : Nat) := by
  have hd : w / pw i < 18446744073709551616 := Nat.lt_of_le_of_lt (Nat.div_le_self _ _) hw
  rw [← Int.natCast_ediv, wrap_nat _ hd, Int.tmod_eq_emod_of_nonneg (Int.natCast_nonneg _), show (2 : Int) = ((2 : Nat) : Int) from rfl, ← Int.natCast_emod]
  rfl

set_option maxHeartbeats 1000000 in
theorem bit_c (w i : Nat) (hw : w < 18446744073709551616) (hi : i ≤ 63) (W : World) :
    Calls Try.prog 45 #[.int .u64 w, .int .i64 i] W fun e w' => e = .returned (.int .u64 (bitN w i : Nat)) ∧ w' = W := by
  have hp := pw_pos i
  go_enter Try.func45, Try.ntmps45
  go_wp2_with (go_at_call 47; refine (power_c i hi _).mono ?_; rintro e w' ⟨rfl, rfl⟩)
  go_ret
  exact ⟨ret_int (bit_def w i hw), rfl⟩

set_option maxHeartbeats 1000000 in
theorem rfits_c (w n : Nat) (hw : w < 18446744073709551616) (hn : n ≤ 64) (W : World) :
    Calls Try.prog 20 #[.int .u64 w, .int .i64 n] W fun e w' => e = .returned (.bool (fitsB w n)) ∧ w' = W := by
  by_cases h : n = 64
  · subst h
    go_enter Try.func20, Try.ntmps20
    go_wp2
    go_ret
    exact ⟨ret_bool (by simp only [fitsB]; exact (decide_eq_true (show w < 2 ^ 64 from hw)).symm), rfl⟩
  · have h' : ¬ (64 : Int) ≤ n := by omega
    have hd : decide ((64 : Int) ≤ n) = false := by simpa using h'
    go_enter Try.func20, Try.ntmps20
    go_wp2_with (go_at_call 47; refine (power_c n (by omega) _).mono ?_; rintro e w' ⟨rfl, rfl⟩)
    go_ret
    exact ⟨ret_bool (by simp only [fitsB, decide_eq_decide]; unfold pw; omega), rfl⟩

set_option maxHeartbeats 1000000 in
theorem rlog_c (w : Nat) (hw : w < 18446744073709551616) (W : World) :
    Calls Try.prog 24 #[.int .u64 w] W fun e w' => e = .returned (.int .i64 ((lenN w : Int) - 1)) ∧ w' = W := by
  have hlen := lenN_le (show w < 2 ^ 64 from hw)
  go_enter Try.func24, Try.ntmps24
  go_wp2
  go_loop [0, 3] (fun v o => ∃ x d : Nat, x ≤ w ∧ v = .int .u64 x ∧ o = .int .i64 ((d : Int) - 1) ∧ lenN x + d = lenN w) (fun v _ => lenN (intOf v).toNat)
  case atStart => exact ⟨w, 0, Nat.le_refl _, rfl, rfl, rfl⟩
  case round =>
    obtain ⟨x, d, hx, rfl, rfl, hd⟩ := hrel
    have hdl : d ≤ 64 := by omega
    by_cases h0 : 0 < x
    · have hh := lenN_half (show x ≠ 0 by omega)
      have HD := Lib.hid hd
      have HH := Lib.hid hh
      clear hd hh
      go_wp2
      go_round
      case rel => exact ⟨x / 2, d + 1, by omega, by go_num, by go_num, by have := HD.out; have := HH.out; omega⟩
      case measure => simp [intOf]; have := HH.out; rw [show ((x : Int) / 2).toNat = x / 2 by omega]; omega
    · obtain rfl : x = 0 := by omega
      have hl0 : d = lenN w := by rw [← hd, lenN_zero]; omega
      have HD := Lib.hid hl0
      clear hd hl0
      go_wp2
      go_ret
      exact ⟨ret_int (by rw [HD.out]), rfl⟩

/-- What the document's Left answers. -/
def leftB (w n : Nat) : Bool := decide (w * 2 ^ n < 18446744073709551616)
def leftV (w n : Nat) : Nat := if leftB w n then w * 2 ^ n else 0
theorem leftV_yes {w n : Nat} (h : w * 2 ^ n < 18446744073709551616) : leftB w n = true ∧ leftV w n = w * 2 ^ n := by
  have h1 : leftB w n = true := decide_eq_true h
  exact ⟨h1, by simp [leftV, h1]⟩
theorem leftV_no {w n : Nat} (h : ¬ w * 2 ^ n < 18446744073709551616) : leftB w n = false ∧ leftV w n = 0 := by
  have h1 : leftB w n = false := decide_eq_false h
  exact ⟨h1, by simp [leftV, h1]⟩
def TwoB (v : Nat) (b : Bool) (e : Ending) : Prop := e = .returned (.tuple #[.int .u64 v, .bool b])

set_option maxRecDepth 100000 in
set_option maxHeartbeats 2000000 in
theorem rleft_c (w n : Nat) (hw : w < 18446744073709551616) (hn : n ≤ 9223372036854775807) (W : World) :
    Calls Try.prog 26 #[.int .u64 w, .int .i64 n] W fun e w' => TwoB (leftV w n) (leftB w n) e ∧ w' = W := by
  go_enter Try.func26, Try.ntmps26
  go_wp2
  go_loop [0, 7] (fun v i => ∃ k x : Nat, k ≤ n ∧ i = .int .i64 k ∧ v = .int .u64 x ∧ x = w * 2 ^ k ∧ x < 18446744073709551616) (fun _ i => n - (intOf i).toNat)
  case atStart => exact ⟨0, w, Nat.zero_le _, rfl, rfl, by simp, hw⟩
  case round =>
    obtain ⟨k, x, hk, rfl, rfl, hx, hx64⟩ := hrel
    by_cases hlt : k < n
    · obtain ⟨d, hd⟩ := Nat.exists_eq_add_of_lt hlt
      by_cases h0 : x = 0
      · have hw0 : w = 0 := by
          rcases Nat.mul_eq_zero.1 (h0 ▸ hx).symm with h | h
          · exact h
          · have := Nat.two_pow_pos k; omega
        have hy := leftV_yes (w := w) (n := n) (by rw [hw0]; simp)
        have hz : ((x : Int) == 0) = true := by rw [h0]; rfl
        have HY := Lib.hid (show leftB w n = true ∧ leftV w n = 0 from ⟨hy.1, by rw [hy.2, hw0]; simp⟩)
        have H0 := Lib.hid h0
        clear hy hw0 hx hd h0
        go_wp2
        go_ret2
        refine ⟨?_, rfl⟩
        show Ending.returned _ = Ending.returned _
        rw [HY.out.1, HY.out.2]
        rfl
      · have hz : ((x : Int) == 0) = false := by rw [beq_eq_false_iff_ne]; omega
        have hstep : w * 2 ^ (k + 1) = 2 * x := by rw [hx, Nat.pow_succ, ← Nat.mul_assoc, Nat.mul_comm]
        by_cases h63 : x < 9223372036854775808
        · have HS := Lib.hid hstep
          have hp : ¬ (pw 63 : Int) ≤ x := by rw [pw_63]; omega
          have hm : IntKind.u64.wrap (2 * (x : Int)) = 2 * (x : Int) := wrap_nat (2 * x) (by omega)
          have HM := Lib.hid hm
          have hpf : decide ((pw 63 : Int) ≤ x) = false := by simpa using hp
          have h2x : 2 * x < 18446744073709551616 := by omega
          have H2 := Lib.hid h2x
          clear hm h2x
          clear hstep hx hd h0
          clear h63
          go_wp2_with fail
          refine (power_c 63 (by omega) _).mono ?_
          rintro e w' ⟨rfl, rfl⟩
          generalize pw 63 = q at *
          go_wp2
          rw [HM.out]
          go_round
          case rel => exact ⟨k + 1, 2 * x, by omega, by go_num, by go_num, by rw [HS.out], H2.out⟩
          case measure => simp [intOf]; omega
        · have hp : (pw 63 : Int) ≤ x := by rw [pw_63]; omega
          have hn2 := leftV_no (w := w) (n := n) (by
            have h1 : 2 ^ n = 2 ^ (k + 1) * 2 ^ d := by rw [← Nat.pow_add]; congr 1; omega
            have h2 := Nat.two_pow_pos d
            rw [h1, ← Nat.mul_assoc, hstep]
            have := Nat.mul_le_mul_left (2 * x) h2
            omega)
          have HN := Lib.hid hn2
          clear hn2 hx hd hstep
          go_wp2_with (go_at_call 47; refine (power_c 63 (by omega) _).mono ?_; rintro e w' ⟨rfl, rfl⟩)
          go_ret2
          refine ⟨?_, rfl⟩
          show Ending.returned _ = Ending.returned _
          rw [HN.out.1, HN.out.2]
          rfl
    · obtain rfl : k = n := by omega
      have hy := leftV_yes (w := w) (n := k) (by omega)
      have HY := Lib.hid (show leftB w k = true ∧ leftV w k = x from ⟨hy.1, by rw [hy.2, hx]⟩)
      clear hy hx
      go_wp2
      go_ret2
      refine ⟨?_, rfl⟩
      show Ending.returned _ = Ending.returned _
      rw [HY.out.1, HY.out.2]
      rfl

set_option maxHeartbeats 2000000 in
theorem rright_c (w n : Nat) (hw : w < 18446744073709551616) (hn : n ≤ 9223372036854775807) (W : World) :
    Calls Try.prog 30 #[.int .u64 w, .int .i64 n] W fun e w' => e = .returned (.int .u64 (w / 2 ^ n : Nat)) ∧ w' = W := by
  go_enter Try.func30, Try.ntmps30
  go_wp2
  go_loop [0, 5] (fun v i => ∃ k x : Nat, k ≤ n ∧ i = .int .i64 k ∧ v = .int .u64 x ∧ x = w / 2 ^ k ∧ x < 18446744073709551616) (fun _ i => n - (intOf i).toNat)
  case atStart => exact ⟨0, w, Nat.zero_le _, rfl, rfl, by simp, hw⟩
  case round =>
    obtain ⟨k, x, hk, rfl, rfl, hx, hx64⟩ := hrel
    by_cases hlt : k < n
    · have hlt' : decide ((k : Int) < n) = true := by simp; omega
      by_cases h0 : 0 < x
      · have hstep : w / 2 ^ (k + 1) = x / 2 := by rw [hx, Nat.pow_succ, Nat.div_div_eq_div_mul]
        have HS := Lib.hid hstep
        have hd2 : IntKind.u64.wrap ((x : Int) / 2) = ((x / 2 : Nat) : Int) := by rw [show (x : Int) / 2 = ((x / 2 : Nat) : Int) by omega]; exact wrap_nat _ (by omega)
        clear hstep hx
        go_wp2
        go_round
        case rel => exact ⟨k + 1, x / 2, by omega, by go_num, by go_num, by rw [HS.out], by omega⟩
        case measure => simp [intOf]; omega
      · obtain rfl : x = 0 := by omega
        have hres : w / 2 ^ n = 0 := by
          obtain ⟨d, hd⟩ := Nat.exists_eq_add_of_lt hlt
          rw [show n = k + (d + 1) by omega, Nat.pow_add, ← Nat.div_div_eq_div_mul, ← hx]
          simp
        have HR := Lib.hid hres
        clear hres hx
        go_wp2
        go_ret
        exact ⟨ret_int (show (0 : Int) = ((w / 2 ^ n : Nat) : Int) by rw [HR.out]; rfl), rfl⟩
    · obtain rfl : k = n := by omega
      have hlt' : decide ((k : Int) < k) = false := by simp
      have HX := Lib.hid hx
      clear hx
      go_wp2
      go_ret
      exact ⟨ret_int (congrArg Nat.cast HX.out), rfl⟩

/-- The bits so far, at their new places. -/
theorem turn_step (w n i : Nat) (h : i < n) : turnN w i * 2 ^ (n - i) + bitN w i * 2 ^ (n - 1 - i) = turnN w (i + 1) * 2 ^ (n - (i + 1)) := by
  obtain ⟨d, hd⟩ := Nat.exists_eq_add_of_lt h
  rw [show n - i = d + 1 by omega, show n - 1 - i = d by omega, show n - (i + 1) = d by omega, Nat.pow_succ]
  simp only [turnN]
  rw [Nat.add_mul, Nat.mul_comm 2, Nat.mul_assoc, Nat.mul_comm 2]

set_option maxHeartbeats 2000000 in
theorem rturn_c (w n : Nat) (hw : w < 18446744073709551616) (hn : n ≤ 64) (W : World) :
    Calls Try.prog 28 #[.int .u64 w, .int .i64 n] W fun e w' => e = .returned (.int .u64 (turnN w n)) ∧ w' = W := by
  go_enter Try.func28, Try.ntmps28
  go_wp2
  go_loop [5, 8] (fun v i => ∃ k x : Nat, k ≤ n ∧ i = .int .i64 k ∧ v = .int .u64 x ∧ x = turnN w k * 2 ^ (n - k)) (fun _ i => n - (intOf i).toNat)
  case atStart => exact ⟨0, 0, Nat.zero_le _, rfl, rfl, by simp [turnN]⟩
  case round =>
    obtain ⟨k, x, hk, rfl, rfl, hx⟩ := hrel
    by_cases hlt : k < n
    · have hs := turn_step w n k hlt
      rw [← hx] at hs
      have hb := bitN_le w k
      have hlt2 : turnN w (k + 1) * 2 ^ (n - (k + 1)) < 18446744073709551616 := by
        have h1 := Nat.mul_lt_mul_of_pos_right (turnN_lt w (k + 1)) (Nat.two_pow_pos (n - (k + 1)))
        rw [← Nat.pow_add, show k + 1 + (n - (k + 1)) = n by omega] at h1
        exact Nat.lt_of_lt_of_le h1 (pow_le_64 hn)
      have hsum : IntKind.u64.wrap ((x : Int) + IntKind.u64.wrap ((bitN w k : Int) * (pw (n - 1 - k) : Int))) = (turnN w (k + 1) * 2 ^ (n - (k + 1)) : Nat) := by
        rw [← Int.natCast_mul, wrap_nat (bitN w k * pw (n - 1 - k)) (by unfold pw; omega), ← Int.natCast_add, wrap_nat _ (by unfold pw; omega), ← hs]
        rfl
      have hidx : ((n : Int) - 1 - k) = ((n - 1 - k : Nat) : Int) := by omega
      have HI := Lib.hid hidx
      have HS := Lib.hid hsum
      clear hidx hsum hx hs
      go_wp2_with fail
      refine (bit_c w k hw (by omega) _).mono ?_
      rintro e w' ⟨rfl, rfl⟩
      go_wp2_with fail
      rw [HI.out]
      refine (power_c (n - 1 - k) (by omega) _).mono ?_
      rintro e w' ⟨rfl, rfl⟩
      go_wp2
      go_round
      case rel => exact ⟨k + 1, _, by omega, by go_num, by rw [HS.out], rfl⟩
      case measure => simp [intOf]; omega
    · obtain rfl : k = n := by omega
      have hx2 : x = turnN w k := by rw [hx]; simp
      have HX := Lib.hid hx2
      clear hx hx2
      go_wp2
      go_ret
      exact ⟨ret_int (by rw [HX.out]), rfl⟩

end Go.Proofs.Ytejendpkkdmjhaa
