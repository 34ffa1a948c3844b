/-
  The document's answers for numbers with a sign (afterglowref01): Signed, Unsigned, for every word and number, and 1 to 64 bits.
  Conditions: 1 to 64 bits.
-/
import Derived.Test.YtejendpkkdmjhaaRef
namespace Go.Proofs.Ytejendpkkdmjhaa
open Go.RowKit Go.Shelf

theorem mod_step (w k : Nat) : w % 2 ^ k + bitN w k * pw k = w % 2 ^ (k + 1) := by
  rw [Nat.mod_pow_succ, Nat.mul_comm]; rfl
theorem mod_lt_63 (w k : Nat) (h : k ≤ 63) : w % 2 ^ k < 9223372036854775808 := Nat.lt_of_lt_of_le (Nat.mod_lt _ (Nat.two_pow_pos k)) (pw_lt h)

set_option maxHeartbeats 2000000 in
theorem rsigned_c (w n : Nat) (hw : w < 18446744073709551616) (h1 : 1 ≤ n) (hn : n ≤ 64) (W : World) :
    Calls Try.prog 32 #[.int .u64 w, .int .i64 n] W fun e w' => e = .returned (.int .i64 (sgnN w n)) ∧ w' = W := by
  go_enter Try.func32, Try.ntmps32
  go_wp2
  go_loop [5, 10] (fun v i => ∃ k x : Nat, k + 1 ≤ n ∧ i = .int .i64 k ∧ v = .int .i64 x ∧ x = w % 2 ^ k) (fun _ i => n - (intOf i).toNat)
  case atStart => exact ⟨0, 0, by omega, rfl, rfl, by simp [Nat.mod_one]⟩
  case round =>
    obtain ⟨k, x, hk, rfl, rfl, hx⟩ := hrel
    by_cases hlt : k + 1 < n
    · have hb := bitN_le w k
      have hp : pw k ≤ 4611686018427387904 := by rw [show 4611686018427387904 = pw 62 from rfl]; exact pw_le (by omega)
      have hm : bitN w k * pw k ≤ pw k := by rcases Nat.le_one_iff_eq_zero_or_eq_one.1 hb with e | e <;> rw [e] <;> simp
      have hs := mod_step w k
      have hs63 := mod_lt_63 w (k + 1) (by omega)
      rw [← hx] at hs
      have hm1 : (bitN w k : Int) * (pw k : Int) ≤ 4611686018427387904 := by rw [← Int.natCast_mul]; omega
      have hm0 : 0 ≤ (bitN w k : Int) * (pw k : Int) := by rw [← Int.natCast_mul]; omega
      have hxs : (x : Int) + (bitN w k : Int) * (pw k : Int) ≤ 9223372036854775807 := by rw [← Int.natCast_mul]; omega
      have HS := Lib.hid hs
      clear hs hx hs63 hm
      go_wp2_with (first
        | (go_at_call 45; refine (bit_c w k hw (by omega) _).mono ?_; rintro e w' ⟨rfl, rfl⟩)
        | (go_at_call 47; refine (power_c k (by omega) _).mono ?_; rintro e w' ⟨rfl, rfl⟩))
      go_round
      case rel => exact ⟨k + 1, x + bitN w k * pw k, by omega, by go_num, by go_num, HS.out⟩
      case measure => simp [intOf]; omega
    · obtain rfl : n = k + 1 := by omega
      have hx63 : x < 9223372036854775808 := by rw [hx]; exact mod_lt_63 w k (by omega)
      have hk1 : ((k + 1 : Nat) : Int) - 1 = (k : Int) := by omega
      rcases Nat.le_one_iff_eq_zero_or_eq_one.1 (bitN_le w k) with hb | hb
      · have hres : sgnN w (k + 1) = (x : Int) := by unfold sgnN; simp only [Nat.add_sub_cancel]; rw [hb, hx]; simp
        have HR := Lib.hid hres
        clear hres hx
        go_wp2_with fail
        refine (bit_c w k hw (by omega) _).mono ?_
        rintro e w' ⟨rfl, rfl⟩
        rw [hb]
        go_wp2
        go_ret
        exact ⟨ret_int HR.out.symm, rfl⟩
      · have hres : sgnN w (k + 1) = (x : Int) - (pw k : Int) := by unfold sgnN; simp only [Nat.add_sub_cancel]; rw [hb, hx, Nat.mul_one]; rfl
        have HX := Lib.hid hx
        clear hx
        go_wp2_with fail
        refine (bit_c w k hw (by omega) _).mono ?_
        rintro e w' ⟨rfl, rfl⟩
        rw [hb]
        by_cases hk0 : k = 0
        · subst hk0
          have hx0 : x = 0 := by rw [HX.out]; simp [Nat.mod_one]
          rw [hx0] at hres
          have HR := Lib.hid hres
          clear hres
          go_wp2
          go_ret
          exact ⟨ret_int (by rw [HR.out]; rfl), rfl⟩
        · obtain ⟨j, rfl⟩ : ∃ j, k = j + 1 := ⟨k - 1, by omega⟩
          have hpj : pw j ≤ 4611686018427387904 := by rw [show 4611686018427387904 = pw 62 from rfl]; exact pw_le (by omega)
          have hne : ((j : Int) + 1 + 1 == 1) = false := by rw [beq_eq_false_iff_ne]; omega
          have hidx : ((j : Int) + 1 + 1 - 2) = (j : Int) := by omega
          rw [pw_succ] at hres
          have HR := Lib.hid hres
          clear hres
          go_wp2_with fail
          refine (power_c j (by omega) _).mono ?_
          rintro e w'' ⟨rfl, rfl⟩
          go_wp2
          go_ret
          exact ⟨ret_int (by rw [HR.out]; omega), rfl⟩

theorem uns_pos (y k : Nat) : unsN (y : Int) k = y % 2 ^ k := by
  unfold unsN
  rw [← Int.natCast_emod]
  exact Int.toNat_natCast _
theorem uns_neg (y k : Nat) : unsN (-(y : Int) - 1) k = 2 ^ k - 1 - y % 2 ^ k := by
  have hp := Nat.two_pow_pos k
  have hr := Nat.mod_lt y hp
  have hd := Nat.div_add_mod y (2 ^ k)
  have e : -(y : Int) - 1 = ((2 ^ k - 1 - y % 2 ^ k : Nat) : Int) + ((2 ^ k : Nat) : Int) * (-((y / 2 ^ k : Nat) : Int) - 1) := by
    rw [Int.mul_sub, Int.mul_neg, ← Int.natCast_mul, Int.mul_one]
    omega
  unfold unsN
  rw [e, Int.add_mul_emod_self_left, ← Int.natCast_emod, Nat.mod_eq_of_lt (by omega)]
  exact Int.toNat_natCast _
theorem uns_zero (x : Int) : unsN x 0 = 0 := by unfold unsN; simp
theorem uns_step_pos (y k : Nat) : unsN (y : Int) k + bitN y k * pw k = unsN (y : Int) (k + 1) := by rw [uns_pos, uns_pos, mod_step]
theorem uns_step_neg (y k : Nat) : unsN (-(y : Int) - 1) k + (1 - bitN y k) * pw k = unsN (-(y : Int) - 1) (k + 1) := by
  rw [uns_neg, uns_neg, ← mod_step, Nat.pow_succ]
  have hr := Nat.mod_lt y (Nat.two_pow_pos k)
  have hp : pw k = 2 ^ k := rfl
  rcases Nat.le_one_iff_eq_zero_or_eq_one.1 (bitN_le y k) with e | e <;> rw [e] <;> simp only [Nat.sub_zero, Nat.sub_self, Nat.one_mul, Nat.zero_mul] <;> omega

def RUns (x : Int) (n : Nat) (e : Ending) : Prop := e = .returned (.tuple #[.int .u64 (unsN x n), .bool true])

set_option maxHeartbeats 4000000 in
theorem runsigned_no (x : Int) (hx : I64 x) (n : Nat) (h1 : 1 ≤ n) (hn : n ≤ 64) (hin : ¬ inN x n) (W : World) :
    Calls Try.prog 34 #[.int .i64 x, .int .i64 n] W fun e w' => e = .returned (.tuple #[.int .u64 0, .bool false]) ∧ w' = W := by
  unfold I64 at hx
  have h64 : n < 64 := by
    rcases Nat.lt_or_ge n 64 with h | h
    · exact h
    · obtain rfl : n = 64 := by omega
      exact absurd ⟨by show -((2 ^ 63 : Nat) : Int) ≤ x; omega, by show x < ((2 ^ 63 : Nat) : Int); omega⟩ hin
  have hp : pw (n - 1) ≤ 4611686018427387904 := by rw [show 4611686018427387904 = pw 62 from rfl]; exact pw_le (by omega)
  have hp0 := pw_pos (n - 1)
  have hidx : (n : Int) - 1 = ((n - 1 : Nat) : Int) := by omega
  have HI := Lib.hid hidx
  have h64' : decide ((n : Int) < 64) = true := by simp; omega
  have hor : (pw (n - 1) : Int) ≤ x ∨ x < -(pw (n - 1) : Int) := by
    unfold inN at hin
    have : pw (n - 1) = 2 ^ (n - 1) := rfl
    omega
  clear hidx hin
  by_cases hge : (pw (n - 1) : Int) ≤ x
  · go_enter Try.func34, Try.ntmps34
    go_wp2_with fail
    rw [HI.out]
    refine (power_c (n - 1) (by omega) _).mono ?_
    rintro e w' ⟨rfl, rfl⟩
    go_wp2
    go_ret2
    exact ⟨rfl, rfl⟩
  · have hlt : x < -(pw (n - 1) : Int) := by omega
    have hltd : decide (x < -(pw (n - 1) : Int)) = true := by simpa using hlt
    go_enter Try.func34, Try.ntmps34
    go_wp2_with fail
    rw [HI.out]
    refine (power_c (n - 1) (by omega) _).mono ?_
    rintro e w' ⟨rfl, rfl⟩
    go_wp2_with fail
    rw [HI.out]
    refine (power_c (n - 1) (by omega) _).mono ?_
    rintro e w' ⟨rfl, rfl⟩
    go_wp2
    go_ret2
    exact ⟨rfl, rfl⟩

/-- The bit that is put at place k: of a number from 0 on, or of one below 0. -/
theorem uns_bound (x : Int) (k : Nat) (h : k ≤ 64) : unsN x k < 18446744073709551616 := Nat.lt_of_lt_of_le (uns_lt x k) (pow_le_64 h)

set_option maxHeartbeats 8000000 in
theorem runsigned_yes (x : Int) (hx : I64 x) (n : Nat) (h1 : 1 ≤ n) (hn : n ≤ 64) (hin : inN x n) (W : World) :
    Calls Try.prog 34 #[.int .i64 x, .int .i64 n] W fun e w' => e = .returned (.tuple #[.int .u64 (unsN x n), .bool true]) ∧ w' = W := by
  unfold I64 at hx
  have hidx : (n : Int) - 1 = ((n - 1 : Nat) : Int) := by omega
  have HI := Lib.hid hidx
  clear hidx
  have hp0 := pw_pos (n - 1)
  have hrange : n < 64 → x < (pw (n - 1) : Int) ∧ -(pw (n - 1) : Int) ≤ x ∧ pw (n - 1) ≤ 4611686018427387904 := fun h => by
    have hp : pw (n - 1) ≤ 4611686018427387904 := by rw [show 4611686018427387904 = pw 62 from rfl]; exact pw_le (by omega)
    unfold inN at hin
    have : pw (n - 1) = 2 ^ (n - 1) := rfl
    omega
  have HR := Lib.hid hrange
  clear hrange hin
  go_enter Try.func34, Try.ntmps34
  rcases Nat.lt_or_ge n 64 with h64 | h64
  · obtain ⟨hr1, hr2, hr3⟩ := HR.out h64
    have hd : decide ((n : Int) < 64) = true := by simp; omega
    have hd1 : decide ((pw (n - 1) : Int) ≤ x) = false := by simp; omega
    have hd2 : decide (x < -(pw (n - 1) : Int)) = false := by simp; omega
    go_wp2_with fail
    rw [HI.out]
    refine (power_c (n - 1) (by omega) _).mono ?_
    rintro e w' ⟨rfl, rfl⟩
    go_wp2_with fail
    rw [HI.out]
    refine (power_c (n - 1) (by omega) _).mono ?_
    rintro e w' ⟨rfl, rfl⟩
    go_wp2
    clear hd hd1 hd2 hr1 hr2 hr3
    go_loop [6, 29] (fun v i => ∃ k : Nat, k ≤ n ∧ i = .int .i64 k ∧ v = .int .u64 (unsN x k)) (fun _ i => n - (intOf i).toNat)
    case atStart => exact ⟨0, Nat.zero_le _, rfl, by rw [uns_zero]; rfl⟩
    case round =>
      obtain ⟨k, hk, rfl, rfl⟩ := hrel
      by_cases hlt : k < n
      · have hp := pw_lt (show k ≤ 63 by omega)
        have hub := uns_bound x (k + 1) (by omega)
        by_cases hneg : x < 0
        · obtain ⟨y, hy⟩ := Int.eq_ofNat_of_zero_le (show 0 ≤ -(x + 1) by omega)
          have hb := bitN_le y k
          have hs := uns_step_neg y k
          rw [show -(y : Int) - 1 = x by omega] at hs
          have hm : (1 - bitN y k) * pw k ≤ pw k := by rcases Nat.le_one_iff_eq_zero_or_eq_one.1 hb with e | e <;> rw [e] <;> simp
          have hval : IntKind.u64.wrap ((unsN x k : Int) + IntKind.u64.wrap ((1 - (bitN y k : Int)) * (pw k : Int))) = (unsN x (k + 1) : Nat) := by
            rw [show (1 - (bitN y k : Int)) = ((1 - bitN y k : Nat) : Int) by omega, ← Int.natCast_mul, wrap_nat _ (by omega), ← Int.natCast_add, hs, wrap_nat _ hub]
          have HY := Lib.hid hy
          have HV := Lib.hid hval
          have hy63 : (y : Int) ≤ 9223372036854775807 := by omega
          have hy64 : y < 18446744073709551616 := by omega
          clear hs hm hub hval hy
          go_wp2_with fail
          rw [HY.out]
          refine (bit_c y k hy64 (by omega) _).mono ?_
          rintro e w1 ⟨rfl, rfl⟩
          go_wp2_with fail
          refine (power_c k (by omega) _).mono ?_
          rintro e w2 ⟨rfl, rfl⟩
          go_wp2
          go_round
          case rel => exact ⟨k + 1, by omega, by go_num, by rw [HV.out]⟩
          case measure => simp [intOf]; omega
        · obtain ⟨y, rfl⟩ := Int.eq_ofNat_of_zero_le (show 0 ≤ x by omega)
          have hb := bitN_le y k
          have hs := uns_step_pos y k
          have hm : bitN y k * pw k ≤ pw k := by rcases Nat.le_one_iff_eq_zero_or_eq_one.1 hb with e | e <;> rw [e] <;> simp
          have hval : IntKind.u64.wrap ((unsN (y : Int) k : Int) + IntKind.u64.wrap ((bitN y k : Int) * (pw k : Int))) = (unsN (y : Int) (k + 1) : Nat) := by
            rw [← Int.natCast_mul, wrap_nat _ (by omega), ← Int.natCast_add, hs, wrap_nat _ hub]
          have HV := Lib.hid hval
          have hy64 : y < 18446744073709551616 := by omega
          clear hs hm hub hval
          go_wp2_with fail
          refine (bit_c y k hy64 (by omega) _).mono ?_
          rintro e w1 ⟨rfl, rfl⟩
          go_wp2_with fail
          refine (power_c k (by omega) _).mono ?_
          rintro e w2 ⟨rfl, rfl⟩
          go_wp2
          go_round
          case rel => exact ⟨k + 1, by omega, by go_num, by rw [HV.out]⟩
          case measure => simp [intOf]; omega
      · obtain rfl : k = n := by omega
        go_wp2
        go_ret2
        exact ⟨rfl, rfl⟩
  · have hd : decide ((n : Int) < 64) = false := by simp; omega
    go_wp2
    go_loop [6, 29] (fun v i => ∃ k : Nat, k ≤ n ∧ i = .int .i64 k ∧ v = .int .u64 (unsN x k)) (fun _ i => n - (intOf i).toNat)
    case atStart => exact ⟨0, Nat.zero_le _, rfl, by rw [uns_zero]; rfl⟩
    case round =>
      obtain ⟨k, hk, rfl, rfl⟩ := hrel
      by_cases hlt : k < n
      · have hp := pw_lt (show k ≤ 63 by omega)
        have hub := uns_bound x (k + 1) (by omega)
        by_cases hneg : x < 0
        · obtain ⟨y, hy⟩ := Int.eq_ofNat_of_zero_le (show 0 ≤ -(x + 1) by omega)
          have hb := bitN_le y k
          have hs := uns_step_neg y k
          rw [show -(y : Int) - 1 = x by omega] at hs
          have hm : (1 - bitN y k) * pw k ≤ pw k := by rcases Nat.le_one_iff_eq_zero_or_eq_one.1 hb with e | e <;> rw [e] <;> simp
          have hval : IntKind.u64.wrap ((unsN x k : Int) + IntKind.u64.wrap ((1 - (bitN y k : Int)) * (pw k : Int))) = (unsN x (k + 1) : Nat) := by
            rw [show (1 - (bitN y k : Int)) = ((1 - bitN y k : Nat) : Int) by omega, ← Int.natCast_mul, wrap_nat _ (by omega), ← Int.natCast_add, hs, wrap_nat _ hub]
          have HY := Lib.hid hy
          have HV := Lib.hid hval
          have hy63 : (y : Int) ≤ 9223372036854775807 := by omega
          have hy64 : y < 18446744073709551616 := by omega
          clear hs hm hub hval hy
          go_wp2_with fail
          rw [HY.out]
          refine (bit_c y k hy64 (by omega) _).mono ?_
          rintro e w1 ⟨rfl, rfl⟩
          go_wp2_with fail
          refine (power_c k (by omega) _).mono ?_
          rintro e w2 ⟨rfl, rfl⟩
          go_wp2
          go_round
          case rel => exact ⟨k + 1, by omega, by go_num, by rw [HV.out]⟩
          case measure => simp [intOf]; omega
        · obtain ⟨y, rfl⟩ := Int.eq_ofNat_of_zero_le (show 0 ≤ x by omega)
          have hb := bitN_le y k
          have hs := uns_step_pos y k
          have hm : bitN y k * pw k ≤ pw k := by rcases Nat.le_one_iff_eq_zero_or_eq_one.1 hb with e | e <;> rw [e] <;> simp
          have hval : IntKind.u64.wrap ((unsN (y : Int) k : Int) + IntKind.u64.wrap ((bitN y k : Int) * (pw k : Int))) = (unsN (y : Int) (k + 1) : Nat) := by
            rw [← Int.natCast_mul, wrap_nat _ (by omega), ← Int.natCast_add, hs, wrap_nat _ hub]
          have HV := Lib.hid hval
          have hy64 : y < 18446744073709551616 := by omega
          clear hs hm hub hval
          go_wp2_with fail
          refine (bit_c y k hy64 (by omega) _).mono ?_
          rintro e w1 ⟨rfl, rfl⟩
          go_wp2_with fail
          refine (power_c k (by omega) _).mono ?_
          rintro e w2 ⟨rfl, rfl⟩
          go_wp2
          go_round
          case rel => exact ⟨k + 1, by omega, by go_num, by rw [HV.out]⟩
          case measure => simp [intOf]; omega
      · obtain rfl : k = n := by omega
        go_wp2
        go_ret2
        exact ⟨rfl, rfl⟩

end Go.Proofs.Ytejendpkkdmjhaa
