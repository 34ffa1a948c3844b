/-
  bits, of the reference of layer 3: so many bits of a word, from one on.
  Conditions: the bits are a word's; at most 62 of them.
-/
import Derived.Test.YtjgdkfgcfningaaDoorSParts
namespace Go.Proofs.YtjgdkfgcfningaaDoor
open Go.RowKit Go.Shelf

def pw (n : Nat) : Nat := 2 ^ n
theorem pw_succ (n : Nat) : pw (n + 1) = 2 * pw n := by unfold pw; rw [Nat.pow_succ]; omega
theorem pw_pos (n : Nat) : 1 ≤ pw n := Nat.two_pow_pos n
theorem pw_le {a b : Nat} (h : a ≤ b) : pw a ≤ pw b := Nat.pow_le_pow_right (by decide) h
theorem pw_63 : pw 63 = 9223372036854775808 := rfl
theorem wrap_nat (n : Nat) (h : n < 18446744073709551616) : IntKind.u64.wrap (n : Int) = (n : Int) := by rw [wrap_u64]; omega
theorem pw_lt {n : Nat} (h : n ≤ 63) : pw n ≤ 9223372036854775808 := by rw [← pw_63]; exact pw_le h
set_option maxHeartbeats 1000000 in
theorem power_c (n : Nat) (hn : n ≤ 63) (W : World) :
    Calls Tryd.prog 54 #[.int .i64 n] W fun e w' => e = .returned (.int .u64 (pw n)) ∧ w' = W := by
  go_enter Tryd.func54, Tryd.ntmps54
  go_wp2
  go_loop [3, 5] (fun v i => ∃ k : Nat, k ≤ n ∧ i = .int .i64 k ∧ v = .int .u64 (pw k)) (fun _ i => n - (intOf i).toNat)
  case atStart => exact ⟨0, Nat.zero_le _, rfl, rfl⟩
  case round =>
    obtain ⟨k, hk, rfl, rfl⟩ := hrel
    by_cases hlt : k < n
    · have hp := pw_lt (show k + 1 ≤ 63 by omega)
      have hs : IntKind.u64.wrap (2 * (pw k : Int)) = (pw (k + 1) : Int) := by
        rw [show 2 * (pw k : Int) = (pw (k + 1) : Int) by rw [pw_succ]; omega, wrap_nat _ (by omega)]
      go_wp2
      go_round
      case rel => exact ⟨k + 1, by omega, by go_num, rfl⟩
      case measure => simp [intOf]; omega
    · obtain rfl : k = n := by omega
      go_wp2
      go_ret
      exact ⟨rfl, rfl⟩
set_option maxHeartbeats 2000000 in
theorem rright_c (w n : Nat) (hw : w < 18446744073709551616) (hn : n ≤ 9223372036854775807) (W : World) :
    Calls Tryd.prog 53 #[.int .u64 w, .int .i64 n] W fun e w' => e = .returned (.int .u64 (w / 2 ^ n : Nat)) ∧ w' = W := by
  go_enter Tryd.func53, Tryd.ntmps53
  go_wp2
  go_loop [0, 5] (fun v i => ∃ k x : Nat, k ≤ n ∧ i = .int .i64 k ∧ v = .int .u64 x ∧ x = w / 2 ^ k ∧ x < 18446744073709551616) (fun _ i => n - (intOf i).toNat)
  case atStart => exact ⟨0, w, Nat.zero_le _, rfl, rfl, by simp, hw⟩
  case round =>
    obtain ⟨k, x, hk, rfl, rfl, hx, hx64⟩ := hrel
    by_cases hlt : k < n
    · have hlt' : decide ((k : Int) < n) = true := by simp; omega
      by_cases h0 : 0 < x
      · have hstep : w / 2 ^ (k + 1) = x / 2 := by rw [hx, Nat.pow_succ, Nat.div_div_eq_div_mul]
        have HS := Lib.hid hstep
        have hd2 : IntKind.u64.wrap ((x : Int) / 2) = ((x / 2 : Nat) : Int) := by rw [show (x : Int) / 2 = ((x / 2 : Nat) : Int) by omega]; exact wrap_nat _ (by omega)
        clear hstep hx
        go_wp2
        go_round
        case rel => exact ⟨k + 1, x / 2, by omega, by go_num, by go_num, by rw [HS.out], by omega⟩
        case measure => simp [intOf]; omega
      · obtain rfl : x = 0 := by omega
        have hres : w / 2 ^ n = 0 := by
          obtain ⟨d, hd⟩ := Nat.exists_eq_add_of_lt hlt
          rw [show n = k + (d + 1) by omega, Nat.pow_add, ← Nat.div_div_eq_div_mul, ← hx]
          simp
        have HR := Lib.hid hres
        clear hres hx
        go_wp2
        go_ret
        exact ⟨ret_int (show (0 : Int) = ((w / 2 ^ n : Nat) : Int) by rw [HR.out]; rfl), rfl⟩
    · obtain rfl : k = n := by omega
      have hlt' : decide ((k : Int) < k) = false := by simp
      have HX := Lib.hid hx
      clear hx
      go_wp2
      go_ret
      exact ⟨ret_int (congrArg Nat.cast HX.out), rfl⟩

set_option maxHeartbeats 2000000 in
theorem rbits_c (w a k : Nat) (hw : w < 18446744073709551616) (ha : a ≤ 63) (hk : k ≤ 8) (W : World) :
    Calls Tryd.prog 39 #[.int .u64 w, .int .i64 (a : Int), .int .i64 (k : Int)] W fun e w' => e = .returned (.int .i64 (getN w a k : Nat)) ∧ w' = W := by
  have H1 := Lib.hid (fun W => rright_c w a hw (by omega) W)
  have H2 := Lib.hid (fun W => power_c k (by omega) W)
  obtain ⟨x, hx⟩ : ∃ x, x = w / 2 ^ a := ⟨_, rfl⟩
  have hxw : x < 18446744073709551616 := by rw [hx]; exact Nat.lt_of_le_of_lt (Nat.div_le_self _ _) hw
  have hp0 := pw_pos k
  have hp1 : pw k ≤ 256 := Nat.le_trans (pw_le hk) (by decide)
  have hg : getN w a k = x % pw k := by unfold getN pw; rw [hx]
  have H1' := Lib.hid (fun W => by have := H1.out W; rw [← hx] at this; exact this)
  obtain ⟨q, hq⟩ : ∃ q, q = pw k := ⟨_, rfl⟩
  rw [← hq] at hp0 hp1 hg
  have H2' := Lib.hid (fun W => by have := H2.out W; rw [← hq] at this; exact this)
  have hgq : x % q < q := Nat.mod_lt _ (by omega)
  have hmod : ((x : Int) % (q : Int)) = ((x % q : Nat) : Int) := by omega
  rw [hg]
  obtain ⟨y, hy⟩ : ∃ y, y = x % q := ⟨_, rfl⟩
  rw [← hy] at hgq hmod ⊢
  have hq0 : ((q : Int) == 0) = false := by rw [beq_eq_false_iff_ne]; omega
  clear hg hy hx hq H1 H2
  go_enter Tryd.func39, Tryd.ntmps39
  go_wp2_with fail
  refine (H1'.out _).mono ?_
  rintro e w1 ⟨rfl, rfl⟩
  go_wp2_with fail
  refine (H2'.out _).mono ?_
  rintro e w2 ⟨rfl, rfl⟩
  clear H1' H2'
  have HMOD := Lib.hid hmod
  clear hmod
  have HWR := Lib.hid (show wrap64 (y : Int) = (y : Int) by simp [wrap64]; omega)
  go_wp2
  rw [HMOD.out, HWR.out]
  go_ret
  exact ⟨rfl, rfl⟩

end Go.Proofs.YtjgdkfgcfningaaDoor
