/-
  The document's answer for Set on fields.
  Conditions: a field that may be, and what fits in it.
-/
import Derived.Test.YtejendpkkdmjhaaRefFields
import Derived.Deep.QuietTactic
import Derived.BigQuiet
namespace Go.Proofs.Ytejendpkkdmjhaa
open Go.RowKit Go.Shelf

set_option maxHeartbeats 4000000 in
theorem rset_c (w v : Nat) (hw : w < 18446744073709551616) (hv64 : v < 18446744073709551616) (a k : Nat) (h1 : 1 ≤ k) (h2 : a + k ≤ 64) (hv : v < 2 ^ k) (W : World) :
    Calls Try.prog 21 #[.int .u64 w, .agg #[.int .i64 a, .int .i64 k], .int .u64 v] W fun e w' => e = .returned (.int .u64 (setN w a k v)) ∧ Below W.heap.size W w' := by
  go_enter Try.func21, Try.ntmps21
  go_wp2_with fail
  obtain ⟨wo, hwo⟩ : ∃ wo : World, wo = W.alloc (.cells #[.int .i64 a, .int .i64 k] 28) := ⟨_, rfl⟩
  have hc0 : wo.cell? ⟨W.heap.size, 0, none⟩ = some (.int .i64 a) := by rw [hwo]; simp
  have hB : Below W.heap.size W wo := by rw [hwo]; exact (Below.refl _ _).alloc (Nat.le_refl _) _
  rw [← hwo]
  clear hwo
  have hg := World.block_lt_of_cell? wo _ hc0
  go_loopw [7, 12] (fun x i wr => ∃ j y : Nat, j ≤ k ∧ i = .int .i64 j ∧ x = .int .u64 y ∧ y = setN w a j (v % 2 ^ j) ∧ Below wo.heap.size wo wr) (fun _ i _ => k - (intOf i).toNat)
  case atStart => exact ⟨0, w, Nat.zero_le _, rfl, rfl, by simp [setN, Nat.mod_one, Nat.div_add_mod], Below.refl _ _⟩
  case round =>
    obtain ⟨j, y, hj, rfl, rfl, hy, hBr⟩ := hrel
    have hc1 := below_cell hBr hc0
    by_cases hlt : j < k
    · have hs := setN_step w a j v
      have hy64 := setN_lt w a j (v % 2 ^ j) hw (by omega) (Nat.mod_lt _ (Nat.two_pow_pos j))
      have hn64 := setN_lt w a (j + 1) (v % 2 ^ (j + 1)) hw (by omega) (Nat.mod_lt _ (Nat.two_pow_pos (j + 1)))
      rw [← hy] at hs hy64
      have hbw := bitN_le w (a + j)
      have hbv := bitN_le v j
      have hp := pw_lt (show a + j ≤ 63 by omega)
      have hbwp : bitN w (a + j) * pw (a + j) ≤ pw (a + j) := by have := Nat.mul_le_mul_right (pw (a + j)) hbw; omega
      have hbvp : bitN v j * pw (a + j) ≤ pw (a + j) := by have := Nat.mul_le_mul_right (pw (a + j)) hbv; omega
      have hsum : IntKind.u64.wrap (IntKind.u64.wrap ((y : Int) - IntKind.u64.wrap ((bitN w (a + j) : Int) * (pw (a + j) : Int))) + IntKind.u64.wrap ((bitN v j : Int) * (pw (a + j) : Int))) = (setN w a (j + 1) (v % 2 ^ (j + 1)) : Nat) := by
        rw [← Int.natCast_mul, ← Int.natCast_mul, wrap_nat _ (by omega), wrap_nat (bitN v j * pw (a + j)) (by omega)]
        generalize bitN w (a + j) * pw (a + j) = p at *
        generalize bitN v j * pw (a + j) = q at *
        rw [wrap_u64, wrap_u64]
        omega
      have HS := Lib.hid hsum
      have HBW : ∀ W : World, Calls Try.prog 45 #[.int .u64 w, .int .i64 (a + j : Nat)] W fun e w' => e = .returned (.int .u64 (bitN w (a + j) : Nat)) ∧ w' = W := bit_c w (a + j) hw (by omega)
      have HBV : ∀ W : World, Calls Try.prog 45 #[.int .u64 v, .int .i64 j] W fun e w' => e = .returned (.int .u64 (bitN v j : Nat)) ∧ w' = W := bit_c v j hv64 (by omega)
      have HP : ∀ W : World, Calls Try.prog 47 #[.int .i64 (a + j : Nat)] W fun e w' => e = .returned (.int .u64 (pw (a + j))) ∧ w' = W := power_c (a + j) (by omega)
      clear hsum hs hy hbw hbv hbwp hbvp hp
      go_wp2_with fail
      go_big_quiet (first
        | (go_at_call 47; exact Calls.quiet_of_same (HP _))
        | (go_at_call 45; exact Calls.quiet_of_same (HBV _))
        | (go_at_call 45; exact Calls.quiet_of_same (HBW _)))
      go_wp2
      all_goals
        go_roundw
        case rel => exact ⟨j + 1, _, by omega, by go_num, by rw [HS.out], rfl, below_drewN hBr _⟩
        case measure => simp [intOf]; omega
    · obtain rfl : j = k := by omega
      have hy2 : y = setN w a j v := by rw [hy, Nat.mod_eq_of_lt hv]
      have HY := Lib.hid hy2
      clear hy hy2
      go_wp2
      go_ret
      exact ⟨ret_int (by rw [HY.out]), below_then hB hB.size hBr⟩

end Go.Proofs.Ytejendpkkdmjhaa
