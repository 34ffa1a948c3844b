/-
  The document's answers for fields (afterglowref01): Field, Get; and the step of Set.
  Conditions: Get and Set are called with a field that may be, Set with what fits.
-/
import Derived.Test.YtejendpkkdmjhaaRefSigns
import Derived.Test.YtejendpkkdmjhaaStayLib
namespace Go.Proofs.Ytejendpkkdmjhaa
open Go.RowKit Go.Shelf

set_option maxHeartbeats 4000000 in
theorem rfield_c (a k : Int) (ha : I64 a) (hk : I64 k) (W : World) :
    Calls Try.prog 16 #[.agg #[.int .i64 a, .int .i64 k]] W fun e w' => e = .returned (.bool (isF a k)) ∧ Below W.heap.size W w' := by
  unfold I64 at ha hk
  have hB : ∀ o, Below W.heap.size W (W.alloc o) := fun o => (Below.refl _ _).alloc (Nat.le_refl _) o
  by_cases h1 : 1 ≤ k
  · by_cases h2 : k ≤ 64
    · by_cases h3 : 0 ≤ a
      · by_cases h4 : a ≤ 64
        · by_cases h5 : a + k ≤ 64
          · go_enter Try.func16, Try.ntmps16
            go_wp2
            go_ret
            exact ⟨ret_bool (by simp [isF]; omega), hB _⟩
          · go_enter Try.func16, Try.ntmps16
            go_wp2
            go_ret
            exact ⟨ret_bool (by simp [isF]; omega), hB _⟩
        · go_enter Try.func16, Try.ntmps16
          go_wp2
          go_ret
          exact ⟨ret_bool (by simp [isF]; omega), hB _⟩
      · go_enter Try.func16, Try.ntmps16
        go_wp2
        go_ret
        exact ⟨ret_bool (by simp [isF]; omega), hB _⟩
    · go_enter Try.func16, Try.ntmps16
      go_wp2
      go_ret
      exact ⟨ret_bool (by simp [isF]; omega), hB _⟩
  · go_enter Try.func16, Try.ntmps16
    go_wp2
    go_ret
    exact ⟨ret_bool (by simp [isF]; omega), hB _⟩

theorem getN_step (w a k : Nat) : 2 * getN w (a + 1) k + bitN w a = getN w a (k + 1) := by
  unfold getN bitN
  rw [Nat.pow_succ 2 k, Nat.mul_comm (2 ^ k) 2, Nat.mod_mul, Nat.pow_succ, ← Nat.div_div_eq_div_mul]
  omega

set_option maxHeartbeats 4000000 in
theorem rget_c (w : Nat) (hw : w < 18446744073709551616) (a k : Nat) (h1 : 1 ≤ k) (h2 : a + k ≤ 64) (W : World) :
    Calls Try.prog 18 #[.int .u64 w, .agg #[.int .i64 a, .int .i64 k]] W fun e w' => e = .returned (.int .u64 (getN w a k)) ∧ Below W.heap.size W w' := by
  go_enter Try.func18, Try.ntmps18
  go_wp2_with fail
  obtain ⟨wo, hwo⟩ : ∃ wo : World, wo = W.alloc (.cells #[.int .i64 a, .int .i64 k] 28) := ⟨_, rfl⟩
  have hc0 : wo.cell? ⟨W.heap.size, 0, none⟩ = some (.int .i64 a) := by rw [hwo]; simp
  have hB : Below W.heap.size W wo := by rw [hwo]; exact (Below.refl _ _).alloc (Nat.le_refl _) _
  rw [← hwo]
  clear hwo
  go_loop [5, 6] (fun v i => ∃ j x : Nat, j ≤ k ∧ i = .int .i64 ((j : Int) - 1) ∧ v = .int .u64 x ∧ x = getN w (a + j) (k - j)) (fun _ i => (intOf i + 1).toNat)
  case atStart => exact ⟨k, 0, Nat.le_refl _, rfl, rfl, by simp [getN, Nat.mod_one]⟩
  case round =>
    obtain ⟨j, x, hj, rfl, rfl, hx⟩ := hrel
    by_cases hlt : 0 < j
    · obtain ⟨j, rfl⟩ : ∃ i, j = i + 1 := ⟨j - 1, by omega⟩
      have hs : 2 * x + bitN w (a + j) = getN w (a + j) (k - j) := by
        rw [hx, show k - j = k - (j + 1) + 1 by omega, ← getN_step, Nat.add_assoc]
      have hb := bitN_le w (a + j)
      have hlt2 : getN w (a + j) (k - j) < 18446744073709551616 := Nat.lt_of_lt_of_le (getN_lt _ _ _) (pow_le_64 (by omega))
      have hsum : IntKind.u64.wrap (IntKind.u64.wrap (2 * (x : Int)) + (bitN w (a + j) : Int)) = (getN w (a + j) (k - j) : Nat) := by
        rw [show 2 * (x : Int) = ((2 * x : Nat) : Int) by omega, wrap_nat _ (by omega), ← Int.natCast_add, wrap_nat _ (by omega), hs]
      have hidx : ((j + 1 : Nat) : Int) - 1 = (j : Int) := by omega
      have hge : (0 : Int) ≤ ((j + 1 : Nat) : Int) - 1 := by omega
      rw [hidx] at hge ⊢
      have HS := Lib.hid hsum
      clear hsum hx hs hidx
      go_wp2_with fail
      refine (bit_c w (a + j) hw (by omega) _).mono ?_
      rintro e w' ⟨rfl, rfl⟩
      go_wp2
      go_round
      case rel => exact ⟨j, _, by omega, by go_num, by rw [HS.out], rfl⟩
      case measure => simp [intOf]
    · obtain rfl : j = 0 := by omega
      have hx2 : x = getN w a k := by rw [hx]; simp
      have HX := Lib.hid hx2
      clear hx hx2
      go_wp2
      go_ret
      exact ⟨ret_int (by rw [HX.out]), hB⟩

theorem setN_step (w a i v : Nat) : setN w a i (v % 2 ^ i) + bitN v i * pw (a + i) = setN w a (i + 1) (v % 2 ^ (i + 1)) + bitN w (a + i) * pw (a + i) := by
  have h1 := Nat.div_add_mod (w / 2 ^ (a + i)) 2
  have h2 := mod_step v i
  rw [Nat.div_div_eq_div_mul, ← Nat.pow_succ] at h1
  unfold setN bitN pw
  unfold bitN pw at h2
  rw [← h2]
  have h3 : 2 ^ (a + i) * (w / 2 ^ (a + i)) = 2 ^ (a + i + 1) * (w / 2 ^ (a + i + 1)) + w / 2 ^ (a + i) % 2 * 2 ^ (a + i) := by
    conv => lhs; rw [← h1]
    rw [Nat.mul_add, Nat.pow_succ 2 (a + i), Nat.mul_comm (2 ^ (a + i)) (w / 2 ^ (a + i) % 2), Nat.mul_assoc]
  have h4 : 2 ^ a * (v % 2 ^ i + v / 2 ^ i % 2 * 2 ^ i) = 2 ^ a * (v % 2 ^ i) + v / 2 ^ i % 2 * 2 ^ (a + i) := by
    rw [Nat.mul_add, Nat.pow_add, Nat.mul_left_comm]
  rw [h3, h4, ← Nat.add_assoc a i 1]
  omega

end Go.Proofs.Ytejendpkkdmjhaa
