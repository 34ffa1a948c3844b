/-
  Get and Set of package bits, for every word, field, and number; what was in memory stays.
  Conditions: none but the ranges of Go's types.
-/
import Derived.Test.YtjgdkfgcfningaaDoorSCheck
namespace Go.Proofs.YtjgdkfgcfningaaDoor
open Go.RowKit Go.Shelf

/-- A number in the range of int. -/
def I64 (x : Int) : Prop := -9223372036854775808 ≤ x ∧ x ≤ 9223372036854775807

theorem chkE_one (a k : Int) : chkE [(a, k)] = if isF a k = true then 0 else 110 := by
  have h : chkTo [(a, k)] = chk1 0 (a, k) := rfl
  unfold chkE
  rw [h]
  by_cases hf : isF a k = true
  · obtain ⟨h1, h2, h3⟩ := isF_iff.1 hf
    simp only [chk1, hf, if_true]
    rw [foldC_upto _ _ _ (by omega)]
    simp
  · simp [chk1, hf]

theorem fieldsAt_one (W : World) (b : Nat) (a k : Int) (ha : I64 a) (hk : I64 k) (h0 : W.cell? ⟨b, 0, none⟩ = some (.int .i64 a)) (h1 : W.cell? ⟨b, 1, none⟩ = some (.int .i64 k)) :
    FieldsAt W (.slice (some ⟨b, 0, none⟩) 1 1) [(a, k)] := by
  refine ⟨_, _, rfl, ?_, fun _ => ⟨b, 0, rfl, ?_⟩⟩
  · intro f hf
    rw [List.mem_singleton.1 hf]
    exact ⟨ha, hk⟩
  · intro i hi
    have : i = 0 := by simp at hi; omega
    subst this
    exact ⟨h0, h1⟩

set_option maxHeartbeats 1000000 in
theorem get_no (w : Nat) (a k : Int) (ha : I64 a) (hk : I64 k) (hf : isF a k = false) (W : World) :
    Calls Tryd.prog 52 #[.int .u64 w, .agg #[.int .i64 a, .int .i64 k]] W fun e w' => e = .returned (.tuple #[.int .u64 0, .int .i64 110]) ∧ Below W.heap.size W w' := by
  go_enter Tryd.func52, Tryd.ntmps52
  go_wp2_with fail
  refine (check_c _ [(a, k)] _ (fieldsAt_one _ (W.heap.size + 1) a k ha hk (by simp) (by simp)) (by simp)).mono ?_
  rintro e w1 ⟨rfl, hb1⟩
  rw [chkE_one, hf]
  go_wp2
  go_ret2
  exact ⟨rfl, below_then (((Below.refl _ _).alloc (Nat.le_refl _) _).alloc (by simp) _) (by simp; omega) hb1⟩

set_option maxHeartbeats 1000000 in
theorem get_yes (w : Nat) (hw : w < 18446744073709551616) (a k : Nat) (h1 : 1 ≤ k) (h2 : a + k ≤ 64) (W : World) :
    Calls Tryd.prog 52 #[.int .u64 w, .agg #[.int .i64 a, .int .i64 k]] W fun e w' => e = .returned (.tuple #[.int .u64 (getN w a k), .int .i64 0]) ∧ Below W.heap.size W w' := by
  have ha : I64 a := by unfold I64; omega
  have hk : I64 k := by unfold I64; omega
  have hf : isF a k = true := isF_iff.2 (by omega)
  go_enter Tryd.func52, Tryd.ntmps52
  go_wp2_with fail
  refine (check_c _ [((a : Int), (k : Int))] _ (fieldsAt_one _ (W.heap.size + 1) a k ha hk (by simp) (by simp)) (by simp)).mono ?_
  rintro e w1 ⟨rfl, hb1⟩
  rw [chkE_one, if_pos hf]
  have hp0 := below_cell (p := ⟨W.heap.size, 0, none⟩) (v := .int .i64 a) hb1 (by simp)
  have hp1 := below_cell (p := ⟨W.heap.size, 1, none⟩) (v := .int .i64 k) hb1 (by simp)
  have hB := below_then (((Below.refl _ W).alloc (Nat.le_refl _) _).alloc (by simp) _) (by simp; omega) hb1
  clear hb1
  go_wp2_with fail
  refine (of_c w a k hw h2 _).mono ?_
  rintro e w2 ⟨rfl, hb2⟩
  go_wp2
  go_ret2
  exact ⟨rfl, below_then hB hB.size hb2⟩

set_option maxHeartbeats 1000000 in
theorem set_no (w v : Nat) (a k : Int) (ha : I64 a) (hk : I64 k) (hf : isF a k = false) (W : World) :
    Calls Tryd.prog 47 #[.int .u64 w, .agg #[.int .i64 a, .int .i64 k], .int .u64 v] W fun e w' => e = .returned (.tuple #[.int .u64 0, .int .i64 110]) ∧ Below W.heap.size W w' := by
  go_enter Tryd.func47, Tryd.ntmps47
  go_wp2_with fail
  refine (check_c _ [(a, k)] _ (fieldsAt_one _ (W.heap.size + 1) a k ha hk (by simp) (by simp)) (by simp)).mono ?_
  rintro e w1 ⟨rfl, hb1⟩
  rw [chkE_one, hf]
  go_wp2
  go_ret2
  exact ⟨rfl, below_then (((Below.refl _ _).alloc (Nat.le_refl _) _).alloc (by simp) _) (by simp; omega) hb1⟩

set_option maxHeartbeats 1000000 in
theorem set_over (w v : Nat) (hv : v < 18446744073709551616) (a k : Nat) (h1 : 1 ≤ k) (h2 : a + k ≤ 64) (h3 : fitsB v k = false) (W : World) :
    Calls Tryd.prog 47 #[.int .u64 w, .agg #[.int .i64 a, .int .i64 k], .int .u64 v] W fun e w' => e = .returned (.tuple #[.int .u64 0, .int .i64 111]) ∧ Below W.heap.size W w' := by
  have ha : I64 a := by unfold I64; omega
  have hk : I64 k := by unfold I64; omega
  have hf : isF a k = true := isF_iff.2 (by omega)
  go_enter Tryd.func47, Tryd.ntmps47
  go_wp2_with fail
  refine (check_c _ [((a : Int), (k : Int))] _ (fieldsAt_one _ (W.heap.size + 1) a k ha hk (by simp) (by simp)) (by simp)).mono ?_
  rintro e w1 ⟨rfl, hb1⟩
  rw [chkE_one, if_pos hf]
  have hp0 := below_cell (p := ⟨W.heap.size, 0, none⟩) (v := .int .i64 a) hb1 (by simp)
  have hp1 := below_cell (p := ⟨W.heap.size, 1, none⟩) (v := .int .i64 k) hb1 (by simp)
  have hB := below_then (((Below.refl _ W).alloc (Nat.le_refl _) _).alloc (by simp) _) (by simp; omega) hb1
  clear hb1
  go_wp2_with fail
  refine (fits_c v k hv (by omega) _).mono ?_
  rintro e w2 ⟨rfl, hb2⟩
  go_wp2
  go_ret2
  exact ⟨rfl, below_then hB hB.size hb2⟩

theorem set_val (w a k v : Nat) (hw : w < 18446744073709551616) (h : a + k ≤ 64) (hv : v < 2 ^ k) :
    bits .or .u64 (bits .andNot .u64 (w : Int) (maskN a k : Nat)) (IntKind.u64.wrap ((v : Int) * 2 ^ a)) = (setN w a k v : Nat) := by
  have hlt : v * 2 ^ a < 18446744073709551616 := by
    have h1 : v * 2 ^ a < 2 ^ k * 2 ^ a := Nat.mul_lt_mul_of_pos_right hv (Nat.two_pow_pos a)
    rw [← Nat.pow_add, Nat.add_comm k a] at h1
    exact Nat.lt_of_lt_of_le h1 (pow_le_64 h)
  have hand : w &&& (18446744073709551615 - maskN a k) < 18446744073709551616 := Nat.lt_of_le_of_lt Nat.and_le_left hw
  rw [u64_andNot_nat _ _ hw (maskN_64 a k h), show (2 : Int) ^ a = ((2 ^ a : Nat) : Int) by simp, ← Int.natCast_mul, wrap_u64, ← set_bits w a k v hw h hv, ← u64_or_nat _ _ hand hlt]
  congr 1
  omega

set_option maxHeartbeats 1000000 in
theorem set_yes (w v : Nat) (hw : w < 18446744073709551616) (hv : v < 18446744073709551616) (a k : Nat) (h1 : 1 ≤ k) (h2 : a + k ≤ 64) (h3 : fitsB v k = true) (W : World) :
    Calls Tryd.prog 47 #[.int .u64 w, .agg #[.int .i64 a, .int .i64 k], .int .u64 v] W fun e w' => e = .returned (.tuple #[.int .u64 (setN w a k v), .int .i64 0]) ∧ Below W.heap.size W w' := by
  have ha : I64 a := by unfold I64; omega
  have hk : I64 k := by unfold I64; omega
  have hf : isF a k = true := isF_iff.2 (by omega)
  go_enter Tryd.func47, Tryd.ntmps47
  go_wp2_with fail
  refine (check_c _ [((a : Int), (k : Int))] _ (fieldsAt_one _ (W.heap.size + 1) a k ha hk (by simp) (by simp)) (by simp)).mono ?_
  rintro e w1 ⟨rfl, hb1⟩
  rw [chkE_one, if_pos hf]
  have hp0 := below_cell (p := ⟨W.heap.size, 0, none⟩) (v := .int .i64 a) hb1 (by simp)
  have hp1 := below_cell (p := ⟨W.heap.size, 1, none⟩) (v := .int .i64 k) hb1 (by simp)
  have hB := below_then (((Below.refl _ W).alloc (Nat.le_refl _) _).alloc (by simp) _) (by simp; omega) hb1
  clear hb1
  go_wp2_with fail
  refine (fits_c v k hv (by omega) _).mono ?_
  rintro e w2 ⟨rfl, hb2⟩
  have hp0 := below_cell hb2 hp0
  have hp1 := below_cell hb2 hp1
  have hB := below_then hB hB.size hb2
  clear hb2
  go_wp2_with fail
  go_region_held3 (fun w' => w'.cell? ⟨W.heap.size, 0, none⟩ = some (.int .i64 a) ∧ w'.cell? ⟨W.heap.size, 1, none⟩ = some (.int .i64 k) ∧ Below W.heap.size W w')
    (first
      | exact ⟨by assumption, by assumption, hB.drew⟩
      | (go_split_ands; exact ⟨below_cell hb3 (by assumption), below_cell hb3 (by assumption), below_then (by assumption) (Below.size (by assumption)) hb3⟩))
    (first | (go_at_call 60; refine (mask_c a k h2 _).mono ?_; rintro e w3 ⟨rfl, hb3⟩))
  all_goals go_wp2
  all_goals go_ret2
  all_goals go_split_ands
  all_goals exact ⟨ret_two (val_int (set_val w a k v hw h2 (of_decide_eq_true h3))) rfl, by assumption⟩

end Go.Proofs.YtjgdkfgcfningaaDoor
