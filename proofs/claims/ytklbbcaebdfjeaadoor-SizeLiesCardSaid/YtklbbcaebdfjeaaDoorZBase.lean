/-
  Package size: which classes there are, how many words, which blocks may be, and where they lie.
  Conditions: the package's table of sizes is as it was laid.
-/
import Derived.Test.YtklbbcaebdfjeaaDoorGBase
namespace Go.Proofs.YtklbbcaebdfjeaaDoor
open Go.RowKit Go.Shelf

/-- How many words a block of a class has. -/
def szN (i : Nat) : Nat := [2, 4, 8, 16].getD i 0
theorem sz_ok {i : Nat} (h : i < 4) : 2 ≤ szN i ∧ szN i ≤ 16 := by
  rcases i with _ | _ | _ | _ | i <;> first | decide | omega
/-- The package's table. -/
def Tab (W : World) : Prop := ∀ i, i < 4 → W.cell? ⟨0, i, none⟩ = some (.int .i64 (szN i))
theorem Tab.below {W W' : World} (h : Tab W) (hb : Below W.heap.size W W') : Tab W' := fun i hi => below_cell hb (h i hi)
theorem Tab.lt {W : World} (h : Tab W) : 0 < W.heap.size := World.block_lt_of_cell? _ _ (h 0 (by decide))

/-- A number in the range of int. -/
def I64 (x : Int) : Prop := -9223372036854775808 ≤ x ∧ x ≤ 9223372036854775807
/-- Is there such a class? -/
def isB (c : Int) : Bool := decide (0 ≤ c ∧ c < 4)
theorem isB_yes {c : Int} (h : isB c = true) : ∃ k : Nat, c = k ∧ k < 4 := by
  have := of_decide_eq_true h
  exact ⟨c.toNat, by omega, by omega⟩
theorem isB_nat {k : Nat} (h : k < 4) : isB (k : Int) = true := by simp [isB]; omega
/-- May a block be? -/
def mayB (at' c : Int) : Bool := isB c && decide (0 ≤ at' ∧ at' ≤ 4096 - szN c.toNat ∧ at' % (szN c.toNat : Int) = 0)
abbrev blkV (at' c : Int) : Value := .agg #[.int .i64 at', .int .i64 c]

set_option maxHeartbeats 1000000 in
theorem is_c (c : Int) (W : World) : Calls Tryd.prog 34 #[.int .i64 c] W fun e w' => e = .returned (.bool (isB c)) ∧ w' = W := by
  by_cases h0 : 0 ≤ c
  · by_cases h1 : c < 4
    · have HB := Lib.hid (show true = isB c by simp [isB, h0, h1])
      go_enter Tryd.func34, Tryd.ntmps34
      go_wp2
      go_ret
      exact ⟨ret_bool HB.out, rfl⟩
    · have HB := Lib.hid (show false = isB c by simp [isB, h0]; omega)
      go_enter Tryd.func34, Tryd.ntmps34
      go_wp2
      go_ret
      exact ⟨ret_bool HB.out, rfl⟩
  · have HB := Lib.hid (show false = isB c by simp [isB]; omega)
    go_enter Tryd.func34, Tryd.ntmps34
    go_wp2
    go_ret
    exact ⟨ret_bool HB.out, rfl⟩

set_option maxRecDepth 100000 in
set_option maxHeartbeats 2000000 in
theorem may_c (a c : Int) (ha : I64 a) (W : World) (hT : Tab W) : Calls Tryd.prog 36 #[blkV a c] W fun e w' => e = .returned (.bool (mayB a c)) ∧ Below W.heap.size W w' := by
  have hb : Below W.heap.size W (W.alloc (.cells #[.int .i64 a, .int .i64 c] 33)) := (Below.refl _ _).alloc (Nat.le_refl _) _
  cases hI : isB c with
  | false =>
    have HB := Lib.hid (show false = mayB a c by simp [mayB, hI])
    clear hT ha
    go_enter Tryd.func36, Tryd.ntmps36
    go_wp2_with fail
    refine (is_c c _).mono ?_
    rintro e w1 ⟨rfl, rfl⟩
    rw [hI]
    go_wp2
    go_ret
    exact ⟨ret_bool HB.out, hb⟩
  | true =>
    obtain ⟨k, rfl, hk⟩ := isB_yes hI
    obtain ⟨hs1, hs2⟩ := sz_ok hk
    have hc0 := below_cell hb (hT k hk)
    have HM := Lib.hid (show mayB a (k : Int) = decide (0 ≤ a ∧ a ≤ 4096 - (szN k : Int) ∧ a % (szN k : Int) = 0) by simp [mayB, hI])
    obtain ⟨s, hs⟩ : ∃ s, s = szN k := ⟨_, rfl⟩
    rw [← hs] at hs1 hs2 hc0 HM
    obtain ⟨ha1, ha2⟩ := ha
    clear hs hT
    by_cases h0 : 0 ≤ a
    · by_cases h1 : a ≤ 4096 - (s : Int)
      · by_cases h2 : a % (s : Int) = 0
        · have HB := Lib.hid (show true = mayB a k by rw [HM.out]; simp [h0, h1, h2])
          clear HM
          go_enter Tryd.func36, Tryd.ntmps36
          go_wp2_with fail
          refine (is_c k _).mono ?_
          rintro e w1 ⟨rfl, rfl⟩
          rw [hI]
          go_wp2
          go_ret
          exact ⟨ret_bool HB.out, hb⟩
        · have HB := Lib.hid (show false = mayB a k by rw [HM.out]; simp [h0, h1, h2])
          clear HM
          go_enter Tryd.func36, Tryd.ntmps36
          go_wp2_with fail
          refine (is_c k _).mono ?_
          rintro e w1 ⟨rfl, rfl⟩
          rw [hI]
          go_wp2
          go_ret
          exact ⟨ret_bool (by rw [← HB.out]; simpa using h2), hb⟩
      · have HB := Lib.hid (show false = mayB a k by rw [HM.out]; simp [h0]; omega)
        clear HM
        go_enter Tryd.func36, Tryd.ntmps36
        go_wp2_with fail
        refine (is_c k _).mono ?_
        rintro e w1 ⟨rfl, rfl⟩
        rw [hI]
        go_wp2
        go_ret
        exact ⟨ret_bool HB.out, hb⟩
    · have HB := Lib.hid (show false = mayB a k by rw [HM.out]; simp; omega)
      clear HM
      go_enter Tryd.func36, Tryd.ntmps36
      go_wp2_with fail
      refine (is_c k _).mono ?_
      rintro e w1 ⟨rfl, rfl⟩
      rw [hI]
      go_wp2
      go_ret
      exact ⟨ret_bool HB.out, hb⟩

end Go.Proofs.YtklbbcaebdfjeaaDoor
