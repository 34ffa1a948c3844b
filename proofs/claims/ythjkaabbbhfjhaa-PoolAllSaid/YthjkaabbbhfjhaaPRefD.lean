/-
  The reference's Page.
  Conditions: the pool may be.
-/
import Derived.Test.YthjkaabbbhfjhaaPRefA
namespace Go.Proofs.Ythjkaabbbhfjhaa
open Go.RowKit Go.Shelf
attribute [local go_sem] Oper.semAt_some

def pageF (b pg w : Int) : Int × Int := if b ≤ w ∧ w < b + 16 * pg then ((w - b) / 16, (w - b) % 16) else (-1, 0)
set_option maxRecDepth 100000 in
set_option maxHeartbeats 4000000 in
theorem rpage_c (b w : Int) (k : Nat) (v : Value) (hb : 0 ≤ b ∧ b ≤ 4096) (hk : k ≤ 64) (W : World) :
    Calls Try.prog 16 #[.agg #[.int .i64 b, .int .i64 (k : Int), v], .int .i64 w] W fun e w' => e = .returned (.tuple #[.int .i64 (pageF b k w).1, .int .i64 (pageF b k w).2]) ∧ Below W.heap.size W w' := by
  obtain ⟨h0, h1⟩ := hb
  obtain ⟨w0, hw0⟩ : ∃ X : World, X = W.alloc (.cells #[.int .i64 b, .int .i64 (k : Int), v] 24) := ⟨_, rfl⟩
  have hP : PBox w0 W.heap.size b k v := by rw [hw0]; exact PBox.new _ _ _ _
  obtain ⟨d0, d1, d2⟩ := hP.cells
  have HP := Lib.hid hP
  have HB := Lib.hid (show Below W.heap.size W w0 by rw [hw0]; exact below1 _ _)
  have HW0 := Lib.hid hw0
  rw [hw0] at d0 d1 d2
  clear hw0 hP
  go_enter Try.func16, Try.ntmps16
  go_wp2
  rw [← HW0.out]
  clear d0 d1 d2 HW0
  go_loop [10] (fun iv => ∃ i : Nat, i ≤ k ∧ iv = .int .i64 (i : Int) ∧ Hid (¬ (b ≤ w ∧ w < b + 16 * (i : Int)))) (fun iv => k - (pIntOf iv).toNat)
  case atStart => exact ⟨0, Nat.zero_le _, rfl, Lib.hid (by omega)⟩
  case round =>
    obtain ⟨i, hi, rfl, HN⟩ := hrel
    obtain ⟨d0, d1, d2⟩ := HP.out.cells
    by_cases hlt : i < k
    · go_wp2
      go_loop [13] (fun jv => ∃ j : Nat, j ≤ 16 ∧ jv = .int .i64 (j : Int) ∧ Hid (¬ (b ≤ w ∧ w < b + 16 * (i : Int) + (j : Int)))) (fun jv => 16 - (pIntOf jv).toNat)
      case atStart => exact ⟨0, Nat.zero_le _, rfl, Lib.hid (by have := HN.out; omega)⟩
      case round =>
        obtain ⟨j, hj, rfl, HM⟩ := hrel
        by_cases hjlt : j < 16
        · by_cases he : b + 16 * (i : Int) + (j : Int) = w
          · have HF := Lib.hid (show pageF b k w = ((i : Int), (j : Int)) by unfold pageF; rw [if_pos (by omega)]; congr 1 <;> omega)
            have hq : (b + 16 * (i : Int) + (j : Int) == w) = true := by rw [he]; exact beq_self_eq_true w
            clear he
            go_wp2
            go_ret2
            exact ⟨by rw [HF.out]; rfl, HB.out⟩
          · have hq : (b + 16 * (i : Int) + (j : Int) == w) = false := by rw [beq_eq_false_iff_ne]; exact he
            have HM2 := Lib.hid (show ¬ (b ≤ w ∧ w < b + 16 * (i : Int) + ((j + 1 : Nat) : Int)) by have := HM.out; omega)
            clear he
            go_wp2
            go_round
            case rel => exact ⟨j + 1, by omega, by go_num, HM2⟩
            case measure => simp [pIntOf]; omega
        · obtain rfl : j = 16 := by omega
          have HN2 := Lib.hid (show ¬ (b ≤ w ∧ w < b + 16 * ((i + 1 : Nat) : Int)) by have := HM.out; omega)
          go_wp2
          go_round
          case rel => exact ⟨i + 1, by omega, by go_num, HN2⟩
          case measure => simp [pIntOf]; omega
    · obtain rfl : i = k := by omega
      have HF := Lib.hid (show pageF b i w = (-1, 0) by unfold pageF; rw [if_neg HN.out])
      go_wp2
      go_ret2
      exact ⟨by rw [HF.out]; rfl, HB.out⟩

end Go.Proofs.Ythjkaabbbhfjhaa
