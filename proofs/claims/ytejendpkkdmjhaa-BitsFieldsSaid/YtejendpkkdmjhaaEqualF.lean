/-
  slices.Equal of two rows of fields that read the same: true.
  Conditions: both read as the same fields.
-/
import Derived.Test.YtejendpkkdmjhaaStayLib
import Derived.Deep.QuietTactic
import Derived.BigQuiet
namespace Go.Proofs.Ytejendpkkdmjhaa
open Go.RowKit Go.Shelf

set_option maxHeartbeats 4000000 in
theorem equalF_same (v0 v1 : Value) (fs : List (Int × Int)) (W : World) (hv0 : FieldsAt W v0 fs) (hv1 : FieldsAt W v1 fs) (hl : fs.length ≤ 9223372036854775807) :
    Calls Try.prog 22 #[v0, v1] W fun e w' => e = .returned (.bool true) ∧ Below W.heap.size W w' := by
  obtain ⟨p0, cap0, rfl, hr, hc0⟩ := hv0
  obtain ⟨p1, cap1, rfl, _, hc1⟩ := hv1
  go_enter Try.func22, Try.ntmps22
  have hne : ((fs.length : Int) != (fs.length : Int)) = false := by rw [bne_eq_false_iff_eq]
  go_wp2
  go_loopw [13] (fun iv wr => ∃ i : Nat, i ≤ fs.length ∧ iv = .int .i64 i ∧ Below W.heap.size W wr) (fun iv _ => fs.length - (intOf iv).toNat)
  case atStart => exact ⟨0, Nat.zero_le _, rfl, Below.refl _ _⟩
  case round =>
    obtain ⟨i, hi, rfl, hB⟩ := hrel
    by_cases hlt : i < fs.length
    · obtain ⟨b0, off0, rfl, hcs0⟩ := hc0 (by intro e; rw [e] at hlt; cases hlt)
      obtain ⟨b1, off1, rfl, hcs1⟩ := hc1 (by intro e; rw [e] at hlt; cases hlt)
      obtain ⟨hx, hy⟩ := hcs0 i hlt
      obtain ⟨hz, hu⟩ := hcs1 i hlt
      obtain ⟨⟨a, k⟩, hak⟩ : ∃ f, f = fs[i] := ⟨_, rfl⟩
      rw [← hak] at hx hy hz hu
      simp only at hx hy hz hu
      have hx' := below_cell hB hx
      have hy' := below_cell hB hy
      have hz' := below_cell hB hz
      have hu' := below_cell hB hu
      clear hx hy hz hu hcs0 hcs1 hak hne
      go_wp2
      go_quiet (fail)
      go_wp2
      all_goals
        go_roundw
        case rel => exact ⟨i + 1, by omega, by go_num, below_drewN hB _⟩
        case measure => simp [intOf]; omega
    · go_wp2
      go_ret
      exact ⟨rfl, hB⟩

end Go.Proofs.Ytejendpkkdmjhaa
