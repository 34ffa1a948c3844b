/-
  wakes, the first test of the statements of layer 1, returns true; what was in memory stays.
  Conditions: none.
-/
import Derived.Test.YtejendpkkdmjhaaGet
import Derived.Test.YtejendpkkdmjhaaLog
import Derived.Test.YtejendpkkdmjhaaSigns
import Derived.Test.YtejendpkkdmjhaaText
namespace Go.Proofs.Ytejendpkkdmjhaa
open Go.RowKit Go.Shelf

theorem hasNul_cons (b : UInt8) (r : List UInt8) : hasNul (b :: r) = (b == 0 || hasNul r) := by simp [hasNul]
theorem textN_inj : ∀ (l m : List UInt8), hasNul l = false → hasNul m = false → textN l = textN m → l = m
  | [], [], _, _, _ => rfl
  | [], c :: m, _, h, e => by
    rw [hasNul_cons, Bool.or_eq_false_iff, beq_eq_false_iff_ne] at h
    have : c.toNat = 0 := by simp only [textN] at e; omega
    exact absurd (UInt8.toNat_inj.1 this) h.1
  | b :: l, [], h, _, e => by
    rw [hasNul_cons, Bool.or_eq_false_iff, beq_eq_false_iff_ne] at h
    have : b.toNat = 0 := by simp only [textN] at e; omega
    exact absurd (UInt8.toNat_inj.1 this) h.1
  | b :: l, c :: m, h, h', e => by
    have hb := b.toNat_lt
    have hc := c.toNat_lt
    rw [hasNul_cons, Bool.or_eq_false_iff] at h h'
    simp only [textN] at e
    have e1 : b = c := UInt8.toNat_inj.1 (by omega)
    rw [e1, textN_inj l m h.2 h'.2 (by rw [e1] at e; omega)]
theorem back_yes (l : List UInt8) (hl : l.length ≤ 8) (hn : hasNul l = false) (W : World) :
    Calls Try.prog 38 #[.int .u64 (textN l)] W fun e w' => e = .returned (.tuple #[.string ⟨l.toArray⟩, .int .i64 0]) ∧ Below W.heap.size W w' := by
  refine (back_c (textN l) (textN_64 l hl) W).mono ?_
  rintro e w' ⟨h | h, hb⟩
  · obtain ⟨m, ⟨_, h2, h3⟩, rfl⟩ := h
    rw [textN_inj m l h2 hn h3.symm]
    exact ⟨rfl, hb⟩
  · exact absurd ⟨l, hl, hn, rfl⟩ h.1
theorem back_no (w : Nat) (hw : w < 18446744073709551616) (h : ¬ ∃ l, isText w l) (W : World) :
    Calls Try.prog 38 #[.int .u64 w] W fun e w' => e = .returned (.tuple #[.string ⟨#[]⟩, .int .i64 2]) ∧ Below W.heap.size W w' := by
  refine (back_c w hw W).mono ?_
  rintro e w' ⟨h' | h', hb⟩
  · exact absurd ⟨h'.choose, h'.choose_spec.1⟩ h
  · exact ⟨h'.2, hb⟩

theorem wakes_get (W : World) : Calls Try.prog 17 #[.int .u64 90, .agg #[.int .i64 4, .int .i64 3]] W fun e w' => e = .returned (.tuple #[.int .u64 5, .int .i64 0]) ∧ Below W.heap.size W w' := get_yes 90 (by decide) 4 3 (by decide) (by decide) W
theorem wakes_set (W : World) : Calls Try.prog 19 #[.int .u64 0, .agg #[.int .i64 4, .int .i64 3], .int .u64 5] W fun e w' => e = .returned (.tuple #[.int .u64 80, .int .i64 0]) ∧ Below W.heap.size W w' := set_yes 0 5 (by decide) (by decide) 4 3 (by decide) (by decide) (by decide) W
theorem wakes_signed (W : World) : Calls Try.prog 31 #[.int .u64 12, .int .i64 4] W fun e w' => e = .returned (.tuple #[.int .i64 (-4), .int .i64 0]) ∧ w' = W := signed_yes 12 4 (by decide) (by decide) W
theorem wakes_text (W : World) : Calls Try.prog 35 #[.string ⟨#[97, 98]⟩] W fun e w' => e = .returned (.tuple #[.int .u64 25185, .int .i64 0]) ∧ Below W.heap.size W w' := text_c ⟨#[97, 98]⟩ (by decide) W
theorem wakes_back (W : World) : Calls Try.prog 38 #[.int .u64 25185] W fun e w' => e = .returned (.tuple #[.string ⟨#[97, 98]⟩, .int .i64 0]) ∧ Below W.heap.size W w' := back_yes [97, 98] (by decide) (by decide) W
theorem wakes_left (W : World) : Calls Try.prog 25 #[.int .u64 2, .int .i64 63] W fun e w' => e = .returned (.tuple #[.int .u64 0, .int .i64 111]) ∧ w' = W := left_over 2 63 (by decide) (by decide) W
theorem wakes_log (W : World) : Calls Try.prog 23 #[.int .u64 9] W fun e w' => e = .returned (.int .i64 3) ∧ Below W.heap.size W w' := by
  have h := log_c 9 (by decide) W
  have e : (lenN 9 : Int) - 1 = 3 := by rw [show lenN 9 = 4 from lenN_top (j := 3) (by decide) (by decide)]; rfl
  rwa [e] at h

set_option maxRecDepth 100000 in
set_option maxHeartbeats 2000000 in
theorem wakes_c (W : World) : Calls Try.prog 9 #[] W fun e w' => e = .returned (.bool true) ∧ Below W.heap.size W w' := by
  go_enter Try.func9, Try.ntmps9
  go_wp2_with fail
  refine (wakes_get _).mono ?_
  rintro e w1 ⟨rfl, hb1⟩
  have hp0 := below_cell (p := ⟨W.heap.size, 0, none⟩) (v := .int .i64 4) hb1 (by simp)
  have hp1 := below_cell (p := ⟨W.heap.size, 1, none⟩) (v := .int .i64 3) hb1 (by simp)
  have hB := below_then ((Below.refl _ W).alloc (Nat.le_refl _) _) (by simp) hb1
  clear hb1
  go_wp2_with fail
  refine (wakes_set _).mono ?_
  rintro e w2 ⟨rfl, hb2⟩
  replace hB := below_then hB hB.size hb2
  clear hb2 hp0 hp1
  go_wp2_with fail
  refine (wakes_signed _).mono ?_
  rintro e w3 ⟨rfl, rfl⟩
  go_wp2_with fail
  refine (wakes_text _).mono ?_
  rintro e w4 ⟨rfl, hb4⟩
  replace hB := below_then hB hB.size hb4
  clear hb4
  go_wp2_with fail
  refine (wakes_back _).mono ?_
  rintro e w5 ⟨rfl, hb5⟩
  replace hB := below_then hB hB.size hb5
  clear hb5
  go_wp2_with fail
  refine (wakes_left _).mono ?_
  rintro e w6 ⟨rfl, rfl⟩
  go_wp2_with fail
  refine (wakes_log _).mono ?_
  rintro e w7 ⟨rfl, hb7⟩
  replace hB := below_then hB hB.size hb7
  clear hb7
  go_wp2
  go_ret
  exact ⟨rfl, hB⟩

end Go.Proofs.Ytejendpkkdmjhaa
