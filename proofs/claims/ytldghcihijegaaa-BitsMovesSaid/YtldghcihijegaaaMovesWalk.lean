/-
  The walk of BitsMoves: it returns true, for every row of words and of numbers, and leaves memory as it was.
  Conditions: the slices read as lists of words, and of numbers in the range of int, shorter than 2 to the power 62.
-/
import Derived.Test.YtldghcihijegaaaRef
import Derived.Test.YtldghcihijegaaaNums
namespace Go.Proofs.Ytldghcihijegaaa
open Go.RowKit Go.Shelf

theorem left_min70 (w m : Nat) (h : 70 ≤ m) : leftB w 70 = leftB w m ∧ leftV w 70 = leftV w m := by
  have hb : leftB w 70 = leftB w m := by
    simp only [leftB, decide_eq_decide]
    have h70 : (2 : Nat) ^ 70 = 1180591620717411303424 := rfl
    have hp : 2 ^ 70 ≤ 2 ^ m := Nat.pow_le_pow_right (by decide) h
    rcases Nat.eq_zero_or_pos w with e | e
    · subst e; simp
    · have h1 := Nat.mul_le_mul e hp
      have h2 := Nat.mul_le_mul e (Nat.le_refl (2 ^ 70))
      constructor <;> intro h3 <;> omega
  refine ⟨hb, ?_⟩
  unfold leftV
  rw [hb]
  by_cases hB : leftB w m = true
  · have hw0 : w = 0 := by
      have h3 := of_decide_eq_true (show decide (w * 2 ^ 70 < 18446744073709551616) = true from hb.trans hB)
      have h70 : (2 : Nat) ^ 70 = 1180591620717411303424 := rfl
      omega
    subst hw0; simp
  · simp [hB]

theorem left_u_yes (w m : Nat) (h : leftB w m = true) (W : World) :
    Calls Try.prog 25 #[.int .u64 w, .int .i64 m] W fun e w' => e = .returned (.tuple #[.int .u64 (leftV w m), .int .i64 0]) ∧ w' = W := by
  rw [(leftV_yes (of_decide_eq_true h)).2]
  exact left_yes w m (of_decide_eq_true h) W
theorem left_u_no (w m : Nat) (hw : w < 18446744073709551616) (h : leftB w m = false) (W : World) :
    Calls Try.prog 25 #[.int .u64 w, .int .i64 m] W fun e w' => e = .returned (.tuple #[.int .u64 (leftV w m), .int .i64 111]) ∧ w' = W := by
  rw [(leftV_no (of_decide_eq_false h)).2]
  exact left_over w m hw (of_decide_eq_false h) W

/-- One number of the row, beside one word: what is called, and what it answers. -/
def MovesL (w : Nat) (n : Int) (V : Nat) (E : Int) : Prop := ∀ W, Calls Try.prog 25 #[.int .u64 w, .int .i64 n] W fun e w' => e = .returned (.tuple #[.int .u64 V, .int .i64 E]) ∧ w' = W
def MovesRL (w : Nat) (n : Int) (V : Nat) (b : Bool) : Prop := ∀ W, Calls Try.prog 26 #[.int .u64 w, .int .i64 n] W fun e w' => e = .returned (.tuple #[.int .u64 V, .bool b]) ∧ w' = W
def MovesT (w : Nat) (n : Int) (V : Nat) (E : Int) : Prop := ∀ W, Calls Try.prog 27 #[.int .u64 w, .int .i64 n] W fun e w' => e = .returned (.tuple #[.int .u64 V, .int .i64 E]) ∧ Below W.heap.size W w'
def MovesF (w : Nat) (n : Int) (b : Bool) : Prop := ∀ W, Calls Try.prog 20 #[.int .u64 w, .int .i64 n] W fun e w' => e = .returned (.bool b) ∧ w' = W
def MovesRT (w : Nat) (n : Int) (V : Nat) : Prop := ∀ W, Calls Try.prog 28 #[.int .u64 w, .int .i64 n] W fun e w' => e = .returned (.int .u64 V) ∧ w' = W
def MovesR (w : Nat) (n : Int) (V : Nat) : Prop := ∀ W, Calls Try.prog 29 #[.int .u64 w, .int .i64 n] W fun e w' => e = .returned (.int .u64 V) ∧ w' = W
def MovesRR (w : Nat) (n : Int) (V : Nat) : Prop := ∀ W, Calls Try.prog 30 #[.int .u64 w, .int .i64 n] W fun e w' => e = .returned (.int .u64 V) ∧ w' = W

set_option maxRecDepth 100000 in
set_option maxHeartbeats 8000000 in
theorem bitsMoves_walk (v0 v1 : Value) (ws ns : List Int) (W : World) (hv0 : NumsAt W .u64 v0 ws) (hv1 : NumsAt W .i64 v1 ns) (hws : ∀ x ∈ ws, 0 ≤ x ∧ x ≤ 18446744073709551615) (hns : ∀ x ∈ ns, I64 x)
    (hl0 : ws.length ≤ 9223372036854775807) (hl1 : ns.length ≤ 9223372036854775807) :
    Calls Try.prog 4 #[v0, v1] W fun e w' => e = .returned (.bool true) ∧ Below W.heap.size W w' := by
  obtain ⟨p0, cap0, rfl, hc0⟩ := hv0
  obtain ⟨p1, cap1, rfl, hc1⟩ := hv1
  go_enter Try.func4, Try.ntmps4
  go_wp2_with fail
  refine (wakes_c _).mono ?_
  rintro e w1 ⟨rfl, hB1⟩
  go_wp2_with fail
  go_loopw [22] (fun iv wr => ∃ i : Nat, i ≤ ws.length ∧ iv = .int .i64 i ∧ Below W.heap.size W wr) (fun iv _ => ws.length - (intOf iv).toNat)
  case atStart => exact ⟨0, Nat.zero_le _, rfl, hB1⟩
  case round =>
    obtain ⟨i, hi, rfl, hB⟩ := hrel
    by_cases hlt : i < ws.length
    · obtain ⟨b, off, rfl, hcs⟩ := hc0 (by intro e; rw [e] at hlt; cases hlt)
      have hx := hcs i hlt
      have hxr := hws _ (List.getElem_mem hlt)
      obtain ⟨x, hxe⟩ : ∃ x, x = ws[i] := ⟨_, rfl⟩
      rw [← hxe] at hx hxr
      obtain ⟨w, rfl⟩ := Int.eq_ofNat_of_zero_le hxr.1
      have hw : w < 18446744073709551616 := by omega
      have hx' := (hB.cell (World.block_lt_of_cell? W _ hx)).trans hx
      clear hx hcs hxe hxr
      by_cases h8 : i = 8
      · subst h8
        go_wp2
        go_ret
        exact ⟨rfl, hB⟩
      · have h8' : ((i : Int) == 8) = false := by rw [beq_eq_false_iff_ne]; omega
        go_wp2_with fail
        refine (log_c w hw _).mono ?_
        rintro e w2 ⟨rfl, hb2⟩
        have hB2 := below_then hB hB.size hb2
        clear hb2
        go_wp2_with fail
        refine (rlog_c w hw _).mono ?_
        rintro e w3 ⟨rfl, rfl⟩
        go_wp2_with fail
        obtain ⟨wo, rfl⟩ : ∃ wo : World, wo = w3 := ⟨_, rfl⟩
        go_loopw [36] (fun kv wr2 => ∃ k : Nat, k ≤ ns.length ∧ kv = .int .i64 k ∧ Below W.heap.size W wr2) (fun kv _ => ns.length - (intOf kv).toNat)
        case atStart => exact ⟨0, Nat.zero_le _, rfl, hB2⟩
        case round =>
          obtain ⟨k, hk, rfl, hBk⟩ := hrel
          by_cases hltk : k < ns.length
          · obtain ⟨b1, off1, rfl, hcs1⟩ := hc1 (by intro e; rw [e] at hltk; cases hltk)
            have hy := hcs1 k hltk
            have hyr := hns _ (List.getElem_mem hltk)
            obtain ⟨n, hne⟩ : ∃ n, n = ns[k] := ⟨_, rfl⟩
            rw [← hne] at hy hyr
            unfold I64 at hyr
            have hy' := (hBk.cell (World.block_lt_of_cell? W _ hy)).trans hy
            clear hy hcs1 hne
            by_cases hk8 : k = 8
            · subst hk8
              go_wp2
              go_roundw
              case rel => exact ⟨i + 1, by omega, by go_num, hBk⟩
              case measure => simp [intOf]; omega
            · have hk8' : ((k : Int) == 8) = false := by rw [beq_eq_false_iff_ne]; omega
              by_cases hneg : n < 0
              · have HL : MovesL w n 0 2 := fun W => left_no w n hneg W
                have HT : MovesT w n 0 2 := fun W => turn_no w n (by omega) W
                have HR : MovesR w n (w / 2 ^ 0) := fun W => by have h := right_c w n hw W; rwa [show n.toNat = 0 by omega] at h
                have HRR : MovesRR w 0 (w / 2 ^ 0) := fun W => rright_c w 0 hw (by omega) W
                go_wp2_with (first
                  | (go_at_call 25; refine (HL _).mono ?_; rintro e w' ⟨rfl, rfl⟩)
                  | (go_at_call 27; refine (HT _).mono ?_; rintro e w4 ⟨rfl, hb4⟩)
                  | (go_at_call 29; refine (HR _).mono ?_; rintro e w' ⟨rfl, rfl⟩)
                  | (go_at_call 30; refine (HRR _).mono ?_; rintro e w' ⟨rfl, rfl⟩))
                go_roundw
                case rel => exact ⟨k + 1, by omega, by go_num, below_then hBk hBk.size hb4⟩
                case measure => simp [intOf]; omega
              · obtain ⟨m, rfl⟩ := Int.eq_ofNat_of_zero_le (show 0 ≤ n by omega)
                have HR : MovesR w m (w / 2 ^ m) := fun W => by have h := right_c w m hw W; rwa [Int.toNat_natCast] at h
                have HRR : MovesRR w m (w / 2 ^ m) := fun W => rright_c w m hw (by omega) W
                rcases hbb : leftB w m with _ | _
                · have HL : MovesL w m (leftV w m) 111 := left_u_no w m hw hbb
                  by_cases h64 : m ≤ 64
                  · have HRL : MovesRL w m (leftV w m) false := fun W => by have h := rleft_c w m hw (by omega) W; rw [hbb] at h; exact h
                    have h70 : (m : Int) < 70 := by omega
                    clear hbb
                    rcases fits_or w m with hf | hf
                    · have HT : MovesT w m (turnN w m) 0 := turn_yes w m hw h64 hf
                      have HF : MovesF w m true := fun W => by have h := rfits_c w m hw h64 W; rwa [hf] at h
                      have HRT : MovesRT w m (turnN w m) := rturn_c w m hw h64
                      go_wp2_with (first
                        | (go_at_call 25; refine (HL _).mono ?_; rintro e w' ⟨rfl, rfl⟩)
                        | (go_at_call 26; refine (HRL _).mono ?_; rintro e w' ⟨rfl, rfl⟩)
                        | (go_at_call 27; refine (HT _).mono ?_; rintro e w4 ⟨rfl, hb4⟩)
                        | (go_at_call 20; refine (HF _).mono ?_; rintro e w' ⟨rfl, rfl⟩)
                        | (go_at_call 28; refine (HRT _).mono ?_; rintro e w' ⟨rfl, rfl⟩)
                        | (go_at_call 29; refine (HR _).mono ?_; rintro e w' ⟨rfl, rfl⟩)
                        | (go_at_call 30; refine (HRR _).mono ?_; rintro e w' ⟨rfl, rfl⟩))
                      go_roundw
                      case rel => exact ⟨k + 1, by omega, by go_num, below_then hBk hBk.size hb4⟩
                      case measure => simp [intOf]; omega
                    · have HT : MovesT w m 0 111 := turn_over w m hw h64 hf
                      have HF : MovesF w m false := fun W => by have h := rfits_c w m hw h64 W; rwa [hf] at h
                      go_wp2_with (first
                        | (go_at_call 25; refine (HL _).mono ?_; rintro e w' ⟨rfl, rfl⟩)
                        | (go_at_call 26; refine (HRL _).mono ?_; rintro e w' ⟨rfl, rfl⟩)
                        | (go_at_call 27; refine (HT _).mono ?_; rintro e w4 ⟨rfl, hb4⟩)
                        | (go_at_call 20; refine (HF _).mono ?_; rintro e w' ⟨rfl, rfl⟩)
                        | (go_at_call 29; refine (HR _).mono ?_; rintro e w' ⟨rfl, rfl⟩)
                        | (go_at_call 30; refine (HRR _).mono ?_; rintro e w' ⟨rfl, rfl⟩))
                      go_roundw
                      case rel => exact ⟨k + 1, by omega, by go_num, below_then hBk hBk.size hb4⟩
                      case measure => simp [intOf]; omega
                  · have HT : MovesT w m 0 2 := turn_no w m (by omega)
                    have h64' : ¬ (m : Int) ≤ 64 := by omega
                    by_cases h70 : (m : Int) < 70
                    · have HRL : MovesRL w m (leftV w m) false := fun W => by have h := rleft_c w m hw (by omega) W; rw [hbb] at h; exact h
                      clear hbb
                      go_wp2_with (first
                        | (go_at_call 25; refine (HL _).mono ?_; rintro e w' ⟨rfl, rfl⟩)
                        | (go_at_call 26; refine (HRL _).mono ?_; rintro e w' ⟨rfl, rfl⟩)
                        | (go_at_call 27; refine (HT _).mono ?_; rintro e w4 ⟨rfl, hb4⟩)
                        | (go_at_call 29; refine (HR _).mono ?_; rintro e w' ⟨rfl, rfl⟩)
                        | (go_at_call 30; refine (HRR _).mono ?_; rintro e w' ⟨rfl, rfl⟩))
                      go_roundw
                      case rel => exact ⟨k + 1, by omega, by go_num, below_then hBk hBk.size hb4⟩
                      case measure => simp [intOf]; omega
                    · by_cases h71 : m = 70
                      · subst h71
                        replace hy' : _ = some (Value.int IntKind.i64 70) := hy'
                        replace HL : MovesL w 70 (leftV w 70) 111 := HL
                        replace HT : MovesT w 70 0 2 := HT
                        replace HR : MovesR w 70 (w / 2 ^ 70) := HR
                        replace HRR : MovesRR w 70 (w / 2 ^ 70) := HRR
                        have HRL : MovesRL w 70 (leftV w 70) false := fun W => by have h := rleft_c w 70 hw (by omega) W; rw [hbb] at h; exact h
                        clear hbb
                        go_wp2_with (first
                          | (go_at_call 25; refine (HL _).mono ?_; rintro e w' ⟨rfl, rfl⟩)
                          | (go_at_call 26; refine (HRL _).mono ?_; rintro e w' ⟨rfl, rfl⟩)
                          | (go_at_call 27; refine (HT _).mono ?_; rintro e w4 ⟨rfl, hb4⟩)
                          | (go_at_call 29; refine (HR _).mono ?_; rintro e w' ⟨rfl, rfl⟩)
                          | (go_at_call 30; refine (HRR _).mono ?_; rintro e w' ⟨rfl, rfl⟩))
                        go_roundw
                        case rel => exact ⟨k + 1, by omega, by go_num, below_then hBk hBk.size hb4⟩
                        case measure => simp [intOf]; omega
                      · have h71' : (70 : Int) < m := by omega
                        have HRL : MovesRL w 70 (leftV w m) false := fun W => by have h := rleft_c w 70 hw (by omega) W; obtain ⟨e1, e2⟩ := left_min70 w m (by omega); rw [e1, e2, hbb] at h; exact h
                        clear hbb
                        go_wp2_with (first
                          | (go_at_call 25; refine (HL _).mono ?_; rintro e w' ⟨rfl, rfl⟩)
                          | (go_at_call 26; refine (HRL _).mono ?_; rintro e w' ⟨rfl, rfl⟩)
                          | (go_at_call 27; refine (HT _).mono ?_; rintro e w4 ⟨rfl, hb4⟩)
                          | (go_at_call 29; refine (HR _).mono ?_; rintro e w' ⟨rfl, rfl⟩)
                          | (go_at_call 30; refine (HRR _).mono ?_; rintro e w' ⟨rfl, rfl⟩))
                        go_roundw
                        case rel => exact ⟨k + 1, by omega, by go_num, below_then hBk hBk.size hb4⟩
                        case measure => simp [intOf]; omega
                · have HL : MovesL w m (leftV w m) 0 := left_u_yes w m hbb
                  by_cases h64 : m ≤ 64
                  · have HRL : MovesRL w m (leftV w m) true := fun W => by have h := rleft_c w m hw (by omega) W; rw [hbb] at h; exact h
                    have h70 : (m : Int) < 70 := by omega
                    clear hbb
                    rcases fits_or w m with hf | hf
                    · have HT : MovesT w m (turnN w m) 0 := turn_yes w m hw h64 hf
                      have HF : MovesF w m true := fun W => by have h := rfits_c w m hw h64 W; rwa [hf] at h
                      have HRT : MovesRT w m (turnN w m) := rturn_c w m hw h64
                      go_wp2_with (first
                        | (go_at_call 25; refine (HL _).mono ?_; rintro e w' ⟨rfl, rfl⟩)
                        | (go_at_call 26; refine (HRL _).mono ?_; rintro e w' ⟨rfl, rfl⟩)
                        | (go_at_call 27; refine (HT _).mono ?_; rintro e w4 ⟨rfl, hb4⟩)
                        | (go_at_call 20; refine (HF _).mono ?_; rintro e w' ⟨rfl, rfl⟩)
                        | (go_at_call 28; refine (HRT _).mono ?_; rintro e w' ⟨rfl, rfl⟩)
                        | (go_at_call 29; refine (HR _).mono ?_; rintro e w' ⟨rfl, rfl⟩)
                        | (go_at_call 30; refine (HRR _).mono ?_; rintro e w' ⟨rfl, rfl⟩))
                      go_roundw
                      case rel => exact ⟨k + 1, by omega, by go_num, below_then hBk hBk.size hb4⟩
                      case measure => simp [intOf]; omega
                    · have HT : MovesT w m 0 111 := turn_over w m hw h64 hf
                      have HF : MovesF w m false := fun W => by have h := rfits_c w m hw h64 W; rwa [hf] at h
                      go_wp2_with (first
                        | (go_at_call 25; refine (HL _).mono ?_; rintro e w' ⟨rfl, rfl⟩)
                        | (go_at_call 26; refine (HRL _).mono ?_; rintro e w' ⟨rfl, rfl⟩)
                        | (go_at_call 27; refine (HT _).mono ?_; rintro e w4 ⟨rfl, hb4⟩)
                        | (go_at_call 20; refine (HF _).mono ?_; rintro e w' ⟨rfl, rfl⟩)
                        | (go_at_call 29; refine (HR _).mono ?_; rintro e w' ⟨rfl, rfl⟩)
                        | (go_at_call 30; refine (HRR _).mono ?_; rintro e w' ⟨rfl, rfl⟩))
                      go_roundw
                      case rel => exact ⟨k + 1, by omega, by go_num, below_then hBk hBk.size hb4⟩
                      case measure => simp [intOf]; omega
                  · have HT : MovesT w m 0 2 := turn_no w m (by omega)
                    have h64' : ¬ (m : Int) ≤ 64 := by omega
                    by_cases h70 : (m : Int) < 70
                    · have HRL : MovesRL w m (leftV w m) true := fun W => by have h := rleft_c w m hw (by omega) W; rw [hbb] at h; exact h
                      clear hbb
                      go_wp2_with (first
                        | (go_at_call 25; refine (HL _).mono ?_; rintro e w' ⟨rfl, rfl⟩)
                        | (go_at_call 26; refine (HRL _).mono ?_; rintro e w' ⟨rfl, rfl⟩)
                        | (go_at_call 27; refine (HT _).mono ?_; rintro e w4 ⟨rfl, hb4⟩)
                        | (go_at_call 29; refine (HR _).mono ?_; rintro e w' ⟨rfl, rfl⟩)
                        | (go_at_call 30; refine (HRR _).mono ?_; rintro e w' ⟨rfl, rfl⟩))
                      go_roundw
                      case rel => exact ⟨k + 1, by omega, by go_num, below_then hBk hBk.size hb4⟩
                      case measure => simp [intOf]; omega
                    · by_cases h71 : m = 70
                      · subst h71
                        replace hy' : _ = some (Value.int IntKind.i64 70) := hy'
                        replace HL : MovesL w 70 (leftV w 70) 0 := HL
                        replace HT : MovesT w 70 0 2 := HT
                        replace HR : MovesR w 70 (w / 2 ^ 70) := HR
                        replace HRR : MovesRR w 70 (w / 2 ^ 70) := HRR
                        have HRL : MovesRL w 70 (leftV w 70) true := fun W => by have h := rleft_c w 70 hw (by omega) W; rw [hbb] at h; exact h
                        clear hbb
                        go_wp2_with (first
                          | (go_at_call 25; refine (HL _).mono ?_; rintro e w' ⟨rfl, rfl⟩)
                          | (go_at_call 26; refine (HRL _).mono ?_; rintro e w' ⟨rfl, rfl⟩)
                          | (go_at_call 27; refine (HT _).mono ?_; rintro e w4 ⟨rfl, hb4⟩)
                          | (go_at_call 29; refine (HR _).mono ?_; rintro e w' ⟨rfl, rfl⟩)
                          | (go_at_call 30; refine (HRR _).mono ?_; rintro e w' ⟨rfl, rfl⟩))
                        go_roundw
                        case rel => exact ⟨k + 1, by omega, by go_num, below_then hBk hBk.size hb4⟩
                        case measure => simp [intOf]; omega
                      · have h71' : (70 : Int) < m := by omega
                        have HRL : MovesRL w 70 (leftV w m) true := fun W => by have h := rleft_c w 70 hw (by omega) W; obtain ⟨e1, e2⟩ := left_min70 w m (by omega); rw [e1, e2, hbb] at h; exact h
                        clear hbb
                        go_wp2_with (first
                          | (go_at_call 25; refine (HL _).mono ?_; rintro e w' ⟨rfl, rfl⟩)
                          | (go_at_call 26; refine (HRL _).mono ?_; rintro e w' ⟨rfl, rfl⟩)
                          | (go_at_call 27; refine (HT _).mono ?_; rintro e w4 ⟨rfl, hb4⟩)
                          | (go_at_call 29; refine (HR _).mono ?_; rintro e w' ⟨rfl, rfl⟩)
                          | (go_at_call 30; refine (HRR _).mono ?_; rintro e w' ⟨rfl, rfl⟩))
                        go_roundw
                        case rel => exact ⟨k + 1, by omega, by go_num, below_then hBk hBk.size hb4⟩
                        case measure => simp [intOf]; omega
          · go_wp2
            go_roundw
            case rel => exact ⟨i + 1, by omega, by go_num, hBk⟩
            case measure => simp [intOf]; omega
    · go_wp2
      go_ret
      exact ⟨rfl, hB⟩

end Go.Proofs.Ytldghcihijegaaa
