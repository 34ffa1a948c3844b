/-
  Fair, Least, Rounds and Places of the reference of layer 4.
  Conditions: the row of picks reads as a list of at most 2 to the power 40; there are from 1 to 8 CPUs.
-/
import Derived.Test.YtmmeiclclapmfaaDRef
namespace Go.Proofs.Ytmmeiclclapmfaa
open Go.RowKit Go.Shelf

theorem fairL_no {c : Nat} (hc : 0 < c) {l : List Int} {k i x : Nat} (hi : i + k ≤ l.length) (hx : x < c) (hn : ((x : Nat) : Int) ∉ (l.drop i).take k) : decide ((leastL c l : Int) ≤ (k : Int)) = false := by
  have : ¬ FairL c l k := fun h => hn (h.2 i hi x hx)
  rw [fair_least hc] at this
  simp; omega
theorem fairL_yes {c : Nat} (hc : 0 < c) {l : List Int} {k : Nat} (hk : 1 ≤ k) (h : ∀ i, i + k ≤ l.length → ∀ x, x < c → ((x : Nat) : Int) ∈ (l.drop i).take k) : decide ((leastL c l : Int) ≤ (k : Int)) = true := by
  have : FairL c l k := ⟨hk, h⟩
  rw [fair_least hc] at this
  simp; omega

set_option maxRecDepth 100000 in
set_option maxHeartbeats 4000000 in
theorem fairR_c (c : Nat) (hc : 1 ≤ c ∧ c ≤ 8) (k : Int) (hk2 : k ≤ 9223372036854775807) (p : Option Addr) (n d : Nat) (l : List Int) (W : World) (h : RI W p n d l) (hl : n ≤ 1099511627776) :
    Calls Try.prog 20 #[.int .i64 (c : Int), .slice p n d, .int .i64 k] W fun e w' => e = .returned (.bool (decide ((leastL c l : Int) ≤ k))) ∧ Below W.heap.size W w' := by
  have HN := Lib.hid h.len
  have hroom := h.room
  obtain ⟨hc1, hc8⟩ := hc
  obtain ⟨bb, hbb⟩ : ∃ b, b = decide ((leastL c l : Int) ≤ k) := ⟨_, rfl⟩
  rw [← hbb]
  have HBB := Lib.hid hbb
  clear hbb
  by_cases hk0 : k < 1
  · have HR := Lib.hid (show bb = false by rw [HBB.out]; have := least_pos c l; simp; omega)
    clear h
    go_enter Try.func20, Try.ntmps20
    go_wp2
    go_ret
    exact ⟨ret_bool HR.out.symm, Below.refl _ _⟩
  · obtain ⟨K, rfl⟩ := Int.eq_ofNat_of_zero_le (show 0 ≤ k by omega)
    have hK1 : 1 ≤ K := by omega
    clear hk0
    go_enter Try.func20, Try.ntmps20
    go_wp2
    go_loop [7] (fun iv => ∃ i : Nat, i ≤ n + 1 ∧ iv = .int .i64 i ∧ Hid (∀ j, j < i → j + K ≤ n → ∀ x, x < c → ((x : Nat) : Int) ∈ (l.drop j).take K)) (fun iv => n + 1 - (intOf iv).toNat)
    case atStart => exact ⟨0, Nat.zero_le _, rfl, Lib.hid (fun j hj => absurd hj (Nat.not_lt_zero _))⟩
    case round =>
      obtain ⟨i, hi, rfl, HA⟩ := hrel
      by_cases hlt : i + K ≤ n
      · have htest : ((K : Nat) : Int) ≤ (n : Int) - (i : Int) := by omega
        have hsumi : (i : Int) + (K : Int) = ((i + K : Nat) : Int) := by omega
        have hcut := run_part p n d i (i + K) (by omega) (by omega)
        rw [← hsumi] at hcut
        have RP := h.part i K (by omega)
        rw [Nat.add_sub_cancel_left] at hcut RP
        obtain ⟨pp, hpp⟩ : ∃ pp, pp = (if d = i then p else p.map (·.add i)) := ⟨_, rfl⟩
        obtain ⟨dp, hdp⟩ : ∃ dp, dp = d - i := ⟨_, rfl⟩
        rw [← hpp, ← hdp] at hcut RP
        have hKs : K ≤ 1099511627776 := by omega
        clear hpp hdp hsumi
        go_wp2
        go_loop [20] (fun jv => ∃ j : Nat, j ≤ c ∧ jv = .int .i64 j ∧ Hid (∀ x, x < j → ((x : Nat) : Int) ∈ (l.drop i).take K)) (fun jv => c - (intOf jv).toNat)
        case atStart => exact ⟨0, Nat.zero_le _, rfl, Lib.hid (fun x hx => absurd hx (Nat.not_lt_zero _))⟩
        case round =>
          obtain ⟨j, hj, rfl, HJ⟩ := hrel
          by_cases hjc : j < c
          · have HC := has_c (j : Int) pp K dp ((l.drop i).take K) W RP hKs
            by_cases hin : ((j : Nat) : Int) ∈ (l.drop i).take K
            · rw [show decide (((j : Nat) : Int) ∈ (l.drop i).take K) = true by simpa using hin] at HC
              have HIN := Lib.hid hin
              clear hin
              go_wp2_with fail
              refine HC.mono ?_
              rintro e w1 ⟨rfl, rfl⟩
              clear HC
              go_wp2
              go_round
              case rel => exact ⟨j + 1, by omega, by go_num, Lib.hid (fun x hx => by
                by_cases e : x = j
                · rw [e]; exact HIN.out
                · exact HJ.out x (by omega))⟩
              case measure => simp [intOf]; omega
            · rw [show decide (((j : Nat) : Int) ∈ (l.drop i).take K) = false by simpa using hin] at HC
              have HR := Lib.hid (HBB.out.trans <| fairL_no (c := c) (by omega) (by have := HN.out; omega) hjc hin)
              clear hin
              go_wp2_with fail
              refine HC.mono ?_
              rintro e w1 ⟨rfl, rfl⟩
              clear HC
              go_wp2
              go_ret
              exact ⟨ret_bool HR.out.symm, Below.refl _ _⟩
          · obtain rfl : c = j := by omega
            clear hjc
            go_wp2
            go_round
            case rel => exact ⟨i + 1, by omega, by go_num, Lib.hid (fun j hj hjn => by
              by_cases e : j = i
              · rw [e]; exact HJ.out
              · exact HA.out j (by omega) hjn)⟩
            case measure => simp [intOf]; omega
      · have htest : (n : Int) - (i : Int) < ((K : Nat) : Int) := by omega
        have HR := Lib.hid (HBB.out.trans <| fairL_yes (c := c) (l := l) (by omega) hK1 (fun j hj => HA.out j (by have := HN.out; omega) (by have := HN.out; omega)))
        go_wp2
        go_ret
        exact ⟨ret_bool HR.out.symm, Below.refl _ _⟩

set_option maxHeartbeats 4000000 in
theorem leastR_c (c : Nat) (hc : 1 ≤ c ∧ c ≤ 8) (p : Option Addr) (n d : Nat) (l : List Int) (W : World) (h : RI W p n d l) (hl : n ≤ 1099511627776) :
    Calls Try.prog 21 #[.int .i64 (c : Int), .slice p n d] W fun e w' => e = .returned (.int .i64 (leastL c l : Int)) ∧ Below W.heap.size W w' := by
  have hle := least_le c (by omega) l
  have hp := least_pos c l
  have HLE := Lib.hid h.len
  have HF : ∀ (K : Nat) (w : World), Below W.heap.size W w → K ≤ 9223372036854775807 → Calls Try.prog 20 #[.int .i64 (c : Int), .slice p n d, .int .i64 (K : Int)] w fun e w' => e = .returned (.bool (decide ((leastL c l : Int) ≤ (K : Int)))) ∧ Below w.heap.size w w' := fun K w hb hK => fairR_c c hc (K : Int) (by omega) p n d l w (h.below hb) hl
  obtain ⟨m, hm⟩ : ∃ m, m = leastL c l := ⟨_, rfl⟩
  rw [← hm] at hle hp ⊢
  have HFH := Lib.hid HF
  have HM := Lib.hid hm
  have hm41 : m ≤ 1099511627777 := by have := HLE.out; omega
  clear HF hm h hle
  go_enter Try.func21, Try.ntmps21
  go_wp2
  go_loopw [5] (fun kv wr => ∃ K : Nat, 1 ≤ K ∧ K ≤ m ∧ kv = .int .i64 K ∧ Below W.heap.size W wr) (fun kv _ => m - (intOf kv).toNat)
  case atStart => exact ⟨1, Nat.le_refl _, hp, rfl, Below.refl _ _⟩
  case round =>
    obtain ⟨K, hK1, hKm, rfl, hB⟩ := hrel
    have HC := HFH.out K wr hB (by omega)
    rw [← HM.out] at HC
    by_cases hlt : K < m
    · rw [show decide ((m : Int) ≤ (K : Int)) = false by simp; omega] at HC
      go_wp2_with fail
      refine HC.mono ?_
      rintro e w1 ⟨rfl, hb⟩
      have hB1 := below_then hB hB.size hb
      clear HC hb hB
      go_wp2
      go_roundw
      case rel => exact ⟨K + 1, by omega, by omega, by go_num, hB1⟩
      case measure => simp [intOf]; omega
    · obtain rfl : m = K := by omega
      rw [show decide ((m : Int) ≤ (m : Int)) = true by simp] at HC
      go_wp2_with fail
      refine HC.mono ?_
      rintro e w1 ⟨rfl, hb⟩
      have hB1 := below_then hB hB.size hb
      clear HC hb hB
      go_wp2
      go_ret
      exact ⟨rfl, hB1⟩

end Go.Proofs.Ytmmeiclclapmfaa
