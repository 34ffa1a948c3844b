/-
  The walk of BitsSigns: it returns true, for every row of words, of numbers, and of how many bits, and leaves memory as it was.
  Conditions: the slices read as lists of words, and of numbers in the range of int64 and int.
-/
import Derived.Test.YtldghcihijegaaaRefSigns
import Derived.Test.YtldghcihijegaaaNums
import Derived.Deep.CutBlock
import Derived.Deep.DeepCutAuto
namespace Go.Proofs.Ytldghcihijegaaa
open Go.RowKit Go.Shelf

set_option maxRecDepth 100000 in
set_option maxHeartbeats 8000000 in
theorem bitsSigns_walk (v0 v1 v2 : Value) (ws xs ns : List Int) (W : World) (hv0 : NumsAt W .u64 v0 ws) (hv1 : NumsAt W .i64 v1 xs) (hv2 : NumsAt W .i64 v2 ns)
    (hws : ∀ x ∈ ws, 0 ≤ x ∧ x ≤ 18446744073709551615) (hxs : ∀ x ∈ xs, I64 x) (hns : ∀ x ∈ ns, I64 x)
    (hl0 : ws.length ≤ 9223372036854775807) (hl1 : xs.length ≤ 9223372036854775807) (hl2 : ns.length ≤ 9223372036854775807) :
    Calls Try.prog 5 #[v0, v1, v2] W fun e w' => e = .returned (.bool true) ∧ Below W.heap.size W w' := by
  obtain ⟨p0, cap0, rfl, hc0⟩ := hv0
  obtain ⟨p1, cap1, rfl, hc1⟩ := hv1
  obtain ⟨p2, cap2, rfl, hc2⟩ := hv2
  go_enter Try.func5, Try.ntmps5
  go_wp2_with fail
  refine (wakes_c _).mono ?_
  rintro e w1 ⟨rfl, hB1⟩
  go_wp2_with fail
  go_loopw [25] (fun iv wr => ∃ i : Nat, i ≤ ns.length ∧ iv = .int .i64 i ∧ Below W.heap.size W wr) (fun iv _ => ns.length - (intOf iv).toNat)
  case atStart => exact ⟨0, Nat.zero_le _, rfl, hB1⟩
  case round =>
    obtain ⟨i, hi, rfl, hB⟩ := hrel
    by_cases hlt : i < ns.length
    · obtain ⟨b2, off2, rfl, hcs2⟩ := hc2 (by intro e; rw [e] at hlt; cases hlt)
      have hx := hcs2 i hlt
      have hnr := hns _ (List.getElem_mem hlt)
      obtain ⟨n, hne⟩ : ∃ n, n = ns[i] := ⟨_, rfl⟩
      rw [← hne] at hx hnr
      unfold I64 at hnr
      have hx' := (hB.cell (World.block_lt_of_cell? W _ hx)).trans hx
      clear hx hcs2 hne
      by_cases h8 : i = 8
      · subst h8
        go_wp2
        go_ret
        exact ⟨rfl, hB⟩
      · have h8' : ((i : Int) == 8) = false := by rw [beq_eq_false_iff_ne]; omega
        by_cases hmay : 1 ≤ n ∧ n ≤ 64
        · obtain ⟨m, rfl⟩ := Int.eq_ofNat_of_zero_le (show 0 ≤ n by omega)
          have h1 : 1 ≤ m := by omega
          have h64 : m ≤ 64 := by omega
          have hd1 : decide ((1 : Int) ≤ m) = true := by simp; omega
          have hd2 : decide ((m : Int) ≤ 64) = true := by simp; omega
          clear hmay hnr
          go_upto_block 2 with fail
          go_cut [] (fun wc => Below W.heap.size W wc)
          case first =>
            go_wp2_with fail
            obtain ⟨wo, rfl⟩ : ∃ wo : World, wo = wr := ⟨_, rfl⟩
            go_loopw [40] (fun kv wr2 => ∃ k : Nat, k ≤ ws.length ∧ kv = .int .i64 k ∧ Below W.heap.size W wr2) (fun kv _ => ws.length - (intOf kv).toNat)
            case atStart => exact ⟨0, Nat.zero_le _, rfl, hB⟩
            case round =>
              obtain ⟨k, hk, rfl, hBk⟩ := hrel
              by_cases hltk : k < ws.length
              · obtain ⟨b0, off0, rfl, hcs0⟩ := hc0 (by intro e; rw [e] at hltk; cases hltk)
                have hy := hcs0 k hltk
                have hyr := hws _ (List.getElem_mem hltk)
                obtain ⟨y, hye⟩ : ∃ y, y = ws[k] := ⟨_, rfl⟩
                rw [← hye] at hy hyr
                obtain ⟨w, rfl⟩ := Int.eq_ofNat_of_zero_le hyr.1
                have hw : w < 18446744073709551616 := by omega
                have hy' := (hBk.cell (World.block_lt_of_cell? W _ hy)).trans hy
                clear hy hcs0 hye hyr
                by_cases hk8 : k = 8
                · subst hk8
                  go_wp2
                  go_meet
                  exact hBk
                · have hk8' : ((k : Int) == 8) = false := by rw [beq_eq_false_iff_ne]; omega
                  go_wp2_with (first
                    | (go_at_call 31; refine (signed_yes w m h1 h64 _).mono ?_; rintro e w' ⟨rfl, rfl⟩)
                    | (go_at_call 32; refine (rsigned_c w m hw h1 h64 _).mono ?_; rintro e w' ⟨rfl, rfl⟩))
                  go_roundw
                  case rel => exact ⟨k + 1, by omega, by go_num, hBk⟩
                  case measure => simp [intOf]; omega
              · go_wp2
                go_meet
                exact hBk
          case rest =>
          have hBc := hcut
          go_wp2_with fail
          obtain ⟨wo2, rfl⟩ : ∃ wo2 : World, wo2 = wc := ⟨_, rfl⟩
          go_loopw [80] (fun kv wr2 => ∃ k : Nat, k ≤ xs.length ∧ kv = .int .i64 k ∧ Below W.heap.size W wr2) (fun kv _ => xs.length - (intOf kv).toNat)
          case atStart => exact ⟨0, Nat.zero_le _, rfl, hBc⟩
          case round =>
            obtain ⟨k, hk, rfl, hBk⟩ := hrel
            by_cases hltk : k < xs.length
            · obtain ⟨b1, off1, rfl, hcs1⟩ := hc1 (by intro e; rw [e] at hltk; cases hltk)
              have hy := hcs1 k hltk
              have hyr := hxs _ (List.getElem_mem hltk)
              obtain ⟨x, hye⟩ : ∃ x, x = xs[k] := ⟨_, rfl⟩
              rw [← hye] at hy hyr
              have hy' := (hBk.cell (World.block_lt_of_cell? W _ hy)).trans hy
              clear hy hcs1 hye
              by_cases hk8 : k = 8
              · subst hk8
                go_wp2
                go_roundw
                case rel => exact ⟨i + 1, by omega, by go_num, hBk⟩
                case measure => simp [intOf]; omega
              · have hk8' : ((k : Int) == 8) = false := by rw [beq_eq_false_iff_ne]; omega
                by_cases hin : inN x m
                · go_wp2_with (first
                    | (go_at_call 33; refine (unsigned_yes x m h1 h64 hin _).mono ?_; rintro e w4 ⟨rfl, hb4⟩)
                    | (go_at_call 34; refine (runsigned_yes x hyr m h1 h64 hin _).mono ?_; rintro e w' ⟨rfl, rfl⟩))
                  go_roundw
                  case rel => exact ⟨k + 1, by omega, by go_num, below_then hBk hBk.size hb4⟩
                  case measure => simp [intOf]; omega
                · go_wp2_with (first
                    | (go_at_call 33; refine (unsigned_over x m h1 h64 hin _).mono ?_; rintro e w4 ⟨rfl, hb4⟩)
                    | (go_at_call 34; refine (runsigned_no x hyr m h1 h64 hin _).mono ?_; rintro e w' ⟨rfl, rfl⟩))
                  go_roundw
                  case rel => exact ⟨k + 1, by omega, by go_num, below_then hBk hBk.size hb4⟩
                  case measure => simp [intOf]; omega
            · go_wp2
              go_roundw
              case rel => exact ⟨i + 1, by omega, by go_num, hBk⟩
              case measure => simp [intOf]; omega
        · by_cases hn1 : 1 ≤ n
          · have hn64 : ¬ n ≤ 64 := fun h => hmay ⟨hn1, h⟩
            have hd1 : decide ((1 : Int) ≤ n) = true := by simpa using hn1
            have hd2 : decide (n ≤ (64 : Int)) = false := by simpa using hn64
            have HM := Lib.hid hmay
            clear hmay
            go_upto_block 2 with fail
            go_cut [] (fun wc => Below W.heap.size W wc)
            case first =>
              go_wp2_with fail
              obtain ⟨wo, rfl⟩ : ∃ wo : World, wo = wr := ⟨_, rfl⟩
              go_loopw [40] (fun kv wr2 => ∃ k : Nat, k ≤ ws.length ∧ kv = .int .i64 k ∧ Below W.heap.size W wr2) (fun kv _ => ws.length - (intOf kv).toNat)
              case atStart => exact ⟨0, Nat.zero_le _, rfl, hB⟩
              case round =>
                obtain ⟨k, hk, rfl, hBk⟩ := hrel
                by_cases hltk : k < ws.length
                · obtain ⟨b0, off0, rfl, hcs0⟩ := hc0 (by intro e; rw [e] at hltk; cases hltk)
                  have hy := hcs0 k hltk
                  have hyr := hws _ (List.getElem_mem hltk)
                  obtain ⟨y, hye⟩ : ∃ y, y = ws[k] := ⟨_, rfl⟩
                  rw [← hye] at hy hyr
                  obtain ⟨w, rfl⟩ := Int.eq_ofNat_of_zero_le hyr.1
                  have hw : w < 18446744073709551616 := by omega
                  have hy' := (hBk.cell (World.block_lt_of_cell? W _ hy)).trans hy
                  clear hy hcs0 hye hyr
                  by_cases hk8 : k = 8
                  · subst hk8
                    go_wp2
                    go_meet
                    exact hBk
                  · have hk8' : ((k : Int) == 8) = false := by rw [beq_eq_false_iff_ne]; omega
                    go_wp2_with (go_at_call 31; refine (signed_no w n HM.out _).mono ?_; rintro e w' ⟨rfl, rfl⟩)
                    go_roundw
                    case rel => exact ⟨k + 1, by omega, by go_num, hBk⟩
                    case measure => simp [intOf]; omega
                · go_wp2
                  go_meet
                  exact hBk
            case rest =>
            have hBc := hcut
            go_wp2_with fail
            obtain ⟨wo2, rfl⟩ : ∃ wo2 : World, wo2 = wc := ⟨_, rfl⟩
            go_loopw [80] (fun kv wr2 => ∃ k : Nat, k ≤ xs.length ∧ kv = .int .i64 k ∧ Below W.heap.size W wr2) (fun kv _ => xs.length - (intOf kv).toNat)
            case atStart => exact ⟨0, Nat.zero_le _, rfl, hBc⟩
            case round =>
              obtain ⟨k, hk, rfl, hBk⟩ := hrel
              by_cases hltk : k < xs.length
              · obtain ⟨b1, off1, rfl, hcs1⟩ := hc1 (by intro e; rw [e] at hltk; cases hltk)
                have hy := hcs1 k hltk
                have hyr := hxs _ (List.getElem_mem hltk)
                obtain ⟨x, hye⟩ : ∃ x, x = xs[k] := ⟨_, rfl⟩
                rw [← hye] at hy hyr
                have hy' := (hBk.cell (World.block_lt_of_cell? W _ hy)).trans hy
                clear hy hcs1 hye
                by_cases hk8 : k = 8
                · subst hk8
                  go_wp2
                  go_roundw
                  case rel => exact ⟨i + 1, by omega, by go_num, hBk⟩
                  case measure => simp [intOf]; omega
                · have hk8' : ((k : Int) == 8) = false := by rw [beq_eq_false_iff_ne]; omega
                  go_wp2_with (go_at_call 33; refine (unsigned_no x n HM.out _).mono ?_; rintro e w4 ⟨rfl, rfl⟩)
                  go_roundw
                  case rel => exact ⟨k + 1, by omega, by go_num, hBk⟩
                  case measure => simp [intOf]; omega
              · go_wp2
                go_roundw
                case rel => exact ⟨i + 1, by omega, by go_num, hBk⟩
                case measure => simp [intOf]; omega
          · have hd1 : decide ((1 : Int) ≤ n) = false := by simpa using hn1
            have HM := Lib.hid hmay
            clear hmay
            go_upto_block 2 with fail
            go_cut [] (fun wc => Below W.heap.size W wc)
            case first =>
              go_wp2_with fail
              obtain ⟨wo, rfl⟩ : ∃ wo : World, wo = wr := ⟨_, rfl⟩
              go_loopw [40] (fun kv wr2 => ∃ k : Nat, k ≤ ws.length ∧ kv = .int .i64 k ∧ Below W.heap.size W wr2) (fun kv _ => ws.length - (intOf kv).toNat)
              case atStart => exact ⟨0, Nat.zero_le _, rfl, hB⟩
              case round =>
                obtain ⟨k, hk, rfl, hBk⟩ := hrel
                by_cases hltk : k < ws.length
                · obtain ⟨b0, off0, rfl, hcs0⟩ := hc0 (by intro e; rw [e] at hltk; cases hltk)
                  have hy := hcs0 k hltk
                  have hyr := hws _ (List.getElem_mem hltk)
                  obtain ⟨y, hye⟩ : ∃ y, y = ws[k] := ⟨_, rfl⟩
                  rw [← hye] at hy hyr
                  obtain ⟨w, rfl⟩ := Int.eq_ofNat_of_zero_le hyr.1
                  have hw : w < 18446744073709551616 := by omega
                  have hy' := (hBk.cell (World.block_lt_of_cell? W _ hy)).trans hy
                  clear hy hcs0 hye hyr
                  by_cases hk8 : k = 8
                  · subst hk8
                    go_wp2
                    go_meet
                    exact hBk
                  · have hk8' : ((k : Int) == 8) = false := by rw [beq_eq_false_iff_ne]; omega
                    go_wp2_with (go_at_call 31; refine (signed_no w n HM.out _).mono ?_; rintro e w' ⟨rfl, rfl⟩)
                    go_roundw
                    case rel => exact ⟨k + 1, by omega, by go_num, hBk⟩
                    case measure => simp [intOf]; omega
                · go_wp2
                  go_meet
                  exact hBk
            case rest =>
            have hBc := hcut
            go_wp2_with fail
            obtain ⟨wo2, rfl⟩ : ∃ wo2 : World, wo2 = wc := ⟨_, rfl⟩
            go_loopw [80] (fun kv wr2 => ∃ k : Nat, k ≤ xs.length ∧ kv = .int .i64 k ∧ Below W.heap.size W wr2) (fun kv _ => xs.length - (intOf kv).toNat)
            case atStart => exact ⟨0, Nat.zero_le _, rfl, hBc⟩
            case round =>
              obtain ⟨k, hk, rfl, hBk⟩ := hrel
              by_cases hltk : k < xs.length
              · obtain ⟨b1, off1, rfl, hcs1⟩ := hc1 (by intro e; rw [e] at hltk; cases hltk)
                have hy := hcs1 k hltk
                have hyr := hxs _ (List.getElem_mem hltk)
                obtain ⟨x, hye⟩ : ∃ x, x = xs[k] := ⟨_, rfl⟩
                rw [← hye] at hy hyr
                have hy' := (hBk.cell (World.block_lt_of_cell? W _ hy)).trans hy
                clear hy hcs1 hye
                by_cases hk8 : k = 8
                · subst hk8
                  go_wp2
                  go_roundw
                  case rel => exact ⟨i + 1, by omega, by go_num, hBk⟩
                  case measure => simp [intOf]; omega
                · have hk8' : ((k : Int) == 8) = false := by rw [beq_eq_false_iff_ne]; omega
                  go_wp2_with (go_at_call 33; refine (unsigned_no x n HM.out _).mono ?_; rintro e w4 ⟨rfl, rfl⟩)
                  go_roundw
                  case rel => exact ⟨k + 1, by omega, by go_num, hBk⟩
                  case measure => simp [intOf]; omega
              · go_wp2
                go_roundw
                case rel => exact ⟨i + 1, by omega, by go_num, hBk⟩
                case measure => simp [intOf]; omega
    · go_wp2
      go_ret
      exact ⟨rfl, hB⟩

end Go.Proofs.Ytldghcihijegaaa
