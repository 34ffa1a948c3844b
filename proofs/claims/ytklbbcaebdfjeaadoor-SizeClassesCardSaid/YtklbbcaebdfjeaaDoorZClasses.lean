/-
  SizeClasses returns true for every row of numbers; what was in memory stays.
  Conditions: the package's table of sizes is as it was laid; the ranges of Go's types.
-/
import Derived.Test.YtklbbcaebdfjeaaDoorZWakes
import Derived.Test.YtklbbcaebdfjeaaDoorZRef
namespace Go.Proofs.YtklbbcaebdfjeaaDoor
open Go.RowKit Go.Shelf
attribute [local go_sem] Oper.semAt_some

set_option maxRecDepth 100000 in
set_option maxHeartbeats 16000000 in
theorem classes_walk (v : Value) (ns : List Int) (W : World) (hv : NumsAt W .i64 v ns) (hr : ∀ x ∈ ns, I64 x) (hl : ns.length ≤ 9223372036854775807) (hT : Tab W) : Calls Tryd.prog 3 #[v] W fun e w' => e = .returned (.bool true) ∧ Below W.heap.size W w' := by
  have HW := Lib.hid (wakes_c W hT)
  obtain ⟨p, cap, rfl, hcs⟩ := hv
  have HR := Lib.hid hr
  have HCS := Lib.hid hcs
  have HT := Lib.hid hT
  clear hr hcs hT
  go_enter Tryd.func3, Tryd.ntmps3
  go_wp2_with fail
  refine HW.out.mono ?_
  rintro e w1 ⟨rfl, hb⟩
  have HB := Lib.hid hb
  clear HW hb
  go_wp2
  go_loopw [20] (fun iv wr => ∃ i : Nat, i ≤ ns.length ∧ i ≤ 20 ∧ iv = .int .i64 (i : Int) ∧ Hid (Below W.heap.size W wr)) (fun iv _ => ns.length - (intOf iv).toNat)
  case atStart => exact ⟨0, Nat.zero_le _, Nat.zero_le _, rfl, HB⟩
  case round =>
    obtain ⟨i, hi, hi20, rfl, HBR⟩ := hrel
    by_cases hlt : i < ns.length
    · by_cases h20 : i = 20
      · subst h20
        obtain ⟨b, off, rfl, hcs⟩ := HCS.out (by intro e; rw [e] at hlt; cases hlt)
        have hx := below_cell HBR.out (hcs 20 hlt)
        generalize ns[20] = n at *
        clear hcs
        go_wp2
        go_ret
        exact ⟨rfl, HBR.out⟩
      · obtain ⟨b, off, rfl, hcs⟩ := HCS.out (by intro e; rw [e] at hlt; cases hlt)
        have hx := below_cell HBR.out (hcs i hlt)
        have HI := Lib.hid (HR.out ns[i] (List.getElem_mem hlt))
        generalize ns[i] = n at *
        have hI2 := HI.out
        obtain ⟨hn1, hn2⟩ := hI2
        have h20b : ((i : Int) == 20) = false := by simp; omega
        have HC := Lib.hid (class_c n HI.out wr (HT.out.below HBR.out))
        have HWD := Lib.hid (fun (X : World) (hX : Tab X) => words_c n X hX)
        have HMN := Lib.hid (fun (X : World) (hX : Tab X) => manyF_c n X hX)
        clear hcs
        have hcase : n < 1 ∨ 16 < n ∨ (1 ≤ n ∧ n ≤ 16) := by omega
        rcases hcase with hc | hc | ⟨hc, hc'⟩
        · cases hIB : isB n with
          | false =>
            rw [hIB, if_neg (by decide), if_neg (by decide)] at HWD HMN
            rw [show classA n = (0, 2) by unfold classA; rw [if_pos (by omega)]] at HC
            go_wp2_with fail
            refine HC.out.mono ?_
            rintro e w2 ⟨rfl, hb⟩
            have HB2 := Lib.hid (below_then HBR.out HBR.out.size hb)
            have HT2 := Lib.hid (HT.out.below HB2.out)
            clear hb HC HBR
            dsimp only
            go_wp2_with fail
            refine (HWD.out _ HT2.out).mono ?_
            rintro e w3 ⟨rfl, rfl⟩
            clear HWD
            dsimp only
            go_wp2_with fail
            refine (HMN.out _ HT2.out).mono ?_
            rintro e w4 ⟨rfl, rfl⟩
            clear HMN
            dsimp only
            go_wp2_with fail
            refine (rIs_c n _).mono ?_
            rintro e w5 ⟨rfl, rfl⟩
            rw [hIB]
            go_wp2
            go_roundw
            case rel => exact ⟨i + 1, by omega, by omega, by go_num, HB2⟩
            case measure => simp [intOf]; omega
          | true =>
            obtain ⟨k, rfl, hk⟩ := isB_yes hIB
            rw [hIB, if_pos rfl, if_pos rfl, Int.toNat_natCast] at HWD HMN
            obtain ⟨hs1, hs2⟩ := sz_ok hk
            obtain ⟨s, hs⟩ : ∃ s, s = szN k := ⟨_, rfl⟩
            have HS := Lib.hid hs
            rw [← hs] at HWD HMN hs1 hs2
            have HQ := Lib.hid (show (16 : Int).tdiv (s : Int) = ((16 / s : Nat) : Int) by rfl)
            obtain ⟨q, hq⟩ : ∃ q, q = 16 / s := ⟨_, rfl⟩
            have hq16 : q ≤ 16 := by rw [hq]; exact Nat.div_le_self _ _
            rw [← hq] at HMN HQ
            have hne1 : ((s : Int) != (s : Int)) = false := by rw [bne_eq_false_iff_eq]
            have hne2 : ((q : Int) != (16 : Int).tdiv (s : Int)) = false := by rw [HQ.out, bne_eq_false_iff_eq]
            have hne3 : ((q : Int) != (16 : Int) / (s : Int)) = false := by rw [bne_eq_false_iff_eq, ← HQ.out]; rfl
            clear hs hq
            rw [show classA (k : Int) = (0, 2) by unfold classA; rw [if_pos (by omega)]] at HC
            go_wp2_with fail
            refine HC.out.mono ?_
            rintro e w2 ⟨rfl, hb⟩
            have HB2 := Lib.hid (below_then HBR.out HBR.out.size hb)
            have HT2 := Lib.hid (HT.out.below HB2.out)
            clear hb HC HBR
            dsimp only
            go_wp2_with fail
            refine (HWD.out _ HT2.out).mono ?_
            rintro e w3 ⟨rfl, rfl⟩
            clear HWD
            dsimp only
            go_wp2_with fail
            refine (HMN.out _ HT2.out).mono ?_
            rintro e w4 ⟨rfl, rfl⟩
            clear HMN
            dsimp only
            go_wp2_with fail
            refine (rIs_c (k : Int) _).mono ?_
            rintro e w5 ⟨rfl, rfl⟩
            rw [hIB]
            go_wp2_with fail
            refine (rWords_c k hk _).mono ?_
            rintro e w6 ⟨rfl, rfl⟩
            rw [← HS.out]
            go_wp2
            go_roundw
            case rel => exact ⟨i + 1, by omega, by omega, by go_num, HB2⟩
            case measure => simp [intOf]; omega
        · cases hIB : isB n with
          | false =>
            rw [hIB, if_neg (by decide), if_neg (by decide)] at HWD HMN
            rw [show classA n = (0, 3) by unfold classA; rw [if_neg (by omega), if_pos (by omega)]] at HC
            go_wp2_with fail
            refine HC.out.mono ?_
            rintro e w2 ⟨rfl, hb⟩
            have HB2 := Lib.hid (below_then HBR.out HBR.out.size hb)
            have HT2 := Lib.hid (HT.out.below HB2.out)
            clear hb HC HBR
            dsimp only
            go_wp2_with fail
            refine (HWD.out _ HT2.out).mono ?_
            rintro e w3 ⟨rfl, rfl⟩
            clear HWD
            dsimp only
            go_wp2_with fail
            refine (HMN.out _ HT2.out).mono ?_
            rintro e w4 ⟨rfl, rfl⟩
            clear HMN
            dsimp only
            go_wp2_with fail
            refine (rIs_c n _).mono ?_
            rintro e w5 ⟨rfl, rfl⟩
            rw [hIB]
            go_wp2
            go_roundw
            case rel => exact ⟨i + 1, by omega, by omega, by go_num, HB2⟩
            case measure => simp [intOf]; omega
          | true =>
            exfalso
            obtain ⟨k, rfl, hk⟩ := isB_yes hIB
            omega
        · cases hIB : isB n with
          | false =>
            rw [hIB, if_neg (by decide), if_neg (by decide)] at HWD HMN
            rw [show classA n = ((clsN n : Int), 0) by unfold classA; rw [if_neg (by omega), if_neg (by omega)]] at HC
            have hcl4 : clsN n < 4 := (clsN_steps (by omega)).1
            have hnec : ((clsN n : Int) != (clsN n : Int)) = false := by rw [bne_eq_false_iff_eq]
            go_wp2_with fail
            refine HC.out.mono ?_
            rintro e w2 ⟨rfl, hb⟩
            have HB2 := Lib.hid (below_then HBR.out HBR.out.size hb)
            have HT2 := Lib.hid (HT.out.below HB2.out)
            clear hb HC HBR
            dsimp only
            go_wp2_with fail
            refine (rClass_c n (by omega) _).mono ?_
            rintro e w3 ⟨rfl, rfl⟩
            go_wp2_with fail
            refine (HWD.out _ HT2.out).mono ?_
            rintro e w3 ⟨rfl, rfl⟩
            clear HWD
            dsimp only
            go_wp2_with fail
            refine (HMN.out _ HT2.out).mono ?_
            rintro e w4 ⟨rfl, rfl⟩
            clear HMN
            dsimp only
            go_wp2_with fail
            refine (rIs_c n _).mono ?_
            rintro e w5 ⟨rfl, rfl⟩
            rw [hIB]
            go_wp2
            go_roundw
            case rel => exact ⟨i + 1, by omega, by omega, by go_num, HB2⟩
            case measure => simp [intOf]; omega
          | true =>
            obtain ⟨k, rfl, hk⟩ := isB_yes hIB
            rw [hIB, if_pos rfl, if_pos rfl, Int.toNat_natCast] at HWD HMN
            obtain ⟨hs1, hs2⟩ := sz_ok hk
            obtain ⟨s, hs⟩ : ∃ s, s = szN k := ⟨_, rfl⟩
            have HS := Lib.hid hs
            rw [← hs] at HWD HMN hs1 hs2
            have HQ := Lib.hid (show (16 : Int).tdiv (s : Int) = ((16 / s : Nat) : Int) by rfl)
            obtain ⟨q, hq⟩ : ∃ q, q = 16 / s := ⟨_, rfl⟩
            have hq16 : q ≤ 16 := by rw [hq]; exact Nat.div_le_self _ _
            rw [← hq] at HMN HQ
            have hne1 : ((s : Int) != (s : Int)) = false := by rw [bne_eq_false_iff_eq]
            have hne2 : ((q : Int) != (16 : Int).tdiv (s : Int)) = false := by rw [HQ.out, bne_eq_false_iff_eq]
            have hne3 : ((q : Int) != (16 : Int) / (s : Int)) = false := by rw [bne_eq_false_iff_eq, ← HQ.out]; rfl
            clear hs hq
            rw [show classA (k : Int) = ((clsN (k : Int) : Int), 0) by unfold classA; rw [if_neg (by omega), if_neg (by omega)]] at HC
            have hcl4 : clsN (k : Int) < 4 := (clsN_steps (by omega)).1
            have hnec : ((clsN (k : Int) : Int) != (clsN (k : Int) : Int)) = false := by rw [bne_eq_false_iff_eq]
            go_wp2_with fail
            refine HC.out.mono ?_
            rintro e w2 ⟨rfl, hb⟩
            have HB2 := Lib.hid (below_then HBR.out HBR.out.size hb)
            have HT2 := Lib.hid (HT.out.below HB2.out)
            clear hb HC HBR
            dsimp only
            go_wp2_with fail
            refine (rClass_c (k : Int) (by omega) _).mono ?_
            rintro e w3 ⟨rfl, rfl⟩
            go_wp2_with fail
            refine (HWD.out _ HT2.out).mono ?_
            rintro e w3 ⟨rfl, rfl⟩
            clear HWD
            dsimp only
            go_wp2_with fail
            refine (HMN.out _ HT2.out).mono ?_
            rintro e w4 ⟨rfl, rfl⟩
            clear HMN
            dsimp only
            go_wp2_with fail
            refine (rIs_c (k : Int) _).mono ?_
            rintro e w5 ⟨rfl, rfl⟩
            rw [hIB]
            go_wp2_with fail
            refine (rWords_c k hk _).mono ?_
            rintro e w6 ⟨rfl, rfl⟩
            rw [← HS.out]
            go_wp2
            go_roundw
            case rel => exact ⟨i + 1, by omega, by omega, by go_num, HB2⟩
            case measure => simp [intOf]; omega
    · go_wp2
      go_ret
      exact ⟨rfl, HBR.out⟩

end Go.Proofs.YtklbbcaebdfjeaaDoor
