/-
  SchedTells returns true for every number of CPUs, row of picks, and k; what was in memory stays.
  Conditions: the row reads as ints of 64 bits.
-/
import Derived.Test.YtmmeiclclapmfaaDRef3
namespace Go.Proofs.Ytmmeiclclapmfaa
open Go.RowKit Go.Shelf

theorem waitsNo (c : Int) (p : Option Addr) (n d : Nat) (xs : List Int) (W : World) (h : RI W p n d xs) (hl : n ≤ 1099511627776) (ho : okB c xs = false) :
    Calls Try.prog 12 #[.int .i64 c, .slice p n d] W fun e w' => e = .returned (.slice none 0 0) ∧ Below W.heap.size W w' := by
  have := waits_c c _ xs W h.nums (by rw [← h.len]; exact hl)
  simpa [ho] using this
theorem splitNo (c : Int) (p : Option Addr) (n d : Nat) (xs : List Int) (W : World) (h : RI W p n d xs) (hl : n ≤ 1099511627776) (ho : okB c xs = false) :
    Calls Try.prog 13 #[.int .i64 c, .slice p n d] W fun e w' => e = .returned (.slice none 0 0) ∧ Below W.heap.size W w' := by
  have := split_c c _ xs W h.nums (by rw [← h.len]; exact hl)
  rw [ho] at this
  exact this.mono fun e w' hh => ⟨by have := hh.1; unfold SplitPost at this; simpa using this, hh.2⟩
theorem roundsNo (c : Int) (p : Option Addr) (n d : Nat) (xs : List Int) (W : World) (h : RI W p n d xs) (hl : n ≤ 1099511627776) (ho : okB c xs = false) :
    Calls Try.prog 16 #[.int .i64 c, .slice p n d] W fun e w' => e = .returned (.int .i64 0) ∧ Below W.heap.size W w' := by
  have := rounds_c c _ xs W h.nums (by rw [← h.len]; exact hl) (fun p' n' c' e => by injection e with e1 e2 e3; rw [← e2, ← e3]; exact h.room)
  simpa [ho] using this
theorem rightW (c : Int) (p : Option Addr) (n d : Nat) (xs : List Int) (W : World) (h : RI W p n d xs) (hl : n ≤ 1099511627776) (b : Bool) (hb : okB c xs = b) :
    Calls Try.prog 10 #[.int .i64 c, .slice p n d] W fun e w' => e = .returned (.bool b) ∧ Below W.heap.size W w' := by
  have := right_c c p n d xs W h hl
  rwa [hb] at this

set_option maxRecDepth 100000 in
set_option maxHeartbeats 8000000 in
theorem schedTells_walk (c : Int) (p : Option Addr) (n d : Nat) (xs : List Int) (k : Int) (W : World) (h : RI W p n d xs) (hn : n ≤ 9223372036854775807) (hk2 : k ≤ 9223372036854775807) :
    Calls Try.prog 3 #[.int .i64 c, .slice p n d, .int .i64 k] W fun e w' => e = .returned (.bool true) ∧ Below W.heap.size W w' := by
  go_enter Try.func3, Try.ntmps3
  go_wp2_with fail
  refine (wakes_c _).mono ?_
  rintro e w1 ⟨rfl, hb1⟩
  go_wp2_with fail
  refine (few_c p n d xs w1 (h.below hb1) hn).mono ?_
  rintro e w2 ⟨⟨p1, d1, rfl, ho⟩, hb2⟩
  have R := RI.of_owns ho
  have hL60 : (xs.take 60).length ≤ 60 := by rw [List.length_take]; omega
  have hB := below_then hb1 hb1.size hb2
  have HFEW := Lib.hid (show ∀ wx, Below W.heap.size W wx → Calls Try.prog 9 #[.slice p n d] wx fun e w' => GivesRow wx.heap.size (xs.take 60) e w' ∧ Below wx.heap.size wx w' from fun wx hb => few_c p n d xs wx (h.below hb) hn)
  clear hb1 hb2 ho h
  generalize xs.take 60 = L at *
  obtain ⟨m, hm⟩ : ∃ m, m = L.length := ⟨_, rfl⟩
  rw [← hm] at R hL60 ⊢
  have HM := Lib.hid hm
  clear hm
  have hm40 : m ≤ 1099511627776 := by omega
  cases hok : okB c L with
  | false =>
    have HOK := Lib.hid hok
    clear hok HFEW
    go_wp2_with fail
    refine (rightW c _ _ _ _ _ R hm40 false HOK.out).mono ?_
    rintro e w3 ⟨rfl, hb3⟩
    have R3 := R.below hb3
    have hB3 := below_then hB hB.size hb3
    clear hb3 hB R
    go_wp2_with fail
    refine (checkW c _ _ _ _ _ R3 hm40 140 (by rw [HOK.out]; rfl)).mono ?_
    rintro e w4 ⟨rfl, hb4⟩
    have R4 := R3.below hb4
    have hB4 := below_then hB3 hB3.size hb4
    clear hb4 hB3 R3
    go_wp2_with fail
    refine (waitsNo c _ _ _ _ _ R4 hm40 HOK.out).mono ?_
    rintro e w5 ⟨rfl, hb5⟩
    have R5 := R4.below hb5
    have hB5 := below_then hB4 hB4.size hb5
    clear hb5 hB4 R4
    go_wp2_with fail
    refine (splitNo c _ _ _ _ _ R5 hm40 HOK.out).mono ?_
    rintro e w6 ⟨rfl, hb6⟩
    have R6 := R5.below hb6
    have hB6 := below_then hB5 hB5.size hb6
    clear hb6 hB5 R5
    go_wp2_with fail
    refine (fairW c _ _ _ _ k _ R6 hm40 false (by rw [HOK.out]; rfl)).mono ?_
    rintro e w7 ⟨rfl, hb7⟩
    have R7 := R6.below hb7
    have hB7 := below_then hB6 hB6.size hb7
    clear hb7 hB6 R6
    go_wp2_with fail
    refine (leastNo c _ _ _ _ _ R7 hm40 HOK.out).mono ?_
    rintro e w8 ⟨rfl, hb8⟩
    have R8 := R7.below hb8
    have hB8 := below_then hB7 hB7.size hb8
    clear hb8 hB7 R7
    go_wp2_with fail
    refine (roundsNo c _ _ _ _ _ R8 hm40 HOK.out).mono ?_
    rintro e w9 ⟨rfl, hb9⟩
    have hB9 := below_then hB8 hB8.size hb9
    clear hb9 hB8 R8
    go_wp2
    go_ret
    exact ⟨rfl, hB9⟩
  | true =>
    obtain ⟨⟨hc1, hc8⟩, _⟩ := okB_iff.1 hok
    obtain ⟨j, rfl⟩ := Int.eq_ofNat_of_zero_le (show 0 ≤ c by omega)
    have hjj : (j : Int).toNat = j := by omega
    have HJJ := Lib.hid hjj
    have HOK := Lib.hid hok
    clear hok hjj
    go_wp2_with fail
    refine (rightW j _ _ _ _ _ R hm40 true HOK.out).mono ?_
    rintro e w3 ⟨rfl, hb3⟩
    have R3 := R.below hb3
    have hB3 := below_then hB hB.size hb3
    clear hb3 hB R
    go_wp2_with fail
    refine (checkW j _ _ _ _ _ R3 hm40 0 (by rw [HOK.out]; rfl)).mono ?_
    rintro e w4 ⟨rfl, hb4⟩
    have R4 := R3.below hb4
    have hB4 := below_then hB3 hB3.size hb4
    clear hb4 hB3 R3
    go_wp2_with fail
    refine (waitsW j _ _ _ _ _ R4 hm40 (wv j L) HOK.out (by rw [HJJ.out])).mono ?_
    rintro e w5 ⟨⟨q5, d5, rfl, ho⟩, hb5⟩
    have RW := RI.of_owns ho
    rw [wv_length] at RW ⊢
    have R5 := R4.below hb5
    have hB5 := below_then hB4 hB4.size hb5
    clear hb5 hB4 R4 ho
    go_wp2_with fail
    refine (splitW j _ _ _ _ _ R5 hm40 HOK.out).mono ?_
    rintro e w6 ⟨⟨zs, vs, hzs, rfl, RS⟩, hb6⟩
    rw [HJJ.out] at RS ⊢
    have R6 := R5.below hb6
    have RW6 := RW.below hb6
    have hB6 := below_then hB5 hB5.size hb6
    clear hb6 hB5 R5 RW hzs
    go_wp2
    go_loopw [77] (fun iv wr => ∃ i : Nat, i ≤ j ∧ iv = .int .i64 i ∧ Below w6.heap.size w6 wr) (fun iv _ => j - (intOf iv).toNat)
    case atStart => exact ⟨0, Nat.zero_le _, rfl, Below.refl _ _⟩
    case round =>
      obtain ⟨i, hi, rfl, hbr⟩ := hrel
      by_cases hlt : i < j
      · have hiv : i < vs.length := by rw [RS.len]; exact hlt
        have hcv := below_cell hbr (RS.box.cell i hiv)
        have hown := RS.own i hiv
        obtain ⟨v, hv⟩ : ∃ v, v = vs[i] := ⟨_, rfl⟩
        rw [← hv] at hcv hown
        clear hv hiv
        obtain ⟨nv, hnv⟩ : ∃ nv, nv = (plc L (i : Int)).length := ⟨_, rfl⟩
        rw [← hnv] at hown
        obtain ⟨pv, cv, rfl⟩ := owns_slice hown
        have RV := (RI.of_owns hown).below hbr
        have hnvl := plc_len L (i : Int)
        rw [← hnv] at hnvl
        have hnv60 : nv ≤ 60 := by have := HM.out; omega
        obtain ⟨bw, ow, rfl, hcw⟩ := RW6.cells (by omega)
        have hx := below_cell hbr (hcw i (by rw [wv_length]; exact hlt))
        rw [wv_get] at hx
        have R7 := R6.below hbr
        obtain ⟨t, ht⟩ : ∃ t, t = waitL L (i : Int) := ⟨_, rfl⟩
        rw [← ht] at hx
        have HWT := Lib.hid (show ∀ wx, Below wr.heap.size wr wx → Calls Try.prog 17 #[.slice p1 m d1, .int .i64 (i : Int)] wx fun e w' => e = .returned (.int .i64 (t : Int)) ∧ Below wx.heap.size wx w' from fun wx hb => by
          have := wait_c (i : Int) p1 m d1 L wx (R7.below hb) hm40
          rw [← ht] at this
          exact this.mono fun e w' hh => ⟨hh.1, by rw [hh.2]; exact Below.refl _ _⟩)
        have HPL := Lib.hid (show ∀ wx, Below wr.heap.size wr wx → Calls Try.prog 19 #[.slice p1 m d1, .int .i64 (i : Int)] wx fun e w' => (∃ q r, e = .returned (.slice q nv r) ∧ RI w' q nv r (plc L (i : Int))) ∧ Below wx.heap.size wx w' from fun wx hb => by
          have := places_c (i : Int) p1 m d1 L wx (R7.below hb) hm40
          exact this.mono fun e w' hh => ⟨by
            obtain ⟨q, r, he, ho⟩ := hh.1
            rw [← hnv] at he ho
            exact ⟨q, r, he, RI.of_owns ho⟩, hh.2⟩)
        have hW2 : Below wr.heap.size wr wr.drew := (Below.refl _ _).drew
        clear hown hnvl hnv hcw ht R7 RS
        go_upto_region 14 with (fail)
        go_region_held3 (fun w' => w'.cell? ⟨zs, i, none⟩ = some (.slice pv nv cv))
          (first
            | exact hcv
            | go_keep
            | (exact below_cell hb3 (by assumption)))
          (first
            | (go_at_call 17; refine (HWT.out _ hW2).mono ?_; rintro e w7 ⟨rfl, hb3⟩; replace hW2 := below_then hW2 hW2.size hb3)
            | (go_at_call 19; refine (HPL.out _ hW2).mono ?_; rintro e w8 ⟨⟨q8, r8, rfl, RP8⟩, hb3⟩; replace hW2 := below_then hW2 hW2.size hb3)
            | (go_at_call 18; refine (equalW' _ _ _ _ _ _ _ _ _ (RV.below hW2) RP8 (by omega) (by omega) true (by simp)).mono ?_; rintro e w9 ⟨rfl, hb3⟩; replace hW2 := below_then hW2 hW2.size hb3))
        all_goals
          have hbE := below_then hbr hbr.size hW2
          go_wp2
          go_roundw
          case rel => exact ⟨i + 1, by omega, by go_num, hbE⟩
          case measure => simp [intOf]; omega
      · obtain rfl : j = i := by omega
        have R7 := R6.below hbr
        have hB7 := below_then hB6 hB6.size hbr
        have hcj : 1 ≤ j ∧ j ≤ 8 := by omega
        obtain ⟨b, hb⟩ : ∃ b, b = decide ((leastL j L : Int) ≤ k) := ⟨_, rfl⟩
        have HFb := Lib.hid (show (okB (j : Int) L && decide ((leastL (j : Int).toNat L : Int) ≤ k)) = b by rw [HOK.out, HJJ.out, hb]; simp)
        have HRb := Lib.hid (show decide ((leastL j L : Int) ≤ k) = b from hb.symm)
        obtain ⟨s, hs⟩ : ∃ s, s = leastL j L := ⟨_, rfl⟩
        have HLs := Lib.hid (show leastL (j : Int).toNat L = s by rw [HJJ.out, hs])
        have HLr := Lib.hid (show leastL j L = s from hs.symm)
        obtain ⟨r, hr⟩ : ∃ r, r = roundsL j L := ⟨_, rfl⟩
        have HRs := Lib.hid (show roundsL (j : Int).toNat L = r by rw [HJJ.out, hr])
        have HRr := Lib.hid (show roundsL j L = r from hr.symm)
        have HCJ := Lib.hid hcj
        clear hb hs hr hcj hbr hB6 R6 RW6 RS hi hlt
        go_wp2_with fail
        refine (fairW j _ _ _ _ k _ R7 hm40 b HFb.out).mono ?_
        rintro e w8 ⟨rfl, hb8⟩
        have R8 := R7.below hb8
        have hB8 := below_then hB7 hB7.size hb8
        clear hb8 hB7 R7
        go_wp2_with fail
        have HC1 := fairR_c j HCJ.out k hk2 _ _ _ _ w8 R8 hm40
        rw [HRb.out] at HC1
        refine HC1.mono ?_
        rintro e w9 ⟨rfl, hb9⟩
        have R9 := R8.below hb9
        have hB9 := below_then hB8 hB8.size hb9
        clear hb9 hB8 R8 HC1
        go_wp2_with fail
        refine (leastW j _ _ _ _ _ R9 hm40 s HOK.out HLs.out).mono ?_
        rintro e w10 ⟨rfl, hb10⟩
        have R10 := R9.below hb10
        have hB10 := below_then hB9 hB9.size hb10
        clear hb10 hB9 R9
        go_wp2_with fail
        have HC2 := leastR_c j HCJ.out _ _ _ _ w10 R10 hm40
        rw [HLr.out] at HC2
        refine HC2.mono ?_
        rintro e w11 ⟨rfl, hb11⟩
        have R11 := R10.below hb11
        have hB11 := below_then hB10 hB10.size hb11
        clear hb11 hB10 R10 HC2
        go_wp2_with fail
        refine (roundsW j _ _ _ _ _ R11 hm40 r HOK.out HRs.out).mono ?_
        rintro e w12 ⟨rfl, hb12⟩
        have R12 := R11.below hb12
        have hB12 := below_then hB11 hB11.size hb12
        clear hb12 hB11 R11
        go_wp2_with fail
        have HC3 := roundsR_c j HCJ.out _ _ _ _ w12 R12 hm40
        rw [HRr.out] at HC3
        refine HC3.mono ?_
        rintro e w13 ⟨rfl, rfl⟩
        clear HC3
        go_wp2_with fail
        refine (HFEW.out _ hB12).mono ?_
        rintro e w14 ⟨⟨q14, d14, rfl, ho14⟩, hb14⟩
        rw [← HM.out] at ho14 ⊢
        have RF := RI.of_owns ho14
        have R14 := R12.below hb14
        have hB14 := below_then hB12 hB12.size hb14
        clear hb14 hB12 R12 ho14
        go_wp2_with fail
        refine (equalW' _ _ _ _ _ _ _ _ _ R14 RF (by omega) (by omega) true (by simp)).mono ?_
        rintro e w15 ⟨rfl, hb15⟩
        have hB15 := below_then hB14 hB14.size hb15
        clear hb15 hB14 R14 RF
        go_wp2
        go_ret
        exact ⟨rfl, hB15⟩

end Go.Proofs.Ytmmeiclclapmfaa
