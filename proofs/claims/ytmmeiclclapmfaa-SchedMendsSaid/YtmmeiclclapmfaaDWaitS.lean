/-
  SchedWaits returns true for every number of CPUs, row of picks, and pick; what was in memory stays.
  Conditions: the row reads as ints of 64 bits.
-/
import Derived.Test.YtmmeiclclapmfaaDFairS
namespace Go.Proofs.Ytmmeiclclapmfaa
open Go.RowKit Go.Shelf

theorem RI.cells {w : World} {p : Option Addr} {n c : Nat} {xs : List Int} (h : RI w p n c xs) (hn : 0 < n) : ∃ b off, p = some ⟨b, off, none⟩ ∧ ∀ i (hi : i < xs.length), w.cell? ⟨b, off + i, none⟩ = some (.int .i64 xs[i]) := by
  obtain ⟨q, d, e, hc⟩ := h.nums
  injection e with e1 e2 e3
  subst e1
  exact hc (by intro e; have := h.len; rw [e] at this; simp at this; omega)

set_option maxRecDepth 100000 in
set_option maxHeartbeats 4000000 in
theorem schedWaits_walk (c : Int) (p : Option Addr) (n d : Nat) (xs : List Int) (pick : Int) (W : World) (h : RI W p n d xs) (hn : n ≤ 9223372036854775807) :
    Calls Try.prog 7 #[.int .i64 c, .slice p n d, .int .i64 pick] W fun e w' => e = .returned (.bool true) ∧ Below W.heap.size W w' := by
  go_enter Try.func7, Try.ntmps7
  go_wp2_with fail
  refine (wakes_c _).mono ?_
  rintro e w1 ⟨rfl, hb1⟩
  go_wp2_with fail
  refine (few_c p n d xs w1 (h.below hb1) hn).mono ?_
  rintro e w2 ⟨⟨p1, d1, rfl, ho⟩, hb2⟩
  have R := RI.of_owns ho
  have hL60 : (xs.take 60).length ≤ 60 := by rw [List.length_take]; omega
  have hB := below_then hb1 hb1.size hb2
  clear hb1 hb2 ho h
  generalize xs.take 60 = L at *
  obtain ⟨m, hm⟩ : ∃ m, m = L.length := ⟨_, rfl⟩
  rw [← hm] at R hL60 ⊢
  have HM := Lib.hid hm
  clear hm
  have hm40 : m ≤ 1099511627776 := by omega
  cases hok : okB c L with
  | false =>
    go_wp2_with fail
    refine (checkW c _ _ _ _ _ R hm40 140 (by rw [hok]; rfl)).mono ?_
    rintro e w3 ⟨rfl, hb3⟩
    have hB3 := below_then hB hB.size hb3
    clear hb3 hB R hok
    go_wp2
    go_ret
    exact ⟨rfl, hB3⟩
  | true =>
    obtain ⟨⟨hc1, hc8⟩, hall⟩ := okB_iff.1 hok
    obtain ⟨k, rfl⟩ := Int.eq_ofNat_of_zero_le (show 0 ≤ c by omega)
    go_wp2_with fail
    refine (checkW k _ _ _ _ _ R hm40 0 (by rw [hok]; rfl)).mono ?_
    rintro e w3 ⟨rfl, hb3⟩
    have R3 := R.below hb3
    have hB3 := below_then hB hB.size hb3
    have HOK := Lib.hid hok
    have HALL := Lib.hid hall
    clear hb3 hB R hok hall
    have hkz : ((k : Int) == 0) = false := by rw [beq_eq_false_iff_ne]; omega
    have hkm : ((k : Int) == -1) = false := by rw [beq_eq_false_iff_ne]; omega
    have hk0 : ¬ (k : Int) = 0 := by omega
    have huk : IntKind.u64.wrap (k : Int) = (k : Int) := by simp [IntKind.wrap, IntKind.signed, IntKind.bits]; omega
    have hkk : (k : Int).toNat = k := by omega
    obtain ⟨P, hP⟩ := Int.eq_ofNat_of_zero_le (Int.emod_nonneg (IntKind.u64.wrap pick) (show (k : Int) ≠ 0 by omega))
    have hPk : P < k := by have := Int.emod_lt_of_pos (IntKind.u64.wrap pick) (show (0 : Int) < k by omega); omega
    have hPw : wrap64 (P : Int) = (P : Int) := by unfold wrap64; omega
    have hU0 : 0 ≤ IntKind.u64.wrap pick := by simp [IntKind.wrap, IntKind.signed, IntKind.bits]; omega
    have HP := Lib.hid (And.intro ((Int.tmod_eq_emod_of_nonneg hU0).trans hP) hPw)
    clear hP hPw hU0
    have hok2 : okB (k : Int) (L ++ [(P : Int)]) = true := okB_iff.2 ⟨⟨hc1, hc8⟩, fun x hx => by
      rcases List.mem_append.1 hx with h | h
      · exact HALL.out x h
      · rw [List.mem_singleton.1 h]; omega⟩
    have HOK2 := Lib.hid hok2
    clear hok2
    go_upto_region 7 with (fail)
    rw [HP.out.1, HP.out.2]
    clear hkz hkm hk0 huk
    go_wp2_with fail
    refine (waitsW k _ _ _ _ _ R3 hm40 (wv k L) HOK.out (by rw [hkk])).mono ?_
    rintro e w4 ⟨⟨q4, d4, rfl, ho⟩, hb4⟩
    have RW := RI.of_owns ho
    rw [wv_length] at RW ⊢
    have R4 := R3.below hb4
    have hB4 := below_then hB3 hB3.size hb4
    clear hb4 ho R3 hB3
    go_wp2_with fail
    refine (cloneI _ m _ w4 R4.vals (fun u hu => by obtain ⟨x, _, rfl⟩ := List.mem_map.1 hu; rfl) (by omega)).mono ?_
    rintro e w5 ⟨⟨v5, rfl, ho⟩, hb5⟩
    obtain ⟨q5, d5, rfl⟩ := owns_slice ho
    have HO := Lib.hid ho
    have hws := hb5.size
    clear ho R4
    obtain ⟨i0, hi, hz0, hz1, hz2⟩ := info_parts int_info
    have HI0 := Lib.hid (And.intro hi (And.intro hz0 (And.intro hz1 hz2)))
    clear hi hz0 hz1 hz2
    go_wp2_with (at_builtin; refine wpList_append_own _ rfl _ _ 22 rfl w4.heap.size 3 i0 (.int .i64 0) 1 8 Try.underlying22 HI0.out.1 HI0.out.2.1 HI0.out.2.2.1 HI0.out.2.2.2 rfl (by decide) (.slice q5 m d5) m _ rfl (HO.out.alloc _) ⟨w5.heap.size, 0, none⟩ 1 1 [.int .i64 (P : Int)] rfl rfl (cell_one_new _ _ _) (fun y hy => by rw [List.mem_singleton.1 hy]; rfl) (by unfold maxLen; omega) (by omega) (by simp; omega) ?_; intro v' w6 hown' hgrow _; obtain ⟨q6, d6, rfl⟩ := owns_slice hown')
    have hb6 : Below w4.heap.size w4 w6 := (hb5.alloc hb5.size _).grown hgrow (by simp; omega) (fun r hr => (HO.out.lt r hr).1)
    have R6 : RI w6 q6 (m + 1) d6 (L ++ [(P : Int)]) := RI.of_owns (by rw [List.map_append]; exact hown')
    have RW6 := RW.below hb6
    have hB6 := below_then hB4 hB4.size hb6
    clear hb6 hown' hgrow hb5 hws HO RW hB4 HI0
    refine (waitsW k _ _ _ _ _ R6 (by omega) (wv k (L ++ [(P : Int)])) HOK2.out (by rw [hkk])).mono ?_
    rintro e w7 ⟨⟨q7, d7, rfl, ho⟩, hb7⟩
    have RN := RI.of_owns ho
    rw [wv_length] at RN ⊢
    have RW7 := RW6.below hb7
    have hB7 := below_then hB6 hB6.size hb7
    clear hb7 ho R6 RW6 hB6 hkk HOK2
    have hbd : ∀ i (hi : i < (wv k L).length), 0 ≤ (wv k L)[i] ∧ (wv k L)[i] ≤ 60 := fun i hi => by
      rw [wv_get]
      have := waitL_le L (i : Int)
      have := HM.out
      omega
    have hst : ∀ i (hi : i < (wv k L).length) (hi' : i < (wv k (L ++ [(P : Int)])).length), (wv k (L ++ [(P : Int)]))[i] = if P = i then 0 else (wv k L)[i] + 1 := fun i hi hi' => by
      rw [wv_get, wv_get, waitL_snoc]
      by_cases e : P = i
      · rw [if_pos (by omega), if_pos e]; rfl
      · rw [if_neg (by omega), if_neg e]; omega
    have hl0 := wv_length k L
    have hl1 := wv_length k (L ++ [(P : Int)])
    generalize wv k (L ++ [(P : Int)]) = Y at *
    generalize wv k L = X at *
    have HBD := Lib.hid hbd
    have HST := Lib.hid hst
    have HL := Lib.hid (And.intro hl0 hl1)
    clear hbd hst hl0 hl1
    obtain ⟨bx, ox, rfl, hcx⟩ := RW7.cells (by omega)
    obtain ⟨by', oy, rfl, hcy⟩ := RN.cells (by omega)
    have HCX := Lib.hid hcx
    have HCY := Lib.hid hcy
    clear hcx hcy RW7 RN
    go_wp2
    go_loopw [38] (fun iv wr => ∃ i : Nat, i ≤ k ∧ iv = .int .i64 i ∧ Below w7.heap.size w7 wr) (fun iv _ => k - (intOf iv).toNat)
    case atStart => exact ⟨0, Nat.zero_le _, rfl, Below.refl _ _⟩
    case round =>
      obtain ⟨i, hi, rfl, hbr⟩ := hrel
      by_cases hlt : i < k
      · have hix : i < X.length := by rw [HL.out.1]; exact hlt
        have hiy : i < Y.length := by rw [HL.out.2]; exact hlt
        have hx := below_cell hbr (HCX.out i hix)
        have hy := below_cell hbr (HCY.out i hiy)
        obtain ⟨hb0, hb1⟩ := HBD.out i hix
        rw [HST.out i hix hiy] at hy
        obtain ⟨x, hxe⟩ : ∃ x, x = X[i] := ⟨_, rfl⟩
        rw [← hxe] at hx hy hb0 hb1
        clear hxe hix hiy
        by_cases hPi : P = i
        · rw [if_pos hPi] at hy
          subst hPi
          go_wp2
          go_roundw
          case rel => exact ⟨P + 1, by omega, by go_num, hbr⟩
          case measure => simp [intOf]; omega
        · rw [if_neg hPi] at hy
          have he1 : ((i : Int) == (P : Int)) = false := by rw [beq_eq_false_iff_ne]; omega
          have he2 : ((i : Int) != (P : Int)) = true := by rw [bne_iff_ne]; omega
          clear hPi
          go_wp2
          go_roundw
          case rel => exact ⟨i + 1, by omega, by go_num, hbr⟩
          case measure => simp [intOf]; omega
      · have hBE := below_then hB7 hB7.size hbr
        go_wp2
        go_ret
        exact ⟨rfl, hBE⟩

end Go.Proofs.Ytmmeiclclapmfaa
