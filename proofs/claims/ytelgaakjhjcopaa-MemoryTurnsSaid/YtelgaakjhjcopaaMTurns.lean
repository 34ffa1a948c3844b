/-
  MemoryTurns returns true; what was in memory stays.
  Conditions: the memory is one that came in; the numbers are in their kinds' ranges.
-/
import Derived.Test.YtelgaakjhjcopaaMTurnMath
import Derived.Test.YtelgaakjhjcopaaMWakes
namespace Go.Proofs.Ytelgaakjhjcopaa
open Go.RowKit Go.Shelf

set_option maxRecDepth 100000 in
set_option maxHeartbeats 4000000 in
theorem turns_c (v0 v1 : Value) (f : Bool) (ws : List Int) (ls : List Bool) (a k : Int) (W : World) (h0 : ArgR W v0 (ws.map (Value.int .u64))) (h1 : ArgR W v1 (ls.map Value.bool)) (hw : ws.length ≤ 9223372036854775807) (hl : ls.length ≤ 9223372036854775807) (hk2 : k ≤ 9223372036854775807) :
    Calls Try.prog 7 #[.agg #[v0, v1, .bool f], .int .i64 a, .int .i64 k] W fun e w' => e = .returned (.bool true) ∧ Below W.heap.size W w' := by
  have h0' := h0
  have h1' := h1
  obtain ⟨p0, n0, c0, rfl, -, -⟩ := h0'
  obtain ⟨p1, n1, c1, rfl, -, -⟩ := h1'
  have H0 := Lib.hid h0
  have H1 := Lib.hid h1
  clear h0 h1
  obtain ⟨wo, hwo⟩ : ∃ wo : World, wo = W.alloc (.cells #[.slice p0 n0 c0, .slice p1 n1 c1, .bool f] 25) := ⟨_, rfl⟩
  have hB0 : Below W.heap.size W wo := by rw [hwo]; exact (Below.refl _ _).alloc (Nat.le_refl _) _
  have HX := Lib.hid (show MBox wo W.heap.size (.slice p0 n0 c0) (.slice p1 n1 c1) f by rw [hwo]; exact MBox.new _ _ _ _)
  go_enter Try.func7, Try.ntmps7
  go_wp2_with fail
  rw [← hwo]
  clear hwo
  refine (wakes_c _).mono ?_
  rintro e w1 ⟨rfl, hb1⟩
  have HX1 := HX.out.below hb1
  have hB1 := below_then hB0 hB0.size hb1
  obtain ⟨⟨hx0, hx1, hx2⟩, _⟩ := mbox_cells HX1
  clear hb1 hB0 HX HX1
  go_wp2_with fail
  refine (own_c _ _ f ws ls _ (H0.out.below hB1) (H1.out.below hB1) hw hl).mono ?_
  rintro e w2 ⟨hg, hb2⟩
  obtain ⟨q0, d0, q1, d1, rfl, w3, hw3, hM, hb3⟩ := own_put hg hb2.size
  have hul : (ws.take 64).length ≤ 64 := by simp; omega
  have hml : (ls.take 64).length ≤ 64 := by simp; omega
  have hcap := (own_cap hM.2.2.2).1
  have HM := Lib.hid hM.var
  have hB := below_then (below_then hB1 hB1.size hb2) (Nat.le_trans hB1.size hb2.size) hb3
  clear hg H0 H1 hw hl hx0 hx1 hx2 hM hB1 hb2 hb3
  generalize ws.take 64 = us at hul HM hw3
  generalize ls.take 64 = ms at hml HM hw3 hcap
  obtain ⟨hm0, hm1, hm2⟩ := HM.out.cells
  unfold putM at hw3
  rw [hw3] at hm0 hm1 hm2
  go_wp2_with fail
  rw [← hw3]
  clear hw3 hm0 hm1 hm2
  have hcs : (∃ c c' : Int, (c != 0) = true ∧ (c' == 0) = false ∧ ((rightB us ms = false ∧ c = 120) ∨ (rightB us ms = true ∧ thereB us.length a k = false ∧ c = 2) ∨ (rightB us ms = true ∧ thereB us.length a k = true ∧ cnt a.toNat (a.toNat + k.toNat) 0 ms ≠ 0 ∧ c = 5)) ∧ ((rightB us ms = false ∧ c' = 120) ∨ (rightB us ms = true ∧ thereB us.length a k = false ∧ c' = 2) ∨ (rightB us ms = true ∧ thereB us.length a k = true ∧ cnt a.toNat (a.toNat + k.toNat) 0 ms < k.toNat ∧ c' = 4))) ∨
      (rightB us ms = true ∧ thereB us.length a k = true ∧ cnt a.toNat (a.toNat + k.toNat) 0 ms ≠ 0 ∧ cnt a.toNat (a.toNat + k.toNat) 0 ms = k.toNat) ∨ (rightB us ms = true ∧ thereB us.length a k = true ∧ cnt a.toNat (a.toNat + k.toNat) 0 ms = 0) := turn_cases us ms a k
  rcases hcs with ⟨c, c', hc0, hc1, hcl, hcf⟩ | ⟨hr, ht, hc0, hc1⟩ | ⟨hr, ht, hc0⟩
  · refine (live_no _ us ms f a k w3 HM.out.mem (cap_mk hcap) (by omega) hk2 c hcl).mono ?_
    rintro e w4 ⟨rfl, hb⟩
    unfold memZ
    obtain ⟨w4p, hw4p⟩ : ∃ x, x = putM w4 (.slice none 0 0) (.slice none 0 0) false := ⟨_, rfl⟩
    have hbp : Below w4.heap.size w4 w4p := by rw [hw4p]; exact putM_below _ _ _ _
    have HV := Lib.hid (show MVar w4p w4.heap.size (.slice none 0 0) (.slice none 0 0) [] [] false by rw [hw4p]; exact putM_nil _)
    have HM' := Lib.hid (((HM.out.below hb).below hbp))
    clear HM
    have HM := HM'
    clear HM'
    have hBn := below_then (below_then hB hB.size hb) (Nat.le_trans hB.size hb.size) hbp
    clear hb hbp hB
    have hB := hBn
    clear hBn
    unfold putM at hw4p
    obtain ⟨hm0, hm1, hm2⟩ := HM.out.cells
    rw [hw4p] at hm0 hm1 hm2
    go_wp2_with fail
    rw [← hw4p]
    clear hw4p hm0 hm1 hm2
    refine (free_no _ us ms f a k w4p HM.out.mem (cap_mk hcap) (by omega) hk2 c' hcf).mono ?_
    rintro e w5 ⟨rfl, hb⟩
    unfold memZ
    obtain ⟨w5p, hw5p⟩ : ∃ x, x = putM w5 (.slice none 0 0) (.slice none 0 0) false := ⟨_, rfl⟩
    have hbp : Below w5.heap.size w5 w5p := by rw [hw5p]; exact putM_below _ _ _ _
    have HF := Lib.hid (show MVar w5p w5.heap.size (.slice none 0 0) (.slice none 0 0) [] [] false by rw [hw5p]; exact putM_nil _)
    have HV' := Lib.hid (((HV.out.below hb).below hbp))
    clear HV
    have HV := HV'
    clear HV'
    have hBn := below_then (below_then hB hB.size hb) (Nat.le_trans hB.size hb.size) hbp
    clear hb hbp hB
    have hB := hBn
    clear hBn
    unfold putM at hw5p
    obtain ⟨hv0, hv1, hv2⟩ := HV.out.cells
    rw [hw5p] at hv0 hv1 hv2
    go_wp2_with fail
    rw [← hw5p]
    clear hw5p hv0 hv1 hv2
    refine (none_c _).mono ?_
    rintro e w6 ⟨rfl, hb⟩
    have HF' := Lib.hid ((HF.out.below hb))
    clear HF
    have HF := HF'
    clear HF'
    have hBn := below_then hB hB.size hb
    clear hb hB
    have hB := hBn
    clear hBn
    obtain ⟨hf0, hf1, hf2⟩ := HF.out.cells
    have HCK := check_c _ [] [] false w6 HF.out.mem (by decide)
    rw [show chkM [] [] = 120 from rfl] at HCK
    have HCK' := Lib.hid HCK
    clear HCK HM HV hcl hcf
    go_wp2_with fail
    refine HCK'.out.mono ?_
    rintro e w7 ⟨rfl, hb⟩
    have hBe := below_then hB hB.size hb
    clear hb hB hf0 hf1 hf2
    go_wp2
    go_ret
    exact ⟨rfl, hBe⟩
  · obtain ⟨bw, hbw⟩ : ∃ x, x = fill us a.toNat 18369900232523579118 k.toNat := ⟨_, rfl⟩
    obtain ⟨bl, hbl⟩ : ∃ x, x = fill ms a.toNat false k.toNat := ⟨_, rfl⟩
    have HR := Lib.hid (show rightB bw bl = true by rw [hbw, hbl]; exact right_fill hr _ _ _ _ (by decide))
    have HBW := Lib.hid hbw
    have HBL := Lib.hid hbl
    clear hbw hbl
    refine (live_no _ us ms f a k w3 HM.out.mem (cap_mk hcap) (by omega) hk2 5 (.inr (.inr ⟨hr, ht, hc0, rfl⟩))).mono ?_
    rintro e w4 ⟨rfl, hb⟩
    unfold memZ
    obtain ⟨w4p, hw4p⟩ : ∃ x, x = putM w4 (.slice none 0 0) (.slice none 0 0) false := ⟨_, rfl⟩
    have hbp : Below w4.heap.size w4 w4p := by rw [hw4p]; exact putM_below _ _ _ _
    have HV := Lib.hid (show MVar w4p w4.heap.size (.slice none 0 0) (.slice none 0 0) [] [] false by rw [hw4p]; exact putM_nil _)
    have HM' := Lib.hid (((HM.out.below hb).below hbp))
    clear HM
    have HM := HM'
    clear HM'
    have hBn := below_then (below_then hB hB.size hb) (Nat.le_trans hB.size hb.size) hbp
    clear hb hbp hB
    have hB := hBn
    clear hBn
    unfold putM at hw4p
    obtain ⟨hm0, hm1, hm2⟩ := HM.out.cells
    rw [hw4p] at hm0 hm1 hm2
    go_wp2_with fail
    rw [← hw4p]
    clear hw4p hm0 hm1 hm2
    refine (free_yes _ us ms f a k w4p HM.out.mem (cap_mk hcap) (by omega) hk2 hr ht hc1).mono ?_
    rintro e w5 ⟨hs, hb⟩
    obtain ⟨pHF, cHF, qHF, dHF, rfl, hcapHF, w5p, hw5p, HN, hbp⟩ := live_put (ws := bw) (ls := bl) hs HBW.out.symm HBL.out.symm
    have HV' := Lib.hid (((HV.out.below hb).below hbp))
    clear HV
    have HV := HV'
    clear HV'
    have HF := Lib.hid HN
    have hBn := below_then (below_then hB hB.size hb) (Nat.le_trans hB.size hb.size) hbp
    clear hs HN hb hbp hB
    have hB := hBn
    clear hBn
    unfold putM at hw5p
    obtain ⟨hv0, hv1, hv2⟩ := HV.out.cells
    rw [hw5p] at hv0 hv1 hv2
    go_wp2_with fail
    rw [← hw5p]
    clear hw5p hv0 hv1 hv2
    refine (none_c _).mono ?_
    rintro e w6 ⟨rfl, hb⟩
    have HF' := Lib.hid ((HF.out.below hb))
    clear HF
    have HF := HF'
    clear HF'
    have hBn := below_then hB hB.size hb
    clear hb hB
    have hB := hBn
    clear hBn
    obtain ⟨hf0, hf1, hf2⟩ := HF.out.cells
    have HCK := check_c _ bw bl f w6 HF.out.mem (by have := (rightB_iff.1 HR.out).2.1; omega)
    rw [chkM_yes HR.out] at HCK
    have HCK' := Lib.hid HCK
    clear HCK HM HV
    go_wp2_with fail
    refine HCK'.out.mono ?_
    rintro e w7 ⟨rfl, hb⟩
    have hBe := below_then hB hB.size hb
    clear hb hB hf0 hf1 hf2 hr ht hc0 hc1
    go_wp2
    go_ret
    exact ⟨rfl, hBe⟩
  · obtain ⟨hk1, ha0, hak⟩ := thereB_iff.1 ht
    obtain ⟨x, rfl⟩ := Int.eq_ofNat_of_zero_le ha0
    obtain ⟨n, rfl⟩ := Int.eq_ofNat_of_zero_le (show 0 ≤ k by omega)
    have hlen := (rightB_iff.1 hr).2.2.1
    obtain ⟨ws1, hws1⟩ : ∃ l, l = fill us x 0 n := ⟨_, rfl⟩
    obtain ⟨ls1, hls1⟩ : ∃ l, l = fill ms x true n := ⟨_, rfl⟩
    obtain ⟨ws2, hws2⟩ : ∃ l, l = fill ws1 x 18369900232523579118 n := ⟨_, rfl⟩
    obtain ⟨ls2, hls2⟩ : ∃ l, l = fill ls1 x false n := ⟨_, rfl⟩
    have hlu1 : ws1.length = us.length := by rw [hws1, fill_length]
    have hlu2 : ws2.length = us.length := by rw [hws2, fill_length, hlu1]
    have hlm1 : ls1.length = ms.length := by rw [hls1, fill_length]
    have hlm2 : ls2.length = ms.length := by rw [hls2, fill_length, hlm1]
    have HR1 := Lib.hid (show rightB ws1 ls1 = true by rw [hws1, hls1]; exact right_fill hr _ _ _ _ (by decide))
    have HR2 := Lib.hid (show rightB ws2 ls2 = true by rw [hws2, hls2]; exact right_fill HR1.out _ _ _ _ (by decide))
    have HT1 := Lib.hid (show thereB ws1.length (x : Int) (n : Int) = true by rw [hlu1]; exact ht)
    have HT2 := Lib.hid (show thereB ws2.length (x : Int) (n : Int) = true by rw [hlu2]; exact ht)
    have HC1 := Lib.hid (show cnt (x : Int).toNat ((x : Int).toNat + (n : Int).toNat) 0 ls1 = (n : Int).toNat by rw [hls1]; exact cnt_fill_true ms x n (by omega))
    have HC2 := Lib.hid (show cnt (x : Int).toNat ((x : Int).toNat + (n : Int).toNat) 0 ls2 = 0 by rw [hls2]; exact cnt_fill_false ls1 x n)
    have HE1 := Lib.hid (show fill ws2 x 0 n = ws1 by rw [hws2, fill_fill, hws1, fill_fill])
    have HE2 := Lib.hid (show fill ls2 x true n = ls1 by rw [hls2, fill_fill, hls1, fill_fill])
    have HP2 := Lib.hid (show ∀ i (h : x + i < ws2.length), i < n → ws2[x + i] = 18369900232523579118 by intro i h hi; subst hws2; rw [fill_get _ _ _ _ _ (by simpa [fill_length] using h), if_pos (by omega)])
    have HP1 := Lib.hid (show ∀ i (h : x + i < ws1.length), i < n → ws1[x + i] = 0 by intro i h hi; subst hws1; rw [fill_get _ _ _ _ _ (by simpa [fill_length] using h), if_pos (by omega)])
    have HV2 := Lib.hid (show ∀ i, i < n → liveAt ws2 ls2 ((x : Int) + (i : Int)) = false by
      intro i hi
      have hlt : x + i < ls2.length := by rw [hlm2]; omega
      have : ls2.getD (x + i) false = false := by
        rw [List.getD_eq_getElem?_getD, List.getElem?_eq_getElem hlt]
        subst hls2
        rw [Option.getD_some, fill_get _ _ _ _ _ (by rw [fill_length] at hlt; exact hlt), if_pos (by omega)]
      rw [liveAt, show ((x : Int) + (i : Int)).toNat = x + i by omega, this, Bool.and_false])
    have HW1 := Lib.hid hws1
    have HL1 := Lib.hid hls1
    have HW2 := Lib.hid hws2
    have HL2 := Lib.hid hls2
    have hU1 : ws1.length ≤ 64 := by omega
    have hU2 : ws2.length ≤ 64 := by omega
    have hM1 : ls1.length ≤ 64 := by omega
    have hM2 : ls2.length ≤ 64 := by omega
    have hxn1 : x + n ≤ ws1.length := by omega
    have hxn2 : x + n ≤ ws2.length := by omega
    clear hws1 hls1 hws2 hls2 hlu1 hlu2 hlm1 hlm2 hlen hak ha0
    refine (live_yes _ us ms f (x : Int) (n : Int) w3 HM.out.mem (cap_mk hcap) (by omega) hk2 hr ht hc0).mono ?_
    rintro e w4 ⟨hs, hb⟩
    obtain ⟨pHA, cHA, qHA, dHA, rfl, hcapHA, w4p, hw4p, HN, hbp⟩ := live_put (ws := ws1) (ls := ls1) hs HW1.out.symm HL1.out.symm
    have HA := Lib.hid HN
    have hBn := below_then (below_then hB hB.size hb) (Nat.le_trans hB.size hb.size) hbp
    clear hs HN hb hbp hB
    have hB := hBn
    clear hBn
    unfold putM at hw4p
    go_wp2_with fail
    rw [← hw4p]
    clear hw4p 
    clear HM hr ht hc0
    refine (free_yes _ ws1 ls1 f (x : Int) (n : Int) w4p HA.out.mem (cap_mk hcapHA) (by omega) hk2 HR1.out HT1.out HC1.out).mono ?_
    rintro e w5 ⟨hs, hb⟩
    obtain ⟨pHB, cHB, qHB, dHB, rfl, hcapHB, w5p, hw5p, HN, hbp⟩ := live_put (ws := ws2) (ls := ls2) hs HW2.out.symm HL2.out.symm
    have HA' := Lib.hid (((HA.out.below hb).below hbp))
    clear HA
    have HA := HA'
    clear HA'
    have HB := Lib.hid HN
    have hBn := below_then (below_then hB hB.size hb) (Nat.le_trans hB.size hb.size) hbp
    clear hs HN hb hbp hB
    have hB := hBn
    clear hBn
    unfold putM at hw5p
    go_wp2_with fail
    rw [← hw5p]
    clear hw5p 
    refine (live_yes _ ws2 ls2 f (x : Int) (n : Int) w5p HB.out.mem (cap_mk hcapHB) (by omega) hk2 HR2.out HT2.out HC2.out).mono ?_
    rintro e w6 ⟨hs, hb⟩
    obtain ⟨pHC, cHC, qHC, dHC, rfl, hcapHC, w6p, hw6p, HN, hbp⟩ := live_put (ws := ws1) (ls := ls1) hs HE1.out HE2.out
    have HA' := Lib.hid (((HA.out.below hb).below hbp))
    clear HA
    have HA := HA'
    clear HA'
    have HB' := Lib.hid (((HB.out.below hb).below hbp))
    clear HB
    have HB := HB'
    clear HB'
    have HC := Lib.hid HN
    have hBn := below_then (below_then hB hB.size hb) (Nat.le_trans hB.size hb.size) hbp
    clear hs HN hb hbp hB
    have hB := hBn
    clear hBn
    unfold putM at hw6p
    obtain ⟨ha0, ha1, ha2⟩ := HA.out.cells
    rw [hw6p] at ha0 ha1 ha2
    go_wp2_with fail
    rw [← hw6p]
    clear hw6p ha0 ha1 ha2
    refine (live_no _ ws1 ls1 f (x : Int) (n : Int) w6p HA.out.mem (cap_mk hcapHA) (by omega) hk2 5 (.inr (.inr ⟨HR1.out, HT1.out, by rw [HC1.out]; simp; omega, rfl⟩))).mono ?_
    rintro e w7 ⟨rfl, hb⟩
    unfold memZ
    obtain ⟨w7p, hw7p⟩ : ∃ x, x = putM w7 (.slice none 0 0) (.slice none 0 0) false := ⟨_, rfl⟩
    have hbp : Below w7.heap.size w7 w7p := by rw [hw7p]; exact putM_below _ _ _ _
    have HZ := Lib.hid (show MVar w7p w7.heap.size (.slice none 0 0) (.slice none 0 0) [] [] false by rw [hw7p]; exact putM_nil _)
    have HA' := Lib.hid (((HA.out.below hb).below hbp))
    clear HA
    have HA := HA'
    clear HA'
    have HB' := Lib.hid (((HB.out.below hb).below hbp))
    clear HB
    have HB := HB'
    clear HB'
    have HC' := Lib.hid (((HC.out.below hb).below hbp))
    clear HC
    have HC := HC'
    clear HC'
    have hBn := below_then (below_then hB hB.size hb) (Nat.le_trans hB.size hb.size) hbp
    clear hb hbp hB
    have hB := hBn
    clear hBn
    unfold putM at hw7p
    obtain ⟨hb0, hb1, hb2⟩ := HB.out.cells
    rw [hw7p] at hb0 hb1 hb2
    go_wp2_with fail
    rw [← hw7p]
    clear hw7p hb0 hb1 hb2
    refine (free_no _ ws2 ls2 f (x : Int) (n : Int) w7p HB.out.mem (cap_mk hcapHB) (by omega) hk2 4 (.inr (.inr ⟨HR2.out, HT2.out, by rw [HC2.out]; simp; omega, rfl⟩))).mono ?_
    rintro e w8 ⟨rfl, hb⟩
    unfold memZ
    obtain ⟨w8p, hw8p⟩ : ∃ x, x = putM w8 (.slice none 0 0) (.slice none 0 0) false := ⟨_, rfl⟩
    have hbp : Below w8.heap.size w8 w8p := by rw [hw8p]; exact putM_below _ _ _ _
    have HY := Lib.hid (show MVar w8p w8.heap.size (.slice none 0 0) (.slice none 0 0) [] [] false by rw [hw8p]; exact putM_nil _)
    have HA' := Lib.hid (((HA.out.below hb).below hbp))
    clear HA
    have HA := HA'
    clear HA'
    have HB' := Lib.hid (((HB.out.below hb).below hbp))
    clear HB
    have HB := HB'
    clear HB'
    have HC' := Lib.hid (((HC.out.below hb).below hbp))
    clear HC
    have HC := HC'
    clear HC'
    have hBn := below_then (below_then hB hB.size hb) (Nat.le_trans hB.size hb.size) hbp
    clear hb hbp hB
    have hB := hBn
    clear hBn
    unfold putM at hw8p
    obtain ⟨ha0, ha1, ha2⟩ := HA.out.cells
    obtain ⟨hc0, hc1, hc2⟩ := HC.out.cells
    rw [hw8p] at ha0 ha1 ha2 hc0 hc1 hc2
    go_wp2_with fail
    rw [← hw8p]
    clear hw8p ha0 ha1 ha2 hc0 hc1 hc2
    refine (same_t _ _ ws1 ls1 f w8p HA.out.mem HC.out.mem (by omega) (by omega)).mono ?_
    rintro e w9 ⟨rfl, hb⟩
    have HB' := Lib.hid ((HB.out.below hb))
    clear HB
    have HB := HB'
    clear HB'
    have HC' := Lib.hid ((HC.out.below hb))
    clear HC
    have HC := HC'
    clear HC'
    have hBn := below_then hB hB.size hb
    clear hb hB
    have hB := hBn
    clear hBn
    obtain ⟨hb0, hb1, hb2⟩ := HB.out.cells
    have HCK := check_c _ ws2 ls2 f w9 HB.out.mem (by omega)
    rw [chkM_yes HR2.out] at HCK
    have HCK' := Lib.hid HCK
    clear HCK HA HZ HY
    go_wp2_with fail
    clear hb0 hb1 hb2
    refine (HCK'.out).mono ?_
    rintro e wa ⟨rfl, hb⟩
    have HB' := Lib.hid ((HB.out.below hb))
    clear HB
    have HB := HB'
    clear HB'
    have HC' := Lib.hid ((HC.out.below hb))
    clear HC
    have HC := HC'
    clear HC'
    have hBn := below_then hB hB.size hb
    clear hb hB
    have hB := hBn
    clear hBn
    clear HCK'
    go_wp2_with fail
    obtain ⟨bb, ob, rfl, hcsb⟩ := nums_cells HB.out.2.1 (by omega)
    obtain ⟨bc, oc, rfl, hcsc⟩ := nums_cells HC.out.2.1 (by omega)
    have HSB := Lib.hid hcsb
    have HSC := Lib.hid hcsc
    clear hcsb hcsc HC1 HC2 HE1 HE2 HW1 HL1 HW2 HL2 HT1 HT2
    go_loopw [20, 115] (fun cv iv wr => ∃ i : Nat, i ≤ n ∧ iv = .int .i64 i ∧ cv = .int .i64 i ∧ Below wa.heap.size wa wr) (fun _ iv _ => n - (intOf iv).toNat)
    case atStart => exact ⟨0, Nat.zero_le _, rfl, rfl, Below.refl _ _⟩
    case round =>
      obtain ⟨i, hi, rfl, rfl, hbl⟩ := hrel
      by_cases hlt : i < n
      · have hsum : ((x : Int) + (i : Int)).toNat = x + i := by omega
        have hBr := below_then hB hB.size hbl
        have HBr := Lib.hid (HB.out.below hbl)
        have HCr := Lib.hid (HC.out.below hbl)
        obtain ⟨hb0, hb1, hb2⟩ := HBr.out.cells
        have hpb := below_cell hbl (HSB.out (x + i) (by omega))
        have hpc := below_cell hbl (HSC.out (x + i) (by omega))
        rw [HP2.out i (by omega) hlt] at hpb
        rw [HP1.out i (by omega) hlt] at hpc
        have HPB := Lib.hid hpb
        have HPC := Lib.hid hpc
        clear hpb hpc
        have HBL := Lib.hid hbl
        clear hbl
        go_wp2_with fail
        clear hb0 hb1 hb2
        refine (step_yes _ 1 ((x : Int) + (i : Int)) 0 0 ws2 ls2 f _ HBr.out.mem HR2.out rfl).mono ?_
        rintro e wb ⟨hs, hb⟩
        obtain ⟨pS, nS, cS, qS, mS, dS, rfl, wbp, hwbp, hSM, hSG, hbp⟩ := step_put (us := ws2) (f := true) (g := 0) (d := false) hs.reads (accM_out (HV2.out i hlt) _ _ _ _)
        have HBs := Lib.hid ((HBr.out.below hb).below hbp)
        have HCs := Lib.hid ((HCr.out.below hb).below hbp)
        obtain ⟨hb0, hb1, hb2⟩ := HBs.out.cells
        obtain ⟨hc0, hc1, hc2⟩ := HCs.out.cells
        have hpb := below_cell hbp (below_cell hb HPB.out)
        have hpc := below_cell hbp (below_cell hb HPC.out)
        have hbn := below_then (below_then HBL.out HBL.out.size hb) (Nat.le_trans HBL.out.size hb.size) hbp
        unfold putMG at hwbp
        have HBN := Lib.hid hbn
        rw [hwbp] at hb0 hb1 hb2 hc0 hc1 hc2 hpb hpc HBN
        clear hs hSM hSG hb hbp hbn hwbp HBr HCr HBs HCs HPB HPC HBL hBr
        have hxl1 : x + i < ws1.length := by omega
        have hxl2 : x + i < ws2.length := by omega
        go_wp2
        go_roundw
        case rel => exact ⟨i + 1, by omega, by go_num, by go_num, HBN.out⟩
        case measure => simp [intOf]; omega
      · have hin : i = n := by omega
        subst hin
        have hB' := below_then hB hB.size hbl
        have HC' := Lib.hid (HC.out.below hbl)
        clear hB hbl HB HC HSB HSC HP1 HP2 HV2
        obtain ⟨hc0, hc1, hc2⟩ := HC'.out.cells
        have HSP := Lib.hid (spansF_c _ ws1 ls1 f _ HC'.out.mem (cap_mk hcapHC) HR1.out)
        go_wp2_with fail
        refine HSP.out.mono ?_
        rintro e wc ⟨⟨vP, rfl, hoP⟩, hb⟩
        clear HSP hc0 hc1 hc2
        obtain ⟨R, hR⟩ : ∃ R, R = spansL ls1 := ⟨_, rfl⟩
        rw [← hR] at hoP
        have hP := pairs_of_owns (fs := rowsI R) (by simp [rowsI]) hoP
        obtain ⟨qP, cP, rfl, hcsP⟩ := hP
        have HSM := Lib.hid (show sumRows R = trues ls1 by rw [hR, sum_spansL])
        have HPS := Lib.hid (show ∀ s ∈ R, 1 ≤ s.2 ∧ s.2 ≤ 64 from fun s hs => by have := spansL_pos ls1 s (hR ▸ hs); omega)
        have htr : trues ls1 ≤ 64 := Nat.le_trans (trues_le ls1) hM1
        obtain ⟨RI, hRI⟩ : ∃ r, r = rowsI R := ⟨_, rfl⟩
        rw [← hRI] at hcsP ⊢
        have HRI := Lib.hid hRI
        have HRL := Lib.hid (show RI.length = R.length by rw [hRI]; simp [rowsI])
        have HPC := Lib.hid hcsP
        have HRM := Lib.hid (show RI.length ≤ 4611686018427387904 by have := (hoP.lt); have := spansP_length ls1 0 0; rw [HRL.out, hR]; have h2 : (spansL ls1).length ≤ ls1.length + 1 := this; omega)
        have HC := Lib.hid (HC'.out.below hb)
        have hB := below_then hB' hB'.size hb
        have hrm := HRM.out
        clear HRM hR hRI hcsP hoP HC' hB' hb hi hlt
        go_wp2
        go_loopw [25, 158] (fun cv iv wr => ∃ j : Nat, j ≤ RI.length ∧ iv = .int .i64 j ∧ cv = .int .i64 (sumRows (R.take j) : Nat) ∧ Below wc.heap.size wc wr) (fun _ iv _ => RI.length - (intOf iv).toNat)
        case atStart => exact ⟨0, Nat.zero_le _, rfl, rfl, Below.refl _ _⟩
        case round =>
          obtain ⟨j, hj, rfl, rfl, hbl⟩ := hrel
          by_cases hlt : j < RI.length
          · obtain ⟨bp, op, rfl, hcs⟩ := HPC.out (by intro e; rw [e] at hlt; cases hlt)
            have hjr : j < R.length := by have := HRL.out; omega
            obtain ⟨s1, s2, hs12⟩ : ∃ s1 s2, R[j] = (s1, s2) := ⟨_, _, rfl⟩
            have hs2 := HPS.out (s1, s2) (hs12 ▸ List.getElem_mem hjr)
            have hcj := hcs j hlt
            have hrj : RI[j] = ((s1 : Int), (s2 : Int)) := by have h := HRI.out; subst h; simp [rowsI, hs12]
            rw [hrj] at hcj
            have hz0 := below_cell hbl hcj.1
            have hz1 := below_cell hbl hcj.2
            have hsn : sumRows (R.take (j + 1)) = sumRows (R.take j) + s2 := by rw [List.take_succ_eq_append_getElem hjr, sumRows_snoc, hs12]
            have hsl := sumRows_take_le R (j + 1)
            rw [hsn, HSM.out] at hsl
            obtain ⟨S, hS⟩ : ∃ S, S = sumRows (R.take j) := ⟨_, rfl⟩
            rw [← hS] at hsn hsl ⊢
            have HSN := Lib.hid hsn
            have hd : decide ((s2 : Int) < 1) = false := by simp; omega
            have hs2a := hs2.1
            have hs2b := hs2.2
            clear hsn hS hrj hcj hcs hs12 hs2
            simp only at hz0 hz1 hs2a hs2b
            go_wp2
            go_roundw
            case rel => exact ⟨j + 1, by omega, by go_num, by rw [HSN.out]; go_num, hbl.alloc hbl.size _⟩
            case measure => simp [intOf]; omega
          · have hjn : j = RI.length := by omega
            have hsum : sumRows (R.take j) = trues ls1 := by rw [hjn, HRL.out, List.take_length, HSM.out]
            rw [hsum]
            clear hsum
            have hB' := below_then hB hB.size hbl
            have HC' := Lib.hid (HC.out.below hbl)
            clear hB hbl HC HPC HRI HSM HPS HRL hjn hrm
            obtain ⟨hc0, hc1, hc2⟩ := HC'.out.cells
            go_wp2
            go_loopw [28, 173] (fun cv iv wx => ∃ j : Nat, j ≤ ls1.length ∧ iv = .int .i64 j ∧ cv = .int .i64 (trues (ls1.take j) : Nat) ∧ wx = wr) (fun _ iv _ => ls1.length - (intOf iv).toNat)
            case atStart => exact ⟨0, Nat.zero_le _, rfl, rfl, rfl⟩
            case round =>
              obtain ⟨m, hm, rfl, rfl, rfl⟩ := hrel
              by_cases hlt : m < ls1.length
              · obtain ⟨bl, ol, hq, hcs⟩ := bools_cells HC'.out.2.2 (by omega)
                have hz := hcs m hlt
                have hsn := trues_snoc (ls1.take m) ls1[m]
                rw [← List.take_succ_eq_append_getElem hlt] at hsn
                obtain ⟨b, hb⟩ : ∃ b, b = ls1[m] := ⟨_, rfl⟩
                rw [← hb] at hsn hz
                have htl : trues (ls1.take m) ≤ 64 := Nat.le_trans (trues_le _) (by simp; omega)
                obtain ⟨S, hS⟩ : ∃ S, S = trues (ls1.take m) := ⟨_, rfl⟩
                rw [← hS] at hsn htl ⊢
                subst hq
                have HSN := Lib.hid hsn
                clear hsn hS hb hcs
                cases b
                all_goals
                  go_wp2
                  go_roundw
                  case rel => exact ⟨m + 1, by omega, by go_num, by rw [HSN.out]; simp, by trivial⟩
                  case measure => simp [intOf]; omega
              · have hmn : m = ls1.length := by omega
                have hsum : trues (ls1.take m) = trues ls1 := by rw [hmn, List.take_length]
                rw [hsum]
                clear hsum hmn hc0 hc1 hc2
                go_wp2
                go_ret
                exact ⟨rfl, hB'⟩

end Go.Proofs.Ytelgaakjhjcopaa
