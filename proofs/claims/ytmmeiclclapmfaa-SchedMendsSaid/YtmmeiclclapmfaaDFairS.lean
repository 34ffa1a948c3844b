/-
  SchedFair returns true for every number of CPUs, k, and row of wishes; what was in memory stays.
  Conditions: the row reads as ints of 64 bits.
-/
import Derived.Test.YtmmeiclclapmfaaDWakes
namespace Go.Proofs.Ytmmeiclclapmfaa
open Go.RowKit Go.Shelf

theorem checkW (c : Int) (p : Option Addr) (n d : Nat) (xs : List Int) (W : World) (h : RI W p n d xs) (hl : n ≤ 1099511627776) (b : Int) (hb : errS (okB c xs) = b) :
    Calls Try.prog 11 #[.int .i64 c, .slice p n d] W fun e w' => e = .returned (.int .i64 b) ∧ Below W.heap.size W w' := by
  have := check_c c _ xs W h.nums (by have := h.len; omega)
  rwa [hb] at this

set_option maxRecDepth 100000 in
set_option maxHeartbeats 4000000 in
theorem schedFair_walk (c k : Int) (p : Option Addr) (n d : Nat) (xs : List Int) (W : World) (h : RI W p n d xs) (hn : n ≤ 9223372036854775807) (hr : ∀ x ∈ xs, -9223372036854775808 ≤ x ∧ x ≤ 9223372036854775807) (hk2 : k ≤ 9223372036854775807) :
    Calls Try.prog 5 #[.int .i64 c, .int .i64 k, .slice p n d] W fun e w' => e = .returned (.bool true) ∧ Below W.heap.size W w' := by
  have HR := Lib.hid (show ∀ x ∈ xs.take 60, -9223372036854775808 ≤ x ∧ x ≤ 9223372036854775807 from fun x hx => hr x (List.mem_of_mem_take hx))
  clear hr
  go_enter Try.func5, Try.ntmps5
  go_wp2_with fail
  refine (wakes_c _).mono ?_
  rintro e w1 ⟨rfl, hb1⟩
  go_wp2_with fail
  refine (few_c p n d xs w1 (h.below hb1) hn).mono ?_
  rintro e w2 ⟨⟨p1, d1, rfl, ho⟩, hb2⟩
  have R := RI.of_owns ho
  have hL60 : (xs.take 60).length ≤ 60 := by rw [List.length_take]; omega
  have hB := below_then hb1 hb1.size hb2
  clear hb1 hb2 ho h
  generalize xs.take 60 = L at *
  obtain ⟨m, hm⟩ : ∃ m, m = L.length := ⟨_, rfl⟩
  rw [← hm] at R hL60 ⊢
  have HM := Lib.hid hm
  clear hm
  have hm40 : m ≤ 1099511627776 := by omega
  cases hmy : mayI c with
  | false =>
    go_wp2_with fail
    refine (mend_no c k _ _ _ _ _ R hm40 hk2 HR.out hmy).mono ?_
    rintro e w3 ⟨rfl, hb3⟩
    have hB3 := below_then hB hB.size hb3
    clear hb3 hB R hmy
    go_wp2
    go_ret
    exact ⟨rfl, hB3⟩
  | true =>
    by_cases hkc : k < c
    · go_wp2_with fail
      refine (mend_few c k _ _ _ _ _ R hm40 hk2 HR.out hmy hkc).mono ?_
      rintro e w3 ⟨rfl, hb3⟩
      have hB3 := below_then hB hB.size hb3
      clear hb3 hB R hmy hkc
      go_wp2
      go_ret
      exact ⟨rfl, hB3⟩
    · have hck : c ≤ k := by omega
      clear hkc
      obtain ⟨hc1, hc8⟩ := mayI_iff.1 hmy
      have hcn : (c.toNat : Int) = c := by omega
      have hrange := mend_range (c := c.toNat) (by omega) k L [] (by simp)
      have hgoes := mend_goes (c := c.toNat) (k := k) (by omega) (by omega) L [] (goes_nil (by omega))
      have hlen := mendL_length c.toNat k L []
      obtain ⟨M, hM⟩ : ∃ M, M = mendL c.toNat k [] L := ⟨_, rfl⟩
      rw [← hM] at hrange hgoes hlen
      have hok : okB c M = true := okB_iff.2 ⟨⟨hc1, hc8⟩, fun x hx => by have := hrange x hx; omega⟩
      have hleast := goes_fair (by omega) (by omega) hgoes
      have hkeep := mend_keeps (c := c.toNat) (k := k) M [] (by simpa using hgoes) hrange
      have hrf := rounds_fair (c := c.toNat) (by omega) (k := k.toNat) (by omega) M.length M (Nat.le_refl _) (by omega)
      have hrM : ∀ x ∈ M, -9223372036854775808 ≤ x ∧ x ≤ 9223372036854775807 := fun x hx => by have := hrange x hx; omega
      have hMm : M.length = m := by rw [hlen, HM.out]; simp
      rw [hMm] at hrf
      have hquo : (m : Int) / k ≤ (roundsL c.toNat M : Int) := by
        have e : (m : Int) / k = ((m / k.toNat : Nat) : Int) := by
          rw [Int.natCast_ediv]; congr 1; omega
        rw [e]; omega
      obtain ⟨Rn, hRn⟩ : ∃ Rn, Rn = roundsL c.toNat M := ⟨_, rfl⟩
      rw [← hRn] at hquo
      have HRN := Lib.hid hRn.symm
      have HOK := Lib.hid hok
      have HLE := Lib.hid hleast
      have HKP := Lib.hid hkeep
      have HRM := Lib.hid hrM
      have HMD := Lib.hid hM
      have hk1 : 1 ≤ k := by omega
      have hkz : (k == 0) = false := by rw [beq_eq_false_iff_ne]; omega
      have hkm : (k == -1) = false := by rw [beq_eq_false_iff_ne]; omega
      have hRl : Rn ≤ 60 := by have := rounds_le c.toNat M; omega
      clear hrange hgoes hlen hok hleast hkeep hrf hrM hMm hRn hM hcn
      go_wp2_with fail
      refine (mend_yes c k _ _ _ _ _ R hm40 hk2 HR.out hmy hck).mono ?_
      rintro e w3 ⟨⟨q3, r3, rfl, R3⟩, hb3⟩
      rw [← HMD.out] at R3
      have hB3 := below_then hB hB.size hb3
      clear hb3 hB R
      go_wp2_with fail
      refine (fairW c _ _ _ _ k _ R3 hm40 true (by rw [HOK.out]; simpa using HLE.out)).mono ?_
      rintro e w4 ⟨rfl, hb4⟩
      have R4 := R3.below hb4
      have hB4 := below_then hB3 hB3.size hb4
      clear hb4 hB3 R3
      go_wp2_with fail
      refine (checkW c _ _ _ _ _ R4 hm40 0 (by rw [HOK.out]; rfl)).mono ?_
      rintro e w5 ⟨rfl, hb5⟩
      have R5 := R4.below hb5
      have hB5 := below_then hB4 hB4.size hb5
      clear hb5 hB4 R4
      go_wp2_with fail
      refine (mend_yes c k _ _ _ _ _ R5 hm40 hk2 HRM.out hmy hck).mono ?_
      rintro e w6 ⟨⟨q6, r6, rfl, R6⟩, hb6⟩
      rw [HKP.out, List.nil_append] at R6
      have R5' := R5.below hb6
      have hB6 := below_then hB5 hB5.size hb6
      clear hb6 hB5 R5 hmy
      go_upto_region 10 with (fail)
      have hW2 : Below w6.heap.size w6 w6.drew := (Below.refl _ _).drew
      have hqt : (m : Int).tdiv k = (m : Int) / k := Int.tdiv_eq_ediv_of_nonneg (by omega)
      have HE : ∀ wx, Below w6.heap.size w6 wx → Calls Try.prog 18 #[.slice q6 m r6, .slice q3 m r3] wx fun e w' => e = .returned (.bool true) ∧ Below wx.heap.size wx w' := fun wx hb => equalW' _ _ _ _ _ _ M M wx (R6.below hb) (R5'.below hb) (by omega) (by omega) true (by simp)
      have HRO : ∀ wx, Below w6.heap.size w6 wx → Calls Try.prog 16 #[.int .i64 c, .slice q3 m r3] wx fun e w' => e = .returned (.int .i64 (Rn : Int)) ∧ Below wx.heap.size wx w' := fun wx hb => roundsW c _ _ _ M wx (R5'.below hb) hm40 Rn HOK.out HRN.out
      have HEH := Lib.hid HE
      have HROH := Lib.hid HRO
      have hq0 : 0 ≤ (m : Int) / k := Int.ediv_nonneg (by omega) (by omega)
      have hwc : IntKind.i64.wrap ((m : Int) / k) = (m : Int) / k := IntWalk.i64_in _ (by omega)
      have hwa : IntKind.i64.wrap ((m : Int).tdiv k) = (m : Int) / k := by rw [hqt]; exact hwc
      have hwb : wrap64 ((m : Int) / k) = (m : Int) / k := by unfold wrap64; omega
      have hk0 : ¬ k = 0 := by omega
      clear HE HRO R6 R5' hqt
      go_region_held3 (fun _ => True) (trivial)
        (first
          | (go_at_call 18; refine (HEH.out _ hW2).mono ?_; rintro e w7 ⟨rfl, hb3⟩; replace hW2 := below_then hW2 hW2.size hb3)
          | (go_at_call 16; refine (HROH.out _ hW2).mono ?_; rintro e w7 ⟨rfl, hb3⟩; replace hW2 := below_then hW2 hW2.size hb3))
      all_goals
        have hBF := below_then hB6 hB6.size hW2
        go_wp2
        go_ret
        exact ⟨rfl, hBF⟩

end Go.Proofs.Ytmmeiclclapmfaa
