/-
  SchedMends returns true for every number of CPUs, k, and row of wishes; what was in memory stays.
  Conditions: the row reads as ints of 64 bits.
-/
import Derived.Test.YtmmeiclclapmfaaDMendR
namespace Go.Proofs.Ytmmeiclclapmfaa
open Go.RowKit Go.Shelf

theorem ri_none (w : World) : RI w none 0 0 [] := RI.of_owns (World.ownsRow_nil w w.heap.size 3 1)

set_option maxRecDepth 100000 in
set_option maxHeartbeats 8000000 in
theorem schedMends_walk (c k : Int) (p : Option Addr) (n d : Nat) (xs : List Int) (W : World) (h : RI W p n d xs) (hg : ∀ x ∈ xs, -9223372036854775808 ≤ x ∧ x ≤ 9223372036854775807) (hn : n ≤ 9223372036854775807) (hk2 : k ≤ 9223372036854775807) :
    Calls Try.prog 4 #[.int .i64 c, .int .i64 k, .slice p n d] W fun e w' => e = .returned (.bool true) ∧ Below W.heap.size W w' := by
  go_enter Try.func4, Try.ntmps4
  go_wp2_with fail
  refine (wakes_c _).mono ?_
  rintro e w1 ⟨rfl, hb1⟩
  go_wp2_with fail
  refine (few_c p n d xs w1 (h.below hb1) hn).mono ?_
  rintro e w2 ⟨⟨p1, d1, rfl, ho⟩, hb2⟩
  have R := RI.of_owns ho
  have hL60 : (xs.take 60).length ≤ 60 := by rw [List.length_take]; omega
  have HG := Lib.hid (show ∀ x ∈ xs.take 60, -9223372036854775808 ≤ x ∧ x ≤ 9223372036854775807 from fun x hx => hg x (List.mem_of_mem_take hx))
  have hB := below_then hb1 hb1.size hb2
  have HFEW := Lib.hid (show ∀ wx, Below W.heap.size W wx → Calls Try.prog 9 #[.slice p n d] wx fun e w' => GivesRow wx.heap.size (xs.take 60) e w' ∧ Below wx.heap.size wx w' from fun wx hb => few_c p n d xs wx (h.below hb) hn)
  clear hb1 hb2 ho h hg
  generalize xs.take 60 = L at *
  obtain ⟨m, hm⟩ : ∃ m, m = L.length := ⟨_, rfl⟩
  rw [← hm] at R hL60 ⊢
  have HM := Lib.hid hm
  clear hm
  have hm40 : m ≤ 1099511627776 := by omega
  cases hok : mayI c with
  | false =>
    have hout : ¬ (1 ≤ c ∧ c ≤ 8) := fun h => by rw [mayI_iff.2 h] at hok; cases hok
    have HN := mend_no c k p1 m d1 L w2 R hm40 hk2 HG.out hok
    clear hok
    go_wp2_with fail
    refine HN.mono ?_
    rintro e w3 ⟨rfl, hb3⟩
    have R3 := R.below hb3
    have hB3 := below_then hB hB.size hb3
    clear hb3 hB R HN
    by_cases hc1 : c < 1
    · clear hout
      go_wp2_with fail
      refine (equalW' none none 0 0 0 0 [] [] w3 (ri_none _) (ri_none _) (by decide) (by decide) true rfl).mono ?_
      rintro e w4 ⟨rfl, hb4⟩
      have R4 := R3.below hb4
      have hB4 := below_then hB3 hB3.size hb4
      clear hb4 hB3 R3
      go_wp2_with fail
      refine (HFEW.out _ hB4).mono ?_
      rintro e w14 ⟨⟨q14, d14, rfl, ho14⟩, hb14⟩
      rw [← HM.out] at ho14 ⊢
      have RF := RI.of_owns ho14
      have R14 := R4.below hb14
      have hB14 := below_then hB4 hB4.size hb14
      clear hb14 hB4 R4 ho14
      go_wp2_with fail
      refine (equalW' _ _ _ _ _ _ _ _ _ R14 RF (by omega) (by omega) true (by simp)).mono ?_
      rintro e w15 ⟨rfl, hb15⟩
      have hB15 := below_then hB14 hB14.size hb15
      clear hb15 hB14 R14 RF
      go_wp2
      go_ret
      exact ⟨rfl, hB15⟩
    · have hc9 : 8 < c := by omega
      clear hout
      go_wp2_with fail
      refine (equalW' none none 0 0 0 0 [] [] w3 (ri_none _) (ri_none _) (by decide) (by decide) true rfl).mono ?_
      rintro e w4 ⟨rfl, hb4⟩
      have R4 := R3.below hb4
      have hB4 := below_then hB3 hB3.size hb4
      clear hb4 hB3 R3
      go_wp2_with fail
      refine (HFEW.out _ hB4).mono ?_
      rintro e w14 ⟨⟨q14, d14, rfl, ho14⟩, hb14⟩
      rw [← HM.out] at ho14 ⊢
      have RF := RI.of_owns ho14
      have R14 := R4.below hb14
      have hB14 := below_then hB4 hB4.size hb14
      clear hb14 hB4 R4 ho14
      go_wp2_with fail
      refine (equalW' _ _ _ _ _ _ _ _ _ R14 RF (by omega) (by omega) true (by simp)).mono ?_
      rintro e w15 ⟨rfl, hb15⟩
      have hB15 := below_then hB14 hB14.size hb15
      clear hb15 hB14 R14 RF
      go_wp2
      go_ret
      exact ⟨rfl, hB15⟩
  | true =>
    obtain ⟨hc1, hc8⟩ := mayI_iff.1 hok
    by_cases hkc : k < c
    · have HN := mend_few c k p1 m d1 L w2 R hm40 hk2 HG.out hok hkc
      clear hok
      go_wp2_with fail
      refine HN.mono ?_
      rintro e w3 ⟨rfl, hb3⟩
      have R3 := R.below hb3
      have hB3 := below_then hB hB.size hb3
      clear hb3 hB R HN
      go_wp2_with fail
      refine (equalW' none none 0 0 0 0 [] [] w3 (ri_none _) (ri_none _) (by decide) (by decide) true rfl).mono ?_
      rintro e w4 ⟨rfl, hb4⟩
      have R4 := R3.below hb4
      have hB4 := below_then hB3 hB3.size hb4
      clear hb4 hB3 R3
      go_wp2_with fail
      refine (HFEW.out _ hB4).mono ?_
      rintro e w14 ⟨⟨q14, d14, rfl, ho14⟩, hb14⟩
      rw [← HM.out] at ho14 ⊢
      have RF := RI.of_owns ho14
      have R14 := R4.below hb14
      have hB14 := below_then hB4 hB4.size hb14
      clear hb14 hB4 R4 ho14
      go_wp2_with fail
      refine (equalW' _ _ _ _ _ _ _ _ _ R14 RF (by omega) (by omega) true (by simp)).mono ?_
      rintro e w15 ⟨rfl, hb15⟩
      have hB15 := below_then hB14 hB14.size hb15
      clear hb15 hB14 R14 RF
      go_wp2
      go_ret
      exact ⟨rfl, hB15⟩
    · have HN := mend_yes c k p1 m d1 L w2 R hm40 hk2 HG.out hok (by omega)
      obtain ⟨j, rfl⟩ := Int.eq_ofNat_of_zero_le (show 0 ≤ c by omega)
      rw [show ((j : Int)).toNat = j by omega] at HN
      have hj : 1 ≤ j ∧ j ≤ 8 := by omega
      have hjk : (j : Int) ≤ k := by omega
      clear hok
      go_wp2_with fail
      refine HN.mono ?_
      rintro e w3 ⟨⟨q3, r3, rfl, RG⟩, hb3⟩
      have R3 := R.below hb3
      have hB3 := below_then hB hB.size hb3
      clear hb3 hB R HN
      go_wp2_with fail
      refine (mendR_c j hj k hjk hk2 _ _ _ _ w3 R3 (by omega) HG.out).mono ?_
      rintro e w4 ⟨⟨q4, d4, rfl, ho4⟩, hb4⟩
      have hml : (mendL j k [] L).length = m := by rw [mendL_length, HM.out]; simp
      rw [hml] at ho4 ⊢
      have RW := RI.of_owns ho4
      have R4 := R3.below hb4
      have RG4 := RG.below hb4
      have hB4 := below_then hB3 hB3.size hb4
      clear hb4 hB3 R3 RG ho4 hml
      go_wp2_with fail
      refine (equalW' _ _ _ _ _ _ _ _ _ RG4 RW (by omega) (by omega) true (by simp)).mono ?_
      rintro e w5 ⟨rfl, hb5⟩
      have R5 := R4.below hb5
      have hB5 := below_then hB4 hB4.size hb5
      clear hb5 hB4 R4 RG4 RW
      go_wp2_with fail
      refine (HFEW.out _ hB5).mono ?_
      rintro e w14 ⟨⟨q14, d14, rfl, ho14⟩, hb14⟩
      rw [← HM.out] at ho14 ⊢
      have RF := RI.of_owns ho14
      have R14 := R5.below hb14
      have hB14 := below_then hB5 hB5.size hb14
      clear hb14 hB5 R5 ho14
      go_wp2_with fail
      refine (equalW' _ _ _ _ _ _ _ _ _ R14 RF (by omega) (by omega) true (by simp)).mono ?_
      rintro e w15 ⟨rfl, hb15⟩
      have hB15 := below_then hB14 hB14.size hb15
      clear hb15 hB14 R14 RF
      go_wp2
      go_ret
      exact ⟨rfl, hB15⟩

end Go.Proofs.Ytmmeiclclapmfaa
