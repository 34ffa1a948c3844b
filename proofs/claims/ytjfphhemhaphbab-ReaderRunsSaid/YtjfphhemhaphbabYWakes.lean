/-
  The first test of the statements of layer 11: it is passed.
  Conditions: none.
-/
import Derived.Test.YtjfphhemhaphbabYWakeL
namespace Go.Proofs.Ytjfphhemhaphbab
set_option maxRecDepth 100000
open Go.RowKit Go.Shelf
attribute [local go_sem] Oper.semAt_some

theorem Two.open {now : Int} {ns os : List Int} {a : Value} {w : World} (h : Two now ns os a w) : ∃ g h : Nat, a = .agg #[.int .i64 now, .slice (some ⟨g, 0, none⟩) 2 2, .slice (some ⟨h, 0, none⟩) 2 2] ∧ Hid (Reads ⟨now, ns, os⟩ (.slice (some ⟨g, 0, none⟩) 2 2) (.slice (some ⟨h, 0, none⟩) 2 2) w) := h
/-- A box with readers, and its rows. -/
def BoxR (b : Nat) (s : RdS) (g h : Nat) (w : World) : Prop := RBox w b s.now (.slice (some ⟨g, 0, none⟩) 2 2) (.slice (some ⟨h, 0, none⟩) 2 2) ∧ Reads s (.slice (some ⟨g, 0, none⟩) 2 2) (.slice (some ⟨h, 0, none⟩) 2 2) w
theorem BoxR.below {b : Nat} {s : RdS} {g h : Nat} {w w' : World} (k : BoxR b s g h w) (hb : Below w.heap.size w w') : BoxR b s g h w' := ⟨k.1.below hb, k.2.below hb⟩

set_option maxHeartbeats 16000000 in
theorem wakes_c (W : World) : Calls Try.prog 6 #[] W fun e w' => e = .returned (.bool true) ∧ Below W.heap.size W w' := by
  have HNEW := Lib.hid (new2_c W)
  go_enter Try.func6, Try.ntmps6
  go_wp2_with fail
  (with_reducible refine HNEW.out.mono ?_)
  rintro e w1 ⟨⟨a, rfl, ha⟩, hb1⟩
  obtain ⟨g1, h1, rfl, HR1⟩ := ha.open
  obtain ⟨b1, hbb1⟩ : ∃ b, b = w1.heap.size := ⟨_, rfl⟩
  obtain ⟨w2, hw2⟩ : ∃ X : World, X = w1.alloc (.cells #[.int .i64 0, .slice (some ⟨g1, 0, none⟩) 2 2, .slice (some ⟨h1, 0, none⟩) 2 2] 24) := ⟨_, rfl⟩
  have hbx2 : Below w1.heap.size w1 w2 := by rw [hw2]; exact below1 _ _
  have HX2 := Lib.hid (show BoxR b1 ⟨0, [0, 0], [0, 0]⟩ g1 h1 w2 from ⟨by rw [hw2, hbb1]; exact RBox.new _ _ _ _, HR1.out.below hbx2⟩)
  have HB2 := Lib.hid (below_then hb1 hb1.size hbx2)
  have HW2 := Lib.hid (And.intro hbb1 hw2)
  clear ha hb1 hbb1 hw2 hbx2 HNEW HR1
  obtain ⟨d0, d1, d2⟩ := HX2.out.1.cells
  simp only at d0 d1 d2
  go_upto_region 2 with fail
  rw [← HW2.out.2, ← HW2.out.1]
  obtain ⟨w3, hw3⟩ : ∃ X : World, X = w2.alloc (.cells #[.int .i64 0, .bool true, .int .i64 1, .bool true, .int .i64 0, .bool true, .int .i64 0, .bool false] 33) := ⟨_, rfl⟩
  have hb23 : Below w2.heap.size w2 w3 := by rw [hw3]; exact below1 _ _
  have hl3 : RgsAt w3 (.slice (some ⟨w2.heap.size, 0, none⟩) 4 4) [(0, true), (1, true), (0, true), (0, false)] := ⟨_, _, rfl, fun _ => ⟨_, _, rfl, fun i hi => by
    have h : w3.heap[w2.heap.size]? = some (.cells #[.int .i64 0, .bool true, .int .i64 1, .bool true, .int .i64 0, .bool true, .int .i64 0, .bool false] 33 (0, 0)) := by rw [hw3]; exact World.alloc_heap_new _ _
    have hi4 : i < 4 := by simpa using hi
    have : i = 0 ∨ i = 1 ∨ i = 2 ∨ i = 3 := by omega
    rcases this with rfl | rfl | rfl | rfl <;> simp [World.cell?, h]⟩⟩
  have HX3 := Lib.hid (HX2.out.below hb23)
  have HB3 := Lib.hid (below_then HB2.out HB2.out.size hb23)
  have HRUN := Lib.hid (wk_run _ _ _ w3 HX3.out.2 hl3)
  have HW3 := Lib.hid hw3
  clear hw3 hb23 hl3 HX2 HB2 HW2
  go_wp2_with fail
  rw [← HW3.out]
  clear d0 d1 d2 HW3
  (with_reducible refine HRUN.out.mono ?_)
  rintro e w4 ⟨⟨a, rfl, ha⟩, hb4⟩
  obtain ⟨g2, h2, rfl, HR4⟩ := ha.open
  obtain ⟨b2, hbb2⟩ : ∃ b, b = w4.heap.size := ⟨_, rfl⟩
  obtain ⟨w5, hw5⟩ : ∃ X : World, X = w4.alloc (.cells #[.int .i64 4, .slice (some ⟨g2, 0, none⟩) 2 2, .slice (some ⟨h2, 0, none⟩) 2 2] 24) := ⟨_, rfl⟩
  have hbx5 : Below w4.heap.size w4 w5 := by rw [hw5]; exact below1 _ _
  have HA5 := Lib.hid (show BoxR b2 ⟨4, [1, 1], [1, 2]⟩ g2 h2 w5 from ⟨by rw [hw5, hbb2]; exact RBox.new _ _ _ _, HR4.out.below hbx5⟩)
  have hB4 := below_then HB3.out HB3.out.size hb4
  have HB5 := Lib.hid (below_then hB4 hB4.size hbx5)
  have HW5 := Lib.hid (And.intro hbb2 hw5)
  clear ha hb4 hbb2 hw5 hbx5 HRUN HR4 HX3 HB3 hB4
  obtain ⟨d0, d1, d2⟩ := HA5.out.1.cells
  simp only at d0 d1 d2
  go_upto_region 3 with fail
  rw [← HW5.out.2, ← HW5.out.1]
  clear HW5
  have HC := Lib.hid (wk_oldest _ _ w5 HA5.out.2)
  go_wp2_with fail
  (with_reducible refine HC.out.mono ?_)
  rintro e w6 ⟨rfl, hb6⟩
  have HA6 := Lib.hid (HA5.out.below hb6)
  have HB6 := Lib.hid (below_then HB5.out HB5.out.size hb6)
  clear HA5 HB5 hb6 d0 d1 d2 HC
  obtain ⟨d0, d1, d2⟩ := HA6.out.1.cells
  simp only at d0 d1 d2
  have HC := Lib.hid (wk_leave _ _ w6 HA6.out.2)
  go_wp2_with fail
  (with_reducible refine HC.out.mono ?_)
  rintro e w7 ⟨⟨a, rfl, ha⟩, hb7⟩
  obtain ⟨g3, h3, rfl, HR7⟩ := ha.open
  obtain ⟨b3, hbb3⟩ : ∃ b, b = w7.heap.size := ⟨_, rfl⟩
  obtain ⟨w8, hw8⟩ : ∃ X : World, X = w7.alloc (.cells #[.int .i64 5, .slice (some ⟨g3, 0, none⟩) 2 2, .slice (some ⟨h3, 0, none⟩) 2 2] 24) := ⟨_, rfl⟩
  have hbx8 : Below w7.heap.size w7 w8 := by rw [hw8]; exact below1 _ _
  have HA8 := Lib.hid ((HA6.out.below hb7).below hbx8)
  have HE8 := Lib.hid (show BoxR b3 ⟨5, [0, 1], [0, 2]⟩ g3 h3 w8 from ⟨by rw [hw8, hbb3]; exact RBox.new _ _ _ _, HR7.out.below hbx8⟩)
  have hB7 := below_then HB6.out HB6.out.size hb7
  have HB8 := Lib.hid (below_then hB7 hB7.size hbx8)
  have HW8 := Lib.hid (And.intro hbb3 hw8)
  clear ha hb7 hbb3 hw8 hbx8 HR7 HA6 HB6 hB7 HC d0 d1 d2
  obtain ⟨d0, d1, d2⟩ := HE8.out.1.cells
  simp only at d0 d1 d2
  go_upto_region 5 with fail
  rw [← HW8.out.2, ← HW8.out.1]
  clear HW8
  have HC := Lib.hid (wk_leave2 _ _ w8 HE8.out.2)
  go_wp2_with fail
  (with_reducible refine HC.out.mono ?_)
  rintro e w9 ⟨rfl, hb9⟩
  obtain ⟨w10, hw10⟩ : ∃ X : World, X = w9.alloc (.cells #[.int .i64 0, .slice none 0 0, .slice none 0 0] 24) := ⟨_, rfl⟩
  have hbx10 : Below w9.heap.size w9 w10 := by rw [hw10]; exact below1 _ _
  have HA10 := Lib.hid ((HA8.out.below hb9).below hbx10)
  have HE10 := Lib.hid ((HE8.out.below hb9).below hbx10)
  have hB9 := below_then HB8.out HB8.out.size hb9
  have HB10 := Lib.hid (below_then hB9 hB9.size hbx10)
  have HW10 := Lib.hid hw10
  unfold zeroR
  clear hb9 hw10 hbx10 HA8 HE8 HB8 hB9 HC d0 d1 d2
  go_upto_region 6 with fail
  rw [← HW10.out]
  clear HW10
  obtain ⟨d0, d1, d2⟩ := HA10.out.1.cells
  simp only at d0 d1 d2
  obtain ⟨w11, hw11⟩ : ∃ X : World, X = w10.alloc (.cells #[.int .i64 1, .int .i64 2] 3) := ⟨_, rfl⟩
  have hbx11 : Below w10.heap.size w10 w11 := by rw [hw11]; exact below1 _ _
  have HA11 := Lib.hid (HA10.out.below hbx11)
  have HE11 := Lib.hid (HE10.out.below hbx11)
  have HB11 := Lib.hid (below_then HB10.out HB10.out.size hbx11)
  have HC := Lib.hid (equalI_c _ (.slice (some ⟨w10.heap.size, 0, none⟩) 2 2) [1, 2] [1, 2] w11 HA11.out.2.2 (IBlock.nums (ns := [1, 2]) (by rw [hw11]; exact World.alloc_heap_new _ _)) (by decide) (by decide))
  rw [show decide ([1, 2] = ([1, 2] : List Int)) = true by decide] at HC
  have HW11 := Lib.hid hw11
  clear hw11 hbx11 HA10 HE10 HB10
  go_wp2_with fail
  rw [← HW11.out]
  clear HW11
  (with_reducible refine HC.out.mono ?_)
  rintro e w12 ⟨rfl, hb12⟩
  have HA12 := Lib.hid (HA11.out.below hb12)
  have HE12 := Lib.hid (HE11.out.below hb12)
  have HB12 := Lib.hid (below_then HB11.out HB11.out.size hb12)
  clear hb12 HA11 HE11 HB11 HC d0 d1 d2
  obtain ⟨d0, d1, d2⟩ := HA12.out.1.cells
  simp only at d0 d1 d2
  have HC := Lib.hid (passed_c ⟨4, [1, 1], [1, 2]⟩ _ _ 0 w12 HA12.out.2.1 HA12.out.2.2 (by decide) (by decide) (i64s (by decide)))
  rw [show (mayB 4 [1, 1] [1, 2] && passB 4 (oldM (secs ([1, 1].zip [1, 2]))) 0) = true by decide] at HC
  go_wp2_with fail
  (with_reducible refine HC.out.mono ?_)
  rintro e w13 ⟨rfl, hb13⟩
  have HA13 := Lib.hid (HA12.out.below hb13)
  have HE13 := Lib.hid (HE12.out.below hb13)
  have HB13 := Lib.hid (below_then HB12.out HB12.out.size hb13)
  clear hb13 HA12 HE12 HB12 HC d0 d1 d2
  obtain ⟨d0, d1, d2⟩ := HA13.out.1.cells
  simp only at d0 d1 d2
  have HC := Lib.hid (passed_c ⟨4, [1, 1], [1, 2]⟩ _ _ 1 w13 HA13.out.2.1 HA13.out.2.2 (by decide) (by decide) (i64s (by decide)))
  rw [show (mayB 4 [1, 1] [1, 2] && passB 4 (oldM (secs ([1, 1].zip [1, 2]))) 1) = false by decide] at HC
  go_wp2_with fail
  (with_reducible refine HC.out.mono ?_)
  rintro e w14 ⟨rfl, hb14⟩
  have HA14 := Lib.hid (HA13.out.below hb14)
  have HE14 := Lib.hid (HE13.out.below hb14)
  have HB14 := Lib.hid (below_then HB13.out HB13.out.size hb14)
  clear hb14 HA13 HE13 HB13 HC d0 d1 d2
  obtain ⟨d0, d1, d2⟩ := HE14.out.1.cells
  simp only at d0 d1 d2
  have HC := Lib.hid (passed_c ⟨5, [0, 1], [0, 2]⟩ _ _ 1 w14 HE14.out.2.1 HE14.out.2.2 (by decide) (by decide) (i64s (by decide)))
  rw [show (mayB 5 [0, 1] [0, 2] && passB 5 (oldM (secs ([0, 1].zip [0, 2]))) 1) = true by decide] at HC
  go_wp2_with fail
  (with_reducible refine HC.out.mono ?_)
  rintro e w15 ⟨rfl, hb15⟩
  have HA15 := Lib.hid (HA14.out.below hb15)
  have HE15 := Lib.hid (HE14.out.below hb15)
  have HB15 := Lib.hid (below_then HB14.out HB14.out.size hb15)
  clear hb15 HA14 HE14 HB14 HC d0 d1 d2
  obtain ⟨d0, d1, d2⟩ := HE15.out.1.cells
  simp only at d0 d1 d2
  have HC := Lib.hid (passed_c ⟨5, [0, 1], [0, 2]⟩ _ _ 2 w15 HE15.out.2.1 HE15.out.2.2 (by decide) (by decide) (i64s (by decide)))
  rw [show (mayB 5 [0, 1] [0, 2] && passB 5 (oldM (secs ([0, 1].zip [0, 2]))) 2) = false by decide] at HC
  go_wp2_with fail
  (with_reducible refine HC.out.mono ?_)
  rintro e w16 ⟨rfl, hb16⟩
  have HA16 := Lib.hid (HA15.out.below hb16)
  have HE16 := Lib.hid (HE15.out.below hb16)
  have HB16 := Lib.hid (below_then HB15.out HB15.out.size hb16)
  clear hb16 HA15 HE15 HB15 HC d0 d1 d2
  obtain ⟨d0, d1, d2⟩ := HE16.out.1.cells
  simp only at d0 d1 d2
  have HC := Lib.hid (quiet_c ⟨5, [0, 1], [0, 2]⟩ _ _ 0 w16 HE16.out.2.1 HE16.out.2.2 (by decide) (by decide) (i64s (by decide)))
  rw [show quietB ⟨5, [0, 1], [0, 2]⟩ 0 = true by decide] at HC
  go_wp2_with fail
  (with_reducible refine HC.out.mono ?_)
  rintro e w17 ⟨rfl, hb17⟩
  have HB17 := Lib.hid (below_then HB16.out HB16.out.size hb17)
  clear hb17 HA16 HE16 HB16 HC d0 d1 d2
  go_wp2
  go_ret
  exact ⟨rfl, HB17.out⟩

end Go.Proofs.Ytjfphhemhaphbab
