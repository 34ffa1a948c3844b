/-
  wakes, the first test of the statements of layer 8, returns true; what was in memory stays.
  Conditions: the package's table of sizes is as it was laid.
-/
import Derived.Test.YtklbbcaebdfjeaaDoorZArF
import Derived.Test.YtklbbcaebdfjeaaDoorZPartsF
import Derived.Test.YtklbbcaebdfjeaaDoorZOver
namespace Go.Proofs.YtklbbcaebdfjeaaDoor
open Go.RowKit Go.Shelf
attribute [local go_sem] Oper.semAt_some

theorem run_cmp_blk (a c a' c' : Int) (w : World) : (Op.equalIn 10000 33 (.agg #[.int .i64 a, .int .i64 c]) (.agg #[.int .i64 a', .int .i64 c'])).run Tryd.prog w = .ok (decide (a = a' ∧ c = c')) w := by
  rw [Op.equalIn]
  have hst : Tryd.prog.stoodInHeld 33 = false := by kernel_rfl
  have hpr : ∀ w, Sem.run Tryd.prog program w = .ok Tryd.prog w := fun _ => rfl
  simp only [Sem.run_bind, run_underlying Tryd.underlying33, Result.andThen_ok, hpr, hst, Bool.false_eq_true, if_false]
  have p0 : ∀ (a c : Int) w, (part 3 #[.int .i64 a, .int .i64 c] 0).run Tryd.prog w = .ok (.int .i64 a) w := fun a c w => by kernel_rfl
  have p1 : ∀ (a c : Int) w, (part 3 #[.int .i64 a, .int .i64 c] 1).run Tryd.prog w = .ok (.int .i64 c) w := fun a c w => by kernel_rfl
  have e0 : ∀ (p q : Int) w, (Op.equalIn 9999 3 (.int .i64 p) (.int .i64 q)).run Tryd.prog w = .ok (p == q) w := fun p q w => by rw [run_equalIn_int w 9998 3 .i64 .i64 p q Tryd.underlying3]
  simp [Sem.run_bind, Result.andThen_ok, p0, p1, e0]
  clear p0 p1 e0 hst hpr
  by_cases h0 : a = a' <;> by_cases h1 : c = c' <;> simp [*]
theorem run_neq_blk (a c a' c' : Int) (w : World) : (binOp .neq 33 (.agg #[.int .i64 a, .int .i64 c]) (.agg #[.int .i64 a', .int .i64 c'])).run Tryd.prog w = .ok (.bool (!decide (a = a' ∧ c = c'))) w := by
  rw [run_neq_struct]
  have := run_cmp_blk a c a' c' w
  simp [this]
theorem run_eql_blk (a c a' c' : Int) (w : World) : (binOp .eql 33 (.agg #[.int .i64 a, .int .i64 c]) (.agg #[.int .i64 a', .int .i64 c'])).run Tryd.prog w = .ok (.bool (decide (a = a' ∧ c = c'))) w := by
  rw [run_eql_struct]
  have := run_cmp_blk a c a' c' w
  simp [this]

theorem i64_lit {x : Int} (h : -4096 ≤ x ∧ x ≤ 4096) : I64 x := by unfold I64; omega
set_option maxRecDepth 100000 in
set_option maxHeartbeats 8000000 in
theorem wakes_c (W : World) (hT : Tab W) : Calls Tryd.prog 10 #[] W fun e w' => e = .returned (.bool true) ∧ Below W.heap.size W w' := by
  have HC := Lib.hid (class_c 3 (i64_lit (by decide)) W hT)
  rw [show classA 3 = (1, 0) by decide] at HC
  have HT := Lib.hid hT
  clear hT
  go_enter Tryd.func10, Tryd.ntmps10
  go_wp2_with fail
  refine HC.out.mono ?_
  rintro e w1 ⟨rfl, hb1⟩
  have HT1 := Lib.hid (HT.out.below hb1)
  have HP := Lib.hid (place_c 1 2 3 (i64_lit (by decide)) (i64_lit (by decide)) w1 HT1.out)
  rw [show placeA 1 2 3 = (44, 1, 0) by decide] at HP
  have HB1 := Lib.hid hb1
  clear HC HT hb1
  dsimp only
  go_wp2_with fail
  refine HP.out.mono ?_
  rintro e w2 ⟨rfl, hb2⟩
  obtain ⟨w3, hw3⟩ : ∃ X : World, X = w2.alloc (.cells #[.int .i64 44, .int .i64 1] 33) := ⟨_, rfl⟩
  have hb3 : Below w2.heap.size w2 w3 := by rw [hw3]; exact (Below.refl _ _).alloc (Nat.le_refl _) _
  have hX3 : BBox w3 w2.heap.size 44 1 := by rw [hw3]; exact BBox.new _ _ _
  have HT3 := Lib.hid ((HT1.out.below hb2).below hb3)
  have HF := Lib.hid (find_c 44 1 (i64_lit (by decide)) w3 HT3.out)
  rw [show findV 44 1 = .tuple #[.int .i64 2, .int .i64 3, .int .i64 0] by unfold findV; rw [if_pos (by decide)]; rfl] at HF
  have HB3 := Lib.hid (below_then (below_then HB1.out HB1.out.size hb2) (Nat.le_trans HB1.out.size hb2.size) hb3)
  have HX3 := Lib.hid hX3
  obtain ⟨z, hz⟩ : ∃ z, z = w2.heap.size := ⟨_, rfl⟩
  rw [← hz] at HX3
  have HZ := Lib.hid hz
  obtain ⟨c0, c1⟩ := hX3.cells
  rw [hw3] at c0 c1
  clear hb2 hb3 hX3 HB1 HT1 HP hz
  dsimp only
  go_wp2_with fail
  rw [← hw3, ← HZ.out]
  clear hw3 c0 c1 HZ
  refine HF.out.mono ?_
  rintro e w4 ⟨rfl, hb4⟩
  have HT4 := Lib.hid (HT3.out.below hb4)
  have HB4 := Lib.hid (below_then HB3.out HB3.out.size hb4)
  have HX4 := Lib.hid (HX3.out.below hb4)
  have HC := Lib.hid (class_c 17 (i64_lit (by decide)) w4 HT4.out)
  rw [show classA 17 = (0, 3) by decide] at HC
  clear HF HT3 HB3 HX3 hb4
  dsimp only
  go_wp2_with fail
  refine HC.out.mono ?_
  rintro e w5 ⟨rfl, hb5⟩
  have HT5 := Lib.hid (HT4.out.below hb5)
  have HB5 := Lib.hid (below_then HB4.out HB4.out.size hb5)
  have HX5 := Lib.hid (HX4.out.below hb5)
  have HP := Lib.hid (parts_c 8 2 1 (i64_lit (by decide)) w5 HT5.out)
  clear HC HT4 HB4 HX4 hb5
  dsimp only
  go_wp2_with fail
  refine HP.out.mono ?_
  rintro e w6 ⟨hp, hb6⟩
  unfold PartsPost at hp
  rw [if_pos (by decide), if_pos (by decide), if_pos (by decide)] at hp
  obtain ⟨v, rfl, ho⟩ := hp
  obtain ⟨g, cap, rfl⟩ := ownsRow_succ (k := 1) ho
  have HT6 := Lib.hid (HT5.out.below hb6)
  have HB6 := Lib.hid (below_then HB5.out HB5.out.size hb6)
  obtain ⟨c0, c1⟩ := (HX5.out.below hb6).cells
  have HO := Lib.hid (over_c 0 3 12 1 (i64_lit (by decide)) (i64_lit (by decide)) w6 HT6.out)
  rw [show ovB 0 3 12 1 = true by decide] at HO
  have hq := run_eql_blk 44 1 44 1
  rw [show decide ((44 : Int) = 44 ∧ (1 : Int) = 1) = true by decide] at hq
  clear HP HT5 HB5 HX5 hb6 ho
  go_wp2_with fail
  refine HO.out.mono ?_
  rintro e w7 ⟨rfl, hb7⟩
  have HB7 := Lib.hid (below_then HB6.out HB6.out.size hb7)
  clear hb7 HO
  go_wp2
  go_ret
  exact ⟨rfl, HB7.out⟩

end Go.Proofs.YtklbbcaebdfjeaaDoor
