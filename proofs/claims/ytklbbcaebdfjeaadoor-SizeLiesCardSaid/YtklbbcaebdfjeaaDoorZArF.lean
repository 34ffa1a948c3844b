/-
  Package size: Around.
  Conditions: the package's table of sizes is as it was laid; the ranges of Go's types.
-/
import Derived.Test.YtklbbcaebdfjeaaDoorZLeast
namespace Go.Proofs.YtklbbcaebdfjeaaDoor
open Go.RowKit Go.Shelf
attribute [local go_sem] Oper.semAt_some

theorem around_c (a c : Int) (W : World) : Calls Tryd.prog 42 #[blkV a c] W fun e w' => e = .returned (.func (.func 47) #[] #[.pointer (some ⟨W.heap.size, 0, none⟩)]) ∧ w' = W.alloc (.cells #[.int .i64 a, .int .i64 c] 33) := by
  go_enter Tryd.func42, Tryd.ntmps42
  go_wp2
  go_ret
  exact ⟨rfl, rfl⟩

/-- What Around answers. -/
def aroundA (a c' : Int) (c : Int) : Int × Int × Int := if mayB a c' = true then (if (arA a.toNat c'.toNat c).2.2 = true then ((arA a.toNat c'.toNat c).1, (arA a.toNat c'.toNat c).2.1, 0) else (0, 0, 2)) else (0, 0, 180)
set_option maxRecDepth 100000 in
set_option maxHeartbeats 4000000 in
theorem aroundF_c (a c' c : Int) (ha : I64 a) (W : World) (hT : Tab W) : Calls Tryd.prog 27 #[blkV a c', .int .i64 c] W fun e w' => e = .returned (placeV (aroundA a c' c)) ∧ Below W.heap.size W w' := by
  obtain ⟨w1, hw1⟩ : ∃ X : World, X = ((W.alloc (.cells #[.int .i64 a, .int .i64 c'] 33)).alloc (.cells #[.int .i64 c] 3)).alloc (.cells #[.int .i64 0, .int .i64 0] 33) := ⟨_, rfl⟩
  have hb : Below W.heap.size W w1 := by rw [hw1]; exact (((Below.refl _ _).alloc (Nat.le_refl _) _).alloc (by simp) _).alloc (by simp; omega) _
  have hX0 : BBox w1 W.heap.size a c' := by rw [hw1]; exact ((BBox.new _ _ _).alloc _).alloc _
  have hX1 : Boxed w1 (W.heap.size + 1) 3 (.int .i64 c) := by rw [hw1]; have := (Boxed.new (W.alloc (.cells #[.int .i64 a, .int .i64 c'] 33)) 3 (.int .i64 c)).alloc (.cells #[.int .i64 0, .int .i64 0] 33); simpa using this
  have hX2 : BBox w1 (W.heap.size + 1 + 1) 0 0 := by rw [hw1]; have := BBox.new ((W.alloc (.cells #[.int .i64 a, .int .i64 c'] 33)).alloc (.cells #[.int .i64 c] 3)) 0 0; simpa using this
  have hT1 := hT.below hb
  have HM := Lib.hid (may_c a c' ha w1 hT1)
  have HB := Lib.hid hb
  obtain ⟨c0, c1⟩ := hX0.cells
  rw [hw1] at c0 c1
  obtain ⟨A, hA⟩ : ∃ A, A = aroundA a c' c := ⟨_, rfl⟩
  rw [← hA]
  have HA := Lib.hid hA
  have HX := Lib.hid (And.intro hX0 (And.intro hX1 hX2))
  clear hA hX0 hX1 hX2 hb hT
  cases hI : mayB a c' with
  | false =>
    rw [hI] at HM
    obtain rfl : A = (0, 0, 180) := by rw [HA.out]; unfold aroundA; rw [hI]; rfl
    clear HA hT1
    go_enter Tryd.func27, Tryd.ntmps27
    go_wp2_with fail
    rw [← hw1]
    clear hw1 c0 c1
    refine HM.out.mono ?_
    rintro e w2 ⟨rfl, hb2⟩
    have hY2 := HX.out.2.2.below hb2
    have HB2 := Lib.hid ((below_then HB.out HB.out.size hb2).trans (below_put2 w2 (W.heap.size + 1 + 1) (by omega) (.int .i64 0) (.int .i64 0)))
    obtain ⟨r0, r1⟩ := (hY2.put 0 0).cells
    obtain ⟨d0, d1⟩ := hY2.cells
    obtain ⟨f0, f1⟩ := hY2.free
    clear HM hb2 hY2 HX HB
    go_wp2
    generalize World.setCell _ ⟨W.heap.size + 1 + 1, 1, none⟩ _ = w3 at *
    exact bodyPost_ret (v := placeV (0, 0, 180)) (by simp [results, Tryd.results27, go_sem, r0, r1]) rfl ⟨rfl, HB2.out⟩
  | true =>
    rw [hI] at HM
    obtain ⟨k, n, rfl, hk, rfl, hn, -⟩ := mayB_yes hI
    have HA2 := Lib.hid (show A = if (arA n k c).2.2 = true then ((arA n k c).1, (arA n k c).2.1, 0) else (0, 0, 2) by rw [HA.out]; unfold aroundA; rw [if_pos hI, Int.toNat_natCast, Int.toNat_natCast])
    have hn4 : n ≤ 4096 := by omega
    clear HA hn
    generalize hR : arA n k c = R at *
    go_enter Tryd.func27, Tryd.ntmps27
    go_wp2_with fail
    rw [← hw1]
    clear hw1 c0 c1
    refine HM.out.mono ?_
    rintro e w2 ⟨rfl, hb2⟩
    have HT2 := Lib.hid (hT1.below hb2)
    have HX2 := Lib.hid (And.intro (HX.out.1.below hb2) (And.intro (boxed_below HX.out.2.1 hb2) (HX.out.2.2.below hb2)))
    have HB2 := Lib.hid (below_then HB.out HB.out.size hb2)
    have hsz : W.heap.size + 1 + 1 < w2.heap.size := HX2.out.2.2.lt
    obtain ⟨c0, c1⟩ := HX2.out.1.cells
    clear HM hb2 HX HB hT1
    go_wp2_with fail
    refine (around_c n k w2).mono ?_
    rintro e w3 ⟨rfl, hw3⟩
    have hb3 : Below w2.heap.size w2 w3 := by rw [hw3]; exact (Below.refl _ _).alloc (Nat.le_refl _) _
    have hbx3 : BBox w3 w2.heap.size n k := by rw [hw3]; exact BBox.new _ _ _
    have HL := Lib.hid (leastB_c n k hn4 hk c w2.heap.size (W.heap.size + 1) w3 (HT2.out.below hb3) hbx3 (below_cell hb3 HX2.out.2.1.cell))
    rw [hR] at HL
    have HX3 := Lib.hid (HX2.out.2.2.below hb3)
    have HB3 := Lib.hid (below_then HB2.out HB2.out.size hb3)
    clear hw3 hb3 hbx3 HX2 HB2 HT2 c0 c1 hsz hR
    go_wp2_with fail
    refine HL.out.mono ?_
    rintro e w4 ⟨rfl, hb4⟩
    obtain ⟨r0, r1, r2⟩ := R
    dsimp only at HA2 ⊢
    have hY := HX3.out.below hb4
    have hB4 := below_then HB3.out HB3.out.size hb4
    obtain ⟨w5, hw5⟩ : ∃ X : World, X = w4.alloc (.cells #[.int .i64 r0, .int .i64 r1] 33) := ⟨_, rfl⟩
    have hY5 : BBox w5 (W.heap.size + 1 + 1) 0 0 := by rw [hw5]; exact hY.alloc _
    have hN5 : BBox w5 w4.heap.size r0 r1 := by rw [hw5]; exact BBox.new _ _ _
    have hB5 : Below W.heap.size W w5 := by rw [hw5]; exact hB4.alloc hB4.size _
    obtain ⟨d0, d1⟩ := hY5.cells
    obtain ⟨n0, n1⟩ := hN5.cells
    obtain ⟨f0, f1⟩ := hY5.free
    clear HL HX3 HB3 hb4 hY hB4 hN5
    cases r2 with
    | true =>
      obtain rfl : A = (r0, r1, 0) := by rw [HA2.out]; rfl
      have HB6 := Lib.hid (hB5.trans (below_put2 w5 (W.heap.size + 1 + 1) (by omega) (.int .i64 r0) (.int .i64 r1)))
      obtain ⟨q0, q1⟩ := (hY5.put r0 r1).cells
      clear HA2 hB5 hY5
      rw [hw5] at d0 d1 n0 n1 f0 f1
      go_wp2
      rw [← hw5]
      generalize World.setCell _ ⟨W.heap.size + 1 + 1, 1, none⟩ _ = w6 at *
      exact bodyPost_ret (v := placeV (r0, r1, 0)) (by simp [results, Tryd.results27, go_sem, q0, q1]) rfl ⟨rfl, HB6.out⟩
    | false =>
      obtain rfl : A = (0, 0, 2) := by rw [HA2.out]; rfl
      have HB6 := Lib.hid (hB5.trans (below_put2 w5 (W.heap.size + 1 + 1) (by omega) (.int .i64 0) (.int .i64 0)))
      obtain ⟨q0, q1⟩ := (hY5.put 0 0).cells
      clear HA2 hB5 hY5
      rw [hw5] at d0 d1 n0 n1 f0 f1
      go_wp2
      rw [← hw5]
      generalize World.setCell _ ⟨W.heap.size + 1 + 1, 1, none⟩ _ = w6 at *
      exact bodyPost_ret (v := placeV (0, 0, 2)) (by simp [results, Tryd.results27, go_sem, q0, q1]) rfl ⟨rfl, HB6.out⟩

end Go.Proofs.YtklbbcaebdfjeaaDoor
