/-
  SizeBack returns true for every block, and place; what was in memory stays.
  Conditions: the package's table of sizes is as it was laid; the ranges of Go's types.
-/
import Derived.Test.YtklbbcaebdfjeaaDoorZWakes
namespace Go.Proofs.YtklbbcaebdfjeaaDoor
open Go.RowKit Go.Shelf
attribute [local go_sem] Oper.semAt_some

theorem back_find {k n : Nat} (hk : k < 4) (hn : n + szN k ≤ 4096) (hm : n % szN k = 0) : placeA k ((n / 16 : Nat) : Int) ((n % 16 / szN k : Nat) : Int) = ((n : Int), (k : Int), 0) := by
  unfold placeA placeB
  rw [isB_nat hk, Bool.true_and, Int.toNat_natCast]
  have e0 : szN 0 = 2 := rfl
  have e1 : szN 1 = 4 := rfl
  have e2 : szN 2 = 8 := rfl
  have e3 : szN 3 = 16 := rfl
  rcases k with _ | _ | _ | _ | k
  · rw [e0] at *; rw [if_pos (by simp; omega), if_pos (by omega)]; refine Prod.ext ?_ rfl; show ((n / 16 : Nat) : Int) * 16 + ((n % 16 / 2 : Nat) : Int) * ((2 : Nat) : Int) = n; omega
  · rw [e1] at *; rw [if_pos (by simp; omega), if_pos (by omega)]; refine Prod.ext ?_ rfl; show ((n / 16 : Nat) : Int) * 16 + ((n % 16 / 4 : Nat) : Int) * ((4 : Nat) : Int) = n; omega
  · rw [e2] at *; rw [if_pos (by simp; omega), if_pos (by omega)]; refine Prod.ext ?_ rfl; show ((n / 16 : Nat) : Int) * 16 + ((n % 16 / 8 : Nat) : Int) * ((8 : Nat) : Int) = n; omega
  · rw [e3] at *; rw [if_pos (by simp; omega), if_pos (by omega)]; refine Prod.ext ?_ rfl; show ((n / 16 : Nat) : Int) * 16 + ((n % 16 / 16 : Nat) : Int) * ((16 : Nat) : Int) = n; omega
  · omega
/-- A place that there is: the block there may be, and lies there. -/
theorem back_place {c p n : Int} (h : placeB c p n = true) (hp : p < 256) : ∃ k m : Nat, c = k ∧ k < 4 ∧ p * 16 + n * (szN c.toNat : Int) = m ∧ m ≤ 4096 ∧ mayB m k = true ∧ findV m k = .tuple #[.int .i64 p, .int .i64 n, .int .i64 0] := by
  unfold placeB at h
  rw [Bool.and_eq_true] at h
  obtain ⟨k, rfl, hk⟩ := isB_yes h.1
  have h2 := of_decide_eq_true h.2
  rw [Int.toNat_natCast] at h2 ⊢
  obtain ⟨p, rfl⟩ := Int.eq_ofNat_of_zero_le h2.1
  obtain ⟨n, rfl⟩ := Int.eq_ofNat_of_zero_le h2.2.1
  have h3 := h2.2.2
  clear h h2
  have e0 : szN 0 = 2 := rfl
  have e1 : szN 1 = 4 := rfl
  have e2 : szN 2 = 8 := rfl
  have e3 : szN 3 = 16 := rfl
  refine ⟨k, p * 16 + n * szN k, rfl, hk, by rw [Int.natCast_add, Int.natCast_mul, Int.natCast_mul]; rfl, ?_⟩
  have key : p * 16 + n * szN k + szN k ≤ 4096 ∧ (p * 16 + n * szN k) % szN k = 0 ∧ (p * 16 + n * szN k) / 16 = p ∧ (p * 16 + n * szN k) % 16 / szN k = n := by
    rcases k with _ | _ | _ | _ | k
    · rw [e0] at *; omega
    · rw [e1] at *; omega
    · rw [e2] at *; omega
    · rw [e3] at *; omega
    · omega
  obtain ⟨k1, k2, k3, k4⟩ := key
  have hm : mayB ((p * 16 + n * szN k : Nat) : Int) (k : Int) = true := by rw [mayB_nat hk]; exact decide_eq_true ⟨k1, k2⟩
  refine ⟨by omega, hm, ?_⟩
  unfold findV
  rw [if_pos hm, Int.toNat_natCast, Int.toNat_natCast, k3, k4]
def TBox (w : World) (z : Nat) (x y t : Int) : Prop := w.heap[z]? = some (.cells #[.int .i64 x, .int .i64 y, .int .i64 t] 38 (0, 0))
theorem TBox.cells {w : World} {z : Nat} {x y t : Int} (h : TBox w z x y t) : w.cell? ⟨z, 0, none⟩ = some (.int .i64 x) ∧ w.cell? ⟨z, 1, none⟩ = some (.int .i64 y) ∧ w.cell? ⟨z, 2, none⟩ = some (.int .i64 t) := by
  unfold TBox at h
  simp [World.cell?, h]
theorem TBox.below {w w' : World} {z : Nat} {x y t : Int} (h : TBox w z x y t) (hb : Below w.heap.size w w') : TBox w' z x y t := (hb.block z (Array.getElem?_eq_some_iff.1 h).1).trans h

set_option maxRecDepth 100000 in
set_option maxHeartbeats 8000000 in
theorem back_0e2 (a c x y t : Int) (ha : I64 a) (hx : I64 x) (hy : I64 y) (ht : I64 t) (h1 : mayB a c = false) (h2 : placeB x y t = false) (W : World) (hT : Tab W) : Calls Tryd.prog 6 #[blkV a c, .agg #[.int .i64 x, .int .i64 y, .int .i64 t]] W fun e w' => e = .returned (.bool true) ∧ Below W.heap.size W w' := by
  obtain ⟨w1, hw1⟩ : ∃ X : World, X = (W.alloc (.cells #[.int .i64 a, .int .i64 c] 33)).alloc (.cells #[.int .i64 x, .int .i64 y, .int .i64 t] 38) := ⟨_, rfl⟩
  have hB1 : Below W.heap.size W w1 := by rw [hw1]; exact ((Below.refl _ _).alloc (Nat.le_refl _) _).alloc (by simp) _
  have hX0 : BBox w1 W.heap.size a c := by rw [hw1]; exact (BBox.new _ _ _).alloc _
  have hX1 : TBox w1 (W.heap.size + 1) x y t := by rw [hw1]; have := World.alloc_heap_new (W.alloc (.cells #[.int .i64 a, .int .i64 c] 33)) (.cells #[.int .i64 x, .int .i64 y, .int .i64 t] 38); simpa [TBox] using this
  obtain ⟨F, hFE⟩ : ∃ F : World → Prop, F = fun w => BBox w W.heap.size a c ∧ TBox w (W.heap.size + 1) x y t ∧ Tab w ∧ Below W.heap.size W w := ⟨_, rfl⟩
  have HFE := Lib.hid (show ∀ w, F w → BBox w W.heap.size a c ∧ TBox w (W.heap.size + 1) x y t ∧ Tab w ∧ Below W.heap.size W w from fun w h => by rw [hFE] at h; exact h)
  have HFB := Lib.hid (show ∀ w w', F w → Below w.heap.size w w' → F w' from fun w w' h hb => by
    rw [hFE] at h ⊢
    exact ⟨h.1.below hb, h.2.1.below hb, h.2.2.1.below hb, below_then h.2.2.2 h.2.2.2.size hb⟩)
  have hF : F w1 := by rw [hFE]; exact ⟨hX0, hX1, hT.below hB1, hB1⟩
  have HW := Lib.hid (wakes_c w1 (hT.below hB1))
  have HA := Lib.hid (And.intro ha (And.intro hx (And.intro hy ht)))
  clear hFE hX0 hX1 hT hB1 ha hx hy ht
  go_enter Tryd.func6, Tryd.ntmps6
  go_wp2_with fail
  rw [← hw1]
  clear hw1
  refine HW.out.mono ?_
  rintro e w2 ⟨rfl, hb⟩
  have hF := HFB.out _ _ hF hb
  clear HW hb
  obtain ⟨d0, d1⟩ := (HFE.out _ hF).1.cells
  have HF := Lib.hid (find_c a c HA.out.1 w2 (HFE.out _ hF).2.2.1)
  rw [show findV a c = .tuple #[.int .i64 0, .int .i64 0, .int .i64 180] by unfold findV; rw [h1]; rfl] at HF
  go_wp2_with fail
  refine HF.out.mono ?_
  rintro e w3 ⟨rfl, hb⟩
  have hF := HFB.out _ _ hF hb
  clear HF hb d0 d1
  dsimp only
  obtain ⟨t0, t1, t2⟩ := (HFE.out _ hF).2.1.cells
  go_wp2_with fail
  go_region
  clear t0 t1 t2
  have hF := HFB.out _ _ hF (Below.refl w3.heap.size w3).drew
  have HP := Lib.hid (place_c x y t HA.out.2.2.1 HA.out.2.2.2 _ (HFE.out _ hF).2.2.1)
  rw [show placeA x y t = (0, 0, 2) by unfold placeA; rw [h2]; rfl] at HP
  go_wp2_with fail
  refine HP.out.mono ?_
  rintro e w6 ⟨rfl, hb⟩
  have hF := HFB.out _ _ hF hb
  clear HP hb
  dsimp only
  have heq := run_eql_blk 0 0 0 0
  rw [show decide ((0 : Int) = 0 ∧ (0 : Int) = 0) = true by decide] at heq
  have HBE := Lib.hid ((HFE.out _ hF).2.2.2)
  have hB7 := HBE.out.alloc HBE.out.size (.cells #[.int .i64 0, .int .i64 0] 33)
  have HB7 := Lib.hid hB7
  clear hF hB7
  go_wp2
  go_ret
  exact ⟨rfl, HB7.out⟩

set_option maxRecDepth 100000 in
set_option maxHeartbeats 8000000 in
theorem back_0e3 (a c x y t : Int) (ha : I64 a) (hx : I64 x) (hy : I64 y) (ht : I64 t) (h1 : mayB a c = false) (h2 : placeB x y t = true) (h3 : ¬ y < 256) (W : World) (hT : Tab W) : Calls Tryd.prog 6 #[blkV a c, .agg #[.int .i64 x, .int .i64 y, .int .i64 t]] W fun e w' => e = .returned (.bool true) ∧ Below W.heap.size W w' := by
  obtain ⟨w1, hw1⟩ : ∃ X : World, X = (W.alloc (.cells #[.int .i64 a, .int .i64 c] 33)).alloc (.cells #[.int .i64 x, .int .i64 y, .int .i64 t] 38) := ⟨_, rfl⟩
  have hB1 : Below W.heap.size W w1 := by rw [hw1]; exact ((Below.refl _ _).alloc (Nat.le_refl _) _).alloc (by simp) _
  have hX0 : BBox w1 W.heap.size a c := by rw [hw1]; exact (BBox.new _ _ _).alloc _
  have hX1 : TBox w1 (W.heap.size + 1) x y t := by rw [hw1]; have := World.alloc_heap_new (W.alloc (.cells #[.int .i64 a, .int .i64 c] 33)) (.cells #[.int .i64 x, .int .i64 y, .int .i64 t] 38); simpa [TBox] using this
  obtain ⟨F, hFE⟩ : ∃ F : World → Prop, F = fun w => BBox w W.heap.size a c ∧ TBox w (W.heap.size + 1) x y t ∧ Tab w ∧ Below W.heap.size W w := ⟨_, rfl⟩
  have HFE := Lib.hid (show ∀ w, F w → BBox w W.heap.size a c ∧ TBox w (W.heap.size + 1) x y t ∧ Tab w ∧ Below W.heap.size W w from fun w h => by rw [hFE] at h; exact h)
  have HFB := Lib.hid (show ∀ w w', F w → Below w.heap.size w w' → F w' from fun w w' h hb => by
    rw [hFE] at h ⊢
    exact ⟨h.1.below hb, h.2.1.below hb, h.2.2.1.below hb, below_then h.2.2.2 h.2.2.2.size hb⟩)
  have hF : F w1 := by rw [hFE]; exact ⟨hX0, hX1, hT.below hB1, hB1⟩
  have HW := Lib.hid (wakes_c w1 (hT.below hB1))
  have HA := Lib.hid (And.intro ha (And.intro hx (And.intro hy ht)))
  clear hFE hX0 hX1 hT hB1 ha hx hy ht
  go_enter Tryd.func6, Tryd.ntmps6
  go_wp2_with fail
  rw [← hw1]
  clear hw1
  refine HW.out.mono ?_
  rintro e w2 ⟨rfl, hb⟩
  have hF := HFB.out _ _ hF hb
  clear HW hb
  obtain ⟨d0, d1⟩ := (HFE.out _ hF).1.cells
  have HF := Lib.hid (find_c a c HA.out.1 w2 (HFE.out _ hF).2.2.1)
  rw [show findV a c = .tuple #[.int .i64 0, .int .i64 0, .int .i64 180] by unfold findV; rw [h1]; rfl] at HF
  go_wp2_with fail
  refine HF.out.mono ?_
  rintro e w3 ⟨rfl, hb⟩
  have hF := HFB.out _ _ hF hb
  clear HF hb d0 d1
  dsimp only
  obtain ⟨t0, t1, t2⟩ := (HFE.out _ hF).2.1.cells
  go_wp2_with fail
  go_region
  clear t0 t1 t2
  have hF := HFB.out _ _ hF (Below.refl w3.heap.size w3).drew
  have HP := Lib.hid (place_c x y t HA.out.2.2.1 HA.out.2.2.2 _ (HFE.out _ hF).2.2.1)
  rw [show placeA x y t = (0, 0, 3) by unfold placeA; rw [if_pos h2, if_neg (by omega)]] at HP
  go_wp2_with fail
  refine HP.out.mono ?_
  rintro e w6 ⟨rfl, hb⟩
  have hF := HFB.out _ _ hF hb
  clear HP hb
  dsimp only
  have heq := run_eql_blk 0 0 0 0
  rw [show decide ((0 : Int) = 0 ∧ (0 : Int) = 0) = true by decide] at heq
  have HBE := Lib.hid ((HFE.out _ hF).2.2.2)
  have hB7 := HBE.out.alloc HBE.out.size (.cells #[.int .i64 0, .int .i64 0] 33)
  have HB7 := Lib.hid hB7
  clear hF hB7
  go_wp2
  go_ret
  exact ⟨rfl, HB7.out⟩

set_option maxRecDepth 100000 in
set_option maxHeartbeats 8000000 in
theorem back_0ok (a c x y t : Int) (ha : I64 a) (hx : I64 x) (hy : I64 y) (ht : I64 t) (h1 : mayB a c = false) (h2 : placeB x y t = true) (h3 : y < 256) (W : World) (hT : Tab W) : Calls Tryd.prog 6 #[blkV a c, .agg #[.int .i64 x, .int .i64 y, .int .i64 t]] W fun e w' => e = .returned (.bool true) ∧ Below W.heap.size W w' := by
  obtain ⟨j, m, rfl, hj, he, hm4, hmy, hfd⟩ := back_place h2 h3
  obtain ⟨w1, hw1⟩ : ∃ X : World, X = (W.alloc (.cells #[.int .i64 a, .int .i64 c] 33)).alloc (.cells #[.int .i64 (j : Int), .int .i64 y, .int .i64 t] 38) := ⟨_, rfl⟩
  have hB1 : Below W.heap.size W w1 := by rw [hw1]; exact ((Below.refl _ _).alloc (Nat.le_refl _) _).alloc (by simp) _
  have hX0 : BBox w1 W.heap.size a c := by rw [hw1]; exact (BBox.new _ _ _).alloc _
  have hX1 : TBox w1 (W.heap.size + 1) (j : Int) y t := by rw [hw1]; have := World.alloc_heap_new (W.alloc (.cells #[.int .i64 a, .int .i64 c] 33)) (.cells #[.int .i64 (j : Int), .int .i64 y, .int .i64 t] 38); simpa [TBox] using this
  obtain ⟨F, hFE⟩ : ∃ F : World → Prop, F = fun w => BBox w W.heap.size a c ∧ TBox w (W.heap.size + 1) (j : Int) y t ∧ Tab w ∧ Below W.heap.size W w := ⟨_, rfl⟩
  have HFE := Lib.hid (show ∀ w, F w → BBox w W.heap.size a c ∧ TBox w (W.heap.size + 1) (j : Int) y t ∧ Tab w ∧ Below W.heap.size W w from fun w h => by rw [hFE] at h; exact h)
  have HFB := Lib.hid (show ∀ w w', F w → Below w.heap.size w w' → F w' from fun w w' h hb => by
    rw [hFE] at h ⊢
    exact ⟨h.1.below hb, h.2.1.below hb, h.2.2.1.below hb, below_then h.2.2.2 h.2.2.2.size hb⟩)
  have hF : F w1 := by rw [hFE]; exact ⟨hX0, hX1, hT.below hB1, hB1⟩
  have HW := Lib.hid (wakes_c w1 (hT.below hB1))
  have HA := Lib.hid (And.intro ha (And.intro hx (And.intro hy ht)))
  clear hFE hX0 hX1 hT hB1 ha hx hy ht
  go_enter Tryd.func6, Tryd.ntmps6
  go_wp2_with fail
  rw [← hw1]
  clear hw1
  refine HW.out.mono ?_
  rintro e w2 ⟨rfl, hb⟩
  have hF := HFB.out _ _ hF hb
  clear HW hb
  obtain ⟨d0, d1⟩ := (HFE.out _ hF).1.cells
  have HF := Lib.hid (find_c a c HA.out.1 w2 (HFE.out _ hF).2.2.1)
  rw [show findV a c = .tuple #[.int .i64 0, .int .i64 0, .int .i64 180] by unfold findV; rw [h1]; rfl] at HF
  go_wp2_with fail
  refine HF.out.mono ?_
  rintro e w3 ⟨rfl, hb⟩
  have hF := HFB.out _ _ hF hb
  clear HF hb d0 d1
  dsimp only
  obtain ⟨t0, t1, t2⟩ := (HFE.out _ hF).2.1.cells
  go_wp2_with fail
  go_region
  clear t0 t1 t2
  have hF := HFB.out _ _ hF (Below.refl w3.heap.size w3).drew
  have HP := Lib.hid (place_c j y t HA.out.2.2.1 HA.out.2.2.2 _ (HFE.out _ hF).2.2.1)
  rw [show placeA j y t = ((m : Int), (j : Int), 0) by unfold placeA; rw [if_pos h2, if_pos (by omega), he]] at HP
  go_wp2_with fail
  refine HP.out.mono ?_
  rintro e w6 ⟨rfl, hb⟩
  have hF := HFB.out _ _ hF hb
  clear HP hb
  dsimp only
  obtain ⟨w7, hw7⟩ : ∃ X : World, X = w6.alloc (.cells #[.int .i64 (m : Int), .int .i64 (j : Int)] 33) := ⟨_, rfl⟩
  have hF := HFB.out _ w7 hF (by rw [hw7]; exact (Below.refl _ _).alloc (Nat.le_refl _) _)
  have HN := Lib.hid (show BBox w7 w6.heap.size m j by rw [hw7]; exact BBox.new _ _ _)
  obtain ⟨z, hz⟩ : ∃ z, z = w6.heap.size := ⟨_, rfl⟩
  have HZ := Lib.hid hz
  obtain ⟨g0, g1⟩ := HN.out.cells
  rw [← hz] at HN
  rw [hw7] at g0 g1
  have HF := Lib.hid (find_c m j (i64_lit (by omega)) w7 (HFE.out _ hF).2.2.1)
  rw [hfd] at HF
  clear hz hfd
  go_wp2_with fail
  rw [← hw7, ← HZ.out]
  clear hw7 g0 g1 HZ
  refine HF.out.mono ?_
  rintro e w8 ⟨rfl, hb⟩
  have hF := HFB.out _ _ hF hb
  obtain ⟨g0, g1⟩ := (HN.out.below hb).cells
  have HC := Lib.hid (check_c m j (i64_lit (by omega)) w8 (HFE.out _ hF).2.2.1)
  rw [hmy, if_pos rfl] at HC
  clear HF hb HN
  dsimp only
  go_wp2_with fail
  refine HC.out.mono ?_
  rintro e w9 ⟨rfl, hb⟩
  have hF := HFB.out _ _ hF hb
  have HBE := Lib.hid ((HFE.out _ hF).2.2.2)
  clear hF HC hb
  go_wp2
  go_ret
  exact ⟨rfl, HBE.out⟩

set_option maxRecDepth 100000 in
set_option maxHeartbeats 8000000 in
theorem back_1e2 (a c x y t : Int) (ha : I64 a) (hx : I64 x) (hy : I64 y) (ht : I64 t) (h1 : mayB a c = true) (h2 : placeB x y t = false) (W : World) (hT : Tab W) : Calls Tryd.prog 6 #[blkV a c, .agg #[.int .i64 x, .int .i64 y, .int .i64 t]] W fun e w' => e = .returned (.bool true) ∧ Below W.heap.size W w' := by
  obtain ⟨w1, hw1⟩ : ∃ X : World, X = (W.alloc (.cells #[.int .i64 a, .int .i64 c] 33)).alloc (.cells #[.int .i64 x, .int .i64 y, .int .i64 t] 38) := ⟨_, rfl⟩
  have hB1 : Below W.heap.size W w1 := by rw [hw1]; exact ((Below.refl _ _).alloc (Nat.le_refl _) _).alloc (by simp) _
  have hX0 : BBox w1 W.heap.size a c := by rw [hw1]; exact (BBox.new _ _ _).alloc _
  have hX1 : TBox w1 (W.heap.size + 1) x y t := by rw [hw1]; have := World.alloc_heap_new (W.alloc (.cells #[.int .i64 a, .int .i64 c] 33)) (.cells #[.int .i64 x, .int .i64 y, .int .i64 t] 38); simpa [TBox] using this
  obtain ⟨F, hFE⟩ : ∃ F : World → Prop, F = fun w => BBox w W.heap.size a c ∧ TBox w (W.heap.size + 1) x y t ∧ Tab w ∧ Below W.heap.size W w := ⟨_, rfl⟩
  have HFE := Lib.hid (show ∀ w, F w → BBox w W.heap.size a c ∧ TBox w (W.heap.size + 1) x y t ∧ Tab w ∧ Below W.heap.size W w from fun w h => by rw [hFE] at h; exact h)
  have HFB := Lib.hid (show ∀ w w', F w → Below w.heap.size w w' → F w' from fun w w' h hb => by
    rw [hFE] at h ⊢
    exact ⟨h.1.below hb, h.2.1.below hb, h.2.2.1.below hb, below_then h.2.2.2 h.2.2.2.size hb⟩)
  have hF : F w1 := by rw [hFE]; exact ⟨hX0, hX1, hT.below hB1, hB1⟩
  have HW := Lib.hid (wakes_c w1 (hT.below hB1))
  have HA := Lib.hid (And.intro ha (And.intro hx (And.intro hy ht)))
  clear hFE hX0 hX1 hT hB1 ha hx hy ht
  go_enter Tryd.func6, Tryd.ntmps6
  go_wp2_with fail
  rw [← hw1]
  clear hw1
  refine HW.out.mono ?_
  rintro e w2 ⟨rfl, hb⟩
  have hF := HFB.out _ _ hF hb
  clear HW hb
  obtain ⟨d0, d1⟩ := (HFE.out _ hF).1.cells
  have HF := Lib.hid (find_c a c HA.out.1 w2 (HFE.out _ hF).2.2.1)
  obtain ⟨k, n, rfl, hk, rfl, hn, hnm⟩ := mayB_yes h1
  rw [show findV n k = .tuple #[.int .i64 ((n / 16 : Nat) : Int), .int .i64 ((n % 16 / szN k : Nat) : Int), .int .i64 0] by unfold findV; rw [if_pos h1, Int.toNat_natCast, Int.toNat_natCast]] at HF
  have hPA := back_find hk (by have := (sz_ok hk).2; omega) hnm
  have hq1 : n / 16 ≤ 4096 := by omega
  have hq2 : n % 16 / szN k ≤ 16 := Nat.le_trans (Nat.div_le_self _ _) (by omega)
  generalize n / 16 = p at *
  generalize n % 16 / szN k = q at *
  go_wp2_with fail
  refine HF.out.mono ?_
  rintro e w3 ⟨rfl, hb⟩
  have hF := HFB.out _ _ hF hb
  clear HF hb d0 d1 hn hnm
  obtain ⟨d0, d1⟩ := (HFE.out _ hF).1.cells
  have HP := Lib.hid (place_c k p q (i64_lit (by omega)) (i64_lit (by omega)) w3 (HFE.out _ hF).2.2.1)
  rw [hPA] at HP
  clear hPA
  dsimp only
  go_wp2_with fail
  refine HP.out.mono ?_
  rintro e w4 ⟨rfl, hb⟩
  have hF := HFB.out _ _ hF hb
  clear HP hb d0 d1
  dsimp only
  obtain ⟨w5, hw5⟩ : ∃ X : World, X = w4.alloc (.cells #[.int .i64 (n : Int), .int .i64 (k : Int)] 33) := ⟨_, rfl⟩
  have hF := HFB.out _ w5 hF (by rw [hw5]; exact (Below.refl _ _).alloc (Nat.le_refl _) _)
  have hN : BBox w5 w4.heap.size n k := by rw [hw5]; exact BBox.new _ _ _
  obtain ⟨d0, d1⟩ := (HFE.out _ hF).1.cells
  obtain ⟨g0, g1⟩ := hN.cells
  have hne := run_neq_blk (n : Int) k n k
  rw [show (!decide ((n : Int) = n ∧ (k : Int) = k)) = false by simp] at hne
  rw [hw5] at d0 d1 g0 g1
  obtain ⟨t0, t1, t2⟩ := (HFE.out _ hF).2.1.cells
  rw [hw5] at t0 t1 t2
  go_wp2_with fail
  go_region
  rw [← hw5]
  clear hw5 d0 d1 g0 g1 hne hN t0 t1 t2
  have hF := HFB.out _ _ hF (Below.refl w5.heap.size w5).drew
  have HP := Lib.hid (place_c x y t HA.out.2.2.1 HA.out.2.2.2 _ (HFE.out _ hF).2.2.1)
  rw [show placeA x y t = (0, 0, 2) by unfold placeA; rw [h2]; rfl] at HP
  go_wp2_with fail
  refine HP.out.mono ?_
  rintro e w6 ⟨rfl, hb⟩
  have hF := HFB.out _ _ hF hb
  clear HP hb
  dsimp only
  have heq := run_eql_blk 0 0 0 0
  rw [show decide ((0 : Int) = 0 ∧ (0 : Int) = 0) = true by decide] at heq
  have HBE := Lib.hid ((HFE.out _ hF).2.2.2)
  have hB7 := HBE.out.alloc HBE.out.size (.cells #[.int .i64 0, .int .i64 0] 33)
  have HB7 := Lib.hid hB7
  clear hF hB7
  go_wp2
  go_ret
  exact ⟨rfl, HB7.out⟩

set_option maxRecDepth 100000 in
set_option maxHeartbeats 8000000 in
theorem back_1e3 (a c x y t : Int) (ha : I64 a) (hx : I64 x) (hy : I64 y) (ht : I64 t) (h1 : mayB a c = true) (h2 : placeB x y t = true) (h3 : ¬ y < 256) (W : World) (hT : Tab W) : Calls Tryd.prog 6 #[blkV a c, .agg #[.int .i64 x, .int .i64 y, .int .i64 t]] W fun e w' => e = .returned (.bool true) ∧ Below W.heap.size W w' := by
  obtain ⟨w1, hw1⟩ : ∃ X : World, X = (W.alloc (.cells #[.int .i64 a, .int .i64 c] 33)).alloc (.cells #[.int .i64 x, .int .i64 y, .int .i64 t] 38) := ⟨_, rfl⟩
  have hB1 : Below W.heap.size W w1 := by rw [hw1]; exact ((Below.refl _ _).alloc (Nat.le_refl _) _).alloc (by simp) _
  have hX0 : BBox w1 W.heap.size a c := by rw [hw1]; exact (BBox.new _ _ _).alloc _
  have hX1 : TBox w1 (W.heap.size + 1) x y t := by rw [hw1]; have := World.alloc_heap_new (W.alloc (.cells #[.int .i64 a, .int .i64 c] 33)) (.cells #[.int .i64 x, .int .i64 y, .int .i64 t] 38); simpa [TBox] using this
  obtain ⟨F, hFE⟩ : ∃ F : World → Prop, F = fun w => BBox w W.heap.size a c ∧ TBox w (W.heap.size + 1) x y t ∧ Tab w ∧ Below W.heap.size W w := ⟨_, rfl⟩
  have HFE := Lib.hid (show ∀ w, F w → BBox w W.heap.size a c ∧ TBox w (W.heap.size + 1) x y t ∧ Tab w ∧ Below W.heap.size W w from fun w h => by rw [hFE] at h; exact h)
  have HFB := Lib.hid (show ∀ w w', F w → Below w.heap.size w w' → F w' from fun w w' h hb => by
    rw [hFE] at h ⊢
    exact ⟨h.1.below hb, h.2.1.below hb, h.2.2.1.below hb, below_then h.2.2.2 h.2.2.2.size hb⟩)
  have hF : F w1 := by rw [hFE]; exact ⟨hX0, hX1, hT.below hB1, hB1⟩
  have HW := Lib.hid (wakes_c w1 (hT.below hB1))
  have HA := Lib.hid (And.intro ha (And.intro hx (And.intro hy ht)))
  clear hFE hX0 hX1 hT hB1 ha hx hy ht
  go_enter Tryd.func6, Tryd.ntmps6
  go_wp2_with fail
  rw [← hw1]
  clear hw1
  refine HW.out.mono ?_
  rintro e w2 ⟨rfl, hb⟩
  have hF := HFB.out _ _ hF hb
  clear HW hb
  obtain ⟨d0, d1⟩ := (HFE.out _ hF).1.cells
  have HF := Lib.hid (find_c a c HA.out.1 w2 (HFE.out _ hF).2.2.1)
  obtain ⟨k, n, rfl, hk, rfl, hn, hnm⟩ := mayB_yes h1
  rw [show findV n k = .tuple #[.int .i64 ((n / 16 : Nat) : Int), .int .i64 ((n % 16 / szN k : Nat) : Int), .int .i64 0] by unfold findV; rw [if_pos h1, Int.toNat_natCast, Int.toNat_natCast]] at HF
  have hPA := back_find hk (by have := (sz_ok hk).2; omega) hnm
  have hq1 : n / 16 ≤ 4096 := by omega
  have hq2 : n % 16 / szN k ≤ 16 := Nat.le_trans (Nat.div_le_self _ _) (by omega)
  generalize n / 16 = p at *
  generalize n % 16 / szN k = q at *
  go_wp2_with fail
  refine HF.out.mono ?_
  rintro e w3 ⟨rfl, hb⟩
  have hF := HFB.out _ _ hF hb
  clear HF hb d0 d1 hn hnm
  obtain ⟨d0, d1⟩ := (HFE.out _ hF).1.cells
  have HP := Lib.hid (place_c k p q (i64_lit (by omega)) (i64_lit (by omega)) w3 (HFE.out _ hF).2.2.1)
  rw [hPA] at HP
  clear hPA
  dsimp only
  go_wp2_with fail
  refine HP.out.mono ?_
  rintro e w4 ⟨rfl, hb⟩
  have hF := HFB.out _ _ hF hb
  clear HP hb d0 d1
  dsimp only
  obtain ⟨w5, hw5⟩ : ∃ X : World, X = w4.alloc (.cells #[.int .i64 (n : Int), .int .i64 (k : Int)] 33) := ⟨_, rfl⟩
  have hF := HFB.out _ w5 hF (by rw [hw5]; exact (Below.refl _ _).alloc (Nat.le_refl _) _)
  have hN : BBox w5 w4.heap.size n k := by rw [hw5]; exact BBox.new _ _ _
  obtain ⟨d0, d1⟩ := (HFE.out _ hF).1.cells
  obtain ⟨g0, g1⟩ := hN.cells
  have hne := run_neq_blk (n : Int) k n k
  rw [show (!decide ((n : Int) = n ∧ (k : Int) = k)) = false by simp] at hne
  rw [hw5] at d0 d1 g0 g1
  obtain ⟨t0, t1, t2⟩ := (HFE.out _ hF).2.1.cells
  rw [hw5] at t0 t1 t2
  go_wp2_with fail
  go_region
  rw [← hw5]
  clear hw5 d0 d1 g0 g1 hne hN t0 t1 t2
  have hF := HFB.out _ _ hF (Below.refl w5.heap.size w5).drew
  have HP := Lib.hid (place_c x y t HA.out.2.2.1 HA.out.2.2.2 _ (HFE.out _ hF).2.2.1)
  rw [show placeA x y t = (0, 0, 3) by unfold placeA; rw [if_pos h2, if_neg (by omega)]] at HP
  go_wp2_with fail
  refine HP.out.mono ?_
  rintro e w6 ⟨rfl, hb⟩
  have hF := HFB.out _ _ hF hb
  clear HP hb
  dsimp only
  have heq := run_eql_blk 0 0 0 0
  rw [show decide ((0 : Int) = 0 ∧ (0 : Int) = 0) = true by decide] at heq
  have HBE := Lib.hid ((HFE.out _ hF).2.2.2)
  have hB7 := HBE.out.alloc HBE.out.size (.cells #[.int .i64 0, .int .i64 0] 33)
  have HB7 := Lib.hid hB7
  clear hF hB7
  go_wp2
  go_ret
  exact ⟨rfl, HB7.out⟩

set_option maxRecDepth 100000 in
set_option maxHeartbeats 8000000 in
theorem back_1ok (a c x y t : Int) (ha : I64 a) (hx : I64 x) (hy : I64 y) (ht : I64 t) (h1 : mayB a c = true) (h2 : placeB x y t = true) (h3 : y < 256) (W : World) (hT : Tab W) : Calls Tryd.prog 6 #[blkV a c, .agg #[.int .i64 x, .int .i64 y, .int .i64 t]] W fun e w' => e = .returned (.bool true) ∧ Below W.heap.size W w' := by
  obtain ⟨j, m, rfl, hj, he, hm4, hmy, hfd⟩ := back_place h2 h3
  obtain ⟨w1, hw1⟩ : ∃ X : World, X = (W.alloc (.cells #[.int .i64 a, .int .i64 c] 33)).alloc (.cells #[.int .i64 (j : Int), .int .i64 y, .int .i64 t] 38) := ⟨_, rfl⟩
  have hB1 : Below W.heap.size W w1 := by rw [hw1]; exact ((Below.refl _ _).alloc (Nat.le_refl _) _).alloc (by simp) _
  have hX0 : BBox w1 W.heap.size a c := by rw [hw1]; exact (BBox.new _ _ _).alloc _
  have hX1 : TBox w1 (W.heap.size + 1) (j : Int) y t := by rw [hw1]; have := World.alloc_heap_new (W.alloc (.cells #[.int .i64 a, .int .i64 c] 33)) (.cells #[.int .i64 (j : Int), .int .i64 y, .int .i64 t] 38); simpa [TBox] using this
  obtain ⟨F, hFE⟩ : ∃ F : World → Prop, F = fun w => BBox w W.heap.size a c ∧ TBox w (W.heap.size + 1) (j : Int) y t ∧ Tab w ∧ Below W.heap.size W w := ⟨_, rfl⟩
  have HFE := Lib.hid (show ∀ w, F w → BBox w W.heap.size a c ∧ TBox w (W.heap.size + 1) (j : Int) y t ∧ Tab w ∧ Below W.heap.size W w from fun w h => by rw [hFE] at h; exact h)
  have HFB := Lib.hid (show ∀ w w', F w → Below w.heap.size w w' → F w' from fun w w' h hb => by
    rw [hFE] at h ⊢
    exact ⟨h.1.below hb, h.2.1.below hb, h.2.2.1.below hb, below_then h.2.2.2 h.2.2.2.size hb⟩)
  have hF : F w1 := by rw [hFE]; exact ⟨hX0, hX1, hT.below hB1, hB1⟩
  have HW := Lib.hid (wakes_c w1 (hT.below hB1))
  have HA := Lib.hid (And.intro ha (And.intro hx (And.intro hy ht)))
  clear hFE hX0 hX1 hT hB1 ha hx hy ht
  go_enter Tryd.func6, Tryd.ntmps6
  go_wp2_with fail
  rw [← hw1]
  clear hw1
  refine HW.out.mono ?_
  rintro e w2 ⟨rfl, hb⟩
  have hF := HFB.out _ _ hF hb
  clear HW hb
  obtain ⟨d0, d1⟩ := (HFE.out _ hF).1.cells
  have HF := Lib.hid (find_c a c HA.out.1 w2 (HFE.out _ hF).2.2.1)
  obtain ⟨k, n, rfl, hk, rfl, hn, hnm⟩ := mayB_yes h1
  rw [show findV n k = .tuple #[.int .i64 ((n / 16 : Nat) : Int), .int .i64 ((n % 16 / szN k : Nat) : Int), .int .i64 0] by unfold findV; rw [if_pos h1, Int.toNat_natCast, Int.toNat_natCast]] at HF
  have hPA := back_find hk (by have := (sz_ok hk).2; omega) hnm
  have hq1 : n / 16 ≤ 4096 := by omega
  have hq2 : n % 16 / szN k ≤ 16 := Nat.le_trans (Nat.div_le_self _ _) (by omega)
  generalize n / 16 = p at *
  generalize n % 16 / szN k = q at *
  go_wp2_with fail
  refine HF.out.mono ?_
  rintro e w3 ⟨rfl, hb⟩
  have hF := HFB.out _ _ hF hb
  clear HF hb d0 d1 hn hnm
  obtain ⟨d0, d1⟩ := (HFE.out _ hF).1.cells
  have HP := Lib.hid (place_c k p q (i64_lit (by omega)) (i64_lit (by omega)) w3 (HFE.out _ hF).2.2.1)
  rw [hPA] at HP
  clear hPA
  dsimp only
  go_wp2_with fail
  refine HP.out.mono ?_
  rintro e w4 ⟨rfl, hb⟩
  have hF := HFB.out _ _ hF hb
  clear HP hb d0 d1
  dsimp only
  obtain ⟨w5, hw5⟩ : ∃ X : World, X = w4.alloc (.cells #[.int .i64 (n : Int), .int .i64 (k : Int)] 33) := ⟨_, rfl⟩
  have hF := HFB.out _ w5 hF (by rw [hw5]; exact (Below.refl _ _).alloc (Nat.le_refl _) _)
  have hN : BBox w5 w4.heap.size n k := by rw [hw5]; exact BBox.new _ _ _
  obtain ⟨d0, d1⟩ := (HFE.out _ hF).1.cells
  obtain ⟨g0, g1⟩ := hN.cells
  have hne := run_neq_blk (n : Int) k n k
  rw [show (!decide ((n : Int) = n ∧ (k : Int) = k)) = false by simp] at hne
  rw [hw5] at d0 d1 g0 g1
  obtain ⟨t0, t1, t2⟩ := (HFE.out _ hF).2.1.cells
  rw [hw5] at t0 t1 t2
  go_wp2_with fail
  go_region
  rw [← hw5]
  clear hw5 d0 d1 g0 g1 hne hN t0 t1 t2
  have hF := HFB.out _ _ hF (Below.refl w5.heap.size w5).drew
  have HP := Lib.hid (place_c j y t HA.out.2.2.1 HA.out.2.2.2 _ (HFE.out _ hF).2.2.1)
  rw [show placeA j y t = ((m : Int), (j : Int), 0) by unfold placeA; rw [if_pos h2, if_pos (by omega), he]] at HP
  go_wp2_with fail
  refine HP.out.mono ?_
  rintro e w6 ⟨rfl, hb⟩
  have hF := HFB.out _ _ hF hb
  clear HP hb
  dsimp only
  obtain ⟨w7, hw7⟩ : ∃ X : World, X = w6.alloc (.cells #[.int .i64 (m : Int), .int .i64 (j : Int)] 33) := ⟨_, rfl⟩
  have hF := HFB.out _ w7 hF (by rw [hw7]; exact (Below.refl _ _).alloc (Nat.le_refl _) _)
  have HN := Lib.hid (show BBox w7 w6.heap.size m j by rw [hw7]; exact BBox.new _ _ _)
  obtain ⟨z, hz⟩ : ∃ z, z = w6.heap.size := ⟨_, rfl⟩
  have HZ := Lib.hid hz
  obtain ⟨g0, g1⟩ := HN.out.cells
  rw [← hz] at HN
  rw [hw7] at g0 g1
  have HF := Lib.hid (find_c m j (i64_lit (by omega)) w7 (HFE.out _ hF).2.2.1)
  rw [hfd] at HF
  clear hz hfd
  go_wp2_with fail
  rw [← hw7, ← HZ.out]
  clear hw7 g0 g1 HZ
  refine HF.out.mono ?_
  rintro e w8 ⟨rfl, hb⟩
  have hF := HFB.out _ _ hF hb
  obtain ⟨g0, g1⟩ := (HN.out.below hb).cells
  have HC := Lib.hid (check_c m j (i64_lit (by omega)) w8 (HFE.out _ hF).2.2.1)
  rw [hmy, if_pos rfl] at HC
  clear HF hb HN
  dsimp only
  go_wp2_with fail
  refine HC.out.mono ?_
  rintro e w9 ⟨rfl, hb⟩
  have hF := HFB.out _ _ hF hb
  have HBE := Lib.hid ((HFE.out _ hF).2.2.2)
  clear hF HC hb
  go_wp2
  go_ret
  exact ⟨rfl, HBE.out⟩

theorem back_walk (a c x y t : Int) (ha : I64 a) (_ : I64 c) (hx : I64 x) (hy : I64 y) (ht : I64 t) (W : World) (hT : Tab W) : Calls Tryd.prog 6 #[blkV a c, .agg #[.int .i64 x, .int .i64 y, .int .i64 t]] W fun e w' => e = .returned (.bool true) ∧ Below W.heap.size W w' := by
  cases h1 : mayB a c with
  | false =>
    cases h2 : placeB x y t with
    | false => exact back_0e2 a c x y t ha hx hy ht h1 h2 W hT
    | true =>
      by_cases h3 : y < 256
      · exact back_0ok a c x y t ha hx hy ht h1 h2 h3 W hT
      · exact back_0e3 a c x y t ha hx hy ht h1 h2 h3 W hT
  | true =>
    cases h2 : placeB x y t with
    | false => exact back_1e2 a c x y t ha hx hy ht h1 h2 W hT
    | true =>
      by_cases h3 : y < 256
      · exact back_1ok a c x y t ha hx hy ht h1 h2 h3 W hT
      · exact back_1e3 a c x y t ha hx hy ht h1 h2 h3 W hT

end Go.Proofs.YtklbbcaebdfjeaaDoor
