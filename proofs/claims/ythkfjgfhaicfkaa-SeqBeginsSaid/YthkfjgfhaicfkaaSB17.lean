/-
  Does package seq do anything: it does.
  Conditions: none.
-/
import Derived.Test.YthkfjgfhaicfkaaSB16
import Derived.Test.YthkfjgfhaicfkaaSB3
namespace Go.Proofs.Ythkfjgfhaicfkaa
open Go.RowKit Go.Shelf
attribute [local go_sem] Oper.semAt_some

def wkPicks : List Bool := [false, false, true, false, false, false, true, true, true, true]
def wkStart (v : Value) : PlS := ⟨List.replicate 8 0, false, ⟨0, 1, 2, 0, 0, 0⟩, [], ⟨⟨0, 0, 4, 0, 0⟩, .slice none 0 0, []⟩, [⟨⟨0, 1, 0, 0, 0⟩, v, [7, 8]⟩]⟩
theorem wk_plays (v : Value) : (playM (List.replicate 8 true) (wkStart v) wkPicks).us = [2, 7, 8, 0, 0, 0, 0, 0] ∧ (playM (List.replicate 8 true) (wkStart v) wkPicks).u = false ∧ (playM (List.replicate 8 true) (wkStart v) wkPicks).s = ⟨0, 1, 2, 4, 2, 0⟩ ∧ (playM (List.replicate 8 true) (wkStart v) wkPicks).vs = [7, 8] := by
  refine ⟨?_, ?_, ?_, ?_⟩ <;> kernel_rfl
/-- A row of its own is below the blocks that are not yet there. -/
theorem VV.ownsLt {W : World} {B : Nat} {v : Value} {vs : List Int} {n : Nat} (h : W.ownsRow B 27 1 v n (vs.map (Value.int .u64))) (hn : n = vs.length) : VV (fun k => W.heap.size ≤ k) W v vs := by
  subst hn
  rcases h.2 with ⟨rfl, h0⟩ | ⟨g, cap, cur, rfl, hB, hb, h1, h2, _⟩
  · obtain rfl : vs = [] := List.eq_nil_of_length_eq_zero h0
    exact VV.nil _ W
  · refine ⟨_, _, rfl, ⟨h1, by unfold maxLen at h2; omega⟩, .inr ⟨g, 0, rfl, fun hs => by have := (Array.getElem?_eq_some_iff.1 hb).1; have hs' : W.heap.size ≤ g := hs; omega, fun i hi => ?_⟩⟩
    have h3 := h.cellAt i (by omega)
    rw [List.getElem?_eq_getElem (by simpa using hi)] at h3
    simpa using h3
theorem wk_play (mv : Value) (q' : Option Addr) (c' y pk : Nat) (B : Nat) (W : World) (hM : MemAt W mv (List.replicate 8 0) (List.replicate 8 true) false) (hV : W.ownsRow B 27 1 (.slice q' 2 c') 2 (([7, 8] : List Int).map (Value.int .u64)))
    (hy : W.heap[y]? = some (.cells #[.int .i64 0, .int .i64 1, .slice q' 2 c', .int .i64 0, .int .u64 0, .int .i64 0] 34 (0, 0))) (hp : W.heap[pk]? = some (.cells (wkPicks.map Value.bool).toArray 4 (0, 0))) :
    Calls Try.prog 32 #[mv, rdV ⟨0, 1, 2, 0, 0, 0⟩ (.slice none 0 0), .slice (some ⟨y, 0, none⟩) 1 1, .slice (some ⟨pk, 0, none⟩) 10 10] W fun e w' => (∃ gw cw gl cl p c, e = .returned (.tuple #[.agg #[.slice (some ⟨gw, 0, none⟩) 8 cw, .slice (some ⟨gl, 0, none⟩) 8 cl, .bool false], rdV ⟨0, 1, 2, 4, 2, 0⟩ (.slice p 2 c), .int .i64 0]) ∧ w'.cell? ⟨gw, 0, none⟩ = some (.int .u64 2) ∧ NumsAt w' .u64 (.slice p 2 c) [7, 8]) ∧ Below W.heap.size W w' := by
  have hyl := (Array.getElem?_eq_some_iff.1 hy).1
  have hpl := (Array.getElem?_eq_some_iff.1 hp).1
  refine (play_c mv (List.replicate 8 0) (List.replicate 8 true) false ⟨0, 1, 2, 0, 0, 0⟩ none 0 [] (some ⟨y, 0, none⟩) 1 [⟨⟨0, 1, 0, 0, 0⟩, .slice q' 2 c', [7, 8]⟩] (some ⟨pk, 0, none⟩) 10 wkPicks W hM (by decide) (by intro x hx; have := List.eq_of_mem_replicate hx; omega) (VV.nil _ W) (by decide) (by decide)
    (fun _ => ⟨y, 0, rfl, fun h => by have h' : W.heap.size ≤ y := h; omega, fun i hi => ?_⟩) (by show 1 ≤ _; omega) ⟨Nat.le_refl 1, by show 1 ≤ _; omega⟩ (by show (rightWB ⟨0, 1, 0, 0, 0⟩ 2 && true) = true; decide) (by intro x hx; simp at hx; subst hx; exact ⟨Int.le_refl 0, by show (0 : Int) ≤ _; omega⟩) (by intro x hx; simp at hx; subst hx; intro z hz; simp at hz; omega)
    (fun _ => ⟨pk, 0, rfl, fun h => by have h' : W.heap.size ≤ pk := h; omega, fun i hi => ?_⟩) (by decide)).mono fun e w' h => ?_
  · obtain rfl : i = 0 := by simp at hi; omega
    simp only [List.getElem_cons_zero]
    refine ⟨⟨?_, ?_, ?_, ?_, ?_, ?_⟩, VV.ownsLt hV rfl⟩ <;> simp [World.cell?, hy]
  · simp only [World.cell?, hp, Nat.zero_add]
    rw [List.getElem?_toArray, List.getElem?_map, List.getElem?_eq_getElem hi]
    rfl
  · obtain ⟨⟨gw, cw, gl, cl, p, c, he, h1, h2, h3⟩, hb⟩ := h
    obtain ⟨k1, k2, k3, k4⟩ := wk_plays (.slice q' 2 c')
    unfold wkStart at k1 k2 k3 k4
    rw [k1, k2, k3, k4] at he
    rw [k1] at h1
    rw [k4] at h3
    exact ⟨⟨gw, cw, gl, cl, p, c, he, h1.cellAt 0 (by decide), nums_of_owns rfl h3⟩, hb⟩

set_option maxRecDepth 100000 in
set_option maxHeartbeats 8000000 in
theorem ewakes (W : World) : Calls Try.prog 10 #[] W fun e w' => e = .returned (.bool true) ∧ Below W.heap.size W w' := by
  have HRD := Lib.hid (show ∀ Z : World, Calls Try.prog 12 #[.int .i64 0, .int .i64 1, .int .i64 2] Z fun e w' => e = .returned (.tuple #[.agg #[.int .i64 0, .int .i64 1, .int .i64 2, .int .i64 0, .int .u64 0, .slice none 0 0, .int .i64 0], .int .i64 0]) ∧ Below Z.heap.size Z w' from fun Z => by
    have h := read_c 0 1 2 Z
    rw [if_pos (by decide)] at h
    exact h)
  have HRN := Lib.hid (show ∀ Z : World, Calls Try.prog 12 #[.int .i64 0, .int .i64 0, .int .i64 1] Z fun e w' => e = .returned (.tuple #[.agg #[.int .i64 0, .int .i64 0, .int .i64 0, .int .i64 0, .int .u64 0, .slice none 0 0, .int .i64 0], .int .i64 2]) ∧ Below Z.heap.size Z w' from fun Z => by
    have h := read_c 0 0 1 Z
    rw [if_neg (by decide)] at h
    exact h)
  have HWY := Lib.hid (fun (Z : World) (y : Nat) (hv : NumsAt Z .u64 (.slice (some ⟨y, 0, none⟩) 2 2) [7, 8]) => write_yes 0 1 (some ⟨y, 0, none⟩) 2 2 [7, 8] (by decide) Z hv)
  go_enter Try.func10, Try.ntmps10
  go_wp2_with fail
  refine (elive _).mono ?_
  rintro e w1 ⟨⟨gw, cw, gl, cl, rfl, how, hol⟩, hb1⟩
  obtain ⟨z, hz⟩ : ∃ z, z = w1.heap.size := ⟨_, rfl⟩
  obtain ⟨w2, hw2⟩ : ∃ X : World, X = w1.alloc (.cells #[.slice (some ⟨gw, 0, none⟩) 8 cw, .slice (some ⟨gl, 0, none⟩) 8 cl, .bool false] 44) := ⟨_, rfl⟩
  have HW2 := Lib.hid (And.intro hz hw2)
  have hb2 : Below w1.heap.size w1 w2 := by rw [hw2]; exact below1 w1 _
  have HM2 := Lib.hid (show MBox w2 z (.slice (some ⟨gw, 0, none⟩) 8 cw) (.slice (some ⟨gl, 0, none⟩) 8 cl) false by rw [hw2, hz]; exact MBox.new _ _ _ _)
  have HO2 := Lib.hid (And.intro (owns_below how hb2) (owns_below hol hb2))
  have HB2 := Lib.hid (below_then hb1 hb1.size hb2)
  clear hz hw2 how hol hb1 hb2
  go_upto_region 2 with (fail)
  rw [← HW2.out.1, ← HW2.out.2]
  go_wp2_with fail
  refine (HRD.out _).mono ?_
  rintro e w3 ⟨rfl, hb3⟩
  obtain ⟨zr, hzr⟩ : ∃ z, z = w3.heap.size := ⟨_, rfl⟩
  obtain ⟨w4, hw4⟩ : ∃ X : World, X = w3.alloc (.cells #[.int .i64 0, .int .i64 1, .int .i64 2, .int .i64 0, .int .u64 0, .slice none 0 0, .int .i64 0] 29) := ⟨_, rfl⟩
  have hb4 : Below w2.heap.size w2 w4 := by rw [hw4]; exact hb3.trans ((below1 w3 _).mono hb3.size)
  have HR4 := Lib.hid (show RdBox w4 zr ⟨0, 1, 2, 0, 0, 0⟩ (.slice none 0 0) by rw [hw4, hzr]; exact World.alloc_heap_new _ _)
  have HM4 := Lib.hid (HM2.out.below hb4)
  have HO4 := Lib.hid (And.intro (owns_below HO2.out.1 hb4) (owns_below HO2.out.2 hb4))
  have HB4 := Lib.hid (below_then HB2.out HB2.out.size hb4)
  have HW4 := Lib.hid (And.intro hzr hw4)
  clear hzr hw4 hb3 hb4 HM2 HO2 HB2 HW2 HRD
  go_upto_region 3 with (fail)
  rw [← HW4.out.1, ← HW4.out.2]
  obtain ⟨w5, hw5⟩ : ∃ X : World, X = w4.alloc (.cells #[.int .u64 7, .int .u64 8] 27) := ⟨_, rfl⟩
  have hb5 : Below w4.heap.size w4 w5 := by rw [hw5]; exact below1 w4 _
  have hn5 : NumsAt w5 .u64 (.slice (some ⟨w4.heap.size, 0, none⟩) 2 2) [7, 8] := ⟨_, 2, rfl, fun _ => ⟨_, 0, rfl, fun i hi => by
    have hnew : w5.heap[w4.heap.size]? = some (.cells (([7, 8] : List Int).map (Value.int .u64)).toArray 27 (0, 0)) := by rw [hw5]; exact World.alloc_heap_new w4 _
    simp only [World.cell?, hnew, Nat.zero_add]
    rw [List.getElem?_toArray, List.getElem?_map, List.getElem?_eq_getElem hi]
    rfl⟩⟩
  have HWR := Lib.hid (HWY.out w5 w4.heap.size hn5)
  have HW5 := Lib.hid hw5
  have HR5 := Lib.hid (HR4.out.below hb5)
  have HM5 := Lib.hid (HM4.out.below hb5)
  have HO5 := Lib.hid (And.intro (owns_below HO4.out.1 hb5) (owns_below HO4.out.2 hb5))
  have HB5 := Lib.hid (below_then HB4.out HB4.out.size hb5)
  clear hw5 hb5 hn5 HW4 HR4 HM4 HO4 HB4 HWY
  go_wp2_with fail
  rw [← HW5.out]
  refine HWR.out.mono ?_
  rintro e w6 ⟨⟨q', c', rfl, hov⟩, hb6⟩
  unfold wrV
  obtain ⟨zw, hzw⟩ : ∃ z, z = w6.heap.size := ⟨_, rfl⟩
  obtain ⟨w7, hw7⟩ : ∃ X : World, X = w6.alloc (.cells #[.int .i64 0, .int .i64 1, .slice q' 2 c', .int .i64 0, .int .u64 0, .int .i64 0] 34) := ⟨_, rfl⟩
  have hb67 : Below w6.heap.size w6 w7 := by rw [hw7]; exact below1 w6 _
  have hb7 : Below w5.heap.size w5 w7 := hb6.trans (hb67.mono hb6.size)
  have HX7 := Lib.hid (show WrBox w7 zw ⟨0, 1, 0, 0, 0⟩ (.slice q' 2 c') by rw [hw7, hzw]; exact World.alloc_heap_new _ _)
  have HR7 := Lib.hid (HR5.out.below hb7)
  have HM7 := Lib.hid (HM5.out.below hb7)
  have HO7 := Lib.hid (And.intro (owns_below HO5.out.1 hb7) (owns_below HO5.out.2 hb7))
  have HV7 := Lib.hid (owns_below hov hb67)
  have HB7 := Lib.hid (below_then HB5.out HB5.out.size hb7)
  have HW7 := Lib.hid (And.intro hzw hw7)
  clear hzw hw7 hb6 hb67 hb7 hov HR5 HM5 HO5 HB5 HW5 HWR
  go_upto_region 4 with (fail)
  rw [← HW7.out.1, ← HW7.out.2]
  obtain ⟨w8, hw8⟩ : ∃ X : World, X = (w7.alloc (.cells #[.int .i64 0, .int .i64 1, .slice q' 2 c', .int .i64 0, .int .u64 0, .int .i64 0] 34)).alloc (.cells #[.bool false, .bool false, .bool true, .bool false, .bool false, .bool false, .bool true, .bool true, .bool true, .bool true] 4) := ⟨_, rfl⟩
  have hb8 : Below w7.heap.size w7 w8 := by rw [hw8]; exact below2 w7 _ _
  have hy8 : w8.heap[w7.heap.size]? = some (.cells #[.int .i64 0, .int .i64 1, .slice q' 2 c', .int .i64 0, .int .u64 0, .int .i64 0] 34 (0, 0)) := by
    rw [hw8, Below.heap_alloc _ _ _ (by simp)]; exact World.alloc_heap_new w7 _
  have hp8 : w8.heap[w7.heap.size + 1]? = some (.cells (wkPicks.map Value.bool).toArray 4 (0, 0)) := by
    have h := World.alloc_heap_new (w7.alloc (.cells #[.int .i64 0, .int .i64 1, .slice q' 2 c', .int .i64 0, .int .u64 0, .int .i64 0] 34)) (.cells #[.bool false, .bool false, .bool true, .bool false, .bool false, .bool false, .bool true, .bool true, .bool true, .bool true] 4)
    rw [World.size_alloc, ← hw8] at h
    exact h
  have HPL := Lib.hid (wk_play (.agg #[.slice (some ⟨gw, 0, none⟩) 8 cw, .slice (some ⟨gl, 0, none⟩) 8 cl, .bool false]) q' c' w7.heap.size (w7.heap.size + 1) _ w8 ⟨_, _, rfl, nums_of_owns (by decide) (owns_below HO7.out.1 hb8), bools_of_owns (by decide) (owns_below HO7.out.2 hb8)⟩ (owns_below HV7.out hb8) hy8 hp8)
  have HB8 := Lib.hid (below_then HB7.out HB7.out.size hb8)
  have HW8 := Lib.hid hw8
  unfold rdV at HPL
  dsimp only at HPL
  obtain ⟨⟨hd0, hd1, hd2⟩, -⟩ := mbox_cells HM7.out
  obtain ⟨r0, r1, r2, r3, r4, r5, r6⟩ := HR7.out.cells
  obtain ⟨x0, x1, x2, x3, x4, x5⟩ := HX7.out.cells
  dsimp only at r0 r1 r2 r3 r4 r6 x0 x1 x3 x4 x5
  clear hw8 hb8 hy8 hp8 HM7 HR7 HX7 HO7 HV7 HB7 HW7
  go_wp2_with fail
  rw [← HW8.out]
  refine HPL.out.mono ?_
  rintro e w9 ⟨⟨gx, cx, gy, cy, p, c, rfl, hx, hn⟩, hb9⟩
  clear hd0 hd1 hd2 r0 r1 r2 r3 r4 r5 r6 x0 x1 x2 x3 x4 x5 HPL HW8
  obtain ⟨w10, hw10⟩ : ∃ X : World, X = (w9.alloc (.cells #[.slice (some ⟨gx, 0, none⟩) 8 cx, .slice (some ⟨gy, 0, none⟩) 8 cy, .bool false] 44)).alloc (.cells #[.int .i64 0, .int .i64 1, .int .i64 2, .int .i64 4, .int .u64 2, .slice p 2 c, .int .i64 0] 29) := ⟨_, rfl⟩
  have hb10 : Below w9.heap.size w9 w10 := by rw [hw10]; exact below2 w9 _ _
  obtain ⟨zm, hzm⟩ : ∃ z, z = w9.heap.size := ⟨_, rfl⟩
  have HM10 := Lib.hid (show MBox w10 zm (.slice (some ⟨gx, 0, none⟩) 8 cx) (.slice (some ⟨gy, 0, none⟩) 8 cy) false by rw [hw10, hzm]; exact (MBox.new w9 _ _ _).alloc _)
  have HR10 := Lib.hid (show RdBox w10 (zm + 1) ⟨0, 1, 2, 4, 2, 0⟩ (.slice p 2 c) by
    have h := World.alloc_heap_new (w9.alloc (.cells #[.slice (some ⟨gx, 0, none⟩) 8 cx, .slice (some ⟨gy, 0, none⟩) 8 cy, .bool false] 44)) (.cells #[.int .i64 0, .int .i64 1, .int .i64 2, .int .i64 4, .int .u64 2, .slice p 2 c, .int .i64 0] 29)
    rw [World.size_alloc, ← hw10, ← hzm] at h
    exact h)
  have HX10 := Lib.hid (below_cell hb10 hx)
  have HN10 := Lib.hid (nums_below hn hb10)
  have HB10 := Lib.hid (below_then (below_then HB8.out HB8.out.size hb9) (Nat.le_trans HB8.out.size hb9.size) hb10)
  have HW10 := Lib.hid (And.intro hzm hw10)
  clear hzm hw10 hb9 hb10 hx hn HB8
  go_upto_region 5 with (fail)
  rw [← HW10.out.1, ← HW10.out.2]
  go_wp2_with fail
  refine (HRN.out _).mono ?_
  rintro e w11 ⟨rfl, hb11⟩
  obtain ⟨w12, hw12⟩ : ∃ X : World, X = w11.alloc (.cells #[.int .i64 0, .int .i64 0, .int .i64 0, .int .i64 0, .int .u64 0, .slice none 0 0, .int .i64 0] 29) := ⟨_, rfl⟩
  have hb12 : Below w10.heap.size w10 w12 := by rw [hw12]; exact hb11.trans ((below1 w11 _).mono hb11.size)
  have HM12 := Lib.hid (HM10.out.below hb12)
  have HR12 := Lib.hid (HR10.out.below hb12)
  have HX12 := Lib.hid (below_cell hb12 HX10.out)
  have HN12 := Lib.hid (nums_below HN10.out hb12)
  have HB12 := Lib.hid (below_then HB10.out HB10.out.size hb12)
  have HW12 := Lib.hid hw12
  clear hw12 hb11 hb12 HM10 HR10 HX10 HN10 HB10 HW10 HRN
  go_upto_region 6 with (fail)
  rw [← HW12.out]
  clear HW12
  obtain ⟨w13, hw13⟩ : ∃ X : World, X = w12.alloc (.cells #[.int .u64 7, .int .u64 8] 27) := ⟨_, rfl⟩
  have hb13 : Below w12.heap.size w12 w13 := by rw [hw13]; exact below1 w12 _
  have hn13 : NumsAt w13 .u64 (.slice (some ⟨w12.heap.size, 0, none⟩) 2 2) [7, 8] := ⟨_, 2, rfl, fun _ => ⟨_, 0, rfl, fun i hi => by
    have hnew : w13.heap[w12.heap.size]? = some (.cells (([7, 8] : List Int).map (Value.int .u64)).toArray 27 (0, 0)) := by rw [hw13]; exact World.alloc_heap_new w12 _
    simp only [World.cell?, hnew, Nat.zero_add]
    rw [List.getElem?_toArray, List.getElem?_map, List.getElem?_eq_getElem hi]
    rfl⟩⟩
  have HEQ := Lib.hid (equalW_same _ _ [7, 8] w13 (nums_below HN12.out hb13) hn13 (by decide))
  have HB13 := Lib.hid (below_then HB12.out HB12.out.size hb13)
  have HM13 := Lib.hid (HM12.out.below hb13)
  have HR13 := Lib.hid (HR12.out.below hb13)
  have HX13 := Lib.hid (below_cell hb13 HX12.out)
  obtain ⟨r0, r1, r2, r3, r4, r5, r6⟩ := HR12.out.cells
  dsimp only at r0 r1 r2 r3 r4 r6
  have HW13 := Lib.hid hw13
  clear hw13 hb13 hn13 HM12 HR12 HX12 HN12 HB12
  go_wp2_with fail
  rw [← HW13.out]
  refine HEQ.out.mono ?_
  rintro e w14 ⟨rfl, hb14⟩
  clear r0 r1 r2 r3 r4 r5 r6
  obtain ⟨r0, r1, r2, r3, r4, r5, r6⟩ := (HR13.out.below hb14).cells
  obtain ⟨⟨hd0, hd1, hd2⟩, -⟩ := mbox_cells (HM13.out.below hb14)
  dsimp only at r0 r1 r2 r3 r4 r6
  have hx := below_cell hb14 HX13.out
  have HB14 := Lib.hid (below_then HB13.out HB13.out.size hb14)
  clear hb14 HEQ HW13 HR13 HM13 HX13 HB13
  go_wp2
  go_ret
  exact ⟨rfl, HB14.out⟩

end Go.Proofs.Ythkfjgfhaicfkaa
