/-
  Does package spin do anything: it does.
  Conditions: none.
-/
import Derived.Test.YtcledklajcdfiaaQAll
import Derived.Test.YtcledklajcdfiaaQLaid
import Derived.Test.YtcledklajcdfiaaQInts
import Derived.Test.YtcledklajcdfiaaQCheck
namespace Go.Proofs.Ytcledklajcdfiaa
open Go.RowKit Go.Shelf
attribute [local go_sem] Oper.semAt_some

def wkPicks : List Int := [0, 1, 0, 1, 1, 1, 1, 0, 0, 1, 1]
theorem wk_plays : playR [true, true] 2 wkPicks ⟨[0, 0], false, [⟨0, 0, 0⟩, ⟨0, 0, 0⟩]⟩ [] = (⟨[2, 2], false, [⟨0, 5, 0⟩, ⟨0, 5, 1⟩]⟩, [0, 1]) := by kernel_rfl

/-- What Play hands over there. -/
theorem wk_play (v v1 v2 : Value) (W : World) (hv : MemAt W v [0, 0] [true, true] false) (hS : SpinsAt W v1 [⟨0, 0, 0⟩, ⟨0, 0, 0⟩]) (hN : NumsAt W .i64 v2 wkPicks) :
    Calls Try.prog 26 #[v, v1, v2] W fun e w' => (∃ gx cx y g gh ch, e = .returned (.tuple #[.agg #[.slice (some ⟨gx, 0, none⟩) 2 cx, y, .bool false], .slice (some ⟨g, 0, none⟩) 2 2, .slice (some ⟨gh, 0, none⟩) 2 ch, .int .i64 0]) ∧
      (w'.cell? ⟨gx, 0, none⟩ = some (.int .u64 2) ∧ w'.cell? ⟨gx, 1, none⟩ = some (.int .u64 2)) ∧ (w'.cell? ⟨g, 1, none⟩ = some (.int .i64 5) ∧ w'.cell? ⟨g, 4, none⟩ = some (.int .i64 5)) ∧ NumsAt w' .i64 (.slice (some ⟨gh, 0, none⟩) 2 ch) [0, 1] ∧ ∃ p n c, y = .slice p n c) ∧ Below W.heap.size W w' :=
  (qplay v v1 v2 [0, 0] [true, true] false [⟨0, 0, 0⟩, ⟨0, 0, 0⟩] wkPicks W hv (by decide) (by intro x hx; simp at hx; subst hx; decide) hS (by decide) (by intro s hs; simp at hs; subst hs; decide) (by intro s hs; simp at hs; subst hs; constructor <;> simp) hN (by decide)).mono fun e w' h => by
    rw [show ([⟨0, 0, 0⟩, ⟨0, 0, 0⟩] : List SpM).length = 2 from rfl, wk_plays] at h
    obtain ⟨⟨x, y, g, vh, he, h1, h2, h3, _, h4⟩, h5⟩ := h
    obtain ⟨gx, cx, rfl, _⟩ := own_form h1 (by decide)
    obtain ⟨gh, ch, rfl, _⟩ := own_form h4 (by decide)
    exact ⟨⟨gx, cx, y, g, gh, ch, he, ⟨h1.cellAt 0 (by decide), h1.cellAt 1 (by decide)⟩, ⟨h3.cellAt 1 (by decide), h3.cellAt 4 (by decide)⟩, nums_of_owns (by decide) h4, own_any h2⟩, h5⟩

set_option maxRecDepth 100000 in
set_option maxHeartbeats 8000000 in
theorem qwakes (W : World) : Calls Try.prog 8 #[] W fun e w' => e = .returned (.bool true) ∧ Below W.heap.size W w' := by
  have HASK := Lib.hid (show ∀ Z : World, Calls Try.prog 17 #[.int .i64 0] Z fun e w' => e = .returned (.agg #[.int .i64 0, .int .i64 0, .int .u64 0]) ∧ Below Z.heap.size Z w' from fun Z => qask 0 Z)
  go_enter Try.func8, Try.ntmps8
  go_wp2_with fail
  refine (qlaid _).mono ?_
  rintro e w1 ⟨⟨gw, cw, gl, cl, rfl, how, hol⟩, hb1⟩
  have hmb := (MBox.new w1 (.slice (some ⟨gw, 0, none⟩) 2 cw) (.slice (some ⟨gl, 0, none⟩) 2 cl) false)
  obtain ⟨z, hz⟩ : ∃ z, z = w1.heap.size := ⟨_, rfl⟩
  obtain ⟨w2, hw2⟩ : ∃ w2 : World, w2 = w1.alloc (.cells #[.slice (some ⟨gw, 0, none⟩) 2 cw, .slice (some ⟨gl, 0, none⟩) 2 cl, .bool false] 46) := ⟨_, rfl⟩
  have HW2 := Lib.hid (And.intro hz hw2)
  have hb2 : Below w1.heap.size w1 w2 := by rw [hw2]; exact below1 w1 _
  rw [← hw2, ← hz] at hmb
  have HM2 := Lib.hid hmb
  have HO2 := Lib.hid (And.intro (owns_below how hb2) (owns_below hol hb2))
  have HB2 := Lib.hid (below_then hb1 hb1.size hb2)
  clear hz hw2 hmb how hol hb1 hb2
  go_upto_region 2 with (fail)
  rw [← HW2.out.1, ← HW2.out.2]
  go_wp2_with fail
  refine (HASK.out _).mono ?_
  rintro e w3 ⟨rfl, hb3⟩
  have HM3 := Lib.hid (HM2.out.below hb3)
  have HO3 := Lib.hid (And.intro (owns_below HO2.out.1 hb3) (owns_below HO2.out.2 hb3))
  have HB3 := Lib.hid (below_then HB2.out HB2.out.size hb3)
  clear hb3 HM2 HO2 HB2 HW2
  go_wp2_with fail
  refine (HASK.out _).mono ?_
  rintro e w4 ⟨rfl, hb4⟩
  have HO4 := Lib.hid (And.intro (owns_below HO3.out.1 hb4) (owns_below HO3.out.2 hb4))
  have HB4 := Lib.hid (below_then HB3.out HB3.out.size hb4)
  have hm4 := HM3.out.below hb4
  obtain ⟨⟨hd0, hd1, hd2⟩, _⟩ := mbox_cells (hm4.alloc (.cells #[.int .i64 0, .int .i64 0, .int .u64 0, .int .i64 0, .int .i64 0, .int .u64 0] 24))
  clear hb4 HM3 HO3 HB3 hm4
  go_wp2_with fail
  obtain ⟨w5, hw5⟩ : ∃ w5 : World, w5 = (w4.alloc (.cells #[.int .i64 0, .int .i64 0, .int .u64 0, .int .i64 0, .int .i64 0, .int .u64 0] 24)).alloc (.cells #[.int .i64 0, .int .i64 1, .int .i64 0, .int .i64 1, .int .i64 1, .int .i64 1, .int .i64 1, .int .i64 0, .int .i64 0, .int .i64 1, .int .i64 1] 3) := ⟨_, rfl⟩
  have hb5 : Below w4.heap.size w4 w5 := by rw [hw5]; exact below2 w4 _ _
  have h5a : w5.heap[w4.heap.size]? = some (.cells (flatS [⟨0, 0, 0⟩, ⟨0, 0, 0⟩]).toArray 24 (0, 0)) := by
    rw [hw5]
    exact ((below1 (w4.alloc (.cells #[.int .i64 0, .int .i64 0, .int .u64 0, .int .i64 0, .int .i64 0, .int .u64 0] 24)) (.cells #[.int .i64 0, .int .i64 1, .int .i64 0, .int .i64 1, .int .i64 1, .int .i64 1, .int .i64 1, .int .i64 0, .int .i64 0, .int .i64 1, .int .i64 1] 3)).block _ (by simp)).trans (World.alloc_heap_new w4 _)
  have h5b : w5.heap[w4.heap.size + 1]? = some (.cells (wkPicks.map (Value.int .i64)).toArray 3 (0, 0)) := by
    have := World.alloc_heap_new (w4.alloc (.cells #[.int .i64 0, .int .i64 0, .int .u64 0, .int .i64 0, .int .i64 0, .int .u64 0] 24)) (.cells #[.int .i64 0, .int .i64 1, .int .i64 0, .int .i64 1, .int .i64 1, .int .i64 1, .int .i64 1, .int .i64 0, .int .i64 0, .int .i64 1, .int .i64 1] 3)
    rw [World.size_alloc, ← hw5] at this
    exact this
  have hS : SpinsAt w5 (.slice (some ⟨w4.heap.size, 0, none⟩) 2 2) [⟨0, 0, 0⟩, ⟨0, 0, 0⟩] := ⟨_, 2, rfl, fun _ => ⟨_, 0, rfl, fun j u hj => by
    simp only [World.cell?, h5a, Nat.zero_add]
    simpa using hj⟩⟩
  have hN : NumsAt w5 .i64 (.slice (some ⟨w4.heap.size + 1, 0, none⟩) 11 11) wkPicks := ⟨_, 11, rfl, fun _ => ⟨_, 0, rfl, fun i hi => by
    simp only [World.cell?, h5b, Nat.zero_add]
    simp [hi]⟩⟩
  have HPLAY := Lib.hid (wk_play (.agg #[.slice (some ⟨gw, 0, none⟩) 2 cw, .slice (some ⟨gl, 0, none⟩) 2 cl, .bool false]) _ _ w5 ⟨_, _, rfl, nums_of_owns (by decide) (owns_below HO4.out.1 hb5), bools_of_owns (by decide) (owns_below HO4.out.2 hb5)⟩ hS hN)
  have HB5 := Lib.hid (below_then HB4.out HB4.out.size hb5)
  rw [← hw5]
  clear hw5 hb5 h5a h5b hS hN HO4 HB4 hd0 hd1 hd2
  refine HPLAY.out.mono ?_
  rintro e w6 ⟨⟨gx, cx, y, g, gh, ch, rfl, ⟨x0, x1⟩, ⟨y0, y1⟩, hn, py, ny, cy, rfl⟩, hb6⟩
  have HB6 := Lib.hid (below_then HB5.out HB5.out.size hb6)
  have HNU := Lib.hid hn
  clear hb6 hn HPLAY HB5
  obtain ⟨w7, hw7⟩ : ∃ w7 : World, w7 = w6.alloc (.cells #[.slice (some ⟨gx, 0, none⟩) 2 cx, .slice py ny cy, .bool false] 46) := ⟨_, rfl⟩
  have hb7 : Below w6.heap.size w6 w7 := by rw [hw7]; exact below1 w6 _
  have x0 := below_cell hb7 x0
  have x1 := below_cell hb7 x1
  have y0 := below_cell hb7 y0
  have y1 := below_cell hb7 y1
  have HNU := Lib.hid (nums_below HNU.out hb7)
  have HB7 := Lib.hid (below_then HB6.out HB6.out.size hb7)
  have HM7 := Lib.hid (show MBox w7 w6.heap.size (.slice (some ⟨gx, 0, none⟩) 2 cx) (.slice py ny cy) false by rw [hw7]; exact MBox.new w6 _ _ _)
  have HW7 := Lib.hid hw7
  clear hw7 hb7 HB6
  go_upto_region 4 with (fail)
  rw [← HW7.out]
  obtain ⟨⟨hd0, hd1, hd2⟩, _⟩ := mbox_cells HM7.out
  clear HW7 HM7
  have HY := Lib.hid (And.intro y0 y1)
  go_wp2_with fail
  have hE : NumsAt (w7.alloc (.cells #[.int .i64 0, .int .i64 1] 3)) .i64 (.slice (some ⟨w7.heap.size, 0, none⟩) 2 2) [0, 1] := ⟨_, 2, rfl, fun _ => ⟨_, 0, rfl, fun i hi => by
    have hnew := World.alloc_heap_new w7 (.cells (([0, 1] : List Int).map (Value.int .i64)).toArray 3)
    have hnew' : (w7.alloc (.cells #[.int .i64 0, .int .i64 1] 3)).heap[w7.heap.size]? = some (.cells (([0, 1] : List Int).map (Value.int .i64)).toArray 3 (0, 0)) := hnew
    simp only [World.cell?, hnew', Nat.zero_add]
    rw [List.getElem?_toArray, List.getElem?_map, List.getElem?_eq_getElem hi]
    rfl⟩⟩
  have hb8 := below1 w7 (.cells #[.int .i64 0, .int .i64 1] 3)
  refine (equalI_c _ _ [0, 1] [0, 1] _ (nums_below HNU.out hb8) hE (by decide) (by decide)).mono ?_
  rintro e w9 ⟨rfl, hb9⟩
  have hb79 := below_then hb8 hb8.size hb9
  have y0 := below_cell hb79 HY.out.1
  have y1 := below_cell hb79 HY.out.2
  have HB9 := Lib.hid (below_then HB7.out HB7.out.size hb79)
  clear hb8 hb9 hb79 hE HNU
  rw [show decide (([0, 1] : List Int) = [0, 1]) = true from rfl]
  go_wp2
  go_ret
  exact ⟨rfl, HB9.out⟩

end Go.Proofs.Ytcledklajcdfiaa
