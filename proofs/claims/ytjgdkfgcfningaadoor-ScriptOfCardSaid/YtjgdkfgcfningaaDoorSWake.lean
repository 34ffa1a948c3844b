/-
  wakes, the first test of the statements of layer 3, returns true; what was in memory stays.
  Conditions: the package's table of parts is as it was laid.
-/
import Derived.Test.YtjgdkfgcfningaaDoorSWord2
import Derived.Test.YtjgdkfgcfningaaDoorSOwn
namespace Go.Proofs.YtjgdkfgcfningaaDoor
open Go.RowKit Go.Shelf
attribute [local go_sem] Oper.semAt_some

def wakeIn : List Nat := [1, 769, 9, 5, 6, 7, 8, 131330]
def wakeOut : List Nat := [1, 257, 9, 5, 6, 7, 8, 131330]
def wakeS : SM := ⟨2, 1, [[], [⟨9, 5, 6, 7, 8⟩]], [1, 1, 1]⟩
theorem wake_read : readL wakeIn = wakeS := by
  have e1 : cpusN 1 = 2 := by decide +kernel
  have e2 : pagesN 1 = 1 := by decide +kernel
  have h : rd 2 [769, 9, 5, 6, 7, 8, 131330] ([[], []], []) = ([[], [⟨9, 5, 6, 7, 8⟩]], [1, 1, 1]) := by
    rw [rd_call _ _ _ _ (by decide +kernel) (by decide), show List.drop 5 [9, 5, 6, 7, 8, 131330] = [131330] from rfl, rd_pick _ _ _ _ (by decide +kernel), rd_nil]
    have e3 : cpuOf 2 769 = 1 := by decide +kernel
    have e4 : cpuOf 2 131330 = 1 := by decide +kernel
    have e5 : manyS 131330 0 = 3 := by decide +kernel
    simp [callS, pickS, e3, e4, e5, tot, addC, callAt, List.replicate]
  show (⟨(cpusN 1 : Nat), (pagesN 1 : Nat), (rd (cpusN 1) [769, 9, 5, 6, 7, 8, 131330] (List.replicate (cpusN 1) [], [])).1, (rd (cpusN 1) [769, 9, 5, 6, 7, 8, 131330] (List.replicate (cpusN 1) [], [])).2⟩ : SM) = wakeS
  rw [e1, e2, show List.replicate 2 ([] : List CallM) = [[], []] from rfl, h]
  rfl
theorem wake_words : wordsL wakeS = wakeOut := by decide +kernel
theorem wake_ok : okS wakeS := by unfold okS wakeS; simp [tot]
theorem RI.lit (w : World) (xs : List Int) {cs : Array Value} (h : cs = (xs.map (Value.int .i64)).toArray) : RI (w.alloc (.cells cs 3)) (some ⟨w.heap.size, 0, none⟩) xs.length xs.length xs := by
  subst h
  have hh := World.alloc_heap_new w (.cells (xs.map (Value.int .i64)).toArray 3)
  exact ⟨⟨_, _, rfl, fun _ => ⟨_, 0, rfl, fun i hi => by unfold World.cell?; rw [hh]; simp [hi]⟩⟩, rfl, Nat.le_refl _, fun h => by cases h⟩
theorem WAt.lit (w : World) (ws : List Nat) {cs : Array Value} (h : cs = (ws.map nv).toArray) (hb : ∀ x ∈ ws, x < 18446744073709551616) : WAt (w.alloc (.cells cs 37)) (some ⟨w.heap.size, 0, none⟩) ws.length ws.length ws := by
  subst h
  have hh := World.alloc_heap_new w (.cells (ws.map nv).toArray 37)
  exact ⟨⟨_, _, by rw [List.length_map], fun _ => ⟨_, 0, rfl, fun i hi => by rw [List.length_map] at hi; unfold World.cell?; rw [hh]; simp [hi, nv]⟩⟩, rfl, Nat.le_refl _, hb⟩
theorem run_eql_wake (w : World) : (binOp .eql 53 (.agg #[.int .u64 9, .int .u64 5, .int .u64 6, .int .u64 7, .int .u64 8]) (.agg #[.int .u64 9, .int .u64 5, .int .u64 6, .int .u64 7, .int .u64 8])).run Tryd.prog w = .ok (.bool true) w := by kernel_rfl
theorem nums_nv {W : World} {B m : Nat} {v : Value} {ws : List Nat} (hm : ws.length = m) (h : W.ownsRow B 37 1 v m (ws.map nv)) : NumsAt W .u64 v (ws.map Int.ofNat) := by
  have e : ws.map nv = (ws.map Int.ofNat).map (Value.int .u64) := by rw [List.map_map]; rfl
  rw [e] at h
  exact nums_of_owns (by rw [List.length_map]; exact hm) h

set_option maxRecDepth 100000 in
set_option maxHeartbeats 4000000 in
theorem wakes_c (W : World) (hT : Tab W) : Calls Tryd.prog 8 #[] W fun e w' => e = .returned (.bool true) ∧ Below W.heap.size W w' := by
  obtain ⟨w1, hw1⟩ : ∃ w : World, w = W.alloc (.cells #[.int .u64 1, .int .u64 769, .int .u64 9, .int .u64 5, .int .u64 6, .int .u64 7, .int .u64 8, .int .u64 131330] 37) := ⟨_, rfl⟩
  have hb1 : Below W.heap.size W w1 := by rw [hw1]; exact (Below.refl _ _).alloc (Nat.le_refl _) _
  have hL : WAt w1 (some ⟨W.heap.size, 0, none⟩) 8 8 wakeIn := by rw [hw1]; exact WAt.lit W wakeIn rfl (by decide)
  have HRD := Lib.hid (read_c _ _ _ wakeIn w1 hL (hT.below hb1))
  rw [wake_read] at HRD
  have HT := Lib.hid (hT.below hb1)
  have hws : W.heap.size ≤ w1.heap.size := hb1.size
  have HB1 := Lib.hid hb1
  clear hL hT hb1
  go_enter Tryd.func8, Tryd.ntmps8
  go_wp2_with fail
  rw [← hw1]
  clear hw1
  refine HRD.out.mono ?_
  rintro e w2 ⟨⟨z, vs, vp, rfl, hR, hP, hz⟩, hb2⟩
  obtain ⟨q, d, rfl⟩ := owns_slice hP
  obtain ⟨w3, hw3⟩ : ∃ w : World, w = w2.alloc (.cells #[.int .i64 2, .int .i64 1, .slice (some ⟨z, 0, none⟩) 2 2, .slice q 3 d] 25) := ⟨_, rfl⟩
  have hb3 : Below w2.heap.size w2 w3 := by rw [hw3]; exact (Below.refl _ _).alloc (Nat.le_refl _) _
  have hbx : w3.heap[w2.heap.size]? = some (.cells #[.int .i64 2, .int .i64 1, .slice (some ⟨z, 0, none⟩) 2 2, .slice q 3 d] 25 (0, 0)) := by rw [hw3]; exact World.alloc_heap_new _ _
  have hR3 := hR.below hb3
  have hP3 : RI w3 q 3 d [1, 1, 1] := (RI.of_owns hP).below hb3
  have hS : SAt w3 (.agg #[.int .i64 2, .int .i64 1, .slice (some ⟨z, 0, none⟩) 2 2, .slice q 3 d]) wakeS := ⟨_, _, _, _, _, _, rfl, hR3.lrow (Nat.le_refl _), hP3⟩
  have HOF := Lib.hid (of_yes _ _ w3 hS ((HT.out.below hb2).below hb3) wake_ok)
  have hB3 := (HB1.out.trans (hb2.mono hws)).trans (hb3.mono (Nat.le_trans hws hb2.size))
  obtain ⟨y, hy⟩ : ∃ y, y = w2.heap.size := ⟨_, rfl⟩
  have hy3 : y < w3.heap.size := by rw [hy]; exact (Array.getElem?_eq_some_iff.1 hbx).1
  rw [← hy] at hbx
  have HX := Lib.hid (And.intro hbx (And.intro hR3 hP3))
  have hc0 : w3.cell? ⟨y, 0, none⟩ = some (.int .i64 2) := by simp [World.cell?, hbx]
  have hc1 : w3.cell? ⟨y, 1, none⟩ = some (.int .i64 1) := by simp [World.cell?, hbx]
  have hc2 : w3.cell? ⟨y, 2, none⟩ = some (.slice (some ⟨z, 0, none⟩) 2 2) := by simp [World.cell?, hbx]
  have hc3 : w3.cell? ⟨y, 3, none⟩ = some (.slice q 3 d) := by simp [World.cell?, hbx]
  clear hR hP hR3 hP3 hS hb2 hb3 hbx HB1 HT hz HRD hws
  rw [show wakeS.ls.length = 2 from rfl, show wakeS.ps.length = 3 from rfl, show wakeS.c = 2 from rfl, show wakeS.g = 1 from rfl]
  go_wp2_with fail
  rw [← hw3, ← hy]
  refine HOF.out.mono ?_
  rintro e w4 ⟨hO, hb4⟩
  unfold OfPost at hO
  rw [if_pos rfl, wake_words] at hO
  obtain ⟨p5, c5, rfl, hO5⟩ := hO
  obtain ⟨hbx, hR3, hP3⟩ := HX.out
  have hR4 := hR3.below hb4
  have hP4 := hP3.below hb4
  have hd0 := below_cell hb4 hc0
  have hd1 := below_cell hb4 hc1
  have hd2 := below_cell hb4 hc2
  have hd3 := below_cell hb4 hc3
  have hv1 : 1 < vs.length := by rw [hR3.len]; decide
  have ho := hR4.own 1 hv1 (by decide)
  obtain ⟨q1, d1, hq1⟩ := owns_slice ho
  have hz1 : w4.cell? ⟨z, 1, none⟩ = some (.slice q1 1 d1) := (hR4.box.cell 1 hv1).trans (congrArg some hq1)
  rw [hq1] at ho
  obtain ⟨b6, off6, rfl, hcs⟩ := (VRow.of_owns ho).calls (by decide)
  have hk0 : w4.cell? ⟨b6, off6, none⟩ = some (.int .u64 9) := hcs 0 (by decide) 0 (by decide) _ rfl
  have hk1 : w4.cell? ⟨b6, off6 + 1, none⟩ = some (.int .u64 5) := hcs 0 (by decide) 1 (by decide) _ rfl
  have hk2 : w4.cell? ⟨b6, off6 + 2, none⟩ = some (.int .u64 6) := hcs 0 (by decide) 2 (by decide) _ rfl
  have hk3 : w4.cell? ⟨b6, off6 + 3, none⟩ = some (.int .u64 7) := hcs 0 (by decide) 3 (by decide) _ rfl
  have hk4 : w4.cell? ⟨b6, off6 + 4, none⟩ = some (.int .u64 8) := hcs 0 (by decide) 4 (by decide) _ rfl
  obtain ⟨w5, hw5⟩ : ∃ w : World, w = w4.alloc (.cells #[.int .i64 1, .int .i64 1, .int .i64 1] 3) := ⟨_, rfl⟩
  have hb5 : Below w4.heap.size w4 w5 := by rw [hw5]; exact (Below.refl _ _).alloc (Nat.le_refl _) _
  have hone : RI w5 (some ⟨w4.heap.size, 0, none⟩) 3 3 [1, 1, 1] := by rw [hw5]; exact RI.lit w4 [1, 1, 1] rfl
  have HEI := equalI_c _ _ [1, 1, 1] [1, 1, 1] w5 (hP4.below hb5).nums hone.nums (by decide) (by decide)
  have HW := Lib.hid (And.intro hw5 (And.intro (nums_below (nums_nv rfl hO5) hb5) (below_then (below_then hB3 (Nat.le_trans hB3.size (Nat.le_refl _)) hb4) (Nat.le_trans hB3.size hb4.size) hb5)))
  have HEQ := Lib.hid HEI
  have hws : W.heap.size ≤ w5.heap.size := Nat.le_trans (Nat.le_trans hB3.size hb4.size) hb5.size
  rw [show wakeOut.length = 8 from rfl] at *
  have hcmp := run_eql_wake
  clear hO5 hbx hR3 hP3 hR4 hP4 hc0 hc1 hc2 hc3 ho hq1 hcs HX HOF hw3 hb4 hb5 hone HEI hB3 hw5 hv1 hy3 hy
  try rw [show (wakeS.ls[1]).length = 1 from rfl] at *
  go_wp2_with fail
  rw [← HW.out.1]
  refine HEQ.out.mono ?_
  rintro e w6 ⟨rfl, hb6⟩
  obtain ⟨w7, hw7⟩ : ∃ w : World, w = w6.alloc (.cells #[.int .u64 1, .int .u64 257, .int .u64 9, .int .u64 5, .int .u64 6, .int .u64 7, .int .u64 8, .int .u64 131330] 37) := ⟨_, rfl⟩
  have hb7 : Below w6.heap.size w6 w7 := by rw [hw7]; exact (Below.refl _ _).alloc (Nat.le_refl _) _
  have hlit : NumsAt w7 .u64 (.slice (some ⟨w6.heap.size, 0, none⟩) 8 8) (wakeOut.map Int.ofNat) := by rw [hw7]; exact (WAt.lit w6 wakeOut rfl (by decide)).nums
  have HE2 := equalW_c _ _ (wakeOut.map Int.ofNat) (wakeOut.map Int.ofNat) w7 (nums_below (nums_below HW.out.2.1 hb6) hb7) hlit (by decide) (by decide)
  have hB7 := below_then (below_then HW.out.2.2 hws hb6) (Nat.le_trans hws hb6.size) hb7
  have hws7 : W.heap.size ≤ w7.heap.size := hB7.size
  have HE3 := Lib.hid HE2
  have HB7 := Lib.hid hB7
  clear hb6 hb7 hlit HE2 hB7 HEQ HW
  go_wp2_with fail
  rw [← hw7]
  clear hw7
  refine HE3.out.mono ?_
  rintro e w8 ⟨rfl, hb8⟩
  go_wp2
  go_ret
  exact ⟨rfl, below_then HB7.out hws7 hb8⟩

end Go.Proofs.YtjgdkfgcfningaaDoor
