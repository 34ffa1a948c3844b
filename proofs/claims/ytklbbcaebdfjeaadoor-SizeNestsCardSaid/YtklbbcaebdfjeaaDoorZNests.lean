/-
  SizeNests returns true for every two blocks; what was in memory stays.
  Conditions: the package's table of sizes is as it was laid; the ranges of Go's types.
-/
import Derived.Test.YtklbbcaebdfjeaaDoorZWakes
import Derived.Test.YtklbbcaebdfjeaaDoorZApart
import Derived.Test.YtklbbcaebdfjeaaDoorZMath
namespace Go.Proofs.YtklbbcaebdfjeaaDoor
open Go.RowKit Go.Shelf
attribute [local go_sem] Oper.semAt_some

/-- Two variables that hold blocks, ahead of all else. -/
def NS (W : World) (a c a' c' : Int) (w : World) : Prop := BBox w W.heap.size a c ∧ BBox w (W.heap.size + 1) a' c' ∧ Tab w ∧ Below W.heap.size W w
theorem NS.below {W : World} {a c a' c' : Int} {w w' : World} (h : NS W a c a' c' w) (hb : Below w.heap.size w w') : NS W a c a' c' w' := ⟨h.1.below hb, h.2.1.below hb, h.2.2.1.below hb, below_then h.2.2.2 h.2.2.2.size hb⟩
theorem NS.blks {W : World} {a c a' c' : Int} {w : World} (_ : NS W a c a' c' w) : BlksAt (w.alloc (.cells #[.int .i64 a, .int .i64 c, .int .i64 a', .int .i64 c'] 33)) (.slice (some ⟨w.heap.size, 0, none⟩) 2 2) [(a, c), (a', c')] := by
  refine ⟨_, 2, rfl, fun _ => ⟨_, 0, rfl, fun i hi => ?_⟩⟩
  have hh := World.alloc_heap_new w (.cells #[.int .i64 a, .int .i64 c, .int .i64 a', .int .i64 c'] 33)
  simp only [World.cell?, hh]
  match i, hi with
  | 0, _ => exact ⟨rfl, rfl⟩
  | 1, _ => exact ⟨rfl, rfl⟩
  | i + 2, h => exact absurd (show i + 2 < 2 from h) (by omega)
theorem NS.swap {W : World} {a c a' c' : Int} {w : World} (hz : 1 ≤ W.heap.size) (h : NS W a c a' c' w) : NS W a' c' a c ((((w.setCell ⟨W.heap.size, 0, none⟩ (.int .i64 a')).setCell ⟨W.heap.size, 1, none⟩ (.int .i64 c')).setCell ⟨W.heap.size + 1, 0, none⟩ (.int .i64 a)).setCell ⟨W.heap.size + 1, 1, none⟩ (.int .i64 c)) := by
  obtain ⟨h1, h2, h3, h4⟩ := h
  refine ⟨((h1.put a' c').other (by omega) _).other (by omega) _, BBox.put ((h2.other (by omega) _).other (by omega) _) a c, ?_, ?_⟩
  · refine h3.belowB (B := 1) (by decide) ?_
    exact ((((Below.refl 1 w).setCell (p := ⟨W.heap.size, 0, none⟩) hz _).setCell (p := ⟨W.heap.size, 1, none⟩) hz _).setCell (p := ⟨W.heap.size + 1, 0, none⟩) (by simp) _).setCell (p := ⟨W.heap.size + 1, 1, none⟩) (by simp) _
  · exact (((h4.setCell (p := ⟨W.heap.size, 0, none⟩) (Nat.le_refl _) _).setCell (p := ⟨W.heap.size, 1, none⟩) (Nat.le_refl _) _).setCell (p := ⟨W.heap.size + 1, 0, none⟩) (Nat.le_succ _) _).setCell (p := ⟨W.heap.size + 1, 1, none⟩) (Nat.le_succ _) _

set_option maxRecDepth 100000 in
set_option maxHeartbeats 16000000 in
theorem nests_e1 (a c a' c' : Int) (ha : I64 a) (ha' : I64 a') (h1 : mayB a c = false) (ho : ovB a c a' c' = false) (hp : apB [(a, c), (a', c')] = false) (W : World) (hT : Tab W) : Calls Tryd.prog 8 #[blkV a c, blkV a' c'] W fun e w' => e = .returned (.bool true) ∧ Below W.heap.size W w' := by
  obtain ⟨w1, hw1⟩ : ∃ X : World, X = (W.alloc (.cells #[.int .i64 a, .int .i64 c] 33)).alloc (.cells #[.int .i64 a', .int .i64 c'] 33) := ⟨_, rfl⟩
  have hB1 : Below W.heap.size W w1 := by rw [hw1]; exact ((Below.refl _ _).alloc (Nat.le_refl _) _).alloc (by simp) _
  have hX0 : BBox w1 W.heap.size a c := by rw [hw1]; exact (BBox.new _ _ _).alloc _
  have hX1 : BBox w1 (W.heap.size + 1) a' c' := by rw [hw1]; have := BBox.new (W.alloc (.cells #[.int .i64 a, .int .i64 c] 33)) a' c'; simpa using this
  have hF : NS W a c a' c' w1 := ⟨hX0, hX1, hT.below hB1, hB1⟩
  have HW := Lib.hid (wakes_c w1 (hT.below hB1))
  have HI := Lib.hid (And.intro ha ha')
  have HZ := Lib.hid hT.lt
  clear hX0 hX1 hT hB1 ha ha'
  go_enter Tryd.func8, Tryd.ntmps8
  go_wp2_with fail
  rw [← hw1]
  clear hw1
  refine HW.out.mono ?_
  rintro e w2 ⟨rfl, hb⟩
  have hF := hF.below hb
  clear HW hb
  obtain ⟨d0, d1⟩ := hF.1.cells
  have HC := Lib.hid (check_c a c HI.out.1 w2 hF.2.2.1)
  rw [h1] at HC
  have HF := Lib.hid hF
  clear hF
  go_wp2_with fail
  refine HC.out.mono ?_
  rintro e w3 ⟨rfl, hb⟩
  have HF := Lib.hid (HF.out.below hb)
  clear HC hb d0 d1
  obtain ⟨d0, d1⟩ := HF.out.1.cells
  obtain ⟨e0, e1⟩ := HF.out.2.1.cells
  have HO := Lib.hid (over_c a c a' c' HI.out.1 HI.out.2 w3 HF.out.2.2.1)
  rw [ho] at HO
  go_wp2_with fail
  refine HO.out.mono ?_
  rintro e w5 ⟨rfl, hb⟩
  have HF := Lib.hid (HF.out.below hb)
  clear HO hb d0 d1 e0 e1
  obtain ⟨d0, d1⟩ := HF.out.1.cells
  obtain ⟨e0, e1⟩ := HF.out.2.1.cells
  obtain ⟨w6, hw6⟩ : ∃ X : World, X = w5.alloc (.cells #[.int .i64 a, .int .i64 c, .int .i64 a', .int .i64 c'] 33) := ⟨_, rfl⟩
  have hB6 : Below w5.heap.size w5 w6 := by rw [hw6]; exact (Below.refl _ _).alloc (Nat.le_refl _) _
  have HA := Lib.hid (apart_c _ [(a, c), (a', c')] w6 (by rw [hw6]; exact HF.out.blks) (fun b hb => by
    rcases List.mem_cons.1 hb with rfl | hb
    · exact HI.out.1
    · rw [List.mem_singleton.1 hb]; exact HI.out.2) (by simp) (HF.out.2.2.1.below hB6))
  rw [hp] at HA
  have HF := Lib.hid (HF.out.below hB6)
  clear hB6
  go_wp2_with fail
  rw [← hw6]
  clear hw6
  refine HA.out.mono ?_
  rintro e w7 ⟨rfl, hb⟩
  have HF := Lib.hid (HF.out.below hb)
  clear HA hb d0 d1 e0 e1
  go_wp2
  go_ret
  exact ⟨rfl, HF.out.2.2.2⟩

set_option maxRecDepth 100000 in
set_option maxHeartbeats 16000000 in
theorem nests_e2 (a c a' c' : Int) (ha : I64 a) (ha' : I64 a') (h1 : mayB a c = true) (h2 : mayB a' c' = false) (ho : ovB a c a' c' = false) (hp : apB [(a, c), (a', c')] = false) (W : World) (hT : Tab W) : Calls Tryd.prog 8 #[blkV a c, blkV a' c'] W fun e w' => e = .returned (.bool true) ∧ Below W.heap.size W w' := by
  obtain ⟨w1, hw1⟩ : ∃ X : World, X = (W.alloc (.cells #[.int .i64 a, .int .i64 c] 33)).alloc (.cells #[.int .i64 a', .int .i64 c'] 33) := ⟨_, rfl⟩
  have hB1 : Below W.heap.size W w1 := by rw [hw1]; exact ((Below.refl _ _).alloc (Nat.le_refl _) _).alloc (by simp) _
  have hX0 : BBox w1 W.heap.size a c := by rw [hw1]; exact (BBox.new _ _ _).alloc _
  have hX1 : BBox w1 (W.heap.size + 1) a' c' := by rw [hw1]; have := BBox.new (W.alloc (.cells #[.int .i64 a, .int .i64 c] 33)) a' c'; simpa using this
  have hF : NS W a c a' c' w1 := ⟨hX0, hX1, hT.below hB1, hB1⟩
  have HW := Lib.hid (wakes_c w1 (hT.below hB1))
  have HI := Lib.hid (And.intro ha ha')
  have HZ := Lib.hid hT.lt
  clear hX0 hX1 hT hB1 ha ha'
  go_enter Tryd.func8, Tryd.ntmps8
  go_wp2_with fail
  rw [← hw1]
  clear hw1
  refine HW.out.mono ?_
  rintro e w2 ⟨rfl, hb⟩
  have hF := hF.below hb
  clear HW hb
  obtain ⟨d0, d1⟩ := hF.1.cells
  have HC := Lib.hid (check_c a c HI.out.1 w2 hF.2.2.1)
  rw [h1] at HC
  have HF := Lib.hid hF
  clear hF
  go_wp2_with fail
  refine HC.out.mono ?_
  rintro e w3 ⟨rfl, hb⟩
  have HF := Lib.hid (HF.out.below hb)
  clear HC hb d0 d1
  obtain ⟨d0, d1⟩ := HF.out.2.1.cells
  have HC := Lib.hid (check_c a' c' HI.out.2 w3 HF.out.2.2.1)
  rw [h2] at HC
  go_wp2_with fail
  refine HC.out.mono ?_
  rintro e w4 ⟨rfl, hb⟩
  have HF := Lib.hid (HF.out.below hb)
  clear HC hb d0 d1
  obtain ⟨d0, d1⟩ := HF.out.1.cells
  obtain ⟨e0, e1⟩ := HF.out.2.1.cells
  have HO := Lib.hid (over_c a c a' c' HI.out.1 HI.out.2 w4 HF.out.2.2.1)
  rw [ho] at HO
  go_wp2_with fail
  refine HO.out.mono ?_
  rintro e w5 ⟨rfl, hb⟩
  have HF := Lib.hid (HF.out.below hb)
  clear HO hb d0 d1 e0 e1
  obtain ⟨d0, d1⟩ := HF.out.1.cells
  obtain ⟨e0, e1⟩ := HF.out.2.1.cells
  obtain ⟨w6, hw6⟩ : ∃ X : World, X = w5.alloc (.cells #[.int .i64 a, .int .i64 c, .int .i64 a', .int .i64 c'] 33) := ⟨_, rfl⟩
  have hB6 : Below w5.heap.size w5 w6 := by rw [hw6]; exact (Below.refl _ _).alloc (Nat.le_refl _) _
  have HA := Lib.hid (apart_c _ [(a, c), (a', c')] w6 (by rw [hw6]; exact HF.out.blks) (fun b hb => by
    rcases List.mem_cons.1 hb with rfl | hb
    · exact HI.out.1
    · rw [List.mem_singleton.1 hb]; exact HI.out.2) (by simp) (HF.out.2.2.1.below hB6))
  rw [hp] at HA
  have HF := Lib.hid (HF.out.below hB6)
  clear hB6
  go_wp2_with fail
  rw [← hw6]
  clear hw6
  refine HA.out.mono ?_
  rintro e w7 ⟨rfl, hb⟩
  have HF := Lib.hid (HF.out.below hb)
  clear HA hb d0 d1 e0 e1
  go_wp2
  go_ret
  exact ⟨rfl, HF.out.2.2.2⟩

set_option maxRecDepth 100000 in
set_option maxHeartbeats 16000000 in
theorem nests_00 (a c a' c' : Int) (ha : I64 a) (ha' : I64 a') (h1 : mayB a c = true) (h2 : mayB a' c' = true) (hcc : c ≤ c') (ho : ovB a c a' c' = false) (W : World) (hT : Tab W) : Calls Tryd.prog 8 #[blkV a c, blkV a' c'] W fun e w' => e = .returned (.bool true) ∧ Below W.heap.size W w' := by
  obtain ⟨r, har, hde, hr1, hr2⟩ := nests h1 h2 (by omega)
  have ho2 : ovB a' c' a c = false := by rw [ovB_comm]; exact ho
  have hp : apB [(a, c), (a', c')] = true := by rw [apB_two h1 h2, ho]; rfl
  rw [ho] at hde
  have HRA := Lib.hid (show ¬ r = a' from by simpa using hde)
  clear hde
  obtain ⟨w1, hw1⟩ : ∃ X : World, X = (W.alloc (.cells #[.int .i64 a, .int .i64 c] 33)).alloc (.cells #[.int .i64 a', .int .i64 c'] 33) := ⟨_, rfl⟩
  have hB1 : Below W.heap.size W w1 := by rw [hw1]; exact ((Below.refl _ _).alloc (Nat.le_refl _) _).alloc (by simp) _
  have hX0 : BBox w1 W.heap.size a c := by rw [hw1]; exact (BBox.new _ _ _).alloc _
  have hX1 : BBox w1 (W.heap.size + 1) a' c' := by rw [hw1]; have := BBox.new (W.alloc (.cells #[.int .i64 a, .int .i64 c] 33)) a' c'; simpa using this
  have hF : NS W a c a' c' w1 := ⟨hX0, hX1, hT.below hB1, hB1⟩
  have HW := Lib.hid (wakes_c w1 (hT.below hB1))
  have HI := Lib.hid (And.intro ha ha')
  have HZ := Lib.hid hT.lt
  clear hX0 hX1 hT hB1 ha ha'
  go_enter Tryd.func8, Tryd.ntmps8
  go_wp2_with fail
  rw [← hw1]
  clear hw1
  refine HW.out.mono ?_
  rintro e w2 ⟨rfl, hb⟩
  have hF := hF.below hb
  clear HW hb
  obtain ⟨d0, d1⟩ := hF.1.cells
  have HC := Lib.hid (check_c a c HI.out.1 w2 hF.2.2.1)
  rw [h1] at HC
  have HF := Lib.hid hF
  clear hF
  go_wp2_with fail
  refine HC.out.mono ?_
  rintro e w3 ⟨rfl, hb⟩
  have HF := Lib.hid (HF.out.below hb)
  clear HC hb d0 d1
  obtain ⟨d0, d1⟩ := HF.out.2.1.cells
  have HC := Lib.hid (check_c a' c' HI.out.2 w3 HF.out.2.2.1)
  rw [h2] at HC
  go_wp2_with fail
  refine HC.out.mono ?_
  rintro e w4 ⟨rfl, hb⟩
  have HF := Lib.hid (HF.out.below hb)
  clear HC hb d0 d1
  obtain ⟨d0, d1⟩ := HF.out.1.cells
  obtain ⟨e0, e1⟩ := HF.out.2.1.cells
  have HR := Lib.hid (aroundF_c a c c' HI.out.1 w4 HF.out.2.2.1)
  rw [har] at HR
  go_wp2_with fail
  clear d0 d1 e0 e1
  refine HR.out.mono ?_
  rintro e w6 ⟨rfl, hb⟩
  have HF := Lib.hid (HF.out.below hb)
  clear HR hb
  obtain ⟨w7, hw7⟩ : ∃ X : World, X = w6.alloc (.cells #[.int .i64 r, .int .i64 c'] 33) := ⟨_, rfl⟩
  have hB7 : Below w6.heap.size w6 w7 := by rw [hw7]; exact (Below.refl _ _).alloc (Nat.le_refl _) _
  have hX7 : BBox w7 w6.heap.size r c' := by rw [hw7]; exact BBox.new _ _ _
  have hF7 := HF.out.below hB7
  obtain ⟨y, hy⟩ : ∃ y, y = w6.heap.size := ⟨_, rfl⟩
  have HY := Lib.hid hy
  rw [← hy] at hX7
  obtain ⟨F, hFE⟩ : ∃ F : World → Prop, F = fun w => NS W a c a' c' w ∧ BBox w y r c' := ⟨_, rfl⟩
  have HFE := Lib.hid (show ∀ w, F w → NS W a c a' c' w ∧ BBox w y r c' from fun w h => by rw [hFE] at h; exact h)
  have HFB := Lib.hid (show ∀ w w', F w → Below w.heap.size w w' → F w' from fun w w' h hb => by
    rw [hFE] at h ⊢
    exact ⟨h.1.below hb, h.2.below hb⟩)
  have hF : F w7 := by rw [hFE]; exact ⟨hF7, hX7⟩
  clear hFE hB7 hX7 hF7 HF hy
  dsimp only
  go_wp2_with fail
  rw [← hw7, ← HY.out]
  clear hw7 HY
  refine wpTwo_begin (T := F) (S := fun _ => True) (late := fun _ => false) (by kernel_rfl) ?_
  obtain ⟨X0, hX0⟩ : ∃ X : World, X = w7.drew := ⟨_, rfl⟩
  rw [← hX0]
  have hF := HFB.out _ X0 hF (by rw [hX0]; exact (Below.refl _ _).drew)
  clear hX0
  refine wpTwo_takeT (i := 0) (v := .int .i64 0) rfl (by kernel_rfl) (by kernel_rfl) (by kernel_rfl) (fun _ _ _ h => h) ⟨by rfl, ?_⟩ hF ?_
  · rintro w hTw
    go_simp
  (try simp only [Act.put, List.getElem_toArray, List.getElem_cons_zero, List.setIfInBounds_toArray, List.set_cons_succ, List.set_cons_zero])
  refine wpTwo_takeT (i := 1) (v := .bool true) rfl (by kernel_rfl) (by kernel_rfl) (by kernel_rfl) (fun _ _ _ h => h) ⟨by rfl, ?_⟩ hF ?_
  · rintro w hTw
    go_simp
  (try simp only [Act.put, List.getElem_toArray, List.getElem_cons_succ, List.getElem_cons_zero, List.setIfInBounds_toArray, List.set_cons_succ, List.set_cons_zero])
  refine wpTwo_takeT (i := 2) (v := .bool true) rfl (by kernel_rfl) (by kernel_rfl) (by kernel_rfl) (fun _ _ _ h => h) ⟨by rfl, ?_⟩ hF ?_
  · rintro w hTw
    go_simp
  (try simp only [Act.put, List.getElem_toArray, List.getElem_cons_succ, List.getElem_cons_zero, List.setIfInBounds_toArray, List.set_cons_succ, List.set_cons_zero])
  refine wpTwo_takeT (i := 3) (v := blkV a c) rfl (by kernel_rfl) (by kernel_rfl) (by kernel_rfl) (fun _ _ _ h => h) ⟨by rfl, ?_⟩ hF ?_
  · rintro w hTw
    obtain ⟨t0, t1⟩ := (HFE.out _ hTw).1.1.cells
    go_simp
  (try simp only [Act.put, List.getElem_toArray, List.getElem_cons_succ, List.getElem_cons_zero, List.setIfInBounds_toArray, List.set_cons_succ, List.set_cons_zero])
  refine wpTwo_takeT (i := 4) (v := blkV a' c') rfl (by kernel_rfl) (by kernel_rfl) (by kernel_rfl) (fun _ _ _ h => h) ⟨by rfl, ?_⟩ hF ?_
  · rintro w hTw
    obtain ⟨t0, t1⟩ := (HFE.out _ hTw).1.2.1.cells
    go_simp
  (try simp only [Act.put, List.getElem_toArray, List.getElem_cons_succ, List.getElem_cons_zero, List.setIfInBounds_toArray, List.set_cons_succ, List.set_cons_zero])
  refine wpTwo_takeT (i := 6) (v := blkV r c') rfl (by kernel_rfl) (by kernel_rfl) (by kernel_rfl) (fun _ _ _ h => h) ⟨by rfl, ?_⟩ hF ?_
  · rintro w hTw
    obtain ⟨t0, t1⟩ := (HFE.out _ hTw).2.cells
    go_simp
  (try simp only [Act.put, List.getElem_toArray, List.getElem_cons_succ, List.getElem_cons_zero, List.setIfInBounds_toArray, List.set_cons_succ, List.set_cons_zero])
  refine wpTwo_takeT (i := 7) (v := blkV a' c') rfl (by kernel_rfl) (by kernel_rfl) (by kernel_rfl) (fun _ _ _ h => h) ⟨by rfl, ?_⟩ hF ?_
  · rintro w hTw
    obtain ⟨t0, t1⟩ := (HFE.out _ hTw).1.2.1.cells
    go_simp
  (try simp only [Act.put, List.getElem_toArray, List.getElem_cons_succ, List.getElem_cons_zero, List.setIfInBounds_toArray, List.set_cons_succ, List.set_cons_zero])
  refine wpTwo_takeT (i := 8) (v := .bool false) rfl (by kernel_rfl) (by kernel_rfl) (by kernel_rfl) (fun _ _ _ h => h) ⟨by rfl, ?_⟩ hF ?_
  · rintro w hTw
    go_simp
    exact HRA.out
  (try simp only [Act.put, List.getElem_toArray, List.getElem_cons_succ, List.getElem_cons_zero, List.setIfInBounds_toArray, List.set_cons_succ, List.set_cons_zero])
  refine wpTwo_ready (rs := [5]) (by kernel_rfl) (by simp) ?_
  refine (AllTwo.cons rfl (fun K hK => ?_) AllTwo.nil)
  go_simp
  refine (over_c a c a' c' HI.out.1 HI.out.2 _ (HFE.out _ hF).1.2.2.1).mono ?_
  rintro e Y1 ⟨rfl, hb⟩
  have hF := HFB.out _ _ hF hb
  clear hb
  rw [ho]
  go_wp2_with fail
  refine hK.out _ _ ⟨hF, fun _ _ => trivial⟩ ?_
  clear hK K
  (try simp only [Act.put, List.getElem_toArray, List.getElem_cons_succ, List.getElem_cons_zero, List.setIfInBounds_toArray, List.set_cons_succ, List.set_cons_zero])
  refine wpTwo_takeT (i := 9) (v := .bool true) rfl (by kernel_rfl) (by kernel_rfl) (by kernel_rfl) (fun _ _ _ h => h) ⟨by rfl, ?_⟩ hF ?_
  · rintro w hTw
    go_simp
  (try simp only [Act.put, List.getElem_toArray, List.getElem_cons_succ, List.getElem_cons_zero, List.setIfInBounds_toArray, List.set_cons_succ, List.set_cons_zero])
  refine wpTwo_takeT (i := 10) (v := .bool true) rfl (by kernel_rfl) (by kernel_rfl) (by kernel_rfl) (fun _ _ _ h => h) ⟨by rfl, ?_⟩ hF ?_
  · rintro w hTw
    go_simp
  (try simp only [Act.put, List.getElem_toArray, List.getElem_cons_succ, List.getElem_cons_zero, List.setIfInBounds_toArray, List.set_cons_succ, List.set_cons_zero])
  refine wpTwo_takeT (i := 11) (v := .bool true) rfl (by kernel_rfl) (by kernel_rfl) (by kernel_rfl) (fun _ _ _ h => h) ⟨by rfl, ?_⟩ hF ?_
  · rintro w hTw
    go_simp
  (try simp only [Act.put, List.getElem_toArray, List.getElem_cons_succ, List.getElem_cons_zero, List.setIfInBounds_toArray, List.set_cons_succ, List.set_cons_zero])
  refine wpTwo_takeT (i := 12) (v := blkV a c) rfl (by kernel_rfl) (by kernel_rfl) (by kernel_rfl) (fun _ _ _ h => h) ⟨by rfl, ?_⟩ hF ?_
  · rintro w hTw
    obtain ⟨t0, t1⟩ := (HFE.out _ hTw).1.1.cells
    go_simp
  (try simp only [Act.put, List.getElem_toArray, List.getElem_cons_succ, List.getElem_cons_zero, List.setIfInBounds_toArray, List.set_cons_succ, List.set_cons_zero])
  refine wpTwo_takeT (i := 13) (v := blkV a' c') rfl (by kernel_rfl) (by kernel_rfl) (by kernel_rfl) (fun _ _ _ h => h) ⟨by rfl, ?_⟩ hF ?_
  · rintro w hTw
    obtain ⟨t0, t1⟩ := (HFE.out _ hTw).1.2.1.cells
    go_simp
  (try simp only [Act.put, List.getElem_toArray, List.getElem_cons_succ, List.getElem_cons_zero, List.setIfInBounds_toArray, List.set_cons_succ, List.set_cons_zero])
  refine wpTwo_takeT (i := 15) (v := blkV a' c') rfl (by kernel_rfl) (by kernel_rfl) (by kernel_rfl) (fun _ _ _ h => h) ⟨by rfl, ?_⟩ hF ?_
  · rintro w hTw
    obtain ⟨t0, t1⟩ := (HFE.out _ hTw).1.2.1.cells
    go_simp
  (try simp only [Act.put, List.getElem_toArray, List.getElem_cons_succ, List.getElem_cons_zero, List.setIfInBounds_toArray, List.set_cons_succ, List.set_cons_zero])
  refine wpTwo_takeT (i := 16) (v := blkV a c) rfl (by kernel_rfl) (by kernel_rfl) (by kernel_rfl) (fun _ _ _ h => h) ⟨by rfl, ?_⟩ hF ?_
  · rintro w hTw
    obtain ⟨t0, t1⟩ := (HFE.out _ hTw).1.1.cells
    go_simp
  (try simp only [Act.put, List.getElem_toArray, List.getElem_cons_succ, List.getElem_cons_zero, List.setIfInBounds_toArray, List.set_cons_succ, List.set_cons_zero])
  refine wpTwo_ready (rs := [14]) (by kernel_rfl) (by simp) ?_
  refine (AllTwo.cons rfl (fun K hK => ?_) AllTwo.nil)
  go_simp
  refine (over_c a c a' c' HI.out.1 HI.out.2 _ (HFE.out _ hF).1.2.2.1).mono ?_
  rintro e Y2 ⟨rfl, hb⟩
  have hF := HFB.out _ _ hF hb
  clear hb
  rw [ho]
  go_wp2_with fail
  refine hK.out _ _ ⟨hF, fun _ _ => trivial⟩ ?_
  clear hK K
  (try simp only [Act.put, List.getElem_toArray, List.getElem_cons_succ, List.getElem_cons_zero, List.setIfInBounds_toArray, List.set_cons_succ, List.set_cons_zero])
  refine wpTwo_ready (rs := [17]) (by kernel_rfl) (by simp) ?_
  refine (AllTwo.cons rfl (fun K hK => ?_) AllTwo.nil)
  go_simp
  refine (over_c a' c' a c HI.out.2 HI.out.1 _ (HFE.out _ hF).1.2.2.1).mono ?_
  rintro e Y3 ⟨rfl, hb⟩
  have hF := HFB.out _ _ hF hb
  clear hb
  rw [ho2]
  go_wp2_with fail
  refine hK.out _ _ ⟨hF, fun _ _ => trivial⟩ ?_
  clear hK K
  (try simp only [Act.put, List.getElem_toArray, List.getElem_cons_succ, List.getElem_cons_zero, List.setIfInBounds_toArray, List.set_cons_succ, List.set_cons_zero])
  refine wpTwo_takeT (i := 18) (v := .bool true) rfl (by kernel_rfl) (by kernel_rfl) (by kernel_rfl) (fun _ _ _ h => h) ⟨by rfl, ?_⟩ hF ?_
  · rintro w hTw
    go_simp
  (try simp only [Act.put, List.getElem_toArray, List.getElem_cons_succ, List.getElem_cons_zero, List.setIfInBounds_toArray, List.set_cons_succ, List.set_cons_zero])
  refine wpTwo_takeT (i := 19) (v := .bool true) rfl (by kernel_rfl) (by kernel_rfl) (by kernel_rfl) (fun _ _ _ h => h) ⟨by rfl, ?_⟩ hF ?_
  · rintro w hTw
    go_simp
  (try simp only [Act.put, List.getElem_toArray, List.getElem_cons_succ, List.getElem_cons_zero, List.setIfInBounds_toArray, List.set_cons_succ, List.set_cons_zero])
  refine wpTwo_takeT (i := 20) (v := .bool true) rfl (by kernel_rfl) (by kernel_rfl) (by kernel_rfl) (fun _ _ _ h => h) ⟨by rfl, ?_⟩ hF ?_
  · rintro w hTw
    go_simp
  (try simp only [Act.put, List.getElem_toArray, List.getElem_cons_succ, List.getElem_cons_zero, List.setIfInBounds_toArray, List.set_cons_succ, List.set_cons_zero])
  refine wpTwo_takeT (i := 21) (v := blkV a c) rfl (by kernel_rfl) (by kernel_rfl) (by kernel_rfl) (fun _ _ _ h => h) ⟨by rfl, ?_⟩ hF ?_
  · rintro w hTw
    obtain ⟨t0, t1⟩ := (HFE.out _ hTw).1.1.cells
    go_simp
  (try simp only [Act.put, List.getElem_toArray, List.getElem_cons_succ, List.getElem_cons_zero, List.setIfInBounds_toArray, List.set_cons_succ, List.set_cons_zero])
  refine wpTwo_takeT (i := 22) (v := blkV a' c') rfl (by kernel_rfl) (by kernel_rfl) (by kernel_rfl) (fun _ _ _ h => h) ⟨by rfl, ?_⟩ hF ?_
  · rintro w hTw
    obtain ⟨t0, t1⟩ := (HFE.out _ hTw).1.2.1.cells
    go_simp
  (try simp only [Act.put, List.getElem_toArray, List.getElem_cons_succ, List.getElem_cons_zero, List.setIfInBounds_toArray, List.set_cons_succ, List.set_cons_zero])
  refine wpTwo_takeT (i := 25) (v := blkV a c) rfl (by kernel_rfl) (by kernel_rfl) (by kernel_rfl) (fun _ _ _ h => h) ⟨by rfl, ?_⟩ hF ?_
  · rintro w hTw
    obtain ⟨t0, t1⟩ := (HFE.out _ hTw).1.1.cells
    go_simp
  (try simp only [Act.put, List.getElem_toArray, List.getElem_cons_succ, List.getElem_cons_zero, List.setIfInBounds_toArray, List.set_cons_succ, List.set_cons_zero])
  refine wpTwo_takeT (i := 26) (v := blkV a' c') rfl (by kernel_rfl) (by kernel_rfl) (by kernel_rfl) (fun _ _ _ h => h) ⟨by rfl, ?_⟩ hF ?_
  · rintro w hTw
    obtain ⟨t0, t1⟩ := (HFE.out _ hTw).1.2.1.cells
    go_simp
  (try simp only [Act.put, List.getElem_toArray, List.getElem_cons_succ, List.getElem_cons_zero, List.setIfInBounds_toArray, List.set_cons_succ, List.set_cons_zero])
  refine wpTwo_ready (rs := [23]) (by kernel_rfl) (by simp) ?_
  refine (AllTwo.cons rfl (fun K hK => ?_) AllTwo.nil)
  go_simp
  obtain ⟨Xa, hXa⟩ : ∃ X : World, X = Y3.alloc (.cells #[.int .i64 a, .int .i64 c, .int .i64 a', .int .i64 c'] 33) := ⟨_, rfl⟩
  have HBL := Lib.hid (show BlksAt Xa (.slice (some ⟨Y3.heap.size, 0, none⟩) 2 2) [(a, c), (a', c')] by rw [hXa]; exact (HFE.out _ hF).1.blks)
  have hF := HFB.out _ Xa hF (by rw [hXa]; exact (Below.refl _ _).alloc (Nat.le_refl _) _)
  rw [← hXa]
  clear hXa
  refine hK.out _ _ ⟨hF, fun _ _ => trivial⟩ ?_
  clear hK K
  (try simp only [Act.put, List.getElem_toArray, List.getElem_cons_succ, List.getElem_cons_zero, List.setIfInBounds_toArray, List.set_cons_succ, List.set_cons_zero])
  refine wpTwo_ready (rs := [24]) (by kernel_rfl) (by simp) ?_
  refine (AllTwo.cons rfl (fun K hK => ?_) AllTwo.nil)
  go_simp
  refine (apart_c _ [(a, c), (a', c')] _ HBL.out (fun b hb => by
    rcases List.mem_cons.1 hb with rfl | hb
    · exact HI.out.1
    · rw [List.mem_singleton.1 hb]; exact HI.out.2) (by simp) (HFE.out _ hF).1.2.2.1).mono ?_
  rintro e Y4 ⟨rfl, hb⟩
  have hF := HFB.out _ _ hF hb
  clear hb HBL
  rw [hp]
  go_wp2_with fail
  refine hK.out _ _ ⟨hF, fun _ _ => trivial⟩ ?_
  clear hK K
  (try simp only [Act.put, List.getElem_toArray, List.getElem_cons_succ, List.getElem_cons_zero, List.setIfInBounds_toArray, List.set_cons_succ, List.set_cons_zero])
  refine wpTwo_ready (rs := [27]) (by kernel_rfl) (by simp) ?_
  refine (AllTwo.cons rfl (fun K hK => ?_) AllTwo.nil)
  go_simp
  refine (over_c a c a' c' HI.out.1 HI.out.2 _ (HFE.out _ hF).1.2.2.1).mono ?_
  rintro e Y5 ⟨rfl, hb⟩
  have hF := HFB.out _ _ hF hb
  clear hb
  rw [ho]
  go_wp2_with fail
  refine hK.out _ _ ⟨hF, fun _ _ => trivial⟩ ?_
  clear hK K
  (try simp only [Act.put, List.getElem_toArray, List.getElem_cons_succ, List.getElem_cons_zero, List.setIfInBounds_toArray, List.set_cons_succ, List.set_cons_zero])
  refine wpTwo_takeT (i := 28) (v := .bool true) rfl (by kernel_rfl) (by kernel_rfl) (by kernel_rfl) (fun _ _ _ h => h) ⟨by rfl, ?_⟩ hF ?_
  · rintro w hTw
    go_simp
  (try simp only [Act.put, List.getElem_toArray, List.getElem_cons_succ, List.getElem_cons_zero, List.setIfInBounds_toArray, List.set_cons_succ, List.set_cons_zero])
  refine wpTwo_takeT (i := 29) (v := .bool true) rfl (by kernel_rfl) (by kernel_rfl) (by kernel_rfl) (fun _ _ _ h => h) ⟨by rfl, ?_⟩ hF ?_
  · rintro w hTw
    go_simp
  (try simp only [Act.put, List.getElem_toArray, List.getElem_cons_succ, List.getElem_cons_zero, List.setIfInBounds_toArray, List.set_cons_succ, List.set_cons_zero])
  refine wpTwo_takeT (i := 30) (v := .bool true) rfl (by kernel_rfl) (by kernel_rfl) (by kernel_rfl) (fun _ _ _ h => h) ⟨by rfl, ?_⟩ hF ?_
  · rintro w hTw
    go_simp
  (try simp only [Act.put, List.getElem_toArray, List.getElem_cons_succ, List.getElem_cons_zero, List.setIfInBounds_toArray, List.set_cons_succ, List.set_cons_zero])
  refine wpTwo_end (by kernel_rfl) ?_ _
  have HBE := Lib.hid (HFE.out _ hF).1.2.2.2
  clear hF
  go_wp2
  go_ret
  exact ⟨rfl, HBE.out⟩

set_option maxRecDepth 100000 in
set_option maxHeartbeats 16000000 in
theorem nests_01 (a c a' c' : Int) (ha : I64 a) (ha' : I64 a') (h1 : mayB a c = true) (h2 : mayB a' c' = true) (hcc : c ≤ c') (ho : ovB a c a' c' = true) (W : World) (hT : Tab W) : Calls Tryd.prog 8 #[blkV a c, blkV a' c'] W fun e w' => e = .returned (.bool true) ∧ Below W.heap.size W w' := by
  obtain ⟨r, har, hde, hr1, hr2⟩ := nests h1 h2 (by omega)
  have ho2 : ovB a' c' a c = true := by rw [ovB_comm]; exact ho
  have hp : apB [(a, c), (a', c')] = false := by rw [apB_two h1 h2, ho]; rfl
  rw [ho] at hde
  have HRA := Lib.hid (show r = a' from by simpa using hde)
  clear hde
  obtain ⟨w1, hw1⟩ : ∃ X : World, X = (W.alloc (.cells #[.int .i64 a, .int .i64 c] 33)).alloc (.cells #[.int .i64 a', .int .i64 c'] 33) := ⟨_, rfl⟩
  have hB1 : Below W.heap.size W w1 := by rw [hw1]; exact ((Below.refl _ _).alloc (Nat.le_refl _) _).alloc (by simp) _
  have hX0 : BBox w1 W.heap.size a c := by rw [hw1]; exact (BBox.new _ _ _).alloc _
  have hX1 : BBox w1 (W.heap.size + 1) a' c' := by rw [hw1]; have := BBox.new (W.alloc (.cells #[.int .i64 a, .int .i64 c] 33)) a' c'; simpa using this
  have hF : NS W a c a' c' w1 := ⟨hX0, hX1, hT.below hB1, hB1⟩
  have HW := Lib.hid (wakes_c w1 (hT.below hB1))
  have HI := Lib.hid (And.intro ha ha')
  have HZ := Lib.hid hT.lt
  clear hX0 hX1 hT hB1 ha ha'
  go_enter Tryd.func8, Tryd.ntmps8
  go_wp2_with fail
  rw [← hw1]
  clear hw1
  refine HW.out.mono ?_
  rintro e w2 ⟨rfl, hb⟩
  have hF := hF.below hb
  clear HW hb
  obtain ⟨d0, d1⟩ := hF.1.cells
  have HC := Lib.hid (check_c a c HI.out.1 w2 hF.2.2.1)
  rw [h1] at HC
  have HF := Lib.hid hF
  clear hF
  go_wp2_with fail
  refine HC.out.mono ?_
  rintro e w3 ⟨rfl, hb⟩
  have HF := Lib.hid (HF.out.below hb)
  clear HC hb d0 d1
  obtain ⟨d0, d1⟩ := HF.out.2.1.cells
  have HC := Lib.hid (check_c a' c' HI.out.2 w3 HF.out.2.2.1)
  rw [h2] at HC
  go_wp2_with fail
  refine HC.out.mono ?_
  rintro e w4 ⟨rfl, hb⟩
  have HF := Lib.hid (HF.out.below hb)
  clear HC hb d0 d1
  obtain ⟨d0, d1⟩ := HF.out.1.cells
  obtain ⟨e0, e1⟩ := HF.out.2.1.cells
  have HR := Lib.hid (aroundF_c a c c' HI.out.1 w4 HF.out.2.2.1)
  rw [har] at HR
  go_wp2_with fail
  clear d0 d1 e0 e1
  refine HR.out.mono ?_
  rintro e w6 ⟨rfl, hb⟩
  have HF := Lib.hid (HF.out.below hb)
  clear HR hb
  obtain ⟨w7, hw7⟩ : ∃ X : World, X = w6.alloc (.cells #[.int .i64 r, .int .i64 c'] 33) := ⟨_, rfl⟩
  have hB7 : Below w6.heap.size w6 w7 := by rw [hw7]; exact (Below.refl _ _).alloc (Nat.le_refl _) _
  have hX7 : BBox w7 w6.heap.size r c' := by rw [hw7]; exact BBox.new _ _ _
  have hF7 := HF.out.below hB7
  obtain ⟨y, hy⟩ : ∃ y, y = w6.heap.size := ⟨_, rfl⟩
  have HY := Lib.hid hy
  rw [← hy] at hX7
  obtain ⟨F, hFE⟩ : ∃ F : World → Prop, F = fun w => NS W a c a' c' w ∧ BBox w y r c' := ⟨_, rfl⟩
  have HFE := Lib.hid (show ∀ w, F w → NS W a c a' c' w ∧ BBox w y r c' from fun w h => by rw [hFE] at h; exact h)
  have HFB := Lib.hid (show ∀ w w', F w → Below w.heap.size w w' → F w' from fun w w' h hb => by
    rw [hFE] at h ⊢
    exact ⟨h.1.below hb, h.2.below hb⟩)
  have hF : F w7 := by rw [hFE]; exact ⟨hF7, hX7⟩
  clear hFE hB7 hX7 hF7 HF hy
  dsimp only
  go_wp2_with fail
  rw [← hw7, ← HY.out]
  clear hw7 HY
  refine wpTwo_begin (T := F) (S := fun _ => True) (late := fun _ => false) (by kernel_rfl) ?_
  obtain ⟨X0, hX0⟩ : ∃ X : World, X = w7.drew := ⟨_, rfl⟩
  rw [← hX0]
  have hF := HFB.out _ X0 hF (by rw [hX0]; exact (Below.refl _ _).drew)
  clear hX0
  refine wpTwo_takeT (i := 0) (v := .int .i64 0) rfl (by kernel_rfl) (by kernel_rfl) (by kernel_rfl) (fun _ _ _ h => h) ⟨by rfl, ?_⟩ hF ?_
  · rintro w hTw
    go_simp
  (try simp only [Act.put, List.getElem_toArray, List.getElem_cons_zero, List.setIfInBounds_toArray, List.set_cons_succ, List.set_cons_zero])
  refine wpTwo_takeT (i := 1) (v := .bool true) rfl (by kernel_rfl) (by kernel_rfl) (by kernel_rfl) (fun _ _ _ h => h) ⟨by rfl, ?_⟩ hF ?_
  · rintro w hTw
    go_simp
  (try simp only [Act.put, List.getElem_toArray, List.getElem_cons_succ, List.getElem_cons_zero, List.setIfInBounds_toArray, List.set_cons_succ, List.set_cons_zero])
  refine wpTwo_takeT (i := 2) (v := .bool true) rfl (by kernel_rfl) (by kernel_rfl) (by kernel_rfl) (fun _ _ _ h => h) ⟨by rfl, ?_⟩ hF ?_
  · rintro w hTw
    go_simp
  (try simp only [Act.put, List.getElem_toArray, List.getElem_cons_succ, List.getElem_cons_zero, List.setIfInBounds_toArray, List.set_cons_succ, List.set_cons_zero])
  refine wpTwo_takeT (i := 3) (v := blkV a c) rfl (by kernel_rfl) (by kernel_rfl) (by kernel_rfl) (fun _ _ _ h => h) ⟨by rfl, ?_⟩ hF ?_
  · rintro w hTw
    obtain ⟨t0, t1⟩ := (HFE.out _ hTw).1.1.cells
    go_simp
  (try simp only [Act.put, List.getElem_toArray, List.getElem_cons_succ, List.getElem_cons_zero, List.setIfInBounds_toArray, List.set_cons_succ, List.set_cons_zero])
  refine wpTwo_takeT (i := 4) (v := blkV a' c') rfl (by kernel_rfl) (by kernel_rfl) (by kernel_rfl) (fun _ _ _ h => h) ⟨by rfl, ?_⟩ hF ?_
  · rintro w hTw
    obtain ⟨t0, t1⟩ := (HFE.out _ hTw).1.2.1.cells
    go_simp
  (try simp only [Act.put, List.getElem_toArray, List.getElem_cons_succ, List.getElem_cons_zero, List.setIfInBounds_toArray, List.set_cons_succ, List.set_cons_zero])
  refine wpTwo_takeT (i := 6) (v := blkV r c') rfl (by kernel_rfl) (by kernel_rfl) (by kernel_rfl) (fun _ _ _ h => h) ⟨by rfl, ?_⟩ hF ?_
  · rintro w hTw
    obtain ⟨t0, t1⟩ := (HFE.out _ hTw).2.cells
    go_simp
  (try simp only [Act.put, List.getElem_toArray, List.getElem_cons_succ, List.getElem_cons_zero, List.setIfInBounds_toArray, List.set_cons_succ, List.set_cons_zero])
  refine wpTwo_takeT (i := 7) (v := blkV a' c') rfl (by kernel_rfl) (by kernel_rfl) (by kernel_rfl) (fun _ _ _ h => h) ⟨by rfl, ?_⟩ hF ?_
  · rintro w hTw
    obtain ⟨t0, t1⟩ := (HFE.out _ hTw).1.2.1.cells
    go_simp
  (try simp only [Act.put, List.getElem_toArray, List.getElem_cons_succ, List.getElem_cons_zero, List.setIfInBounds_toArray, List.set_cons_succ, List.set_cons_zero])
  refine wpTwo_takeT (i := 8) (v := .bool true) rfl (by kernel_rfl) (by kernel_rfl) (by kernel_rfl) (fun _ _ _ h => h) ⟨by rfl, ?_⟩ hF ?_
  · rintro w hTw
    go_simp
    exact HRA.out
  (try simp only [Act.put, List.getElem_toArray, List.getElem_cons_succ, List.getElem_cons_zero, List.setIfInBounds_toArray, List.set_cons_succ, List.set_cons_zero])
  refine wpTwo_ready (rs := [5]) (by kernel_rfl) (by simp) ?_
  refine (AllTwo.cons rfl (fun K hK => ?_) AllTwo.nil)
  go_simp
  refine (over_c a c a' c' HI.out.1 HI.out.2 _ (HFE.out _ hF).1.2.2.1).mono ?_
  rintro e Y1 ⟨rfl, hb⟩
  have hF := HFB.out _ _ hF hb
  clear hb
  rw [ho]
  go_wp2_with fail
  refine hK.out _ _ ⟨hF, fun _ _ => trivial⟩ ?_
  clear hK K
  (try simp only [Act.put, List.getElem_toArray, List.getElem_cons_succ, List.getElem_cons_zero, List.setIfInBounds_toArray, List.set_cons_succ, List.set_cons_zero])
  refine wpTwo_takeT (i := 9) (v := .bool true) rfl (by kernel_rfl) (by kernel_rfl) (by kernel_rfl) (fun _ _ _ h => h) ⟨by rfl, ?_⟩ hF ?_
  · rintro w hTw
    go_simp
  (try simp only [Act.put, List.getElem_toArray, List.getElem_cons_succ, List.getElem_cons_zero, List.setIfInBounds_toArray, List.set_cons_succ, List.set_cons_zero])
  refine wpTwo_takeT (i := 10) (v := .bool true) rfl (by kernel_rfl) (by kernel_rfl) (by kernel_rfl) (fun _ _ _ h => h) ⟨by rfl, ?_⟩ hF ?_
  · rintro w hTw
    go_simp
  (try simp only [Act.put, List.getElem_toArray, List.getElem_cons_succ, List.getElem_cons_zero, List.setIfInBounds_toArray, List.set_cons_succ, List.set_cons_zero])
  refine wpTwo_takeT (i := 11) (v := .bool true) rfl (by kernel_rfl) (by kernel_rfl) (by kernel_rfl) (fun _ _ _ h => h) ⟨by rfl, ?_⟩ hF ?_
  · rintro w hTw
    go_simp
  (try simp only [Act.put, List.getElem_toArray, List.getElem_cons_succ, List.getElem_cons_zero, List.setIfInBounds_toArray, List.set_cons_succ, List.set_cons_zero])
  refine wpTwo_takeT (i := 12) (v := blkV a c) rfl (by kernel_rfl) (by kernel_rfl) (by kernel_rfl) (fun _ _ _ h => h) ⟨by rfl, ?_⟩ hF ?_
  · rintro w hTw
    obtain ⟨t0, t1⟩ := (HFE.out _ hTw).1.1.cells
    go_simp
  (try simp only [Act.put, List.getElem_toArray, List.getElem_cons_succ, List.getElem_cons_zero, List.setIfInBounds_toArray, List.set_cons_succ, List.set_cons_zero])
  refine wpTwo_takeT (i := 13) (v := blkV a' c') rfl (by kernel_rfl) (by kernel_rfl) (by kernel_rfl) (fun _ _ _ h => h) ⟨by rfl, ?_⟩ hF ?_
  · rintro w hTw
    obtain ⟨t0, t1⟩ := (HFE.out _ hTw).1.2.1.cells
    go_simp
  (try simp only [Act.put, List.getElem_toArray, List.getElem_cons_succ, List.getElem_cons_zero, List.setIfInBounds_toArray, List.set_cons_succ, List.set_cons_zero])
  refine wpTwo_takeT (i := 15) (v := blkV a' c') rfl (by kernel_rfl) (by kernel_rfl) (by kernel_rfl) (fun _ _ _ h => h) ⟨by rfl, ?_⟩ hF ?_
  · rintro w hTw
    obtain ⟨t0, t1⟩ := (HFE.out _ hTw).1.2.1.cells
    go_simp
  (try simp only [Act.put, List.getElem_toArray, List.getElem_cons_succ, List.getElem_cons_zero, List.setIfInBounds_toArray, List.set_cons_succ, List.set_cons_zero])
  refine wpTwo_takeT (i := 16) (v := blkV a c) rfl (by kernel_rfl) (by kernel_rfl) (by kernel_rfl) (fun _ _ _ h => h) ⟨by rfl, ?_⟩ hF ?_
  · rintro w hTw
    obtain ⟨t0, t1⟩ := (HFE.out _ hTw).1.1.cells
    go_simp
  (try simp only [Act.put, List.getElem_toArray, List.getElem_cons_succ, List.getElem_cons_zero, List.setIfInBounds_toArray, List.set_cons_succ, List.set_cons_zero])
  refine wpTwo_ready (rs := [14]) (by kernel_rfl) (by simp) ?_
  refine (AllTwo.cons rfl (fun K hK => ?_) AllTwo.nil)
  go_simp
  refine (over_c a c a' c' HI.out.1 HI.out.2 _ (HFE.out _ hF).1.2.2.1).mono ?_
  rintro e Y2 ⟨rfl, hb⟩
  have hF := HFB.out _ _ hF hb
  clear hb
  rw [ho]
  go_wp2_with fail
  refine hK.out _ _ ⟨hF, fun _ _ => trivial⟩ ?_
  clear hK K
  (try simp only [Act.put, List.getElem_toArray, List.getElem_cons_succ, List.getElem_cons_zero, List.setIfInBounds_toArray, List.set_cons_succ, List.set_cons_zero])
  refine wpTwo_ready (rs := [17]) (by kernel_rfl) (by simp) ?_
  refine (AllTwo.cons rfl (fun K hK => ?_) AllTwo.nil)
  go_simp
  refine (over_c a' c' a c HI.out.2 HI.out.1 _ (HFE.out _ hF).1.2.2.1).mono ?_
  rintro e Y3 ⟨rfl, hb⟩
  have hF := HFB.out _ _ hF hb
  clear hb
  rw [ho2]
  go_wp2_with fail
  refine hK.out _ _ ⟨hF, fun _ _ => trivial⟩ ?_
  clear hK K
  (try simp only [Act.put, List.getElem_toArray, List.getElem_cons_succ, List.getElem_cons_zero, List.setIfInBounds_toArray, List.set_cons_succ, List.set_cons_zero])
  refine wpTwo_takeT (i := 18) (v := .bool true) rfl (by kernel_rfl) (by kernel_rfl) (by kernel_rfl) (fun _ _ _ h => h) ⟨by rfl, ?_⟩ hF ?_
  · rintro w hTw
    go_simp
  (try simp only [Act.put, List.getElem_toArray, List.getElem_cons_succ, List.getElem_cons_zero, List.setIfInBounds_toArray, List.set_cons_succ, List.set_cons_zero])
  refine wpTwo_takeT (i := 19) (v := .bool true) rfl (by kernel_rfl) (by kernel_rfl) (by kernel_rfl) (fun _ _ _ h => h) ⟨by rfl, ?_⟩ hF ?_
  · rintro w hTw
    go_simp
  (try simp only [Act.put, List.getElem_toArray, List.getElem_cons_succ, List.getElem_cons_zero, List.setIfInBounds_toArray, List.set_cons_succ, List.set_cons_zero])
  refine wpTwo_takeT (i := 20) (v := .bool true) rfl (by kernel_rfl) (by kernel_rfl) (by kernel_rfl) (fun _ _ _ h => h) ⟨by rfl, ?_⟩ hF ?_
  · rintro w hTw
    go_simp
  (try simp only [Act.put, List.getElem_toArray, List.getElem_cons_succ, List.getElem_cons_zero, List.setIfInBounds_toArray, List.set_cons_succ, List.set_cons_zero])
  refine wpTwo_takeT (i := 21) (v := blkV a c) rfl (by kernel_rfl) (by kernel_rfl) (by kernel_rfl) (fun _ _ _ h => h) ⟨by rfl, ?_⟩ hF ?_
  · rintro w hTw
    obtain ⟨t0, t1⟩ := (HFE.out _ hTw).1.1.cells
    go_simp
  (try simp only [Act.put, List.getElem_toArray, List.getElem_cons_succ, List.getElem_cons_zero, List.setIfInBounds_toArray, List.set_cons_succ, List.set_cons_zero])
  refine wpTwo_takeT (i := 22) (v := blkV a' c') rfl (by kernel_rfl) (by kernel_rfl) (by kernel_rfl) (fun _ _ _ h => h) ⟨by rfl, ?_⟩ hF ?_
  · rintro w hTw
    obtain ⟨t0, t1⟩ := (HFE.out _ hTw).1.2.1.cells
    go_simp
  (try simp only [Act.put, List.getElem_toArray, List.getElem_cons_succ, List.getElem_cons_zero, List.setIfInBounds_toArray, List.set_cons_succ, List.set_cons_zero])
  refine wpTwo_takeT (i := 25) (v := blkV a c) rfl (by kernel_rfl) (by kernel_rfl) (by kernel_rfl) (fun _ _ _ h => h) ⟨by rfl, ?_⟩ hF ?_
  · rintro w hTw
    obtain ⟨t0, t1⟩ := (HFE.out _ hTw).1.1.cells
    go_simp
  (try simp only [Act.put, List.getElem_toArray, List.getElem_cons_succ, List.getElem_cons_zero, List.setIfInBounds_toArray, List.set_cons_succ, List.set_cons_zero])
  refine wpTwo_takeT (i := 26) (v := blkV a' c') rfl (by kernel_rfl) (by kernel_rfl) (by kernel_rfl) (fun _ _ _ h => h) ⟨by rfl, ?_⟩ hF ?_
  · rintro w hTw
    obtain ⟨t0, t1⟩ := (HFE.out _ hTw).1.2.1.cells
    go_simp
  (try simp only [Act.put, List.getElem_toArray, List.getElem_cons_succ, List.getElem_cons_zero, List.setIfInBounds_toArray, List.set_cons_succ, List.set_cons_zero])
  refine wpTwo_ready (rs := [23]) (by kernel_rfl) (by simp) ?_
  refine (AllTwo.cons rfl (fun K hK => ?_) AllTwo.nil)
  go_simp
  obtain ⟨Xa, hXa⟩ : ∃ X : World, X = Y3.alloc (.cells #[.int .i64 a, .int .i64 c, .int .i64 a', .int .i64 c'] 33) := ⟨_, rfl⟩
  have HBL := Lib.hid (show BlksAt Xa (.slice (some ⟨Y3.heap.size, 0, none⟩) 2 2) [(a, c), (a', c')] by rw [hXa]; exact (HFE.out _ hF).1.blks)
  have hF := HFB.out _ Xa hF (by rw [hXa]; exact (Below.refl _ _).alloc (Nat.le_refl _) _)
  rw [← hXa]
  clear hXa
  refine hK.out _ _ ⟨hF, fun _ _ => trivial⟩ ?_
  clear hK K
  (try simp only [Act.put, List.getElem_toArray, List.getElem_cons_succ, List.getElem_cons_zero, List.setIfInBounds_toArray, List.set_cons_succ, List.set_cons_zero])
  refine wpTwo_ready (rs := [24]) (by kernel_rfl) (by simp) ?_
  refine (AllTwo.cons rfl (fun K hK => ?_) AllTwo.nil)
  go_simp
  refine (apart_c _ [(a, c), (a', c')] _ HBL.out (fun b hb => by
    rcases List.mem_cons.1 hb with rfl | hb
    · exact HI.out.1
    · rw [List.mem_singleton.1 hb]; exact HI.out.2) (by simp) (HFE.out _ hF).1.2.2.1).mono ?_
  rintro e Y4 ⟨rfl, hb⟩
  have hF := HFB.out _ _ hF hb
  clear hb HBL
  rw [hp]
  go_wp2_with fail
  refine hK.out _ _ ⟨hF, fun _ _ => trivial⟩ ?_
  clear hK K
  (try simp only [Act.put, List.getElem_toArray, List.getElem_cons_succ, List.getElem_cons_zero, List.setIfInBounds_toArray, List.set_cons_succ, List.set_cons_zero])
  refine wpTwo_ready (rs := [27]) (by kernel_rfl) (by simp) ?_
  refine (AllTwo.cons rfl (fun K hK => ?_) AllTwo.nil)
  go_simp
  refine (over_c a c a' c' HI.out.1 HI.out.2 _ (HFE.out _ hF).1.2.2.1).mono ?_
  rintro e Y5 ⟨rfl, hb⟩
  have hF := HFB.out _ _ hF hb
  clear hb
  rw [ho]
  go_wp2_with fail
  refine hK.out _ _ ⟨hF, fun _ _ => trivial⟩ ?_
  clear hK K
  (try simp only [Act.put, List.getElem_toArray, List.getElem_cons_succ, List.getElem_cons_zero, List.setIfInBounds_toArray, List.set_cons_succ, List.set_cons_zero])
  refine wpTwo_takeT (i := 28) (v := .bool true) rfl (by kernel_rfl) (by kernel_rfl) (by kernel_rfl) (fun _ _ _ h => h) ⟨by rfl, ?_⟩ hF ?_
  · rintro w hTw
    go_simp
  (try simp only [Act.put, List.getElem_toArray, List.getElem_cons_succ, List.getElem_cons_zero, List.setIfInBounds_toArray, List.set_cons_succ, List.set_cons_zero])
  refine wpTwo_takeT (i := 29) (v := .bool true) rfl (by kernel_rfl) (by kernel_rfl) (by kernel_rfl) (fun _ _ _ h => h) ⟨by rfl, ?_⟩ hF ?_
  · rintro w hTw
    go_simp
  (try simp only [Act.put, List.getElem_toArray, List.getElem_cons_succ, List.getElem_cons_zero, List.setIfInBounds_toArray, List.set_cons_succ, List.set_cons_zero])
  refine wpTwo_takeT (i := 30) (v := .bool true) rfl (by kernel_rfl) (by kernel_rfl) (by kernel_rfl) (fun _ _ _ h => h) ⟨by rfl, ?_⟩ hF ?_
  · rintro w hTw
    go_simp
  (try simp only [Act.put, List.getElem_toArray, List.getElem_cons_succ, List.getElem_cons_zero, List.setIfInBounds_toArray, List.set_cons_succ, List.set_cons_zero])
  refine wpTwo_end (by kernel_rfl) ?_ _
  have HBE := Lib.hid (HFE.out _ hF).1.2.2.2
  clear hF
  go_wp2
  go_ret
  exact ⟨rfl, HBE.out⟩

set_option maxRecDepth 100000 in
set_option maxHeartbeats 16000000 in
theorem nests_10 (a c a' c' : Int) (ha : I64 a) (ha' : I64 a') (h1 : mayB a c = true) (h2 : mayB a' c' = true) (hcc : c > c') (ho : ovB a' c' a c = false) (W : World) (hT : Tab W) : Calls Tryd.prog 8 #[blkV a c, blkV a' c'] W fun e w' => e = .returned (.bool true) ∧ Below W.heap.size W w' := by
  obtain ⟨r, har, hde, hr1, hr2⟩ := nests h2 h1 (by omega)
  have ho2 : ovB a c a' c' = false := by rw [ovB_comm]; exact ho
  have hp : apB [(a', c'), (a, c)] = true := by rw [apB_two h2 h1, ho]; rfl
  rw [ho] at hde
  have HRA := Lib.hid (show ¬ r = a from by simpa using hde)
  clear hde
  obtain ⟨w1, hw1⟩ : ∃ X : World, X = (W.alloc (.cells #[.int .i64 a, .int .i64 c] 33)).alloc (.cells #[.int .i64 a', .int .i64 c'] 33) := ⟨_, rfl⟩
  have hB1 : Below W.heap.size W w1 := by rw [hw1]; exact ((Below.refl _ _).alloc (Nat.le_refl _) _).alloc (by simp) _
  have hX0 : BBox w1 W.heap.size a c := by rw [hw1]; exact (BBox.new _ _ _).alloc _
  have hX1 : BBox w1 (W.heap.size + 1) a' c' := by rw [hw1]; have := BBox.new (W.alloc (.cells #[.int .i64 a, .int .i64 c] 33)) a' c'; simpa using this
  have hF : NS W a c a' c' w1 := ⟨hX0, hX1, hT.below hB1, hB1⟩
  have HW := Lib.hid (wakes_c w1 (hT.below hB1))
  have HI := Lib.hid (And.intro ha ha')
  have HZ := Lib.hid hT.lt
  clear hX0 hX1 hT hB1 ha ha'
  go_enter Tryd.func8, Tryd.ntmps8
  go_wp2_with fail
  rw [← hw1]
  clear hw1
  refine HW.out.mono ?_
  rintro e w2 ⟨rfl, hb⟩
  have hF := hF.below hb
  clear HW hb
  obtain ⟨d0, d1⟩ := hF.1.cells
  have HC := Lib.hid (check_c a c HI.out.1 w2 hF.2.2.1)
  rw [h1] at HC
  have HF := Lib.hid hF
  clear hF
  go_wp2_with fail
  refine HC.out.mono ?_
  rintro e w3 ⟨rfl, hb⟩
  have HF := Lib.hid (HF.out.below hb)
  clear HC hb d0 d1
  obtain ⟨d0, d1⟩ := HF.out.2.1.cells
  have HC := Lib.hid (check_c a' c' HI.out.2 w3 HF.out.2.2.1)
  rw [h2] at HC
  go_wp2_with fail
  refine HC.out.mono ?_
  rintro e w4 ⟨rfl, hb⟩
  have HF := Lib.hid (HF.out.below hb)
  clear HC hb d0 d1
  obtain ⟨d0, d1⟩ := HF.out.1.cells
  obtain ⟨e0, e1⟩ := HF.out.2.1.cells
  obtain ⟨f0, f1⟩ := HF.out.1.free
  obtain ⟨g0, g1⟩ := HF.out.2.1.free
  have hZ1 : 1 ≤ W.heap.size := HZ.out
  obtain ⟨w5, hw5⟩ : ∃ X : World, X = (((w4.setCell ⟨W.heap.size, 0, none⟩ (.int .i64 a')).setCell ⟨W.heap.size, 1, none⟩ (.int .i64 c')).setCell ⟨W.heap.size + 1, 0, none⟩ (.int .i64 a)).setCell ⟨W.heap.size + 1, 1, none⟩ (.int .i64 c) := ⟨_, rfl⟩
  have HF := Lib.hid (show NS W a' c' a c w5 by rw [hw5]; exact HF.out.swap hZ1)
  obtain ⟨p0, p1⟩ := HF.out.1.cells
  obtain ⟨q0, q1⟩ := HF.out.2.1.cells
  have HR := Lib.hid (aroundF_c a' c' c HI.out.2 w5 HF.out.2.2.1)
  rw [har] at HR
  rw [hw5] at p0 p1 q0 q1
  go_wp2_with fail
  rw [← hw5]
  clear hw5 d0 d1 e0 e1 f0 f1 g0 g1 p0 p1 q0 q1
  refine HR.out.mono ?_
  rintro e w6 ⟨rfl, hb⟩
  have HF := Lib.hid (HF.out.below hb)
  clear HR hb
  obtain ⟨w7, hw7⟩ : ∃ X : World, X = w6.alloc (.cells #[.int .i64 r, .int .i64 c] 33) := ⟨_, rfl⟩
  have hB7 : Below w6.heap.size w6 w7 := by rw [hw7]; exact (Below.refl _ _).alloc (Nat.le_refl _) _
  have hX7 : BBox w7 w6.heap.size r c := by rw [hw7]; exact BBox.new _ _ _
  have hF7 := HF.out.below hB7
  obtain ⟨y, hy⟩ : ∃ y, y = w6.heap.size := ⟨_, rfl⟩
  have HY := Lib.hid hy
  rw [← hy] at hX7
  obtain ⟨F, hFE⟩ : ∃ F : World → Prop, F = fun w => NS W a' c' a c w ∧ BBox w y r c := ⟨_, rfl⟩
  have HFE := Lib.hid (show ∀ w, F w → NS W a' c' a c w ∧ BBox w y r c from fun w h => by rw [hFE] at h; exact h)
  have HFB := Lib.hid (show ∀ w w', F w → Below w.heap.size w w' → F w' from fun w w' h hb => by
    rw [hFE] at h ⊢
    exact ⟨h.1.below hb, h.2.below hb⟩)
  have hF : F w7 := by rw [hFE]; exact ⟨hF7, hX7⟩
  clear hFE hB7 hX7 hF7 HF hy
  dsimp only
  go_wp2_with fail
  rw [← hw7, ← HY.out]
  clear hw7 HY
  refine wpTwo_begin (T := F) (S := fun _ => True) (late := fun _ => false) (by kernel_rfl) ?_
  obtain ⟨X0, hX0⟩ : ∃ X : World, X = w7.drew := ⟨_, rfl⟩
  rw [← hX0]
  have hF := HFB.out _ X0 hF (by rw [hX0]; exact (Below.refl _ _).drew)
  clear hX0
  refine wpTwo_takeT (i := 0) (v := .int .i64 0) rfl (by kernel_rfl) (by kernel_rfl) (by kernel_rfl) (fun _ _ _ h => h) ⟨by rfl, ?_⟩ hF ?_
  · rintro w hTw
    go_simp
  (try simp only [Act.put, List.getElem_toArray, List.getElem_cons_zero, List.setIfInBounds_toArray, List.set_cons_succ, List.set_cons_zero])
  refine wpTwo_takeT (i := 1) (v := .bool true) rfl (by kernel_rfl) (by kernel_rfl) (by kernel_rfl) (fun _ _ _ h => h) ⟨by rfl, ?_⟩ hF ?_
  · rintro w hTw
    go_simp
  (try simp only [Act.put, List.getElem_toArray, List.getElem_cons_succ, List.getElem_cons_zero, List.setIfInBounds_toArray, List.set_cons_succ, List.set_cons_zero])
  refine wpTwo_takeT (i := 2) (v := .bool true) rfl (by kernel_rfl) (by kernel_rfl) (by kernel_rfl) (fun _ _ _ h => h) ⟨by rfl, ?_⟩ hF ?_
  · rintro w hTw
    go_simp
  (try simp only [Act.put, List.getElem_toArray, List.getElem_cons_succ, List.getElem_cons_zero, List.setIfInBounds_toArray, List.set_cons_succ, List.set_cons_zero])
  refine wpTwo_takeT (i := 3) (v := blkV a' c') rfl (by kernel_rfl) (by kernel_rfl) (by kernel_rfl) (fun _ _ _ h => h) ⟨by rfl, ?_⟩ hF ?_
  · rintro w hTw
    obtain ⟨t0, t1⟩ := (HFE.out _ hTw).1.1.cells
    go_simp
  (try simp only [Act.put, List.getElem_toArray, List.getElem_cons_succ, List.getElem_cons_zero, List.setIfInBounds_toArray, List.set_cons_succ, List.set_cons_zero])
  refine wpTwo_takeT (i := 4) (v := blkV a c) rfl (by kernel_rfl) (by kernel_rfl) (by kernel_rfl) (fun _ _ _ h => h) ⟨by rfl, ?_⟩ hF ?_
  · rintro w hTw
    obtain ⟨t0, t1⟩ := (HFE.out _ hTw).1.2.1.cells
    go_simp
  (try simp only [Act.put, List.getElem_toArray, List.getElem_cons_succ, List.getElem_cons_zero, List.setIfInBounds_toArray, List.set_cons_succ, List.set_cons_zero])
  refine wpTwo_takeT (i := 6) (v := blkV r c) rfl (by kernel_rfl) (by kernel_rfl) (by kernel_rfl) (fun _ _ _ h => h) ⟨by rfl, ?_⟩ hF ?_
  · rintro w hTw
    obtain ⟨t0, t1⟩ := (HFE.out _ hTw).2.cells
    go_simp
  (try simp only [Act.put, List.getElem_toArray, List.getElem_cons_succ, List.getElem_cons_zero, List.setIfInBounds_toArray, List.set_cons_succ, List.set_cons_zero])
  refine wpTwo_takeT (i := 7) (v := blkV a c) rfl (by kernel_rfl) (by kernel_rfl) (by kernel_rfl) (fun _ _ _ h => h) ⟨by rfl, ?_⟩ hF ?_
  · rintro w hTw
    obtain ⟨t0, t1⟩ := (HFE.out _ hTw).1.2.1.cells
    go_simp
  (try simp only [Act.put, List.getElem_toArray, List.getElem_cons_succ, List.getElem_cons_zero, List.setIfInBounds_toArray, List.set_cons_succ, List.set_cons_zero])
  refine wpTwo_takeT (i := 8) (v := .bool false) rfl (by kernel_rfl) (by kernel_rfl) (by kernel_rfl) (fun _ _ _ h => h) ⟨by rfl, ?_⟩ hF ?_
  · rintro w hTw
    go_simp
    exact HRA.out
  (try simp only [Act.put, List.getElem_toArray, List.getElem_cons_succ, List.getElem_cons_zero, List.setIfInBounds_toArray, List.set_cons_succ, List.set_cons_zero])
  refine wpTwo_ready (rs := [5]) (by kernel_rfl) (by simp) ?_
  refine (AllTwo.cons rfl (fun K hK => ?_) AllTwo.nil)
  go_simp
  refine (over_c a' c' a c HI.out.2 HI.out.1 _ (HFE.out _ hF).1.2.2.1).mono ?_
  rintro e Y1 ⟨rfl, hb⟩
  have hF := HFB.out _ _ hF hb
  clear hb
  rw [ho]
  go_wp2_with fail
  refine hK.out _ _ ⟨hF, fun _ _ => trivial⟩ ?_
  clear hK K
  (try simp only [Act.put, List.getElem_toArray, List.getElem_cons_succ, List.getElem_cons_zero, List.setIfInBounds_toArray, List.set_cons_succ, List.set_cons_zero])
  refine wpTwo_takeT (i := 9) (v := .bool true) rfl (by kernel_rfl) (by kernel_rfl) (by kernel_rfl) (fun _ _ _ h => h) ⟨by rfl, ?_⟩ hF ?_
  · rintro w hTw
    go_simp
  (try simp only [Act.put, List.getElem_toArray, List.getElem_cons_succ, List.getElem_cons_zero, List.setIfInBounds_toArray, List.set_cons_succ, List.set_cons_zero])
  refine wpTwo_takeT (i := 10) (v := .bool true) rfl (by kernel_rfl) (by kernel_rfl) (by kernel_rfl) (fun _ _ _ h => h) ⟨by rfl, ?_⟩ hF ?_
  · rintro w hTw
    go_simp
  (try simp only [Act.put, List.getElem_toArray, List.getElem_cons_succ, List.getElem_cons_zero, List.setIfInBounds_toArray, List.set_cons_succ, List.set_cons_zero])
  refine wpTwo_takeT (i := 11) (v := .bool true) rfl (by kernel_rfl) (by kernel_rfl) (by kernel_rfl) (fun _ _ _ h => h) ⟨by rfl, ?_⟩ hF ?_
  · rintro w hTw
    go_simp
  (try simp only [Act.put, List.getElem_toArray, List.getElem_cons_succ, List.getElem_cons_zero, List.setIfInBounds_toArray, List.set_cons_succ, List.set_cons_zero])
  refine wpTwo_takeT (i := 12) (v := blkV a' c') rfl (by kernel_rfl) (by kernel_rfl) (by kernel_rfl) (fun _ _ _ h => h) ⟨by rfl, ?_⟩ hF ?_
  · rintro w hTw
    obtain ⟨t0, t1⟩ := (HFE.out _ hTw).1.1.cells
    go_simp
  (try simp only [Act.put, List.getElem_toArray, List.getElem_cons_succ, List.getElem_cons_zero, List.setIfInBounds_toArray, List.set_cons_succ, List.set_cons_zero])
  refine wpTwo_takeT (i := 13) (v := blkV a c) rfl (by kernel_rfl) (by kernel_rfl) (by kernel_rfl) (fun _ _ _ h => h) ⟨by rfl, ?_⟩ hF ?_
  · rintro w hTw
    obtain ⟨t0, t1⟩ := (HFE.out _ hTw).1.2.1.cells
    go_simp
  (try simp only [Act.put, List.getElem_toArray, List.getElem_cons_succ, List.getElem_cons_zero, List.setIfInBounds_toArray, List.set_cons_succ, List.set_cons_zero])
  refine wpTwo_takeT (i := 15) (v := blkV a c) rfl (by kernel_rfl) (by kernel_rfl) (by kernel_rfl) (fun _ _ _ h => h) ⟨by rfl, ?_⟩ hF ?_
  · rintro w hTw
    obtain ⟨t0, t1⟩ := (HFE.out _ hTw).1.2.1.cells
    go_simp
  (try simp only [Act.put, List.getElem_toArray, List.getElem_cons_succ, List.getElem_cons_zero, List.setIfInBounds_toArray, List.set_cons_succ, List.set_cons_zero])
  refine wpTwo_takeT (i := 16) (v := blkV a' c') rfl (by kernel_rfl) (by kernel_rfl) (by kernel_rfl) (fun _ _ _ h => h) ⟨by rfl, ?_⟩ hF ?_
  · rintro w hTw
    obtain ⟨t0, t1⟩ := (HFE.out _ hTw).1.1.cells
    go_simp
  (try simp only [Act.put, List.getElem_toArray, List.getElem_cons_succ, List.getElem_cons_zero, List.setIfInBounds_toArray, List.set_cons_succ, List.set_cons_zero])
  refine wpTwo_ready (rs := [14]) (by kernel_rfl) (by simp) ?_
  refine (AllTwo.cons rfl (fun K hK => ?_) AllTwo.nil)
  go_simp
  refine (over_c a' c' a c HI.out.2 HI.out.1 _ (HFE.out _ hF).1.2.2.1).mono ?_
  rintro e Y2 ⟨rfl, hb⟩
  have hF := HFB.out _ _ hF hb
  clear hb
  rw [ho]
  go_wp2_with fail
  refine hK.out _ _ ⟨hF, fun _ _ => trivial⟩ ?_
  clear hK K
  (try simp only [Act.put, List.getElem_toArray, List.getElem_cons_succ, List.getElem_cons_zero, List.setIfInBounds_toArray, List.set_cons_succ, List.set_cons_zero])
  refine wpTwo_ready (rs := [17]) (by kernel_rfl) (by simp) ?_
  refine (AllTwo.cons rfl (fun K hK => ?_) AllTwo.nil)
  go_simp
  refine (over_c a c a' c' HI.out.1 HI.out.2 _ (HFE.out _ hF).1.2.2.1).mono ?_
  rintro e Y3 ⟨rfl, hb⟩
  have hF := HFB.out _ _ hF hb
  clear hb
  rw [ho2]
  go_wp2_with fail
  refine hK.out _ _ ⟨hF, fun _ _ => trivial⟩ ?_
  clear hK K
  (try simp only [Act.put, List.getElem_toArray, List.getElem_cons_succ, List.getElem_cons_zero, List.setIfInBounds_toArray, List.set_cons_succ, List.set_cons_zero])
  refine wpTwo_takeT (i := 18) (v := .bool true) rfl (by kernel_rfl) (by kernel_rfl) (by kernel_rfl) (fun _ _ _ h => h) ⟨by rfl, ?_⟩ hF ?_
  · rintro w hTw
    go_simp
  (try simp only [Act.put, List.getElem_toArray, List.getElem_cons_succ, List.getElem_cons_zero, List.setIfInBounds_toArray, List.set_cons_succ, List.set_cons_zero])
  refine wpTwo_takeT (i := 19) (v := .bool true) rfl (by kernel_rfl) (by kernel_rfl) (by kernel_rfl) (fun _ _ _ h => h) ⟨by rfl, ?_⟩ hF ?_
  · rintro w hTw
    go_simp
  (try simp only [Act.put, List.getElem_toArray, List.getElem_cons_succ, List.getElem_cons_zero, List.setIfInBounds_toArray, List.set_cons_succ, List.set_cons_zero])
  refine wpTwo_takeT (i := 20) (v := .bool true) rfl (by kernel_rfl) (by kernel_rfl) (by kernel_rfl) (fun _ _ _ h => h) ⟨by rfl, ?_⟩ hF ?_
  · rintro w hTw
    go_simp
  (try simp only [Act.put, List.getElem_toArray, List.getElem_cons_succ, List.getElem_cons_zero, List.setIfInBounds_toArray, List.set_cons_succ, List.set_cons_zero])
  refine wpTwo_takeT (i := 21) (v := blkV a' c') rfl (by kernel_rfl) (by kernel_rfl) (by kernel_rfl) (fun _ _ _ h => h) ⟨by rfl, ?_⟩ hF ?_
  · rintro w hTw
    obtain ⟨t0, t1⟩ := (HFE.out _ hTw).1.1.cells
    go_simp
  (try simp only [Act.put, List.getElem_toArray, List.getElem_cons_succ, List.getElem_cons_zero, List.setIfInBounds_toArray, List.set_cons_succ, List.set_cons_zero])
  refine wpTwo_takeT (i := 22) (v := blkV a c) rfl (by kernel_rfl) (by kernel_rfl) (by kernel_rfl) (fun _ _ _ h => h) ⟨by rfl, ?_⟩ hF ?_
  · rintro w hTw
    obtain ⟨t0, t1⟩ := (HFE.out _ hTw).1.2.1.cells
    go_simp
  (try simp only [Act.put, List.getElem_toArray, List.getElem_cons_succ, List.getElem_cons_zero, List.setIfInBounds_toArray, List.set_cons_succ, List.set_cons_zero])
  refine wpTwo_takeT (i := 25) (v := blkV a' c') rfl (by kernel_rfl) (by kernel_rfl) (by kernel_rfl) (fun _ _ _ h => h) ⟨by rfl, ?_⟩ hF ?_
  · rintro w hTw
    obtain ⟨t0, t1⟩ := (HFE.out _ hTw).1.1.cells
    go_simp
  (try simp only [Act.put, List.getElem_toArray, List.getElem_cons_succ, List.getElem_cons_zero, List.setIfInBounds_toArray, List.set_cons_succ, List.set_cons_zero])
  refine wpTwo_takeT (i := 26) (v := blkV a c) rfl (by kernel_rfl) (by kernel_rfl) (by kernel_rfl) (fun _ _ _ h => h) ⟨by rfl, ?_⟩ hF ?_
  · rintro w hTw
    obtain ⟨t0, t1⟩ := (HFE.out _ hTw).1.2.1.cells
    go_simp
  (try simp only [Act.put, List.getElem_toArray, List.getElem_cons_succ, List.getElem_cons_zero, List.setIfInBounds_toArray, List.set_cons_succ, List.set_cons_zero])
  refine wpTwo_ready (rs := [23]) (by kernel_rfl) (by simp) ?_
  refine (AllTwo.cons rfl (fun K hK => ?_) AllTwo.nil)
  go_simp
  obtain ⟨Xa, hXa⟩ : ∃ X : World, X = Y3.alloc (.cells #[.int .i64 a', .int .i64 c', .int .i64 a, .int .i64 c] 33) := ⟨_, rfl⟩
  have HBL := Lib.hid (show BlksAt Xa (.slice (some ⟨Y3.heap.size, 0, none⟩) 2 2) [(a', c'), (a, c)] by rw [hXa]; exact (HFE.out _ hF).1.blks)
  have hF := HFB.out _ Xa hF (by rw [hXa]; exact (Below.refl _ _).alloc (Nat.le_refl _) _)
  rw [← hXa]
  clear hXa
  refine hK.out _ _ ⟨hF, fun _ _ => trivial⟩ ?_
  clear hK K
  (try simp only [Act.put, List.getElem_toArray, List.getElem_cons_succ, List.getElem_cons_zero, List.setIfInBounds_toArray, List.set_cons_succ, List.set_cons_zero])
  refine wpTwo_ready (rs := [24]) (by kernel_rfl) (by simp) ?_
  refine (AllTwo.cons rfl (fun K hK => ?_) AllTwo.nil)
  go_simp
  refine (apart_c _ [(a', c'), (a, c)] _ HBL.out (fun b hb => by
    rcases List.mem_cons.1 hb with rfl | hb
    · exact HI.out.2
    · rw [List.mem_singleton.1 hb]; exact HI.out.1) (by simp) (HFE.out _ hF).1.2.2.1).mono ?_
  rintro e Y4 ⟨rfl, hb⟩
  have hF := HFB.out _ _ hF hb
  clear hb HBL
  rw [hp]
  go_wp2_with fail
  refine hK.out _ _ ⟨hF, fun _ _ => trivial⟩ ?_
  clear hK K
  (try simp only [Act.put, List.getElem_toArray, List.getElem_cons_succ, List.getElem_cons_zero, List.setIfInBounds_toArray, List.set_cons_succ, List.set_cons_zero])
  refine wpTwo_ready (rs := [27]) (by kernel_rfl) (by simp) ?_
  refine (AllTwo.cons rfl (fun K hK => ?_) AllTwo.nil)
  go_simp
  refine (over_c a' c' a c HI.out.2 HI.out.1 _ (HFE.out _ hF).1.2.2.1).mono ?_
  rintro e Y5 ⟨rfl, hb⟩
  have hF := HFB.out _ _ hF hb
  clear hb
  rw [ho]
  go_wp2_with fail
  refine hK.out _ _ ⟨hF, fun _ _ => trivial⟩ ?_
  clear hK K
  (try simp only [Act.put, List.getElem_toArray, List.getElem_cons_succ, List.getElem_cons_zero, List.setIfInBounds_toArray, List.set_cons_succ, List.set_cons_zero])
  refine wpTwo_takeT (i := 28) (v := .bool true) rfl (by kernel_rfl) (by kernel_rfl) (by kernel_rfl) (fun _ _ _ h => h) ⟨by rfl, ?_⟩ hF ?_
  · rintro w hTw
    go_simp
  (try simp only [Act.put, List.getElem_toArray, List.getElem_cons_succ, List.getElem_cons_zero, List.setIfInBounds_toArray, List.set_cons_succ, List.set_cons_zero])
  refine wpTwo_takeT (i := 29) (v := .bool true) rfl (by kernel_rfl) (by kernel_rfl) (by kernel_rfl) (fun _ _ _ h => h) ⟨by rfl, ?_⟩ hF ?_
  · rintro w hTw
    go_simp
  (try simp only [Act.put, List.getElem_toArray, List.getElem_cons_succ, List.getElem_cons_zero, List.setIfInBounds_toArray, List.set_cons_succ, List.set_cons_zero])
  refine wpTwo_takeT (i := 30) (v := .bool true) rfl (by kernel_rfl) (by kernel_rfl) (by kernel_rfl) (fun _ _ _ h => h) ⟨by rfl, ?_⟩ hF ?_
  · rintro w hTw
    go_simp
  (try simp only [Act.put, List.getElem_toArray, List.getElem_cons_succ, List.getElem_cons_zero, List.setIfInBounds_toArray, List.set_cons_succ, List.set_cons_zero])
  refine wpTwo_end (by kernel_rfl) ?_ _
  have HBE := Lib.hid (HFE.out _ hF).1.2.2.2
  clear hF
  go_wp2
  go_ret
  exact ⟨rfl, HBE.out⟩

set_option maxRecDepth 100000 in
set_option maxHeartbeats 16000000 in
theorem nests_11 (a c a' c' : Int) (ha : I64 a) (ha' : I64 a') (h1 : mayB a c = true) (h2 : mayB a' c' = true) (hcc : c > c') (ho : ovB a' c' a c = true) (W : World) (hT : Tab W) : Calls Tryd.prog 8 #[blkV a c, blkV a' c'] W fun e w' => e = .returned (.bool true) ∧ Below W.heap.size W w' := by
  obtain ⟨r, har, hde, hr1, hr2⟩ := nests h2 h1 (by omega)
  have ho2 : ovB a c a' c' = true := by rw [ovB_comm]; exact ho
  have hp : apB [(a', c'), (a, c)] = false := by rw [apB_two h2 h1, ho]; rfl
  rw [ho] at hde
  have HRA := Lib.hid (show r = a from by simpa using hde)
  clear hde
  obtain ⟨w1, hw1⟩ : ∃ X : World, X = (W.alloc (.cells #[.int .i64 a, .int .i64 c] 33)).alloc (.cells #[.int .i64 a', .int .i64 c'] 33) := ⟨_, rfl⟩
  have hB1 : Below W.heap.size W w1 := by rw [hw1]; exact ((Below.refl _ _).alloc (Nat.le_refl _) _).alloc (by simp) _
  have hX0 : BBox w1 W.heap.size a c := by rw [hw1]; exact (BBox.new _ _ _).alloc _
  have hX1 : BBox w1 (W.heap.size + 1) a' c' := by rw [hw1]; have := BBox.new (W.alloc (.cells #[.int .i64 a, .int .i64 c] 33)) a' c'; simpa using this
  have hF : NS W a c a' c' w1 := ⟨hX0, hX1, hT.below hB1, hB1⟩
  have HW := Lib.hid (wakes_c w1 (hT.below hB1))
  have HI := Lib.hid (And.intro ha ha')
  have HZ := Lib.hid hT.lt
  clear hX0 hX1 hT hB1 ha ha'
  go_enter Tryd.func8, Tryd.ntmps8
  go_wp2_with fail
  rw [← hw1]
  clear hw1
  refine HW.out.mono ?_
  rintro e w2 ⟨rfl, hb⟩
  have hF := hF.below hb
  clear HW hb
  obtain ⟨d0, d1⟩ := hF.1.cells
  have HC := Lib.hid (check_c a c HI.out.1 w2 hF.2.2.1)
  rw [h1] at HC
  have HF := Lib.hid hF
  clear hF
  go_wp2_with fail
  refine HC.out.mono ?_
  rintro e w3 ⟨rfl, hb⟩
  have HF := Lib.hid (HF.out.below hb)
  clear HC hb d0 d1
  obtain ⟨d0, d1⟩ := HF.out.2.1.cells
  have HC := Lib.hid (check_c a' c' HI.out.2 w3 HF.out.2.2.1)
  rw [h2] at HC
  go_wp2_with fail
  refine HC.out.mono ?_
  rintro e w4 ⟨rfl, hb⟩
  have HF := Lib.hid (HF.out.below hb)
  clear HC hb d0 d1
  obtain ⟨d0, d1⟩ := HF.out.1.cells
  obtain ⟨e0, e1⟩ := HF.out.2.1.cells
  obtain ⟨f0, f1⟩ := HF.out.1.free
  obtain ⟨g0, g1⟩ := HF.out.2.1.free
  have hZ1 : 1 ≤ W.heap.size := HZ.out
  obtain ⟨w5, hw5⟩ : ∃ X : World, X = (((w4.setCell ⟨W.heap.size, 0, none⟩ (.int .i64 a')).setCell ⟨W.heap.size, 1, none⟩ (.int .i64 c')).setCell ⟨W.heap.size + 1, 0, none⟩ (.int .i64 a)).setCell ⟨W.heap.size + 1, 1, none⟩ (.int .i64 c) := ⟨_, rfl⟩
  have HF := Lib.hid (show NS W a' c' a c w5 by rw [hw5]; exact HF.out.swap hZ1)
  obtain ⟨p0, p1⟩ := HF.out.1.cells
  obtain ⟨q0, q1⟩ := HF.out.2.1.cells
  have HR := Lib.hid (aroundF_c a' c' c HI.out.2 w5 HF.out.2.2.1)
  rw [har] at HR
  rw [hw5] at p0 p1 q0 q1
  go_wp2_with fail
  rw [← hw5]
  clear hw5 d0 d1 e0 e1 f0 f1 g0 g1 p0 p1 q0 q1
  refine HR.out.mono ?_
  rintro e w6 ⟨rfl, hb⟩
  have HF := Lib.hid (HF.out.below hb)
  clear HR hb
  obtain ⟨w7, hw7⟩ : ∃ X : World, X = w6.alloc (.cells #[.int .i64 r, .int .i64 c] 33) := ⟨_, rfl⟩
  have hB7 : Below w6.heap.size w6 w7 := by rw [hw7]; exact (Below.refl _ _).alloc (Nat.le_refl _) _
  have hX7 : BBox w7 w6.heap.size r c := by rw [hw7]; exact BBox.new _ _ _
  have hF7 := HF.out.below hB7
  obtain ⟨y, hy⟩ : ∃ y, y = w6.heap.size := ⟨_, rfl⟩
  have HY := Lib.hid hy
  rw [← hy] at hX7
  obtain ⟨F, hFE⟩ : ∃ F : World → Prop, F = fun w => NS W a' c' a c w ∧ BBox w y r c := ⟨_, rfl⟩
  have HFE := Lib.hid (show ∀ w, F w → NS W a' c' a c w ∧ BBox w y r c from fun w h => by rw [hFE] at h; exact h)
  have HFB := Lib.hid (show ∀ w w', F w → Below w.heap.size w w' → F w' from fun w w' h hb => by
    rw [hFE] at h ⊢
    exact ⟨h.1.below hb, h.2.below hb⟩)
  have hF : F w7 := by rw [hFE]; exact ⟨hF7, hX7⟩
  clear hFE hB7 hX7 hF7 HF hy
  dsimp only
  go_wp2_with fail
  rw [← hw7, ← HY.out]
  clear hw7 HY
  refine wpTwo_begin (T := F) (S := fun _ => True) (late := fun _ => false) (by kernel_rfl) ?_
  obtain ⟨X0, hX0⟩ : ∃ X : World, X = w7.drew := ⟨_, rfl⟩
  rw [← hX0]
  have hF := HFB.out _ X0 hF (by rw [hX0]; exact (Below.refl _ _).drew)
  clear hX0
  refine wpTwo_takeT (i := 0) (v := .int .i64 0) rfl (by kernel_rfl) (by kernel_rfl) (by kernel_rfl) (fun _ _ _ h => h) ⟨by rfl, ?_⟩ hF ?_
  · rintro w hTw
    go_simp
  (try simp only [Act.put, List.getElem_toArray, List.getElem_cons_zero, List.setIfInBounds_toArray, List.set_cons_succ, List.set_cons_zero])
  refine wpTwo_takeT (i := 1) (v := .bool true) rfl (by kernel_rfl) (by kernel_rfl) (by kernel_rfl) (fun _ _ _ h => h) ⟨by rfl, ?_⟩ hF ?_
  · rintro w hTw
    go_simp
  (try simp only [Act.put, List.getElem_toArray, List.getElem_cons_succ, List.getElem_cons_zero, List.setIfInBounds_toArray, List.set_cons_succ, List.set_cons_zero])
  refine wpTwo_takeT (i := 2) (v := .bool true) rfl (by kernel_rfl) (by kernel_rfl) (by kernel_rfl) (fun _ _ _ h => h) ⟨by rfl, ?_⟩ hF ?_
  · rintro w hTw
    go_simp
  (try simp only [Act.put, List.getElem_toArray, List.getElem_cons_succ, List.getElem_cons_zero, List.setIfInBounds_toArray, List.set_cons_succ, List.set_cons_zero])
  refine wpTwo_takeT (i := 3) (v := blkV a' c') rfl (by kernel_rfl) (by kernel_rfl) (by kernel_rfl) (fun _ _ _ h => h) ⟨by rfl, ?_⟩ hF ?_
  · rintro w hTw
    obtain ⟨t0, t1⟩ := (HFE.out _ hTw).1.1.cells
    go_simp
  (try simp only [Act.put, List.getElem_toArray, List.getElem_cons_succ, List.getElem_cons_zero, List.setIfInBounds_toArray, List.set_cons_succ, List.set_cons_zero])
  refine wpTwo_takeT (i := 4) (v := blkV a c) rfl (by kernel_rfl) (by kernel_rfl) (by kernel_rfl) (fun _ _ _ h => h) ⟨by rfl, ?_⟩ hF ?_
  · rintro w hTw
    obtain ⟨t0, t1⟩ := (HFE.out _ hTw).1.2.1.cells
    go_simp
  (try simp only [Act.put, List.getElem_toArray, List.getElem_cons_succ, List.getElem_cons_zero, List.setIfInBounds_toArray, List.set_cons_succ, List.set_cons_zero])
  refine wpTwo_takeT (i := 6) (v := blkV r c) rfl (by kernel_rfl) (by kernel_rfl) (by kernel_rfl) (fun _ _ _ h => h) ⟨by rfl, ?_⟩ hF ?_
  · rintro w hTw
    obtain ⟨t0, t1⟩ := (HFE.out _ hTw).2.cells
    go_simp
  (try simp only [Act.put, List.getElem_toArray, List.getElem_cons_succ, List.getElem_cons_zero, List.setIfInBounds_toArray, List.set_cons_succ, List.set_cons_zero])
  refine wpTwo_takeT (i := 7) (v := blkV a c) rfl (by kernel_rfl) (by kernel_rfl) (by kernel_rfl) (fun _ _ _ h => h) ⟨by rfl, ?_⟩ hF ?_
  · rintro w hTw
    obtain ⟨t0, t1⟩ := (HFE.out _ hTw).1.2.1.cells
    go_simp
  (try simp only [Act.put, List.getElem_toArray, List.getElem_cons_succ, List.getElem_cons_zero, List.setIfInBounds_toArray, List.set_cons_succ, List.set_cons_zero])
  refine wpTwo_takeT (i := 8) (v := .bool true) rfl (by kernel_rfl) (by kernel_rfl) (by kernel_rfl) (fun _ _ _ h => h) ⟨by rfl, ?_⟩ hF ?_
  · rintro w hTw
    go_simp
    exact HRA.out
  (try simp only [Act.put, List.getElem_toArray, List.getElem_cons_succ, List.getElem_cons_zero, List.setIfInBounds_toArray, List.set_cons_succ, List.set_cons_zero])
  refine wpTwo_ready (rs := [5]) (by kernel_rfl) (by simp) ?_
  refine (AllTwo.cons rfl (fun K hK => ?_) AllTwo.nil)
  go_simp
  refine (over_c a' c' a c HI.out.2 HI.out.1 _ (HFE.out _ hF).1.2.2.1).mono ?_
  rintro e Y1 ⟨rfl, hb⟩
  have hF := HFB.out _ _ hF hb
  clear hb
  rw [ho]
  go_wp2_with fail
  refine hK.out _ _ ⟨hF, fun _ _ => trivial⟩ ?_
  clear hK K
  (try simp only [Act.put, List.getElem_toArray, List.getElem_cons_succ, List.getElem_cons_zero, List.setIfInBounds_toArray, List.set_cons_succ, List.set_cons_zero])
  refine wpTwo_takeT (i := 9) (v := .bool true) rfl (by kernel_rfl) (by kernel_rfl) (by kernel_rfl) (fun _ _ _ h => h) ⟨by rfl, ?_⟩ hF ?_
  · rintro w hTw
    go_simp
  (try simp only [Act.put, List.getElem_toArray, List.getElem_cons_succ, List.getElem_cons_zero, List.setIfInBounds_toArray, List.set_cons_succ, List.set_cons_zero])
  refine wpTwo_takeT (i := 10) (v := .bool true) rfl (by kernel_rfl) (by kernel_rfl) (by kernel_rfl) (fun _ _ _ h => h) ⟨by rfl, ?_⟩ hF ?_
  · rintro w hTw
    go_simp
  (try simp only [Act.put, List.getElem_toArray, List.getElem_cons_succ, List.getElem_cons_zero, List.setIfInBounds_toArray, List.set_cons_succ, List.set_cons_zero])
  refine wpTwo_takeT (i := 11) (v := .bool true) rfl (by kernel_rfl) (by kernel_rfl) (by kernel_rfl) (fun _ _ _ h => h) ⟨by rfl, ?_⟩ hF ?_
  · rintro w hTw
    go_simp
  (try simp only [Act.put, List.getElem_toArray, List.getElem_cons_succ, List.getElem_cons_zero, List.setIfInBounds_toArray, List.set_cons_succ, List.set_cons_zero])
  refine wpTwo_takeT (i := 12) (v := blkV a' c') rfl (by kernel_rfl) (by kernel_rfl) (by kernel_rfl) (fun _ _ _ h => h) ⟨by rfl, ?_⟩ hF ?_
  · rintro w hTw
    obtain ⟨t0, t1⟩ := (HFE.out _ hTw).1.1.cells
    go_simp
  (try simp only [Act.put, List.getElem_toArray, List.getElem_cons_succ, List.getElem_cons_zero, List.setIfInBounds_toArray, List.set_cons_succ, List.set_cons_zero])
  refine wpTwo_takeT (i := 13) (v := blkV a c) rfl (by kernel_rfl) (by kernel_rfl) (by kernel_rfl) (fun _ _ _ h => h) ⟨by rfl, ?_⟩ hF ?_
  · rintro w hTw
    obtain ⟨t0, t1⟩ := (HFE.out _ hTw).1.2.1.cells
    go_simp
  (try simp only [Act.put, List.getElem_toArray, List.getElem_cons_succ, List.getElem_cons_zero, List.setIfInBounds_toArray, List.set_cons_succ, List.set_cons_zero])
  refine wpTwo_takeT (i := 15) (v := blkV a c) rfl (by kernel_rfl) (by kernel_rfl) (by kernel_rfl) (fun _ _ _ h => h) ⟨by rfl, ?_⟩ hF ?_
  · rintro w hTw
    obtain ⟨t0, t1⟩ := (HFE.out _ hTw).1.2.1.cells
    go_simp
  (try simp only [Act.put, List.getElem_toArray, List.getElem_cons_succ, List.getElem_cons_zero, List.setIfInBounds_toArray, List.set_cons_succ, List.set_cons_zero])
  refine wpTwo_takeT (i := 16) (v := blkV a' c') rfl (by kernel_rfl) (by kernel_rfl) (by kernel_rfl) (fun _ _ _ h => h) ⟨by rfl, ?_⟩ hF ?_
  · rintro w hTw
    obtain ⟨t0, t1⟩ := (HFE.out _ hTw).1.1.cells
    go_simp
  (try simp only [Act.put, List.getElem_toArray, List.getElem_cons_succ, List.getElem_cons_zero, List.setIfInBounds_toArray, List.set_cons_succ, List.set_cons_zero])
  refine wpTwo_ready (rs := [14]) (by kernel_rfl) (by simp) ?_
  refine (AllTwo.cons rfl (fun K hK => ?_) AllTwo.nil)
  go_simp
  refine (over_c a' c' a c HI.out.2 HI.out.1 _ (HFE.out _ hF).1.2.2.1).mono ?_
  rintro e Y2 ⟨rfl, hb⟩
  have hF := HFB.out _ _ hF hb
  clear hb
  rw [ho]
  go_wp2_with fail
  refine hK.out _ _ ⟨hF, fun _ _ => trivial⟩ ?_
  clear hK K
  (try simp only [Act.put, List.getElem_toArray, List.getElem_cons_succ, List.getElem_cons_zero, List.setIfInBounds_toArray, List.set_cons_succ, List.set_cons_zero])
  refine wpTwo_ready (rs := [17]) (by kernel_rfl) (by simp) ?_
  refine (AllTwo.cons rfl (fun K hK => ?_) AllTwo.nil)
  go_simp
  refine (over_c a c a' c' HI.out.1 HI.out.2 _ (HFE.out _ hF).1.2.2.1).mono ?_
  rintro e Y3 ⟨rfl, hb⟩
  have hF := HFB.out _ _ hF hb
  clear hb
  rw [ho2]
  go_wp2_with fail
  refine hK.out _ _ ⟨hF, fun _ _ => trivial⟩ ?_
  clear hK K
  (try simp only [Act.put, List.getElem_toArray, List.getElem_cons_succ, List.getElem_cons_zero, List.setIfInBounds_toArray, List.set_cons_succ, List.set_cons_zero])
  refine wpTwo_takeT (i := 18) (v := .bool true) rfl (by kernel_rfl) (by kernel_rfl) (by kernel_rfl) (fun _ _ _ h => h) ⟨by rfl, ?_⟩ hF ?_
  · rintro w hTw
    go_simp
  (try simp only [Act.put, List.getElem_toArray, List.getElem_cons_succ, List.getElem_cons_zero, List.setIfInBounds_toArray, List.set_cons_succ, List.set_cons_zero])
  refine wpTwo_takeT (i := 19) (v := .bool true) rfl (by kernel_rfl) (by kernel_rfl) (by kernel_rfl) (fun _ _ _ h => h) ⟨by rfl, ?_⟩ hF ?_
  · rintro w hTw
    go_simp
  (try simp only [Act.put, List.getElem_toArray, List.getElem_cons_succ, List.getElem_cons_zero, List.setIfInBounds_toArray, List.set_cons_succ, List.set_cons_zero])
  refine wpTwo_takeT (i := 20) (v := .bool true) rfl (by kernel_rfl) (by kernel_rfl) (by kernel_rfl) (fun _ _ _ h => h) ⟨by rfl, ?_⟩ hF ?_
  · rintro w hTw
    go_simp
  (try simp only [Act.put, List.getElem_toArray, List.getElem_cons_succ, List.getElem_cons_zero, List.setIfInBounds_toArray, List.set_cons_succ, List.set_cons_zero])
  refine wpTwo_takeT (i := 21) (v := blkV a' c') rfl (by kernel_rfl) (by kernel_rfl) (by kernel_rfl) (fun _ _ _ h => h) ⟨by rfl, ?_⟩ hF ?_
  · rintro w hTw
    obtain ⟨t0, t1⟩ := (HFE.out _ hTw).1.1.cells
    go_simp
  (try simp only [Act.put, List.getElem_toArray, List.getElem_cons_succ, List.getElem_cons_zero, List.setIfInBounds_toArray, List.set_cons_succ, List.set_cons_zero])
  refine wpTwo_takeT (i := 22) (v := blkV a c) rfl (by kernel_rfl) (by kernel_rfl) (by kernel_rfl) (fun _ _ _ h => h) ⟨by rfl, ?_⟩ hF ?_
  · rintro w hTw
    obtain ⟨t0, t1⟩ := (HFE.out _ hTw).1.2.1.cells
    go_simp
  (try simp only [Act.put, List.getElem_toArray, List.getElem_cons_succ, List.getElem_cons_zero, List.setIfInBounds_toArray, List.set_cons_succ, List.set_cons_zero])
  refine wpTwo_takeT (i := 25) (v := blkV a' c') rfl (by kernel_rfl) (by kernel_rfl) (by kernel_rfl) (fun _ _ _ h => h) ⟨by rfl, ?_⟩ hF ?_
  · rintro w hTw
    obtain ⟨t0, t1⟩ := (HFE.out _ hTw).1.1.cells
    go_simp
  (try simp only [Act.put, List.getElem_toArray, List.getElem_cons_succ, List.getElem_cons_zero, List.setIfInBounds_toArray, List.set_cons_succ, List.set_cons_zero])
  refine wpTwo_takeT (i := 26) (v := blkV a c) rfl (by kernel_rfl) (by kernel_rfl) (by kernel_rfl) (fun _ _ _ h => h) ⟨by rfl, ?_⟩ hF ?_
  · rintro w hTw
    obtain ⟨t0, t1⟩ := (HFE.out _ hTw).1.2.1.cells
    go_simp
  (try simp only [Act.put, List.getElem_toArray, List.getElem_cons_succ, List.getElem_cons_zero, List.setIfInBounds_toArray, List.set_cons_succ, List.set_cons_zero])
  refine wpTwo_ready (rs := [23]) (by kernel_rfl) (by simp) ?_
  refine (AllTwo.cons rfl (fun K hK => ?_) AllTwo.nil)
  go_simp
  obtain ⟨Xa, hXa⟩ : ∃ X : World, X = Y3.alloc (.cells #[.int .i64 a', .int .i64 c', .int .i64 a, .int .i64 c] 33) := ⟨_, rfl⟩
  have HBL := Lib.hid (show BlksAt Xa (.slice (some ⟨Y3.heap.size, 0, none⟩) 2 2) [(a', c'), (a, c)] by rw [hXa]; exact (HFE.out _ hF).1.blks)
  have hF := HFB.out _ Xa hF (by rw [hXa]; exact (Below.refl _ _).alloc (Nat.le_refl _) _)
  rw [← hXa]
  clear hXa
  refine hK.out _ _ ⟨hF, fun _ _ => trivial⟩ ?_
  clear hK K
  (try simp only [Act.put, List.getElem_toArray, List.getElem_cons_succ, List.getElem_cons_zero, List.setIfInBounds_toArray, List.set_cons_succ, List.set_cons_zero])
  refine wpTwo_ready (rs := [24]) (by kernel_rfl) (by simp) ?_
  refine (AllTwo.cons rfl (fun K hK => ?_) AllTwo.nil)
  go_simp
  refine (apart_c _ [(a', c'), (a, c)] _ HBL.out (fun b hb => by
    rcases List.mem_cons.1 hb with rfl | hb
    · exact HI.out.2
    · rw [List.mem_singleton.1 hb]; exact HI.out.1) (by simp) (HFE.out _ hF).1.2.2.1).mono ?_
  rintro e Y4 ⟨rfl, hb⟩
  have hF := HFB.out _ _ hF hb
  clear hb HBL
  rw [hp]
  go_wp2_with fail
  refine hK.out _ _ ⟨hF, fun _ _ => trivial⟩ ?_
  clear hK K
  (try simp only [Act.put, List.getElem_toArray, List.getElem_cons_succ, List.getElem_cons_zero, List.setIfInBounds_toArray, List.set_cons_succ, List.set_cons_zero])
  refine wpTwo_ready (rs := [27]) (by kernel_rfl) (by simp) ?_
  refine (AllTwo.cons rfl (fun K hK => ?_) AllTwo.nil)
  go_simp
  refine (over_c a' c' a c HI.out.2 HI.out.1 _ (HFE.out _ hF).1.2.2.1).mono ?_
  rintro e Y5 ⟨rfl, hb⟩
  have hF := HFB.out _ _ hF hb
  clear hb
  rw [ho]
  go_wp2_with fail
  refine hK.out _ _ ⟨hF, fun _ _ => trivial⟩ ?_
  clear hK K
  (try simp only [Act.put, List.getElem_toArray, List.getElem_cons_succ, List.getElem_cons_zero, List.setIfInBounds_toArray, List.set_cons_succ, List.set_cons_zero])
  refine wpTwo_takeT (i := 28) (v := .bool true) rfl (by kernel_rfl) (by kernel_rfl) (by kernel_rfl) (fun _ _ _ h => h) ⟨by rfl, ?_⟩ hF ?_
  · rintro w hTw
    go_simp
  (try simp only [Act.put, List.getElem_toArray, List.getElem_cons_succ, List.getElem_cons_zero, List.setIfInBounds_toArray, List.set_cons_succ, List.set_cons_zero])
  refine wpTwo_takeT (i := 29) (v := .bool true) rfl (by kernel_rfl) (by kernel_rfl) (by kernel_rfl) (fun _ _ _ h => h) ⟨by rfl, ?_⟩ hF ?_
  · rintro w hTw
    go_simp
  (try simp only [Act.put, List.getElem_toArray, List.getElem_cons_succ, List.getElem_cons_zero, List.setIfInBounds_toArray, List.set_cons_succ, List.set_cons_zero])
  refine wpTwo_takeT (i := 30) (v := .bool true) rfl (by kernel_rfl) (by kernel_rfl) (by kernel_rfl) (fun _ _ _ h => h) ⟨by rfl, ?_⟩ hF ?_
  · rintro w hTw
    go_simp
  (try simp only [Act.put, List.getElem_toArray, List.getElem_cons_succ, List.getElem_cons_zero, List.setIfInBounds_toArray, List.set_cons_succ, List.set_cons_zero])
  refine wpTwo_end (by kernel_rfl) ?_ _
  have HBE := Lib.hid (HFE.out _ hF).1.2.2.2
  clear hF
  go_wp2
  go_ret
  exact ⟨rfl, HBE.out⟩

theorem nests_walk (a c a' c' : Int) (ha : I64 a) (_ : I64 c) (ha' : I64 a') (_ : I64 c') (W : World) (hT : Tab W) : Calls Tryd.prog 8 #[blkV a c, blkV a' c'] W fun e w' => e = .returned (.bool true) ∧ Below W.heap.size W w' := by
  cases h1 : mayB a c with
  | false => exact nests_e1 a c a' c' ha ha' h1 (by unfold ovB; rw [h1]; rfl) (apB_no (.inl h1)) W hT
  | true =>
    cases h2 : mayB a' c' with
    | false => exact nests_e2 a c a' c' ha ha' h1 h2 (by unfold ovB; rw [h1, h2]; rfl) (apB_no (.inr h2)) W hT
    | true =>
      by_cases hc : c ≤ c'
      · cases ho : ovB a c a' c' with
        | false => exact nests_00 a c a' c' ha ha' h1 h2 hc ho W hT
        | true => exact nests_01 a c a' c' ha ha' h1 h2 hc ho W hT
      · cases ho : ovB a' c' a c with
        | false => exact nests_10 a c a' c' ha ha' h1 h2 (by omega) ho W hT
        | true => exact nests_11 a c a' c' ha ha' h1 h2 (by omega) ho W hT

end Go.Proofs.YtklbbcaebdfjeaaDoor
