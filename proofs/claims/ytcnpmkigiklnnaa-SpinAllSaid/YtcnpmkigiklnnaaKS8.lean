/-
  Take, of package spin: where one is, once its access came to something; what was in memory stays.
  Conditions: none but the ranges of Go's types.
-/
import Derived.Test.YtcnpmkigiklnnaaKS7
namespace Go.Proofs.Ytcnpmkigiklnnaa
open Go.RowKit Go.Shelf
attribute [local go_sem] spV ndV
attribute [local go_sem] Oper.semAt_some

theorem take_new (W : World) (a p t v : Int) (d : Bool) : SpBox (((W.alloc (.cells #[.int .i64 a, .int .i64 p, .int .u64 t] 24)).alloc (.cells #[.int .u64 v, .bool d] 36)).alloc (.cells #[.int .i64 0, .int .i64 0, .int .u64 0] 24)) W.heap.size a p t ∧
    GBox (((W.alloc (.cells #[.int .i64 a, .int .i64 p, .int .u64 t] 24)).alloc (.cells #[.int .u64 v, .bool d] 36)).alloc (.cells #[.int .i64 0, .int .i64 0, .int .u64 0] 24)) (W.heap.size + 1) v d ∧
    SpBox (((W.alloc (.cells #[.int .i64 a, .int .i64 p, .int .u64 t] 24)).alloc (.cells #[.int .u64 v, .bool d] 36)).alloc (.cells #[.int .i64 0, .int .i64 0, .int .u64 0] 24)) (W.heap.size + 1 + 1) 0 0 0 := by
  have h1 := World.alloc_heap_new W (.cells #[.int .i64 a, .int .i64 p, .int .u64 t] 24)
  have h2 := World.alloc_heap_new (W.alloc (.cells #[.int .i64 a, .int .i64 p, .int .u64 t] 24)) (.cells #[.int .u64 v, .bool d] 36)
  have h3 := World.alloc_heap_new ((W.alloc (.cells #[.int .i64 a, .int .i64 p, .int .u64 t] 24)).alloc (.cells #[.int .u64 v, .bool d] 36)) (.cells #[.int .i64 0, .int .i64 0, .int .u64 0] 24)
  rw [World.size_alloc] at h2
  rw [World.size_alloc, World.size_alloc] at h3
  exact ⟨((below2 (W.alloc (.cells #[.int .i64 a, .int .i64 p, .int .u64 t] 24)) _ _).block _ (by simp)).trans h1, ((below1 ((W.alloc (.cells #[.int .i64 a, .int .i64 p, .int .u64 t] 24)).alloc (.cells #[.int .u64 v, .bool d] 36)) _).block _ (by simp)).trans h2, h3⟩
set_option maxRecDepth 100000 in
set_option maxHeartbeats 4000000 in
theorem qtake0 (a t v : Int) (ha : 0 ≤ a) (ha1 : a ≤ 9223372036854775807) (ht : t = 0) (W : World) :
    Calls Try.prog 14 #[.agg #[.int .i64 a, .int .i64 0, .int .u64 t], .agg #[.int .u64 v, .bool true]] W fun e w' => e = .returned (.tuple #[.agg #[.int .i64 a, .int .i64 1, .int .u64 v], .int .i64 0]) ∧ Below W.heap.size W w' := by
  have HCK := Lib.hid (show ∀ W', Calls Try.prog 10 #[.agg #[.int .i64 a, .int .i64 0, .int .u64 t]] W' fun e w' => e = .returned (.int .i64 0) ∧ Below W'.heap.size W' w' from fun W' => qcheck_yes ⟨a, 0, t⟩ (rightS_iff.2 ⟨ha, .inl ⟨rfl, ht⟩⟩) W')
  have HND := Lib.hid (show ∀ W', Calls Try.prog 11 #[.agg #[.int .i64 a, .int .i64 0, .int .u64 t]] W' fun e w' => e = .returned (.tuple #[.agg #[.int .i64 1, .int .i64 a, .int .u64 0, .int .u64 0], .bool true]) ∧ Below W'.heap.size W' w' from fun W' => qneed0 a t ha ha1 ht W')
  have HTH := Lib.hid (show ∀ W', Calls Try.prog 52 #[.agg #[.int .i64 a, .int .i64 0, .int .u64 t], .agg #[.int .u64 v, .bool true]] W' fun e w' => e = .returned (.agg #[.int .i64 a, .int .i64 1, .int .u64 v]) ∧ Below W'.heap.size W' w' from fun W' => qasked a 0 t v true W')
  have hix : ∀ w, (Instr.index 79 (.agg #[.func (.func 51) #[] #[], .func (.func 52) #[] #[], .func (.func 53) #[] #[], .func (.func 54) #[] #[], .func (.func 55) #[] #[], .func (.func 56) #[] #[], .nilFunc, .nilFunc, .func (.func 57) #[] #[], .func (.func 58) #[] #[], .nilFunc, .nilFunc]) (.int .i64 0)).run Try.prog w = .ok (.agg #[.func (.func 51) #[] #[], .func (.func 52) #[] #[]]) w := fun _ => by kernel_rfl
  have hfd : ∀ w, (Instr.field 78 (.agg #[.func (.func 51) #[] #[], .func (.func 52) #[] #[]]) 1).run Try.prog w = .ok (.func (.func 52) #[] #[]) w := fun _ => by kernel_rfl
  clear ht
  obtain ⟨y, hy⟩ : ∃ y, y = W.heap.size := ⟨_, rfl⟩
  obtain ⟨w0, hw0⟩ : ∃ w : World, w = ((W.alloc (.cells #[.int .i64 a, .int .i64 0, .int .u64 t] 24)).alloc (.cells #[.int .u64 v, .bool true] 36)).alloc (.cells #[.int .i64 0, .int .i64 0, .int .u64 0] 24) := ⟨_, rfl⟩
  have hB0 : Below W.heap.size W w0 := by rw [hw0]; exact below3 _ _ _ _
  have HBX := Lib.hid (take_new W a 0 t v true)
  rw [← hw0, ← hy] at HBX
  have HE := Lib.hid (And.intro hw0 hy)
  have HB0 := Lib.hid hB0
  have hyW : W.heap.size ≤ y := Nat.le_of_eq hy.symm
  clear hw0 hy hB0
  obtain ⟨b0, b1, b2⟩ := HBX.out.1.cells
  go_enter Try.func14, Try.ntmps14
  go_upto_region 1 with (fail)
  rw [← HE.out.1, ← HE.out.2]
  go_wp2_with fail
  refine (HCK.out _).mono ?_
  rintro e w1 ⟨rfl, hb1⟩
  have HB1 := Lib.hid (below_then HB0.out HB0.out.size hb1)
  have HX1 := Lib.hid (And.intro (HBX.out.1.below hb1) (And.intro (HBX.out.2.1.below hb1) (HBX.out.2.2.below hb1)))
  clear b0 b1 b2 hb1 HBX HB0 HCK HE
  obtain ⟨b0, b1, b2⟩ := HX1.out.1.cells
  go_wp2_with fail
  refine (HND.out _).mono ?_
  rintro e w2 ⟨rfl, hb2⟩
  obtain ⟨z, hz⟩ : ∃ z, z = w2.heap.size := ⟨_, rfl⟩
  obtain ⟨w3, hw3⟩ : ∃ w : World, w = w2.alloc (.cells #[.int .i64 1, .int .i64 a, .int .u64 0, .int .u64 0] 31) := ⟨_, rfl⟩
  have hb3 : Below w2.heap.size w2 w3 := by rw [hw3]; exact below1 _ _
  have HAC := Lib.hid (show AcBox w3 z 1 a 0 0 by rw [hw3, hz]; exact World.alloc_heap_new _ _)
  have HB3 := Lib.hid (below_then (below_then HB1.out HB1.out.size hb2) (Nat.le_trans HB1.out.size hb2.size) hb3)
  have HX3 := Lib.hid (And.intro ((HX1.out.1.below hb2).below hb3) (And.intro ((HX1.out.2.1.below hb2).below hb3) ((HX1.out.2.2.below hb2).below hb3)))
  have HE3 := Lib.hid (And.intro hw3 hz)
  clear b0 b1 b2 hb2 hb3 hw3 hz HX1 HB1 HND
  go_upto_region 5 with (fail)
  rw [← HE3.out.1, ← HE3.out.2]
  obtain ⟨g0, g1⟩ := HX3.out.2.1.cells
  obtain ⟨c0, c1, c2, c3⟩ := HAC.out.cells
  go_upto_region 9 with (fail)
  clear g0 g1 c0 c1 c2 c3 HAC HE3
  refine wpTwo_begin (T := fun w' => SpBox w' y a 0 t ∧ GBox w' (y + 1) v true) (S := fun _ => True) (late := fun _ => false) (by kernel_rfl) ?_
  obtain ⟨X0, hX0⟩ : ∃ X : World, X = w3.drew := ⟨_, rfl⟩
  rw [← hX0]
  have hbX : Below w3.heap.size w3 X0 := by rw [hX0]; exact (Below.refl _ _).drew
  have hT := And.intro (HX3.out.1.below hbX) (HX3.out.2.1.below hbX)
  have HR0 := Lib.hid (HX3.out.2.2.below hbX)
  have HB4 := Lib.hid (below_then HB3.out HB3.out.size hbX)
  clear hX0 hbX HX3 HB3
  refine wpTwo_takeT (i := 1) (v := .pointer (some ⟨y, 1, none⟩)) rfl (by kernel_rfl) (by kernel_rfl) (by kernel_rfl) (fun _ _ _ h => h) ⟨by rfl, ?_⟩ hT ?_
  · intro w hTw
    obtain ⟨t0, t1, t2⟩ := SpBox.cells hTw.1
    obtain ⟨t3, t4⟩ := GBox.cells hTw.2
    go_simp
  (try simp only [Act.put, List.getElem_toArray, List.getElem_cons_succ, List.getElem_cons_zero, List.setIfInBounds_toArray, List.set_cons_succ, List.set_cons_zero])
  refine wpTwo_takeT (i := 2) (v := .int .i64 0) rfl (by kernel_rfl) (by kernel_rfl) (by kernel_rfl) (fun _ _ _ h => h) ⟨by rfl, ?_⟩ hT ?_
  · intro w hTw
    obtain ⟨t0, t1, t2⟩ := SpBox.cells hTw.1
    obtain ⟨t3, t4⟩ := GBox.cells hTw.2
    go_simp
  (try simp only [Act.put, List.getElem_toArray, List.getElem_cons_succ, List.getElem_cons_zero, List.setIfInBounds_toArray, List.set_cons_succ, List.set_cons_zero])
  refine wpTwo_takeT (i := 5) (v := .agg #[.int .i64 a, .int .i64 0, .int .u64 t]) rfl (by kernel_rfl) (by kernel_rfl) (by kernel_rfl) (fun _ _ _ h => h) ⟨by rfl, ?_⟩ hT ?_
  · intro w hTw
    obtain ⟨t0, t1, t2⟩ := SpBox.cells hTw.1
    obtain ⟨t3, t4⟩ := GBox.cells hTw.2
    go_simp
  (try simp only [Act.put, List.getElem_toArray, List.getElem_cons_succ, List.getElem_cons_zero, List.setIfInBounds_toArray, List.set_cons_succ, List.set_cons_zero])
  refine wpTwo_takeT (i := 6) (v := .agg #[.int .u64 v, .bool true]) rfl (by kernel_rfl) (by kernel_rfl) (by kernel_rfl) (fun _ _ _ h => h) ⟨by rfl, ?_⟩ hT ?_
  · intro w hTw
    obtain ⟨t0, t1, t2⟩ := SpBox.cells hTw.1
    obtain ⟨t3, t4⟩ := GBox.cells hTw.2
    go_simp
  (try simp only [Act.put, List.getElem_toArray, List.getElem_cons_succ, List.getElem_cons_zero, List.setIfInBounds_toArray, List.set_cons_succ, List.set_cons_zero])
  refine wpTwo_ready (rs := [0]) (by kernel_rfl) (by simp) ?_
  refine (AllTwo.cons rfl (fun K hK => ?_) AllTwo.nil)
  go_simp
  refine (qphases _).mono ?_
  rintro e X1 ⟨rfl, hb⟩
  have HR1 := Lib.hid (HR0.out.below hb)
  have HB5 := Lib.hid (below_then HB4.out HB4.out.size hb)
  have hT := And.intro (hT.1.below hb) (hT.2.below hb)
  clear hb HR0 HB4
  go_wp2_with fail
  refine hK.out _ _ ⟨hT, fun _ _ => trivial⟩ ?_
  clear hK K
  (try simp only [Act.put, List.getElem_toArray, List.getElem_cons_succ, List.getElem_cons_zero, List.setIfInBounds_toArray, List.set_cons_succ, List.set_cons_zero])
  refine wpTwo_takeT (i := 3) (v := .agg #[.func (.func 51) #[] #[], .func (.func 52) #[] #[]]) rfl (by kernel_rfl) (by kernel_rfl) (by kernel_rfl) (fun _ _ _ h => h) ⟨by rfl, ?_⟩ hT ?_
  · intro w hTw
    go_simp
  (try simp only [Act.put, List.getElem_toArray, List.getElem_cons_succ, List.getElem_cons_zero, List.setIfInBounds_toArray, List.set_cons_succ, List.set_cons_zero])
  refine wpTwo_takeT (i := 4) (v := .func (.func 52) #[] #[]) rfl (by kernel_rfl) (by kernel_rfl) (by kernel_rfl) (fun _ _ _ h => h) ⟨by rfl, ?_⟩ hT ?_
  · intro w hTw
    go_simp
  (try simp only [Act.put, List.getElem_toArray, List.getElem_cons_succ, List.getElem_cons_zero, List.setIfInBounds_toArray, List.set_cons_succ, List.set_cons_zero])
  refine wpTwo_ready (rs := [7]) (by kernel_rfl) (by simp) ?_
  refine (AllTwo.cons rfl (fun K hK => ?_) AllTwo.nil)
  go_simp
  refine (HTH.out _).mono ?_
  rintro e X2 ⟨rfl, hb⟩
  have HR2 := Lib.hid (HR1.out.below hb)
  have HB6 := Lib.hid (below_then HB5.out HB5.out.size hb)
  have hT := And.intro (hT.1.below hb) (hT.2.below hb)
  clear hb HR1 HB5 HTH hix hfd
  go_wp2_with fail
  refine hK.out _ _ ⟨hT, fun _ _ => trivial⟩ ?_
  clear hK K
  (try simp only [Act.put, List.getElem_toArray, List.getElem_cons_succ, List.getElem_cons_zero, List.setIfInBounds_toArray, List.set_cons_succ, List.set_cons_zero])
  refine wpTwo_ready (rs := [8]) (by kernel_rfl) (by simp) ?_
  refine (AllTwo.cons rfl (fun K hK => ?_) AllTwo.nil)
  obtain ⟨r0, r1, r2⟩ := HR2.out.cells
  have rf := HR2.out.free
  have rf0 := rf 0
  have rf1 := rf 1
  have rf2 := rf 2
  obtain ⟨i0, i1, i2, hres⟩ : ∃ i0 i1 i2, (#[.int .i64 a, .int .i64 1, .int .u64 v] : Array Value) = #[i0, i1, i2] := ⟨_, _, _, rfl⟩
  obtain ⟨X3, hX3⟩ : ∃ X : World, X = ((X2.setCell ⟨y + 1 + 1, 0, none⟩ (.int .i64 a)).setCell ⟨y + 1 + 1, 1, none⟩ (.int .i64 1)).setCell ⟨y + 1 + 1, 2, none⟩ (.int .u64 v) := ⟨_, rfl⟩
  have hk : Keeps (fun q => q = y + 1 + 1) X2 X3 := by rw [hX3]; exact ((Keeps.setCell X2 (S := fun q => q = y + 1 + 1) (p := ⟨y + 1 + 1, 0, none⟩) rfl _).trans (Keeps.setCell _ (S := fun q => q = y + 1 + 1) (p := ⟨y + 1 + 1, 1, none⟩) rfl _)).trans (Keeps.setCell _ (S := fun q => q = y + 1 + 1) (p := ⟨y + 1 + 1, 2, none⟩) rfl _)
  have hT3 := And.intro (hT.1.keeps hk (fun e => by have e : y = y + 1 + 1 := e; omega)) (hT.2.keeps hk (fun e => by have e : y + 1 = y + 1 + 1 := e; omega))
  have HB7 := Lib.hid (show Below W.heap.size W X3 by rw [hX3]; exact below_set3 HB6.out (by omega) _ _ _)
  have hn : X3.heap[y + 1 + 1]? = some (.cells #[.int .i64 a, .int .i64 1, .int .u64 v] 24 (0, 0)) := by
    rw [hX3, heap_setCell_same _ (y + 1 + 1) 2 _ _ _ (heap_setCell_same _ (y + 1 + 1) 1 _ _ _ (heap_setCell_same X2 (y + 1 + 1) 0 _ _ _ HR2.out))]; rfl
  have HN := Lib.hid (show X3.cell? ⟨y + 1 + 1, 0, none⟩ = some (.int .i64 a) ∧ X3.cell? ⟨y + 1 + 1, 1, none⟩ = some (.int .i64 1) ∧ X3.cell? ⟨y + 1 + 1, 2, none⟩ = some (.int .u64 v) by simp [World.cell?, hn])
  clear hres hk hn rf HR2 HB6
  go_simp
  rw [← hX3]
  refine hK.out _ _ ⟨hT3, fun _ _ => trivial⟩ ?_
  clear hK K r0 r1 r2 rf0 rf1 rf2 hX3
  (try simp only [Act.put, List.getElem_toArray, List.getElem_cons_succ, List.getElem_cons_zero, List.setIfInBounds_toArray, List.set_cons_succ, List.set_cons_zero])
  refine wpTwo_takeT (i := 9) (v := .int .i64 0) rfl (by kernel_rfl) (by kernel_rfl) (by kernel_rfl) (fun _ _ _ h => h) ⟨by rfl, ?_⟩ hT3 ?_
  · intro w hTw
    go_simp
  (try simp only [Act.put, List.getElem_toArray, List.getElem_cons_succ, List.getElem_cons_zero, List.setIfInBounds_toArray, List.set_cons_succ, List.set_cons_zero])
  refine wpTwo_end (by kernel_rfl) ?_ _
  obtain ⟨r0, r1, r2⟩ := HN.out
  go_wp2
  exact bodyPost_ret (v := .tuple #[.agg #[.int .i64 a, .int .i64 1, .int .u64 v], .int .i64 0]) (by simp [results, Try.results14, go_sem, r0, r1, r2]) rfl ⟨rfl, HB7.out⟩
set_option maxRecDepth 100000 in
set_option maxHeartbeats 4000000 in
theorem qtake0n (a t v : Int) (ha : 0 ≤ a) (ha1 : a ≤ 9223372036854775807) (ht : t = 0) (W : World) :
    Calls Try.prog 14 #[.agg #[.int .i64 a, .int .i64 0, .int .u64 t], .agg #[.int .u64 v, .bool false]] W fun e w' => e = .returned (.tuple #[.agg #[.int .i64 a, .int .i64 0, .int .u64 t], .int .i64 0]) ∧ Below W.heap.size W w' := by
  have HCK := Lib.hid (show ∀ W', Calls Try.prog 10 #[.agg #[.int .i64 a, .int .i64 0, .int .u64 t]] W' fun e w' => e = .returned (.int .i64 0) ∧ Below W'.heap.size W' w' from fun W' => qcheck_yes ⟨a, 0, t⟩ (rightS_iff.2 ⟨ha, .inl ⟨rfl, ht⟩⟩) W')
  have HND := Lib.hid (show ∀ W', Calls Try.prog 11 #[.agg #[.int .i64 a, .int .i64 0, .int .u64 t]] W' fun e w' => e = .returned (.tuple #[.agg #[.int .i64 1, .int .i64 a, .int .u64 0, .int .u64 0], .bool true]) ∧ Below W'.heap.size W' w' from fun W' => qneed0 a t ha ha1 ht W')
  clear ht
  obtain ⟨y, hy⟩ : ∃ y, y = W.heap.size := ⟨_, rfl⟩
  obtain ⟨w0, hw0⟩ : ∃ w : World, w = ((W.alloc (.cells #[.int .i64 a, .int .i64 0, .int .u64 t] 24)).alloc (.cells #[.int .u64 v, .bool false] 36)).alloc (.cells #[.int .i64 0, .int .i64 0, .int .u64 0] 24) := ⟨_, rfl⟩
  have hB0 : Below W.heap.size W w0 := by rw [hw0]; exact below3 _ _ _ _
  have HBX := Lib.hid (take_new W a 0 t v false)
  rw [← hw0, ← hy] at HBX
  have HE := Lib.hid (And.intro hw0 hy)
  have HB0 := Lib.hid hB0
  have hyW : W.heap.size ≤ y := Nat.le_of_eq hy.symm
  clear hw0 hy hB0
  obtain ⟨b0, b1, b2⟩ := HBX.out.1.cells
  go_enter Try.func14, Try.ntmps14
  go_upto_region 1 with (fail)
  rw [← HE.out.1, ← HE.out.2]
  go_wp2_with fail
  refine (HCK.out _).mono ?_
  rintro e w1 ⟨rfl, hb1⟩
  have HB1 := Lib.hid (below_then HB0.out HB0.out.size hb1)
  have HX1 := Lib.hid (And.intro (HBX.out.1.below hb1) (And.intro (HBX.out.2.1.below hb1) (HBX.out.2.2.below hb1)))
  clear b0 b1 b2 hb1 HBX HB0 HCK HE
  obtain ⟨b0, b1, b2⟩ := HX1.out.1.cells
  go_wp2_with fail
  refine (HND.out _).mono ?_
  rintro e w2 ⟨rfl, hb2⟩
  obtain ⟨z, hz⟩ : ∃ z, z = w2.heap.size := ⟨_, rfl⟩
  obtain ⟨w3, hw3⟩ : ∃ w : World, w = w2.alloc (.cells #[.int .i64 1, .int .i64 a, .int .u64 0, .int .u64 0] 31) := ⟨_, rfl⟩
  have hb3 : Below w2.heap.size w2 w3 := by rw [hw3]; exact below1 _ _
  have HAC := Lib.hid (show AcBox w3 z 1 a 0 0 by rw [hw3, hz]; exact World.alloc_heap_new _ _)
  have HB3 := Lib.hid (below_then (below_then HB1.out HB1.out.size hb2) (Nat.le_trans HB1.out.size hb2.size) hb3)
  have HX3 := Lib.hid (And.intro ((HX1.out.1.below hb2).below hb3) (And.intro ((HX1.out.2.1.below hb2).below hb3) ((HX1.out.2.2.below hb2).below hb3)))
  have HE3 := Lib.hid (And.intro hw3 hz)
  clear b0 b1 b2 hb2 hb3 hw3 hz HX1 HB1 HND
  go_upto_region 5 with (fail)
  rw [← HE3.out.1, ← HE3.out.2]
  obtain ⟨g0, g1⟩ := HX3.out.2.1.cells
  obtain ⟨c0, c1, c2, c3⟩ := HAC.out.cells
  obtain ⟨b0, b1, b2⟩ := HX3.out.1.cells
  obtain ⟨r0, r1, r2⟩ := HX3.out.2.2.cells
  have rf := HX3.out.2.2.free
  have rf0 := rf 0
  have rf1 := rf 1
  have rf2 := rf 2
  clear rf
  clear HX3 HAC HE3
  go_wp2
  exact bodyPost_ret (v := .tuple #[.agg #[.int .i64 a, .int .i64 0, .int .u64 t], .int .i64 0]) (by simp [results, Try.results14, go_sem, r0, r1, r2]) rfl ⟨rfl, below_set3 HB3.out (by omega) _ _ _⟩
set_option maxRecDepth 100000 in
set_option maxHeartbeats 4000000 in
theorem qtake1 (a t v : Int) (ha : 0 ≤ a) (ha1 : a ≤ 9223372036854775807) (W : World) :
    Calls Try.prog 14 #[.agg #[.int .i64 a, .int .i64 1, .int .u64 t], .agg #[.int .u64 v, .bool true]] W fun e w' => e = .returned (.tuple #[.agg #[.int .i64 a, .int .i64 2, .int .u64 t], .int .i64 0]) ∧ Below W.heap.size W w' := by
  have HCK := Lib.hid (show ∀ W', Calls Try.prog 10 #[.agg #[.int .i64 a, .int .i64 1, .int .u64 t]] W' fun e w' => e = .returned (.int .i64 0) ∧ Below W'.heap.size W' w' from fun W' => qcheck_yes ⟨a, 1, t⟩ (rightS_iff.2 ⟨ha, .inr (.inl rfl)⟩) W')
  have HND := Lib.hid (show ∀ W', Calls Try.prog 11 #[.agg #[.int .i64 a, .int .i64 1, .int .u64 t]] W' fun e w' => e = .returned (.tuple #[.agg #[.int .i64 3, .int .i64 a, .int .u64 t, .int .u64 (incU t)], .bool true]) ∧ Below W'.heap.size W' w' from fun W' => qneed1 a t ha ha1 W')
  have HTH := Lib.hid (show ∀ W', Calls Try.prog 54 #[.agg #[.int .i64 a, .int .i64 1, .int .u64 t], .agg #[.int .u64 v, .bool true]] W' fun e w' => e = .returned (.agg #[.int .i64 a, .int .i64 2, .int .u64 t]) ∧ Below W'.heap.size W' w' from fun W' => qtried_yes a 1 t v W')
  have hix : ∀ w, (Instr.index 79 (.agg #[.func (.func 51) #[] #[], .func (.func 52) #[] #[], .func (.func 53) #[] #[], .func (.func 54) #[] #[], .func (.func 55) #[] #[], .func (.func 56) #[] #[], .nilFunc, .nilFunc, .func (.func 57) #[] #[], .func (.func 58) #[] #[], .nilFunc, .nilFunc]) (.int .i64 1)).run Try.prog w = .ok (.agg #[.func (.func 53) #[] #[], .func (.func 54) #[] #[]]) w := fun _ => by kernel_rfl
  have hfd : ∀ w, (Instr.field 78 (.agg #[.func (.func 53) #[] #[], .func (.func 54) #[] #[]]) 1).run Try.prog w = .ok (.func (.func 54) #[] #[]) w := fun _ => by kernel_rfl
  obtain ⟨y, hy⟩ : ∃ y, y = W.heap.size := ⟨_, rfl⟩
  obtain ⟨w0, hw0⟩ : ∃ w : World, w = ((W.alloc (.cells #[.int .i64 a, .int .i64 1, .int .u64 t] 24)).alloc (.cells #[.int .u64 v, .bool true] 36)).alloc (.cells #[.int .i64 0, .int .i64 0, .int .u64 0] 24) := ⟨_, rfl⟩
  have hB0 : Below W.heap.size W w0 := by rw [hw0]; exact below3 _ _ _ _
  have HBX := Lib.hid (take_new W a 1 t v true)
  rw [← hw0, ← hy] at HBX
  have HE := Lib.hid (And.intro hw0 hy)
  have HB0 := Lib.hid hB0
  have hyW : W.heap.size ≤ y := Nat.le_of_eq hy.symm
  clear hw0 hy hB0
  obtain ⟨b0, b1, b2⟩ := HBX.out.1.cells
  go_enter Try.func14, Try.ntmps14
  go_upto_region 1 with (fail)
  rw [← HE.out.1, ← HE.out.2]
  go_wp2_with fail
  refine (HCK.out _).mono ?_
  rintro e w1 ⟨rfl, hb1⟩
  have HB1 := Lib.hid (below_then HB0.out HB0.out.size hb1)
  have HX1 := Lib.hid (And.intro (HBX.out.1.below hb1) (And.intro (HBX.out.2.1.below hb1) (HBX.out.2.2.below hb1)))
  clear b0 b1 b2 hb1 HBX HB0 HCK HE
  obtain ⟨b0, b1, b2⟩ := HX1.out.1.cells
  go_wp2_with fail
  refine (HND.out _).mono ?_
  rintro e w2 ⟨rfl, hb2⟩
  obtain ⟨z, hz⟩ : ∃ z, z = w2.heap.size := ⟨_, rfl⟩
  obtain ⟨w3, hw3⟩ : ∃ w : World, w = w2.alloc (.cells #[.int .i64 3, .int .i64 a, .int .u64 t, .int .u64 (incU t)] 31) := ⟨_, rfl⟩
  have hb3 : Below w2.heap.size w2 w3 := by rw [hw3]; exact below1 _ _
  have HAC := Lib.hid (show AcBox w3 z 3 a t (incU t) by rw [hw3, hz]; exact World.alloc_heap_new _ _)
  have HB3 := Lib.hid (below_then (below_then HB1.out HB1.out.size hb2) (Nat.le_trans HB1.out.size hb2.size) hb3)
  have HX3 := Lib.hid (And.intro ((HX1.out.1.below hb2).below hb3) (And.intro ((HX1.out.2.1.below hb2).below hb3) ((HX1.out.2.2.below hb2).below hb3)))
  have HE3 := Lib.hid (And.intro hw3 hz)
  clear b0 b1 b2 hb2 hb3 hw3 hz HX1 HB1 HND
  go_upto_region 5 with (fail)
  rw [← HE3.out.1, ← HE3.out.2]
  obtain ⟨g0, g1⟩ := HX3.out.2.1.cells
  obtain ⟨c0, c1, c2, c3⟩ := HAC.out.cells
  go_upto_region 9 with (fail)
  clear g0 g1 c0 c1 c2 c3 HAC HE3
  refine wpTwo_begin (T := fun w' => SpBox w' y a 1 t ∧ GBox w' (y + 1) v true) (S := fun _ => True) (late := fun _ => false) (by kernel_rfl) ?_
  obtain ⟨X0, hX0⟩ : ∃ X : World, X = w3.drew := ⟨_, rfl⟩
  rw [← hX0]
  have hbX : Below w3.heap.size w3 X0 := by rw [hX0]; exact (Below.refl _ _).drew
  have hT := And.intro (HX3.out.1.below hbX) (HX3.out.2.1.below hbX)
  have HR0 := Lib.hid (HX3.out.2.2.below hbX)
  have HB4 := Lib.hid (below_then HB3.out HB3.out.size hbX)
  clear hX0 hbX HX3 HB3
  refine wpTwo_takeT (i := 1) (v := .pointer (some ⟨y, 1, none⟩)) rfl (by kernel_rfl) (by kernel_rfl) (by kernel_rfl) (fun _ _ _ h => h) ⟨by rfl, ?_⟩ hT ?_
  · intro w hTw
    obtain ⟨t0, t1, t2⟩ := SpBox.cells hTw.1
    obtain ⟨t3, t4⟩ := GBox.cells hTw.2
    go_simp
  (try simp only [Act.put, List.getElem_toArray, List.getElem_cons_succ, List.getElem_cons_zero, List.setIfInBounds_toArray, List.set_cons_succ, List.set_cons_zero])
  refine wpTwo_takeT (i := 2) (v := .int .i64 1) rfl (by kernel_rfl) (by kernel_rfl) (by kernel_rfl) (fun _ _ _ h => h) ⟨by rfl, ?_⟩ hT ?_
  · intro w hTw
    obtain ⟨t0, t1, t2⟩ := SpBox.cells hTw.1
    obtain ⟨t3, t4⟩ := GBox.cells hTw.2
    go_simp
  (try simp only [Act.put, List.getElem_toArray, List.getElem_cons_succ, List.getElem_cons_zero, List.setIfInBounds_toArray, List.set_cons_succ, List.set_cons_zero])
  refine wpTwo_takeT (i := 5) (v := .agg #[.int .i64 a, .int .i64 1, .int .u64 t]) rfl (by kernel_rfl) (by kernel_rfl) (by kernel_rfl) (fun _ _ _ h => h) ⟨by rfl, ?_⟩ hT ?_
  · intro w hTw
    obtain ⟨t0, t1, t2⟩ := SpBox.cells hTw.1
    obtain ⟨t3, t4⟩ := GBox.cells hTw.2
    go_simp
  (try simp only [Act.put, List.getElem_toArray, List.getElem_cons_succ, List.getElem_cons_zero, List.setIfInBounds_toArray, List.set_cons_succ, List.set_cons_zero])
  refine wpTwo_takeT (i := 6) (v := .agg #[.int .u64 v, .bool true]) rfl (by kernel_rfl) (by kernel_rfl) (by kernel_rfl) (fun _ _ _ h => h) ⟨by rfl, ?_⟩ hT ?_
  · intro w hTw
    obtain ⟨t0, t1, t2⟩ := SpBox.cells hTw.1
    obtain ⟨t3, t4⟩ := GBox.cells hTw.2
    go_simp
  (try simp only [Act.put, List.getElem_toArray, List.getElem_cons_succ, List.getElem_cons_zero, List.setIfInBounds_toArray, List.set_cons_succ, List.set_cons_zero])
  refine wpTwo_ready (rs := [0]) (by kernel_rfl) (by simp) ?_
  refine (AllTwo.cons rfl (fun K hK => ?_) AllTwo.nil)
  go_simp
  refine (qphases _).mono ?_
  rintro e X1 ⟨rfl, hb⟩
  have HR1 := Lib.hid (HR0.out.below hb)
  have HB5 := Lib.hid (below_then HB4.out HB4.out.size hb)
  have hT := And.intro (hT.1.below hb) (hT.2.below hb)
  clear hb HR0 HB4
  go_wp2_with fail
  refine hK.out _ _ ⟨hT, fun _ _ => trivial⟩ ?_
  clear hK K
  (try simp only [Act.put, List.getElem_toArray, List.getElem_cons_succ, List.getElem_cons_zero, List.setIfInBounds_toArray, List.set_cons_succ, List.set_cons_zero])
  refine wpTwo_takeT (i := 3) (v := .agg #[.func (.func 53) #[] #[], .func (.func 54) #[] #[]]) rfl (by kernel_rfl) (by kernel_rfl) (by kernel_rfl) (fun _ _ _ h => h) ⟨by rfl, ?_⟩ hT ?_
  · intro w hTw
    go_simp
  (try simp only [Act.put, List.getElem_toArray, List.getElem_cons_succ, List.getElem_cons_zero, List.setIfInBounds_toArray, List.set_cons_succ, List.set_cons_zero])
  refine wpTwo_takeT (i := 4) (v := .func (.func 54) #[] #[]) rfl (by kernel_rfl) (by kernel_rfl) (by kernel_rfl) (fun _ _ _ h => h) ⟨by rfl, ?_⟩ hT ?_
  · intro w hTw
    go_simp
  (try simp only [Act.put, List.getElem_toArray, List.getElem_cons_succ, List.getElem_cons_zero, List.setIfInBounds_toArray, List.set_cons_succ, List.set_cons_zero])
  refine wpTwo_ready (rs := [7]) (by kernel_rfl) (by simp) ?_
  refine (AllTwo.cons rfl (fun K hK => ?_) AllTwo.nil)
  go_simp
  refine (HTH.out _).mono ?_
  rintro e X2 ⟨rfl, hb⟩
  have HR2 := Lib.hid (HR1.out.below hb)
  have HB6 := Lib.hid (below_then HB5.out HB5.out.size hb)
  have hT := And.intro (hT.1.below hb) (hT.2.below hb)
  clear hb HR1 HB5 HTH hix hfd
  go_wp2_with fail
  refine hK.out _ _ ⟨hT, fun _ _ => trivial⟩ ?_
  clear hK K
  (try simp only [Act.put, List.getElem_toArray, List.getElem_cons_succ, List.getElem_cons_zero, List.setIfInBounds_toArray, List.set_cons_succ, List.set_cons_zero])
  refine wpTwo_ready (rs := [8]) (by kernel_rfl) (by simp) ?_
  refine (AllTwo.cons rfl (fun K hK => ?_) AllTwo.nil)
  obtain ⟨r0, r1, r2⟩ := HR2.out.cells
  have rf := HR2.out.free
  have rf0 := rf 0
  have rf1 := rf 1
  have rf2 := rf 2
  obtain ⟨i0, i1, i2, hres⟩ : ∃ i0 i1 i2, (#[.int .i64 a, .int .i64 2, .int .u64 t] : Array Value) = #[i0, i1, i2] := ⟨_, _, _, rfl⟩
  obtain ⟨X3, hX3⟩ : ∃ X : World, X = ((X2.setCell ⟨y + 1 + 1, 0, none⟩ (.int .i64 a)).setCell ⟨y + 1 + 1, 1, none⟩ (.int .i64 2)).setCell ⟨y + 1 + 1, 2, none⟩ (.int .u64 t) := ⟨_, rfl⟩
  have hk : Keeps (fun q => q = y + 1 + 1) X2 X3 := by rw [hX3]; exact ((Keeps.setCell X2 (S := fun q => q = y + 1 + 1) (p := ⟨y + 1 + 1, 0, none⟩) rfl _).trans (Keeps.setCell _ (S := fun q => q = y + 1 + 1) (p := ⟨y + 1 + 1, 1, none⟩) rfl _)).trans (Keeps.setCell _ (S := fun q => q = y + 1 + 1) (p := ⟨y + 1 + 1, 2, none⟩) rfl _)
  have hT3 := And.intro (hT.1.keeps hk (fun e => by have e : y = y + 1 + 1 := e; omega)) (hT.2.keeps hk (fun e => by have e : y + 1 = y + 1 + 1 := e; omega))
  have HB7 := Lib.hid (show Below W.heap.size W X3 by rw [hX3]; exact below_set3 HB6.out (by omega) _ _ _)
  have hn : X3.heap[y + 1 + 1]? = some (.cells #[.int .i64 a, .int .i64 2, .int .u64 t] 24 (0, 0)) := by
    rw [hX3, heap_setCell_same _ (y + 1 + 1) 2 _ _ _ (heap_setCell_same _ (y + 1 + 1) 1 _ _ _ (heap_setCell_same X2 (y + 1 + 1) 0 _ _ _ HR2.out))]; rfl
  have HN := Lib.hid (show X3.cell? ⟨y + 1 + 1, 0, none⟩ = some (.int .i64 a) ∧ X3.cell? ⟨y + 1 + 1, 1, none⟩ = some (.int .i64 2) ∧ X3.cell? ⟨y + 1 + 1, 2, none⟩ = some (.int .u64 t) by simp [World.cell?, hn])
  clear hres hk hn rf HR2 HB6
  go_simp
  rw [← hX3]
  refine hK.out _ _ ⟨hT3, fun _ _ => trivial⟩ ?_
  clear hK K r0 r1 r2 rf0 rf1 rf2 hX3
  (try simp only [Act.put, List.getElem_toArray, List.getElem_cons_succ, List.getElem_cons_zero, List.setIfInBounds_toArray, List.set_cons_succ, List.set_cons_zero])
  refine wpTwo_takeT (i := 9) (v := .int .i64 0) rfl (by kernel_rfl) (by kernel_rfl) (by kernel_rfl) (fun _ _ _ h => h) ⟨by rfl, ?_⟩ hT3 ?_
  · intro w hTw
    go_simp
  (try simp only [Act.put, List.getElem_toArray, List.getElem_cons_succ, List.getElem_cons_zero, List.setIfInBounds_toArray, List.set_cons_succ, List.set_cons_zero])
  refine wpTwo_end (by kernel_rfl) ?_ _
  obtain ⟨r0, r1, r2⟩ := HN.out
  go_wp2
  exact bodyPost_ret (v := .tuple #[.agg #[.int .i64 a, .int .i64 2, .int .u64 t], .int .i64 0]) (by simp [results, Try.results14, go_sem, r0, r1, r2]) rfl ⟨rfl, HB7.out⟩
set_option maxRecDepth 100000 in
set_option maxHeartbeats 4000000 in
theorem qtake1n (a t v : Int) (ha : 0 ≤ a) (ha1 : a ≤ 9223372036854775807) (W : World) :
    Calls Try.prog 14 #[.agg #[.int .i64 a, .int .i64 1, .int .u64 t], .agg #[.int .u64 v, .bool false]] W fun e w' => e = .returned (.tuple #[.agg #[.int .i64 a, .int .i64 0, .int .u64 0], .int .i64 0]) ∧ Below W.heap.size W w' := by
  have HCK := Lib.hid (show ∀ W', Calls Try.prog 10 #[.agg #[.int .i64 a, .int .i64 1, .int .u64 t]] W' fun e w' => e = .returned (.int .i64 0) ∧ Below W'.heap.size W' w' from fun W' => qcheck_yes ⟨a, 1, t⟩ (rightS_iff.2 ⟨ha, .inr (.inl rfl)⟩) W')
  have HND := Lib.hid (show ∀ W', Calls Try.prog 11 #[.agg #[.int .i64 a, .int .i64 1, .int .u64 t]] W' fun e w' => e = .returned (.tuple #[.agg #[.int .i64 3, .int .i64 a, .int .u64 t, .int .u64 (incU t)], .bool true]) ∧ Below W'.heap.size W' w' from fun W' => qneed1 a t ha ha1 W')
  have HTH := Lib.hid (show ∀ W', Calls Try.prog 54 #[.agg #[.int .i64 a, .int .i64 1, .int .u64 t], .agg #[.int .u64 v, .bool false]] W' fun e w' => e = .returned (.agg #[.int .i64 a, .int .i64 0, .int .u64 0]) ∧ Below W'.heap.size W' w' from fun W' => qtried_no a 1 t v W')
  have hix : ∀ w, (Instr.index 79 (.agg #[.func (.func 51) #[] #[], .func (.func 52) #[] #[], .func (.func 53) #[] #[], .func (.func 54) #[] #[], .func (.func 55) #[] #[], .func (.func 56) #[] #[], .nilFunc, .nilFunc, .func (.func 57) #[] #[], .func (.func 58) #[] #[], .nilFunc, .nilFunc]) (.int .i64 1)).run Try.prog w = .ok (.agg #[.func (.func 53) #[] #[], .func (.func 54) #[] #[]]) w := fun _ => by kernel_rfl
  have hfd : ∀ w, (Instr.field 78 (.agg #[.func (.func 53) #[] #[], .func (.func 54) #[] #[]]) 1).run Try.prog w = .ok (.func (.func 54) #[] #[]) w := fun _ => by kernel_rfl
  obtain ⟨y, hy⟩ : ∃ y, y = W.heap.size := ⟨_, rfl⟩
  obtain ⟨w0, hw0⟩ : ∃ w : World, w = ((W.alloc (.cells #[.int .i64 a, .int .i64 1, .int .u64 t] 24)).alloc (.cells #[.int .u64 v, .bool false] 36)).alloc (.cells #[.int .i64 0, .int .i64 0, .int .u64 0] 24) := ⟨_, rfl⟩
  have hB0 : Below W.heap.size W w0 := by rw [hw0]; exact below3 _ _ _ _
  have HBX := Lib.hid (take_new W a 1 t v false)
  rw [← hw0, ← hy] at HBX
  have HE := Lib.hid (And.intro hw0 hy)
  have HB0 := Lib.hid hB0
  have hyW : W.heap.size ≤ y := Nat.le_of_eq hy.symm
  clear hw0 hy hB0
  obtain ⟨b0, b1, b2⟩ := HBX.out.1.cells
  go_enter Try.func14, Try.ntmps14
  go_upto_region 1 with (fail)
  rw [← HE.out.1, ← HE.out.2]
  go_wp2_with fail
  refine (HCK.out _).mono ?_
  rintro e w1 ⟨rfl, hb1⟩
  have HB1 := Lib.hid (below_then HB0.out HB0.out.size hb1)
  have HX1 := Lib.hid (And.intro (HBX.out.1.below hb1) (And.intro (HBX.out.2.1.below hb1) (HBX.out.2.2.below hb1)))
  clear b0 b1 b2 hb1 HBX HB0 HCK HE
  obtain ⟨b0, b1, b2⟩ := HX1.out.1.cells
  go_wp2_with fail
  refine (HND.out _).mono ?_
  rintro e w2 ⟨rfl, hb2⟩
  obtain ⟨z, hz⟩ : ∃ z, z = w2.heap.size := ⟨_, rfl⟩
  obtain ⟨w3, hw3⟩ : ∃ w : World, w = w2.alloc (.cells #[.int .i64 3, .int .i64 a, .int .u64 t, .int .u64 (incU t)] 31) := ⟨_, rfl⟩
  have hb3 : Below w2.heap.size w2 w3 := by rw [hw3]; exact below1 _ _
  have HAC := Lib.hid (show AcBox w3 z 3 a t (incU t) by rw [hw3, hz]; exact World.alloc_heap_new _ _)
  have HB3 := Lib.hid (below_then (below_then HB1.out HB1.out.size hb2) (Nat.le_trans HB1.out.size hb2.size) hb3)
  have HX3 := Lib.hid (And.intro ((HX1.out.1.below hb2).below hb3) (And.intro ((HX1.out.2.1.below hb2).below hb3) ((HX1.out.2.2.below hb2).below hb3)))
  have HE3 := Lib.hid (And.intro hw3 hz)
  clear b0 b1 b2 hb2 hb3 hw3 hz HX1 HB1 HND
  go_upto_region 5 with (fail)
  rw [← HE3.out.1, ← HE3.out.2]
  obtain ⟨g0, g1⟩ := HX3.out.2.1.cells
  obtain ⟨c0, c1, c2, c3⟩ := HAC.out.cells
  go_upto_region 9 with (fail)
  clear g0 g1 c0 c1 c2 c3 HAC HE3
  refine wpTwo_begin (T := fun w' => SpBox w' y a 1 t ∧ GBox w' (y + 1) v false) (S := fun _ => True) (late := fun _ => false) (by kernel_rfl) ?_
  obtain ⟨X0, hX0⟩ : ∃ X : World, X = w3.drew := ⟨_, rfl⟩
  rw [← hX0]
  have hbX : Below w3.heap.size w3 X0 := by rw [hX0]; exact (Below.refl _ _).drew
  have hT := And.intro (HX3.out.1.below hbX) (HX3.out.2.1.below hbX)
  have HR0 := Lib.hid (HX3.out.2.2.below hbX)
  have HB4 := Lib.hid (below_then HB3.out HB3.out.size hbX)
  clear hX0 hbX HX3 HB3
  refine wpTwo_takeT (i := 1) (v := .pointer (some ⟨y, 1, none⟩)) rfl (by kernel_rfl) (by kernel_rfl) (by kernel_rfl) (fun _ _ _ h => h) ⟨by rfl, ?_⟩ hT ?_
  · intro w hTw
    obtain ⟨t0, t1, t2⟩ := SpBox.cells hTw.1
    obtain ⟨t3, t4⟩ := GBox.cells hTw.2
    go_simp
  (try simp only [Act.put, List.getElem_toArray, List.getElem_cons_succ, List.getElem_cons_zero, List.setIfInBounds_toArray, List.set_cons_succ, List.set_cons_zero])
  refine wpTwo_takeT (i := 2) (v := .int .i64 1) rfl (by kernel_rfl) (by kernel_rfl) (by kernel_rfl) (fun _ _ _ h => h) ⟨by rfl, ?_⟩ hT ?_
  · intro w hTw
    obtain ⟨t0, t1, t2⟩ := SpBox.cells hTw.1
    obtain ⟨t3, t4⟩ := GBox.cells hTw.2
    go_simp
  (try simp only [Act.put, List.getElem_toArray, List.getElem_cons_succ, List.getElem_cons_zero, List.setIfInBounds_toArray, List.set_cons_succ, List.set_cons_zero])
  refine wpTwo_takeT (i := 5) (v := .agg #[.int .i64 a, .int .i64 1, .int .u64 t]) rfl (by kernel_rfl) (by kernel_rfl) (by kernel_rfl) (fun _ _ _ h => h) ⟨by rfl, ?_⟩ hT ?_
  · intro w hTw
    obtain ⟨t0, t1, t2⟩ := SpBox.cells hTw.1
    obtain ⟨t3, t4⟩ := GBox.cells hTw.2
    go_simp
  (try simp only [Act.put, List.getElem_toArray, List.getElem_cons_succ, List.getElem_cons_zero, List.setIfInBounds_toArray, List.set_cons_succ, List.set_cons_zero])
  refine wpTwo_takeT (i := 6) (v := .agg #[.int .u64 v, .bool false]) rfl (by kernel_rfl) (by kernel_rfl) (by kernel_rfl) (fun _ _ _ h => h) ⟨by rfl, ?_⟩ hT ?_
  · intro w hTw
    obtain ⟨t0, t1, t2⟩ := SpBox.cells hTw.1
    obtain ⟨t3, t4⟩ := GBox.cells hTw.2
    go_simp
  (try simp only [Act.put, List.getElem_toArray, List.getElem_cons_succ, List.getElem_cons_zero, List.setIfInBounds_toArray, List.set_cons_succ, List.set_cons_zero])
  refine wpTwo_ready (rs := [0]) (by kernel_rfl) (by simp) ?_
  refine (AllTwo.cons rfl (fun K hK => ?_) AllTwo.nil)
  go_simp
  refine (qphases _).mono ?_
  rintro e X1 ⟨rfl, hb⟩
  have HR1 := Lib.hid (HR0.out.below hb)
  have HB5 := Lib.hid (below_then HB4.out HB4.out.size hb)
  have hT := And.intro (hT.1.below hb) (hT.2.below hb)
  clear hb HR0 HB4
  go_wp2_with fail
  refine hK.out _ _ ⟨hT, fun _ _ => trivial⟩ ?_
  clear hK K
  (try simp only [Act.put, List.getElem_toArray, List.getElem_cons_succ, List.getElem_cons_zero, List.setIfInBounds_toArray, List.set_cons_succ, List.set_cons_zero])
  refine wpTwo_takeT (i := 3) (v := .agg #[.func (.func 53) #[] #[], .func (.func 54) #[] #[]]) rfl (by kernel_rfl) (by kernel_rfl) (by kernel_rfl) (fun _ _ _ h => h) ⟨by rfl, ?_⟩ hT ?_
  · intro w hTw
    go_simp
  (try simp only [Act.put, List.getElem_toArray, List.getElem_cons_succ, List.getElem_cons_zero, List.setIfInBounds_toArray, List.set_cons_succ, List.set_cons_zero])
  refine wpTwo_takeT (i := 4) (v := .func (.func 54) #[] #[]) rfl (by kernel_rfl) (by kernel_rfl) (by kernel_rfl) (fun _ _ _ h => h) ⟨by rfl, ?_⟩ hT ?_
  · intro w hTw
    go_simp
  (try simp only [Act.put, List.getElem_toArray, List.getElem_cons_succ, List.getElem_cons_zero, List.setIfInBounds_toArray, List.set_cons_succ, List.set_cons_zero])
  refine wpTwo_ready (rs := [7]) (by kernel_rfl) (by simp) ?_
  refine (AllTwo.cons rfl (fun K hK => ?_) AllTwo.nil)
  go_simp
  refine (HTH.out _).mono ?_
  rintro e X2 ⟨rfl, hb⟩
  have HR2 := Lib.hid (HR1.out.below hb)
  have HB6 := Lib.hid (below_then HB5.out HB5.out.size hb)
  have hT := And.intro (hT.1.below hb) (hT.2.below hb)
  clear hb HR1 HB5 HTH hix hfd
  go_wp2_with fail
  refine hK.out _ _ ⟨hT, fun _ _ => trivial⟩ ?_
  clear hK K
  (try simp only [Act.put, List.getElem_toArray, List.getElem_cons_succ, List.getElem_cons_zero, List.setIfInBounds_toArray, List.set_cons_succ, List.set_cons_zero])
  refine wpTwo_ready (rs := [8]) (by kernel_rfl) (by simp) ?_
  refine (AllTwo.cons rfl (fun K hK => ?_) AllTwo.nil)
  obtain ⟨r0, r1, r2⟩ := HR2.out.cells
  have rf := HR2.out.free
  have rf0 := rf 0
  have rf1 := rf 1
  have rf2 := rf 2
  obtain ⟨i0, i1, i2, hres⟩ : ∃ i0 i1 i2, (#[.int .i64 a, .int .i64 0, .int .u64 0] : Array Value) = #[i0, i1, i2] := ⟨_, _, _, rfl⟩
  obtain ⟨X3, hX3⟩ : ∃ X : World, X = ((X2.setCell ⟨y + 1 + 1, 0, none⟩ (.int .i64 a)).setCell ⟨y + 1 + 1, 1, none⟩ (.int .i64 0)).setCell ⟨y + 1 + 1, 2, none⟩ (.int .u64 0) := ⟨_, rfl⟩
  have hk : Keeps (fun q => q = y + 1 + 1) X2 X3 := by rw [hX3]; exact ((Keeps.setCell X2 (S := fun q => q = y + 1 + 1) (p := ⟨y + 1 + 1, 0, none⟩) rfl _).trans (Keeps.setCell _ (S := fun q => q = y + 1 + 1) (p := ⟨y + 1 + 1, 1, none⟩) rfl _)).trans (Keeps.setCell _ (S := fun q => q = y + 1 + 1) (p := ⟨y + 1 + 1, 2, none⟩) rfl _)
  have hT3 := And.intro (hT.1.keeps hk (fun e => by have e : y = y + 1 + 1 := e; omega)) (hT.2.keeps hk (fun e => by have e : y + 1 = y + 1 + 1 := e; omega))
  have HB7 := Lib.hid (show Below W.heap.size W X3 by rw [hX3]; exact below_set3 HB6.out (by omega) _ _ _)
  have hn : X3.heap[y + 1 + 1]? = some (.cells #[.int .i64 a, .int .i64 0, .int .u64 0] 24 (0, 0)) := by
    rw [hX3, heap_setCell_same _ (y + 1 + 1) 2 _ _ _ (heap_setCell_same _ (y + 1 + 1) 1 _ _ _ (heap_setCell_same X2 (y + 1 + 1) 0 _ _ _ HR2.out))]; rfl
  have HN := Lib.hid (show X3.cell? ⟨y + 1 + 1, 0, none⟩ = some (.int .i64 a) ∧ X3.cell? ⟨y + 1 + 1, 1, none⟩ = some (.int .i64 0) ∧ X3.cell? ⟨y + 1 + 1, 2, none⟩ = some (.int .u64 0) by simp [World.cell?, hn])
  clear hres hk hn rf HR2 HB6
  go_simp
  rw [← hX3]
  refine hK.out _ _ ⟨hT3, fun _ _ => trivial⟩ ?_
  clear hK K r0 r1 r2 rf0 rf1 rf2 hX3
  (try simp only [Act.put, List.getElem_toArray, List.getElem_cons_succ, List.getElem_cons_zero, List.setIfInBounds_toArray, List.set_cons_succ, List.set_cons_zero])
  refine wpTwo_takeT (i := 9) (v := .int .i64 0) rfl (by kernel_rfl) (by kernel_rfl) (by kernel_rfl) (fun _ _ _ h => h) ⟨by rfl, ?_⟩ hT3 ?_
  · intro w hTw
    go_simp
  (try simp only [Act.put, List.getElem_toArray, List.getElem_cons_succ, List.getElem_cons_zero, List.setIfInBounds_toArray, List.set_cons_succ, List.set_cons_zero])
  refine wpTwo_end (by kernel_rfl) ?_ _
  obtain ⟨r0, r1, r2⟩ := HN.out
  go_wp2
  exact bodyPost_ret (v := .tuple #[.agg #[.int .i64 a, .int .i64 0, .int .u64 0], .int .i64 0]) (by simp [results, Try.results14, go_sem, r0, r1, r2]) rfl ⟨rfl, HB7.out⟩
set_option maxRecDepth 100000 in
set_option maxHeartbeats 4000000 in
theorem qtake2 (a t : Int) (ha : 0 ≤ a) (ha1 : a ≤ 9223372036854775807) (W : World) :
    Calls Try.prog 14 #[.agg #[.int .i64 a, .int .i64 2, .int .u64 t], .agg #[.int .u64 t, .bool true]] W fun e w' => e = .returned (.tuple #[.agg #[.int .i64 a, .int .i64 3, .int .u64 t], .int .i64 0]) ∧ Below W.heap.size W w' := by
  have HCK := Lib.hid (show ∀ W', Calls Try.prog 10 #[.agg #[.int .i64 a, .int .i64 2, .int .u64 t]] W' fun e w' => e = .returned (.int .i64 0) ∧ Below W'.heap.size W' w' from fun W' => qcheck_yes ⟨a, 2, t⟩ (rightS_iff.2 ⟨ha, .inr (.inr (.inl rfl))⟩) W')
  have HND := Lib.hid (show ∀ W', Calls Try.prog 11 #[.agg #[.int .i64 a, .int .i64 2, .int .u64 t]] W' fun e w' => e = .returned (.tuple #[.agg #[.int .i64 1, .int .i64 (incI a), .int .u64 0, .int .u64 0], .bool true]) ∧ Below W'.heap.size W' w' from fun W' => qneed2 a t ha ha1 W')
  have HTH := Lib.hid (show ∀ W', Calls Try.prog 56 #[.agg #[.int .i64 a, .int .i64 2, .int .u64 t], .agg #[.int .u64 t, .bool true]] W' fun e w' => e = .returned (.agg #[.int .i64 a, .int .i64 3, .int .u64 t]) ∧ Below W'.heap.size W' w' from fun W' => qlooked_yes a 2 t true W')
  have hix : ∀ w, (Instr.index 79 (.agg #[.func (.func 51) #[] #[], .func (.func 52) #[] #[], .func (.func 53) #[] #[], .func (.func 54) #[] #[], .func (.func 55) #[] #[], .func (.func 56) #[] #[], .nilFunc, .nilFunc, .func (.func 57) #[] #[], .func (.func 58) #[] #[], .nilFunc, .nilFunc]) (.int .i64 2)).run Try.prog w = .ok (.agg #[.func (.func 55) #[] #[], .func (.func 56) #[] #[]]) w := fun _ => by kernel_rfl
  have hfd : ∀ w, (Instr.field 78 (.agg #[.func (.func 55) #[] #[], .func (.func 56) #[] #[]]) 1).run Try.prog w = .ok (.func (.func 56) #[] #[]) w := fun _ => by kernel_rfl
  obtain ⟨y, hy⟩ : ∃ y, y = W.heap.size := ⟨_, rfl⟩
  obtain ⟨w0, hw0⟩ : ∃ w : World, w = ((W.alloc (.cells #[.int .i64 a, .int .i64 2, .int .u64 t] 24)).alloc (.cells #[.int .u64 t, .bool true] 36)).alloc (.cells #[.int .i64 0, .int .i64 0, .int .u64 0] 24) := ⟨_, rfl⟩
  have hB0 : Below W.heap.size W w0 := by rw [hw0]; exact below3 _ _ _ _
  have HBX := Lib.hid (take_new W a 2 t t true)
  rw [← hw0, ← hy] at HBX
  have HE := Lib.hid (And.intro hw0 hy)
  have HB0 := Lib.hid hB0
  have hyW : W.heap.size ≤ y := Nat.le_of_eq hy.symm
  clear hw0 hy hB0
  obtain ⟨b0, b1, b2⟩ := HBX.out.1.cells
  go_enter Try.func14, Try.ntmps14
  go_upto_region 1 with (fail)
  rw [← HE.out.1, ← HE.out.2]
  go_wp2_with fail
  refine (HCK.out _).mono ?_
  rintro e w1 ⟨rfl, hb1⟩
  have HB1 := Lib.hid (below_then HB0.out HB0.out.size hb1)
  have HX1 := Lib.hid (And.intro (HBX.out.1.below hb1) (And.intro (HBX.out.2.1.below hb1) (HBX.out.2.2.below hb1)))
  clear b0 b1 b2 hb1 HBX HB0 HCK HE
  obtain ⟨b0, b1, b2⟩ := HX1.out.1.cells
  go_wp2_with fail
  refine (HND.out _).mono ?_
  rintro e w2 ⟨rfl, hb2⟩
  obtain ⟨z, hz⟩ : ∃ z, z = w2.heap.size := ⟨_, rfl⟩
  obtain ⟨w3, hw3⟩ : ∃ w : World, w = w2.alloc (.cells #[.int .i64 1, .int .i64 (incI a), .int .u64 0, .int .u64 0] 31) := ⟨_, rfl⟩
  have hb3 : Below w2.heap.size w2 w3 := by rw [hw3]; exact below1 _ _
  have HAC := Lib.hid (show AcBox w3 z 1 (incI a) 0 0 by rw [hw3, hz]; exact World.alloc_heap_new _ _)
  have HB3 := Lib.hid (below_then (below_then HB1.out HB1.out.size hb2) (Nat.le_trans HB1.out.size hb2.size) hb3)
  have HX3 := Lib.hid (And.intro ((HX1.out.1.below hb2).below hb3) (And.intro ((HX1.out.2.1.below hb2).below hb3) ((HX1.out.2.2.below hb2).below hb3)))
  have HE3 := Lib.hid (And.intro hw3 hz)
  clear b0 b1 b2 hb2 hb3 hw3 hz HX1 HB1 HND
  go_upto_region 5 with (fail)
  rw [← HE3.out.1, ← HE3.out.2]
  obtain ⟨g0, g1⟩ := HX3.out.2.1.cells
  obtain ⟨c0, c1, c2, c3⟩ := HAC.out.cells
  go_upto_region 9 with (fail)
  clear g0 g1 c0 c1 c2 c3 HAC HE3
  refine wpTwo_begin (T := fun w' => SpBox w' y a 2 t ∧ GBox w' (y + 1) t true) (S := fun _ => True) (late := fun _ => false) (by kernel_rfl) ?_
  obtain ⟨X0, hX0⟩ : ∃ X : World, X = w3.drew := ⟨_, rfl⟩
  rw [← hX0]
  have hbX : Below w3.heap.size w3 X0 := by rw [hX0]; exact (Below.refl _ _).drew
  have hT := And.intro (HX3.out.1.below hbX) (HX3.out.2.1.below hbX)
  have HR0 := Lib.hid (HX3.out.2.2.below hbX)
  have HB4 := Lib.hid (below_then HB3.out HB3.out.size hbX)
  clear hX0 hbX HX3 HB3
  refine wpTwo_takeT (i := 1) (v := .pointer (some ⟨y, 1, none⟩)) rfl (by kernel_rfl) (by kernel_rfl) (by kernel_rfl) (fun _ _ _ h => h) ⟨by rfl, ?_⟩ hT ?_
  · intro w hTw
    obtain ⟨t0, t1, t2⟩ := SpBox.cells hTw.1
    obtain ⟨t3, t4⟩ := GBox.cells hTw.2
    go_simp
  (try simp only [Act.put, List.getElem_toArray, List.getElem_cons_succ, List.getElem_cons_zero, List.setIfInBounds_toArray, List.set_cons_succ, List.set_cons_zero])
  refine wpTwo_takeT (i := 2) (v := .int .i64 2) rfl (by kernel_rfl) (by kernel_rfl) (by kernel_rfl) (fun _ _ _ h => h) ⟨by rfl, ?_⟩ hT ?_
  · intro w hTw
    obtain ⟨t0, t1, t2⟩ := SpBox.cells hTw.1
    obtain ⟨t3, t4⟩ := GBox.cells hTw.2
    go_simp
  (try simp only [Act.put, List.getElem_toArray, List.getElem_cons_succ, List.getElem_cons_zero, List.setIfInBounds_toArray, List.set_cons_succ, List.set_cons_zero])
  refine wpTwo_takeT (i := 5) (v := .agg #[.int .i64 a, .int .i64 2, .int .u64 t]) rfl (by kernel_rfl) (by kernel_rfl) (by kernel_rfl) (fun _ _ _ h => h) ⟨by rfl, ?_⟩ hT ?_
  · intro w hTw
    obtain ⟨t0, t1, t2⟩ := SpBox.cells hTw.1
    obtain ⟨t3, t4⟩ := GBox.cells hTw.2
    go_simp
  (try simp only [Act.put, List.getElem_toArray, List.getElem_cons_succ, List.getElem_cons_zero, List.setIfInBounds_toArray, List.set_cons_succ, List.set_cons_zero])
  refine wpTwo_takeT (i := 6) (v := .agg #[.int .u64 t, .bool true]) rfl (by kernel_rfl) (by kernel_rfl) (by kernel_rfl) (fun _ _ _ h => h) ⟨by rfl, ?_⟩ hT ?_
  · intro w hTw
    obtain ⟨t0, t1, t2⟩ := SpBox.cells hTw.1
    obtain ⟨t3, t4⟩ := GBox.cells hTw.2
    go_simp
  (try simp only [Act.put, List.getElem_toArray, List.getElem_cons_succ, List.getElem_cons_zero, List.setIfInBounds_toArray, List.set_cons_succ, List.set_cons_zero])
  refine wpTwo_ready (rs := [0]) (by kernel_rfl) (by simp) ?_
  refine (AllTwo.cons rfl (fun K hK => ?_) AllTwo.nil)
  go_simp
  refine (qphases _).mono ?_
  rintro e X1 ⟨rfl, hb⟩
  have HR1 := Lib.hid (HR0.out.below hb)
  have HB5 := Lib.hid (below_then HB4.out HB4.out.size hb)
  have hT := And.intro (hT.1.below hb) (hT.2.below hb)
  clear hb HR0 HB4
  go_wp2_with fail
  refine hK.out _ _ ⟨hT, fun _ _ => trivial⟩ ?_
  clear hK K
  (try simp only [Act.put, List.getElem_toArray, List.getElem_cons_succ, List.getElem_cons_zero, List.setIfInBounds_toArray, List.set_cons_succ, List.set_cons_zero])
  refine wpTwo_takeT (i := 3) (v := .agg #[.func (.func 55) #[] #[], .func (.func 56) #[] #[]]) rfl (by kernel_rfl) (by kernel_rfl) (by kernel_rfl) (fun _ _ _ h => h) ⟨by rfl, ?_⟩ hT ?_
  · intro w hTw
    go_simp
  (try simp only [Act.put, List.getElem_toArray, List.getElem_cons_succ, List.getElem_cons_zero, List.setIfInBounds_toArray, List.set_cons_succ, List.set_cons_zero])
  refine wpTwo_takeT (i := 4) (v := .func (.func 56) #[] #[]) rfl (by kernel_rfl) (by kernel_rfl) (by kernel_rfl) (fun _ _ _ h => h) ⟨by rfl, ?_⟩ hT ?_
  · intro w hTw
    go_simp
  (try simp only [Act.put, List.getElem_toArray, List.getElem_cons_succ, List.getElem_cons_zero, List.setIfInBounds_toArray, List.set_cons_succ, List.set_cons_zero])
  refine wpTwo_ready (rs := [7]) (by kernel_rfl) (by simp) ?_
  refine (AllTwo.cons rfl (fun K hK => ?_) AllTwo.nil)
  go_simp
  refine (HTH.out _).mono ?_
  rintro e X2 ⟨rfl, hb⟩
  have HR2 := Lib.hid (HR1.out.below hb)
  have HB6 := Lib.hid (below_then HB5.out HB5.out.size hb)
  have hT := And.intro (hT.1.below hb) (hT.2.below hb)
  clear hb HR1 HB5 HTH hix hfd
  go_wp2_with fail
  refine hK.out _ _ ⟨hT, fun _ _ => trivial⟩ ?_
  clear hK K
  (try simp only [Act.put, List.getElem_toArray, List.getElem_cons_succ, List.getElem_cons_zero, List.setIfInBounds_toArray, List.set_cons_succ, List.set_cons_zero])
  refine wpTwo_ready (rs := [8]) (by kernel_rfl) (by simp) ?_
  refine (AllTwo.cons rfl (fun K hK => ?_) AllTwo.nil)
  obtain ⟨r0, r1, r2⟩ := HR2.out.cells
  have rf := HR2.out.free
  have rf0 := rf 0
  have rf1 := rf 1
  have rf2 := rf 2
  obtain ⟨i0, i1, i2, hres⟩ : ∃ i0 i1 i2, (#[.int .i64 a, .int .i64 3, .int .u64 t] : Array Value) = #[i0, i1, i2] := ⟨_, _, _, rfl⟩
  obtain ⟨X3, hX3⟩ : ∃ X : World, X = ((X2.setCell ⟨y + 1 + 1, 0, none⟩ (.int .i64 a)).setCell ⟨y + 1 + 1, 1, none⟩ (.int .i64 3)).setCell ⟨y + 1 + 1, 2, none⟩ (.int .u64 t) := ⟨_, rfl⟩
  have hk : Keeps (fun q => q = y + 1 + 1) X2 X3 := by rw [hX3]; exact ((Keeps.setCell X2 (S := fun q => q = y + 1 + 1) (p := ⟨y + 1 + 1, 0, none⟩) rfl _).trans (Keeps.setCell _ (S := fun q => q = y + 1 + 1) (p := ⟨y + 1 + 1, 1, none⟩) rfl _)).trans (Keeps.setCell _ (S := fun q => q = y + 1 + 1) (p := ⟨y + 1 + 1, 2, none⟩) rfl _)
  have hT3 := And.intro (hT.1.keeps hk (fun e => by have e : y = y + 1 + 1 := e; omega)) (hT.2.keeps hk (fun e => by have e : y + 1 = y + 1 + 1 := e; omega))
  have HB7 := Lib.hid (show Below W.heap.size W X3 by rw [hX3]; exact below_set3 HB6.out (by omega) _ _ _)
  have hn : X3.heap[y + 1 + 1]? = some (.cells #[.int .i64 a, .int .i64 3, .int .u64 t] 24 (0, 0)) := by
    rw [hX3, heap_setCell_same _ (y + 1 + 1) 2 _ _ _ (heap_setCell_same _ (y + 1 + 1) 1 _ _ _ (heap_setCell_same X2 (y + 1 + 1) 0 _ _ _ HR2.out))]; rfl
  have HN := Lib.hid (show X3.cell? ⟨y + 1 + 1, 0, none⟩ = some (.int .i64 a) ∧ X3.cell? ⟨y + 1 + 1, 1, none⟩ = some (.int .i64 3) ∧ X3.cell? ⟨y + 1 + 1, 2, none⟩ = some (.int .u64 t) by simp [World.cell?, hn])
  clear hres hk hn rf HR2 HB6
  go_simp
  rw [← hX3]
  refine hK.out _ _ ⟨hT3, fun _ _ => trivial⟩ ?_
  clear hK K r0 r1 r2 rf0 rf1 rf2 hX3
  (try simp only [Act.put, List.getElem_toArray, List.getElem_cons_succ, List.getElem_cons_zero, List.setIfInBounds_toArray, List.set_cons_succ, List.set_cons_zero])
  refine wpTwo_takeT (i := 9) (v := .int .i64 0) rfl (by kernel_rfl) (by kernel_rfl) (by kernel_rfl) (fun _ _ _ h => h) ⟨by rfl, ?_⟩ hT3 ?_
  · intro w hTw
    go_simp
  (try simp only [Act.put, List.getElem_toArray, List.getElem_cons_succ, List.getElem_cons_zero, List.setIfInBounds_toArray, List.set_cons_succ, List.set_cons_zero])
  refine wpTwo_end (by kernel_rfl) ?_ _
  obtain ⟨r0, r1, r2⟩ := HN.out
  go_wp2
  exact bodyPost_ret (v := .tuple #[.agg #[.int .i64 a, .int .i64 3, .int .u64 t], .int .i64 0]) (by simp [results, Try.results14, go_sem, r0, r1, r2]) rfl ⟨rfl, HB7.out⟩
set_option maxRecDepth 100000 in
set_option maxHeartbeats 4000000 in
theorem qtake2o (a t v : Int) (ha : 0 ≤ a) (ha1 : a ≤ 9223372036854775807) (hv : v ≠ t) (W : World) :
    Calls Try.prog 14 #[.agg #[.int .i64 a, .int .i64 2, .int .u64 t], .agg #[.int .u64 v, .bool true]] W fun e w' => e = .returned (.tuple #[.agg #[.int .i64 a, .int .i64 2, .int .u64 t], .int .i64 0]) ∧ Below W.heap.size W w' := by
  have HCK := Lib.hid (show ∀ W', Calls Try.prog 10 #[.agg #[.int .i64 a, .int .i64 2, .int .u64 t]] W' fun e w' => e = .returned (.int .i64 0) ∧ Below W'.heap.size W' w' from fun W' => qcheck_yes ⟨a, 2, t⟩ (rightS_iff.2 ⟨ha, .inr (.inr (.inl rfl))⟩) W')
  have HND := Lib.hid (show ∀ W', Calls Try.prog 11 #[.agg #[.int .i64 a, .int .i64 2, .int .u64 t]] W' fun e w' => e = .returned (.tuple #[.agg #[.int .i64 1, .int .i64 (incI a), .int .u64 0, .int .u64 0], .bool true]) ∧ Below W'.heap.size W' w' from fun W' => qneed2 a t ha ha1 W')
  have HTH := Lib.hid (show ∀ W', Calls Try.prog 56 #[.agg #[.int .i64 a, .int .i64 2, .int .u64 t], .agg #[.int .u64 v, .bool true]] W' fun e w' => e = .returned (.agg #[.int .i64 a, .int .i64 2, .int .u64 t]) ∧ Below W'.heap.size W' w' from fun W' => qlooked_no a 2 t v hv true W')
  have hix : ∀ w, (Instr.index 79 (.agg #[.func (.func 51) #[] #[], .func (.func 52) #[] #[], .func (.func 53) #[] #[], .func (.func 54) #[] #[], .func (.func 55) #[] #[], .func (.func 56) #[] #[], .nilFunc, .nilFunc, .func (.func 57) #[] #[], .func (.func 58) #[] #[], .nilFunc, .nilFunc]) (.int .i64 2)).run Try.prog w = .ok (.agg #[.func (.func 55) #[] #[], .func (.func 56) #[] #[]]) w := fun _ => by kernel_rfl
  have hfd : ∀ w, (Instr.field 78 (.agg #[.func (.func 55) #[] #[], .func (.func 56) #[] #[]]) 1).run Try.prog w = .ok (.func (.func 56) #[] #[]) w := fun _ => by kernel_rfl
  clear hv
  obtain ⟨y, hy⟩ : ∃ y, y = W.heap.size := ⟨_, rfl⟩
  obtain ⟨w0, hw0⟩ : ∃ w : World, w = ((W.alloc (.cells #[.int .i64 a, .int .i64 2, .int .u64 t] 24)).alloc (.cells #[.int .u64 v, .bool true] 36)).alloc (.cells #[.int .i64 0, .int .i64 0, .int .u64 0] 24) := ⟨_, rfl⟩
  have hB0 : Below W.heap.size W w0 := by rw [hw0]; exact below3 _ _ _ _
  have HBX := Lib.hid (take_new W a 2 t v true)
  rw [← hw0, ← hy] at HBX
  have HE := Lib.hid (And.intro hw0 hy)
  have HB0 := Lib.hid hB0
  have hyW : W.heap.size ≤ y := Nat.le_of_eq hy.symm
  clear hw0 hy hB0
  obtain ⟨b0, b1, b2⟩ := HBX.out.1.cells
  go_enter Try.func14, Try.ntmps14
  go_upto_region 1 with (fail)
  rw [← HE.out.1, ← HE.out.2]
  go_wp2_with fail
  refine (HCK.out _).mono ?_
  rintro e w1 ⟨rfl, hb1⟩
  have HB1 := Lib.hid (below_then HB0.out HB0.out.size hb1)
  have HX1 := Lib.hid (And.intro (HBX.out.1.below hb1) (And.intro (HBX.out.2.1.below hb1) (HBX.out.2.2.below hb1)))
  clear b0 b1 b2 hb1 HBX HB0 HCK HE
  obtain ⟨b0, b1, b2⟩ := HX1.out.1.cells
  go_wp2_with fail
  refine (HND.out _).mono ?_
  rintro e w2 ⟨rfl, hb2⟩
  obtain ⟨z, hz⟩ : ∃ z, z = w2.heap.size := ⟨_, rfl⟩
  obtain ⟨w3, hw3⟩ : ∃ w : World, w = w2.alloc (.cells #[.int .i64 1, .int .i64 (incI a), .int .u64 0, .int .u64 0] 31) := ⟨_, rfl⟩
  have hb3 : Below w2.heap.size w2 w3 := by rw [hw3]; exact below1 _ _
  have HAC := Lib.hid (show AcBox w3 z 1 (incI a) 0 0 by rw [hw3, hz]; exact World.alloc_heap_new _ _)
  have HB3 := Lib.hid (below_then (below_then HB1.out HB1.out.size hb2) (Nat.le_trans HB1.out.size hb2.size) hb3)
  have HX3 := Lib.hid (And.intro ((HX1.out.1.below hb2).below hb3) (And.intro ((HX1.out.2.1.below hb2).below hb3) ((HX1.out.2.2.below hb2).below hb3)))
  have HE3 := Lib.hid (And.intro hw3 hz)
  clear b0 b1 b2 hb2 hb3 hw3 hz HX1 HB1 HND
  go_upto_region 5 with (fail)
  rw [← HE3.out.1, ← HE3.out.2]
  obtain ⟨g0, g1⟩ := HX3.out.2.1.cells
  obtain ⟨c0, c1, c2, c3⟩ := HAC.out.cells
  go_upto_region 9 with (fail)
  clear g0 g1 c0 c1 c2 c3 HAC HE3
  refine wpTwo_begin (T := fun w' => SpBox w' y a 2 t ∧ GBox w' (y + 1) v true) (S := fun _ => True) (late := fun _ => false) (by kernel_rfl) ?_
  obtain ⟨X0, hX0⟩ : ∃ X : World, X = w3.drew := ⟨_, rfl⟩
  rw [← hX0]
  have hbX : Below w3.heap.size w3 X0 := by rw [hX0]; exact (Below.refl _ _).drew
  have hT := And.intro (HX3.out.1.below hbX) (HX3.out.2.1.below hbX)
  have HR0 := Lib.hid (HX3.out.2.2.below hbX)
  have HB4 := Lib.hid (below_then HB3.out HB3.out.size hbX)
  clear hX0 hbX HX3 HB3
  refine wpTwo_takeT (i := 1) (v := .pointer (some ⟨y, 1, none⟩)) rfl (by kernel_rfl) (by kernel_rfl) (by kernel_rfl) (fun _ _ _ h => h) ⟨by rfl, ?_⟩ hT ?_
  · intro w hTw
    obtain ⟨t0, t1, t2⟩ := SpBox.cells hTw.1
    obtain ⟨t3, t4⟩ := GBox.cells hTw.2
    go_simp
  (try simp only [Act.put, List.getElem_toArray, List.getElem_cons_succ, List.getElem_cons_zero, List.setIfInBounds_toArray, List.set_cons_succ, List.set_cons_zero])
  refine wpTwo_takeT (i := 2) (v := .int .i64 2) rfl (by kernel_rfl) (by kernel_rfl) (by kernel_rfl) (fun _ _ _ h => h) ⟨by rfl, ?_⟩ hT ?_
  · intro w hTw
    obtain ⟨t0, t1, t2⟩ := SpBox.cells hTw.1
    obtain ⟨t3, t4⟩ := GBox.cells hTw.2
    go_simp
  (try simp only [Act.put, List.getElem_toArray, List.getElem_cons_succ, List.getElem_cons_zero, List.setIfInBounds_toArray, List.set_cons_succ, List.set_cons_zero])
  refine wpTwo_takeT (i := 5) (v := .agg #[.int .i64 a, .int .i64 2, .int .u64 t]) rfl (by kernel_rfl) (by kernel_rfl) (by kernel_rfl) (fun _ _ _ h => h) ⟨by rfl, ?_⟩ hT ?_
  · intro w hTw
    obtain ⟨t0, t1, t2⟩ := SpBox.cells hTw.1
    obtain ⟨t3, t4⟩ := GBox.cells hTw.2
    go_simp
  (try simp only [Act.put, List.getElem_toArray, List.getElem_cons_succ, List.getElem_cons_zero, List.setIfInBounds_toArray, List.set_cons_succ, List.set_cons_zero])
  refine wpTwo_takeT (i := 6) (v := .agg #[.int .u64 v, .bool true]) rfl (by kernel_rfl) (by kernel_rfl) (by kernel_rfl) (fun _ _ _ h => h) ⟨by rfl, ?_⟩ hT ?_
  · intro w hTw
    obtain ⟨t0, t1, t2⟩ := SpBox.cells hTw.1
    obtain ⟨t3, t4⟩ := GBox.cells hTw.2
    go_simp
  (try simp only [Act.put, List.getElem_toArray, List.getElem_cons_succ, List.getElem_cons_zero, List.setIfInBounds_toArray, List.set_cons_succ, List.set_cons_zero])
  refine wpTwo_ready (rs := [0]) (by kernel_rfl) (by simp) ?_
  refine (AllTwo.cons rfl (fun K hK => ?_) AllTwo.nil)
  go_simp
  refine (qphases _).mono ?_
  rintro e X1 ⟨rfl, hb⟩
  have HR1 := Lib.hid (HR0.out.below hb)
  have HB5 := Lib.hid (below_then HB4.out HB4.out.size hb)
  have hT := And.intro (hT.1.below hb) (hT.2.below hb)
  clear hb HR0 HB4
  go_wp2_with fail
  refine hK.out _ _ ⟨hT, fun _ _ => trivial⟩ ?_
  clear hK K
  (try simp only [Act.put, List.getElem_toArray, List.getElem_cons_succ, List.getElem_cons_zero, List.setIfInBounds_toArray, List.set_cons_succ, List.set_cons_zero])
  refine wpTwo_takeT (i := 3) (v := .agg #[.func (.func 55) #[] #[], .func (.func 56) #[] #[]]) rfl (by kernel_rfl) (by kernel_rfl) (by kernel_rfl) (fun _ _ _ h => h) ⟨by rfl, ?_⟩ hT ?_
  · intro w hTw
    go_simp
  (try simp only [Act.put, List.getElem_toArray, List.getElem_cons_succ, List.getElem_cons_zero, List.setIfInBounds_toArray, List.set_cons_succ, List.set_cons_zero])
  refine wpTwo_takeT (i := 4) (v := .func (.func 56) #[] #[]) rfl (by kernel_rfl) (by kernel_rfl) (by kernel_rfl) (fun _ _ _ h => h) ⟨by rfl, ?_⟩ hT ?_
  · intro w hTw
    go_simp
  (try simp only [Act.put, List.getElem_toArray, List.getElem_cons_succ, List.getElem_cons_zero, List.setIfInBounds_toArray, List.set_cons_succ, List.set_cons_zero])
  refine wpTwo_ready (rs := [7]) (by kernel_rfl) (by simp) ?_
  refine (AllTwo.cons rfl (fun K hK => ?_) AllTwo.nil)
  go_simp
  refine (HTH.out _).mono ?_
  rintro e X2 ⟨rfl, hb⟩
  have HR2 := Lib.hid (HR1.out.below hb)
  have HB6 := Lib.hid (below_then HB5.out HB5.out.size hb)
  have hT := And.intro (hT.1.below hb) (hT.2.below hb)
  clear hb HR1 HB5 HTH hix hfd
  go_wp2_with fail
  refine hK.out _ _ ⟨hT, fun _ _ => trivial⟩ ?_
  clear hK K
  (try simp only [Act.put, List.getElem_toArray, List.getElem_cons_succ, List.getElem_cons_zero, List.setIfInBounds_toArray, List.set_cons_succ, List.set_cons_zero])
  refine wpTwo_ready (rs := [8]) (by kernel_rfl) (by simp) ?_
  refine (AllTwo.cons rfl (fun K hK => ?_) AllTwo.nil)
  obtain ⟨r0, r1, r2⟩ := HR2.out.cells
  have rf := HR2.out.free
  have rf0 := rf 0
  have rf1 := rf 1
  have rf2 := rf 2
  obtain ⟨i0, i1, i2, hres⟩ : ∃ i0 i1 i2, (#[.int .i64 a, .int .i64 2, .int .u64 t] : Array Value) = #[i0, i1, i2] := ⟨_, _, _, rfl⟩
  obtain ⟨X3, hX3⟩ : ∃ X : World, X = ((X2.setCell ⟨y + 1 + 1, 0, none⟩ (.int .i64 a)).setCell ⟨y + 1 + 1, 1, none⟩ (.int .i64 2)).setCell ⟨y + 1 + 1, 2, none⟩ (.int .u64 t) := ⟨_, rfl⟩
  have hk : Keeps (fun q => q = y + 1 + 1) X2 X3 := by rw [hX3]; exact ((Keeps.setCell X2 (S := fun q => q = y + 1 + 1) (p := ⟨y + 1 + 1, 0, none⟩) rfl _).trans (Keeps.setCell _ (S := fun q => q = y + 1 + 1) (p := ⟨y + 1 + 1, 1, none⟩) rfl _)).trans (Keeps.setCell _ (S := fun q => q = y + 1 + 1) (p := ⟨y + 1 + 1, 2, none⟩) rfl _)
  have hT3 := And.intro (hT.1.keeps hk (fun e => by have e : y = y + 1 + 1 := e; omega)) (hT.2.keeps hk (fun e => by have e : y + 1 = y + 1 + 1 := e; omega))
  have HB7 := Lib.hid (show Below W.heap.size W X3 by rw [hX3]; exact below_set3 HB6.out (by omega) _ _ _)
  have hn : X3.heap[y + 1 + 1]? = some (.cells #[.int .i64 a, .int .i64 2, .int .u64 t] 24 (0, 0)) := by
    rw [hX3, heap_setCell_same _ (y + 1 + 1) 2 _ _ _ (heap_setCell_same _ (y + 1 + 1) 1 _ _ _ (heap_setCell_same X2 (y + 1 + 1) 0 _ _ _ HR2.out))]; rfl
  have HN := Lib.hid (show X3.cell? ⟨y + 1 + 1, 0, none⟩ = some (.int .i64 a) ∧ X3.cell? ⟨y + 1 + 1, 1, none⟩ = some (.int .i64 2) ∧ X3.cell? ⟨y + 1 + 1, 2, none⟩ = some (.int .u64 t) by simp [World.cell?, hn])
  clear hres hk hn rf HR2 HB6
  go_simp
  rw [← hX3]
  refine hK.out _ _ ⟨hT3, fun _ _ => trivial⟩ ?_
  clear hK K r0 r1 r2 rf0 rf1 rf2 hX3
  (try simp only [Act.put, List.getElem_toArray, List.getElem_cons_succ, List.getElem_cons_zero, List.setIfInBounds_toArray, List.set_cons_succ, List.set_cons_zero])
  refine wpTwo_takeT (i := 9) (v := .int .i64 0) rfl (by kernel_rfl) (by kernel_rfl) (by kernel_rfl) (fun _ _ _ h => h) ⟨by rfl, ?_⟩ hT3 ?_
  · intro w hTw
    go_simp
  (try simp only [Act.put, List.getElem_toArray, List.getElem_cons_succ, List.getElem_cons_zero, List.setIfInBounds_toArray, List.set_cons_succ, List.set_cons_zero])
  refine wpTwo_end (by kernel_rfl) ?_ _
  obtain ⟨r0, r1, r2⟩ := HN.out
  go_wp2
  exact bodyPost_ret (v := .tuple #[.agg #[.int .i64 a, .int .i64 2, .int .u64 t], .int .i64 0]) (by simp [results, Try.results14, go_sem, r0, r1, r2]) rfl ⟨rfl, HB7.out⟩
set_option maxRecDepth 100000 in
set_option maxHeartbeats 4000000 in
theorem qtake2n (a t v : Int) (ha : 0 ≤ a) (ha1 : a ≤ 9223372036854775807) (W : World) :
    Calls Try.prog 14 #[.agg #[.int .i64 a, .int .i64 2, .int .u64 t], .agg #[.int .u64 v, .bool false]] W fun e w' => e = .returned (.tuple #[.agg #[.int .i64 a, .int .i64 2, .int .u64 t], .int .i64 0]) ∧ Below W.heap.size W w' := by
  have HCK := Lib.hid (show ∀ W', Calls Try.prog 10 #[.agg #[.int .i64 a, .int .i64 2, .int .u64 t]] W' fun e w' => e = .returned (.int .i64 0) ∧ Below W'.heap.size W' w' from fun W' => qcheck_yes ⟨a, 2, t⟩ (rightS_iff.2 ⟨ha, .inr (.inr (.inl rfl))⟩) W')
  have HND := Lib.hid (show ∀ W', Calls Try.prog 11 #[.agg #[.int .i64 a, .int .i64 2, .int .u64 t]] W' fun e w' => e = .returned (.tuple #[.agg #[.int .i64 1, .int .i64 (incI a), .int .u64 0, .int .u64 0], .bool true]) ∧ Below W'.heap.size W' w' from fun W' => qneed2 a t ha ha1 W')
  obtain ⟨y, hy⟩ : ∃ y, y = W.heap.size := ⟨_, rfl⟩
  obtain ⟨w0, hw0⟩ : ∃ w : World, w = ((W.alloc (.cells #[.int .i64 a, .int .i64 2, .int .u64 t] 24)).alloc (.cells #[.int .u64 v, .bool false] 36)).alloc (.cells #[.int .i64 0, .int .i64 0, .int .u64 0] 24) := ⟨_, rfl⟩
  have hB0 : Below W.heap.size W w0 := by rw [hw0]; exact below3 _ _ _ _
  have HBX := Lib.hid (take_new W a 2 t v false)
  rw [← hw0, ← hy] at HBX
  have HE := Lib.hid (And.intro hw0 hy)
  have HB0 := Lib.hid hB0
  have hyW : W.heap.size ≤ y := Nat.le_of_eq hy.symm
  clear hw0 hy hB0
  obtain ⟨b0, b1, b2⟩ := HBX.out.1.cells
  go_enter Try.func14, Try.ntmps14
  go_upto_region 1 with (fail)
  rw [← HE.out.1, ← HE.out.2]
  go_wp2_with fail
  refine (HCK.out _).mono ?_
  rintro e w1 ⟨rfl, hb1⟩
  have HB1 := Lib.hid (below_then HB0.out HB0.out.size hb1)
  have HX1 := Lib.hid (And.intro (HBX.out.1.below hb1) (And.intro (HBX.out.2.1.below hb1) (HBX.out.2.2.below hb1)))
  clear b0 b1 b2 hb1 HBX HB0 HCK HE
  obtain ⟨b0, b1, b2⟩ := HX1.out.1.cells
  go_wp2_with fail
  refine (HND.out _).mono ?_
  rintro e w2 ⟨rfl, hb2⟩
  obtain ⟨z, hz⟩ : ∃ z, z = w2.heap.size := ⟨_, rfl⟩
  obtain ⟨w3, hw3⟩ : ∃ w : World, w = w2.alloc (.cells #[.int .i64 1, .int .i64 (incI a), .int .u64 0, .int .u64 0] 31) := ⟨_, rfl⟩
  have hb3 : Below w2.heap.size w2 w3 := by rw [hw3]; exact below1 _ _
  have HAC := Lib.hid (show AcBox w3 z 1 (incI a) 0 0 by rw [hw3, hz]; exact World.alloc_heap_new _ _)
  have HB3 := Lib.hid (below_then (below_then HB1.out HB1.out.size hb2) (Nat.le_trans HB1.out.size hb2.size) hb3)
  have HX3 := Lib.hid (And.intro ((HX1.out.1.below hb2).below hb3) (And.intro ((HX1.out.2.1.below hb2).below hb3) ((HX1.out.2.2.below hb2).below hb3)))
  have HE3 := Lib.hid (And.intro hw3 hz)
  clear b0 b1 b2 hb2 hb3 hw3 hz HX1 HB1 HND
  go_upto_region 5 with (fail)
  rw [← HE3.out.1, ← HE3.out.2]
  obtain ⟨g0, g1⟩ := HX3.out.2.1.cells
  obtain ⟨c0, c1, c2, c3⟩ := HAC.out.cells
  obtain ⟨b0, b1, b2⟩ := HX3.out.1.cells
  obtain ⟨r0, r1, r2⟩ := HX3.out.2.2.cells
  have rf := HX3.out.2.2.free
  have rf0 := rf 0
  have rf1 := rf 1
  have rf2 := rf 2
  clear rf
  clear HX3 HAC HE3
  go_wp2
  exact bodyPost_ret (v := .tuple #[.agg #[.int .i64 a, .int .i64 2, .int .u64 t], .int .i64 0]) (by simp [results, Try.results14, go_sem, r0, r1, r2]) rfl ⟨rfl, below_set3 HB3.out (by omega) _ _ _⟩
set_option maxRecDepth 100000 in
set_option maxHeartbeats 4000000 in
theorem qtake4 (a t v : Int) (ha : 0 ≤ a) (ha1 : a ≤ 9223372036854775807) (W : World) :
    Calls Try.prog 14 #[.agg #[.int .i64 a, .int .i64 4, .int .u64 t], .agg #[.int .u64 v, .bool true]] W fun e w' => e = .returned (.tuple #[.agg #[.int .i64 a, .int .i64 5, .int .u64 t], .int .i64 0]) ∧ Below W.heap.size W w' := by
  have HCK := Lib.hid (show ∀ W', Calls Try.prog 10 #[.agg #[.int .i64 a, .int .i64 4, .int .u64 t]] W' fun e w' => e = .returned (.int .i64 0) ∧ Below W'.heap.size W' w' from fun W' => qcheck_yes ⟨a, 4, t⟩ (rightS_iff.2 ⟨ha, .inr (.inr (.inr (.inr (.inl rfl))))⟩) W')
  have HND := Lib.hid (show ∀ W', Calls Try.prog 11 #[.agg #[.int .i64 a, .int .i64 4, .int .u64 t]] W' fun e w' => e = .returned (.tuple #[.agg #[.int .i64 2, .int .i64 (incI a), .int .u64 0, .int .u64 (incU t)], .bool true]) ∧ Below W'.heap.size W' w' from fun W' => qneed4 a t ha ha1 W')
  have HTH := Lib.hid (show ∀ W', Calls Try.prog 58 #[.agg #[.int .i64 a, .int .i64 4, .int .u64 t], .agg #[.int .u64 v, .bool true]] W' fun e w' => e = .returned (.agg #[.int .i64 a, .int .i64 5, .int .u64 t]) ∧ Below W'.heap.size W' w' from fun W' => qleft a 4 t v true W')
  have hix : ∀ w, (Instr.index 79 (.agg #[.func (.func 51) #[] #[], .func (.func 52) #[] #[], .func (.func 53) #[] #[], .func (.func 54) #[] #[], .func (.func 55) #[] #[], .func (.func 56) #[] #[], .nilFunc, .nilFunc, .func (.func 57) #[] #[], .func (.func 58) #[] #[], .nilFunc, .nilFunc]) (.int .i64 4)).run Try.prog w = .ok (.agg #[.func (.func 57) #[] #[], .func (.func 58) #[] #[]]) w := fun _ => by kernel_rfl
  have hfd : ∀ w, (Instr.field 78 (.agg #[.func (.func 57) #[] #[], .func (.func 58) #[] #[]]) 1).run Try.prog w = .ok (.func (.func 58) #[] #[]) w := fun _ => by kernel_rfl
  obtain ⟨y, hy⟩ : ∃ y, y = W.heap.size := ⟨_, rfl⟩
  obtain ⟨w0, hw0⟩ : ∃ w : World, w = ((W.alloc (.cells #[.int .i64 a, .int .i64 4, .int .u64 t] 24)).alloc (.cells #[.int .u64 v, .bool true] 36)).alloc (.cells #[.int .i64 0, .int .i64 0, .int .u64 0] 24) := ⟨_, rfl⟩
  have hB0 : Below W.heap.size W w0 := by rw [hw0]; exact below3 _ _ _ _
  have HBX := Lib.hid (take_new W a 4 t v true)
  rw [← hw0, ← hy] at HBX
  have HE := Lib.hid (And.intro hw0 hy)
  have HB0 := Lib.hid hB0
  have hyW : W.heap.size ≤ y := Nat.le_of_eq hy.symm
  clear hw0 hy hB0
  obtain ⟨b0, b1, b2⟩ := HBX.out.1.cells
  go_enter Try.func14, Try.ntmps14
  go_upto_region 1 with (fail)
  rw [← HE.out.1, ← HE.out.2]
  go_wp2_with fail
  refine (HCK.out _).mono ?_
  rintro e w1 ⟨rfl, hb1⟩
  have HB1 := Lib.hid (below_then HB0.out HB0.out.size hb1)
  have HX1 := Lib.hid (And.intro (HBX.out.1.below hb1) (And.intro (HBX.out.2.1.below hb1) (HBX.out.2.2.below hb1)))
  clear b0 b1 b2 hb1 HBX HB0 HCK HE
  obtain ⟨b0, b1, b2⟩ := HX1.out.1.cells
  go_wp2_with fail
  refine (HND.out _).mono ?_
  rintro e w2 ⟨rfl, hb2⟩
  obtain ⟨z, hz⟩ : ∃ z, z = w2.heap.size := ⟨_, rfl⟩
  obtain ⟨w3, hw3⟩ : ∃ w : World, w = w2.alloc (.cells #[.int .i64 2, .int .i64 (incI a), .int .u64 0, .int .u64 (incU t)] 31) := ⟨_, rfl⟩
  have hb3 : Below w2.heap.size w2 w3 := by rw [hw3]; exact below1 _ _
  have HAC := Lib.hid (show AcBox w3 z 2 (incI a) 0 (incU t) by rw [hw3, hz]; exact World.alloc_heap_new _ _)
  have HB3 := Lib.hid (below_then (below_then HB1.out HB1.out.size hb2) (Nat.le_trans HB1.out.size hb2.size) hb3)
  have HX3 := Lib.hid (And.intro ((HX1.out.1.below hb2).below hb3) (And.intro ((HX1.out.2.1.below hb2).below hb3) ((HX1.out.2.2.below hb2).below hb3)))
  have HE3 := Lib.hid (And.intro hw3 hz)
  clear b0 b1 b2 hb2 hb3 hw3 hz HX1 HB1 HND
  go_upto_region 5 with (fail)
  rw [← HE3.out.1, ← HE3.out.2]
  obtain ⟨g0, g1⟩ := HX3.out.2.1.cells
  obtain ⟨c0, c1, c2, c3⟩ := HAC.out.cells
  go_upto_region 9 with (fail)
  clear g0 g1 c0 c1 c2 c3 HAC HE3
  refine wpTwo_begin (T := fun w' => SpBox w' y a 4 t ∧ GBox w' (y + 1) v true) (S := fun _ => True) (late := fun _ => false) (by kernel_rfl) ?_
  obtain ⟨X0, hX0⟩ : ∃ X : World, X = w3.drew := ⟨_, rfl⟩
  rw [← hX0]
  have hbX : Below w3.heap.size w3 X0 := by rw [hX0]; exact (Below.refl _ _).drew
  have hT := And.intro (HX3.out.1.below hbX) (HX3.out.2.1.below hbX)
  have HR0 := Lib.hid (HX3.out.2.2.below hbX)
  have HB4 := Lib.hid (below_then HB3.out HB3.out.size hbX)
  clear hX0 hbX HX3 HB3
  refine wpTwo_takeT (i := 1) (v := .pointer (some ⟨y, 1, none⟩)) rfl (by kernel_rfl) (by kernel_rfl) (by kernel_rfl) (fun _ _ _ h => h) ⟨by rfl, ?_⟩ hT ?_
  · intro w hTw
    obtain ⟨t0, t1, t2⟩ := SpBox.cells hTw.1
    obtain ⟨t3, t4⟩ := GBox.cells hTw.2
    go_simp
  (try simp only [Act.put, List.getElem_toArray, List.getElem_cons_succ, List.getElem_cons_zero, List.setIfInBounds_toArray, List.set_cons_succ, List.set_cons_zero])
  refine wpTwo_takeT (i := 2) (v := .int .i64 4) rfl (by kernel_rfl) (by kernel_rfl) (by kernel_rfl) (fun _ _ _ h => h) ⟨by rfl, ?_⟩ hT ?_
  · intro w hTw
    obtain ⟨t0, t1, t2⟩ := SpBox.cells hTw.1
    obtain ⟨t3, t4⟩ := GBox.cells hTw.2
    go_simp
  (try simp only [Act.put, List.getElem_toArray, List.getElem_cons_succ, List.getElem_cons_zero, List.setIfInBounds_toArray, List.set_cons_succ, List.set_cons_zero])
  refine wpTwo_takeT (i := 5) (v := .agg #[.int .i64 a, .int .i64 4, .int .u64 t]) rfl (by kernel_rfl) (by kernel_rfl) (by kernel_rfl) (fun _ _ _ h => h) ⟨by rfl, ?_⟩ hT ?_
  · intro w hTw
    obtain ⟨t0, t1, t2⟩ := SpBox.cells hTw.1
    obtain ⟨t3, t4⟩ := GBox.cells hTw.2
    go_simp
  (try simp only [Act.put, List.getElem_toArray, List.getElem_cons_succ, List.getElem_cons_zero, List.setIfInBounds_toArray, List.set_cons_succ, List.set_cons_zero])
  refine wpTwo_takeT (i := 6) (v := .agg #[.int .u64 v, .bool true]) rfl (by kernel_rfl) (by kernel_rfl) (by kernel_rfl) (fun _ _ _ h => h) ⟨by rfl, ?_⟩ hT ?_
  · intro w hTw
    obtain ⟨t0, t1, t2⟩ := SpBox.cells hTw.1
    obtain ⟨t3, t4⟩ := GBox.cells hTw.2
    go_simp
  (try simp only [Act.put, List.getElem_toArray, List.getElem_cons_succ, List.getElem_cons_zero, List.setIfInBounds_toArray, List.set_cons_succ, List.set_cons_zero])
  refine wpTwo_ready (rs := [0]) (by kernel_rfl) (by simp) ?_
  refine (AllTwo.cons rfl (fun K hK => ?_) AllTwo.nil)
  go_simp
  refine (qphases _).mono ?_
  rintro e X1 ⟨rfl, hb⟩
  have HR1 := Lib.hid (HR0.out.below hb)
  have HB5 := Lib.hid (below_then HB4.out HB4.out.size hb)
  have hT := And.intro (hT.1.below hb) (hT.2.below hb)
  clear hb HR0 HB4
  go_wp2_with fail
  refine hK.out _ _ ⟨hT, fun _ _ => trivial⟩ ?_
  clear hK K
  (try simp only [Act.put, List.getElem_toArray, List.getElem_cons_succ, List.getElem_cons_zero, List.setIfInBounds_toArray, List.set_cons_succ, List.set_cons_zero])
  refine wpTwo_takeT (i := 3) (v := .agg #[.func (.func 57) #[] #[], .func (.func 58) #[] #[]]) rfl (by kernel_rfl) (by kernel_rfl) (by kernel_rfl) (fun _ _ _ h => h) ⟨by rfl, ?_⟩ hT ?_
  · intro w hTw
    go_simp
  (try simp only [Act.put, List.getElem_toArray, List.getElem_cons_succ, List.getElem_cons_zero, List.setIfInBounds_toArray, List.set_cons_succ, List.set_cons_zero])
  refine wpTwo_takeT (i := 4) (v := .func (.func 58) #[] #[]) rfl (by kernel_rfl) (by kernel_rfl) (by kernel_rfl) (fun _ _ _ h => h) ⟨by rfl, ?_⟩ hT ?_
  · intro w hTw
    go_simp
  (try simp only [Act.put, List.getElem_toArray, List.getElem_cons_succ, List.getElem_cons_zero, List.setIfInBounds_toArray, List.set_cons_succ, List.set_cons_zero])
  refine wpTwo_ready (rs := [7]) (by kernel_rfl) (by simp) ?_
  refine (AllTwo.cons rfl (fun K hK => ?_) AllTwo.nil)
  go_simp
  refine (HTH.out _).mono ?_
  rintro e X2 ⟨rfl, hb⟩
  have HR2 := Lib.hid (HR1.out.below hb)
  have HB6 := Lib.hid (below_then HB5.out HB5.out.size hb)
  have hT := And.intro (hT.1.below hb) (hT.2.below hb)
  clear hb HR1 HB5 HTH hix hfd
  go_wp2_with fail
  refine hK.out _ _ ⟨hT, fun _ _ => trivial⟩ ?_
  clear hK K
  (try simp only [Act.put, List.getElem_toArray, List.getElem_cons_succ, List.getElem_cons_zero, List.setIfInBounds_toArray, List.set_cons_succ, List.set_cons_zero])
  refine wpTwo_ready (rs := [8]) (by kernel_rfl) (by simp) ?_
  refine (AllTwo.cons rfl (fun K hK => ?_) AllTwo.nil)
  obtain ⟨r0, r1, r2⟩ := HR2.out.cells
  have rf := HR2.out.free
  have rf0 := rf 0
  have rf1 := rf 1
  have rf2 := rf 2
  obtain ⟨i0, i1, i2, hres⟩ : ∃ i0 i1 i2, (#[.int .i64 a, .int .i64 5, .int .u64 t] : Array Value) = #[i0, i1, i2] := ⟨_, _, _, rfl⟩
  obtain ⟨X3, hX3⟩ : ∃ X : World, X = ((X2.setCell ⟨y + 1 + 1, 0, none⟩ (.int .i64 a)).setCell ⟨y + 1 + 1, 1, none⟩ (.int .i64 5)).setCell ⟨y + 1 + 1, 2, none⟩ (.int .u64 t) := ⟨_, rfl⟩
  have hk : Keeps (fun q => q = y + 1 + 1) X2 X3 := by rw [hX3]; exact ((Keeps.setCell X2 (S := fun q => q = y + 1 + 1) (p := ⟨y + 1 + 1, 0, none⟩) rfl _).trans (Keeps.setCell _ (S := fun q => q = y + 1 + 1) (p := ⟨y + 1 + 1, 1, none⟩) rfl _)).trans (Keeps.setCell _ (S := fun q => q = y + 1 + 1) (p := ⟨y + 1 + 1, 2, none⟩) rfl _)
  have hT3 := And.intro (hT.1.keeps hk (fun e => by have e : y = y + 1 + 1 := e; omega)) (hT.2.keeps hk (fun e => by have e : y + 1 = y + 1 + 1 := e; omega))
  have HB7 := Lib.hid (show Below W.heap.size W X3 by rw [hX3]; exact below_set3 HB6.out (by omega) _ _ _)
  have hn : X3.heap[y + 1 + 1]? = some (.cells #[.int .i64 a, .int .i64 5, .int .u64 t] 24 (0, 0)) := by
    rw [hX3, heap_setCell_same _ (y + 1 + 1) 2 _ _ _ (heap_setCell_same _ (y + 1 + 1) 1 _ _ _ (heap_setCell_same X2 (y + 1 + 1) 0 _ _ _ HR2.out))]; rfl
  have HN := Lib.hid (show X3.cell? ⟨y + 1 + 1, 0, none⟩ = some (.int .i64 a) ∧ X3.cell? ⟨y + 1 + 1, 1, none⟩ = some (.int .i64 5) ∧ X3.cell? ⟨y + 1 + 1, 2, none⟩ = some (.int .u64 t) by simp [World.cell?, hn])
  clear hres hk hn rf HR2 HB6
  go_simp
  rw [← hX3]
  refine hK.out _ _ ⟨hT3, fun _ _ => trivial⟩ ?_
  clear hK K r0 r1 r2 rf0 rf1 rf2 hX3
  (try simp only [Act.put, List.getElem_toArray, List.getElem_cons_succ, List.getElem_cons_zero, List.setIfInBounds_toArray, List.set_cons_succ, List.set_cons_zero])
  refine wpTwo_takeT (i := 9) (v := .int .i64 0) rfl (by kernel_rfl) (by kernel_rfl) (by kernel_rfl) (fun _ _ _ h => h) ⟨by rfl, ?_⟩ hT3 ?_
  · intro w hTw
    go_simp
  (try simp only [Act.put, List.getElem_toArray, List.getElem_cons_succ, List.getElem_cons_zero, List.setIfInBounds_toArray, List.set_cons_succ, List.set_cons_zero])
  refine wpTwo_end (by kernel_rfl) ?_ _
  obtain ⟨r0, r1, r2⟩ := HN.out
  go_wp2
  exact bodyPost_ret (v := .tuple #[.agg #[.int .i64 a, .int .i64 5, .int .u64 t], .int .i64 0]) (by simp [results, Try.results14, go_sem, r0, r1, r2]) rfl ⟨rfl, HB7.out⟩
set_option maxRecDepth 100000 in
set_option maxHeartbeats 4000000 in
theorem qtake4n (a t v : Int) (ha : 0 ≤ a) (ha1 : a ≤ 9223372036854775807) (W : World) :
    Calls Try.prog 14 #[.agg #[.int .i64 a, .int .i64 4, .int .u64 t], .agg #[.int .u64 v, .bool false]] W fun e w' => e = .returned (.tuple #[.agg #[.int .i64 a, .int .i64 4, .int .u64 t], .int .i64 0]) ∧ Below W.heap.size W w' := by
  have HCK := Lib.hid (show ∀ W', Calls Try.prog 10 #[.agg #[.int .i64 a, .int .i64 4, .int .u64 t]] W' fun e w' => e = .returned (.int .i64 0) ∧ Below W'.heap.size W' w' from fun W' => qcheck_yes ⟨a, 4, t⟩ (rightS_iff.2 ⟨ha, .inr (.inr (.inr (.inr (.inl rfl))))⟩) W')
  have HND := Lib.hid (show ∀ W', Calls Try.prog 11 #[.agg #[.int .i64 a, .int .i64 4, .int .u64 t]] W' fun e w' => e = .returned (.tuple #[.agg #[.int .i64 2, .int .i64 (incI a), .int .u64 0, .int .u64 (incU t)], .bool true]) ∧ Below W'.heap.size W' w' from fun W' => qneed4 a t ha ha1 W')
  obtain ⟨y, hy⟩ : ∃ y, y = W.heap.size := ⟨_, rfl⟩
  obtain ⟨w0, hw0⟩ : ∃ w : World, w = ((W.alloc (.cells #[.int .i64 a, .int .i64 4, .int .u64 t] 24)).alloc (.cells #[.int .u64 v, .bool false] 36)).alloc (.cells #[.int .i64 0, .int .i64 0, .int .u64 0] 24) := ⟨_, rfl⟩
  have hB0 : Below W.heap.size W w0 := by rw [hw0]; exact below3 _ _ _ _
  have HBX := Lib.hid (take_new W a 4 t v false)
  rw [← hw0, ← hy] at HBX
  have HE := Lib.hid (And.intro hw0 hy)
  have HB0 := Lib.hid hB0
  have hyW : W.heap.size ≤ y := Nat.le_of_eq hy.symm
  clear hw0 hy hB0
  obtain ⟨b0, b1, b2⟩ := HBX.out.1.cells
  go_enter Try.func14, Try.ntmps14
  go_upto_region 1 with (fail)
  rw [← HE.out.1, ← HE.out.2]
  go_wp2_with fail
  refine (HCK.out _).mono ?_
  rintro e w1 ⟨rfl, hb1⟩
  have HB1 := Lib.hid (below_then HB0.out HB0.out.size hb1)
  have HX1 := Lib.hid (And.intro (HBX.out.1.below hb1) (And.intro (HBX.out.2.1.below hb1) (HBX.out.2.2.below hb1)))
  clear b0 b1 b2 hb1 HBX HB0 HCK HE
  obtain ⟨b0, b1, b2⟩ := HX1.out.1.cells
  go_wp2_with fail
  refine (HND.out _).mono ?_
  rintro e w2 ⟨rfl, hb2⟩
  obtain ⟨z, hz⟩ : ∃ z, z = w2.heap.size := ⟨_, rfl⟩
  obtain ⟨w3, hw3⟩ : ∃ w : World, w = w2.alloc (.cells #[.int .i64 2, .int .i64 (incI a), .int .u64 0, .int .u64 (incU t)] 31) := ⟨_, rfl⟩
  have hb3 : Below w2.heap.size w2 w3 := by rw [hw3]; exact below1 _ _
  have HAC := Lib.hid (show AcBox w3 z 2 (incI a) 0 (incU t) by rw [hw3, hz]; exact World.alloc_heap_new _ _)
  have HB3 := Lib.hid (below_then (below_then HB1.out HB1.out.size hb2) (Nat.le_trans HB1.out.size hb2.size) hb3)
  have HX3 := Lib.hid (And.intro ((HX1.out.1.below hb2).below hb3) (And.intro ((HX1.out.2.1.below hb2).below hb3) ((HX1.out.2.2.below hb2).below hb3)))
  have HE3 := Lib.hid (And.intro hw3 hz)
  clear b0 b1 b2 hb2 hb3 hw3 hz HX1 HB1 HND
  go_upto_region 5 with (fail)
  rw [← HE3.out.1, ← HE3.out.2]
  obtain ⟨g0, g1⟩ := HX3.out.2.1.cells
  obtain ⟨c0, c1, c2, c3⟩ := HAC.out.cells
  obtain ⟨b0, b1, b2⟩ := HX3.out.1.cells
  obtain ⟨r0, r1, r2⟩ := HX3.out.2.2.cells
  have rf := HX3.out.2.2.free
  have rf0 := rf 0
  have rf1 := rf 1
  have rf2 := rf 2
  clear rf
  clear HX3 HAC HE3
  go_wp2
  exact bodyPost_ret (v := .tuple #[.agg #[.int .i64 a, .int .i64 4, .int .u64 t], .int .i64 0]) (by simp [results, Try.results14, go_sem, r0, r1, r2]) rfl ⟨rfl, below_set3 HB3.out (by omega) _ _ _⟩
set_option maxRecDepth 100000 in
set_option maxHeartbeats 4000000 in
theorem qtake_arg3 (a t v : Int) (d : Bool) (ha : 0 ≤ a) (ha1 : a ≤ 9223372036854775807) (W : World) :
    Calls Try.prog 14 #[.agg #[.int .i64 a, .int .i64 3, .int .u64 t], .agg #[.int .u64 v, .bool d]] W fun e w' => e = .returned (.tuple #[.agg #[.int .i64 0, .int .i64 0, .int .u64 0], .int .i64 2]) ∧ Below W.heap.size W w' := by
  have HCK := Lib.hid (show ∀ W', Calls Try.prog 10 #[.agg #[.int .i64 a, .int .i64 3, .int .u64 t]] W' fun e w' => e = .returned (.int .i64 0) ∧ Below W'.heap.size W' w' from fun W' => qcheck_yes ⟨a, 3, t⟩ (rightS_iff.2 ⟨ha, .inr (.inr (.inr (.inl rfl)))⟩) W')
  have HND := Lib.hid (show ∀ W', Calls Try.prog 11 #[.agg #[.int .i64 a, .int .i64 3, .int .u64 t]] W' fun e w' => e = .returned (.tuple #[.agg #[.int .i64 0, .int .i64 0, .int .u64 0, .int .u64 0], .bool false]) ∧ Below W'.heap.size W' w' from fun W' => qneed3 a t ha ha1 W')
  obtain ⟨y, hy⟩ : ∃ y, y = W.heap.size := ⟨_, rfl⟩
  obtain ⟨w0, hw0⟩ : ∃ w : World, w = ((W.alloc (.cells #[.int .i64 a, .int .i64 3, .int .u64 t] 24)).alloc (.cells #[.int .u64 v, .bool d] 36)).alloc (.cells #[.int .i64 0, .int .i64 0, .int .u64 0] 24) := ⟨_, rfl⟩
  have hB0 : Below W.heap.size W w0 := by rw [hw0]; exact below3 _ _ _ _
  have HBX := Lib.hid (take_new W a 3 t v d)
  rw [← hw0, ← hy] at HBX
  have HE := Lib.hid (And.intro hw0 hy)
  have HB0 := Lib.hid hB0
  have hyW : W.heap.size ≤ y := Nat.le_of_eq hy.symm
  clear hw0 hy hB0
  obtain ⟨b0, b1, b2⟩ := HBX.out.1.cells
  go_enter Try.func14, Try.ntmps14
  go_upto_region 1 with (fail)
  rw [← HE.out.1, ← HE.out.2]
  go_wp2_with fail
  refine (HCK.out _).mono ?_
  rintro e w1 ⟨rfl, hb1⟩
  have HB1 := Lib.hid (below_then HB0.out HB0.out.size hb1)
  have HX1 := Lib.hid (And.intro (HBX.out.1.below hb1) (And.intro (HBX.out.2.1.below hb1) (HBX.out.2.2.below hb1)))
  clear b0 b1 b2 hb1 HBX HB0 HCK HE
  obtain ⟨b0, b1, b2⟩ := HX1.out.1.cells
  go_wp2_with fail
  refine (HND.out _).mono ?_
  rintro e w2 ⟨rfl, hb2⟩
  obtain ⟨z, hz⟩ : ∃ z, z = w2.heap.size := ⟨_, rfl⟩
  obtain ⟨w3, hw3⟩ : ∃ w : World, w = w2.alloc (.cells #[.int .i64 0, .int .i64 0, .int .u64 0, .int .u64 0] 31) := ⟨_, rfl⟩
  have hb3 : Below w2.heap.size w2 w3 := by rw [hw3]; exact below1 _ _
  have HAC := Lib.hid (show AcBox w3 z 0 0 0 0 by rw [hw3, hz]; exact World.alloc_heap_new _ _)
  have HB3 := Lib.hid (below_then (below_then HB1.out HB1.out.size hb2) (Nat.le_trans HB1.out.size hb2.size) hb3)
  have HX3 := Lib.hid (And.intro ((HX1.out.1.below hb2).below hb3) (And.intro ((HX1.out.2.1.below hb2).below hb3) ((HX1.out.2.2.below hb2).below hb3)))
  have HE3 := Lib.hid (And.intro hw3 hz)
  clear b0 b1 b2 hb2 hb3 hw3 hz HX1 HB1 HND
  obtain ⟨r0, r1, r2⟩ := HX3.out.2.2.cells
  have rf := HX3.out.2.2.free
  have rf0 := rf 0
  have rf1 := rf 1
  have rf2 := rf 2
  clear rf
  go_upto_region 5 with (fail)
  rw [← HE3.out.1, ← HE3.out.2]
  clear HX3 HAC HE3
  go_wp2
  exact bodyPost_ret (v := .tuple #[.agg #[.int .i64 0, .int .i64 0, .int .u64 0], .int .i64 2]) (by simp [results, Try.results14, go_sem, r0, r1, r2]) rfl ⟨rfl, below_set3 HB3.out (by omega) _ _ _⟩
set_option maxRecDepth 100000 in
set_option maxHeartbeats 4000000 in
theorem qtake_arg5 (a t v : Int) (d : Bool) (ha : 0 ≤ a) (ha1 : a ≤ 9223372036854775807) (W : World) :
    Calls Try.prog 14 #[.agg #[.int .i64 a, .int .i64 5, .int .u64 t], .agg #[.int .u64 v, .bool d]] W fun e w' => e = .returned (.tuple #[.agg #[.int .i64 0, .int .i64 0, .int .u64 0], .int .i64 2]) ∧ Below W.heap.size W w' := by
  have HCK := Lib.hid (show ∀ W', Calls Try.prog 10 #[.agg #[.int .i64 a, .int .i64 5, .int .u64 t]] W' fun e w' => e = .returned (.int .i64 0) ∧ Below W'.heap.size W' w' from fun W' => qcheck_yes ⟨a, 5, t⟩ (rightS_iff.2 ⟨ha, .inr (.inr (.inr (.inr (.inr rfl))))⟩) W')
  have HND := Lib.hid (show ∀ W', Calls Try.prog 11 #[.agg #[.int .i64 a, .int .i64 5, .int .u64 t]] W' fun e w' => e = .returned (.tuple #[.agg #[.int .i64 0, .int .i64 0, .int .u64 0, .int .u64 0], .bool false]) ∧ Below W'.heap.size W' w' from fun W' => qneed5 a t ha ha1 W')
  obtain ⟨y, hy⟩ : ∃ y, y = W.heap.size := ⟨_, rfl⟩
  obtain ⟨w0, hw0⟩ : ∃ w : World, w = ((W.alloc (.cells #[.int .i64 a, .int .i64 5, .int .u64 t] 24)).alloc (.cells #[.int .u64 v, .bool d] 36)).alloc (.cells #[.int .i64 0, .int .i64 0, .int .u64 0] 24) := ⟨_, rfl⟩
  have hB0 : Below W.heap.size W w0 := by rw [hw0]; exact below3 _ _ _ _
  have HBX := Lib.hid (take_new W a 5 t v d)
  rw [← hw0, ← hy] at HBX
  have HE := Lib.hid (And.intro hw0 hy)
  have HB0 := Lib.hid hB0
  have hyW : W.heap.size ≤ y := Nat.le_of_eq hy.symm
  clear hw0 hy hB0
  obtain ⟨b0, b1, b2⟩ := HBX.out.1.cells
  go_enter Try.func14, Try.ntmps14
  go_upto_region 1 with (fail)
  rw [← HE.out.1, ← HE.out.2]
  go_wp2_with fail
  refine (HCK.out _).mono ?_
  rintro e w1 ⟨rfl, hb1⟩
  have HB1 := Lib.hid (below_then HB0.out HB0.out.size hb1)
  have HX1 := Lib.hid (And.intro (HBX.out.1.below hb1) (And.intro (HBX.out.2.1.below hb1) (HBX.out.2.2.below hb1)))
  clear b0 b1 b2 hb1 HBX HB0 HCK HE
  obtain ⟨b0, b1, b2⟩ := HX1.out.1.cells
  go_wp2_with fail
  refine (HND.out _).mono ?_
  rintro e w2 ⟨rfl, hb2⟩
  obtain ⟨z, hz⟩ : ∃ z, z = w2.heap.size := ⟨_, rfl⟩
  obtain ⟨w3, hw3⟩ : ∃ w : World, w = w2.alloc (.cells #[.int .i64 0, .int .i64 0, .int .u64 0, .int .u64 0] 31) := ⟨_, rfl⟩
  have hb3 : Below w2.heap.size w2 w3 := by rw [hw3]; exact below1 _ _
  have HAC := Lib.hid (show AcBox w3 z 0 0 0 0 by rw [hw3, hz]; exact World.alloc_heap_new _ _)
  have HB3 := Lib.hid (below_then (below_then HB1.out HB1.out.size hb2) (Nat.le_trans HB1.out.size hb2.size) hb3)
  have HX3 := Lib.hid (And.intro ((HX1.out.1.below hb2).below hb3) (And.intro ((HX1.out.2.1.below hb2).below hb3) ((HX1.out.2.2.below hb2).below hb3)))
  have HE3 := Lib.hid (And.intro hw3 hz)
  clear b0 b1 b2 hb2 hb3 hw3 hz HX1 HB1 HND
  obtain ⟨r0, r1, r2⟩ := HX3.out.2.2.cells
  have rf := HX3.out.2.2.free
  have rf0 := rf 0
  have rf1 := rf 1
  have rf2 := rf 2
  clear rf
  go_upto_region 5 with (fail)
  rw [← HE3.out.1, ← HE3.out.2]
  clear HX3 HAC HE3
  go_wp2
  exact bodyPost_ret (v := .tuple #[.agg #[.int .i64 0, .int .i64 0, .int .u64 0], .int .i64 2]) (by simp [results, Try.results14, go_sem, r0, r1, r2]) rfl ⟨rfl, below_set3 HB3.out (by omega) _ _ _⟩
set_option maxRecDepth 100000 in
set_option maxHeartbeats 4000000 in
theorem qtake_bad (s : SpM) (h : rightS s = false) (v : Int) (d : Bool) (W : World) :
    Calls Try.prog 14 #[spV s, .agg #[.int .u64 v, .bool d]] W fun e w' => e = .returned (.tuple #[.agg #[.int .i64 0, .int .i64 0, .int .u64 0], .int .i64 150]) ∧ Below W.heap.size W w' := by
  obtain ⟨a, p, t⟩ := s
  have HCK := Lib.hid (show ∀ W', Calls Try.prog 10 #[.agg #[.int .i64 a, .int .i64 p, .int .u64 t]] W' fun e w' => e = .returned (.int .i64 150) ∧ Below W'.heap.size W' w' from fun W' => qcheck_no ⟨a, p, t⟩ h W')
  clear h
  unfold spV
  obtain ⟨y, hy⟩ : ∃ y, y = W.heap.size := ⟨_, rfl⟩
  obtain ⟨w0, hw0⟩ : ∃ w : World, w = ((W.alloc (.cells #[.int .i64 a, .int .i64 p, .int .u64 t] 24)).alloc (.cells #[.int .u64 v, .bool d] 36)).alloc (.cells #[.int .i64 0, .int .i64 0, .int .u64 0] 24) := ⟨_, rfl⟩
  have hB0 : Below W.heap.size W w0 := by rw [hw0]; exact below3 _ _ _ _
  have HBX := Lib.hid (take_new W a p t v d)
  rw [← hw0, ← hy] at HBX
  have HE := Lib.hid (And.intro hw0 hy)
  have HB0 := Lib.hid hB0
  have hyW : W.heap.size ≤ y := Nat.le_of_eq hy.symm
  clear hw0 hy hB0
  obtain ⟨b0, b1, b2⟩ := HBX.out.1.cells
  go_enter Try.func14, Try.ntmps14
  go_upto_region 1 with (fail)
  rw [← HE.out.1, ← HE.out.2]
  go_wp2_with fail
  refine (HCK.out _).mono ?_
  rintro e w1 ⟨rfl, hb1⟩
  have HB3 := Lib.hid (below_then HB0.out HB0.out.size hb1)
  have HX3 := Lib.hid (And.intro (HBX.out.1.below hb1) (And.intro (HBX.out.2.1.below hb1) (HBX.out.2.2.below hb1)))
  clear b0 b1 b2 hb1 HBX HB0 HCK HE
  obtain ⟨r0, r1, r2⟩ := HX3.out.2.2.cells
  have rf := HX3.out.2.2.free
  have rf0 := rf 0
  have rf1 := rf 1
  have rf2 := rf 2
  clear rf
  clear HX3
  go_wp2
  exact bodyPost_ret (v := .tuple #[.agg #[.int .i64 0, .int .i64 0, .int .u64 0], .int .i64 150]) (by simp [results, Try.results14, go_sem, r0, r1, r2]) rfl ⟨rfl, below_set3 HB3.out (by omega) _ _ _⟩
/-- Take, of whoever may be. -/
theorem qtake_yes (s : SpM) (h : rightS s = true) (hr : SpR s) (hh : hasS s = true) (v : Int) (d : Bool) (W : World) : Calls Try.prog 14 #[spV s, .agg #[.int .u64 v, .bool d]] W fun e w' => e = .returned (.tuple #[spV (takeS s v d), .int .i64 0]) ∧ Below W.heap.size W w' := by
  obtain ⟨a, p, t⟩ := s
  obtain ⟨ha, hp⟩ := rightS_iff.1 h
  have ha1 := hr.a1
  simp only at ha hp ha1
  rcases hp with ⟨rfl, ht⟩ | rfl | rfl | rfl | rfl | rfl
  · cases d
    · exact qtake0n a t v ha ha1 ht W
    · exact qtake0 a t v ha ha1 ht W
  · cases d
    · exact qtake1n a t v ha ha1 W
    · exact qtake1 a t v ha ha1 W
  · cases d
    · exact qtake2n a t v ha ha1 W
    · by_cases hv : v = t
      · subst hv
        have e : takeS ⟨a, 2, v⟩ v true = ⟨a, 3, v⟩ := by simp [takeS]
        rw [e]
        exact qtake2 a v ha ha1 W
      · have e : takeS ⟨a, 2, t⟩ v true = ⟨a, 2, t⟩ := by simp [takeS, hv]
        rw [e]
        exact qtake2o a t v ha ha1 hv W
  · simp [hasS] at hh
  · cases d
    · exact qtake4n a t v ha ha1 W
    · exact qtake4 a t v ha ha1 W
  · simp [hasS] at hh
theorem qtake_arg (s : SpM) (h : rightS s = true) (hr : SpR s) (hh : hasS s = false) (v : Int) (d : Bool) (W : World) : Calls Try.prog 14 #[spV s, .agg #[.int .u64 v, .bool d]] W fun e w' => e = .returned (.tuple #[spV ⟨0, 0, 0⟩, .int .i64 2]) ∧ Below W.heap.size W w' := by
  obtain ⟨a, p, t⟩ := s
  obtain ⟨ha, hp⟩ := rightS_iff.1 h
  have ha1 := hr.a1
  simp only at ha hp ha1
  rcases hp with ⟨rfl, ht⟩ | rfl | rfl | rfl | rfl | rfl
  · simp [hasS] at hh
  · simp [hasS] at hh
  · simp [hasS] at hh
  · exact qtake_arg3 a t v d ha ha1 W
  · simp [hasS] at hh
  · exact qtake_arg5 a t v d ha ha1 W

end Go.Proofs.Ytcnpmkigiklnnaa
