/-
  What the phases ask for: the table of phases, and Need, of package spin; what was in memory stays.
  Conditions: none but the ranges of Go's types.
-/
import Derived.Test.YtcnpmkigiklnnaaKS4
import Derived.Test.YtcnpmkigiklnnaaKS6
import Derived.Lib.Hide
namespace Go.Proofs.Ytcnpmkigiklnnaa
open Go.RowKit Go.Shelf
attribute [local go_sem] spV ndV
attribute [local go_sem] Oper.semAt_some

/-- Block z is a variable that holds one who wants a lock. -/
def SpBox (w : World) (z : Nat) (a p t : Int) : Prop := w.heap[z]? = some (.cells #[.int .i64 a, .int .i64 p, .int .u64 t] 24 (0, 0))
theorem SpBox.lt {w : World} {z : Nat} {a p t : Int} (h : SpBox w z a p t) : z < w.heap.size := (Array.getElem?_eq_some_iff.1 h).1
theorem SpBox.below {w w' : World} {z : Nat} {a p t : Int} (h : SpBox w z a p t) (hk : Below w.heap.size w w') : SpBox w' z a p t := (hk.block z h.lt).trans h
theorem SpBox.keeps {S : Nat → Prop} {w w' : World} {z : Nat} {a p t : Int} (h : SpBox w z a p t) (hk : Keeps S w w') (hz : ¬ S z) : SpBox w' z a p t := (hk.block z h.lt hz).trans h
theorem SpBox.cells {w : World} {z : Nat} {a p t : Int} (h : SpBox w z a p t) : w.cell? ⟨z, 0, none⟩ = some (.int .i64 a) ∧ w.cell? ⟨z, 1, none⟩ = some (.int .i64 p) ∧ w.cell? ⟨z, 2, none⟩ = some (.int .u64 t) := by
  have h' : w.heap[z]? = _ := h
  simp [World.cell?, h']
theorem SpBox.free {w : World} {z : Nat} {a p t : Int} (h : SpBox w z a p t) (i : Nat) : w.frozen? ⟨z, i, none⟩ = false := by
  have h' : w.heap[z]? = _ := h
  simp [World.frozen?, h']
theorem AcBox.frees {w : World} {z : Nat} {k a o n : Int} (h : AcBox w z k a o n) (i : Nat) : w.frozen? ⟨z, i, none⟩ = false := by
  have h' : w.heap[z]? = _ := h
  simp [World.frozen?, h']
theorem below_set3 {B : Nat} {X w : World} {y : Nat} (h : Below B X w) (hy : B ≤ y) (u0 u1 u2 : Value) : Below B X (((w.setCell ⟨y, 0, none⟩ u0).setCell ⟨y, 1, none⟩ u1).setCell ⟨y, 2, none⟩ u2) :=
  ((h.setCell (p := ⟨y, 0, none⟩) hy _).setCell (p := ⟨y, 1, none⟩) hy _).setCell (p := ⟨y, 2, none⟩) hy _
theorem below_set4 {B : Nat} {X w : World} {y : Nat} (h : Below B X w) (hy : B ≤ y) (u0 u1 u2 u3 : Value) : Below B X ((((w.setCell ⟨y, 0, none⟩ u0).setCell ⟨y, 1, none⟩ u1).setCell ⟨y, 2, none⟩ u2).setCell ⟨y, 3, none⟩ u3) :=
  (below_set3 h hy u0 u1 u2).setCell (p := ⟨y, 3, none⟩) hy _
set_option maxRecDepth 100000 in
set_option maxHeartbeats 2000000 in
theorem qphases (W : World) : Calls Try.prog 35 #[] W fun e w' => e = .returned (.agg #[.func (.func 51) #[] #[], .func (.func 52) #[] #[], .func (.func 53) #[] #[], .func (.func 54) #[] #[], .func (.func 55) #[] #[], .func (.func 56) #[] #[], .nilFunc, .nilFunc, .func (.func 57) #[] #[], .func (.func 58) #[] #[], .nilFunc, .nilFunc]) ∧ Below W.heap.size W w' := by
  go_enter Try.func35, Try.ntmps35
  go_wp2
  exact bodyPost_ret (v := .agg #[.func (.func 51) #[] #[], .func (.func 52) #[] #[], .func (.func 53) #[] #[], .func (.func 54) #[] #[], .func (.func 55) #[] #[], .func (.func 56) #[] #[], .nilFunc, .nilFunc, .func (.func 57) #[] #[], .func (.func 58) #[] #[], .nilFunc, .nilFunc]) (by simp [results, Try.results35, go_sem]) rfl ⟨rfl, below1 _ _⟩
theorem mem_zero_new (W : World) (a p t : Int) : SpBox ((W.alloc (.cells #[.int .i64 a, .int .i64 p, .int .u64 t] 24)).alloc (.cells #[.int .i64 0, .int .i64 0, .int .u64 0, .int .u64 0] 31)) W.heap.size a p t ∧ AcBox ((W.alloc (.cells #[.int .i64 a, .int .i64 p, .int .u64 t] 24)).alloc (.cells #[.int .i64 0, .int .i64 0, .int .u64 0, .int .u64 0] 31)) (W.heap.size + 1) 0 0 0 0 := by
  constructor
  · exact ((below1 (W.alloc (.cells #[.int .i64 a, .int .i64 p, .int .u64 t] 24)) _).block _ (by simp)).trans (World.alloc_heap_new W _)
  · have := World.alloc_heap_new (W.alloc (.cells #[.int .i64 a, .int .i64 p, .int .u64 t] 24)) (.cells #[.int .i64 0, .int .i64 0, .int .u64 0, .int .u64 0] 31)
    rw [World.size_alloc] at this
    exact this
set_option maxRecDepth 100000 in
set_option maxHeartbeats 4000000 in
theorem qneed0 (a t : Int) (ha : 0 ≤ a) (ha1 : a ≤ 9223372036854775807) (ht : t = 0) (W : World) :
    Calls Try.prog 11 #[.agg #[.int .i64 a, .int .i64 0, .int .u64 t]] W fun e w' => e = .returned (.tuple #[.agg #[.int .i64 1, .int .i64 a, .int .u64 0, .int .u64 0], .bool true]) ∧ Below W.heap.size W w' := by
  have HCK := Lib.hid (show ∀ W', Calls Try.prog 10 #[.agg #[.int .i64 a, .int .i64 0, .int .u64 t]] W' fun e w' => e = .returned (.int .i64 0) ∧ Below W'.heap.size W' w' from fun W' => qcheck_yes ⟨a, 0, t⟩ (rightS_iff.2 ⟨ha, .inl ⟨rfl, ht⟩⟩) W')
  clear ht
  have hix : ∀ w, (Instr.index 79 (.agg #[.func (.func 51) #[] #[], .func (.func 52) #[] #[], .func (.func 53) #[] #[], .func (.func 54) #[] #[], .func (.func 55) #[] #[], .func (.func 56) #[] #[], .nilFunc, .nilFunc, .func (.func 57) #[] #[], .func (.func 58) #[] #[], .nilFunc, .nilFunc]) (.int .i64 0)).run Try.prog w = .ok (.agg #[.func (.func 51) #[] #[], .func (.func 52) #[] #[]]) w := fun _ => by kernel_rfl
  have hfd : ∀ w, (Instr.field 78 (.agg #[.func (.func 51) #[] #[], .func (.func 52) #[] #[]]) 0).run Try.prog w = .ok (.func (.func 51) #[] #[]) w := fun _ => by kernel_rfl
  have hnil : ∀ w : World, (binOp BinOp.eql 34 (.func (.func 51) #[] #[]) .nilFunc).run Try.prog w = .ok (.bool false) w := fun _ => by kernel_rfl
  obtain ⟨y, hy⟩ : ∃ y, y = W.heap.size := ⟨_, rfl⟩
  obtain ⟨w0, hw0⟩ : ∃ w : World, w = (W.alloc (.cells #[.int .i64 a, .int .i64 0, .int .u64 t] 24)).alloc (.cells #[.int .i64 0, .int .i64 0, .int .u64 0, .int .u64 0] 31) := ⟨_, rfl⟩
  have hB0 : Below W.heap.size W w0 := by rw [hw0]; exact below2 _ _ _
  have HBX := Lib.hid (mem_zero_new W a 0 t)
  rw [← hw0, ← hy] at HBX
  have HE := Lib.hid (And.intro hw0 hy)
  have HB0 := Lib.hid hB0
  have hyW : W.heap.size ≤ y := Nat.le_of_eq hy.symm
  clear hw0 hy hB0
  obtain ⟨b0, b1, b2⟩ := HBX.out.1.cells
  go_enter Try.func11, Try.ntmps11
  go_upto_region 1 with (fail)
  rw [← HE.out.1, ← HE.out.2]
  go_wp2_with fail
  refine (HCK.out _).mono ?_
  rintro e w1 ⟨rfl, hb1⟩
  have HB1 := Lib.hid (below_then HB0.out HB0.out.size hb1)
  have HX1 := Lib.hid (And.intro (HBX.out.1.below hb1) (HBX.out.2.below hb1))
  clear b0 b1 b2 hb1 HBX HB0 HCK HE
  go_upto_region 3 with (fail)
  refine wpTwo_begin (T := fun w' => w'.cell? ⟨y, 1, none⟩ = some (.int .i64 0)) (S := fun _ => True) (late := fun _ => false) (by kernel_rfl) ?_
  obtain ⟨X0, hX0⟩ : ∃ X : World, X = w1.drew := ⟨_, rfl⟩
  rw [← hX0]
  have hbX : Below w1.heap.size w1 X0 := by rw [hX0]; exact (Below.refl _ _).drew
  have HX0 := Lib.hid (And.intro (HX1.out.1.below hbX) (HX1.out.2.below hbX))
  have HBX0 := Lib.hid (below_then HB1.out HB1.out.size hbX)
  have hT := HX0.out.1.cells.2.1
  clear hX0 hbX HX1 HB1
  refine wpTwo_takeT (i := 1) (v := .pointer (some ⟨y, 1, none⟩)) rfl (by kernel_rfl) (by kernel_rfl) (by kernel_rfl) (fun _ _ _ h => h) ⟨by rfl, ?_⟩ hT ?_
  · intro w hTw
    go_simp
  (try simp only [Act.put, List.getElem_toArray, List.getElem_cons_succ, List.getElem_cons_zero, List.setIfInBounds_toArray, List.set_cons_succ, List.set_cons_zero])
  refine wpTwo_takeT (i := 2) (v := .int .i64 0) rfl (by kernel_rfl) (by kernel_rfl) (by kernel_rfl) (fun _ _ _ h => h) ⟨by rfl, ?_⟩ hT ?_
  · intro w hTw
    go_simp
  (try simp only [Act.put, List.getElem_toArray, List.getElem_cons_succ, List.getElem_cons_zero, List.setIfInBounds_toArray, List.set_cons_succ, List.set_cons_zero])
  refine wpTwo_ready (rs := [0]) (by kernel_rfl) (by simp) ?_
  refine (AllTwo.cons rfl (fun K hK => ?_) AllTwo.nil)
  go_simp
  refine (qphases _).mono ?_
  rintro e X1 ⟨rfl, hb⟩
  have HX2 := Lib.hid (And.intro (HX0.out.1.below hb) (HX0.out.2.below hb))
  have HB2 := Lib.hid (below_then HBX0.out HBX0.out.size hb)
  have hT := below_cell hb hT
  clear hb HX0 HBX0
  go_wp2_with fail
  refine hK.out _ _ ⟨hT, fun _ _ => trivial⟩ ?_
  clear hK K
  (try simp only [Act.put, List.getElem_toArray, List.getElem_cons_succ, List.getElem_cons_zero, List.setIfInBounds_toArray, List.set_cons_succ, List.set_cons_zero])
  refine wpTwo_takeT (i := 3) (v := .agg #[.func (.func 51) #[] #[], .func (.func 52) #[] #[]]) rfl (by kernel_rfl) (by kernel_rfl) (by kernel_rfl) (fun _ _ _ h => h) ⟨by rfl, ?_⟩ hT ?_
  · intro w hTw
    go_simp
  (try simp only [Act.put, List.getElem_toArray, List.getElem_cons_succ, List.getElem_cons_zero, List.setIfInBounds_toArray, List.set_cons_succ, List.set_cons_zero])
  refine wpTwo_takeT (i := 4) (v := .func (.func 51) #[] #[]) rfl (by kernel_rfl) (by kernel_rfl) (by kernel_rfl) (fun _ _ _ h => h) ⟨by rfl, ?_⟩ hT ?_
  · intro w hTw
    go_simp
  (try simp only [Act.put, List.getElem_toArray, List.getElem_cons_succ, List.getElem_cons_zero, List.setIfInBounds_toArray, List.set_cons_succ, List.set_cons_zero])
  refine wpTwo_takeT (i := 5) (v := .func (.func 51) #[] #[]) rfl (by kernel_rfl) (by kernel_rfl) (by kernel_rfl) (fun _ _ _ h => h) ⟨by rfl, ?_⟩ hT ?_
  · intro w hTw
    go_simp
  (try simp only [Act.put, List.getElem_toArray, List.getElem_cons_succ, List.getElem_cons_zero, List.setIfInBounds_toArray, List.set_cons_succ, List.set_cons_zero])
  refine wpTwo_end (by kernel_rfl) ?_ _
  clear hT hix hfd
  obtain ⟨b0, b1, b2⟩ := HX2.out.1.cells
  have HN := Lib.hid (show ∀ W', Calls Try.prog 51 #[.agg #[.int .i64 a, .int .i64 0, .int .u64 t]] W' fun e w' => e = .returned (.agg #[.int .i64 1, .int .i64 a, .int .u64 0, .int .u64 0]) ∧ Below W'.heap.size W' w' from fun W' => qloadNext a 0 t ha ha1 W')
  go_wp2_with fail
  refine (HN.out _).mono ?_
  rintro e X2 ⟨rfl, hb⟩
  obtain ⟨r0, r1, r2, r3⟩ := (HX2.out.2.below hb).cells
  have rf := (HX2.out.2.below hb).frees
  have rf0 := rf 0
  have rf1 := rf 1
  have rf2 := rf 2
  have rf3 := rf 3
  have HB3 := Lib.hid (below_then HB2.out HB2.out.size hb)
  clear b0 b1 b2 hb rf HX2 HB2 HN
  go_wp2
  exact bodyPost_ret (v := .tuple #[.agg #[.int .i64 1, .int .i64 a, .int .u64 0, .int .u64 0], .bool true]) (by simp [results, Try.results11, go_sem, r0, r1, r2, r3]) rfl ⟨rfl, below_set4 HB3.out (by omega) _ _ _ _⟩
set_option maxRecDepth 100000 in
set_option maxHeartbeats 4000000 in
theorem qneed1 (a t : Int) (ha : 0 ≤ a) (ha1 : a ≤ 9223372036854775807) (W : World) :
    Calls Try.prog 11 #[.agg #[.int .i64 a, .int .i64 1, .int .u64 t]] W fun e w' => e = .returned (.tuple #[.agg #[.int .i64 3, .int .i64 a, .int .u64 t, .int .u64 (incU t)], .bool true]) ∧ Below W.heap.size W w' := by
  have HCK := Lib.hid (show ∀ W', Calls Try.prog 10 #[.agg #[.int .i64 a, .int .i64 1, .int .u64 t]] W' fun e w' => e = .returned (.int .i64 0) ∧ Below W'.heap.size W' w' from fun W' => qcheck_yes ⟨a, 1, t⟩ (rightS_iff.2 ⟨ha, .inr (.inl rfl)⟩) W')

  have hix : ∀ w, (Instr.index 79 (.agg #[.func (.func 51) #[] #[], .func (.func 52) #[] #[], .func (.func 53) #[] #[], .func (.func 54) #[] #[], .func (.func 55) #[] #[], .func (.func 56) #[] #[], .nilFunc, .nilFunc, .func (.func 57) #[] #[], .func (.func 58) #[] #[], .nilFunc, .nilFunc]) (.int .i64 1)).run Try.prog w = .ok (.agg #[.func (.func 53) #[] #[], .func (.func 54) #[] #[]]) w := fun _ => by kernel_rfl
  have hfd : ∀ w, (Instr.field 78 (.agg #[.func (.func 53) #[] #[], .func (.func 54) #[] #[]]) 0).run Try.prog w = .ok (.func (.func 53) #[] #[]) w := fun _ => by kernel_rfl
  have hnil : ∀ w : World, (binOp BinOp.eql 34 (.func (.func 53) #[] #[]) .nilFunc).run Try.prog w = .ok (.bool false) w := fun _ => by kernel_rfl
  obtain ⟨y, hy⟩ : ∃ y, y = W.heap.size := ⟨_, rfl⟩
  obtain ⟨w0, hw0⟩ : ∃ w : World, w = (W.alloc (.cells #[.int .i64 a, .int .i64 1, .int .u64 t] 24)).alloc (.cells #[.int .i64 0, .int .i64 0, .int .u64 0, .int .u64 0] 31) := ⟨_, rfl⟩
  have hB0 : Below W.heap.size W w0 := by rw [hw0]; exact below2 _ _ _
  have HBX := Lib.hid (mem_zero_new W a 1 t)
  rw [← hw0, ← hy] at HBX
  have HE := Lib.hid (And.intro hw0 hy)
  have HB0 := Lib.hid hB0
  have hyW : W.heap.size ≤ y := Nat.le_of_eq hy.symm
  clear hw0 hy hB0
  obtain ⟨b0, b1, b2⟩ := HBX.out.1.cells
  go_enter Try.func11, Try.ntmps11
  go_upto_region 1 with (fail)
  rw [← HE.out.1, ← HE.out.2]
  go_wp2_with fail
  refine (HCK.out _).mono ?_
  rintro e w1 ⟨rfl, hb1⟩
  have HB1 := Lib.hid (below_then HB0.out HB0.out.size hb1)
  have HX1 := Lib.hid (And.intro (HBX.out.1.below hb1) (HBX.out.2.below hb1))
  clear b0 b1 b2 hb1 HBX HB0 HCK HE
  go_upto_region 3 with (fail)
  refine wpTwo_begin (T := fun w' => w'.cell? ⟨y, 1, none⟩ = some (.int .i64 1)) (S := fun _ => True) (late := fun _ => false) (by kernel_rfl) ?_
  obtain ⟨X0, hX0⟩ : ∃ X : World, X = w1.drew := ⟨_, rfl⟩
  rw [← hX0]
  have hbX : Below w1.heap.size w1 X0 := by rw [hX0]; exact (Below.refl _ _).drew
  have HX0 := Lib.hid (And.intro (HX1.out.1.below hbX) (HX1.out.2.below hbX))
  have HBX0 := Lib.hid (below_then HB1.out HB1.out.size hbX)
  have hT := HX0.out.1.cells.2.1
  clear hX0 hbX HX1 HB1
  refine wpTwo_takeT (i := 1) (v := .pointer (some ⟨y, 1, none⟩)) rfl (by kernel_rfl) (by kernel_rfl) (by kernel_rfl) (fun _ _ _ h => h) ⟨by rfl, ?_⟩ hT ?_
  · intro w hTw
    go_simp
  (try simp only [Act.put, List.getElem_toArray, List.getElem_cons_succ, List.getElem_cons_zero, List.setIfInBounds_toArray, List.set_cons_succ, List.set_cons_zero])
  refine wpTwo_takeT (i := 2) (v := .int .i64 1) rfl (by kernel_rfl) (by kernel_rfl) (by kernel_rfl) (fun _ _ _ h => h) ⟨by rfl, ?_⟩ hT ?_
  · intro w hTw
    go_simp
  (try simp only [Act.put, List.getElem_toArray, List.getElem_cons_succ, List.getElem_cons_zero, List.setIfInBounds_toArray, List.set_cons_succ, List.set_cons_zero])
  refine wpTwo_ready (rs := [0]) (by kernel_rfl) (by simp) ?_
  refine (AllTwo.cons rfl (fun K hK => ?_) AllTwo.nil)
  go_simp
  refine (qphases _).mono ?_
  rintro e X1 ⟨rfl, hb⟩
  have HX2 := Lib.hid (And.intro (HX0.out.1.below hb) (HX0.out.2.below hb))
  have HB2 := Lib.hid (below_then HBX0.out HBX0.out.size hb)
  have hT := below_cell hb hT
  clear hb HX0 HBX0
  go_wp2_with fail
  refine hK.out _ _ ⟨hT, fun _ _ => trivial⟩ ?_
  clear hK K
  (try simp only [Act.put, List.getElem_toArray, List.getElem_cons_succ, List.getElem_cons_zero, List.setIfInBounds_toArray, List.set_cons_succ, List.set_cons_zero])
  refine wpTwo_takeT (i := 3) (v := .agg #[.func (.func 53) #[] #[], .func (.func 54) #[] #[]]) rfl (by kernel_rfl) (by kernel_rfl) (by kernel_rfl) (fun _ _ _ h => h) ⟨by rfl, ?_⟩ hT ?_
  · intro w hTw
    go_simp
  (try simp only [Act.put, List.getElem_toArray, List.getElem_cons_succ, List.getElem_cons_zero, List.setIfInBounds_toArray, List.set_cons_succ, List.set_cons_zero])
  refine wpTwo_takeT (i := 4) (v := .func (.func 53) #[] #[]) rfl (by kernel_rfl) (by kernel_rfl) (by kernel_rfl) (fun _ _ _ h => h) ⟨by rfl, ?_⟩ hT ?_
  · intro w hTw
    go_simp
  (try simp only [Act.put, List.getElem_toArray, List.getElem_cons_succ, List.getElem_cons_zero, List.setIfInBounds_toArray, List.set_cons_succ, List.set_cons_zero])
  refine wpTwo_takeT (i := 5) (v := .func (.func 53) #[] #[]) rfl (by kernel_rfl) (by kernel_rfl) (by kernel_rfl) (fun _ _ _ h => h) ⟨by rfl, ?_⟩ hT ?_
  · intro w hTw
    go_simp
  (try simp only [Act.put, List.getElem_toArray, List.getElem_cons_succ, List.getElem_cons_zero, List.setIfInBounds_toArray, List.set_cons_succ, List.set_cons_zero])
  refine wpTwo_end (by kernel_rfl) ?_ _
  clear hT hix hfd
  obtain ⟨b0, b1, b2⟩ := HX2.out.1.cells
  have HN := Lib.hid (show ∀ W', Calls Try.prog 53 #[.agg #[.int .i64 a, .int .i64 1, .int .u64 t]] W' fun e w' => e = .returned (.agg #[.int .i64 3, .int .i64 a, .int .u64 t, .int .u64 (incU t)]) ∧ Below W'.heap.size W' w' from fun W' => qswapNext a 1 t ha ha1 W')
  go_wp2_with fail
  refine (HN.out _).mono ?_
  rintro e X2 ⟨rfl, hb⟩
  obtain ⟨r0, r1, r2, r3⟩ := (HX2.out.2.below hb).cells
  have rf := (HX2.out.2.below hb).frees
  have rf0 := rf 0
  have rf1 := rf 1
  have rf2 := rf 2
  have rf3 := rf 3
  have HB3 := Lib.hid (below_then HB2.out HB2.out.size hb)
  clear b0 b1 b2 hb rf HX2 HB2 HN
  go_wp2
  exact bodyPost_ret (v := .tuple #[.agg #[.int .i64 3, .int .i64 a, .int .u64 t, .int .u64 (incU t)], .bool true]) (by simp [results, Try.results11, go_sem, r0, r1, r2, r3]) rfl ⟨rfl, below_set4 HB3.out (by omega) _ _ _ _⟩
set_option maxRecDepth 100000 in
set_option maxHeartbeats 4000000 in
theorem qneed2 (a t : Int) (ha : 0 ≤ a) (_ha1 : a ≤ 9223372036854775807) (W : World) :
    Calls Try.prog 11 #[.agg #[.int .i64 a, .int .i64 2, .int .u64 t]] W fun e w' => e = .returned (.tuple #[.agg #[.int .i64 1, .int .i64 (incI a), .int .u64 0, .int .u64 0], .bool true]) ∧ Below W.heap.size W w' := by
  have HCK := Lib.hid (show ∀ W', Calls Try.prog 10 #[.agg #[.int .i64 a, .int .i64 2, .int .u64 t]] W' fun e w' => e = .returned (.int .i64 0) ∧ Below W'.heap.size W' w' from fun W' => qcheck_yes ⟨a, 2, t⟩ (rightS_iff.2 ⟨ha, .inr (.inr (.inl rfl))⟩) W')

  have hix : ∀ w, (Instr.index 79 (.agg #[.func (.func 51) #[] #[], .func (.func 52) #[] #[], .func (.func 53) #[] #[], .func (.func 54) #[] #[], .func (.func 55) #[] #[], .func (.func 56) #[] #[], .nilFunc, .nilFunc, .func (.func 57) #[] #[], .func (.func 58) #[] #[], .nilFunc, .nilFunc]) (.int .i64 2)).run Try.prog w = .ok (.agg #[.func (.func 55) #[] #[], .func (.func 56) #[] #[]]) w := fun _ => by kernel_rfl
  have hfd : ∀ w, (Instr.field 78 (.agg #[.func (.func 55) #[] #[], .func (.func 56) #[] #[]]) 0).run Try.prog w = .ok (.func (.func 55) #[] #[]) w := fun _ => by kernel_rfl
  have hnil : ∀ w : World, (binOp BinOp.eql 34 (.func (.func 55) #[] #[]) .nilFunc).run Try.prog w = .ok (.bool false) w := fun _ => by kernel_rfl
  obtain ⟨y, hy⟩ : ∃ y, y = W.heap.size := ⟨_, rfl⟩
  obtain ⟨w0, hw0⟩ : ∃ w : World, w = (W.alloc (.cells #[.int .i64 a, .int .i64 2, .int .u64 t] 24)).alloc (.cells #[.int .i64 0, .int .i64 0, .int .u64 0, .int .u64 0] 31) := ⟨_, rfl⟩
  have hB0 : Below W.heap.size W w0 := by rw [hw0]; exact below2 _ _ _
  have HBX := Lib.hid (mem_zero_new W a 2 t)
  rw [← hw0, ← hy] at HBX
  have HE := Lib.hid (And.intro hw0 hy)
  have HB0 := Lib.hid hB0
  have hyW : W.heap.size ≤ y := Nat.le_of_eq hy.symm
  clear hw0 hy hB0
  obtain ⟨b0, b1, b2⟩ := HBX.out.1.cells
  go_enter Try.func11, Try.ntmps11
  go_upto_region 1 with (fail)
  rw [← HE.out.1, ← HE.out.2]
  go_wp2_with fail
  refine (HCK.out _).mono ?_
  rintro e w1 ⟨rfl, hb1⟩
  have HB1 := Lib.hid (below_then HB0.out HB0.out.size hb1)
  have HX1 := Lib.hid (And.intro (HBX.out.1.below hb1) (HBX.out.2.below hb1))
  clear b0 b1 b2 hb1 HBX HB0 HCK HE
  go_upto_region 3 with (fail)
  refine wpTwo_begin (T := fun w' => w'.cell? ⟨y, 1, none⟩ = some (.int .i64 2)) (S := fun _ => True) (late := fun _ => false) (by kernel_rfl) ?_
  obtain ⟨X0, hX0⟩ : ∃ X : World, X = w1.drew := ⟨_, rfl⟩
  rw [← hX0]
  have hbX : Below w1.heap.size w1 X0 := by rw [hX0]; exact (Below.refl _ _).drew
  have HX0 := Lib.hid (And.intro (HX1.out.1.below hbX) (HX1.out.2.below hbX))
  have HBX0 := Lib.hid (below_then HB1.out HB1.out.size hbX)
  have hT := HX0.out.1.cells.2.1
  clear hX0 hbX HX1 HB1
  refine wpTwo_takeT (i := 1) (v := .pointer (some ⟨y, 1, none⟩)) rfl (by kernel_rfl) (by kernel_rfl) (by kernel_rfl) (fun _ _ _ h => h) ⟨by rfl, ?_⟩ hT ?_
  · intro w hTw
    go_simp
  (try simp only [Act.put, List.getElem_toArray, List.getElem_cons_succ, List.getElem_cons_zero, List.setIfInBounds_toArray, List.set_cons_succ, List.set_cons_zero])
  refine wpTwo_takeT (i := 2) (v := .int .i64 2) rfl (by kernel_rfl) (by kernel_rfl) (by kernel_rfl) (fun _ _ _ h => h) ⟨by rfl, ?_⟩ hT ?_
  · intro w hTw
    go_simp
  (try simp only [Act.put, List.getElem_toArray, List.getElem_cons_succ, List.getElem_cons_zero, List.setIfInBounds_toArray, List.set_cons_succ, List.set_cons_zero])
  refine wpTwo_ready (rs := [0]) (by kernel_rfl) (by simp) ?_
  refine (AllTwo.cons rfl (fun K hK => ?_) AllTwo.nil)
  go_simp
  refine (qphases _).mono ?_
  rintro e X1 ⟨rfl, hb⟩
  have HX2 := Lib.hid (And.intro (HX0.out.1.below hb) (HX0.out.2.below hb))
  have HB2 := Lib.hid (below_then HBX0.out HBX0.out.size hb)
  have hT := below_cell hb hT
  clear hb HX0 HBX0
  go_wp2_with fail
  refine hK.out _ _ ⟨hT, fun _ _ => trivial⟩ ?_
  clear hK K
  (try simp only [Act.put, List.getElem_toArray, List.getElem_cons_succ, List.getElem_cons_zero, List.setIfInBounds_toArray, List.set_cons_succ, List.set_cons_zero])
  refine wpTwo_takeT (i := 3) (v := .agg #[.func (.func 55) #[] #[], .func (.func 56) #[] #[]]) rfl (by kernel_rfl) (by kernel_rfl) (by kernel_rfl) (fun _ _ _ h => h) ⟨by rfl, ?_⟩ hT ?_
  · intro w hTw
    go_simp
  (try simp only [Act.put, List.getElem_toArray, List.getElem_cons_succ, List.getElem_cons_zero, List.setIfInBounds_toArray, List.set_cons_succ, List.set_cons_zero])
  refine wpTwo_takeT (i := 4) (v := .func (.func 55) #[] #[]) rfl (by kernel_rfl) (by kernel_rfl) (by kernel_rfl) (fun _ _ _ h => h) ⟨by rfl, ?_⟩ hT ?_
  · intro w hTw
    go_simp
  (try simp only [Act.put, List.getElem_toArray, List.getElem_cons_succ, List.getElem_cons_zero, List.setIfInBounds_toArray, List.set_cons_succ, List.set_cons_zero])
  refine wpTwo_takeT (i := 5) (v := .func (.func 55) #[] #[]) rfl (by kernel_rfl) (by kernel_rfl) (by kernel_rfl) (fun _ _ _ h => h) ⟨by rfl, ?_⟩ hT ?_
  · intro w hTw
    go_simp
  (try simp only [Act.put, List.getElem_toArray, List.getElem_cons_succ, List.getElem_cons_zero, List.setIfInBounds_toArray, List.set_cons_succ, List.set_cons_zero])
  refine wpTwo_end (by kernel_rfl) ?_ _
  clear hT hix hfd
  obtain ⟨b0, b1, b2⟩ := HX2.out.1.cells
  have HN := Lib.hid (show ∀ W', Calls Try.prog 55 #[.agg #[.int .i64 a, .int .i64 2, .int .u64 t]] W' fun e w' => e = .returned (.agg #[.int .i64 1, .int .i64 (incI a), .int .u64 0, .int .u64 0]) ∧ Below W'.heap.size W' w' from fun W' => qloadOwner a 2 t W')
  go_wp2_with fail
  refine (HN.out _).mono ?_
  rintro e X2 ⟨rfl, hb⟩
  obtain ⟨r0, r1, r2, r3⟩ := (HX2.out.2.below hb).cells
  have rf := (HX2.out.2.below hb).frees
  have rf0 := rf 0
  have rf1 := rf 1
  have rf2 := rf 2
  have rf3 := rf 3
  have HB3 := Lib.hid (below_then HB2.out HB2.out.size hb)
  clear b0 b1 b2 hb rf HX2 HB2 HN
  go_wp2
  exact bodyPost_ret (v := .tuple #[.agg #[.int .i64 1, .int .i64 (incI a), .int .u64 0, .int .u64 0], .bool true]) (by simp [results, Try.results11, go_sem, r0, r1, r2, r3]) rfl ⟨rfl, below_set4 HB3.out (by omega) _ _ _ _⟩
set_option maxRecDepth 100000 in
set_option maxHeartbeats 4000000 in
theorem qneed3 (a t : Int) (ha : 0 ≤ a) (_ha1 : a ≤ 9223372036854775807) (W : World) :
    Calls Try.prog 11 #[.agg #[.int .i64 a, .int .i64 3, .int .u64 t]] W fun e w' => e = .returned (.tuple #[.agg #[.int .i64 0, .int .i64 0, .int .u64 0, .int .u64 0], .bool false]) ∧ Below W.heap.size W w' := by
  have HCK := Lib.hid (show ∀ W', Calls Try.prog 10 #[.agg #[.int .i64 a, .int .i64 3, .int .u64 t]] W' fun e w' => e = .returned (.int .i64 0) ∧ Below W'.heap.size W' w' from fun W' => qcheck_yes ⟨a, 3, t⟩ (rightS_iff.2 ⟨ha, .inr (.inr (.inr (.inl rfl)))⟩) W')

  have hix : ∀ w, (Instr.index 79 (.agg #[.func (.func 51) #[] #[], .func (.func 52) #[] #[], .func (.func 53) #[] #[], .func (.func 54) #[] #[], .func (.func 55) #[] #[], .func (.func 56) #[] #[], .nilFunc, .nilFunc, .func (.func 57) #[] #[], .func (.func 58) #[] #[], .nilFunc, .nilFunc]) (.int .i64 3)).run Try.prog w = .ok (.agg #[.nilFunc, .nilFunc]) w := fun _ => by kernel_rfl
  have hfd : ∀ w, (Instr.field 78 (.agg #[.nilFunc, .nilFunc]) 0).run Try.prog w = .ok (.nilFunc) w := fun _ => by kernel_rfl
  have hnil : ∀ w : World, (binOp BinOp.eql 34 (.nilFunc) .nilFunc).run Try.prog w = .ok (.bool true) w := fun _ => by kernel_rfl
  obtain ⟨y, hy⟩ : ∃ y, y = W.heap.size := ⟨_, rfl⟩
  obtain ⟨w0, hw0⟩ : ∃ w : World, w = (W.alloc (.cells #[.int .i64 a, .int .i64 3, .int .u64 t] 24)).alloc (.cells #[.int .i64 0, .int .i64 0, .int .u64 0, .int .u64 0] 31) := ⟨_, rfl⟩
  have hB0 : Below W.heap.size W w0 := by rw [hw0]; exact below2 _ _ _
  have HBX := Lib.hid (mem_zero_new W a 3 t)
  rw [← hw0, ← hy] at HBX
  have HE := Lib.hid (And.intro hw0 hy)
  have HB0 := Lib.hid hB0
  have hyW : W.heap.size ≤ y := Nat.le_of_eq hy.symm
  clear hw0 hy hB0
  obtain ⟨b0, b1, b2⟩ := HBX.out.1.cells
  go_enter Try.func11, Try.ntmps11
  go_upto_region 1 with (fail)
  rw [← HE.out.1, ← HE.out.2]
  go_wp2_with fail
  refine (HCK.out _).mono ?_
  rintro e w1 ⟨rfl, hb1⟩
  have HB1 := Lib.hid (below_then HB0.out HB0.out.size hb1)
  have HX1 := Lib.hid (And.intro (HBX.out.1.below hb1) (HBX.out.2.below hb1))
  clear b0 b1 b2 hb1 HBX HB0 HCK HE
  go_upto_region 3 with (fail)
  refine wpTwo_begin (T := fun w' => w'.cell? ⟨y, 1, none⟩ = some (.int .i64 3)) (S := fun _ => True) (late := fun _ => false) (by kernel_rfl) ?_
  obtain ⟨X0, hX0⟩ : ∃ X : World, X = w1.drew := ⟨_, rfl⟩
  rw [← hX0]
  have hbX : Below w1.heap.size w1 X0 := by rw [hX0]; exact (Below.refl _ _).drew
  have HX0 := Lib.hid (And.intro (HX1.out.1.below hbX) (HX1.out.2.below hbX))
  have HBX0 := Lib.hid (below_then HB1.out HB1.out.size hbX)
  have hT := HX0.out.1.cells.2.1
  clear hX0 hbX HX1 HB1
  refine wpTwo_takeT (i := 1) (v := .pointer (some ⟨y, 1, none⟩)) rfl (by kernel_rfl) (by kernel_rfl) (by kernel_rfl) (fun _ _ _ h => h) ⟨by rfl, ?_⟩ hT ?_
  · intro w hTw
    go_simp
  (try simp only [Act.put, List.getElem_toArray, List.getElem_cons_succ, List.getElem_cons_zero, List.setIfInBounds_toArray, List.set_cons_succ, List.set_cons_zero])
  refine wpTwo_takeT (i := 2) (v := .int .i64 3) rfl (by kernel_rfl) (by kernel_rfl) (by kernel_rfl) (fun _ _ _ h => h) ⟨by rfl, ?_⟩ hT ?_
  · intro w hTw
    go_simp
  (try simp only [Act.put, List.getElem_toArray, List.getElem_cons_succ, List.getElem_cons_zero, List.setIfInBounds_toArray, List.set_cons_succ, List.set_cons_zero])
  refine wpTwo_ready (rs := [0]) (by kernel_rfl) (by simp) ?_
  refine (AllTwo.cons rfl (fun K hK => ?_) AllTwo.nil)
  go_simp
  refine (qphases _).mono ?_
  rintro e X1 ⟨rfl, hb⟩
  have HX2 := Lib.hid (And.intro (HX0.out.1.below hb) (HX0.out.2.below hb))
  have HB2 := Lib.hid (below_then HBX0.out HBX0.out.size hb)
  have hT := below_cell hb hT
  clear hb HX0 HBX0
  go_wp2_with fail
  refine hK.out _ _ ⟨hT, fun _ _ => trivial⟩ ?_
  clear hK K
  (try simp only [Act.put, List.getElem_toArray, List.getElem_cons_succ, List.getElem_cons_zero, List.setIfInBounds_toArray, List.set_cons_succ, List.set_cons_zero])
  refine wpTwo_takeT (i := 3) (v := .agg #[.nilFunc, .nilFunc]) rfl (by kernel_rfl) (by kernel_rfl) (by kernel_rfl) (fun _ _ _ h => h) ⟨by rfl, ?_⟩ hT ?_
  · intro w hTw
    go_simp
  (try simp only [Act.put, List.getElem_toArray, List.getElem_cons_succ, List.getElem_cons_zero, List.setIfInBounds_toArray, List.set_cons_succ, List.set_cons_zero])
  refine wpTwo_takeT (i := 4) (v := .nilFunc) rfl (by kernel_rfl) (by kernel_rfl) (by kernel_rfl) (fun _ _ _ h => h) ⟨by rfl, ?_⟩ hT ?_
  · intro w hTw
    go_simp
  (try simp only [Act.put, List.getElem_toArray, List.getElem_cons_succ, List.getElem_cons_zero, List.setIfInBounds_toArray, List.set_cons_succ, List.set_cons_zero])
  refine wpTwo_takeT (i := 5) (v := .nilFunc) rfl (by kernel_rfl) (by kernel_rfl) (by kernel_rfl) (fun _ _ _ h => h) ⟨by rfl, ?_⟩ hT ?_
  · intro w hTw
    go_simp
  (try simp only [Act.put, List.getElem_toArray, List.getElem_cons_succ, List.getElem_cons_zero, List.setIfInBounds_toArray, List.set_cons_succ, List.set_cons_zero])
  refine wpTwo_end (by kernel_rfl) ?_ _
  clear hT hix hfd
  obtain ⟨r0, r1, r2, r3⟩ := HX2.out.2.cells
  have rf := HX2.out.2.frees
  have rf0 := rf 0
  have rf1 := rf 1
  have rf2 := rf 2
  have rf3 := rf 3
  clear rf HX2
  go_wp2
  exact bodyPost_ret (v := .tuple #[.agg #[.int .i64 0, .int .i64 0, .int .u64 0, .int .u64 0], .bool false]) (by simp [results, Try.results11, go_sem, r0, r1, r2, r3]) rfl ⟨rfl, below_set4 HB2.out (by omega) _ _ _ _⟩
set_option maxRecDepth 100000 in
set_option maxHeartbeats 4000000 in
theorem qneed4 (a t : Int) (ha : 0 ≤ a) (_ha1 : a ≤ 9223372036854775807) (W : World) :
    Calls Try.prog 11 #[.agg #[.int .i64 a, .int .i64 4, .int .u64 t]] W fun e w' => e = .returned (.tuple #[.agg #[.int .i64 2, .int .i64 (incI a), .int .u64 0, .int .u64 (incU t)], .bool true]) ∧ Below W.heap.size W w' := by
  have HCK := Lib.hid (show ∀ W', Calls Try.prog 10 #[.agg #[.int .i64 a, .int .i64 4, .int .u64 t]] W' fun e w' => e = .returned (.int .i64 0) ∧ Below W'.heap.size W' w' from fun W' => qcheck_yes ⟨a, 4, t⟩ (rightS_iff.2 ⟨ha, .inr (.inr (.inr (.inr (.inl rfl))))⟩) W')

  have hix : ∀ w, (Instr.index 79 (.agg #[.func (.func 51) #[] #[], .func (.func 52) #[] #[], .func (.func 53) #[] #[], .func (.func 54) #[] #[], .func (.func 55) #[] #[], .func (.func 56) #[] #[], .nilFunc, .nilFunc, .func (.func 57) #[] #[], .func (.func 58) #[] #[], .nilFunc, .nilFunc]) (.int .i64 4)).run Try.prog w = .ok (.agg #[.func (.func 57) #[] #[], .func (.func 58) #[] #[]]) w := fun _ => by kernel_rfl
  have hfd : ∀ w, (Instr.field 78 (.agg #[.func (.func 57) #[] #[], .func (.func 58) #[] #[]]) 0).run Try.prog w = .ok (.func (.func 57) #[] #[]) w := fun _ => by kernel_rfl
  have hnil : ∀ w : World, (binOp BinOp.eql 34 (.func (.func 57) #[] #[]) .nilFunc).run Try.prog w = .ok (.bool false) w := fun _ => by kernel_rfl
  obtain ⟨y, hy⟩ : ∃ y, y = W.heap.size := ⟨_, rfl⟩
  obtain ⟨w0, hw0⟩ : ∃ w : World, w = (W.alloc (.cells #[.int .i64 a, .int .i64 4, .int .u64 t] 24)).alloc (.cells #[.int .i64 0, .int .i64 0, .int .u64 0, .int .u64 0] 31) := ⟨_, rfl⟩
  have hB0 : Below W.heap.size W w0 := by rw [hw0]; exact below2 _ _ _
  have HBX := Lib.hid (mem_zero_new W a 4 t)
  rw [← hw0, ← hy] at HBX
  have HE := Lib.hid (And.intro hw0 hy)
  have HB0 := Lib.hid hB0
  have hyW : W.heap.size ≤ y := Nat.le_of_eq hy.symm
  clear hw0 hy hB0
  obtain ⟨b0, b1, b2⟩ := HBX.out.1.cells
  go_enter Try.func11, Try.ntmps11
  go_upto_region 1 with (fail)
  rw [← HE.out.1, ← HE.out.2]
  go_wp2_with fail
  refine (HCK.out _).mono ?_
  rintro e w1 ⟨rfl, hb1⟩
  have HB1 := Lib.hid (below_then HB0.out HB0.out.size hb1)
  have HX1 := Lib.hid (And.intro (HBX.out.1.below hb1) (HBX.out.2.below hb1))
  clear b0 b1 b2 hb1 HBX HB0 HCK HE
  go_upto_region 3 with (fail)
  refine wpTwo_begin (T := fun w' => w'.cell? ⟨y, 1, none⟩ = some (.int .i64 4)) (S := fun _ => True) (late := fun _ => false) (by kernel_rfl) ?_
  obtain ⟨X0, hX0⟩ : ∃ X : World, X = w1.drew := ⟨_, rfl⟩
  rw [← hX0]
  have hbX : Below w1.heap.size w1 X0 := by rw [hX0]; exact (Below.refl _ _).drew
  have HX0 := Lib.hid (And.intro (HX1.out.1.below hbX) (HX1.out.2.below hbX))
  have HBX0 := Lib.hid (below_then HB1.out HB1.out.size hbX)
  have hT := HX0.out.1.cells.2.1
  clear hX0 hbX HX1 HB1
  refine wpTwo_takeT (i := 1) (v := .pointer (some ⟨y, 1, none⟩)) rfl (by kernel_rfl) (by kernel_rfl) (by kernel_rfl) (fun _ _ _ h => h) ⟨by rfl, ?_⟩ hT ?_
  · intro w hTw
    go_simp
  (try simp only [Act.put, List.getElem_toArray, List.getElem_cons_succ, List.getElem_cons_zero, List.setIfInBounds_toArray, List.set_cons_succ, List.set_cons_zero])
  refine wpTwo_takeT (i := 2) (v := .int .i64 4) rfl (by kernel_rfl) (by kernel_rfl) (by kernel_rfl) (fun _ _ _ h => h) ⟨by rfl, ?_⟩ hT ?_
  · intro w hTw
    go_simp
  (try simp only [Act.put, List.getElem_toArray, List.getElem_cons_succ, List.getElem_cons_zero, List.setIfInBounds_toArray, List.set_cons_succ, List.set_cons_zero])
  refine wpTwo_ready (rs := [0]) (by kernel_rfl) (by simp) ?_
  refine (AllTwo.cons rfl (fun K hK => ?_) AllTwo.nil)
  go_simp
  refine (qphases _).mono ?_
  rintro e X1 ⟨rfl, hb⟩
  have HX2 := Lib.hid (And.intro (HX0.out.1.below hb) (HX0.out.2.below hb))
  have HB2 := Lib.hid (below_then HBX0.out HBX0.out.size hb)
  have hT := below_cell hb hT
  clear hb HX0 HBX0
  go_wp2_with fail
  refine hK.out _ _ ⟨hT, fun _ _ => trivial⟩ ?_
  clear hK K
  (try simp only [Act.put, List.getElem_toArray, List.getElem_cons_succ, List.getElem_cons_zero, List.setIfInBounds_toArray, List.set_cons_succ, List.set_cons_zero])
  refine wpTwo_takeT (i := 3) (v := .agg #[.func (.func 57) #[] #[], .func (.func 58) #[] #[]]) rfl (by kernel_rfl) (by kernel_rfl) (by kernel_rfl) (fun _ _ _ h => h) ⟨by rfl, ?_⟩ hT ?_
  · intro w hTw
    go_simp
  (try simp only [Act.put, List.getElem_toArray, List.getElem_cons_succ, List.getElem_cons_zero, List.setIfInBounds_toArray, List.set_cons_succ, List.set_cons_zero])
  refine wpTwo_takeT (i := 4) (v := .func (.func 57) #[] #[]) rfl (by kernel_rfl) (by kernel_rfl) (by kernel_rfl) (fun _ _ _ h => h) ⟨by rfl, ?_⟩ hT ?_
  · intro w hTw
    go_simp
  (try simp only [Act.put, List.getElem_toArray, List.getElem_cons_succ, List.getElem_cons_zero, List.setIfInBounds_toArray, List.set_cons_succ, List.set_cons_zero])
  refine wpTwo_takeT (i := 5) (v := .func (.func 57) #[] #[]) rfl (by kernel_rfl) (by kernel_rfl) (by kernel_rfl) (fun _ _ _ h => h) ⟨by rfl, ?_⟩ hT ?_
  · intro w hTw
    go_simp
  (try simp only [Act.put, List.getElem_toArray, List.getElem_cons_succ, List.getElem_cons_zero, List.setIfInBounds_toArray, List.set_cons_succ, List.set_cons_zero])
  refine wpTwo_end (by kernel_rfl) ?_ _
  clear hT hix hfd
  obtain ⟨b0, b1, b2⟩ := HX2.out.1.cells
  have HN := Lib.hid (show ∀ W', Calls Try.prog 57 #[.agg #[.int .i64 a, .int .i64 4, .int .u64 t]] W' fun e w' => e = .returned (.agg #[.int .i64 2, .int .i64 (incI a), .int .u64 0, .int .u64 (incU t)]) ∧ Below W'.heap.size W' w' from fun W' => qstoreOwner a 4 t W')
  go_wp2_with fail
  refine (HN.out _).mono ?_
  rintro e X2 ⟨rfl, hb⟩
  obtain ⟨r0, r1, r2, r3⟩ := (HX2.out.2.below hb).cells
  have rf := (HX2.out.2.below hb).frees
  have rf0 := rf 0
  have rf1 := rf 1
  have rf2 := rf 2
  have rf3 := rf 3
  have HB3 := Lib.hid (below_then HB2.out HB2.out.size hb)
  clear b0 b1 b2 hb rf HX2 HB2 HN
  go_wp2
  exact bodyPost_ret (v := .tuple #[.agg #[.int .i64 2, .int .i64 (incI a), .int .u64 0, .int .u64 (incU t)], .bool true]) (by simp [results, Try.results11, go_sem, r0, r1, r2, r3]) rfl ⟨rfl, below_set4 HB3.out (by omega) _ _ _ _⟩
set_option maxRecDepth 100000 in
set_option maxHeartbeats 4000000 in
theorem qneed5 (a t : Int) (ha : 0 ≤ a) (_ha1 : a ≤ 9223372036854775807) (W : World) :
    Calls Try.prog 11 #[.agg #[.int .i64 a, .int .i64 5, .int .u64 t]] W fun e w' => e = .returned (.tuple #[.agg #[.int .i64 0, .int .i64 0, .int .u64 0, .int .u64 0], .bool false]) ∧ Below W.heap.size W w' := by
  have HCK := Lib.hid (show ∀ W', Calls Try.prog 10 #[.agg #[.int .i64 a, .int .i64 5, .int .u64 t]] W' fun e w' => e = .returned (.int .i64 0) ∧ Below W'.heap.size W' w' from fun W' => qcheck_yes ⟨a, 5, t⟩ (rightS_iff.2 ⟨ha, .inr (.inr (.inr (.inr (.inr rfl))))⟩) W')

  have hix : ∀ w, (Instr.index 79 (.agg #[.func (.func 51) #[] #[], .func (.func 52) #[] #[], .func (.func 53) #[] #[], .func (.func 54) #[] #[], .func (.func 55) #[] #[], .func (.func 56) #[] #[], .nilFunc, .nilFunc, .func (.func 57) #[] #[], .func (.func 58) #[] #[], .nilFunc, .nilFunc]) (.int .i64 5)).run Try.prog w = .ok (.agg #[.nilFunc, .nilFunc]) w := fun _ => by kernel_rfl
  have hfd : ∀ w, (Instr.field 78 (.agg #[.nilFunc, .nilFunc]) 0).run Try.prog w = .ok (.nilFunc) w := fun _ => by kernel_rfl
  have hnil : ∀ w : World, (binOp BinOp.eql 34 (.nilFunc) .nilFunc).run Try.prog w = .ok (.bool true) w := fun _ => by kernel_rfl
  obtain ⟨y, hy⟩ : ∃ y, y = W.heap.size := ⟨_, rfl⟩
  obtain ⟨w0, hw0⟩ : ∃ w : World, w = (W.alloc (.cells #[.int .i64 a, .int .i64 5, .int .u64 t] 24)).alloc (.cells #[.int .i64 0, .int .i64 0, .int .u64 0, .int .u64 0] 31) := ⟨_, rfl⟩
  have hB0 : Below W.heap.size W w0 := by rw [hw0]; exact below2 _ _ _
  have HBX := Lib.hid (mem_zero_new W a 5 t)
  rw [← hw0, ← hy] at HBX
  have HE := Lib.hid (And.intro hw0 hy)
  have HB0 := Lib.hid hB0
  have hyW : W.heap.size ≤ y := Nat.le_of_eq hy.symm
  clear hw0 hy hB0
  obtain ⟨b0, b1, b2⟩ := HBX.out.1.cells
  go_enter Try.func11, Try.ntmps11
  go_upto_region 1 with (fail)
  rw [← HE.out.1, ← HE.out.2]
  go_wp2_with fail
  refine (HCK.out _).mono ?_
  rintro e w1 ⟨rfl, hb1⟩
  have HB1 := Lib.hid (below_then HB0.out HB0.out.size hb1)
  have HX1 := Lib.hid (And.intro (HBX.out.1.below hb1) (HBX.out.2.below hb1))
  clear b0 b1 b2 hb1 HBX HB0 HCK HE
  go_upto_region 3 with (fail)
  refine wpTwo_begin (T := fun w' => w'.cell? ⟨y, 1, none⟩ = some (.int .i64 5)) (S := fun _ => True) (late := fun _ => false) (by kernel_rfl) ?_
  obtain ⟨X0, hX0⟩ : ∃ X : World, X = w1.drew := ⟨_, rfl⟩
  rw [← hX0]
  have hbX : Below w1.heap.size w1 X0 := by rw [hX0]; exact (Below.refl _ _).drew
  have HX0 := Lib.hid (And.intro (HX1.out.1.below hbX) (HX1.out.2.below hbX))
  have HBX0 := Lib.hid (below_then HB1.out HB1.out.size hbX)
  have hT := HX0.out.1.cells.2.1
  clear hX0 hbX HX1 HB1
  refine wpTwo_takeT (i := 1) (v := .pointer (some ⟨y, 1, none⟩)) rfl (by kernel_rfl) (by kernel_rfl) (by kernel_rfl) (fun _ _ _ h => h) ⟨by rfl, ?_⟩ hT ?_
  · intro w hTw
    go_simp
  (try simp only [Act.put, List.getElem_toArray, List.getElem_cons_succ, List.getElem_cons_zero, List.setIfInBounds_toArray, List.set_cons_succ, List.set_cons_zero])
  refine wpTwo_takeT (i := 2) (v := .int .i64 5) rfl (by kernel_rfl) (by kernel_rfl) (by kernel_rfl) (fun _ _ _ h => h) ⟨by rfl, ?_⟩ hT ?_
  · intro w hTw
    go_simp
  (try simp only [Act.put, List.getElem_toArray, List.getElem_cons_succ, List.getElem_cons_zero, List.setIfInBounds_toArray, List.set_cons_succ, List.set_cons_zero])
  refine wpTwo_ready (rs := [0]) (by kernel_rfl) (by simp) ?_
  refine (AllTwo.cons rfl (fun K hK => ?_) AllTwo.nil)
  go_simp
  refine (qphases _).mono ?_
  rintro e X1 ⟨rfl, hb⟩
  have HX2 := Lib.hid (And.intro (HX0.out.1.below hb) (HX0.out.2.below hb))
  have HB2 := Lib.hid (below_then HBX0.out HBX0.out.size hb)
  have hT := below_cell hb hT
  clear hb HX0 HBX0
  go_wp2_with fail
  refine hK.out _ _ ⟨hT, fun _ _ => trivial⟩ ?_
  clear hK K
  (try simp only [Act.put, List.getElem_toArray, List.getElem_cons_succ, List.getElem_cons_zero, List.setIfInBounds_toArray, List.set_cons_succ, List.set_cons_zero])
  refine wpTwo_takeT (i := 3) (v := .agg #[.nilFunc, .nilFunc]) rfl (by kernel_rfl) (by kernel_rfl) (by kernel_rfl) (fun _ _ _ h => h) ⟨by rfl, ?_⟩ hT ?_
  · intro w hTw
    go_simp
  (try simp only [Act.put, List.getElem_toArray, List.getElem_cons_succ, List.getElem_cons_zero, List.setIfInBounds_toArray, List.set_cons_succ, List.set_cons_zero])
  refine wpTwo_takeT (i := 4) (v := .nilFunc) rfl (by kernel_rfl) (by kernel_rfl) (by kernel_rfl) (fun _ _ _ h => h) ⟨by rfl, ?_⟩ hT ?_
  · intro w hTw
    go_simp
  (try simp only [Act.put, List.getElem_toArray, List.getElem_cons_succ, List.getElem_cons_zero, List.setIfInBounds_toArray, List.set_cons_succ, List.set_cons_zero])
  refine wpTwo_takeT (i := 5) (v := .nilFunc) rfl (by kernel_rfl) (by kernel_rfl) (by kernel_rfl) (fun _ _ _ h => h) ⟨by rfl, ?_⟩ hT ?_
  · intro w hTw
    go_simp
  (try simp only [Act.put, List.getElem_toArray, List.getElem_cons_succ, List.getElem_cons_zero, List.setIfInBounds_toArray, List.set_cons_succ, List.set_cons_zero])
  refine wpTwo_end (by kernel_rfl) ?_ _
  clear hT hix hfd
  obtain ⟨r0, r1, r2, r3⟩ := HX2.out.2.cells
  have rf := HX2.out.2.frees
  have rf0 := rf 0
  have rf1 := rf 1
  have rf2 := rf 2
  have rf3 := rf 3
  clear rf HX2
  go_wp2
  exact bodyPost_ret (v := .tuple #[.agg #[.int .i64 0, .int .i64 0, .int .u64 0, .int .u64 0], .bool false]) (by simp [results, Try.results11, go_sem, r0, r1, r2, r3]) rfl ⟨rfl, below_set4 HB2.out (by omega) _ _ _ _⟩
set_option maxRecDepth 100000 in
set_option maxHeartbeats 4000000 in
theorem qneed_bad (s : SpM) (h : rightS s = false) (W : World) :
    Calls Try.prog 11 #[spV s] W fun e w' => e = .returned (.tuple #[.agg #[.int .i64 0, .int .i64 0, .int .u64 0, .int .u64 0], .bool false]) ∧ Below W.heap.size W w' := by
  obtain ⟨a, p, t⟩ := s
  have HCK := Lib.hid (show ∀ W', Calls Try.prog 10 #[.agg #[.int .i64 a, .int .i64 p, .int .u64 t]] W' fun e w' => e = .returned (.int .i64 150) ∧ Below W'.heap.size W' w' from fun W' => qcheck_no ⟨a, p, t⟩ h W')
  clear h
  unfold spV
  obtain ⟨y, hy⟩ : ∃ y, y = W.heap.size := ⟨_, rfl⟩
  obtain ⟨w0, hw0⟩ : ∃ w : World, w = (W.alloc (.cells #[.int .i64 a, .int .i64 p, .int .u64 t] 24)).alloc (.cells #[.int .i64 0, .int .i64 0, .int .u64 0, .int .u64 0] 31) := ⟨_, rfl⟩
  have hB0 : Below W.heap.size W w0 := by rw [hw0]; exact below2 _ _ _
  have HBX := Lib.hid (mem_zero_new W a p t)
  rw [← hw0, ← hy] at HBX
  have HE := Lib.hid (And.intro hw0 hy)
  have HB0 := Lib.hid hB0
  have hyW : W.heap.size ≤ y := Nat.le_of_eq hy.symm
  clear hw0 hy hB0
  obtain ⟨b0, b1, b2⟩ := HBX.out.1.cells
  go_enter Try.func11, Try.ntmps11
  go_upto_region 1 with (fail)
  rw [← HE.out.1, ← HE.out.2]
  go_wp2_with fail
  refine (HCK.out _).mono ?_
  rintro e w1 ⟨rfl, hb1⟩
  have HB1 := Lib.hid (below_then HB0.out HB0.out.size hb1)
  have HX1 := Lib.hid (HBX.out.2.below hb1)
  obtain ⟨r0, r1, r2, r3⟩ := HX1.out.cells
  have rf := HX1.out.frees
  have rf0 := rf 0
  have rf1 := rf 1
  have rf2 := rf 2
  have rf3 := rf 3
  clear b0 b1 b2 hb1 HBX HB0 HCK HE rf HX1
  go_wp2
  exact bodyPost_ret (v := .tuple #[.agg #[.int .i64 0, .int .i64 0, .int .u64 0, .int .u64 0], .bool false]) (by simp [results, Try.results11, go_sem, r0, r1, r2, r3]) rfl ⟨rfl, below_set4 HB1.out (by omega) _ _ _ _⟩

/-- Need, of whoever may be. -/
theorem qneed_yes (s : SpM) (h : rightS s = true) (hr : SpR s) (hh : hasS s = true) (W : World) : Calls Try.prog 11 #[spV s] W fun e w' => e = .returned (.tuple #[ndV (needS s), .bool true]) ∧ Below W.heap.size W w' := by
  obtain ⟨a, p, t⟩ := s
  obtain ⟨ha, hp⟩ := rightS_iff.1 h
  have ha1 := hr.a1
  simp only at ha hp ha1
  rcases hp with ⟨rfl, ht⟩ | rfl | rfl | rfl | rfl | rfl
  · exact qneed0 a t ha ha1 ht W
  · exact qneed1 a t ha ha1 W
  · exact qneed2 a t ha ha1 W
  · simp [hasS] at hh
  · exact qneed4 a t ha ha1 W
  · simp [hasS] at hh
theorem qneed_no (s : SpM) (hr : SpR s) (hh : rightS s = false ∨ hasS s = false) (W : World) : Calls Try.prog 11 #[spV s] W fun e w' => e = .returned (.tuple #[ndV ⟨0, 0, 0, 0⟩, .bool false]) ∧ Below W.heap.size W w' := by
  cases h : rightS s with
  | false => exact qneed_bad s h W
  | true =>
    have hh := hh.resolve_left (by rw [h]; decide)
    obtain ⟨a, p, t⟩ := s
    obtain ⟨ha, hp⟩ := rightS_iff.1 h
    have ha1 := hr.a1
    simp only at ha hp ha1
    rcases hp with ⟨rfl, ht⟩ | rfl | rfl | rfl | rfl | rfl
    · simp [hasS] at hh
    · simp [hasS] at hh
    · simp [hasS] at hh
    · exact qneed3 a t ha ha1 W
    · simp [hasS] at hh
    · exact qneed5 a t ha ha1 W

end Go.Proofs.Ytcnpmkigiklnnaa
