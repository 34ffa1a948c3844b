/-
  What the phases ask for, and where one is then; Leave and Ask, of package spin.
  Conditions: none but the ranges of Go's types.
-/
import Derived.Test.YtcledklajcdfiaaQCheck
namespace Go.Proofs.Ytcledklajcdfiaa
open Go.RowKit Go.Shelf
attribute [local go_sem] spV ndV

set_option maxRecDepth 100000 in
theorem qask (a : Int) (W : World) : Calls Try.prog 17 #[.int .i64 a] W fun e w' => e = .returned (spV ⟨a, 0, 0⟩) ∧ Below W.heap.size W w' := by
  go_enter Try.func17, Try.ntmps17
  go_wp2
  exact bodyPost_ret (v := .agg #[.int .i64 a, .int .i64 0, .int .u64 0]) (by simp [results, Try.results17, go_sem]) rfl ⟨rfl, by (first | exact below1 _ _ | exact below2 _ _ _ | exact below3 _ _ _ _ | exact below4 _ _ _ _ _ | exact below5 _ _ _ _ _ _ | exact below6 _ _ _ _ _ _ _ | exact (below1 _ _).drew | exact (below2 _ _ _).drew | exact (below3 _ _ _ _).drew)⟩
set_option maxRecDepth 100000 in
theorem qloadNext (a p t : Int) (ha : 0 ≤ a) (ha1 : a ≤ 9223372036854775807) (W : World) : Calls Try.prog 51 #[.agg #[.int .i64 a, .int .i64 p, .int .u64 t]] W fun e w' => e = .returned (ndV ⟨1, a, 0, 0⟩) ∧ Below W.heap.size W w' := by
  go_enter Try.func51, Try.ntmps51
  go_wp2
  exact bodyPost_ret (v := .agg #[.int .i64 1, .int .i64 a, .int .u64 0, .int .u64 0]) (by simp [results, Try.results51, go_sem]) rfl ⟨rfl, by (first | exact below1 _ _ | exact below2 _ _ _ | exact below3 _ _ _ _ | exact below4 _ _ _ _ _ | exact below5 _ _ _ _ _ _ | exact below6 _ _ _ _ _ _ _ | exact (below1 _ _).drew | exact (below2 _ _ _).drew | exact (below3 _ _ _ _).drew)⟩
set_option maxRecDepth 100000 in
theorem qloadOwner (a p t : Int) (W : World) : Calls Try.prog 55 #[.agg #[.int .i64 a, .int .i64 p, .int .u64 t]] W fun e w' => e = .returned (ndV ⟨1, incI a, 0, 0⟩) ∧ Below W.heap.size W w' := by
  go_enter Try.func55, Try.ntmps55
  go_wp2
  exact bodyPost_ret (v := .agg #[.int .i64 1, .int .i64 (wrap64 (a + 1)), .int .u64 0, .int .u64 0]) (by simp [results, Try.results55, go_sem]) rfl ⟨rfl, by (first | exact below1 _ _ | exact below2 _ _ _ | exact below3 _ _ _ _ | exact below4 _ _ _ _ _ | exact below5 _ _ _ _ _ _ | exact below6 _ _ _ _ _ _ _ | exact (below1 _ _).drew | exact (below2 _ _ _).drew | exact (below3 _ _ _ _).drew)⟩
set_option maxRecDepth 100000 in
theorem qswapNext (a p t : Int) (ha : 0 ≤ a) (ha1 : a ≤ 9223372036854775807) (W : World) : Calls Try.prog 53 #[.agg #[.int .i64 a, .int .i64 p, .int .u64 t]] W fun e w' => e = .returned (ndV ⟨3, a, t, incU t⟩) ∧ Below W.heap.size W w' := by
  go_enter Try.func53, Try.ntmps53
  go_wp2
  exact bodyPost_ret (v := .agg #[.int .i64 3, .int .i64 a, .int .u64 t, .int .u64 (IntKind.u64.wrap (t + 1))]) (by simp [results, Try.results53, go_sem]) rfl ⟨rfl, by (first | exact below1 _ _ | exact below2 _ _ _ | exact below3 _ _ _ _ | exact below4 _ _ _ _ _ | exact below5 _ _ _ _ _ _ | exact below6 _ _ _ _ _ _ _ | exact (below1 _ _).drew | exact (below2 _ _ _).drew | exact (below3 _ _ _ _).drew)⟩
set_option maxRecDepth 100000 in
theorem qstoreOwner (a p t : Int) (W : World) : Calls Try.prog 57 #[.agg #[.int .i64 a, .int .i64 p, .int .u64 t]] W fun e w' => e = .returned (ndV ⟨2, incI a, 0, incU t⟩) ∧ Below W.heap.size W w' := by
  go_enter Try.func57, Try.ntmps57
  go_wp2
  exact bodyPost_ret (v := .agg #[.int .i64 2, .int .i64 (wrap64 (a + 1)), .int .u64 0, .int .u64 (IntKind.u64.wrap (t + 1))]) (by simp [results, Try.results57, go_sem]) rfl ⟨rfl, by (first | exact below1 _ _ | exact below2 _ _ _ | exact below3 _ _ _ _ | exact below4 _ _ _ _ _ | exact below5 _ _ _ _ _ _ | exact below6 _ _ _ _ _ _ _ | exact (below1 _ _).drew | exact (below2 _ _ _).drew | exact (below3 _ _ _ _).drew)⟩
set_option maxRecDepth 100000 in
set_option maxHeartbeats 1000000 in
theorem qasked (a p t v : Int) (d : Bool) (W : World) : Calls Try.prog 52 #[.agg #[.int .i64 a, .int .i64 p, .int .u64 t], .agg #[.int .u64 v, .bool d]] W fun e w' => e = .returned (spV ⟨a, 1, v⟩) ∧ Below W.heap.size W w' := by
  go_enter Try.func52, Try.ntmps52
  go_wp2
  go_region
  all_goals
    go_wp2
    exact bodyPost_ret (v := .agg #[.int .i64 a, .int .i64 1, .int .u64 v]) (by simp [results, Try.results52, go_sem]) rfl ⟨rfl, by (first | exact below1 _ _ | exact below2 _ _ _ | exact below3 _ _ _ _ | exact below4 _ _ _ _ _ | exact below5 _ _ _ _ _ _ | exact below6 _ _ _ _ _ _ _ | exact (below1 _ _).drew | exact (below2 _ _ _).drew | exact (below3 _ _ _ _).drew)⟩
set_option maxRecDepth 100000 in
theorem qtried_yes (a p t v : Int) (W : World) : Calls Try.prog 54 #[.agg #[.int .i64 a, .int .i64 p, .int .u64 t], .agg #[.int .u64 v, .bool true]] W fun e w' => e = .returned (spV ⟨a, 2, t⟩) ∧ Below W.heap.size W w' := by
  go_enter Try.func54, Try.ntmps54
  go_wp2
  exact bodyPost_ret (v := .agg #[.int .i64 a, .int .i64 2, .int .u64 t]) (by simp [results, Try.results54, go_sem]) rfl ⟨rfl, by (first | exact below1 _ _ | exact below2 _ _ _ | exact below3 _ _ _ _ | exact below4 _ _ _ _ _ | exact below5 _ _ _ _ _ _ | exact below6 _ _ _ _ _ _ _ | exact (below1 _ _).drew | exact (below2 _ _ _).drew | exact (below3 _ _ _ _).drew)⟩
set_option maxRecDepth 100000 in
theorem qlooked_yes (a p t : Int) (d : Bool) (W : World) : Calls Try.prog 56 #[.agg #[.int .i64 a, .int .i64 p, .int .u64 t], .agg #[.int .u64 t, .bool d]] W fun e w' => e = .returned (spV ⟨a, 3, t⟩) ∧ Below W.heap.size W w' := by
  go_enter Try.func56, Try.ntmps56
  go_wp2
  exact bodyPost_ret (v := .agg #[.int .i64 a, .int .i64 3, .int .u64 t]) (by simp [results, Try.results56, go_sem]) rfl ⟨rfl, by (first | exact below1 _ _ | exact below2 _ _ _ | exact below3 _ _ _ _ | exact below4 _ _ _ _ _ | exact below5 _ _ _ _ _ _ | exact below6 _ _ _ _ _ _ _ | exact (below1 _ _).drew | exact (below2 _ _ _).drew | exact (below3 _ _ _ _).drew)⟩
set_option maxRecDepth 100000 in
theorem qlooked_no (a p t v : Int) (hv : v ≠ t) (d : Bool) (W : World) : Calls Try.prog 56 #[.agg #[.int .i64 a, .int .i64 p, .int .u64 t], .agg #[.int .u64 v, .bool d]] W fun e w' => e = .returned (spV ⟨a, p, t⟩) ∧ Below W.heap.size W w' := by
  have hne : (v == t) = false := by rw [beq_eq_false_iff_ne]; exact hv
  clear hv
  go_enter Try.func56, Try.ntmps56
  go_wp2
  exact bodyPost_ret (v := .agg #[.int .i64 a, .int .i64 p, .int .u64 t]) (by simp [results, Try.results56, go_sem]) rfl ⟨rfl, by (first | exact below1 _ _ | exact below2 _ _ _ | exact below3 _ _ _ _ | exact below4 _ _ _ _ _ | exact below5 _ _ _ _ _ _ | exact below6 _ _ _ _ _ _ _ | exact (below1 _ _).drew | exact (below2 _ _ _).drew | exact (below3 _ _ _ _).drew)⟩
set_option maxRecDepth 100000 in
theorem qleft (a p t v : Int) (d : Bool) (W : World) : Calls Try.prog 58 #[.agg #[.int .i64 a, .int .i64 p, .int .u64 t], .agg #[.int .u64 v, .bool d]] W fun e w' => e = .returned (spV ⟨a, 5, t⟩) ∧ Below W.heap.size W w' := by
  go_enter Try.func58, Try.ntmps58
  go_wp2
  exact bodyPost_ret (v := .agg #[.int .i64 a, .int .i64 5, .int .u64 t]) (by simp [results, Try.results58, go_sem]) rfl ⟨rfl, by (first | exact below1 _ _ | exact below2 _ _ _ | exact below3 _ _ _ _ | exact below4 _ _ _ _ _ | exact below5 _ _ _ _ _ _ | exact below6 _ _ _ _ _ _ _ | exact (below1 _ _).drew | exact (below2 _ _ _).drew | exact (below3 _ _ _ _).drew)⟩
set_option maxRecDepth 100000 in
set_option maxHeartbeats 1000000 in
theorem qtried_no (a p t v : Int) (W : World) : Calls Try.prog 54 #[.agg #[.int .i64 a, .int .i64 p, .int .u64 t], .agg #[.int .u64 v, .bool false]] W fun e w' => e = .returned (spV ⟨a, 0, 0⟩) ∧ Below W.heap.size W w' := by
  go_enter Try.func54, Try.ntmps54
  go_wp2_with fail
  refine (qask a _).mono ?_
  rintro e w1 ⟨rfl, hb1⟩
  have hz : w1.heap[W.heap.size + 1 + 1]? = some (.cells #[.int .i64 0, .int .i64 0, .int .u64 0] 24 (0, 0)) := (hb1.block _ (by simp)).trans (by
    have := World.alloc_heap_new ((W.alloc (.cells #[.int .i64 a, .int .i64 p, .int .u64 t] 24)).alloc (.cells #[.int .u64 v, .bool false] 36)) (.cells #[.int .i64 0, .int .i64 0, .int .u64 0] 24)
    rw [World.size_alloc, World.size_alloc] at this
    exact this)
  have c0 : w1.cell? ⟨W.heap.size + 1 + 1, 0, none⟩ = some (.int .i64 0) := by simp [World.cell?, hz]
  have c1 : w1.cell? ⟨W.heap.size + 1 + 1, 1, none⟩ = some (.int .i64 0) := by simp [World.cell?, hz]
  have c2 : w1.cell? ⟨W.heap.size + 1 + 1, 2, none⟩ = some (.int .u64 0) := by simp [World.cell?, hz]
  have f0 : w1.frozen? ⟨W.heap.size + 1 + 1, 0, none⟩ = false := by simp [World.frozen?, hz]
  have f1 : w1.frozen? ⟨W.heap.size + 1 + 1, 1, none⟩ = false := by simp [World.frozen?, hz]
  have f2 : w1.frozen? ⟨W.heap.size + 1 + 1, 2, none⟩ = false := by simp [World.frozen?, hz]
  have hB := ((((below3 W _ _ _).trans (hb1.mono (by simp; omega))).setCell (p := ⟨W.heap.size + 1 + 1, 0, none⟩) (by simp; omega) (.int .i64 a)).setCell (p := ⟨W.heap.size + 1 + 1, 1, none⟩) (by simp; omega) (.int .i64 0)).setCell (p := ⟨W.heap.size + 1 + 1, 2, none⟩) (by simp; omega) (.int .u64 0)
  clear hb1 hz
  go_wp2
  exact bodyPost_ret (v := .agg #[.int .i64 a, .int .i64 0, .int .u64 0]) (by simp [results, Try.results54, go_sem, c0, c1, c2]) rfl ⟨rfl, hB⟩

end Go.Proofs.Ytcledklajcdfiaa
