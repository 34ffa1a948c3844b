/-
  A range over a function value that has bound arguments ahead of yield (a method value) runs as one whose iterator has none: the law of a loop over such a value, for an outermost loop.
  Conditions: the loop stands in no round of another one; the iterator keeps the contract 'SeqBound' below.
-/
import Derived.Test.YtcnpmkigiklnnaaKS3
import Derived.RangeFuncNested
import Derived.RangeFuncBound
import Derived.RangeFuncCalls
import Derived.RangeFuncLeaves
import Derived.Scope
/-
  What the phases ask for, and where one is then; Leave and Ask, of package spin.
  Conditions: none but the ranges of Go's types.
-/
namespace Go.Proofs.Ytcnpmkigiklnnaa
open Go.RowKit Go.Shelf
attribute [local go_sem] spV ndV

set_option maxRecDepth 100000 in
theorem qask (a : Int) (W : World) : Calls Try.prog 17 #[.int .i64 a] W fun e w' => e = .returned (spV ⟨a, 0, 0⟩) ∧ Below W.heap.size W w' := by
  go_enter Try.func17, Try.ntmps17
  go_wp2
  exact bodyPost_ret (v := .agg #[.int .i64 a, .int .i64 0, .int .u64 0]) (by simp [results, Try.results17, go_sem]) rfl ⟨rfl, by (first | exact below1 _ _ | exact below2 _ _ _ | exact below3 _ _ _ _ | exact below4 _ _ _ _ _ | exact below5 _ _ _ _ _ _ | exact below6 _ _ _ _ _ _ _ | exact (below1 _ _).drew | exact (below2 _ _ _).drew | exact (below3 _ _ _ _).drew)⟩
set_option maxRecDepth 100000 in
theorem qloadNext (a p t : Int) (ha : 0 ≤ a) (ha1 : a ≤ 9223372036854775807) (W : World) : Calls Try.prog 51 #[.agg #[.int .i64 a, .int .i64 p, .int .u64 t]] W fun e w' => e = .returned (ndV ⟨1, a, 0, 0⟩) ∧ Below W.heap.size W w' := by
  go_enter Try.func51, Try.ntmps51
  go_wp2
  exact bodyPost_ret (v := .agg #[.int .i64 1, .int .i64 a, .int .u64 0, .int .u64 0]) (by simp [results, Try.results51, go_sem]) rfl ⟨rfl, by (first | exact below1 _ _ | exact below2 _ _ _ | exact below3 _ _ _ _ | exact below4 _ _ _ _ _ | exact below5 _ _ _ _ _ _ | exact below6 _ _ _ _ _ _ _ | exact (below1 _ _).drew | exact (below2 _ _ _).drew | exact (below3 _ _ _ _).drew)⟩
set_option maxRecDepth 100000 in
theorem qloadOwner (a p t : Int) (W : World) : Calls Try.prog 55 #[.agg #[.int .i64 a, .int .i64 p, .int .u64 t]] W fun e w' => e = .returned (ndV ⟨1, incI a, 0, 0⟩) ∧ Below W.heap.size W w' := by
  go_enter Try.func55, Try.ntmps55
  go_wp2
  exact bodyPost_ret (v := .agg #[.int .i64 1, .int .i64 (wrap64 (a + 1)), .int .u64 0, .int .u64 0]) (by simp [results, Try.results55, go_sem]) rfl ⟨rfl, by (first | exact below1 _ _ | exact below2 _ _ _ | exact below3 _ _ _ _ | exact below4 _ _ _ _ _ | exact below5 _ _ _ _ _ _ | exact below6 _ _ _ _ _ _ _ | exact (below1 _ _).drew | exact (below2 _ _ _).drew | exact (below3 _ _ _ _).drew)⟩
set_option maxRecDepth 100000 in
theorem qswapNext (a p t : Int) (ha : 0 ≤ a) (ha1 : a ≤ 9223372036854775807) (W : World) : Calls Try.prog 53 #[.agg #[.int .i64 a, .int .i64 p, .int .u64 t]] W fun e w' => e = .returned (ndV ⟨3, a, t, incU t⟩) ∧ Below W.heap.size W w' := by
  go_enter Try.func53, Try.ntmps53
  go_wp2
  exact bodyPost_ret (v := .agg #[.int .i64 3, .int .i64 a, .int .u64 t, .int .u64 (IntKind.u64.wrap (t + 1))]) (by simp [results, Try.results53, go_sem]) rfl ⟨rfl, by (first | exact below1 _ _ | exact below2 _ _ _ | exact below3 _ _ _ _ | exact below4 _ _ _ _ _ | exact below5 _ _ _ _ _ _ | exact below6 _ _ _ _ _ _ _ | exact (below1 _ _).drew | exact (below2 _ _ _).drew | exact (below3 _ _ _ _).drew)⟩
set_option maxRecDepth 100000 in
theorem qstoreOwner (a p t : Int) (W : World) : Calls Try.prog 57 #[.agg #[.int .i64 a, .int .i64 p, .int .u64 t]] W fun e w' => e = .returned (ndV ⟨2, incI a, 0, incU t⟩) ∧ Below W.heap.size W w' := by
  go_enter Try.func57, Try.ntmps57
  go_wp2
  exact bodyPost_ret (v := .agg #[.int .i64 2, .int .i64 (wrap64 (a + 1)), .int .u64 0, .int .u64 (IntKind.u64.wrap (t + 1))]) (by simp [results, Try.results57, go_sem]) rfl ⟨rfl, by (first | exact below1 _ _ | exact below2 _ _ _ | exact below3 _ _ _ _ | exact below4 _ _ _ _ _ | exact below5 _ _ _ _ _ _ | exact below6 _ _ _ _ _ _ _ | exact (below1 _ _).drew | exact (below2 _ _ _).drew | exact (below3 _ _ _ _).drew)⟩
set_option maxRecDepth 100000 in
set_option maxHeartbeats 1000000 in
theorem qasked (a p t v : Int) (d : Bool) (W : World) : Calls Try.prog 52 #[.agg #[.int .i64 a, .int .i64 p, .int .u64 t], .agg #[.int .u64 v, .bool d]] W fun e w' => e = .returned (spV ⟨a, 1, v⟩) ∧ Below W.heap.size W w' := by
  go_enter Try.func52, Try.ntmps52
  go_wp2
  go_region
  all_goals
    go_wp2
    exact bodyPost_ret (v := .agg #[.int .i64 a, .int .i64 1, .int .u64 v]) (by simp [results, Try.results52, go_sem]) rfl ⟨rfl, by (first | exact below1 _ _ | exact below2 _ _ _ | exact below3 _ _ _ _ | exact below4 _ _ _ _ _ | exact below5 _ _ _ _ _ _ | exact below6 _ _ _ _ _ _ _ | exact (below1 _ _).drew | exact (below2 _ _ _).drew | exact (below3 _ _ _ _).drew)⟩
set_option maxRecDepth 100000 in
theorem qtried_yes (a p t v : Int) (W : World) : Calls Try.prog 54 #[.agg #[.int .i64 a, .int .i64 p, .int .u64 t], .agg #[.int .u64 v, .bool true]] W fun e w' => e = .returned (spV ⟨a, 2, t⟩) ∧ Below W.heap.size W w' := by
  go_enter Try.func54, Try.ntmps54
  go_wp2
  exact bodyPost_ret (v := .agg #[.int .i64 a, .int .i64 2, .int .u64 t]) (by simp [results, Try.results54, go_sem]) rfl ⟨rfl, by (first | exact below1 _ _ | exact below2 _ _ _ | exact below3 _ _ _ _ | exact below4 _ _ _ _ _ | exact below5 _ _ _ _ _ _ | exact below6 _ _ _ _ _ _ _ | exact (below1 _ _).drew | exact (below2 _ _ _).drew | exact (below3 _ _ _ _).drew)⟩
set_option maxRecDepth 100000 in
theorem qlooked_yes (a p t : Int) (d : Bool) (W : World) : Calls Try.prog 56 #[.agg #[.int .i64 a, .int .i64 p, .int .u64 t], .agg #[.int .u64 t, .bool d]] W fun e w' => e = .returned (spV ⟨a, 3, t⟩) ∧ Below W.heap.size W w' := by
  go_enter Try.func56, Try.ntmps56
  go_wp2
  exact bodyPost_ret (v := .agg #[.int .i64 a, .int .i64 3, .int .u64 t]) (by simp [results, Try.results56, go_sem]) rfl ⟨rfl, by (first | exact below1 _ _ | exact below2 _ _ _ | exact below3 _ _ _ _ | exact below4 _ _ _ _ _ | exact below5 _ _ _ _ _ _ | exact below6 _ _ _ _ _ _ _ | exact (below1 _ _).drew | exact (below2 _ _ _).drew | exact (below3 _ _ _ _).drew)⟩
set_option maxRecDepth 100000 in
theorem qlooked_no (a p t v : Int) (hv : v ≠ t) (d : Bool) (W : World) : Calls Try.prog 56 #[.agg #[.int .i64 a, .int .i64 p, .int .u64 t], .agg #[.int .u64 v, .bool d]] W fun e w' => e = .returned (spV ⟨a, p, t⟩) ∧ Below W.heap.size W w' := by
  have hne : (v == t) = false := by rw [beq_eq_false_iff_ne]; exact hv
  clear hv
  go_enter Try.func56, Try.ntmps56
  go_wp2
  exact bodyPost_ret (v := .agg #[.int .i64 a, .int .i64 p, .int .u64 t]) (by simp [results, Try.results56, go_sem]) rfl ⟨rfl, by (first | exact below1 _ _ | exact below2 _ _ _ | exact below3 _ _ _ _ | exact below4 _ _ _ _ _ | exact below5 _ _ _ _ _ _ | exact below6 _ _ _ _ _ _ _ | exact (below1 _ _).drew | exact (below2 _ _ _).drew | exact (below3 _ _ _ _).drew)⟩
set_option maxRecDepth 100000 in
theorem qleft (a p t v : Int) (d : Bool) (W : World) : Calls Try.prog 58 #[.agg #[.int .i64 a, .int .i64 p, .int .u64 t], .agg #[.int .u64 v, .bool d]] W fun e w' => e = .returned (spV ⟨a, 5, t⟩) ∧ Below W.heap.size W w' := by
  go_enter Try.func58, Try.ntmps58
  go_wp2
  exact bodyPost_ret (v := .agg #[.int .i64 a, .int .i64 5, .int .u64 t]) (by simp [results, Try.results58, go_sem]) rfl ⟨rfl, by (first | exact below1 _ _ | exact below2 _ _ _ | exact below3 _ _ _ _ | exact below4 _ _ _ _ _ | exact below5 _ _ _ _ _ _ | exact below6 _ _ _ _ _ _ _ | exact (below1 _ _).drew | exact (below2 _ _ _).drew | exact (below3 _ _ _ _).drew)⟩
set_option maxRecDepth 100000 in
set_option maxHeartbeats 1000000 in
theorem qtried_no (a p t v : Int) (W : World) : Calls Try.prog 54 #[.agg #[.int .i64 a, .int .i64 p, .int .u64 t], .agg #[.int .u64 v, .bool false]] W fun e w' => e = .returned (spV ⟨a, 0, 0⟩) ∧ Below W.heap.size W w' := by
  go_enter Try.func54, Try.ntmps54
  go_wp2_with fail
  refine (qask a _).mono ?_
  rintro e w1 ⟨rfl, hb1⟩
  have hz : w1.heap[W.heap.size + 1 + 1]? = some (.cells #[.int .i64 0, .int .i64 0, .int .u64 0] 24 (0, 0)) := (hb1.block _ (by simp)).trans (by
    have := World.alloc_heap_new ((W.alloc (.cells #[.int .i64 a, .int .i64 p, .int .u64 t] 24)).alloc (.cells #[.int .u64 v, .bool false] 36)) (.cells #[.int .i64 0, .int .i64 0, .int .u64 0] 24)
    rw [World.size_alloc, World.size_alloc] at this
    exact this)
  have c0 : w1.cell? ⟨W.heap.size + 1 + 1, 0, none⟩ = some (.int .i64 0) := by simp [World.cell?, hz]
  have c1 : w1.cell? ⟨W.heap.size + 1 + 1, 1, none⟩ = some (.int .i64 0) := by simp [World.cell?, hz]
  have c2 : w1.cell? ⟨W.heap.size + 1 + 1, 2, none⟩ = some (.int .u64 0) := by simp [World.cell?, hz]
  have f0 : w1.frozen? ⟨W.heap.size + 1 + 1, 0, none⟩ = false := by simp [World.frozen?, hz]
  have f1 : w1.frozen? ⟨W.heap.size + 1 + 1, 1, none⟩ = false := by simp [World.frozen?, hz]
  have f2 : w1.frozen? ⟨W.heap.size + 1 + 1, 2, none⟩ = false := by simp [World.frozen?, hz]
  have hB := ((((below3 W _ _ _).trans (hb1.mono (by simp; omega))).setCell (p := ⟨W.heap.size + 1 + 1, 0, none⟩) (by simp; omega) (.int .i64 a)).setCell (p := ⟨W.heap.size + 1 + 1, 1, none⟩) (by simp; omega) (.int .i64 0)).setCell (p := ⟨W.heap.size + 1 + 1, 2, none⟩) (by simp; omega) (.int .u64 0)
  clear hb1 hz
  go_wp2
  exact bodyPost_ret (v := .agg #[.int .i64 a, .int .i64 0, .int .u64 0]) (by simp [results, Try.results54, go_sem, c0, c1, c2]) rfl ⟨rfl, hB⟩

end Go.Proofs.Ytcnpmkigiklnnaa
/-
  memory.Step: what one access comes to; what was in memory stays.
  Conditions: the memory reads as these lists.
-/
namespace Go.Proofs.Ytcnpmkigiklnnaa
open Go.RowKit Go.Shelf

/-- What Step hands over. -/
def StepOk (B : Nat) (ls : List Bool) (r : List Int × Bool × (Int × Bool)) (e : Ending) (w' : World) : Prop :=
  ∃ gw cw gl cl, e = .returned (.tuple #[.agg #[.slice (some ⟨gw, 0, none⟩) r.1.length cw, .slice (some ⟨gl, 0, none⟩) ls.length cl, .bool r.2.1], .agg #[.int .u64 r.2.2.1, .bool r.2.2.2], .int .i64 0]) ∧
  w'.ownsRow B 22 1 (.slice (some ⟨gw, 0, none⟩) r.1.length cw) r.1.length (r.1.map (Value.int .u64)) ∧ w'.ownsRow B 4 1 (.slice (some ⟨gl, 0, none⟩) ls.length cl) ls.length (ls.map Value.bool)

theorem accs_one (W : World) (b : Nat) (k a o n : Int) (h0 : W.cell? ⟨b, 0, none⟩ = some (.int .i64 k)) (h1 : W.cell? ⟨b, 1, none⟩ = some (.int .i64 a)) (h2 : W.cell? ⟨b, 2, none⟩ = some (.int .u64 o)) (h3 : W.cell? ⟨b, 3, none⟩ = some (.int .u64 n)) :
    AccsAt W (.slice (some ⟨b, 0, none⟩) 1 1) [⟨k, a, o, n⟩] := by
  refine ⟨_, _, rfl, fun _ => ⟨b, 0, rfl, fun i hi => ?_⟩⟩
  have : i = 0 := by simp at hi; omega
  subst this
  exact ⟨h0, h1, h2, h3⟩

/-- Block z is a variable that holds an answer. -/
def GBox (W : World) (z : Nat) (x : Int) (d : Bool) : Prop := W.heap[z]? = some (.cells #[.int .u64 x, .bool d] 36 (0, 0))
theorem gbox_cells {W : World} {z : Nat} {x : Int} {d : Bool} (h : GBox W z x d) : (W.cell? ⟨z, 0, none⟩ = some (.int .u64 x) ∧ W.cell? ⟨z, 1, none⟩ = some (.bool d)) ∧ W.frozen? ⟨z, 0, none⟩ = false ∧ W.frozen? ⟨z, 1, none⟩ = false := by
  have h' : W.heap[z]? = _ := h
  simp [World.cell?, World.frozen?, h']
theorem GBox.lt {W : World} {z : Nat} {x : Int} {d : Bool} (h : GBox W z x d) : z < W.heap.size := (Array.getElem?_eq_some_iff.1 h).1
theorem GBox.below {W W' : World} {z : Nat} {x : Int} {d : Bool} (h : GBox W z x d) (hk : Below W.heap.size W W') : GBox W' z x d := (hk.block z h.lt).trans h
theorem GBox.keeps {S : Nat → Prop} {W W' : World} {z : Nat} {x : Int} {d : Bool} (h : GBox W z x d) (hk : Keeps S W W') (hz : ¬ S z) : GBox W' z x d := (hk.block z h.lt hz).trans h
theorem GBox.alloc {W : World} {z : Nat} {x : Int} {d : Bool} (h : GBox W z x d) (o : Obj) : GBox (W.alloc o) z x d := h.keeps (Keeps.alloc (fun _ => False) W o) (fun h => h)

set_option maxRecDepth 100000 in
set_option maxHeartbeats 4000000 in
theorem step_no (v : Value) (k a o n : Int) (ws : List Int) (ls : List Bool) (f : Bool) (W : World) (hv : MemAt W v ws ls f) (hw : ws.length ≤ 9223372036854775807) (c : Int) (hc : (rightB ws ls = false ∧ c = 120) ∨ (rightB ws ls = true ∧ kindB k = false ∧ c = 121)) :
    Calls Try.prog 65 #[v, .agg #[.int .i64 k, .int .i64 a, .int .u64 o, .int .u64 n]] W fun e w' => e = .returned (.tuple #[memZ, .agg #[.int .u64 0, .bool false], .int .i64 c]) ∧ Below W.heap.size W w' := by
  have hm := hv
  obtain ⟨vw, vl, rfl, ⟨pw, cw, rfl, hcw⟩, pl, cl, rfl, hcl⟩ := hv
  have HRUN : ∀ (W' : World) (b : Nat), Below W.heap.size W W' → AccsAt W' (.slice (some ⟨b, 0, none⟩) 1 1) [⟨k, a, o, n⟩] → Calls Try.prog 38 #[.agg #[.slice pw ws.length cw, .slice pl ls.length cl, .bool f], .slice (some ⟨b, 0, none⟩) 1 1] W' fun e w' => e = .returned (.tuple #[.agg #[.slice none 0 0, .slice none 0 0, .bool false], .slice none 0 0, .int .i64 c]) ∧ Below W'.heap.size W' w' := by
    intro W' b hb ha
    rcases hc with ⟨hr, rfl⟩ | ⟨hr, hk, rfl⟩
    · exact run_bad _ _ ws ls f W' (hm.below hb) hw hr ⟨_, _, _, rfl⟩
    · exact run_kind _ _ ws ls f [⟨k, a, o, n⟩] W' (hm.below hb) hw hr ha (by simp) (by simp [kindAll, hk])
  have hcne : (c != 0) = true := by rcases hc with ⟨_, rfl⟩ | ⟨_, _, rfl⟩ <;> decide
  clear hm hcw hcl hc
  obtain ⟨z, hz⟩ : ∃ z, z = W.heap.size := ⟨_, rfl⟩
  obtain ⟨wo, hwo⟩ : ∃ wo : World, wo = ((((W.alloc (.cells #[.slice pw ws.length cw, .slice pl ls.length cl, .bool f] 46)).alloc (.cells #[.int .i64 k, .int .i64 a, .int .u64 o, .int .u64 n] 31)).alloc (.cells #[.slice none 0 0, .slice none 0 0, .bool false] 46)).alloc (.cells #[.int .u64 0, .bool false] 36)).alloc (.cells #[.int .i64 k, .int .i64 a, .int .u64 o, .int .u64 n] 31) := ⟨_, rfl⟩
  have hB : Below W.heap.size W wo := by rw [hwo]; exact (((((Below.refl _ _).alloc (Nat.le_refl _) _).alloc (by simp) _).alloc (by simp; omega) _).alloc (by simp; omega) _).alloc (by simp; omega) _
  have HZ := Lib.hid (show MBox wo z (.slice pw ws.length cw) (.slice pl ls.length cl) f by rw [hwo, hz]; exact ((((MBox.new _ _ _ _).alloc _).alloc _).alloc _).alloc _)
  have HR := Lib.hid (show MBox wo (z + 1 + 1) (.slice none 0 0) (.slice none 0 0) false by
    have := MBox.new ((W.alloc (.cells #[.slice pw ws.length cw, .slice pl ls.length cl, .bool f] 46)).alloc (.cells #[.int .i64 k, .int .i64 a, .int .u64 o, .int .u64 n] 31)) (.slice none 0 0) (.slice none 0 0) false
    rw [World.size_alloc, World.size_alloc] at this
    rw [hwo, hz]; exact (this.alloc _).alloc _)
  have HG := Lib.hid (show GBox wo (z + 1 + 1 + 1) 0 false by
    have : GBox ((((W.alloc (.cells #[.slice pw ws.length cw, .slice pl ls.length cl, .bool f] 46)).alloc (.cells #[.int .i64 k, .int .i64 a, .int .u64 o, .int .u64 n] 31)).alloc (.cells #[.slice none 0 0, .slice none 0 0, .bool false] 46)).alloc (.cells #[.int .u64 0, .bool false] 36)) _ 0 false := World.alloc_heap_new _ _
    rw [World.size_alloc, World.size_alloc, World.size_alloc] at this
    rw [hwo, hz]; exact this.alloc _)
  have hA : AccsAt wo (.slice (some ⟨z + 1 + 1 + 1 + 1, 0, none⟩) 1 1) [⟨k, a, o, n⟩] := by
    have h : wo.heap[z + 1 + 1 + 1 + 1]? = some (.cells #[.int .i64 k, .int .i64 a, .int .u64 o, .int .u64 n] 31 (0, 0)) := by
      have := World.alloc_heap_new ((((W.alloc (.cells #[.slice pw ws.length cw, .slice pl ls.length cl, .bool f] 46)).alloc (.cells #[.int .i64 k, .int .i64 a, .int .u64 o, .int .u64 n] 31)).alloc (.cells #[.slice none 0 0, .slice none 0 0, .bool false] 46)).alloc (.cells #[.int .u64 0, .bool false] 36)) (.cells #[.int .i64 k, .int .i64 a, .int .u64 o, .int .u64 n] 31)
      rw [World.size_alloc, World.size_alloc, World.size_alloc, World.size_alloc] at this
      rw [hwo, hz]; exact this
    refine accs_one wo _ k a o n ?_ ?_ ?_ ?_ <;> simp [World.cell?, h]
  have hsz : z + 1 + 1 + 1 + 1 < wo.heap.size := by rw [hwo, hz]; simp
  go_enter Try.func65, Try.ntmps65
  go_wp2_with fail
  rw [← hwo, ← hz]
  have hzW : W.heap.size ≤ z := Nat.le_of_eq hz.symm
  clear hwo hz
  refine (HRUN _ _ hB hA).mono ?_
  rintro e w1 ⟨rfl, hb1⟩
  obtain ⟨⟨hd0, hd1, hd2⟩, he0, he1, he2⟩ := mbox_cells (HZ.out.below hb1)
  obtain ⟨⟨hr0, hr1, hr2⟩, hs0, hs1, hs2⟩ := mbox_cells (HR.out.below hb1)
  obtain ⟨⟨hg0, hg1⟩, hf0, hf1⟩ := gbox_cells (HG.out.below hb1)
  have hB1 := below_then hB hB.size hb1
  have hBZ := ((hB1.setCell (p := ⟨z, 0, none⟩) hzW (.slice none 0 0)).setCell (p := ⟨z, 1, none⟩) hzW (.slice none 0 0)).setCell (p := ⟨z, 2, none⟩) hzW (.bool false)
  have hBR := ((hBZ.setCell (p := ⟨z + 1 + 1, 0, none⟩) (by simp; omega) (.slice none 0 0)).setCell (p := ⟨z + 1 + 1, 1, none⟩) (by simp; omega) (.slice none 0 0)).setCell (p := ⟨z + 1 + 1, 2, none⟩) (by simp; omega) (.bool false)
  have hBG := (hBR.setCell (p := ⟨z + 1 + 1 + 1, 0, none⟩) (by simp; omega) (.int .u64 0)).setCell (p := ⟨z + 1 + 1 + 1, 1, none⟩) (by simp; omega) (.bool false)
  clear hb1 hB1 hBZ hBR hB hA HRUN
  go_wp2
  exact bodyPost_ret (v := .tuple #[memZ, .agg #[.int .u64 0, .bool false], .int .i64 c]) (by simp [results, Try.results65, go_sem, hr0, hr1, hr2, hg0, hg1, memZ]) rfl ⟨rfl, hBG⟩

set_option maxRecDepth 100000 in
set_option maxHeartbeats 4000000 in
theorem step_yes (v : Value) (k a o n : Int) (ws : List Int) (ls : List Bool) (f : Bool) (W : World) (hv : MemAt W v ws ls f) (hr : rightB ws ls = true) (hkd : kindB k = true) :
    Calls Try.prog 65 #[v, .agg #[.int .i64 k, .int .i64 a, .int .u64 o, .int .u64 n]] W fun e w' => StepOk W.heap.size ls (accM ws ls f k a o n) e w' ∧ Below W.heap.size W w' := by
  have hm := hv
  obtain ⟨hn1, _, hlen, _⟩ := rightB_iff.1 hr
  obtain ⟨vw, vl, rfl, ⟨pw, cw, rfl, hcw⟩, pl, cl, rfl, hcl⟩ := hv
  obtain ⟨r, hrr⟩ : ∃ r, r = accM ws ls f k a o n := ⟨_, rfl⟩
  have hrl : r.1.length = ws.length := by rw [hrr, accM_length]
  have hrs : runS ls ws f [⟨k, a, o, n⟩] = (r.1, r.2.1, [r.2.2]) := by rw [hrr]; rfl
  have HRUN : ∀ (W' : World) (b : Nat), Below W.heap.size W W' → AccsAt W' (.slice (some ⟨b, 0, none⟩) 1 1) [⟨k, a, o, n⟩] → Calls Try.prog 38 #[.agg #[.slice pw ws.length cw, .slice pl ls.length cl, .bool f], .slice (some ⟨b, 0, none⟩) 1 1] W' fun e w' => RunOk W'.heap.size ls (r.1, r.2.1, [r.2.2]) e w' ∧ Below W'.heap.size W' w' := by
    intro W' b hb ha
    rw [← hrs]
    exact run_yes _ _ ws ls f [⟨k, a, o, n⟩] W' (hm.below hb) hr ha (by simp) (by simp [kindAll, hkd])
  rw [← hrr]
  have HRL := Lib.hid hrl
  have HLEN := Lib.hid hlen
  clear hm hcw hcl hrr hrs hrl hlen
  obtain ⟨z, hz⟩ : ∃ z, z = W.heap.size := ⟨_, rfl⟩
  obtain ⟨wo, hwo⟩ : ∃ wo : World, wo = ((((W.alloc (.cells #[.slice pw ws.length cw, .slice pl ls.length cl, .bool f] 46)).alloc (.cells #[.int .i64 k, .int .i64 a, .int .u64 o, .int .u64 n] 31)).alloc (.cells #[.slice none 0 0, .slice none 0 0, .bool false] 46)).alloc (.cells #[.int .u64 0, .bool false] 36)).alloc (.cells #[.int .i64 k, .int .i64 a, .int .u64 o, .int .u64 n] 31) := ⟨_, rfl⟩
  have hB : Below W.heap.size W wo := by rw [hwo]; exact (((((Below.refl _ _).alloc (Nat.le_refl _) _).alloc (by simp) _).alloc (by simp; omega) _).alloc (by simp; omega) _).alloc (by simp; omega) _
  have HZ := Lib.hid (show MBox wo z (.slice pw ws.length cw) (.slice pl ls.length cl) f by rw [hwo, hz]; exact ((((MBox.new _ _ _ _).alloc _).alloc _).alloc _).alloc _)
  have HR := Lib.hid (show MBox wo (z + 1 + 1) (.slice none 0 0) (.slice none 0 0) false by
    have := MBox.new ((W.alloc (.cells #[.slice pw ws.length cw, .slice pl ls.length cl, .bool f] 46)).alloc (.cells #[.int .i64 k, .int .i64 a, .int .u64 o, .int .u64 n] 31)) (.slice none 0 0) (.slice none 0 0) false
    rw [World.size_alloc, World.size_alloc] at this
    rw [hwo, hz]; exact (this.alloc _).alloc _)
  have HG := Lib.hid (show GBox wo (z + 1 + 1 + 1) 0 false by
    have : GBox ((((W.alloc (.cells #[.slice pw ws.length cw, .slice pl ls.length cl, .bool f] 46)).alloc (.cells #[.int .i64 k, .int .i64 a, .int .u64 o, .int .u64 n] 31)).alloc (.cells #[.slice none 0 0, .slice none 0 0, .bool false] 46)).alloc (.cells #[.int .u64 0, .bool false] 36)) _ 0 false := World.alloc_heap_new _ _
    rw [World.size_alloc, World.size_alloc, World.size_alloc] at this
    rw [hwo, hz]; exact this.alloc _)
  have hA : AccsAt wo (.slice (some ⟨z + 1 + 1 + 1 + 1, 0, none⟩) 1 1) [⟨k, a, o, n⟩] := by
    have h : wo.heap[z + 1 + 1 + 1 + 1]? = some (.cells #[.int .i64 k, .int .i64 a, .int .u64 o, .int .u64 n] 31 (0, 0)) := by
      have := World.alloc_heap_new ((((W.alloc (.cells #[.slice pw ws.length cw, .slice pl ls.length cl, .bool f] 46)).alloc (.cells #[.int .i64 k, .int .i64 a, .int .u64 o, .int .u64 n] 31)).alloc (.cells #[.slice none 0 0, .slice none 0 0, .bool false] 46)).alloc (.cells #[.int .u64 0, .bool false] 36)) (.cells #[.int .i64 k, .int .i64 a, .int .u64 o, .int .u64 n] 31)
      rw [World.size_alloc, World.size_alloc, World.size_alloc, World.size_alloc] at this
      rw [hwo, hz]; exact this
    refine accs_one wo _ k a o n ?_ ?_ ?_ ?_ <;> simp [World.cell?, h]
  have hsz : z + 1 + 1 + 1 + 1 < wo.heap.size := by rw [hwo, hz]; simp
  go_enter Try.func65, Try.ntmps65
  go_wp2_with fail
  rw [← hwo, ← hz]
  have hzW : W.heap.size ≤ z := Nat.le_of_eq hz.symm
  clear hwo hz
  refine (HRUN _ _ hB hA).mono ?_
  rintro e w1 ⟨⟨gw, cw2, gl, cl2, vg, rfl, how, hol, hog⟩, hb1⟩
  obtain ⟨y, d, hyd⟩ : ∃ y d, r.2.2 = (y, d) := ⟨_, _, rfl⟩
  obtain ⟨gg, cg, rfl, hgg, _⟩ := own_form hog (by simp)
  simp only [hyd] at hog how ⊢
  have HYD := Lib.hid hyd
  have hgn : wo.heap.size ≤ gg := hgg
  have hwn : wo.heap.size ≤ gw := by
    rcases how.2 with ⟨h', _⟩ | ⟨g, c, cur, h', hb, _⟩
    · cases h'
    · injection h' with e1 _ _; injection e1 with e1; injection e1 with e1 _ _; omega
  have hln : wo.heap.size ≤ gl := by
    rcases hol.2 with ⟨h', _⟩ | ⟨g, c, cur, h', hb, _⟩
    · cases h'
    · injection h' with e1 _ _; injection e1 with e1; injection e1 with e1 _ _; omega
  have hy0 := hog.cellAt 0 (by simp)
  have hy1 := hog.cellAt 1 (by simp)
  simp only [flatG, List.getElem?_cons_zero, List.getElem?_cons_succ] at hy0 hy1
  obtain ⟨⟨hd0, hd1, hd2⟩, he0, he1, he2⟩ := mbox_cells (HZ.out.below hb1)
  obtain ⟨⟨hr0, hr1, hr2⟩, hs0, hs1, hs2⟩ := mbox_cells (HR.out.below hb1)
  obtain ⟨⟨hg0, hg1⟩, hf0, hf1⟩ := gbox_cells (HG.out.below hb1)
  have hB1 := below_then hB hB.size hb1
  have hsz1 : z + 1 + 1 + 1 + 1 < w1.heap.size := by have := hsz; have := hb1.size; omega
  have HOW := Lib.hid how
  have HOL := Lib.hid hol
  have HZ1 := Lib.hid (HZ.out.below hb1)
  have HR1 := Lib.hid (HR.out.below hb1)
  have HG1 := Lib.hid (HG.out.below hb1)
  clear hb1 hB hA HRUN how hol hog hyd HZ HR HG hr0 hr1 hr2 hs0 hs1 hs2 hg0 hg1 hf0 hf1
  go_upto_region 4 with fail
  obtain ⟨w2, hw2⟩ : ∃ w2 : World, w2 = ((w1.setCell ⟨z, 0, none⟩ (.slice (some ⟨gw, 0, none⟩) r.1.length cw2)).setCell ⟨z, 1, none⟩ (.slice (some ⟨gl, 0, none⟩) ls.length cl2)).setCell ⟨z, 2, none⟩ (.bool r.2.1) := ⟨_, rfl⟩
  rw [← hw2]
  have hkz : Keeps (· = z) w1 w2 := by
    rw [hw2]
    exact ((Keeps.setCell w1 (S := (· = z)) (p := ⟨z, 0, none⟩) rfl _).trans (Keeps.setCell _ (S := (· = z)) (p := ⟨z, 1, none⟩) rfl _)).trans (Keeps.setCell _ (S := (· = z)) (p := ⟨z, 2, none⟩) rfl _)
  obtain ⟨⟨hm0, hm1, hm2⟩, _⟩ := mbox_cells (show MBox w2 z (.slice (some ⟨gw, 0, none⟩) r.1.length cw2) (.slice (some ⟨gl, 0, none⟩) ls.length cl2) r.2.1 by rw [hw2]; exact HZ1.out.set _ _ _)
  obtain ⟨⟨hr0, hr1, hr2⟩, hs0, hs1, hs2⟩ := mbox_cells (HR1.out.keeps hkz (by omega))
  obtain ⟨⟨hg0, hg1⟩, hf0, hf1⟩ := gbox_cells (HG1.out.keeps hkz (by omega))
  have hzg : gg ≠ z := by omega
  replace hy0 := hkz.cell hy0 hzg
  replace hy1 := hkz.cell hy1 hzg
  have HOW2 := Lib.hid (hkz.row HOW.out (by intro g hg; simp [Value.ownBlock] at hg; omega))
  have HOL2 := Lib.hid (hkz.row HOL.out (by intro g hg; simp [Value.ownBlock] at hg; omega))
  have hB2 : Below W.heap.size W w2 := hB1.trans (hkz.below hB1.size (fun q hq => by omega))
  have hkr : ∀ x, x = w2 ∨ x = w2.drew → Keeps (fun q => q = z + 1 + 1 ∨ q = z + 1 + 1 + 1) w2 (((((x.setCell ⟨z + 1 + 1, 0, none⟩ (.slice (some ⟨gw, 0, none⟩) r.1.length cw2)).setCell ⟨z + 1 + 1, 1, none⟩ (.slice (some ⟨gl, 0, none⟩) ls.length cl2)).setCell ⟨z + 1 + 1, 2, none⟩ (.bool r.2.1)).setCell ⟨z + 1 + 1 + 1, 0, none⟩ (.int .u64 y)).setCell ⟨z + 1 + 1 + 1, 1, none⟩ (.bool d)) := by
    intro x hx
    have hx0 : Keeps (fun q => q = z + 1 + 1 ∨ q = z + 1 + 1 + 1) w2 x := by rcases hx with rfl | rfl <;> exact ⟨rfl, rfl, rfl, Nat.le_refl _, fun _ _ _ => rfl⟩
    exact ((((hx0.trans (Keeps.setCell _ (p := ⟨z + 1 + 1, 0, none⟩) (.inl rfl) _)).trans (Keeps.setCell _ (p := ⟨z + 1 + 1, 1, none⟩) (.inl rfl) _)).trans (Keeps.setCell _ (p := ⟨z + 1 + 1, 2, none⟩) (.inl rfl) _)).trans (Keeps.setCell _ (p := ⟨z + 1 + 1 + 1, 0, none⟩) (.inr rfl) _)).trans (Keeps.setCell _ (p := ⟨z + 1 + 1 + 1, 1, none⟩) (.inr rfl) _)
  have HKR := Lib.hid hkr
  clear hw2 hkz HZ1 HR1 HG1 HOW HOL hB1 hd0 hd1 hd2 he0 he1 he2 hkr
  go_region
  all_goals go_wp2
  have hk := HKR.out w2 (.inl rfl)
  have ho1 := hk.row HOW2.out (by intro g hg; simp [Value.ownBlock] at hg; omega)
  have ho2 := hk.row HOL2.out (by intro g hg; simp [Value.ownBlock] at hg; omega)
  have hBe := hB2.trans (hk.below hB2.size (fun q hq => by omega))
  refine bodyPost_ret (v := .tuple #[.agg #[.slice (some ⟨gw, 0, none⟩) r.1.length cw2, .slice (some ⟨gl, 0, none⟩) ls.length cl2, .bool r.2.1], .agg #[.int .u64 y, .bool d], .int .i64 0]) (by simp [results, Try.results65, go_sem, hr0, hr1, hr2, hg0, hg1]) rfl ⟨⟨gw, cw2, gl, cl2, by rw [HYD.out], (ho1.mono (by omega)).drew, (ho2.mono (by omega)).drew⟩, hBe.drew⟩

end Go.Proofs.Ytcnpmkigiklnnaa
/-
  memory.turn: the memory in memory of its own, some words live, or free, and holding one number; what was in memory stays.
  Conditions: the words are there.
-/
namespace Go.Proofs.Ytcnpmkigiklnnaa
open Go.RowKit Go.Shelf

/-- A list with one value at k places from x on. -/
def fill {α : Type} (l : List α) (x : Nat) (v : α) : Nat → List α
  | 0 => l
  | k + 1 => (fill l x v k).set (x + k) v
theorem fill_length {α : Type} (l : List α) (x : Nat) (v : α) (k : Nat) : (fill l x v k).length = l.length := by
  induction k with
  | zero => rfl
  | succ k ih => simp [fill, ih]
theorem fill_get {α : Type} (l : List α) (x : Nat) (v : α) (k j : Nat) (h : j < l.length) : (fill l x v k)[j]'(by rw [fill_length]; exact h) = if x ≤ j ∧ j < x + k then v else l[j] := by
  induction k with
  | zero => simp [fill]; intro h1 h2; omega
  | succ k ih =>
    simp only [fill, List.getElem_set, ih]
    split
    · rw [if_pos (by omega)]
    · split
      · rw [if_pos (by omega)]
      · rw [if_neg (by omega)]

/-- What holds at the head of turn's loop. -/
structure TurnInv (B z gw nw cw gl nl cl : Nat) (ws : List Int) (ls : List Bool) (f : Bool) (W w : World) : Prop where
  box : MBox w z (.slice (some ⟨gw, 0, none⟩) nw cw) (.slice (some ⟨gl, 0, none⟩) nl cl) f
  words : w.ownsRow B 22 1 (.slice (some ⟨gw, 0, none⟩) nw cw) nw (ws.map (Value.int .u64))
  lives : w.ownsRow B 4 1 (.slice (some ⟨gl, 0, none⟩) nl cl) nl (ls.map Value.bool)
  res : MBox w (z + 1) (.slice none 0 0) (.slice none 0 0) false
  below : Below W.heap.size W w

set_option maxRecDepth 100000 in
set_option maxHeartbeats 4000000 in
theorem turn_c (v : Value) (ws : List Int) (ls : List Bool) (f : Bool) (x k : Nat) (d : Bool) (u : Int) (W : World) (hv : MemAt W v ws ls f) (hn1 : 1 ≤ ws.length) (hn2 : ws.length ≤ 4096) (hlen : ls.length = ws.length) (hk : 1 ≤ k) (hxk : x + k ≤ ws.length) :
    Calls Try.prog 71 #[v, .int .i64 (x : Int), .int .i64 (k : Int), .bool d, .int .u64 u] W fun e w' => GivesMem W.heap.size (fill ws x u k) (fill ls x d k) f e w' ∧ Below W.heap.size W w' := by
  have hm := hv
  obtain ⟨vw, vl, rfl, ⟨pw, cw, rfl, hcw⟩, pl, cl, rfl, hcl⟩ := hv
  have HM := Lib.hid hm
  have HLEN := Lib.hid hlen
  clear hm hcw hcl hlen
  obtain ⟨z, hz⟩ : ∃ z, z = W.heap.size := ⟨_, rfl⟩
  obtain ⟨wo, hwo⟩ : ∃ wo : World, wo = (W.alloc (.cells #[.slice pw ws.length cw, .slice pl ls.length cl, .bool f] 46)).alloc (.cells #[.slice none 0 0, .slice none 0 0, .bool false] 46) := ⟨_, rfl⟩
  have hZ : MBox wo z (.slice pw ws.length cw) (.slice pl ls.length cl) f := by rw [hwo, hz]; exact (MBox.new _ _ _ _).alloc _
  have hR : MBox wo (z + 1) (.slice none 0 0) (.slice none 0 0) false := by
    have := MBox.new (W.alloc (.cells #[.slice pw ws.length cw, .slice pl ls.length cl, .bool f] 46)) (.slice none 0 0) (.slice none 0 0) false
    rw [World.size_alloc] at this
    rw [hwo, hz]; exact this
  have hB : Below W.heap.size W wo := by rw [hwo]; exact ((Below.refl _ _).alloc (Nat.le_refl _) _).alloc (by simp) _
  have hsz : z + 2 ≤ wo.heap.size := by rw [hwo, hz]; simp
  have HZ := Lib.hid hZ
  have HR := Lib.hid hR
  clear hZ hR
  go_enter Try.func71, Try.ntmps71
  go_wp2_with fail
  rw [← hwo, ← hz]
  have HZW := Lib.hid hz
  clear hwo hz
  refine (double_c _ ws ls f _ (HM.out.below hB) (by omega) (by rw [HLEN.out]; omega) (by omega) (by rw [HLEN.out]; omega)).mono ?_
  rintro e w3 ⟨⟨_, rfl, vw2, vl2, rfl, how, hol⟩, hb3⟩
  obtain ⟨gw, cw2, rfl, hgw, hgw3⟩ := own_form how (by omega)
  obtain ⟨gl, cl2, rfl, hgl, hgl3⟩ := own_form hol (by rw [HLEN.out]; omega)
  have hcap := own_cap how
  have hcap2 := own_cap hol
  have hzg : z < gw := by omega
  have hzgl : z < gl := by omega
  have hB3 := below_then hB hB.size hb3
  have HZ3 := Lib.hid (HZ.out.below hb3)
  obtain ⟨⟨hd0, hd1, hd2⟩, he0, he1, he2⟩ := mbox_cells HZ3.out
  obtain ⟨w4, hw4⟩ : ∃ w4 : World, w4 = ((w3.setCell ⟨z, 0, none⟩ (.slice (some ⟨gw, 0, none⟩) ws.length cw2)).setCell ⟨z, 1, none⟩ (.slice (some ⟨gl, 0, none⟩) ls.length cl2)).setCell ⟨z, 2, none⟩ (.bool f) := ⟨_, rfl⟩
  have hkz : Keeps (· = z) w3 w4 := by
    rw [hw4]
    exact ((Keeps.setCell w3 (S := (· = z)) (p := ⟨z, 0, none⟩) rfl _).trans (Keeps.setCell _ (S := (· = z)) (p := ⟨z, 1, none⟩) rfl _)).trans (Keeps.setCell _ (S := (· = z)) (p := ⟨z, 2, none⟩) rfl _)
  have hzz : W.heap.size = z := HZW.out.symm
  have HI := Lib.hid (show TurnInv W.heap.size z gw ws.length cw2 gl ls.length cl2 ws ls f W w4 from
    ⟨by rw [hw4]; exact HZ3.out.set _ _ _, (hkz.row how (by intro g hg; simp [Value.ownBlock] at hg; omega)).mono (by omega), (hkz.row hol (by intro g hg; simp [Value.ownBlock] at hg; omega)).mono (by omega),
      (HR.out.below hb3).keeps hkz (by omega), hB3.trans (hkz.below hB3.size (fun q hq => by omega))⟩)
  have hsz4 : z + 2 ≤ w4.heap.size := Nat.le_trans (Nat.le_trans hsz hb3.size) hkz.size
  clear hkz how hol hb3 HZ HR hB3 HZ3 hB hzz
  have HCW : ∀ W' : World, Calls Try.prog 86 #[.slice (some ⟨gw, 0, none⟩) ws.length cw2, .int .i64 x, .int .i64 k] W' fun e w' => e = .returned (.slice (some ⟨gw, x, none⟩) k k) ∧ w' = W' := fun W' => by
    simpa using cutW_c gw 0 ws.length cw2 x k hk (by omega) hcap.2 W'
  have HCB : ∀ W' : World, Calls Try.prog 89 #[.slice (some ⟨gl, 0, none⟩) ls.length cl2, .int .i64 x, .int .i64 k] W' fun e w' => e = .returned (.slice (some ⟨gl, x, none⟩) k k) ∧ w' = W' := fun W' => by
    simpa using cutB_c gl 0 ls.length cl2 x k hk (by have := HLEN.out; omega) hcap2.2 W'
  go_upto_region 2 with fail
  rw [← hw4]
  clear hw4 hd0 hd1 hd2 he0 he1 he2
  obtain ⟨⟨hd0, hd1, hd2⟩, he0, he1, he2⟩ := mbox_cells HI.out.box
  go_quiet (first | (go_at_call 86; exact Calls.quiet_of_same (HCW _)) | (go_at_call 89; exact Calls.quiet_of_same (HCB _)))
  have hinv0 : TurnInv W.heap.size z gw ws.length cw2 gl ls.length cl2 ws ls f W (w4.drewN nq) := ⟨HI.out.box, HI.out.words, HI.out.lives, HI.out.res, below_drewN HI.out.below _⟩
  have hwl : gw ≠ gl := owns_ne HI.out.words HI.out.lives (by decide) rfl rfl
  have hzW : W.heap.size ≤ z := Nat.le_of_eq HZW.out.symm
  have hsz5 : z + 1 < gw := by have := hsz; omega
  have hsz6 : z + 1 < gl := by have := hsz; omega
  clear HI HCW HCB hd0 hd1 hd2 he0 he1 he2
  go_wp2_with fail
  go_loopw [28] (fun iv wr => ∃ i : Nat, i ≤ k ∧ iv = .int .i64 i ∧ TurnInv W.heap.size z gw ws.length cw2 gl ls.length cl2 (fill ws x u i) (fill ls x d i) f W wr) (fun iv _ => k - (intOf iv).toNat)
  case atStart => exact ⟨0, Nat.zero_le _, rfl, hinv0⟩
  case round =>
    obtain ⟨i, hi, rfl, hinv⟩ := hrel
    by_cases hlt : i < k
    · have hw1 := hinv.words.cellAt (x + i) (by omega)
      have hl1 := hinv.lives.cellAt (x + i) (by have := HLEN.out; omega)
      have hwf := hinv.words.frozenAt (x + i)
      have hlf := hinv.lives.frozenAt (x + i)
      have hwi : x + i < ((fill ws x u i).map (Value.int .u64)).length := by rw [List.length_map, fill_length]; omega
      have hli : x + i < ((fill ls x d i).map Value.bool).length := by rw [List.length_map, fill_length]; have := HLEN.out; omega
      rw [List.getElem?_eq_getElem hwi] at hw1
      rw [List.getElem?_eq_getElem hli] at hl1
      obtain ⟨y1, hy1⟩ : ∃ y, y = ((fill ws x u i).map (Value.int .u64))[x + i] := ⟨_, rfl⟩
      obtain ⟨y2, hy2⟩ : ∃ y, y = ((fill ls x d i).map Value.bool)[x + i] := ⟨_, rfl⟩
      rw [← hy1] at hw1
      rw [← hy2] at hl1
      have hst1 := (hinv.words.stored (x + i) (.int .u64 u)).1
      rw [← List.map_set] at hst1
      have hlv := ownsRow_setCell_other hinv.lives (a := ⟨gw, x + i, none⟩) (by simp [Value.ownBlock]; omega) (.int .u64 u)
      have hst2 := (hlv.stored (x + i) (.bool d)).1
      rw [← List.map_set] at hst2
      have hst3 := ownsRow_setCell_other hst1 (a := ⟨gl, x + i, none⟩) (by simp [Value.ownBlock]; omega) (.bool d)
      have hk2 : Keeps (fun q => q = gw ∨ q = gl) wr ((wr.setCell ⟨gw, x + i, none⟩ (.int .u64 u)).setCell ⟨gl, x + i, none⟩ (.bool d)) :=
        (Keeps.setCell wr (p := ⟨gw, x + i, none⟩) (.inl rfl) _).trans (Keeps.setCell _ (p := ⟨gl, x + i, none⟩) (.inr rfl) _)
      have hnew : TurnInv W.heap.size z gw ws.length cw2 gl ls.length cl2 (fill ws x u (i + 1)) (fill ls x d (i + 1)) f W ((wr.setCell ⟨gw, x + i, none⟩ (.int .u64 u)).setCell ⟨gl, x + i, none⟩ (.bool d)) :=
        ⟨hinv.box.keeps hk2 (by omega), hst3, hst2, hinv.res.keeps hk2 (by omega), hinv.below.trans (hk2.below hinv.below.size (fun q hq => by omega))⟩
      clear hy1 hy2 hwi hli hst1 hlv hst2 hst3 hk2 hinv
      go_wp2
      go_roundw
      case rel => exact ⟨i + 1, by omega, by go_num, hnew⟩
      case measure => simp [intOf]; omega
    · obtain rfl : i = k := by omega
      obtain ⟨⟨hd0, hd1, hd2⟩, he0, he1, he2⟩ := mbox_cells hinv.box
      obtain ⟨⟨hr0, hr1, hr2⟩, hs0, hs1, hs2⟩ := mbox_cells hinv.res
      have hkr : Keeps (· = z + 1) wr (((wr.setCell ⟨z + 1, 0, none⟩ (.slice (some ⟨gw, 0, none⟩) ws.length cw2)).setCell ⟨z + 1, 1, none⟩ (.slice (some ⟨gl, 0, none⟩) ls.length cl2)).setCell ⟨z + 1, 2, none⟩ (.bool f)) :=
        ((Keeps.setCell wr (S := (· = z + 1)) (p := ⟨z + 1, 0, none⟩) rfl _).trans (Keeps.setCell _ (S := (· = z + 1)) (p := ⟨z + 1, 1, none⟩) rfl _)).trans (Keeps.setCell _ (S := (· = z + 1)) (p := ⟨z + 1, 2, none⟩) rfl _)
      have ho1 := hkr.row hinv.words (by intro g hg; simp [Value.ownBlock] at hg; omega)
      have ho2 := hkr.row hinv.lives (by intro g hg; simp [Value.ownBlock] at hg; omega)
      have hBe := hinv.below.trans (hkr.below hinv.below.size (by intro q hq; omega))
      clear hkr hinv
      go_wp2
      refine bodyPost_ret (v := .agg #[.slice (some ⟨gw, 0, none⟩) ws.length cw2, .slice (some ⟨gl, 0, none⟩) ls.length cl2, .bool f]) (by simp [results, Try.results71, go_sem, hr0, hr1, hr2]) rfl ⟨⟨_, rfl, _, _, rfl, ?_, ?_⟩, hBe⟩
      · rw [fill_length]; exact ho1
      · rw [fill_length]; exact ho2

end Go.Proofs.Ytcnpmkigiklnnaa
/-
  memory.New, called with 8: eight words, all free, of 0; what was in memory stays.
  Conditions: none.
-/
namespace Go.Proofs.Ytcnpmkigiklnnaa
open Go.RowKit Go.Shelf

theorem word_info : (Try.prog.info? 22).map (fun i => (i.zero, i.size, i.bytes)) = some (some (.int .u64 0), 1, 8) := by kernel_rfl
theorem bool_info : (Try.prog.info? 4).map (fun i => (i.zero, i.size, i.bytes)) = some (some (.bool false), 1, 1) := by kernel_rfl
/-- What New hands over. -/
def NewOk (B : Nat) (e : Ending) (w' : World) : Prop :=
  ∃ v', e = .returned (.tuple #[v', .int .i64 0]) ∧ OwnsMem w' B v' (List.replicate 8 0) (List.replicate 8 false) false

set_option maxRecDepth 100000 in
set_option maxHeartbeats 4000000 in
theorem new_c (W : World) : Calls Try.prog 45 #[.int .i64 8] W fun e w' => NewOk W.heap.size e w' ∧ Below W.heap.size W w' := by
  obtain ⟨i0, hi, hz0, hz1, hz2⟩ := info_parts word_info
  obtain ⟨i1, hj, hy0, hy1, hy2⟩ := info_parts bool_info
  obtain ⟨c8, hc8⟩ : ∃ c : Array Value, c = madeCells (Value.int .u64 0).cells 8 := ⟨_, rfl⟩
  obtain ⟨b8, hb8⟩ : ∃ c : Array Value, c = madeCells (Value.bool false).cells 8 := ⟨_, rfl⟩
  have hm1 : ∀ w, (Instr.makeSlice 43 (.int .i64 8) (.int .i64 8)).run Try.prog w = .ok (.slice (some ⟨w.heap.size, 0, none⟩) 8 8) (w.alloc (.cells c8 22)) := fun w => by
    have := run_make (P := Try.prog) w 43 22 i0 (.int .u64 0) Try.underlying43 hi hz0 .i64 .i64 8 8 (by decide) (by decide) (by rw [hz2]; decide) (by decide)
    rw [this, hc8, hz1]; rfl
  have hm2 : ∀ w, (Instr.makeSlice 44 (.int .i64 8) (.int .i64 8)).run Try.prog w = .ok (.slice (some ⟨w.heap.size, 0, none⟩) 8 8) (w.alloc (.cells b8 4)) := fun w => by
    have := run_make (P := Try.prog) w 44 4 i1 (.bool false) Try.underlying44 hj hy0 .i64 .i64 8 8 (by decide) (by decide) (by rw [hy2]; decide) (by decide)
    rw [this, hb8, hy1]; rfl
  have HC := Lib.hid (show c8.toList = (List.replicate 8 (0 : Int)).map (Value.int .u64) by rw [hc8, List.map_replicate]; exact toList_madeCells_one _ 8)
  have HB := Lib.hid (show b8.toList = (List.replicate 8 false).map Value.bool by rw [hb8, List.map_replicate]; exact toList_madeCells_one _ 8)
  have HC8 := Lib.hid (show c8.size = 8 * 1 by rw [hc8, size_madeCells])
  have HB8 := Lib.hid (show b8.size = 8 * 1 by rw [hb8, size_madeCells])
  clear hc8 hb8 hi hj hz0 hz1 hz2 hy0 hy1 hy2
  go_enter Try.func45, Try.ntmps45
  go_wp2
  go_region
  all_goals go_wp2
  · have ho1 := (World.ownsRow_lit (base := W.heap.size) (e := 22) (size := 1) (W.alloc (.cells #[.slice (some ⟨W.heap.size + 1, 0, none⟩) 8 8, .slice (some ⟨W.heap.size + 1 + 1, 0, none⟩) 8 8, .bool false] 46)) c8 8 (by simp) (by decide) HC8.out).alloc (.cells b8 4)
    have ho2 := World.ownsRow_lit (base := W.heap.size) (e := 4) (size := 1) ((W.alloc (.cells #[.slice (some ⟨W.heap.size + 1, 0, none⟩) 8 8, .slice (some ⟨W.heap.size + 1 + 1, 0, none⟩) 8 8, .bool false] 46)).alloc (.cells c8 22)) b8 8 (by simp; omega) (by decide) HB8.out
    rw [World.size_alloc] at ho1
    rw [World.size_alloc, World.size_alloc] at ho2
    refine bodyPost_ret (v := .tuple #[.agg #[.slice (some ⟨W.heap.size + 1, 0, none⟩) 8 8, .slice (some ⟨W.heap.size + 1 + 1, 0, none⟩) 8 8, .bool false], .int .i64 0]) (by simp [results, Try.results45, go_sem]) rfl ⟨⟨_, rfl, _, _, rfl, ?_, ?_⟩, ((((Below.refl _ _).alloc (Nat.le_refl _) _).alloc (by simp) _).alloc (by simp; omega) _).drew⟩
    · rw [HC.out] at ho1; exact ho1.drew
    · rw [HB.out] at ho2; exact ho2.drew
  · have ho1 := (World.ownsRow_lit (base := W.heap.size) (e := 4) (size := 1) (W.alloc (.cells #[.slice (some ⟨W.heap.size + 1 + 1, 0, none⟩) 8 8, .slice (some ⟨W.heap.size + 1, 0, none⟩) 8 8, .bool false] 46)) b8 8 (by simp) (by decide) HB8.out).alloc (.cells c8 22)
    have ho2 := World.ownsRow_lit (base := W.heap.size) (e := 22) (size := 1) ((W.alloc (.cells #[.slice (some ⟨W.heap.size + 1 + 1, 0, none⟩) 8 8, .slice (some ⟨W.heap.size + 1, 0, none⟩) 8 8, .bool false] 46)).alloc (.cells b8 4)) c8 8 (by simp; omega) (by decide) HC8.out
    rw [World.size_alloc] at ho1
    rw [World.size_alloc, World.size_alloc] at ho2
    refine bodyPost_ret (v := .tuple #[.agg #[.slice (some ⟨W.heap.size + 1 + 1, 0, none⟩) 8 8, .slice (some ⟨W.heap.size + 1, 0, none⟩) 8 8, .bool false], .int .i64 0]) (by simp [results, Try.results45, go_sem]) rfl ⟨⟨_, rfl, _, _, rfl, ?_, ?_⟩, ((((Below.refl _ _).alloc (Nat.le_refl _) _).alloc (by simp) _).alloc (by simp; omega) _).drew⟩
    · rw [HC.out] at ho2; exact ho2.drew
    · rw [HB.out] at ho1; exact ho1.drew

end Go.Proofs.Ytcnpmkigiklnnaa
namespace Go.Proofs.Ytcnpmkigiklnnaa
open Go.RowKit

/-- The iterator's contract, for a value with bound arguments bd and captured ones lb: it is called at bd, yield, lb. -/
def SeqBound {α : Type} (F : Fence) (n : Nat) (P : Program) (g : Nat) (bd lb : Array Value) (encs : α → Array Value) (Kp : World → World → Prop) (S Sp : List α → Prop) (N : Nat) (w : World) : Prop :=
  ∀ (l : Nat) (J Jx : List α → World → Prop) (W : World), Below w.heap.size w W → AbidesFrom W.heap.size J → AbidesFrom W.heap.size Jx →
    (∀ pre x W1, J pre W1 → pre.length < N → YieldAt F (n - 1) P l (encs x) W1 fun e W' =>
      (e = .returned (.bool true) ∧ J (pre ++ [x]) W' ∧ Kp W1 W') ∨ (e = .returned (.bool false) ∧ Jx (pre ++ [x]) W')) →
    J [] W →
    CallsIn F n P g (bd ++ #[.func (.yield l) #[] #[]] ++ lb) W fun e W' => (∃ v, e = .returned v) ∧ ((∃ xs, S xs ∧ J xs W') ∨ (∃ pre, Sp pre ∧ Jx pre W'))

/-- The two blocks that an outermost loop lays where a heap of z blocks ends: the one for the rounds' deferred calls, and behind it the loop's record. -/
def Books (z : Nat) (r : Loop) (W : World) : Prop := W.heap[z + 1]? = some (.loop r) ∧ W.heap[z]? = some (.deferred (some []))

theorem Books.lt {z : Nat} {r : Loop} {W : World} (h : Books z r W) : z + 1 < W.heap.size := (Array.getElem?_eq_some_iff.1 h.1).1
theorem Books.from {z : Nat} {r : Loop} {W W' : World} (h : Books z r W) (hk : KeepsFrom z W W') : Books z r W' :=
  ⟨hk.same _ _ (by omega) h.1 rfl, hk.same _ _ (Nat.le_refl _) h.2 rfl⟩
theorem Books.turn {z : Nat} {r r' : Loop} {W : World} (h : Books z r W) : Books z r' (W.putObj (z + 1) (.loop r')) :=
  ⟨World.putObj_heap_same h.lt, (World.putObj_heap_other (by omega)).trans h.2⟩

/-- THE LAW. I: what holds between two rounds; Ix: what holds where a round has left by a jump; Ax: what holds behind the assignment to the loop's variables. -/
theorem wpIn_rangeBound {α : Type} {F : Fence} {n : Nat} {P : Program} {w : World} {g : Operand} {ps : Array Tmp} {assign body : Code} {Q : Exit → Act → World → Prop} {a : Act}
    (hro : F.round = none) (h1 : 1 ≤ n) {gf : Nat} {bd lb : Array Value} (hg : a.eval g = .func (.func gf) bd lb) (hFg : F.fn gf) (eg : ∀ args w, (callFunc gf args).run P w = .ok (.enter gf args) w)
    {encs : α → Array Value} {Kp : World → World → Prop} {S Sp : List α → Prop} {N : Nat} {w0 : World} (hseq : SeqBound F (n - 1) P gf bd lb encs Kp S Sp N w0)
    (hKt : ∀ {A B C : World}, Kp A B → Kp B C → Kp A C) (hKb : ∀ (W : World) (l : Nat) (o o' : Obj), w.heap.size ≤ l → W.heap[l]? = some o → o.isCells = false → o.isWalk = false → Kp W (W.putObj l o')) (hb0 : Below w0.heap.size w0 w) (hps : ∀ x, (encs x).size = ps.size)
    (I : List α → World → Prop) (Ix : Code → List α → World → Prop) (hI : OwnFrom w.heap.size I) (hIx : ∀ c, OwnFrom w.heap.size (Ix c)) (h0 : I [] w) (Ax : α → Act → World → Prop) (hAx : ∀ x a', OwnFrom w.heap.size (fun (_ : Unit) W => Ax x a' W))
    (hassign : ∀ (l : Nat) (pre : List α) (x : α) (W : World) (K : Act → World → Prop), I pre W → (∀ a' W', KeepsFrom w.heap.size W W' → Kp W W' → I pre W' → Ax x a' W' → K a' W') →
      assign.wpIn (F.inRound l) (n - 1 - 1) P (Exit.then K (fun _ _ _ => False)) { tmps := (ps.zip (encs x)).foldl (fun t (p, v) => t.setIfInBounds p v) a.tmps, defers := [] } W)
    (hbody : ∀ (l : Nat) (pre : List α) (x : α) (a' : Act) (W : World), w.heap.size ≤ l → (∃ r, W.heap[l]? = some (.loop r)) → I pre W → Ax x a' W → pre.length < N → body.wpIn (F.inRound l) (n - 1 - 1) P (ownPostG w.heap.size Kp I Ix (pre ++ [x]) W) a' W)
    (hdone : ∀ (D : Nat) (xs : List α) (W : World), w.heap.size ≤ D → S xs → I xs W → W.heap[D]? = some (.deferred (some [])) → Q .normal { a with defers := { target := .collected D, args := #[] } :: a.defers } W)
    (hstop : ∀ (D : Nat) (c : Code) (pre : List α) (W : World), w.heap.size ≤ D → Sp pre → Ix c pre W → W.heap[D]? = some (.deferred (some [])) → c.wpIn F n P Q { a with defers := { target := .collected D, args := #[] } :: a.defers } W) :
    (Code.rangeFunc g ps assign body).wpIn F n P Q a w := by
  refine wpIn_rangeFunc fun fn hfn => ?_
  rw [hro]
  generalize hz : w.heap.size = z at *
  obtain ⟨rec, hrec⟩ : ∃ rec : LoopState → Option Code → Loop, ∀ st pe, rec st pe = { state := st, pending := pe, fn, tmps := a.tmps, params := ps, assign, body, defers := z } := ⟨fun st pe => _, fun _ _ => rfl⟩
  obtain ⟨W1, hW1⟩ : ∃ W1, W1 = (w.alloc (.deferred (some []))).alloc (.loop (rec .ready none)) := ⟨_, rfl⟩
  have hz1 : W1.heap.size = z + 2 := by rw [hW1]; simp [hz]
  have hB1 : Books z (rec .ready none) W1 := by
    rw [hW1]
    constructor
    · have := World.alloc_heap_new (w.alloc (.deferred (some []))) (.loop (rec .ready none))
      rwa [World.size_alloc, hz] at this
    · rw [← hz]; exact (Below.heap_alloc _ _ _ (by simp)).trans (World.alloc_heap_new w _)
  have hI1 : I [] W1 := by rw [hW1]; exact hI.alloc _ (hI.alloc _ h0)
  have hb1 : Below w0.heap.size w0 W1 := by
    rw [hW1]; exact hb0.trans ((((Below.refl _ w).alloc (Nat.le_refl _) _).alloc (by simp) _).mono hb0.size)
  have hwalk : ∀ {A : World} {row : Option Nat}, (∀ r, row = some r → W1.heap.size ≤ r ∧ ∃ o : Obj, A.heap[r]? = some o ∧ o.isWalk = true) → ∀ r, row = some r → z ≤ r ∧ ∃ o : Obj, A.heap[r]? = some o ∧ o.isCells = false :=
    fun hr r e => by obtain ⟨hB, o, ho, hw⟩ := hr r e; exact ⟨by omega, o, ho, Obj.not_cells_of_walk hw⟩
  have hbooks : ∀ {st : LoopState} {pe : Option Code} {A B : World} {row : Option Nat}, Books z (rec st pe) A → A.grownBy B row → (∀ r, row = some r → W1.heap.size ≤ r ∧ ∃ o : Obj, A.heap[r]? = some o ∧ o.isWalk = true) → Books z (rec st pe) B :=
    fun hs hg' hr => ⟨(grownBy_keeps hg' (fun r e => (hr r e).2) hs.1 rfl).trans hs.1, (grownBy_keeps hg' (fun r e => (hr r e).2) hs.2 rfl).trans hs.2⟩
  refine ⟨z + 1, [{ target := .collected z, args := #[] }], W1, { target := .fn (.func gf) lb, args := bd ++ #[.func (.yield (z + 1)) #[] #[]] }, W1, gf, bd ++ #[.func (.yield (z + 1)) #[] #[]] ++ lb, W1, ?_, ?_, ?_, ?_, fun _ => h1, ?_⟩
  · have := run_enterLoop_outer (P := P) (w := w) fn a.tmps ps assign body
    rw [hW1, hrec, ← hz]; exact this
  · simp only [resolve, hg]
    simp [go_sem]
  · intro f' hf'; simp [Target.leads] at hf'; subst hf'; exact hFg
  · simp only [invoke, eg]
  · refine (hseq (z + 1) (fun pre W => I pre W ∧ Books z (rec .ready none) W) (fun pre W => ∃ c, Ix c pre W ∧ Books z (rec .done (some c)) W) W1 hb1
      (fun s A B row hs hg' hr => ⟨hI s A B row hs.1 hg' (hwalk hr), hbooks hs.2 hg' hr⟩)
      (fun s A B row hs hg' hr => by
        obtain ⟨c, hc, hb⟩ := hs
        exact ⟨c, hIx c s A B row hc hg' (hwalk hr), hbooks hb hg' hr⟩)
      ?_ ⟨hI1, hB1⟩).mono ?_
    · rintro pre x W ⟨hi, hb⟩ hlen
      have hy := run_yield (P := P) (args := encs x) hb.1 (by rw [hrec]; exact hps x)
      rw [hrec] at hy
      refine ⟨fn, _, assign, body, hy, roundIn_of_wpIn hfn (hassign _ pre x W _ hi ?_)⟩
      clear hy
      intro a' Wa hkfa hkpa hia hax
      have hba := hb.from hkfa
      refine ⟨_, run_beginRound hba.1 (by rw [hrec]), ?_⟩
      have hb2 : Books z (rec .busy none) (Wa.putObj (z + 1) (.loop (rec .busy none))) := hba.turn
      have hw2 : Kp Wa (Wa.putObj (z + 1) (.loop (rec .busy none))) := hKb _ _ _ _ (by omega) hba.1 rfl rfl
      have hsame : ({ rec .ready none with state := .busy } : Loop) = rec .busy none := by rw [hrec, hrec]
      rw [hsame]
      refine wpIn_mono (hbody _ pre x a' _ (by omega) ⟨_, hb2.1⟩ (hI.putObj _ hia (by omega) hba.1 rfl) ((hAx x a').putObj (s := ()) _ hax (by omega) hba.1 rfl) hlen) ?_
      have fin : ∀ (jump : Option Code) (W3 : World), KeepsFrom z (Wa.putObj (z + 1) (.loop (rec .busy none))) W3 →
          (Instr.endRound (z + 1) jump).run P W3 = .ok (.bool jump.isNone) (W3.putObj (z + 1) (.loop (rec (if jump.isNone then .ready else .done) jump))) ∧
          Books z (rec .busy none) W3 ∧ Books z (rec (if jump.isNone then .ready else .done) jump) (W3.putObj (z + 1) (.loop (rec (if jump.isNone then .ready else .done) jump))) := fun jump W3 hk3 => by
        have hb3 := hb2.from hk3
        have := run_endRound (P := P) jump hb3.1
        rw [hrec] at this
        rw [hrec]
        exact ⟨this, hb3, by rw [← hrec]; exact hb3.turn⟩
      rintro e a3 W3 hp
      cases e with
      | normal =>
        obtain ⟨hk3, hkp3, hi3⟩ := hp
        obtain ⟨hr, hb3, hb4⟩ := fin none W3 hk3
        exact ⟨_, _, hr, .inl ⟨rfl, ⟨hI.putObj _ hi3 (by omega) hb3.1 rfl, hb4⟩, hKt hkpa (hKt (hKt hw2 hkp3) (hKb _ _ _ _ (by omega) hb3.1 rfl rfl))⟩⟩
      | ret =>
        obtain ⟨hk3, hi3⟩ := hp
        obtain ⟨hr, hb3, hb4⟩ := fin (some .ret) W3 hk3
        exact ⟨_, _, hr, .inr ⟨rfl, .ret, (hIx _).putObj _ hi3 (by omega) hb3.1 rfl, hb4⟩⟩
      | exit id =>
        obtain ⟨hk3, hi3⟩ := hp
        obtain ⟨hr, hb3, hb4⟩ := fin (some (.exit id)) W3 hk3
        exact ⟨_, _, hr, .inr ⟨rfl, .exit id, (hIx _).putObj _ hi3 (by omega) hb3.1 rfl, hb4⟩⟩
      | goto t =>
        obtain ⟨hk3, hi3⟩ := hp
        obtain ⟨hr, hb3, hb4⟩ := fin (some (.goto t)) W3 hk3
        exact ⟨_, _, hr, .inr ⟨rfl, .goto t, (hIx _).putObj _ hi3 (by omega) hb3.1 rfl, hb4⟩⟩
      | panic ch => exact hp.elim
      | outgrown => exact hp.elim
    · rintro e W2 ⟨⟨v, rfl⟩, (⟨xs, hS, hi, hb⟩ | ⟨pre, hSp, c, hi, hb⟩)⟩
      · refine ⟨none, _, by have := run_endLoop (P := P) hb.1 (by rw [hrec]; simp); rw [hrec] at this; exact this, ?_⟩
        exact hdone _ xs _ (by omega) hS (hI.putObj _ hi (by omega) hb.1 rfl) ((World.putObj_heap_other (by omega)).trans hb.2)
      · refine ⟨some c, _, by have := run_endLoop (P := P) hb.1 (by rw [hrec]; simp); rw [hrec] at this; exact this, ?_⟩
        exact hstop _ c pre _ (by omega) hSp ((hIx c).putObj _ hi (by omega) hb.1 rfl) ((World.putObj_heap_other (by omega)).trans hb.2)

/-- A scope through which the run goes without a goto, under a fence. -/
theorem wpIn_scope {F : Fence} {n : Nat} {P : Program} {c : Code} {Q : Exit → Act → World → Prop} {a : Act} {w : World} (h : c.wpIn F n P (Exit.noGoto Q) a w) : (Code.scope c).wpIn F n P Q a w := by
  intro b k cs hro hb hr
  have h0 : (lone (b.atR a (.code (.scope c) :: k)) cs w).fenced P F := fenced_calm hb hr rfl
  have s0 : step P (lone (b.atR a (.code (.scope c) :: k)) cs w) = .next (lone (b.atR a (.code c :: .inScope c :: k)) cs w) := step_lone_go (by simp [stepG, stepG.exec, Frame.atR])
  obtain ⟨e, a₁, w₁, hq, harr⟩ := h b (.inScope c :: k) cs hro hb hr
  cases e with
  | normal => exact ⟨.normal, a₁, w₁, hq, .head h0 s0 (StepsIn.trans harr (.one (fenced_calm hb hr rfl) (step_lone_go (by simp [stepG, stepG.exec, Frame.atR]))))⟩
  | exit id =>
    have hx : exitTo id (.inScope c :: k) = exitTo id k := by simp [exitTo]
    exact ⟨.exit id, a₁, w₁, hq, fun k' hk => .head h0 s0 (harr.1 k' (by rw [hx]; exact hk)),
      fun hr' hk => let ⟨k₁, h1, h2⟩ := harr.2 hr' (by rw [hx]; exact hk); ⟨k₁, h1, .head h0 s0 h2⟩⟩
  | goto l => exact hq.elim
  | ret => exact ⟨_, a₁, w₁, hq, .of_steps (.one h0 s0) harr⟩
  | panic ch => exact ⟨_, a₁, w₁, hq, .of_steps (.one h0 s0) harr⟩
  | outgrown => exact ⟨_, a₁, w₁, hq, .of_steps (.one h0 s0) harr⟩

/-- The marks that loops over functions have left among the deferred calls: the block of each, from B on, hands over nothing. -/
def Marks (B : Nat) (Ds : List Nat) (W : World) : Prop := Ds.Nodup ∧ ∀ D ∈ Ds, B ≤ D ∧ W.heap[D]? = some (.deferred (some []))
theorem Marks.nil (B : Nat) (W : World) : Marks B [] W := ⟨List.nodup_nil, fun _ h => by cases h⟩
theorem Marks.keeps {B : Nat} {Ds : List Nat} {W W' : World} (h : Marks B Ds W) (hk : KeepsOthers W W') : Marks B Ds W' := ⟨h.1, fun D hD => ⟨(h.2 D hD).1, hk.same _ _ (h.2 D hD).2 rfl⟩⟩
theorem Marks.below {B : Nat} {Ds : List Nat} {W W' : World} (h : Marks B Ds W) (hk : Below W.heap.size W W') : Marks B Ds W' :=
  ⟨h.1, fun D hD => ⟨(h.2 D hD).1, (hk.block D (Array.getElem?_eq_some_iff.1 (h.2 D hD).2).1).trans (h.2 D hD).2⟩⟩
theorem Marks.lt {B : Nat} {Ds : List Nat} {W : World} (h : Marks B Ds W) {D : Nat} (hD : D ∈ Ds) : D < W.heap.size := (Array.getElem?_eq_some_iff.1 (h.2 D hD).2).1
theorem Marks.cons {B : Nat} {Ds : List Nat} {W : World} (h : Marks B Ds W) {D : Nat} (hB : B ≤ D) (hne : D ∉ Ds) (hK : W.heap[D]? = some (.deferred (some []))) : Marks B (D :: Ds) W :=
  ⟨List.nodup_cons.2 ⟨hne, h.1⟩, fun E hE => by
    rcases List.mem_cons.1 hE with e | e
    · subst e; exact ⟨hB, hK⟩
    · exact h.2 E e⟩
/-- The marks abide a turn of a loop's own books, where the loop began behind them. -/
theorem marks_own {β : Type} {B z : Nat} {Ds : List Nat} (hz : ∀ D ∈ Ds, D < z) : OwnFrom z (fun (_ : β) W => Marks B Ds W) := fun _ _ _ row hs hg hr =>
  ⟨hs.1, fun D hD => ⟨(hs.2 D hD).1, (hg.block D (hs.lt hD) (fun e => by have := (hr D e.symm).1; have := hz D hD; omega)).trans (hs.2 D hD).2⟩⟩

def marksOf (Ds : List Nat) : List Deferred := Ds.map fun D => { target := .collected D, args := #[] }

/-- A function that has left such marks returns as one that has left none, but that their blocks are shut. -/
theorem leaves_marks {F : Fence} {n : Nat} {P : Program} {fn : Func} {tmps : Array Value} {R : Ending → World → Prop} {B : Nat} : ∀ (Ds : List Nat) (W : World), Marks B Ds W →
    (∀ W', Below B W W' → LeavesIn F n P fn tmps R [] .returning W') → LeavesInM F n P fn tmps R (marksOf Ds) .returning W
  | [], W, _, h => h W (Below.refl _ _)
  | D :: Ds, W, hm, h => by
    obtain ⟨hB, hK⟩ := hm.2 D List.mem_cons_self
    have hlt := hm.lt (D := D) List.mem_cons_self
    have hb : Below B W (W.putObj D (.deferred none)) := (Below.refl B W).grown (grownBy_putObj' W D _) (by omega) (fun k e => by cases e; exact hB)
    refine ⟨by simp, .inl ⟨D, _, rfl, run_takeDeferred hK, leaves_marks Ds _ ⟨(List.nodup_cons.1 hm.1).2, fun E hE => ?_⟩ fun W' hW' => h W' (hb.trans hW')⟩⟩
    have hne : E ≠ D := fun e => (List.nodup_cons.1 hm.1).1 (e ▸ hE)
    obtain ⟨h1, h2⟩ := hm.2 E (List.mem_cons_of_mem _ hE)
    exact ⟨h1, (World.putObj_heap_other hne).trans h2⟩

end Go.Proofs.Ytcnpmkigiklnnaa
