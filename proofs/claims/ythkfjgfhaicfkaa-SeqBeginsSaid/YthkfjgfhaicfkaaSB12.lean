/-
  next, of a reader of package seq.
  Conditions: the memory may be, the read may be.
-/
import Derived.Test.YthkfjgfhaicfkaaSB6
import Derived.MapKept
import Derived.Test.YthkfjgfhaicfkaaSB7
import Derived.Test.YthkfjgfhaicfkaaSB11
import Derived.Deep.RegionHeld3
import Derived.BigQuiet
import Derived.ArgAppend
import Derived.Maps.AppendAt
import Derived.IntWalk
/-
  The map of method values by phases, of package seq: laid by does, looked up by step.
  Conditions: none.
-/
namespace Go.Proofs.Ythkfjgfhaicfkaa
open Go.RowKit Go.Shelf
attribute [local go_sem] Oper.semAt_some

/-- A world whose block r is another object. -/
def objSet (w : World) (r : Nat) (o : Obj) : World := { w with heap := w.heap.setIfInBounds r o }
theorem objSet_get {w : World} {r : Nat} (h : r < w.heap.size) (o : Obj) : (objSet w r o).heap[r]? = some o := by simp [objSet, h]
theorem objSet_below {B : Nat} {W w : World} {r : Nat} (h : Below B W w) (hr : B ≤ r) (o : Obj) : Below B W (objSet w r o) :=
  ⟨h.os, h.tape, h.output, by simp [objSet]; exact h.size, fun k hk => by
    have e : (w.heap.setIfInBounds r o)[k]? = w.heap[k]? := by simp [Array.getElem?_setIfInBounds_ne (show r ≠ k by omega)]
    exact e.trans (h.block k hk)⟩
theorem emap_type : Try.prog.underlying 95 = some (.map 3 25) := by kernel_rfl
theorem eint_type : Try.prog.underlying 3 = some (.int .i64) := by kernel_rfl
theorem emap_put (w : World) (r clock : Nat) (k : Int) (es : Array MapEntry) (val : Value) (hb : w.heap[r]? = some (.map es clock)) (hnf : Instr.findNow (.int .i64) (.int .i64 k) es.toList 0 = some none) :
    (Instr.mapUpdate 95 (.map (some r)) (.int .i64 k) val).run Try.prog w = .ok () (objSet w r (.map (es.push { key := .int .i64 k, val := val, born := clock }) (clock + 1))) := by
  have hc : (Instr.checkKey false 10000 3 (.int .i64 k)).run Try.prog w = .ok () w := MapKept.run_checkKey (k := .int .i64 k) eint_type (by simp [MapKept.IsKey]) false 9999
  simp [Instr.mapUpdate, run_underlying emap_type, MapKept.run_getObj_map hb, hc, MapKept.run_findKey eint_type hnf, MapKept.run_setObj_map _ hb, Result.andThen, objSet]
theorem emap_get (w : World) (r clock : Nat) (k : Int) (es : Array MapEntry) (val : Value) (i : Nat) (hb : w.heap[r]? = some (.map es clock)) (hf : Instr.findNow (.int .i64) (.int .i64 k) es.toList 0 = some (some (i, val))) :
    (Instr.lookup 95 (.map (some r)) (.int .i64 k) true).run Try.prog w = .ok (.tuple #[val, .bool true]) w := by
  have hc : ∀ b, (Instr.checkKey b 10000 3 (.int .i64 k)).run Try.prog w = .ok () w := fun b => MapKept.run_checkKey (k := .int .i64 k) eint_type (by simp [MapKept.IsKey]) b 9999
  simp [Instr.lookup, run_underlying emap_type, MapKept.run_getObj_map hb, hc, MapKept.run_findKey eint_type hf, Result.andThen]
theorem efunc_info : (Try.prog.info? 25).map (fun i => i.zero) = some (some .nilFunc) := by kernel_rfl
theorem emap_miss (w : World) (r clock : Nat) (k : Int) (es : Array MapEntry) (hb : w.heap[r]? = some (.map es clock)) (hf : Instr.findNow (.int .i64) (.int .i64 k) es.toList 0 = some none) :
    (Instr.lookup 95 (.map (some r)) (.int .i64 k) true).run Try.prog w = .ok (.tuple #[.nilFunc, .bool false]) w := by
  have hc : ∀ b, (Instr.checkKey b 10000 3 (.int .i64 k)).run Try.prog w = .ok () w := fun b => MapKept.run_checkKey (k := .int .i64 k) eint_type (by simp [MapKept.IsKey]) b 9999
  have hz : (zeroValue 25).run Try.prog w = .ok .nilFunc w := by go_simp
  simp [Instr.lookup, run_underlying emap_type, MapKept.run_getObj_map hb, hc, MapKept.run_findKey eint_type hf, Result.andThen, hz]

/-- The method values of three, of four phases. -/
def map3 (x y z : Value) : Obj := .map #[⟨.int .i64 0, x, 0⟩, ⟨.int .i64 2, y, 1⟩, ⟨.int .i64 3, z, 2⟩] 3
def map4 (x y z u : Value) : Obj := .map #[⟨.int .i64 0, x, 0⟩, ⟨.int .i64 1, y, 1⟩, ⟨.int .i64 2, z, 2⟩, ⟨.int .i64 3, u, 3⟩] 4
set_option maxRecDepth 100000 in
set_option maxHeartbeats 4000000 in
theorem rdoes_c (r : Nat) (W : World) : Calls Try.prog 48 #[.pointer (some ⟨r, 0, none⟩)] W fun e w' => (e = .returned (.map (some W.heap.size)) ∧ w'.heap[W.heap.size]? = some (map3 (.func (.func 65) #[.pointer (some ⟨r, 0, none⟩)] #[]) (.func (.func 66) #[.pointer (some ⟨r, 0, none⟩)] #[]) (.func (.func 67) #[.pointer (some ⟨r, 0, none⟩)] #[]))) ∧ Below W.heap.size W w' := by
  have hb0 : (W.alloc (.map #[] 0)).heap[W.heap.size]? = some (.map #[] 0) := World.alloc_heap_new W _
  have hl0 : W.heap.size < (W.alloc (.map #[] 0)).heap.size := by simp
  have hB0 : Below W.heap.size W (W.alloc (.map #[] 0)) := (Below.refl _ _).alloc (Nat.le_refl _) _
  have hi1 : (Instr.mapUpdate 95 (.map (some W.heap.size)) (.int .i64 0) (.func (.func 65) #[.pointer (some ⟨r, 0, none⟩)] #[])).run Try.prog (W.alloc (.map #[] 0)) = .ok () (objSet (W.alloc (.map #[] 0)) W.heap.size (.map #[⟨.int .i64 0, (.func (.func 65) #[.pointer (some ⟨r, 0, none⟩)] #[]), 0⟩] 1)) := emap_put _ W.heap.size 0 0 #[] _ hb0 rfl
  obtain ⟨w1, hw1⟩ : ∃ X, X = objSet (W.alloc (.map #[] 0)) W.heap.size (.map #[⟨.int .i64 0, (.func (.func 65) #[.pointer (some ⟨r, 0, none⟩)] #[]), 0⟩] 1) := ⟨_, rfl⟩
  have hb1 : w1.heap[W.heap.size]? = some (.map #[⟨.int .i64 0, (.func (.func 65) #[.pointer (some ⟨r, 0, none⟩)] #[]), 0⟩] 1) := by rw [hw1]; exact objSet_get hl0 _
  have hl1 : W.heap.size < w1.heap.size := (Array.getElem?_eq_some_iff.1 hb1).1
  have hB1 : Below W.heap.size W w1 := by rw [hw1]; exact objSet_below hB0 (Nat.le_refl _) _
  rw [← hw1] at hi1
  have hi2 : (Instr.mapUpdate 95 (.map (some W.heap.size)) (.int .i64 2) (.func (.func 66) #[.pointer (some ⟨r, 0, none⟩)] #[])).run Try.prog w1 = .ok () (objSet w1 W.heap.size (.map #[⟨.int .i64 0, (.func (.func 65) #[.pointer (some ⟨r, 0, none⟩)] #[]), 0⟩, ⟨.int .i64 2, (.func (.func 66) #[.pointer (some ⟨r, 0, none⟩)] #[]), 1⟩] 2)) := emap_put _ W.heap.size 1 2 #[⟨.int .i64 0, (.func (.func 65) #[.pointer (some ⟨r, 0, none⟩)] #[]), 0⟩] _ hb1 rfl
  obtain ⟨w2, hw2⟩ : ∃ X, X = objSet w1 W.heap.size (.map #[⟨.int .i64 0, (.func (.func 65) #[.pointer (some ⟨r, 0, none⟩)] #[]), 0⟩, ⟨.int .i64 2, (.func (.func 66) #[.pointer (some ⟨r, 0, none⟩)] #[]), 1⟩] 2) := ⟨_, rfl⟩
  have hb2 : w2.heap[W.heap.size]? = some (.map #[⟨.int .i64 0, (.func (.func 65) #[.pointer (some ⟨r, 0, none⟩)] #[]), 0⟩, ⟨.int .i64 2, (.func (.func 66) #[.pointer (some ⟨r, 0, none⟩)] #[]), 1⟩] 2) := by rw [hw2]; exact objSet_get hl1 _
  have hl2 : W.heap.size < w2.heap.size := (Array.getElem?_eq_some_iff.1 hb2).1
  have hB2 : Below W.heap.size W w2 := by rw [hw2]; exact objSet_below hB1 (Nat.le_refl _) _
  rw [← hw2] at hi2
  have hi3 : (Instr.mapUpdate 95 (.map (some W.heap.size)) (.int .i64 3) (.func (.func 67) #[.pointer (some ⟨r, 0, none⟩)] #[])).run Try.prog w2 = .ok () (objSet w2 W.heap.size (.map #[⟨.int .i64 0, (.func (.func 65) #[.pointer (some ⟨r, 0, none⟩)] #[]), 0⟩, ⟨.int .i64 2, (.func (.func 66) #[.pointer (some ⟨r, 0, none⟩)] #[]), 1⟩, ⟨.int .i64 3, (.func (.func 67) #[.pointer (some ⟨r, 0, none⟩)] #[]), 2⟩] 3)) := emap_put _ W.heap.size 2 3 #[⟨.int .i64 0, (.func (.func 65) #[.pointer (some ⟨r, 0, none⟩)] #[]), 0⟩, ⟨.int .i64 2, (.func (.func 66) #[.pointer (some ⟨r, 0, none⟩)] #[]), 1⟩] _ hb2 rfl
  obtain ⟨w3, hw3⟩ : ∃ X, X = objSet w2 W.heap.size (.map #[⟨.int .i64 0, (.func (.func 65) #[.pointer (some ⟨r, 0, none⟩)] #[]), 0⟩, ⟨.int .i64 2, (.func (.func 66) #[.pointer (some ⟨r, 0, none⟩)] #[]), 1⟩, ⟨.int .i64 3, (.func (.func 67) #[.pointer (some ⟨r, 0, none⟩)] #[]), 2⟩] 3) := ⟨_, rfl⟩
  have hb3 : w3.heap[W.heap.size]? = some (.map #[⟨.int .i64 0, (.func (.func 65) #[.pointer (some ⟨r, 0, none⟩)] #[]), 0⟩, ⟨.int .i64 2, (.func (.func 66) #[.pointer (some ⟨r, 0, none⟩)] #[]), 1⟩, ⟨.int .i64 3, (.func (.func 67) #[.pointer (some ⟨r, 0, none⟩)] #[]), 2⟩] 3) := by rw [hw3]; exact objSet_get hl2 _
  have hl3 : W.heap.size < w3.heap.size := (Array.getElem?_eq_some_iff.1 hb3).1
  have hB3 : Below W.heap.size W w3 := by rw [hw3]; exact objSet_below hB2 (Nat.le_refl _) _
  rw [← hw3] at hi3
  have H4 := Lib.hid hb3
  have HB4 := Lib.hid hB3
  clear hb0 hl0 hB0 hb1 hl1 hB1 hb2 hl2 hB2 hb3 hl3 hB3 hw1 hw2 hw3
  have hmk : (Instr.makeMap 95 none).run Try.prog W = .ok (.map (some W.heap.size)) (W.alloc (.map #[] 0)) := by simp [Instr.makeMap]
  go_enter Try.func48, Try.ntmps48
  go_wp2
  go_ret
  exact ⟨⟨rfl, H4.out⟩, HB4.out⟩
set_option maxRecDepth 100000 in
set_option maxHeartbeats 4000000 in
theorem wdoes_c (r : Nat) (W : World) : Calls Try.prog 52 #[.pointer (some ⟨r, 0, none⟩)] W fun e w' => (e = .returned (.map (some W.heap.size)) ∧ w'.heap[W.heap.size]? = some (map4 (.func (.func 69) #[.pointer (some ⟨r, 0, none⟩)] #[]) (.func (.func 70) #[.pointer (some ⟨r, 0, none⟩)] #[]) (.func (.func 71) #[.pointer (some ⟨r, 0, none⟩)] #[]) (.func (.func 72) #[.pointer (some ⟨r, 0, none⟩)] #[]))) ∧ Below W.heap.size W w' := by
  have hb0 : (W.alloc (.map #[] 0)).heap[W.heap.size]? = some (.map #[] 0) := World.alloc_heap_new W _
  have hl0 : W.heap.size < (W.alloc (.map #[] 0)).heap.size := by simp
  have hB0 : Below W.heap.size W (W.alloc (.map #[] 0)) := (Below.refl _ _).alloc (Nat.le_refl _) _
  have hi1 : (Instr.mapUpdate 95 (.map (some W.heap.size)) (.int .i64 0) (.func (.func 69) #[.pointer (some ⟨r, 0, none⟩)] #[])).run Try.prog (W.alloc (.map #[] 0)) = .ok () (objSet (W.alloc (.map #[] 0)) W.heap.size (.map #[⟨.int .i64 0, (.func (.func 69) #[.pointer (some ⟨r, 0, none⟩)] #[]), 0⟩] 1)) := emap_put _ W.heap.size 0 0 #[] _ hb0 rfl
  obtain ⟨w1, hw1⟩ : ∃ X, X = objSet (W.alloc (.map #[] 0)) W.heap.size (.map #[⟨.int .i64 0, (.func (.func 69) #[.pointer (some ⟨r, 0, none⟩)] #[]), 0⟩] 1) := ⟨_, rfl⟩
  have hb1 : w1.heap[W.heap.size]? = some (.map #[⟨.int .i64 0, (.func (.func 69) #[.pointer (some ⟨r, 0, none⟩)] #[]), 0⟩] 1) := by rw [hw1]; exact objSet_get hl0 _
  have hl1 : W.heap.size < w1.heap.size := (Array.getElem?_eq_some_iff.1 hb1).1
  have hB1 : Below W.heap.size W w1 := by rw [hw1]; exact objSet_below hB0 (Nat.le_refl _) _
  rw [← hw1] at hi1
  have hi2 : (Instr.mapUpdate 95 (.map (some W.heap.size)) (.int .i64 1) (.func (.func 70) #[.pointer (some ⟨r, 0, none⟩)] #[])).run Try.prog w1 = .ok () (objSet w1 W.heap.size (.map #[⟨.int .i64 0, (.func (.func 69) #[.pointer (some ⟨r, 0, none⟩)] #[]), 0⟩, ⟨.int .i64 1, (.func (.func 70) #[.pointer (some ⟨r, 0, none⟩)] #[]), 1⟩] 2)) := emap_put _ W.heap.size 1 1 #[⟨.int .i64 0, (.func (.func 69) #[.pointer (some ⟨r, 0, none⟩)] #[]), 0⟩] _ hb1 rfl
  obtain ⟨w2, hw2⟩ : ∃ X, X = objSet w1 W.heap.size (.map #[⟨.int .i64 0, (.func (.func 69) #[.pointer (some ⟨r, 0, none⟩)] #[]), 0⟩, ⟨.int .i64 1, (.func (.func 70) #[.pointer (some ⟨r, 0, none⟩)] #[]), 1⟩] 2) := ⟨_, rfl⟩
  have hb2 : w2.heap[W.heap.size]? = some (.map #[⟨.int .i64 0, (.func (.func 69) #[.pointer (some ⟨r, 0, none⟩)] #[]), 0⟩, ⟨.int .i64 1, (.func (.func 70) #[.pointer (some ⟨r, 0, none⟩)] #[]), 1⟩] 2) := by rw [hw2]; exact objSet_get hl1 _
  have hl2 : W.heap.size < w2.heap.size := (Array.getElem?_eq_some_iff.1 hb2).1
  have hB2 : Below W.heap.size W w2 := by rw [hw2]; exact objSet_below hB1 (Nat.le_refl _) _
  rw [← hw2] at hi2
  have hi3 : (Instr.mapUpdate 95 (.map (some W.heap.size)) (.int .i64 2) (.func (.func 71) #[.pointer (some ⟨r, 0, none⟩)] #[])).run Try.prog w2 = .ok () (objSet w2 W.heap.size (.map #[⟨.int .i64 0, (.func (.func 69) #[.pointer (some ⟨r, 0, none⟩)] #[]), 0⟩, ⟨.int .i64 1, (.func (.func 70) #[.pointer (some ⟨r, 0, none⟩)] #[]), 1⟩, ⟨.int .i64 2, (.func (.func 71) #[.pointer (some ⟨r, 0, none⟩)] #[]), 2⟩] 3)) := emap_put _ W.heap.size 2 2 #[⟨.int .i64 0, (.func (.func 69) #[.pointer (some ⟨r, 0, none⟩)] #[]), 0⟩, ⟨.int .i64 1, (.func (.func 70) #[.pointer (some ⟨r, 0, none⟩)] #[]), 1⟩] _ hb2 rfl
  obtain ⟨w3, hw3⟩ : ∃ X, X = objSet w2 W.heap.size (.map #[⟨.int .i64 0, (.func (.func 69) #[.pointer (some ⟨r, 0, none⟩)] #[]), 0⟩, ⟨.int .i64 1, (.func (.func 70) #[.pointer (some ⟨r, 0, none⟩)] #[]), 1⟩, ⟨.int .i64 2, (.func (.func 71) #[.pointer (some ⟨r, 0, none⟩)] #[]), 2⟩] 3) := ⟨_, rfl⟩
  have hb3 : w3.heap[W.heap.size]? = some (.map #[⟨.int .i64 0, (.func (.func 69) #[.pointer (some ⟨r, 0, none⟩)] #[]), 0⟩, ⟨.int .i64 1, (.func (.func 70) #[.pointer (some ⟨r, 0, none⟩)] #[]), 1⟩, ⟨.int .i64 2, (.func (.func 71) #[.pointer (some ⟨r, 0, none⟩)] #[]), 2⟩] 3) := by rw [hw3]; exact objSet_get hl2 _
  have hl3 : W.heap.size < w3.heap.size := (Array.getElem?_eq_some_iff.1 hb3).1
  have hB3 : Below W.heap.size W w3 := by rw [hw3]; exact objSet_below hB2 (Nat.le_refl _) _
  rw [← hw3] at hi3
  have hi4 : (Instr.mapUpdate 95 (.map (some W.heap.size)) (.int .i64 3) (.func (.func 72) #[.pointer (some ⟨r, 0, none⟩)] #[])).run Try.prog w3 = .ok () (objSet w3 W.heap.size (.map #[⟨.int .i64 0, (.func (.func 69) #[.pointer (some ⟨r, 0, none⟩)] #[]), 0⟩, ⟨.int .i64 1, (.func (.func 70) #[.pointer (some ⟨r, 0, none⟩)] #[]), 1⟩, ⟨.int .i64 2, (.func (.func 71) #[.pointer (some ⟨r, 0, none⟩)] #[]), 2⟩, ⟨.int .i64 3, (.func (.func 72) #[.pointer (some ⟨r, 0, none⟩)] #[]), 3⟩] 4)) := emap_put _ W.heap.size 3 3 #[⟨.int .i64 0, (.func (.func 69) #[.pointer (some ⟨r, 0, none⟩)] #[]), 0⟩, ⟨.int .i64 1, (.func (.func 70) #[.pointer (some ⟨r, 0, none⟩)] #[]), 1⟩, ⟨.int .i64 2, (.func (.func 71) #[.pointer (some ⟨r, 0, none⟩)] #[]), 2⟩] _ hb3 rfl
  obtain ⟨w4, hw4⟩ : ∃ X, X = objSet w3 W.heap.size (.map #[⟨.int .i64 0, (.func (.func 69) #[.pointer (some ⟨r, 0, none⟩)] #[]), 0⟩, ⟨.int .i64 1, (.func (.func 70) #[.pointer (some ⟨r, 0, none⟩)] #[]), 1⟩, ⟨.int .i64 2, (.func (.func 71) #[.pointer (some ⟨r, 0, none⟩)] #[]), 2⟩, ⟨.int .i64 3, (.func (.func 72) #[.pointer (some ⟨r, 0, none⟩)] #[]), 3⟩] 4) := ⟨_, rfl⟩
  have hb4 : w4.heap[W.heap.size]? = some (.map #[⟨.int .i64 0, (.func (.func 69) #[.pointer (some ⟨r, 0, none⟩)] #[]), 0⟩, ⟨.int .i64 1, (.func (.func 70) #[.pointer (some ⟨r, 0, none⟩)] #[]), 1⟩, ⟨.int .i64 2, (.func (.func 71) #[.pointer (some ⟨r, 0, none⟩)] #[]), 2⟩, ⟨.int .i64 3, (.func (.func 72) #[.pointer (some ⟨r, 0, none⟩)] #[]), 3⟩] 4) := by rw [hw4]; exact objSet_get hl3 _
  have hl4 : W.heap.size < w4.heap.size := (Array.getElem?_eq_some_iff.1 hb4).1
  have hB4 : Below W.heap.size W w4 := by rw [hw4]; exact objSet_below hB3 (Nat.le_refl _) _
  rw [← hw4] at hi4
  have H4 := Lib.hid hb4
  have HB4 := Lib.hid hB4
  clear hb0 hl0 hB0 hb1 hl1 hB1 hb2 hl2 hB2 hb3 hl3 hB3 hb4 hl4 hB4 hw1 hw2 hw3 hw4
  have hmk : (Instr.makeMap 95 none).run Try.prog W = .ok (.map (some W.heap.size)) (W.alloc (.map #[] 0)) := by simp [Instr.makeMap]
  go_enter Try.func52, Try.ntmps52
  go_wp2
  go_ret
  exact ⟨⟨rfl, H4.out⟩, HB4.out⟩

end Go.Proofs.Ythkfjgfhaicfkaa
/-
  The methods of a reader of package seq: begin, next, close, goOn.
  Conditions: the memory may be, the read may be.
-/
namespace Go.Proofs.Ythkfjgfhaicfkaa
open Go.RowKit Go.Shelf
attribute [local go_sem] Oper.semAt_some

/-- Block r is a reader. -/
def RBox (W : World) (r : Nat) (s : RdM) (v : Value) (q : Nat) : Prop := W.heap[r]? = some (.cells #[.int .i64 s.a, .int .i64 s.f, .int .i64 s.m, .int .i64 s.p, .int .u64 s.b, v, .int .i64 s.t, accV q] 92 (0, 0))
theorem RBox.lt {w : World} {z : Nat} {s : RdM} {v : Value} {q : Nat} (h : RBox w z s v q) : z < w.heap.size := (Array.getElem?_eq_some_iff.1 h).1
theorem RBox.keeps {S : Nat → Prop} {w w' : World} {z : Nat} {s : RdM} {v : Value} {q : Nat} (h : RBox w z s v q) (hk : Keeps S w w') (hz : ¬ S z) : RBox w' z s v q := (hk.block z h.lt hz).trans h
theorem RBox.below {w w' : World} {z : Nat} {s : RdM} {v : Value} {q : Nat} (h : RBox w z s v q) (hb : Below w.heap.size w w') : RBox w' z s v q := (hb.block z h.lt).trans h
theorem RBox.cells {w : World} {z : Nat} {s : RdM} {v : Value} {q : Nat} (h : RBox w z s v q) : (w.cell? ⟨z, 0, none⟩ = some (.int .i64 s.a) ∧ w.cell? ⟨z, 1, none⟩ = some (.int .i64 s.f) ∧ w.cell? ⟨z, 2, none⟩ = some (.int .i64 s.m) ∧ w.cell? ⟨z, 3, none⟩ = some (.int .i64 s.p)) ∧ w.cell? ⟨z, 4, none⟩ = some (.int .u64 s.b) ∧ w.cell? ⟨z, 5, none⟩ = some v ∧ w.cell? ⟨z, 6, none⟩ = some (.int .i64 s.t) ∧ w.cell? ⟨z, 7, none⟩ = some (accV q) := by
  have h' : w.heap[z]? = _ := h
  simp [World.cell?, h']
theorem RBox.marks {w : World} {z : Nat} {s : RdM} {v : Value} {q : Nat} (h : RBox w z s v q) (i : Nat) : w.frozen? ⟨z, i, none⟩ = false := by
  have h' : w.heap[z]? = _ := h
  simp [World.frozen?, h']
theorem RBox.setP {w : World} {z : Nat} {s : RdM} {v : Value} {q : Nat} (h : RBox w z s v q) (p : Int) : RBox (w.setCell ⟨z, 3, none⟩ (.int .i64 p)) z { s with p := p } v q := by
  have h' : w.heap[z]? = _ := h
  simp [RBox, World.setCell, Array.getElem?_modify, h']
theorem RBox.setT {w : World} {z : Nat} {s : RdM} {v : Value} {q : Nat} (h : RBox w z s v q) (p : Int) : RBox (w.setCell ⟨z, 6, none⟩ (.int .i64 p)) z { s with t := p } v q := by
  have h' : w.heap[z]? = _ := h
  simp [RBox, World.setCell, Array.getElem?_modify, h']
theorem RBox.setB {w : World} {z : Nat} {s : RdM} {v : Value} {q : Nat} (h : RBox w z s v q) (p : Int) : RBox (w.setCell ⟨z, 4, none⟩ (.int .u64 p)) z { s with b := p } v q := by
  have h' : w.heap[z]? = _ := h
  simp [RBox, World.setCell, Array.getElem?_modify, h']
theorem RBox.setV {w : World} {z : Nat} {s : RdM} {v : Value} {q : Nat} (h : RBox w z s v q) (p : Value) : RBox (w.setCell ⟨z, 5, none⟩ p) z s p q := by
  have h' : w.heap[z]? = _ := h
  simp [RBox, World.setCell, Array.getElem?_modify, h']

/-- Values that lie in none of the blocks of S. -/
def VV (S : Nat → Prop) (W : World) (v : Value) (vs : List Int) : Prop := ∃ p c, v = .slice p vs.length c ∧ (vs.length ≤ c ∧ c ≤ 9223372036854775807) ∧ ((p = none ∧ vs = [] ∧ c = 0) ∨ ∃ b off, p = some ⟨b, off, none⟩ ∧ ¬ S b ∧ ∀ i (h : i < vs.length), W.cell? ⟨b, off + i, none⟩ = some (.int .u64 vs[i]))
theorem VV.keeps {S T : Nat → Prop} {W W' : World} {v : Value} {vs : List Int} (h : VV S W v vs) (hk : Keeps T W W') (hT : ∀ k, T k → S k) : VV S W' v vs := by
  obtain ⟨p, c, rfl, hn, hc⟩ := h
  refine ⟨p, c, rfl, hn, ?_⟩
  rcases hc with hc | ⟨b, off, rfl, hS, hcs⟩
  · exact .inl hc
  · exact .inr ⟨b, off, rfl, hS, fun i hi => hk.cell (hcs i hi) (fun h => hS (hT _ h))⟩
theorem VV.nums {S : Nat → Prop} {W : World} {v : Value} {vs : List Int} (h : VV S W v vs) : NumsAt W .u64 v vs := by
  obtain ⟨p, c, rfl, hn, hc⟩ := h
  refine ⟨p, c, rfl, fun hne => ?_⟩
  rcases hc with ⟨_, hc, _⟩ | ⟨b, off, rfl, hS, hcs⟩
  · exact absurd hc hne
  · exact ⟨b, off, rfl, hcs⟩
theorem VV.nil (S : Nat → Prop) (W : World) : VV S W (.slice none 0 0) [] := ⟨none, 0, rfl, ⟨Nat.le_refl _, by decide⟩, .inl ⟨rfl, rfl, rfl⟩⟩
theorem VV.owns {S : Nat → Prop} {W : World} {B : Nat} {v : Value} {vs : List Int} {n : Nat} (h : W.ownsRow B 27 1 v n (vs.map (Value.int .u64))) (hn : n = vs.length) (hS : ∀ k, S k → k < B) : VV S W v vs := by
  subst hn
  rcases h.2 with ⟨rfl, h0⟩ | ⟨g, cap, cur, rfl, hB, hb, h1, h2, _⟩
  · obtain rfl : vs = [] := List.eq_nil_of_length_eq_zero h0
    exact VV.nil S W
  · refine ⟨_, _, rfl, ⟨h1, by unfold maxLen at h2; omega⟩, .inr ⟨g, 0, rfl, fun hs => by have := hS g hs; omega, fun i hi => ?_⟩⟩
    have h3 := h.cellAt i (by omega)
    rw [List.getElem?_eq_getElem (by simpa using hi)] at h3
    simpa using h3

set_option maxRecDepth 100000 in
set_option maxHeartbeats 4000000 in
theorem goOn_eq (r q : Nat) (a f m ph b t : Int) (p : Option Addr) (n c : Nat) (W : World) (hR : RBox W r ⟨a, f, m, ph, b, t⟩ (.slice p n c) q) (hm : m = (n : Int)) :
    Calls Try.prog 83 #[.pointer (some ⟨r, 0, none⟩)] W fun e w' => e = .returned (.tuple #[]) ∧ RBox w' r ⟨a, f, m, 3, b, t⟩ (.slice p n c) q ∧ Keeps (fun k => k = r) W w' := by
  subst hm
  have hR2 := hR.setP 2
  have HK2 := Lib.hid (Keeps.setCell W (S := fun k => k = r) (p := ⟨r, 3, none⟩) rfl (.int .i64 2))
  obtain ⟨w1, hw1⟩ : ∃ X : World, X = W.setCell ⟨r, 3, none⟩ (.int .i64 2) := ⟨_, rfl⟩
  rw [← hw1] at hR2 HK2
  obtain ⟨⟨h0, h1, h2, h3⟩, h4, h5, h6, h7⟩ := hR.cells
  have hf3 := hR.marks 3
  obtain ⟨⟨k0, k1, k2, k3⟩, k4, k5, k6, k7⟩ := hR2.cells
  have kf3 := hR2.marks 3
  have HR2 := Lib.hid hR2
  have HW1 := Lib.hid hw1
  dsimp only at h3 k2 k3
  clear hR hw1 hR2 h0 h1 h2 h4 h5 h6 h7 k0 k1 k4 k6 k7
  go_enter Try.func83, Try.ntmps83
  go_upto_region 1 with fail
  rw [← HW1.out]
  clear h3 hf3 HW1
  go_quiet (fail)
  go_wp2
  exact bodyPost_end (v := .tuple #[]) (by simp [results, Try.results83, go_sem]) rfl ⟨rfl, RBox.setP (w := w1.drewN _) (show RBox (w1.drewN _) r _ _ q from HR2.out) 3, (HK2.out.drewN _).trans (Keeps.setCell _ (S := fun k => k = r) (p := ⟨r, 3, none⟩) rfl _)⟩
set_option maxRecDepth 100000 in
set_option maxHeartbeats 4000000 in
theorem goOn_ne (r q : Nat) (a f m ph b t : Int) (p : Option Addr) (n c : Nat) (W : World) (hR : RBox W r ⟨a, f, m, ph, b, t⟩ (.slice p n c) q) (hm : ¬ (n : Int) = m) :
    Calls Try.prog 83 #[.pointer (some ⟨r, 0, none⟩)] W fun e w' => e = .returned (.tuple #[]) ∧ RBox w' r ⟨a, f, m, 2, b, t⟩ (.slice p n c) q ∧ Keeps (fun k => k = r) W w' := by
  have hb : ((n : Int) == m) = false := by simpa using hm
  have hR2 := hR.setP 2
  have HK2 := Lib.hid (Keeps.setCell W (S := fun k => k = r) (p := ⟨r, 3, none⟩) rfl (.int .i64 2))
  obtain ⟨w1, hw1⟩ : ∃ X : World, X = W.setCell ⟨r, 3, none⟩ (.int .i64 2) := ⟨_, rfl⟩
  rw [← hw1] at hR2 HK2
  obtain ⟨⟨h0, h1, h2, h3⟩, h4, h5, h6, h7⟩ := hR.cells
  have hf3 := hR.marks 3
  obtain ⟨⟨k0, k1, k2, k3⟩, k4, k5, k6, k7⟩ := hR2.cells
  have kf3 := hR2.marks 3
  have HR2 := Lib.hid hR2
  have HW1 := Lib.hid hw1
  dsimp only at h3 k2 k3
  clear hR hw1 hR2 h0 h1 h2 h4 h5 h6 h7 k0 k1 k4 k6 k7
  go_enter Try.func83, Try.ntmps83
  go_upto_region 1 with fail
  rw [← HW1.out]
  clear h3 hf3 HW1
  go_quiet (fail)
  go_wp2
  exact bodyPost_end (v := .tuple #[]) (by simp [results, Try.results83, go_sem]) rfl ⟨rfl, HR2.out, HK2.out.drewN _⟩

end Go.Proofs.Ythkfjgfhaicfkaa
/-
  begin, of a reader of package seq.
  Conditions: the memory may be, the read may be.
-/
namespace Go.Proofs.Ythkfjgfhaicfkaa
open Go.RowKit Go.Shelf
attribute [local go_sem] Oper.semAt_some

/-- What a method of a reader leaves. -/
def MDone (B q z gw gl cw cl r : Nat) (us : List Int) (ms : List Bool) (u d : Bool) (s : RdM) (v : Value) (W : World) (e : Ending) (w' : World) : Prop :=
  e = .returned (.bool d) ∧ AccF B q z gw gl cw cl us ms u w' ∧ RBox w' r s v q ∧ Keeps (fun k => k = z ∨ k = gw ∨ k = r) W w'
theorem AccF.drewN {B q z gw gl cw cl : Nat} {us : List Int} {ms : List Bool} {u : Bool} {W : World} (h : AccF B q z gw gl cw cl us ms u W) (n : Nat) : AccF B q z gw gl cw cl us ms u (W.drewN n) := h.below (below_drewN (Below.refl _ _) n)
theorem AccF.drew {B q z gw gl cw cl : Nat} {us : List Int} {ms : List Bool} {u : Bool} {W : World} (h : AccF B q z gw gl cw cl us ms u W) : AccF B q z gw gl cw cl us ms u W.drew := h.below (Below.refl _ _).drew
theorem AccF.apart {B q z gw gl cw cl r : Nat} {us : List Int} {ms : List Bool} {u : Bool} {W : World} {s : RdM} {v : Value} (h : AccF B q z gw gl cw cl us ms u W) (hR : RBox W r s v q) : r ≠ q ∧ r ≠ z ∧ r ≠ gw ∧ r ≠ gl := by
  have hq : W.heap[q]? = _ := h.x
  have hz : W.heap[z]? = _ := h.box
  have hr : W.heap[r]? = _ := hR
  obtain ⟨c1, f1, h1⟩ := Lib.ownsRow_kind h.words gw rfl
  obtain ⟨c2, f2, h2⟩ := Lib.ownsRow_kind h.lives gl rfl
  refine ⟨?_, ?_, ?_, ?_⟩ <;> rintro rfl <;> simp_all
theorem goOn_c (r q : Nat) (a f m ph b t : Int) (p : Option Addr) (n c : Nat) (W : World) (hR : RBox W r ⟨a, f, m, ph, b, t⟩ (.slice p n c) q) :
    Calls Try.prog 83 #[.pointer (some ⟨r, 0, none⟩)] W fun e w' => e = .returned (.tuple #[]) ∧ RBox w' r ⟨a, f, m, phR m n, b, t⟩ (.slice p n c) q ∧ Keeps (fun k => k = r) W w' := by
  by_cases hm : (n : Int) = m
  · have e : phR m n = 3 := by unfold phR; rw [if_pos hm]
    rw [e]
    exact goOn_eq r q a f m ph b t p n c W hR hm.symm
  · have e : phR m n = 2 := by unfold phR; rw [if_neg hm]
    rw [e]
    exact goOn_ne r q a f m ph b t p n c W hR hm
set_option maxRecDepth 100000 in
set_option maxHeartbeats 4000000 in
theorem rbegin_no (B q z gw gl cw cl r : Nat) (us : List Int) (ms : List Bool) (u : Bool) (a f m ph b t : Int) (v : Value) (W : World) (hF : AccF B q z gw gl cw cl us ms u W) (hR : RBox W r ⟨a, f, m, ph, b, t⟩ v q) (hr : rightB us ms = true) (ha : 0 ≤ a) (hm : a ≤ 4096) (us' : List Int) (u' : Bool) (h : Int)  (hacc : accM us ms u 1 (a) 0 0 = (us', u', h, false)) :
    Calls Try.prog 65 #[.pointer (some ⟨r, 0, none⟩)] W fun e w' => MDone B q z gw gl cw cl r us' ms u' false ⟨a, f, m, ph, b, t⟩ v W e w' := by
  obtain ⟨nq, nz, nw, nl⟩ := hF.apart hR
  have HC := Lib.hid (fun (Z : World) (hz : AccF B q z gw gl cw cl us ms u Z) => hacc ▸ qload_c B q z gw gl cw cl us ms u (a) Z hz hr (by omega) (by omega))
  have HF := Lib.hid hF
  have HR := Lib.hid hR
  obtain ⟨⟨h0, h1, h2, h3⟩, h4, h5, h6, h7⟩ := hR.cells
  dsimp only at h0 h1 h2 h3 h4 h6
  clear hF hR hr hacc h1 h2 h3 h4 h5 h6
  go_enter Try.func65, Try.ntmps65
  go_upto_region 1 with fail
  go_region_held3 (fun w' => w'.cell? ⟨r, 0, none⟩ = some (.int .i64 a) ∧ w'.cell? ⟨r, 7, none⟩ = some (accV q))
    (first
      | exact ⟨h0, h7⟩
      | go_keep
      | (go_split_ands; exact ⟨hk1.cell (by assumption) (by show ¬ (r = z ∨ r = gw); omega), hk1.cell (by assumption) (by show ¬ (r = z ∨ r = gw); omega)⟩))
    (first | (go_at_call 82; refine (HC.out _ HF.out.drew).mono ?_; rintro e w1 ⟨rfl, hF1, hk1⟩))
  all_goals
    have HF1 := Lib.hid hF1
    have HK1 := Lib.hid ((Keeps.drewN (Keeps.refl (fun k => k = z ∨ k = gw) W) 1).trans hk1)
    have HR1 := Lib.hid (HR.out.keeps HK1.out (by show ¬ (r = z ∨ r = gw); omega))
    clear hF1 hk1 HC HF HR h0 h7
    rename_i hHeld
    clear hHeld
    go_wp2
    exact bodyPost_ret (v := .bool false) (by simp [results, Try.results65, go_sem]) rfl ⟨rfl, HF1.out, HR1.out, HK1.out.sub fun k _ e => by rcases e with e | e; exact .inl e; exact .inr (.inl e)⟩
set_option maxRecDepth 100000 in
set_option maxHeartbeats 4000000 in
theorem rbegin_odd (B q z gw gl cw cl r : Nat) (us : List Int) (ms : List Bool) (u : Bool) (a f m ph b t : Int) (v : Value) (W : World) (hF : AccF B q z gw gl cw cl us ms u W) (hR : RBox W r ⟨a, f, m, ph, b, t⟩ v q) (hr : rightB us ms = true) (ha : 0 ≤ a) (hm : a ≤ 4096) (us' : List Int) (u' : Bool) (h : Int) (hh : 0 ≤ h ∧ h ≤ 18446744073709551615) (ho : h % 2 = 1) (hacc : accM us ms u 1 (a) 0 0 = (us', u', h, true)) :
    Calls Try.prog 65 #[.pointer (some ⟨r, 0, none⟩)] W fun e w' => MDone B q z gw gl cw cl r us' ms u' true ⟨a, f, m, ph, b, t⟩ v W e w' := by
  obtain ⟨nq, nz, nw, nl⟩ := hF.apart hR
  have HC := Lib.hid (fun (Z : World) (hz : AccF B q z gw gl cw cl us ms u Z) => hacc ▸ qload_c B q z gw gl cw cl us ms u (a) Z hz hr (by omega) (by omega))
  have HF := Lib.hid hF
  have HR := Lib.hid hR
  obtain ⟨⟨h0, h1, h2, h3⟩, h4, h5, h6, h7⟩ := hR.cells
  dsimp only at h0 h1 h2 h3 h4 h6
  have HH := Lib.hid hh
  clear hF hR hr hacc h1 h2 h3 h4 h5 h6
  go_enter Try.func65, Try.ntmps65
  go_upto_region 1 with fail
  go_region_held3 (fun w' => w'.cell? ⟨r, 0, none⟩ = some (.int .i64 a) ∧ w'.cell? ⟨r, 7, none⟩ = some (accV q))
    (first
      | exact ⟨h0, h7⟩
      | go_keep
      | (go_split_ands; exact ⟨hk1.cell (by assumption) (by show ¬ (r = z ∨ r = gw); omega), hk1.cell (by assumption) (by show ¬ (r = z ∨ r = gw); omega)⟩))
    (first | (go_at_call 82; refine (HC.out _ HF.out.drew).mono ?_; rintro e w1 ⟨rfl, hF1, hk1⟩))
  all_goals
    have HF1 := Lib.hid hF1
    have HK1 := Lib.hid ((Keeps.drewN (Keeps.refl (fun k => k = z ∨ k = gw) W) 1).trans hk1)
    have HR1 := Lib.hid (HR.out.keeps HK1.out (by show ¬ (r = z ∨ r = gw); omega))
    clear hF1 hk1 HC HF HR h0 h7
    rename_i hHeld
    clear hHeld
    go_wp2_with fail
    refine (odd_c h HH.out w1).mono ?_
    rintro e w2 ⟨rfl, hb2⟩
    rw [show decide (h % 2 = 0) = false by rw [ho]; decide]
    have HF2 := Lib.hid (HF1.out.below hb2)
    have HR2 := Lib.hid (HR1.out.below hb2)
    have HK2 := Lib.hid (HK1.out.trans (Keeps.of_below hb2))
    clear hb2 HF1 HR1 HK1
    go_wp2
    exact bodyPost_ret (v := .bool true) (by simp [results, Try.results65, go_sem]) rfl ⟨rfl, HF2.out, HR2.out, HK2.out.sub fun k _ e => by rcases e with e | e; exact .inl e; exact .inr (.inl e)⟩
set_option maxRecDepth 100000 in
set_option maxHeartbeats 4000000 in
theorem rbegin_even (B q z gw gl cw cl r : Nat) (us : List Int) (ms : List Bool) (u : Bool) (a f m ph b t : Int) (v : Value) (W : World) (hF : AccF B q z gw gl cw cl us ms u W) (hR : RBox W r ⟨a, f, m, ph, b, t⟩ v q) (hr : rightB us ms = true) (ha : 0 ≤ a) (hm : a ≤ 4096) (us' : List Int) (u' : Bool) (h : Int) (hh : 0 ≤ h ∧ h ≤ 18446744073709551615) (ho : h % 2 = 0) (hacc : accM us ms u 1 (a) 0 0 = (us', u', h, true)) :
    Calls Try.prog 65 #[.pointer (some ⟨r, 0, none⟩)] W fun e w' => MDone B q z gw gl cw cl r us' ms u' true ⟨a, f, m, phR m 0, h, t⟩ (.slice none 0 0) W e w' := by
  obtain ⟨nq, nz, nw, nl⟩ := hF.apart hR
  have HC := Lib.hid (fun (Z : World) (hz : AccF B q z gw gl cw cl us ms u Z) => hacc ▸ qload_c B q z gw gl cw cl us ms u (a) Z hz hr (by omega) (by omega))
  have HF := Lib.hid hF
  have HR := Lib.hid hR
  obtain ⟨⟨h0, h1, h2, h3⟩, h4, h5, h6, h7⟩ := hR.cells
  dsimp only at h0 h1 h2 h3 h4 h6
  have HH := Lib.hid hh
  clear hF hR hr hacc h1 h2 h3 h4 h5 h6
  go_enter Try.func65, Try.ntmps65
  go_upto_region 1 with fail
  go_region_held3 (fun w' => w'.cell? ⟨r, 0, none⟩ = some (.int .i64 a) ∧ w'.cell? ⟨r, 7, none⟩ = some (accV q))
    (first
      | exact ⟨h0, h7⟩
      | go_keep
      | (go_split_ands; exact ⟨hk1.cell (by assumption) (by show ¬ (r = z ∨ r = gw); omega), hk1.cell (by assumption) (by show ¬ (r = z ∨ r = gw); omega)⟩))
    (first | (go_at_call 82; refine (HC.out _ HF.out.drew).mono ?_; rintro e w1 ⟨rfl, hF1, hk1⟩))
  all_goals
    have HF1 := Lib.hid hF1
    have HK1 := Lib.hid ((Keeps.drewN (Keeps.refl (fun k => k = z ∨ k = gw) W) 1).trans hk1)
    have HR1 := Lib.hid (HR.out.keeps HK1.out (by show ¬ (r = z ∨ r = gw); omega))
    clear hF1 hk1 HC HF HR h0 h7
    rename_i hHeld
    clear hHeld
    go_wp2_with fail
    refine (odd_c h HH.out w1).mono ?_
    rintro e w2 ⟨rfl, hb2⟩
    rw [show decide (h % 2 = 0) = true by rw [ho]; decide]
    have HF2 := Lib.hid (HF1.out.below hb2)
    have hR2 := HR1.out.below hb2
    have HK2 := Lib.hid (HK1.out.trans (Keeps.of_below hb2))
    obtain ⟨-, k4, k5, -, -⟩ := hR2.cells
    have m4 := hR2.marks 4
    have m5 := hR2.marks 5
    have HR3 := Lib.hid ((hR2.setB h).setV (.slice none 0 0))
    obtain ⟨w3, hw3⟩ : ∃ X : World, X = (w2.setCell ⟨r, 4, none⟩ (.int .u64 h)).setCell ⟨r, 5, none⟩ (.slice none 0 0) := ⟨_, rfl⟩
    have hk3 : Keeps (fun k => k = r) w2 w3 := by rw [hw3]; exact (Keeps.setCell w2 (S := (· = r)) (p := ⟨r, 4, none⟩) rfl _).trans (Keeps.setCell _ (S := (· = r)) (p := ⟨r, 5, none⟩) rfl _)
    rw [← hw3] at HR3
    have HF3 := Lib.hid (HF2.out.keeps hk3 (by show ¬ q = r; omega) (by show ¬ z = r; omega) (by show ¬ gw = r; omega) (by show ¬ gl = r; omega))
    have HK3 := Lib.hid ((HK2.out.sub (T := fun k => k = z ∨ k = gw ∨ k = r) fun k _ e => by rcases e with e | e; exact .inl e; exact .inr (.inl e)).trans (hk3.sub fun k _ e => .inr (.inr e)))
    have HW3 := Lib.hid hw3
    clear hb2 HF1 HR1 HK1 hR2 hk3 HF2 HK2 hw3
    dsimp only at k4
    go_wp2_with fail
    rw [← HW3.out]
    clear k4 k5 m4 m5 HW3
    refine (goOn_c r q a f m ph h t none 0 0 w3 HR3.out).mono ?_
    rintro e w4 ⟨rfl, hR4, hk4⟩
    have HR4 := Lib.hid hR4
    have HF4 := Lib.hid (HF3.out.keeps hk4 (by show ¬ q = r; omega) (by show ¬ z = r; omega) (by show ¬ gw = r; omega) (by show ¬ gl = r; omega))
    have HK4 := Lib.hid (HK3.out.trans (hk4.sub fun k _ e => .inr (.inr e)))
    clear hR4 hk4 HF3 HK3 HR3
    go_wp2
    exact bodyPost_ret (v := .bool true) (by simp [results, Try.results65, go_sem]) rfl ⟨rfl, HF4.out, HR4.out, HK4.out⟩

end Go.Proofs.Ythkfjgfhaicfkaa
namespace Go.Proofs.Ythkfjgfhaicfkaa
open Go.RowKit Go.Shelf
attribute [local go_sem] Oper.semAt_some

/-- append, by what it comes to. -/
theorem wpList_append_by {P : Program} (w : World) {ops : Array Oper} {rest : List Oper} {o : Oper} {a : Act} {Q : Exit → Act → World → Prop} (hgd : o.guard = none) (s x : Operand) (t tx : TypeId)
    (ho : o.op = .call { callee := .builtin .append, args := #[s, x], argTypes := #[t, tx] }) (v xv : Value) (hv : a.eval s = v) (hx : a.eval x = xv) (R : Value → World → Prop)
    (hr : ∃ v' w', (Builtin.append_ #[t, tx] o.type #[v, xv]).run P w = .ok v' w' ∧ R v' w') (hK : ∀ v' w', R v' w' → wpList P ops Q rest (a.put o.dst v') w') : wpList P ops Q (o :: rest) a w := by
  refine wpList_plain hgd fun K hK' => ?_
  obtain ⟨v', w', hrun, r'⟩ := hr
  unfold Oper.wp
  simp [execOp, ho, resolve, invoke, builtin, hv, hx, hrun, Result.andThen]
  exact hK' _ _ (hK v' w' r')
theorem append_fresh (W : World) (p : Option Addr) (vs : List Int) (x : Int) (g : Nat) (hp : (p = none ∧ vs = []) ∨ ∃ b off, p = some ⟨b, off, none⟩ ∧ ∀ i (h : i < vs.length), W.cell? ⟨b, off + i, none⟩ = some (.int .u64 vs[i])) (hn : vs.length ≤ 1048576) (hx : W.cell? ⟨g, 0, none⟩ = some (.int .u64 x)) :
    ∃ v' w', (Builtin.append_ #[24, 24] 24 #[.slice p vs.length vs.length, .slice (some ⟨g, 0, none⟩) 1 1]).run Try.prog W = .ok v' w' ∧ w'.ownsRow W.heap.size 27 1 v' (vs.length + 1) ((vs ++ [x]).map (Value.int .u64)) ∧ W.grownBy w' none := by
  obtain ⟨i0, hi, hz0, hz1, hz2⟩ := info_parts eword_info
  have hnew : ∀ j u, [Value.int .u64 x][j]? = some u → W.cell? ((⟨g, 0, none⟩ : Addr).add j) = some u := by
    intro j u hj
    have : j = 0 := by have := (List.getElem?_eq_some_iff.1 hj).1; simp at this; omega
    subst this
    rw [addr_add_off]
    simp at hj
    rw [← hj]; exact hx
  rw [List.map_append]
  rcases hp with ⟨rfl, rfl⟩ | ⟨b, off, rfl, hcs⟩
  · obtain ⟨v', w', hr, h2, h3, -, -⟩ := run_append_own_at (P := Try.prog) W W.heap.size 24 24 27 i0 (.int .u64 0) 1 8 Try.underlying24 hi hz0 hz1 hz2 rfl (by omega) (.slice none 0 0) 0 [] ⟨rfl, .inl ⟨rfl, rfl⟩⟩ ⟨g, 0, none⟩ 1 1 [.int .u64 x] rfl hnew (by intro u hu; simp at hu; rw [hu]; rfl) (by unfold maxLen; omega) (by omega) (Nat.le_refl _)
    exact ⟨v', w', hr, h2, h3⟩
  · exact run_append_arg_grows (P := Try.prog) W 24 24 27 i0 (.int .u64 0) 1 8 Try.underlying24 hi hz0 hz1 hz2 rfl (by omega) ⟨b, off, none⟩ vs.length vs.length (vs.map (Value.int .u64)) (by simp) (fun j u hj => by
      obtain ⟨hj1, rfl⟩ := List.getElem?_eq_some_iff.1 hj
      rw [List.length_map] at hj1
      rw [addr_add_off, List.getElem_map]
      exact hcs j hj1) ⟨g, 0, none⟩ 1 1 [.int .u64 x] rfl hnew (by omega) (by unfold maxLen; omega) (by omega)
set_option maxRecDepth 100000 in
set_option maxHeartbeats 4000000 in
theorem rnext_no (B q z gw gl cw cl r : Nat) (us : List Int) (ms : List Bool) (u : Bool) (a f m ph b t : Int) (v : Value) (S : Nat → Prop) (vs : List Int) (W : World) (hF : AccF B q z gw gl cw cl us ms u W) (hR : RBox W r ⟨a, f, m, ph, b, t⟩ v q) (hr : rightB us ms = true) (hV : VV S W v vs) (hl : vs.length ≤ 16) (hf0 : 0 ≤ f) (hf1 : f ≤ 4096) (us' : List Int) (u' : Bool) (h : Int)  (hacc : accM us ms u 1 (f + (vs.length : Int)) 0 0 = (us', u', h, false)) :
    Calls Try.prog 66 #[.pointer (some ⟨r, 0, none⟩)] W fun e w' => e = .returned (.bool false) ∧ AccF B q z gw gl cw cl us' ms u' w' ∧ RBox w' r ⟨a, f, m, ph, b, t⟩ v q ∧ Keeps (fun k => k = z ∨ k = gw ∨ k = r) W w' := by
  obtain ⟨p, c, rfl, ⟨hnc, hcm⟩, hpc⟩ := hV
  have HPC := Lib.hid hpc
  obtain ⟨n, hn⟩ : ∃ n, n = vs.length := ⟨_, rfl⟩
  have HN := Lib.hid hn
  rw [← hn] at hacc hR hnc hl
  have hadd : IntKind.i64.wrap (f + (n : Int)) = f + (n : Int) := IntWalk.i64_in _ (by omega)
  have HADD := Lib.hid hadd
  obtain ⟨nq, nz, nw, nl⟩ := hF.apart hR
  have HC := Lib.hid (fun (Z : World) (hz : AccF B q z gw gl cw cl us ms u Z) => hacc ▸ qload_c B q z gw gl cw cl us ms u (f + (n : Int)) Z hz hr (by omega) (by omega))
  have HF := Lib.hid hF
  have HR := Lib.hid hR
  obtain ⟨⟨h0, h1, h2, h3⟩, h4, h5, h6, h7⟩ := hR.cells
  dsimp only at h0 h1 h2 h3 h4 h6
  clear hpc hn hadd hF hR hr hacc h0 h2 h3 h4 h6
  have hadd := HADD.out
  rw [← HN.out]
  go_enter Try.func66, Try.ntmps66
  go_upto_region 2 with fail
  clear h5
  go_region_held3 (fun w' => w'.cell? ⟨r, 1, none⟩ = some (.int .i64 f) ∧ w'.cell? ⟨r, 7, none⟩ = some (accV q))
    (first
      | exact ⟨h1, h7⟩
      | go_keep
      | (go_split_ands; exact ⟨hk1.cell (by assumption) (by show ¬ (r = z ∨ r = gw); omega), hk1.cell (by assumption) (by show ¬ (r = z ∨ r = gw); omega)⟩))
    (first | (go_at_call 82; refine (HC.out _ HF.out.drew).mono ?_; rintro e w1 ⟨rfl, hF1, hk1⟩))
  all_goals
    have HF1 := Lib.hid hF1
    have HK1 := Lib.hid ((Keeps.drewN (Keeps.refl (fun k => k = z ∨ k = gw) W) 1).trans hk1)
    have HR1 := Lib.hid (HR.out.keeps HK1.out (by show ¬ (r = z ∨ r = gw); omega))
    clear hF1 hk1 HC HF HR h1 h7 hadd
    rename_i hHeld
    clear hHeld
    go_wp2
    exact bodyPost_ret (v := .bool false) (by simp [results, Try.results66, go_sem]) rfl ⟨rfl, HF1.out, HR1.out, HK1.out.sub fun k _ e => by rcases e with e | e; exact .inl e; exact .inr (.inl e)⟩
set_option maxRecDepth 100000 in
set_option maxHeartbeats 4000000 in
theorem rnext_yes (B q z gw gl cw cl r : Nat) (us : List Int) (ms : List Bool) (u : Bool) (a f m ph b t : Int) (v : Value) (S : Nat → Prop) (vs : List Int) (W : World) (hF : AccF B q z gw gl cw cl us ms u W) (hR : RBox W r ⟨a, f, m, ph, b, t⟩ v q) (hr : rightB us ms = true) (hS : ∀ k, (k = z ∨ k = gw ∨ k = r) → S k) (hSW : ∀ k, S k → k < W.heap.size) (hV : VV S W v vs) (hl : vs.length ≤ 16) (hf0 : 0 ≤ f) (hf1 : f ≤ 4096) (us' : List Int) (u' : Bool) (h : Int)  (hacc : accM us ms u 1 (f + (vs.length : Int)) 0 0 = (us', u', h, true)) :
    Calls Try.prog 66 #[.pointer (some ⟨r, 0, none⟩)] W fun e w' => e = .returned (.bool true) ∧ AccF B q z gw gl cw cl us' ms u' w' ∧ (∃ v', RBox w' r ⟨a, f, m, phR m (vs.length + 1), b, t⟩ v' q ∧ VV S w' v' (vs ++ [h])) ∧ Keeps (fun k => k = z ∨ k = gw ∨ k = r) W w' := by
  obtain ⟨p, c, rfl, ⟨hnc, hcm⟩, hpc⟩ := hV
  have HPC := Lib.hid hpc
  obtain ⟨n, hn⟩ : ∃ n, n = vs.length := ⟨_, rfl⟩
  have HN := Lib.hid hn
  rw [← hn] at hacc hR hnc hl
  have hadd : IntKind.i64.wrap (f + (n : Int)) = f + (n : Int) := IntWalk.i64_in _ (by omega)
  have HADD := Lib.hid hadd
  obtain ⟨nq, nz, nw, nl⟩ := hF.apart hR
  have HC := Lib.hid (fun (Z : World) (hz : AccF B q z gw gl cw cl us ms u Z) => hacc ▸ qload_c B q z gw gl cw cl us ms u (f + (n : Int)) Z hz hr (by omega) (by omega))
  have HF := Lib.hid hF
  have HR := Lib.hid hR
  obtain ⟨⟨h0, h1, h2, h3⟩, h4, h5, h6, h7⟩ := hR.cells
  dsimp only at h0 h1 h2 h3 h4 h6
  clear hpc hn hadd hF hR hr hacc h0 h2 h3 h4 h6
  have hadd := HADD.out
  rw [← HN.out]
  go_enter Try.func66, Try.ntmps66
  go_upto_region 2 with fail
  clear h5
  go_region_held3 (fun w' => w'.cell? ⟨r, 1, none⟩ = some (.int .i64 f) ∧ w'.cell? ⟨r, 7, none⟩ = some (accV q))
    (first
      | exact ⟨h1, h7⟩
      | go_keep
      | (go_split_ands; exact ⟨hk1.cell (by assumption) (by show ¬ (r = z ∨ r = gw); omega), hk1.cell (by assumption) (by show ¬ (r = z ∨ r = gw); omega)⟩))
    (first | (go_at_call 82; refine (HC.out _ HF.out.drew).mono ?_; rintro e w1 ⟨rfl, hF1, hk1⟩))
  all_goals
    have HF1 := Lib.hid hF1
    have HK1 := Lib.hid ((Keeps.drewN (Keeps.refl (fun k => k = z ∨ k = gw) W) 1).trans hk1)
    have HR1 := Lib.hid (HR.out.keeps HK1.out (by show ¬ (r = z ∨ r = gw); omega))
    clear hF1 hk1 HC HF HR h1 h7 hadd
    rename_i hHeld
    clear hHeld
    have HP1 : (p = none ∧ vs = [] ∧ c = 0) ∨ ∃ b off, p = some ⟨b, off, none⟩ ∧ ∀ i (h : i < vs.length), w1.cell? ⟨b, off + i, none⟩ = some (.int .u64 vs[i]) := by
      rcases HPC.out with hp | ⟨b, off, rfl, hb, hcs⟩
      · exact .inl hp
      · exact .inr ⟨b, off, rfl, fun i hi => HK1.out.cell (hcs i hi) (fun e => hb (hS _ (by rcases e with e | e; exact .inl e; exact .inr (.inl e))))⟩
    obtain ⟨w2, hw2⟩ : ∃ X : World, X = w1.alloc (.cells #[.int .u64 h] 27) := ⟨_, rfl⟩
    obtain ⟨y, hy⟩ : ∃ y, y = w1.heap.size := ⟨_, rfl⟩
    have hb2 : Below w1.heap.size w1 w2 := by rw [hw2]; exact below1 _ _
    have hx2 : w2.cell? ⟨y, 0, none⟩ = some (.int .u64 h) := by rw [hw2, hy]; simp
    have HAP0 : ∃ v' w', (Builtin.append_ #[24, 24] 24 #[.slice p n n, .slice (some ⟨y, 0, none⟩) 1 1]).run Try.prog w2 = .ok v' w' ∧ (∃ g cap, v' = .slice (some ⟨g, 0, none⟩) (n + 1) cap ∧ w2.heap.size ≤ g ∧ w'.ownsRow w2.heap.size 27 1 (.slice (some ⟨g, 0, none⟩) (n + 1) cap) (n + 1) ((vs ++ [h]).map (Value.int .u64)) ∧ Below w2.heap.size w2 w') := by
      rw [HN.out]
      obtain ⟨v', w', e1, e2, e3⟩ := append_fresh w2 p vs h y (by
        rcases HP1 with hp | ⟨b, off, rfl, hcs⟩
        · exact .inl ⟨hp.1, hp.2.1⟩
        · exact .inr ⟨b, off, rfl, fun i hi => below_cell hb2 (hcs i hi)⟩) (by rw [← HN.out]; omega) hx2
      obtain ⟨g, cap, rfl, hg, -⟩ := own_form e2 (by omega)
      exact ⟨_, w', e1, g, cap, rfl, hg, e2, below_grown (Below.refl _ _) e3 (fun k hk => by cases hk)⟩
    have hPP : (p = none ∧ n = 0 ∧ c = 0) ∨ ∃ b off, p = some ⟨b, off, none⟩ := by
      rcases HP1 with hp | ⟨b, off, rfl, -⟩
      · exact .inl ⟨hp.1, by rw [HN.out, hp.2.1]; rfl, hp.2.2⟩
      · exact .inr ⟨b, off, rfl⟩
    have HF2 := Lib.hid (HF1.out.below hb2)
    have hR2 := HR1.out.below hb2
    have HK2 := Lib.hid (HK1.out.trans (Keeps.of_below hb2))
    have HSZ := Lib.hid (Nat.le_trans HK1.out.size hb2.size)
    obtain ⟨-, -, k5, -, -⟩ := HR1.out.cells
    have m5 := HR1.out.marks 5
    have HR2 := Lib.hid hR2
    have HW2 := Lib.hid (And.intro hw2 hy)
    have hap2 := HAP0
    rw [HW2.out.2] at hap2
    have HAP : _ := Lib.hid (show ∃ v' w', (Builtin.append_ #[24, 24] 24 #[.slice p n n, .slice (some ⟨w1.heap.size, 0, none⟩) 1 1]).run Try.prog (w1.alloc (.cells #[.int .u64 h] 27)) = .ok v' w' ∧ (∃ g cap, v' = .slice (some ⟨g, 0, none⟩) (n + 1) cap ∧ w2.heap.size ≤ g ∧ w'.ownsRow w2.heap.size 27 1 (.slice (some ⟨g, 0, none⟩) (n + 1) cap) (n + 1) ((vs ++ [h]).map (Value.int .u64)) ∧ Below w2.heap.size w2 w') by rw [← HW2.out.1]; exact hap2)
    clear hw2 hy hb2 hx2 HP1 HF1 HK1 HR1 HPC hR2 hap2 HAP0
    rcases hPP with ⟨rfl, rfl, rfl⟩ | ⟨b0, off, rfl⟩
    · go_wp2_with (with_reducible refine wpList_append_by (o := ⟨some 39, _, _, _, _, _⟩) (w1.alloc (.cells #[.int .u64 h] 27)) rfl (.tmp 36) (.tmp 38) 24 24 rfl (.slice none 0 0) (.slice (some ⟨w1.heap.size, 0, none⟩) 1 1) rfl rfl (fun v' w' => ∃ g cap, v' = .slice (some ⟨g, 0, none⟩) (0 + 1) cap ∧ w2.heap.size ≤ g ∧ w'.ownsRow w2.heap.size 27 1 (.slice (some ⟨g, 0, none⟩) (0 + 1) cap) (0 + 1) ((vs ++ [h]).map (Value.int .u64)) ∧ Below w2.heap.size w2 w') HAP.out ?_; rintro v' w3 ⟨g, cap, rfl, hg, ho, hb⟩; have hR3 := HR2.out.below hb; have c5 := hR3.cells.2.2.1; have m5' := hR3.marks 5)
      obtain ⟨w4, hw4⟩ : ∃ X : World, X = w3.setCell ⟨r, 5, none⟩ (.slice (some ⟨g, 0, none⟩) 1 cap) := ⟨_, rfl⟩
      have hk4 : Keeps (fun k => k = r) w3 w4 := by rw [hw4]; exact Keeps.setCell w3 (S := (· = r)) (p := ⟨r, 5, none⟩) rfl _
      have HR4 := Lib.hid (show RBox w4 r ⟨a, f, m, ph, b, t⟩ (.slice (some ⟨g, 0, none⟩) 1 cap) q by rw [hw4]; exact hR3.setV _)
      have hF3 := HF2.out.below hb
      have HF4 := Lib.hid (hF3.keeps hk4 (by show ¬ q = r; omega) (by show ¬ z = r; omega) (by show ¬ gw = r; omega) (by show ¬ gl = r; omega))
      have HK4 := Lib.hid (((HK2.out.trans (Keeps.of_below hb)).sub (T := fun k => k = z ∨ k = gw ∨ k = r) fun k _ e => by rcases e with e | e; exact .inl e; exact .inr (.inl e)).trans (hk4.sub fun k _ e => .inr (.inr e)))
      have hgr : g ≠ r := by have := HR2.out.lt; omega
      have HV4 := Lib.hid (VV.owns (S := S) (hk4.row ho (by intro x hx; simp [Value.ownBlock] at hx; show ¬ x = r; omega)) (by rw [List.length_append, ← HN.out]; rfl) (fun k hk => Nat.lt_of_lt_of_le (hSW k hk) HSZ.out))
      rw [← hw4]
      clear hw4 hk4 hF3 hR3 ho hb hg hgr c5 m5' k5 m5
      refine (goOn_c r q a f m ph b t (some ⟨g, 0, none⟩) 1 cap w4 HR4.out).mono ?_
      rintro e w5 ⟨rfl, hR5, hk5⟩
      have HR5 := Lib.hid hR5
      have HF5 := Lib.hid (HF4.out.keeps hk5 (by show ¬ q = r; omega) (by show ¬ z = r; omega) (by show ¬ gw = r; omega) (by show ¬ gl = r; omega))
      have HK5 := Lib.hid (HK4.out.trans (hk5.sub fun k _ e => .inr (.inr e)))
      have HV5 := Lib.hid (HV4.out.keeps hk5 (fun k e => hS k (.inr (.inr e))))
      clear hR5 hk5 HR4 HF4 HK4 HV4
      go_wp2
      exact bodyPost_ret (v := .bool true) (by simp [results, Try.results66, go_sem]) rfl ⟨rfl, HF5.out, ⟨_, HR5.out, HV5.out⟩, HK5.out⟩
    · go_wp2_with (with_reducible refine wpList_append_by (o := ⟨some 39, _, _, _, _, _⟩) (w1.alloc (.cells #[.int .u64 h] 27)) rfl (.tmp 36) (.tmp 38) 24 24 rfl (.slice (some ⟨b0, off, none⟩) n n) (.slice (some ⟨w1.heap.size, 0, none⟩) 1 1) rfl rfl (fun v' w' => ∃ g cap, v' = .slice (some ⟨g, 0, none⟩) (n + 1) cap ∧ w2.heap.size ≤ g ∧ w'.ownsRow w2.heap.size 27 1 (.slice (some ⟨g, 0, none⟩) (n + 1) cap) (n + 1) ((vs ++ [h]).map (Value.int .u64)) ∧ Below w2.heap.size w2 w') HAP.out ?_; rintro v' w3 ⟨g, cap, rfl, hg, ho, hb⟩; have hR3 := HR2.out.below hb; have c5 := hR3.cells.2.2.1; have m5' := hR3.marks 5)
      obtain ⟨w4, hw4⟩ : ∃ X : World, X = w3.setCell ⟨r, 5, none⟩ (.slice (some ⟨g, 0, none⟩) (n + 1) cap) := ⟨_, rfl⟩
      have hk4 : Keeps (fun k => k = r) w3 w4 := by rw [hw4]; exact Keeps.setCell w3 (S := (· = r)) (p := ⟨r, 5, none⟩) rfl _
      have HR4 := Lib.hid (show RBox w4 r ⟨a, f, m, ph, b, t⟩ (.slice (some ⟨g, 0, none⟩) (n + 1) cap) q by rw [hw4]; exact hR3.setV _)
      have hF3 := HF2.out.below hb
      have HF4 := Lib.hid (hF3.keeps hk4 (by show ¬ q = r; omega) (by show ¬ z = r; omega) (by show ¬ gw = r; omega) (by show ¬ gl = r; omega))
      have HK4 := Lib.hid (((HK2.out.trans (Keeps.of_below hb)).sub (T := fun k => k = z ∨ k = gw ∨ k = r) fun k _ e => by rcases e with e | e; exact .inl e; exact .inr (.inl e)).trans (hk4.sub fun k _ e => .inr (.inr e)))
      have hgr : g ≠ r := by have := HR2.out.lt; omega
      have HV4 := Lib.hid (VV.owns (S := S) (hk4.row ho (by intro x hx; simp [Value.ownBlock] at hx; show ¬ x = r; omega)) (by rw [List.length_append, ← HN.out]; rfl) (fun k hk => Nat.lt_of_lt_of_le (hSW k hk) HSZ.out))
      rw [← hw4]
      clear hw4 hk4 hF3 hR3 ho hb hg hgr c5 m5' k5 m5
      refine (goOn_c r q a f m ph b t (some ⟨g, 0, none⟩) (n + 1) cap w4 HR4.out).mono ?_
      rintro e w5 ⟨rfl, hR5, hk5⟩
      have HR5 := Lib.hid hR5
      have HF5 := Lib.hid (HF4.out.keeps hk5 (by show ¬ q = r; omega) (by show ¬ z = r; omega) (by show ¬ gw = r; omega) (by show ¬ gl = r; omega))
      have HK5 := Lib.hid (HK4.out.trans (hk5.sub fun k _ e => .inr (.inr e)))
      have HV5 := Lib.hid (HV4.out.keeps hk5 (fun k e => hS k (.inr (.inr e))))
      clear hR5 hk5 HR4 HF4 HK4 HV4
      go_wp2
      exact bodyPost_ret (v := .bool true) (by simp [results, Try.results66, go_sem]) rfl ⟨rfl, HF5.out, ⟨_, HR5.out, HV5.out⟩, HK5.out⟩

end Go.Proofs.Ythkfjgfhaicfkaa
