/-
  Package reader: which CPUs there are; boxes of readers; who is in a section.
  Conditions: none.
-/
import Derived.Test.YtjfphhemhaphbabDeep
import Derived.Test.YtjfphhemhaphbabGInts
import Derived.Shelf.RegionOpen
import Derived.WalkKit
import Derived.OwnWalkIn
import Derived.TacticsInMore
import Derived.LoopNIn
import Derived.LoopIn
import Derived.Deep.RegionHeld
import Derived.Deep.RegionHeld3
import Derived.RangeFuncBox
import Derived.Lib.Hide
import Derived.OneCell
namespace Go.Proofs.Ytjfphhemhaphbab
open Go.RowKit Go.Shelf
attribute [local go_sem] Oper.semAt_some

theorem ret_b {b c : Bool} (h : b = c) : Ending.returned (.bool b) = Ending.returned (.bool c) := by rw [h]
theorem below1 (W : World) (o1 : Obj) : Below W.heap.size W (W.alloc o1) := (Below.refl _ _).alloc (Nat.le_refl _) _
theorem below2 (W : World) (o1 o2 : Obj) : Below W.heap.size W ((W.alloc o1).alloc o2) := (below1 W o1).alloc (by simp) _
theorem below3 (W : World) (o1 o2 o3 : Obj) : Below W.heap.size W (((W.alloc o1).alloc o2).alloc o3) := (below2 W o1 o2).alloc (by simp; omega) _
theorem below4 (W : World) (o1 o2 o3 o4 : Obj) : Below W.heap.size W ((((W.alloc o1).alloc o2).alloc o3).alloc o4) := (below3 W o1 o2 o3).alloc (by simp; omega) _
theorem owns_slice {B : Nat} {E : TypeId} {W : World} {v : Value} {s n : Nat} {xs : List Value} (h : W.ownsRow B E s v n xs) : ∃ p c, v = .slice p n c := by
  rcases h.2 with ⟨rfl, h0⟩ | ⟨g, cap, cur, rfl, _⟩
  · exact ⟨none, 0, by rw [h0]⟩
  · exact ⟨_, _, rfl⟩

/-- Readers. -/
structure RdS where
  now : Int
  ns : List Int
  os : List Int

def mayCpus (n : Int) : Bool := decide (1 ≤ n) && decide (n ≤ 8)
def hasB (k : Nat) (n : Int) : Bool := decide (0 ≤ n) && decide (n < (k : Int))

set_option maxRecDepth 100000 in
set_option maxHeartbeats 4000000 in
theorem mayBe_c (n : Int) (W : World) : Calls Try.prog 29 #[.int .i64 n] W fun e w' => e = .returned (.bool (mayCpus n)) ∧ w' = W := by
  have hc : (n < 1 ∧ mayCpus n = false) ∨ (1 ≤ n ∧ mayCpus n = decide (n ≤ 8)) := by
    unfold mayCpus
    by_cases h : 1 ≤ n
    · rw [decide_eq_true h]; exact .inr ⟨h, rfl⟩
    · rw [decide_eq_false h]; exact .inl ⟨by omega, rfl⟩
  rcases hc with ⟨h0, hr⟩ | ⟨h0, hr⟩
  all_goals
    rw [hr]; clear hr
    go_enter Try.func29, Try.ntmps29
    go_wp2
    go_ret
    exact ⟨rfl, rfl⟩

/-- What box readers lie in. -/
def RBox (W : World) (z : Nat) (now : Int) (u v : Value) : Prop := W.heap[z]? = some (.cells #[.int .i64 now, u, v] 24 (0, 0))
theorem RBox.cells {W : World} {z : Nat} {b : Int} {u v : Value} (h : RBox W z b u v) : W.cell? ⟨z, 0, none⟩ = some (.int .i64 b) ∧ W.cell? ⟨z, 1, none⟩ = some u ∧ W.cell? ⟨z, 2, none⟩ = some v := by
  have h' : W.heap[z]? = _ := h
  simp [World.cell?, h']
theorem RBox.marks {W : World} {z : Nat} {b : Int} {u v : Value} (h : RBox W z b u v) (i : Nat) : W.frozen? ⟨z, i, none⟩ = false := by
  have h' : W.heap[z]? = _ := h
  simp [World.frozen?, h']
theorem RBox.lt {W : World} {z : Nat} {b : Int} {u v : Value} (h : RBox W z b u v) : z < W.heap.size := (Array.getElem?_eq_some_iff.1 h).1
theorem RBox.below {W W' : World} {z : Nat} {b : Int} {u v : Value} (h : RBox W z b u v) (hb : Below W.heap.size W W') : RBox W' z b u v := (hb.block z h.lt).trans h
theorem RBox.keeps {S : Nat → Prop} {W W' : World} {z : Nat} {b : Int} {u v : Value} (h : RBox W z b u v) (hk : Keeps S W W') (hz : ¬ S z) : RBox W' z b u v := (hk.block z h.lt hz).trans h
theorem RBox.new (W : World) (b : Int) (u v : Value) : RBox (W.alloc (.cells #[.int .i64 b, u, v] 24)) W.heap.size b u v := World.alloc_heap_new W _
theorem RBox.put {W : World} {z : Nat} {b0 : Int} {u0 v0 : Value} (h : RBox W z b0 u0 v0) (b : Int) (u v : Value) : RBox (((W.setCell ⟨z, 0, none⟩ (.int .i64 b)).setCell ⟨z, 1, none⟩ u).setCell ⟨z, 2, none⟩ v) z b u v := by
  have h0 := heap_setCell_same W z 0 _ _ (.int .i64 b) h
  have h1 := heap_setCell_same _ z 1 _ _ u h0
  have h2 := heap_setCell_same _ z 2 _ _ v h1
  unfold RBox
  rw [h2]
  rfl
theorem RBox.putK (W : World) (z : Nat) (b : Int) (u v : Value) : Keeps (fun k => k = z) W (((W.setCell ⟨z, 0, none⟩ (.int .i64 b)).setCell ⟨z, 1, none⟩ u).setCell ⟨z, 2, none⟩ v) :=
  ((Keeps.setCell W (S := (· = z)) (p := ⟨z, 0, none⟩) rfl _).trans (Keeps.setCell _ (S := (· = z)) (p := ⟨z, 1, none⟩) rfl _)).trans (Keeps.setCell _ (S := (· = z)) (p := ⟨z, 2, none⟩) rfl _)

set_option maxRecDepth 100000 in
set_option maxHeartbeats 4000000 in
theorem has_c (b n : Int) (p : Option Addr) (k c : Nat) (v : Value) (W : World) : Calls Try.prog 28 #[.agg #[.int .i64 b, .slice p k c, v], .int .i64 n] W fun e w' => e = .returned (.bool (hasB k n)) ∧ Below W.heap.size W w' := by
  have hc : (n < 0 ∧ hasB k n = false) ∨ (0 ≤ n ∧ hasB k n = decide (n < (k : Int))) := by
    unfold hasB
    by_cases h : 0 ≤ n
    · rw [decide_eq_true h]; exact .inr ⟨h, rfl⟩
    · rw [decide_eq_false h]; exact .inl ⟨by omega, rfl⟩
  rcases hc with ⟨h0, hr⟩ | ⟨h0, hr⟩
  all_goals
    rw [hr]; clear hr
    go_enter Try.func28, Try.ntmps28
    go_wp2
    go_ret
    exact ⟨rfl, by first | exact below1 _ _ | exact below2 _ _ _⟩

set_option maxRecDepth 100000 in
set_option maxHeartbeats 4000000 in
theorem sections_c (b : Int) (u v : Value) (W : World) : Calls Try.prog 30 #[.agg #[.int .i64 b, u, v]] W fun e w' => e = .returned (.func (.func 32) #[] #[.pointer (some ⟨W.heap.size, 0, none⟩)]) ∧ w' = W.alloc (.cells #[.int .i64 b, u, v] 24) := by
  go_enter Try.func30, Try.ntmps30
  go_wp2
  go_ret
  exact ⟨rfl, rfl⟩

theorem run_cmp_sec (a p a' p' : Int) (w : World) : (Op.equalIn 10000 59 (.agg #[.int .i64 a, .int .i64 p]) (.agg #[.int .i64 a', .int .i64 p'])).run Try.prog w = .ok (decide (a = a' ∧ p = p')) w := by
  rw [Op.equalIn]
  have hst : Try.prog.stoodInHeld 59 = false := by kernel_rfl
  have hpr : ∀ w, Sem.run Try.prog program w = .ok Try.prog w := fun _ => rfl
  simp only [Sem.run_bind, run_underlying Try.underlying59, Result.andThen_ok, hpr, hst, Bool.false_eq_true, if_false]
  have p0 : ∀ (a p : Int) w, (part 3 #[.int .i64 a, .int .i64 p] 0).run Try.prog w = .ok (.int .i64 a) w := fun a p w => by kernel_rfl
  have p1 : ∀ (a p : Int) w, (part 3 #[.int .i64 a, .int .i64 p] 1).run Try.prog w = .ok (.int .i64 p) w := fun a p w => by kernel_rfl
  have e0 : ∀ (p q : Int) w, (Op.equalIn 9999 3 (.int .i64 p) (.int .i64 q)).run Try.prog w = .ok (p == q) w := fun p q w => by rw [run_equalIn_int w 9998 3 .i64 .i64 p q Try.underlying3]
  simp [Sem.run_bind, Result.andThen_ok, p0, p1, e0]
  clear p0 p1 e0 hst hpr
  by_cases h0 : a = a' <;> by_cases h1 : p = p' <;> simp [*]
/-- Is it in a section, or seems so? -/
def secB (a p : Int) : Bool := !decide (a = 0 ∧ p = 0)
theorem run_neq_sec (a p : Int) (w : World) : (binOp .neq 59 (.agg #[.int .i64 a, .int .i64 p]) (.agg #[.int .i64 0, .int .i64 0])).run Try.prog w = .ok (.bool (secB a p)) w := by
  rw [run_neq_struct]
  have := run_cmp_sec a p 0 0 w
  simp [this, secB]

/-- The cells outside of some blocks stay as they are. -/
def KeepsCells (S : Nat → Prop) (W W' : World) : Prop := ∀ b o v, ¬ S b → W.cell? ⟨b, o, none⟩ = some v → W'.cell? ⟨b, o, none⟩ = some v
theorem KeepsCells.refl (S : Nat → Prop) (W : World) : KeepsCells S W W := fun _ _ _ _ h => h
theorem KeepsCells.trans {S : Nat → Prop} {X Y Z : World} (h : KeepsCells S X Y) (k : KeepsCells S Y Z) : KeepsCells S X Z := fun b o v hb hx => k b o v hb (h b o v hb hx)
theorem KeepsCells.keeps {S : Nat → Prop} {X Y : World} (h : Keeps S X Y) : KeepsCells S X Y := fun b _ _ hb hx => h.cell hx (by simpa using hb)
theorem KeepsCells.turn (S : Nat → Prop) (W : World) (l : Nat) (o o' : Obj) (hl : W.heap[l]? = some o) (ho : o.isCells = false) (_ : o.isWalk = false) : KeepsCells S W (W.putObj l o') := fun b i v _ h => by
  by_cases e : b = l
  · subst e
    simp only [World.cell?, hl] at h
    cases o <;> simp_all [Obj.isCells]
  · have hp : (W.putObj l o').heap[b]? = W.heap[b]? := World.putObj_heap_other e
    simp only [World.cell?] at h ⊢
    rw [hp]
    exact h

/-- A row of ints lies there, outside of S. -/
def RowOut (S : Nat → Prop) (W : World) (p : Option Addr) (fs : List Int) : Prop := fs ≠ [] → ∃ b off, p = some ⟨b, off, none⟩ ∧ ¬ S b ∧ ∀ i (h : i < fs.length), W.cell? ⟨b, off + i, none⟩ = some (.int .i64 fs[i])
theorem RowOut.keeps {S : Nat → Prop} {W W' : World} {p : Option Addr} {fs : List Int} (h : RowOut S W p fs) (hk : KeepsCells S W W') : RowOut S W' p fs := fun hne => by
  obtain ⟨b, off, e, hS, hc⟩ := h hne
  exact ⟨b, off, e, hS, fun i hi => hk _ _ _ hS (hc i hi)⟩
theorem RowOut.below {S : Nat → Prop} {W W' : World} {p : Option Addr} {fs : List Int} (h : RowOut S W p fs) (hb : Below W.heap.size W W') : RowOut S W' p fs := fun hne => by
  obtain ⟨b, off, e, hS, hc⟩ := h hne
  exact ⟨b, off, e, hS, fun i hi => below_cell hb (hc i hi)⟩


end Go.Proofs.Ytjfphhemhaphbab
