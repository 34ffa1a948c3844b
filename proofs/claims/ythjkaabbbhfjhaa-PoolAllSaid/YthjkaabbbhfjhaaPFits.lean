/-
  Package pool: how many pages may begin where, which there are; and the reference's word on that.
  Conditions: none.
-/
import Derived.Test.YthjkaabbbhfjhaaGBase
namespace Go.Proofs.Ythjkaabbbhfjhaa
open Go.RowKit Go.Shelf
attribute [local go_sem] Oper.semAt_some

def fitsB (b p : Int) : Bool := decide (0 ≤ b) && decide (b ≤ 4096) && decide (b % 16 = 0) && decide (0 ≤ p) && decide (p ≤ 64) && decide (b + 16 * p ≤ 4096)
def hasB (p n : Int) : Bool := decide (0 ≤ n) && decide (n < p)
theorem ret_b {b c : Bool} (h : b = c) : Ending.returned (.bool b) = Ending.returned (.bool c) := by rw [h]
theorem below1 (W : World) (o1 : Obj) : Below W.heap.size W (W.alloc o1) := (Below.refl _ _).alloc (Nat.le_refl _) _
theorem below2 (W : World) (o1 o2 : Obj) : Below W.heap.size W ((W.alloc o1).alloc o2) := (below1 W o1).alloc (by simp) _
theorem below3 (W : World) (o1 o2 o3 : Obj) : Below W.heap.size W (((W.alloc o1).alloc o2).alloc o3) := (below2 W o1 o2).alloc (by simp; omega) _
theorem below4 (W : World) (o1 o2 o3 o4 : Obj) : Below W.heap.size W ((((W.alloc o1).alloc o2).alloc o3).alloc o4) := (below3 W o1 o2 o3).alloc (by simp; omega) _

set_option maxRecDepth 100000 in
set_option maxHeartbeats 4000000 in
theorem fits_c (b p : Int) (W : World) : Calls Try.prog 39 #[.int .i64 b, .int .i64 p] W fun e w' => e = .returned (.bool (fitsB b p)) ∧ w' = W := by
  have hc : (b < 0 ∧ fitsB b p = false) ∨ (0 ≤ b ∧ 4096 < b ∧ fitsB b p = false) ∨ (0 ≤ b ∧ b ≤ 4096 ∧ ¬ b % 16 = 0 ∧ fitsB b p = false) ∨ (0 ≤ b ∧ b ≤ 4096 ∧ b % 16 = 0 ∧ p < 0 ∧ fitsB b p = false) ∨ (0 ≤ b ∧ b ≤ 4096 ∧ b % 16 = 0 ∧ 0 ≤ p ∧ 64 < p ∧ fitsB b p = false) ∨ (0 ≤ b ∧ b ≤ 4096 ∧ b % 16 = 0 ∧ 0 ≤ p ∧ p ≤ 64 ∧ fitsB b p = decide (b + p * 16 ≤ 4096)) := by
    have e : fitsB b p = true ↔ 0 ≤ b ∧ b ≤ 4096 ∧ b % 16 = 0 ∧ 0 ≤ p ∧ p ≤ 64 ∧ b + 16 * p ≤ 4096 := by
      unfold fitsB; simp only [Bool.and_eq_true, decide_eq_true_eq, and_assoc]
    cases h : fitsB b p with
    | true => have h := e.1 h; have : decide (b + p * 16 ≤ 4096) = true := by rw [decide_eq_true_eq]; omega
              rw [this]; simp; omega
    | false =>
      have h : ¬ _ := fun x => Bool.noConfusion (h.symm.trans (e.2 x))
      simp only [and_true]
      by_cases hs : b + p * 16 ≤ 4096
      · rw [decide_eq_true hs]; simp; omega
      · rw [decide_eq_false hs]; simp; omega
  rcases hc with ⟨h0, hr⟩ | ⟨h0, h1, hr⟩ | ⟨h0, h1, h2, hr⟩ | ⟨h0, h1, h2, h3, hr⟩ | ⟨h0, h1, h2, h3, h4, hr⟩ | ⟨h0, h1, h2, h3, h4, hr⟩
  · rw [hr]; clear hr
    go_enter Try.func39, Try.ntmps39
    go_wp2
    go_ret
    exact ⟨rfl, rfl⟩
  · rw [hr]; clear hr
    go_enter Try.func39, Try.ntmps39
    go_wp2
    go_ret
    exact ⟨rfl, rfl⟩
  · have hz : (b % 16 != 0) = true := by rw [bne_iff_ne]; exact h2
    rw [hr]; clear hr h2
    go_enter Try.func39, Try.ntmps39
    go_wp2
    go_ret
    exact ⟨rfl, rfl⟩
  all_goals
    have hz : (b % 16 != 0) = false := by rw [h2]; rfl
    rw [hr]; clear hr h2
    go_enter Try.func39, Try.ntmps39
    go_wp2
    go_ret
    exact ⟨rfl, rfl⟩

/-- What box a pool lies in. -/
def PBox (W : World) (z : Nat) (b p : Int) (v : Value) : Prop := W.heap[z]? = some (.cells #[.int .i64 b, .int .i64 p, v] 24 (0, 0))
theorem PBox.cells {W : World} {z : Nat} {b p : Int} {v : Value} (h : PBox W z b p v) : W.cell? ⟨z, 0, none⟩ = some (.int .i64 b) ∧ W.cell? ⟨z, 1, none⟩ = some (.int .i64 p) ∧ W.cell? ⟨z, 2, none⟩ = some v := by
  have h' : W.heap[z]? = _ := h
  simp [World.cell?, h']
theorem PBox.marks {W : World} {z : Nat} {b p : Int} {v : Value} (h : PBox W z b p v) (i : Nat) : W.frozen? ⟨z, i, none⟩ = false := by
  have h' : W.heap[z]? = _ := h
  simp [World.frozen?, h']
theorem PBox.lt {W : World} {z : Nat} {b p : Int} {v : Value} (h : PBox W z b p v) : z < W.heap.size := (Array.getElem?_eq_some_iff.1 h).1
theorem PBox.below {W W' : World} {z : Nat} {b p : Int} {v : Value} (h : PBox W z b p v) (hb : Below W.heap.size W W') : PBox W' z b p v := (hb.block z h.lt).trans h
theorem PBox.keeps {S : Nat → Prop} {W W' : World} {z : Nat} {b p : Int} {v : Value} (h : PBox W z b p v) (hk : Keeps S W W') (hz : ¬ S z) : PBox W' z b p v := (hk.block z h.lt hz).trans h
theorem PBox.new (W : World) (b p : Int) (v : Value) : PBox (W.alloc (.cells #[.int .i64 b, .int .i64 p, v] 24)) W.heap.size b p v := World.alloc_heap_new W _
theorem PBox.put {W : World} {z : Nat} {b0 p0 : Int} {v0 : Value} (h : PBox W z b0 p0 v0) (b p : Int) (v : Value) : PBox (((W.setCell ⟨z, 0, none⟩ (.int .i64 b)).setCell ⟨z, 1, none⟩ (.int .i64 p)).setCell ⟨z, 2, none⟩ v) z b p v := by
  have h0 := heap_setCell_same W z 0 _ _ (.int .i64 b) h
  have h1 := heap_setCell_same _ z 1 _ _ (.int .i64 p) h0
  have h2 := heap_setCell_same _ z 2 _ _ v h1
  unfold PBox
  rw [h2]
  rfl
theorem PBox.putK (W : World) (z : Nat) (b p : Int) (v : Value) : Keeps (fun k => k = z) W (((W.setCell ⟨z, 0, none⟩ (.int .i64 b)).setCell ⟨z, 1, none⟩ (.int .i64 p)).setCell ⟨z, 2, none⟩ v) :=
  ((Keeps.setCell W (S := (· = z)) (p := ⟨z, 0, none⟩) rfl _).trans (Keeps.setCell _ (S := (· = z)) (p := ⟨z, 1, none⟩) rfl _)).trans (Keeps.setCell _ (S := (· = z)) (p := ⟨z, 2, none⟩) rfl _)

set_option maxRecDepth 100000 in
set_option maxHeartbeats 4000000 in
theorem has_c (b p n : Int) (v : Value) (W : World) : Calls Try.prog 32 #[.agg #[.int .i64 b, .int .i64 p, v], .int .i64 n] W fun e w' => e = .returned (.bool (hasB p n)) ∧ Below W.heap.size W w' := by
  have hc : (n < 0 ∧ hasB p n = false) ∨ (0 ≤ n ∧ hasB p n = decide (n < p)) := by
    unfold hasB
    by_cases h : 0 ≤ n
    · rw [decide_eq_true h]; exact .inr ⟨h, rfl⟩
    · rw [decide_eq_false h]; exact .inl ⟨by omega, rfl⟩
  rcases hc with ⟨h0, hr⟩ | ⟨h0, hr⟩
  all_goals
    rw [hr]; clear hr
    go_enter Try.func32, Try.ntmps32
    go_wp2
    go_ret
    exact ⟨rfl, by first | exact below1 _ _ | exact below2 _ _ _⟩

set_option maxRecDepth 100000 in
set_option maxHeartbeats 4000000 in
theorem next_c (b p : Int) (v : Value) (W : World) : Calls Try.prog 30 #[.agg #[.int .i64 b, .int .i64 p, v]] W fun e w' => e = .returned (.func (.func 40) #[] #[.pointer (some ⟨W.heap.size, 0, none⟩)]) ∧ w' = W.alloc (.cells #[.int .i64 b, .int .i64 p, v] 24) := by
  go_enter Try.func30, Try.ntmps30
  go_wp2
  go_ret
  exact ⟨rfl, rfl⟩
set_option maxRecDepth 100000 in
set_option maxHeartbeats 4000000 in
theorem backward_c (p : Option Addr) (n c : Nat) (W : World) : Calls Try.prog 41 #[.slice p n c] W fun e w' => e = .returned (.func (.func 54) #[] #[.pointer (some ⟨W.heap.size, 0, none⟩)]) ∧ w' = W.alloc (.cells #[.slice p n c] 22) := by
  go_enter Try.func41, Try.ntmps41
  go_wp2
  go_ret
  exact ⟨rfl, rfl⟩

end Go.Proofs.Ythjkaabbbhfjhaa
