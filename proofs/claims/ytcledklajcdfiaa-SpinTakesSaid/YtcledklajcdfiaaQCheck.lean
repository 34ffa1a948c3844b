/-
  Check, Leave, Ask and what the phases ask for, of package spin; and the document's answers.
  Conditions: none but the ranges of Go's types.
-/
import Derived.Test.YtcledklajcdfiaaQMath
import Derived.Test.YtcledklajcdfiaaMBase
namespace Go.Proofs.Ytcledklajcdfiaa
open Go.RowKit Go.Shelf

theorem below1 (W : World) (o1 : Obj) : Below W.heap.size W (W.alloc o1) := (Below.refl _ _).alloc (Nat.le_refl _) _
theorem below2 (W : World) (o1 o2 : Obj) : Below W.heap.size W ((W.alloc o1).alloc o2) := (below1 W o1).alloc (by simp) _
theorem below3 (W : World) (o1 o2 o3 : Obj) : Below W.heap.size W (((W.alloc o1).alloc o2).alloc o3) := (below2 W o1 o2).alloc (by simp; omega) _
theorem below4 (W : World) (o1 o2 o3 o4 : Obj) : Below W.heap.size W ((((W.alloc o1).alloc o2).alloc o3).alloc o4) := (below3 W o1 o2 o3).alloc (by simp; omega) _
theorem below5 (W : World) (o1 o2 o3 o4 o5 : Obj) : Below W.heap.size W (((((W.alloc o1).alloc o2).alloc o3).alloc o4).alloc o5) := (below4 W o1 o2 o3 o4).alloc (by simp; omega) _
theorem below6 (W : World) (o1 o2 o3 o4 o5 o6 : Obj) : Below W.heap.size W ((((((W.alloc o1).alloc o2).alloc o3).alloc o4).alloc o5).alloc o6) := (below5 W o1 o2 o3 o4 o5).alloc (by simp; omega) _

set_option maxRecDepth 100000 in
set_option maxHeartbeats 2000000 in
theorem qcheck_no (s : SpM) (h : rightS s = false) (W : World) : Calls Try.prog 10 #[spV s] W fun e w' => e = .returned (.int .i64 150) ∧ Below W.heap.size W w' := by
  obtain ⟨a, p, t⟩ := s
  have hc : a < 0 ∨ (¬ a < 0 ∧ p < 0) ∨ (¬ a < 0 ∧ ¬ p < 0 ∧ 5 < p) ∨ (¬ a < 0 ∧ p = 0 ∧ t ≠ 0) := by
    have := h
    simp [rightS] at this
    omega
  clear h
  unfold spV
  rcases hc with h1 | ⟨h1, h2⟩ | ⟨h1, h2, h3⟩ | ⟨h1, rfl, h3⟩
  · go_enter Try.func10, Try.ntmps10
    go_wp2
    go_ret
    exact ⟨rfl, by first | exact below1 _ _ | exact below2 _ _ _ | exact below3 _ _ _ _ | exact below4 _ _ _ _ _ | exact below5 _ _ _ _ _ _ | exact below6 _ _ _ _ _ _ _⟩
  · go_enter Try.func10, Try.ntmps10
    go_wp2
    go_ret
    exact ⟨rfl, by first | exact below1 _ _ | exact below2 _ _ _ | exact below3 _ _ _ _ | exact below4 _ _ _ _ _ | exact below5 _ _ _ _ _ _ | exact below6 _ _ _ _ _ _ _⟩
  · go_enter Try.func10, Try.ntmps10
    go_wp2
    go_ret
    exact ⟨rfl, by first | exact below1 _ _ | exact below2 _ _ _ | exact below3 _ _ _ _ | exact below4 _ _ _ _ _ | exact below5 _ _ _ _ _ _ | exact below6 _ _ _ _ _ _ _⟩
  · have h4 : (t != 0) = true := by rw [bne_iff_ne]; exact h3
    clear h3
    go_enter Try.func10, Try.ntmps10
    go_wp2
    go_ret
    exact ⟨rfl, by first | exact below1 _ _ | exact below2 _ _ _ | exact below3 _ _ _ _ | exact below4 _ _ _ _ _ | exact below5 _ _ _ _ _ _ | exact below6 _ _ _ _ _ _ _⟩
set_option maxRecDepth 100000 in
set_option maxHeartbeats 2000000 in
theorem qcheck_yes (s : SpM) (h : rightS s = true) (W : World) : Calls Try.prog 10 #[spV s] W fun e w' => e = .returned (.int .i64 0) ∧ Below W.heap.size W w' := by
  obtain ⟨a, p, t⟩ := s
  obtain ⟨h1, h2⟩ := rightS_iff.1 h
  simp only at h1 h2
  have h0 : ¬ a < 0 := by omega
  clear h
  unfold spV
  rcases h2 with ⟨rfl, rfl⟩ | rfl | rfl | rfl | rfl | rfl
  all_goals
    go_enter Try.func10, Try.ntmps10
    go_wp2
    go_ret
    exact ⟨rfl, by first | exact below1 _ _ | exact below2 _ _ _ | exact below3 _ _ _ _ | exact below4 _ _ _ _ _ | exact below5 _ _ _ _ _ _ | exact below6 _ _ _ _ _ _ _⟩

end Go.Proofs.Ytcledklajcdfiaa
