/-
  Same of package script: whether both scripts are the same.
  Conditions: both lie so; their rows are at most 2 to the power 40 long.
-/
import Derived.Test.YtjgdkfgcfningaaDoorSSame
namespace Go.Proofs.YtjgdkfgcfningaaDoor
open Go.RowKit Go.Shelf

def sameB (a b : SM) : Bool := decide (a.c = b.c) && decide (a.g = b.g) && decide (a.ls = b.ls) && decide (a.ps = b.ps)
theorem sameB_refl (a : SM) : sameB a a = true := by simp [sameB]
/-- A script whose rows are not too long. -/
structure Few (s : SM) : Prop where
  ls : s.ls.length ≤ 1048576
  calls : ∀ l ∈ s.ls, l.length ≤ 1099511627776
  ps : s.ps.length ≤ 1099511627776

theorem samefC_c (p0 p1 : Option Addr) (n0 n1 c0 c1 : Nat) (xs ys : List (List CallM)) (W : World) (hv0 : LRow W p0 n0 c0 xs) (hv1 : LRow W p1 n1 c1 ys) (hl0 : n0 ≤ 1099511627776) (hl1 : n1 ≤ 1099511627776) (hx : ∀ l ∈ xs, l.length ≤ 1099511627776) (hy : ∀ l ∈ ys, l.length ≤ 1099511627776) :
    Calls Tryd.prog 28 #[.slice p0 n0 c0, .slice p1 n1 c1] W fun e w' => e = .returned (.bool (decide (xs = ys))) ∧ Below W.heap.size W w' := by
  have HC := Lib.hid (eqfC_c p0 p1 n0 n1 c0 c1 xs ys W hv0 hv1 hl0 hl1 hx hy)
  clear hv0 hv1 hx hy
  go_enter Tryd.func28, Tryd.ntmps28
  go_wp2_with fail
  refine HC.out.mono ?_
  rintro e w1 ⟨rfl, hb⟩
  clear HC
  go_wp2
  go_ret
  exact ⟨rfl, hb⟩
theorem samefI_c (b0 b1 : Nat) (q0 q1 : Option Addr) (m0 m1 d0 d1 : Nat) (xs ys : List Int) (W : World) (h0 : W.cell? ⟨b0, 0, none⟩ = some (.slice q0 m0 d0)) (h1 : W.cell? ⟨b1, 0, none⟩ = some (.slice q1 m1 d1)) (hv0 : RI W q0 m0 d0 xs) (hv1 : RI W q1 m1 d1 ys) (hl0 : m0 ≤ 1099511627776) (hl1 : m1 ≤ 1099511627776) :
    Calls Tryd.prog 29 #[.slice (some ⟨b0, 0, none⟩) 1 1, .slice (some ⟨b1, 0, none⟩) 1 1] W fun e w' => e = .returned (.bool (decide (xs = ys))) ∧ Below W.heap.size W w' := by
  have HC := Lib.hid (eqfI_c b0 b1 q0 q1 m0 m1 d0 d1 xs ys W h0 h1 hv0 hv1 hl0 hl1)
  clear hv0 hv1 h0 h1
  go_enter Tryd.func29, Tryd.ntmps29
  go_wp2_with fail
  refine HC.out.mono ?_
  rintro e w1 ⟨rfl, hb⟩
  clear HC
  go_wp2
  go_ret
  exact ⟨rfl, hb⟩

set_option maxRecDepth 100000 in
set_option maxHeartbeats 8000000 in
theorem same_c (va vb : Value) (a b : SM) (W : World) (ha : SAt W va a) (hb : SAt W vb b) (hfa : Few a) (hfb : Few b) :
    Calls Tryd.prog 12 #[va, vb] W fun e w' => e = .returned (.bool (sameB a b)) ∧ Below W.heap.size W w' := by
  obtain ⟨p0, n0, c0, q0, m0, d0, rfl, hl0, hp0⟩ := ha
  obtain ⟨p1, n1, c1, q1, m1, d1, rfl, hl1, hp1⟩ := hb
  obtain ⟨w0, hw0⟩ : ∃ w : World, w = (W.alloc (.cells #[.int .i64 a.c, .int .i64 a.g, .slice p0 n0 c0, .slice q0 m0 d0] 25)).alloc (.cells #[.int .i64 b.c, .int .i64 b.g, .slice p1 n1 c1, .slice q1 m1 d1] 25) := ⟨_, rfl⟩
  have hB0 : Below W.heap.size W w0 := by rw [hw0]; exact ((Below.refl _ _).alloc (Nat.le_refl _) _).alloc (by simp) _
  have HSC := Lib.hid (samefC_c p0 p1 n0 n1 c0 c1 a.ls b.ls w0 (hl0.below hB0) (hl1.below hB0) (by rw [hl0.len]; have := hfa.ls; omega) (by rw [hl1.len]; have := hfb.ls; omega) hfa.calls hfb.calls)
  have HP := Lib.hid (show ∀ W', Below w0.heap.size w0 W' → RI W' q0 m0 d0 a.ps ∧ RI W' q1 m1 d1 b.ps from fun W' h => ⟨(hp0.below hB0).below h, (hp1.below hB0).below h⟩)
  have hm0 : m0 ≤ 1099511627776 := by rw [hp0.len]; exact hfa.ps
  have hm1 : m1 ≤ 1099511627776 := by rw [hp1.len]; exact hfb.ps
  have hs0 : w0.cell? ⟨W.heap.size, 2, none⟩ = some (.slice p0 n0 c0) := by rw [hw0]; simp
  have hs1 : w0.cell? ⟨W.heap.size + 1, 2, none⟩ = some (.slice p1 n1 c1) := by rw [hw0]; simp
  have hs2 : w0.cell? ⟨W.heap.size, 3, none⟩ = some (.slice q0 m0 d0) := by rw [hw0]; simp
  have hs3 : w0.cell? ⟨W.heap.size + 1, 3, none⟩ = some (.slice q1 m1 d1) := by rw [hw0]; simp
  have HW0 := Lib.hid hw0
  have HBB := Lib.hid hB0
  obtain ⟨R, hR⟩ : ∃ R, R = sameB a b := ⟨_, rfl⟩
  rw [← hR]
  unfold sameB at hR
  obtain ⟨ac, hac⟩ : ∃ x, x = a.c := ⟨_, rfl⟩
  obtain ⟨bc, hbc⟩ : ∃ x, x = b.c := ⟨_, rfl⟩
  obtain ⟨ag, hag⟩ : ∃ x, x = a.g := ⟨_, rfl⟩
  obtain ⟨bg, hbg⟩ : ∃ x, x = b.g := ⟨_, rfl⟩
  rw [← hac, ← hbc, ← hag, ← hbg] at hR HW0
  rw [← hac, ← hbc, ← hag, ← hbg]
  clear hw0 hB0 hl0 hl1 hp0 hp1 hac hbc hag hbg
  by_cases h1 : ac = bc
  · have he1 : ((ac : Int) == bc) = true := by rw [h1]; simp
    rw [decide_eq_true h1] at hR
    by_cases h2 : ag = bg
    · have he2 : ((ag : Int) == bg) = true := by rw [h2]; simp
      rw [decide_eq_true h2] at hR
      clear h1 h2
      cases h3 : decide (a.ls = b.ls) <;> rw [h3] at hR HSC <;> clear h3
      · have HR := Lib.hid (show R = false by rw [hR]; rfl)
        clear hR
        go_enter Tryd.func12, Tryd.ntmps12
        go_wp2_with fail
        rw [← HW0.out]
        refine HSC.out.mono ?_
        rintro e w1 ⟨rfl, hb1⟩
        have hB1 := below_then HBB.out HBB.out.size hb1
        clear hb1
        go_wp2
        go_ret
        exact ⟨ret_bool HR.out.symm, hB1⟩
      · have HR := Lib.hid (show R = decide (a.ps = b.ps) by rw [hR]; rfl)
        clear hR
        go_enter Tryd.func12, Tryd.ntmps12
        go_wp2_with fail
        rw [← HW0.out]
        refine HSC.out.mono ?_
        rintro e w1 ⟨rfl, hb1⟩
        have hB1 := below_then HBB.out HBB.out.size hb1
        have ht2 := below_cell hb1 hs2
        have ht3 := below_cell hb1 hs3
        have ht3' : (w1.alloc (.cells #[.slice q0 m0 d0] 23)).cell? ⟨W.heap.size + 1, 3, none⟩ = some (.slice q1 m1 d1) := below_cell ((Below.refl _ _).alloc (Nat.le_refl _) _) ht3
        obtain ⟨w3, hw3⟩ : ∃ w : World, w = (w1.alloc (.cells #[.slice q0 m0 d0] 23)).alloc (.cells #[.slice q1 m1 d1] 23) := ⟨_, rfl⟩
        have hb3 : Below w1.heap.size w1 w3 := by rw [hw3]; exact ((Below.refl _ _).alloc (Nat.le_refl _) _).alloc (by simp) _
        have hP := HP.out w3 (hb1.trans (hb3.mono hb1.size))
        have HSI := Lib.hid (samefI_c w1.heap.size (w1.heap.size + 1) q0 q1 m0 m1 d0 d1 a.ps b.ps w3 (by rw [hw3]; simp) (by rw [hw3]; simp) hP.1 hP.2 hm0 hm1)
        have HW3 := Lib.hid hw3
        have HB3 := Lib.hid (below_then hB1 hB1.size hb3)
        clear hb1 hw3 hb3 hP hB1
        go_wp2_with fail
        rw [← HW3.out]
        refine HSI.out.mono ?_
        rintro e w4 ⟨rfl, hb4⟩
        have hB4 := below_then HB3.out HB3.out.size hb4
        clear hb4 HSI
        go_wp2
        go_ret
        exact ⟨ret_bool HR.out.symm, hB4⟩
    · have he2 : ((ag : Int) == bg) = false := by rw [beq_eq_false_iff_ne]; exact h2
      have HR := Lib.hid (show R = false by rw [hR, decide_eq_false h2]; rfl)
      clear hR h1 h2
      go_enter Tryd.func12, Tryd.ntmps12
      go_wp2
      go_ret
      exact ⟨ret_bool HR.out.symm, by first | exact HBB.out | (rw [← HW0.out]; exact HBB.out)⟩
  · have he1 : ((ac : Int) == bc) = false := by rw [beq_eq_false_iff_ne]; exact h1
    have HR := Lib.hid (show R = false by rw [hR, decide_eq_false h1]; rfl)
    clear hR h1
    go_enter Tryd.func12, Tryd.ntmps12
    go_wp2
    go_ret
    exact ⟨ret_bool HR.out.symm, by first | exact HBB.out | (rw [← HW0.out]; exact HBB.out)⟩

end Go.Proofs.YtjgdkfgcfningaaDoor
