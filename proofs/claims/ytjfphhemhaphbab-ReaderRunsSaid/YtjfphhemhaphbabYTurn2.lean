/-
  Package reader: the step by which a CPU leaves a section.
  Conditions: the ranges of Go's types.
-/
import Derived.Test.YtjfphhemhaphbabYTurn
namespace Go.Proofs.Ytjfphhemhaphbab
set_option maxRecDepth 100000
open Go.RowKit Go.Shelf
attribute [local go_sem] Oper.semAt_some

set_option maxHeartbeats 4000000 in
theorem leave_c (z g h : Nat) (s : RdS) (c : Int) (W : World) (k : TurnAt W z g h s) (hl : s.os.length = s.ns.length) (h8 : s.ns.length ≤ 8) (hnow : 0 ≤ s.now ∧ s.now ≤ 2147483647) (hr : ∀ x ∈ s.ns, 0 ≤ x ∧ x ≤ 8) :
    Calls Try.prog 24 #[.pointer (some ⟨z, 0, none⟩), .int .i64 c] W fun e w' => e = .returned (.int .i64 (stepE s c false)) ∧ Keeps (fun b => b = z ∨ b = g ∨ b = h) W w' ∧ (stepE s c false = 0 → TurnAt w' z g h (stepS s c false)) := by
  obtain ⟨now, ns, os⟩ := s
  simp only at hl h8 hnow hr
  have HC := Lib.hid (fun (Z : World) => has_c now c (some ⟨g, 0, none⟩) ns.length ns.length (.slice (some ⟨h, 0, none⟩) os.length os.length) Z)
  have HLL := Lib.hid hl
  clear hl
  obtain ⟨d0, d1, d2⟩ := k.cells
  simp only at d0 d1 d2
  by_cases hh : hasB ns.length c = true
  · have HK := Lib.hid k
    obtain ⟨i, rfl⟩ : ∃ i : Nat, c = (i : Int) := by unfold hasB at hh; simp only [Bool.and_eq_true, decide_eq_true_eq] at hh; exact Int.eq_ofNat_of_zero_le hh.1
    have hi : i < ns.length := by unfold hasB at hh; simp only [Bool.and_eq_true, decide_eq_true_eq] at hh; omega
    rw [hh] at HC
    have HH := Lib.hid hh
    have hx := k.nest.cell i hi
    simp only at hx
    obtain ⟨n, hn⟩ : ∃ n, n = ns[i] := ⟨_, rfl⟩
    have HD := Lib.hid (show ns.getD i 0 = n by rw [List.getD_eq_getElem?_getD, List.getElem?_eq_getElem hi, hn]; rfl)
    have hnr := hr n (by rw [hn]; exact List.getElem_mem hi)
    rw [← hn] at hx
    have hi0 : (0 : Int) ≤ (i : Int) := by omega
    have hil : (i : Int) < (ns.length : Int) := by omega
    clear hh k hr hn
    by_cases c1 : now = 2147483647
    · have hE : stepE ⟨now, ns, os⟩ (i : Int) false = 6 := by unfold stepE; simp only; rw [HH.out, if_neg (by simp), if_pos (.inl c1)]
      rw [hE]
      have hq : (now == 2147483647) = true := by rw [c1]; rfl
      clear hE c1
      go_enter Try.func24, Try.ntmps24
      go_wp2_with fail
      (with_reducible refine (HC.out W).mono ?_)
      rintro e w1 ⟨rfl, hb1⟩
      have HB := Lib.hid (Keeps.of_below (S := fun b => b = z ∨ b = g ∨ b = h) hb1)
      obtain ⟨e0, e1, e2⟩ := (HK.out.below hb1).cells
      clear hb1
      go_wp2
      go_ret
      exact ⟨rfl, HB.out, fun h => by cases h⟩
    · have hq : (now == 2147483647) = false := by rw [beq_eq_false_iff_ne]; exact c1
      by_cases c2 : n = 0
      · have hE : stepE ⟨now, ns, os⟩ (i : Int) false = 4 := by unfold stepE; simp only; rw [HH.out, if_neg (by simp), if_neg (by rintro (h | ⟨h, _⟩); exact c1 h; cases h), if_pos ⟨trivial, by rw [Int.toNat_natCast, HD.out, c2]⟩]
        rw [hE]
        have hq2 : (n == 0) = true := by rw [c2]; rfl
        clear hE c1 c2
        go_enter Try.func24, Try.ntmps24
        go_wp2_with fail
        (with_reducible refine (HC.out W).mono ?_)
        rintro e w1 ⟨rfl, hb1⟩
        have HB := Lib.hid (Keeps.of_below (S := fun b => b = z ∨ b = g ∨ b = h) hb1)
        obtain ⟨e0, e1, e2⟩ := (HK.out.below hb1).cells
        have hx1 := below_cell hb1 hx
        clear hb1
        go_wp2
        go_ret
        exact ⟨rfl, HB.out, fun h => by cases h⟩
      · have hE : stepE ⟨now, ns, os⟩ (i : Int) false = 0 := by
          unfold stepE; simp only; rw [HH.out, if_neg (by simp), if_neg (by rintro (h | ⟨h, _⟩); exact c1 h; cases h), if_neg (by rintro ⟨_, h⟩; rw [Int.toNat_natCast, HD.out] at h; exact c2 h)]
        rw [hE]
        have hq2 : (n == 0) = false := by rw [beq_eq_false_iff_ne]; exact c2
        have hnow1 : now < 2147483647 := by omega
        have hn1 : 1 ≤ n := by omega
        clear hE c1 c2
        go_enter Try.func24, Try.ntmps24
        go_wp2_with fail
        (with_reducible refine (HC.out W).mono ?_)
        rintro e w1 ⟨rfl, hb1⟩
        have HB := Lib.hid (Keeps.of_below (S := fun b => b = z ∨ b = g ∨ b = h) hb1)
        have k1 := HK.out.below hb1
        obtain ⟨e0, e1, e2⟩ := k1.cells
        have f0 := k1.mark 0
        have hx1 := below_cell hb1 hx
        have K2 := Lib.hid (k1.setNow (now + 1))
        obtain ⟨w2, hw2⟩ : ∃ X : World, X = w1.setCell ⟨z, 0, none⟩ (.int .i64 (now + 1)) := ⟨_, rfl⟩
        have HB2 := Lib.hid (show Keeps (fun b => b = z ∨ b = g ∨ b = h) W w2 by rw [hw2]; exact HB.out.trans (Keeps.setCell w1 (p := ⟨z, 0, none⟩) (.inl rfl) _))
        rw [← hw2] at K2
        have HW2 := Lib.hid hw2
        have hiO : i < os.length := by rw [HLL.out]; exact hi
        clear hb1 hw2 k1 HB
        go_upto_region 8 with fail
        rw [← HW2.out]
        clear e0 e1 e2 f0 hx1 HW2 hx d0 d1 d2
        obtain ⟨e0, e1, e2⟩ := K2.out.cells
        have hx2 := K2.out.nest.cell i hi
        simp only at e0 e1 e2 hx2
        rw [show ns[i] = n by have := HD.out; rwa [List.getD_eq_getElem?_getD, List.getElem?_eq_getElem hi] at this] at hx2
        have f2 := K2.out.nest.free i
        have K3 := Lib.hid (K2.out.setNest i (n - 1))
        have HB3 := Lib.hid (HB2.out.trans (Keeps.setCell w2 (S := fun b => b = z ∨ b = g ∨ b = h) (p := ⟨g, i, none⟩) (.inr (.inl rfl)) (.int .i64 (n - 1))))
        obtain ⟨w3, hw3⟩ : ∃ X : World, X = w2.setCell ⟨g, i, none⟩ (.int .i64 (n - 1)) := ⟨_, rfl⟩
        rw [← hw3] at K3 HB3
        have HW3 := Lib.hid hw3
        clear hw3 K2 HB2
        go_upto_region 9 with fail
        rw [← HW3.out]
        clear e0 e1 e2 hx2 f2 HW3
        obtain ⟨e0, e1, e2⟩ := K3.out.cells
        have hx2 := K3.out.nest.cell i (by simp only [List.length_set]; exact hi)
        simp only [List.getElem_set_self, List.length_set] at e0 e1 e2 hx2
        by_cases c3 : n = 1
        · subst c3
          have hy2 := K3.out.opened.free i
          have hy3 := K3.out.opened.cell i hiO
          have hiL : (i : Int) < (os.length : Int) := by omega
          have HST := Lib.hid (show stepS ⟨now, ns, os⟩ (i : Int) false = ⟨now + 1, ns.set i (1 - 1), os.set i 0⟩ by unfold stepS; simp only [if_false, Bool.false_eq_true, Int.toNat_natCast]; rw [HD.out, if_pos rfl])
          have K4 := Lib.hid (K3.out.setOpened i 0)
          have HB4 := Lib.hid (HB3.out.trans (Keeps.setCell w3 (S := fun b => b = z ∨ b = g ∨ b = h) (p := ⟨h, i, none⟩) (.inr (.inr rfl)) (.int .i64 0)))
          clear K3 HB3
          go_wp2
          go_ret
          exact ⟨rfl, HB4.out, by rw [HST.out]; exact K4.out⟩
        · have hq3 : (n - 1 == 0) = false := by rw [beq_eq_false_iff_ne]; omega
          have HST := Lib.hid (show stepS ⟨now, ns, os⟩ (i : Int) false = ⟨now + 1, ns.set i (n - 1), os⟩ by unfold stepS; simp only [if_false, Bool.false_eq_true, Int.toNat_natCast]; rw [HD.out, if_neg c3])
          clear c3
          go_wp2
          go_ret
          exact ⟨rfl, HB3.out, by rw [HST.out]; exact K3.out⟩
  · have hh' : hasB ns.length c = false := by cases h : hasB ns.length c <;> simp_all
    have hE : stepE ⟨now, ns, os⟩ c false = 2 := by unfold stepE; rw [if_pos hh']
    rw [hE]
    rw [hh'] at HC
    clear hh hh' hE k
    go_enter Try.func24, Try.ntmps24
    go_wp2_with fail
    (with_reducible refine (HC.out W).mono ?_)
    rintro e w1 ⟨rfl, hb1⟩
    have HB := Lib.hid (Keeps.of_below (S := fun b => b = z ∨ b = g ∨ b = h) hb1)
    clear hb1
    go_wp2
    go_ret
    exact ⟨rfl, HB.out, fun h => by cases h⟩

end Go.Proofs.Ytjfphhemhaphbab
