/-
  may and Check, of package script: which scripts may be.
  Conditions: the script's rows read as rows; the lists are at most 2 to the power 20, of at most 2 to the power 40 calls each; the picks at most 2 to the power 40.
-/
import Derived.Test.YtjgdkfgcfningaaDoorSMay
namespace Go.Proofs.YtjgdkfgcfningaaDoor
open Go.RowKit Go.Shelf

def scriptB (c g : Int) (ls : List Nat) (ps : List Int) : Bool := decide (1 ≤ c) && decide (c ≤ 8) && decide (1 ≤ g) && decide (g ≤ 64) && decide ((ls.length : Int) = c) && decide (sumL ls ≤ 64) && decide (ps.length ≤ 4096) && !(ps.any (strangeB c))
theorem LensAt.below {W W' : World} {v : Value} {ls : List Nat} (h : LensAt W v ls) (hb : Below W.heap.size W W') : LensAt W' v ls := by
  obtain ⟨p, c, rfl, hc⟩ := h
  refine ⟨p, c, rfl, fun hne => ?_⟩
  obtain ⟨b, off, rfl, hh⟩ := hc hne
  exact ⟨b, off, rfl, fun i hi => by obtain ⟨q, d, hx⟩ := hh i hi; exact ⟨q, d, below_cell hb hx⟩⟩

set_option maxRecDepth 100000 in
set_option maxHeartbeats 8000000 in
theorem may_c (c g : Int) (v0 v1 : Value) (ls : List Nat) (ps : List Int) (W : World) (h0 : LensAt W v0 ls) (h1 : NumsAt W .i64 v1 ps) (hl : ls.length ≤ 1048576) (hs : ∀ n ∈ ls, n ≤ 1099511627776) (hp : ps.length ≤ 1099511627776) :
    Calls Tryd.prog 27 #[.agg #[.int .i64 c, .int .i64 g, v0, v1]] W fun e w' => e = .returned (.bool (scriptB c g ls ps)) ∧ Below W.heap.size W w' := by
  obtain ⟨wo, hwo⟩ : ∃ w : World, w = W.alloc (.cells #[.int .i64 c, .int .i64 g, v0, v1] 25) := ⟨_, rfl⟩
  have hB : Below W.heap.size W wo := by rw [hwo]; exact (Below.refl _ _).alloc (Nat.le_refl _) _
  have HCC := Lib.hid (calls_c v0 ls wo (h0.below hB) hl hs)
  have hc0 : wo.cell? ⟨W.heap.size, 0, none⟩ = some (.int .i64 c) := by rw [hwo]; simp
  have HAS := Lib.hid (anyStrange_c c W.heap.size v1 ps wo (nums_below h1 hB) hp hc0)
  obtain ⟨p0, d0, rfl, h0c⟩ := h0
  obtain ⟨p1, d1, rfl, h1c⟩ := h1
  clear h0c h1c
  obtain ⟨n, hn⟩ : ∃ n, n = ls.length := ⟨_, rfl⟩
  obtain ⟨m, hm⟩ : ∃ m, m = ps.length := ⟨_, rfl⟩
  obtain ⟨s, hse⟩ : ∃ s, s = sumL ls := ⟨_, rfl⟩
  obtain ⟨a, hae⟩ : ∃ a, a = ps.any (strangeB c) := ⟨_, rfl⟩
  obtain ⟨r, hre⟩ : ∃ r, r = scriptB c g ls ps := ⟨_, rfl⟩
  have HR := Lib.hid hre
  unfold scriptB at hre
  rw [← hn, ← hse, ← hm, ← hae] at hre
  rw [← HR.out]
  rw [← hn, ← hse] at HCC
  rw [← hm, ← hae] at HAS
  rw [← hn] at hl hwo ⊢
  rw [← hm] at hp hwo ⊢
  have HSE := Lib.hid hse
  clear hn hm hse hae hs hc0 HR
  have HWO := Lib.hid hwo
  clear hwo
  by_cases hk1 : 1 ≤ c
  · by_cases hk2 : c ≤ 8
    · by_cases hk3 : 1 ≤ g
      · by_cases hk4 : g ≤ 64
        · by_cases hk5 : (n : Int) = c
          · by_cases hk6 : s ≤ 64
            · by_cases hk7 : m ≤ 4096
              · have HRR := Lib.hid (show r = !a by rw [hre]; simp [hk1, hk2, hk3, hk4, hk5, hk6, hk7])
                clear hre
                have heq : ((n : Int) == c) = true := by rw [hk5]; simp
                have hc3 : wo.cell? ⟨W.heap.size, 3, none⟩ = some (.slice p1 m d1) := by rw [HWO.out]; simp
                go_enter Tryd.func27, Tryd.ntmps27
                go_wp2_with fail
                rw [← HWO.out]
                refine HCC.out.mono ?_
                rintro e w1 ⟨rfl, rfl⟩
                go_wp2_with fail
                refine HAS.out.mono ?_
                rintro e w2 ⟨rfl, rfl⟩
                go_wp2
                go_ret
                exact ⟨ret_bool HRR.out.symm, hB⟩
              · have HRR := Lib.hid (show r = false by rw [hre]; simp [hk1, hk2, hk3, hk4, hk5, hk6, hk7])
                clear hre
                have heq : ((n : Int) == c) = true := by rw [hk5]; simp
                have hc3 : wo.cell? ⟨W.heap.size, 3, none⟩ = some (.slice p1 m d1) := by rw [HWO.out]; simp
                go_enter Tryd.func27, Tryd.ntmps27
                go_wp2_with fail
                rw [← HWO.out]
                refine HCC.out.mono ?_
                rintro e w1 ⟨rfl, rfl⟩
                go_wp2
                go_ret
                exact ⟨ret_bool HRR.out.symm, hB⟩
            · have HRR := Lib.hid (show r = false by rw [hre]; simp [hk1, hk2, hk3, hk4, hk5, hk6])
              clear hre
              have heq : ((n : Int) == c) = true := by rw [hk5]; simp
              have hc3 : wo.cell? ⟨W.heap.size, 3, none⟩ = some (.slice p1 m d1) := by rw [HWO.out]; simp
              go_enter Tryd.func27, Tryd.ntmps27
              go_wp2_with fail
              rw [← HWO.out]
              refine HCC.out.mono ?_
              rintro e w1 ⟨rfl, rfl⟩
              go_wp2
              go_ret
              exact ⟨ret_bool HRR.out.symm, hB⟩
          · have HRR := Lib.hid (show r = false by rw [hre]; simp [hk1, hk2, hk3, hk4, hk5])
            clear hre
            have hne : ((n : Int) == c) = false := by rw [beq_eq_false_iff_ne]; exact hk5
            go_enter Tryd.func27, Tryd.ntmps27
            go_wp2
            go_ret
            exact ⟨ret_bool HRR.out.symm, by first | exact hB | (rw [← HWO.out]; exact hB)⟩
        · have HRR := Lib.hid (show r = false by rw [hre]; simp [hk1, hk2, hk3, hk4])
          clear hre
          go_enter Tryd.func27, Tryd.ntmps27
          go_wp2
          go_ret
          exact ⟨ret_bool HRR.out.symm, by first | exact hB | (rw [← HWO.out]; exact hB)⟩
      · have HRR := Lib.hid (show r = false by rw [hre]; simp [hk1, hk2, hk3])
        clear hre
        go_enter Tryd.func27, Tryd.ntmps27
        go_wp2
        go_ret
        exact ⟨ret_bool HRR.out.symm, by first | exact hB | (rw [← HWO.out]; exact hB)⟩
    · have HRR := Lib.hid (show r = false by rw [hre]; simp [hk1, hk2])
      clear hre
      go_enter Tryd.func27, Tryd.ntmps27
      go_wp2
      go_ret
      exact ⟨ret_bool HRR.out.symm, by first | exact hB | (rw [← HWO.out]; exact hB)⟩
  · have HRR := Lib.hid (show r = false by rw [hre]; simp [hk1])
    clear hre
    go_enter Tryd.func27, Tryd.ntmps27
    go_wp2
    go_ret
    exact ⟨ret_bool HRR.out.symm, by first | exact hB | (rw [← HWO.out]; exact hB)⟩

theorem check3_c (c g : Int) (v0 v1 : Value) (ls : List Nat) (ps : List Int) (W : World) (h0 : LensAt W v0 ls) (h1 : NumsAt W .i64 v1 ps) (hl : ls.length ≤ 1048576) (hs : ∀ n ∈ ls, n ≤ 1099511627776) (hp : ps.length ≤ 1099511627776) :
    Calls Tryd.prog 11 #[.agg #[.int .i64 c, .int .i64 g, v0, v1]] W fun e w' => e = .returned (.int .i64 (if scriptB c g ls ps then 0 else 130)) ∧ Below W.heap.size W w' := by
  have hB : Below W.heap.size W (W.alloc (.cells #[.int .i64 c, .int .i64 g, v0, v1] 25)) := (Below.refl _ _).alloc (Nat.le_refl _) _
  have HM := may_c c g v0 v1 ls ps _ (h0.below hB) (nums_below h1 hB) hl hs hp
  obtain ⟨p0, d0, rfl, h0c⟩ := h0
  obtain ⟨p1, d1, rfl, h1c⟩ := h1
  clear h0c h1c
  cases hb : scriptB c g ls ps <;> rw [hb] at HM <;> clear hb
  all_goals
    go_enter Tryd.func11, Tryd.ntmps11
    go_wp2_with fail
    refine HM.mono ?_
    rintro e w1 ⟨rfl, hb1⟩
    clear HM
    go_wp2
    go_ret
    exact ⟨rfl, below_then hB hB.size hb1⟩

end Go.Proofs.YtjgdkfgcfningaaDoor
