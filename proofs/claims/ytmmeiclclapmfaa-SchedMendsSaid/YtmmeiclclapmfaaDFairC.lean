/-
  Least and Fair of package sched.
  Conditions: the row of picks reads as a list of at most 2 to the power 40.
-/
import Derived.Test.YtmmeiclclapmfaaDLeast
namespace Go.Proofs.Ytmmeiclclapmfaa
open Go.RowKit Go.Shelf

theorem longest_o {c : Nat} {l : List Int} {x0 x1 x2 x3 x4 x5 x6 x7 : Int} (hc1 : 1 ≤ c) (hc8 : c ≤ 8) (hx : Hid (arr c l = [x0, x1, x2, x3, x4, x5, x6, x7])) (W : World) :
    Calls Try.prog 29 #[.agg #[.int .i64 x0, .int .i64 x1, .int .i64 x2, .int .i64 x3, .int .i64 x4, .int .i64 x5, .int .i64 x6, .int .i64 x7], .int .i64 (c : Int)] W fun e w' => (∃ j : Nat, e = .returned (.int .i64 (j : Int)) ∧ j < c ∧ Hid (j = amax (wv c l) c)) ∧ Below W.heap.size W w' := by
  have h := longest_c c ⟨hc1, hc8⟩ l W
  rw [show aggI (arr c l) = .agg #[.int .i64 x0, .int .i64 x1, .int .i64 x2, .int .i64 x3, .int .i64 x4, .int .i64 x5, .int .i64 x6, .int .i64 x7] by rw [hx.out]; rfl] at h
  exact h.mono fun e w' ⟨he, hb⟩ => ⟨⟨_, he, amax_lt _ _ hc1, rfl⟩, hb⟩
theorem arr_get {c : Nat} {l : List Int} (j : Nat) (hj : j < c) (h : j < (arr c l).length) : (arr c l)[j] = (waitL l (j : Int) : Int) := by
  simp only [arr]
  rw [List.getElem_append_left (by rw [wv_length]; exact hj), wv_get]
theorem mostW_le' (c : Nat) (hc : 0 < c) (l : List Int) (n : Nat) : mostW c l n ≤ l.length := mostW_le c hc l l.length n fun m _ i _ => by
  have := waitL_le (l.take m) (i : Int)
  simp at this; omega
theorem mostW_succ (c : Nat) (hc : 0 < c) (l : List Int) (i : Nat) : mostW c l (i + 1) = max (mostW c l i) (waitL (l.take (i + 1)) ((amax (wv c (l.take (i + 1))) c : Nat) : Int)) := by
  simp only [mostW]
  rw [wv_getD _ _ _ (amax_lt _ _ hc)]
  rfl
theorem run_maxN (a b : Nat) (w : World) : (Builtin.max_ #[3, 3] 3 #[.int .i64 (a : Int), .int .i64 (b : Int)]).run Try.prog w = .ok (.int .i64 ((max a b : Nat) : Int)) w := by
  have : (if a < b then (b : Int) else a) = ((max a b : Nat) : Int) := by split <;> omega
  simp [Builtin.max_, Builtin.max2, this]

set_option maxRecDepth 100000 in
set_option maxHeartbeats 4000000 in
theorem least_c (c : Int) (v : Value) (l : List Int) (W : World) (hv : NumsAt W .i64 v l) (hl : l.length ≤ 1099511627776) :
    Calls Try.prog 15 #[.int .i64 c, v] W fun e w' => e = .returned (.int .i64 (if okB c l then (leastL c.toNat l : Int) else 0)) ∧ Below W.heap.size W w' := by
  obtain ⟨p, cap, rfl, hc⟩ := hv
  have HV := Lib.hid (show NumsAt W .i64 (.slice p l.length cap) l from ⟨p, cap, rfl, hc⟩)
  obtain ⟨n, hn0⟩ : ∃ n, n = l.length := ⟨_, rfl⟩
  have HCK := check_c c _ l W HV.out (by omega)
  rw [← hn0] at hl HV HCK ⊢
  have HN := Lib.hid hn0
  clear hn0
  cases hok : okB c l with
  | false =>
    rw [hok] at HCK
    clear hok
    go_enter Try.func15, Try.ntmps15
    go_wp2_with fail
    refine HCK.mono ?_
    rintro e w1 ⟨rfl, hb⟩
    simp only [errS]
    go_wp2
    go_ret
    exact ⟨rfl, hb⟩
  | true =>
    rw [hok] at HCK
    obtain ⟨⟨hc1, hc8⟩, hall⟩ := okB_iff.1 hok
    obtain ⟨k, rfl⟩ := Int.eq_ofNat_of_zero_le (show 0 ≤ c by omega)
    have HALL := Lib.hid hall
    clear hok hall
    go_enter Try.func15, Try.ntmps15
    go_wp2_with fail
    refine HCK.mono ?_
    rintro e w1 ⟨rfl, hb⟩
    simp only [errS]
    clear HCK
    go_wp2
    obtain ⟨z, hz⟩ : ∃ z, z = w1.heap.size := ⟨_, rfl⟩
    obtain ⟨wo, hwo⟩ : ∃ wo : World, wo = w1.alloc (.cells #[.int .i64 0, .int .i64 0, .int .i64 0, .int .i64 0, .int .i64 0, .int .i64 0, .int .i64 0, .int .i64 0] 46) := ⟨_, rfl⟩
    rw [← hwo, ← hz]
    have HBX : WBox wo z (arr k (l.take 0)) := by rw [hwo, hz]; exact WBox.new (by rw [List.take_zero, arr_nil (by omega)]; rfl)
    have hbo : Below w1.heap.size w1 wo := by rw [hwo]; exact (Below.refl _ _).alloc (Nat.le_refl _) _
    have hB := below_then hb hb.size hbo
    have hWz : W.heap.size ≤ z := by rw [hz]; exact hb.size
    clear hb hbo hwo HV
    have hk8 : k ≤ 8 := by omega
    have hc1' : 1 ≤ k := by omega
    go_loopw [6, 15] (fun mv iv wr => ∃ i t : Nat, i ≤ n ∧ iv = .int .i64 i ∧ mv = .int .i64 t ∧ Hid (t = mostW k l i) ∧ WBox wr z (arr k (l.take i)) ∧ Below W.heap.size W wr) (fun _ iv _ => n - (intOf iv).toNat)
    case atStart => exact ⟨0, 0, Nat.zero_le _, rfl, rfl, rfl, HBX, hB⟩
    case round =>
      clear HBX hB hz
      obtain ⟨i, t, hi, rfl, rfl, HM, HBX, hB⟩ := hrel
      by_cases hlt : i < n
      · have hil : i < l.length := by have := HN.out; omega
        obtain ⟨b, off, rfl, hcs⟩ := hc (by intro e; rw [e] at hil; cases hil)
        have hx := below_cell hB (hcs i hil)
        obtain ⟨hp0, hp1⟩ := HALL.out _ (List.getElem_mem hil)
        have htk := List.take_succ_eq_append_getElem hil
        obtain ⟨x, hxe⟩ : ∃ x, x = l[i] := ⟨_, rfl⟩
        rw [← hxe] at hx hp0 hp1 htk
        obtain ⟨m, rfl⟩ := Int.eq_ofNat_of_zero_le hp0
        have HT := Lib.hid htk
        obtain ⟨a0, a1, a2, a3, a4, a5, a6, a7, HA, _⟩ := arr8 hk8 (l.take i)
        have HBX1 : WBox wr z [a0, a1, a2, a3, a4, a5, a6, a7] := by rw [← HA.out]; exact HBX
        obtain ⟨h0, h1, h2, h3, h4, h5, h6, h7⟩ := HBX1.cells
        have hmk : m < k := by omega
        clear hcs hxe htk HBX hp0 hp1
        go_wp2_with fail
        clear h0 h1 h2 h3 h4 h5 h6 h7 hx
        refine (behind_o hc1' hk8 HA (by rw [List.length_take]; omega) m hmk wr).mono ?_
        rintro e w3 ⟨⟨y0, y1, y2, y3, y4, y5, y6, y7, rfl, HY⟩, hb3⟩
        rw [← HT.out] at HY
        have HBX3 := HBX1.below hb3
        obtain ⟨h0, h1, h2, h3, h4, h5, h6, h7⟩ := HBX3.cells
        have f0 := HBX3.free 0
        have f1 := HBX3.free 1
        have f2 := HBX3.free 2
        have f3 := HBX3.free 3
        have f4 := HBX3.free 4
        have f5 := HBX3.free 5
        have f6 := HBX3.free 6
        have f7 := HBX3.free 7
        obtain ⟨w4, hw4⟩ : ∃ w4, w4 = putW w3 z [y0, y1, y2, y3, y4, y5, y6, y7] := ⟨_, rfl⟩
        have HP : WBox w4 z [y0, y1, y2, y3, y4, y5, y6, y7] := by rw [hw4]; exact HBX3.put rfl rfl
        have hk : Keeps (fun q => q = z) w3 w4 := by rw [hw4]; exact putW_keeps w3 z _
        have hBE := (below_then hB hB.size hb3).trans (hk.below (Nat.le_trans hB.size hb3.size) (fun q hq => by have hq : q = z := hq; omega))
        rw [putW_eq] at hw4
        clear hb3 HBX1 hB hk
        go_upto_region 9 with (fail)
        rw [← hw4]
        clear hw4 h0 h1 h2 h3 h4 h5 h6 h7 f0 f1 f2 f3 f4 f5 f6 f7 HBX3
        obtain ⟨h0, h1, h2, h3, h4, h5, h6, h7⟩ := HP.cells
        go_wp2_with fail
        clear h0 h1 h2 h3 h4 h5 h6 h7
        refine (longest_o hc1' hk8 HY w4).mono ?_
        rintro e w5 ⟨⟨j, rfl, hj, HJ⟩, hb5⟩
        have HP5 := HP.below hb5
        have hBF := below_then hBE hBE.size hb5
        rw [← HY.out] at HP5
        have hja : j < (arr k (l.take (i + 1))).length := by rw [arr_length hk8]; omega
        have hxj := HP5.cell j hja
        rw [arr_get j hj] at hxj
        have hms := mostW_succ k hc1' l i
        rw [← HJ.out, ← HM.out] at hms
        have hbd := waitL_le (l.take (i + 1)) (j : Int)
        rw [List.length_take] at hbd
        obtain ⟨u, hu⟩ : ∃ u, u = waitL (l.take (i + 1)) (j : Int) := ⟨_, rfl⟩
        rw [← hu] at hxj hms hbd
        have HMS := Lib.hid hms
        have hmx := run_maxN t u
        have hj8 : j < 8 := by omega
        clear hms hu hb5 HP hBE
        go_wp2
        go_roundw
        case rel => exact ⟨i + 1, max t u, by omega, by go_num, rfl, Lib.hid HMS.out.symm, HP5, hBF⟩
        case measure => simp [intOf]; omega
      · obtain rfl : i = n := by omega
        have hbd := mostW_le' k hc1' l i
        have ht : t ≤ 1099511627776 := by rw [HM.out]; have := HN.out; omega
        clear hbd
        go_wp2
        go_ret
        exact ⟨ret_int (by rw [HM.out, HN.out]; simp [leastL]), hB⟩

set_option maxHeartbeats 4000000 in
theorem fair_c (c : Int) (v : Value) (l : List Int) (k : Int) (W : World) (hv : NumsAt W .i64 v l) (hl : l.length ≤ 1099511627776) :
    Calls Try.prog 14 #[.int .i64 c, v, .int .i64 k] W fun e w' => e = .returned (.bool (okB c l && decide ((leastL c.toNat l : Int) ≤ k))) ∧ Below W.heap.size W w' := by
  have HL := least_c c v l W hv hl
  cases hok : okB c l with
  | false =>
    rw [hok] at HL
    clear hok
    simp only [Bool.false_eq_true, if_false] at HL
    go_enter Try.func14, Try.ntmps14
    go_wp2_with fail
    refine HL.mono ?_
    rintro e w1 ⟨rfl, hb⟩
    clear HL
    go_wp2
    go_ret
    exact ⟨rfl, hb⟩
  | true =>
    rw [hok] at HL
    clear hok
    simp only [if_true] at HL
    have hp := least_pos c.toNat l
    have hle : leastL c.toNat l = leastL c.toNat l := rfl
    generalize leastL c.toNat l = m at *
    by_cases hk : (m : Int) ≤ k
    · have HD := Lib.hid (show decide ((m : Int) ≤ k) = true by simpa using hk)
      go_enter Try.func14, Try.ntmps14
      go_wp2_with fail
      refine HL.mono ?_
      rintro e w1 ⟨rfl, hb⟩
      clear HL
      go_wp2
      go_ret
      exact ⟨ret_bool (by rw [HD.out]; rfl), hb⟩
    · have HD := Lib.hid (show decide ((m : Int) ≤ k) = false by simpa using hk)
      go_enter Try.func14, Try.ntmps14
      go_wp2_with fail
      refine HL.mono ?_
      rintro e w1 ⟨rfl, hb⟩
      clear HL
      go_wp2
      go_ret
      exact ⟨ret_bool (by rw [HD.out]; rfl), hb⟩

end Go.Proofs.Ytmmeiclclapmfaa
