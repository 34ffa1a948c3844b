/-
  longest, Waits, Least and Fair of package sched.
  Conditions: the row of picks reads as a list of at most 2 to the power 40.
-/
import Derived.Test.YtmmeiclclapmfaaDWaits
namespace Go.Proofs.Ytmmeiclclapmfaa
open Go.RowKit Go.Shelf

theorem arr_take (c : Nat) (l : List Int) : (arr c l).take c = wv c l := by
  rw [arr, List.take_append_of_le_length (by rw [wv_length]; omega), List.take_of_length_le (by rw [wv_length]; omega)]
/-- An array of waits, as eight numbers. -/
theorem arr8 {c : Nat} (h : c ≤ 8) (l : List Int) : ∃ a0 a1 a2 a3 a4 a5 a6 a7, Hid (arr c l = [a0, a1, a2, a3, a4, a5, a6, a7]) ∧ aggI (arr c l) = .agg #[.int .i64 a0, .int .i64 a1, .int .i64 a2, .int .i64 a3, .int .i64 a4, .int .i64 a5, .int .i64 a6, .int .i64 a7] := by
  obtain ⟨a0, a1, a2, a3, a4, a5, a6, a7, hA⟩ := list8 (arr_length h l)
  exact ⟨a0, a1, a2, a3, a4, a5, a6, a7, hA, by rw [hA]; rfl⟩
theorem WBox.new {w : World} {xs : List Int} {a0 a1 a2 a3 a4 a5 a6 a7 : Int} (h : xs = [a0, a1, a2, a3, a4, a5, a6, a7]) : WBox (w.alloc (.cells #[.int .i64 a0, .int .i64 a1, .int .i64 a2, .int .i64 a3, .int .i64 a4, .int .i64 a5, .int .i64 a6, .int .i64 a7] 46)) w.heap.size xs := by
  subst h
  exact World.alloc_heap_new _ _

theorem run_cutA (b c : Nat) (h : c ≤ 8) (w : World) : (Instr.sliceAt 46 (.pointer (some ⟨b, 0, none⟩)) none (some (.int .i64 (c : Int))) none).run Try.prog w = .ok (.slice (some ⟨b, 0, none⟩) c 8) w := by
  have := run_sliceAt_array_h (P := Try.prog) (w := w) (t := 46) (a := ⟨b, 0, none⟩) Try.underlying46 .i64 (c : Int) (by omega) (by show (c : Int) ≤ 8; omega)
  rw [this]
  rfl
theorem arr_nil {c : Nat} (h : c ≤ 8) : arr c [] = List.replicate 8 0 := by
  rw [arr, wv_nil, List.replicate_append_replicate]
  congr 1
  omega
/-- What behind answers, opened. -/
theorem behind_o {c : Nat} {l : List Int} {x0 x1 x2 x3 x4 x5 x6 x7 : Int} (hc1 : 1 ≤ c) (hc8 : c ≤ 8) (hx : Hid (arr c l = [x0, x1, x2, x3, x4, x5, x6, x7])) (hl : l.length ≤ 1099511627776) (p : Nat) (hp : p < c) (W : World) :
    Calls Try.prog 28 #[.agg #[.int .i64 x0, .int .i64 x1, .int .i64 x2, .int .i64 x3, .int .i64 x4, .int .i64 x5, .int .i64 x6, .int .i64 x7], .int .i64 (c : Int), .int .i64 (p : Int)] W fun e w' =>
      (∃ y0 y1 y2 y3 y4 y5 y6 y7, e = .returned (.agg #[.int .i64 y0, .int .i64 y1, .int .i64 y2, .int .i64 y3, .int .i64 y4, .int .i64 y5, .int .i64 y6, .int .i64 y7]) ∧ Hid (arr c (l ++ [(p : Int)]) = [y0, y1, y2, y3, y4, y5, y6, y7])) ∧ Below W.heap.size W w' := by
  have h := behind_c c ⟨hc1, hc8⟩ l hl p hp W
  rw [show aggI (arr c l) = .agg #[.int .i64 x0, .int .i64 x1, .int .i64 x2, .int .i64 x3, .int .i64 x4, .int .i64 x5, .int .i64 x6, .int .i64 x7] by rw [hx.out]; rfl] at h
  refine h.mono fun e w' ⟨he, hb⟩ => ⟨?_, hb⟩
  obtain ⟨y0, y1, y2, y3, y4, y5, y6, y7, HY, hagg⟩ := arr8 hc8 (l ++ [(p : Int)])
  exact ⟨y0, y1, y2, y3, y4, y5, y6, y7, by rw [← hagg]; exact he, HY⟩

set_option maxRecDepth 100000 in
set_option maxHeartbeats 4000000 in
theorem longest_c (c : Nat) (hc : 1 ≤ c ∧ c ≤ 8) (l : List Int) (W : World) :
    Calls Try.prog 29 #[aggI (arr c l), .int .i64 (c : Int)] W fun e w' => e = .returned (.int .i64 (amax (wv c l) c : Int)) ∧ Below W.heap.size W w' := by
  obtain ⟨a0, a1, a2, a3, a4, a5, a6, a7, HA, hagg⟩ := arr8 hc.2 l
  rw [hagg]
  obtain ⟨hc1, hc8⟩ := hc
  have HG : ∀ w', w' = W.alloc (.cells #[.int .i64 a0, .int .i64 a1, .int .i64 a2, .int .i64 a3, .int .i64 a4, .int .i64 a5, .int .i64 a6, .int .i64 a7] 46) → Calls Try.prog 38 #[.slice (some ⟨W.heap.size, 0, none⟩) c 8] w' fun e w2 => e = .returned (.int .i64 (amax (wv c l) c : Int)) ∧ Below w'.heap.size w' w2 := by
    rintro w' rfl
    have h1 := (WBox.new (w := W) HA.out).nums c 8 (by rw [arr_length hc8]; exact hc8)
    rw [arr_take] at h1
    have := greatest_c _ _ _ h1 (by rw [wv_length]; omega)
    rwa [wv_length] at this
  clear hagg
  have hcut := run_cutA W.heap.size c hc8
  go_enter Try.func29, Try.ntmps29
  go_wp2_with fail
  refine (HG _ rfl).mono ?_
  rintro e w1 ⟨rfl, hb⟩
  clear HG
  have hB := below_then ((Below.refl _ W).alloc (Nat.le_refl _) _) (by simp) hb
  clear hb
  go_wp2
  go_ret
  exact ⟨rfl, hB⟩

set_option maxRecDepth 100000 in
set_option maxHeartbeats 4000000 in
theorem waits_c (c : Int) (v : Value) (l : List Int) (W : World) (hv : NumsAt W .i64 v l) (hl : l.length ≤ 1099511627776) :
    Calls Try.prog 12 #[.int .i64 c, v] W fun e w' => (if okB c l then OwnsNew W.heap.size 3 1 c.toNat ((wv c.toNat l).map (Value.int .i64)) e w' else e = .returned (.slice none 0 0)) ∧ Below W.heap.size W w' := by
  obtain ⟨p, cap, rfl, hc⟩ := hv
  have HV := Lib.hid (show NumsAt W .i64 (.slice p l.length cap) l from ⟨p, cap, rfl, hc⟩)
  obtain ⟨n, hn0⟩ : ∃ n, n = l.length := ⟨_, rfl⟩
  have HCK := check_c c _ l W HV.out (by omega)
  rw [← hn0] at hl HV HCK ⊢
  have HN := Lib.hid hn0
  clear hn0
  cases hok : okB c l with
  | false =>
    rw [hok] at HCK
    clear hok
    go_enter Try.func12, Try.ntmps12
    go_wp2_with fail
    refine HCK.mono ?_
    rintro e w1 ⟨rfl, hb⟩
    simp only [errS]
    go_wp2
    go_ret
    exact ⟨rfl, hb⟩
  | true =>
    rw [hok] at HCK
    obtain ⟨⟨hc1, hc8⟩, hall⟩ := okB_iff.1 hok
    obtain ⟨k, rfl⟩ := Int.eq_ofNat_of_zero_le (show 0 ≤ c by omega)
    have HALL := Lib.hid hall
    clear hok hall
    go_enter Try.func12, Try.ntmps12
    go_wp2_with fail
    refine HCK.mono ?_
    rintro e w1 ⟨rfl, hb⟩
    simp only [errS]
    clear HCK
    go_wp2
    obtain ⟨z, hz⟩ : ∃ z, z = w1.heap.size := ⟨_, rfl⟩
    obtain ⟨wo, hwo⟩ : ∃ wo : World, wo = w1.alloc (.cells #[.int .i64 0, .int .i64 0, .int .i64 0, .int .i64 0, .int .i64 0, .int .i64 0, .int .i64 0, .int .i64 0] 46) := ⟨_, rfl⟩
    rw [← hwo, ← hz]
    have HBX : WBox wo z (arr k (l.take 0)) := by rw [hwo, hz]; exact WBox.new (by rw [List.take_zero, arr_nil (by omega)]; rfl)
    have hbo : Below w1.heap.size w1 wo := by rw [hwo]; exact (Below.refl _ _).alloc (Nat.le_refl _) _
    have hB := below_then hb hb.size hbo
    have hWz : W.heap.size ≤ z := by rw [hz]; exact hb.size
    clear hb hbo hwo HV
    have hk8 : k ≤ 8 := by omega
    have hc1' : 1 ≤ k := by omega
    have hcut := run_cutA z k hk8
    go_loopw [14] (fun iv wr => ∃ i : Nat, i ≤ n ∧ iv = .int .i64 i ∧ WBox wr z (arr k (l.take i)) ∧ Below W.heap.size W wr) (fun iv _ => n - (intOf iv).toNat)
    case atStart => exact ⟨0, Nat.zero_le _, rfl, HBX, hB⟩
    case round =>
      clear HBX hB hz
      obtain ⟨i, hi, rfl, HBX, hB⟩ := hrel
      by_cases hlt : i < n
      · have hil : i < l.length := by have := HN.out; omega
        obtain ⟨b, off, rfl, hcs⟩ := hc (by intro e; rw [e] at hil; cases hil)
        have hx := below_cell hB (hcs i hil)
        obtain ⟨hp0, hp1⟩ := HALL.out _ (List.getElem_mem hil)
        have htk := List.take_succ_eq_append_getElem hil
        obtain ⟨x, hxe⟩ : ∃ x, x = l[i] := ⟨_, rfl⟩
        rw [← hxe] at hx hp0 hp1 htk
        obtain ⟨m, rfl⟩ := Int.eq_ofNat_of_zero_le hp0
        have HT := Lib.hid htk
        obtain ⟨a0, a1, a2, a3, a4, a5, a6, a7, HA, _⟩ := arr8 hk8 (l.take i)
        have HBX1 : WBox wr z [a0, a1, a2, a3, a4, a5, a6, a7] := by rw [← HA.out]; exact HBX
        obtain ⟨h0, h1, h2, h3, h4, h5, h6, h7⟩ := HBX1.cells
        have hmk : m < k := by omega
        clear hcs hxe htk HBX hp0 hp1
        go_wp2_with fail
        clear h0 h1 h2 h3 h4 h5 h6 h7 hx
        refine (behind_o hc1' hk8 HA (by rw [List.length_take]; omega) m hmk wr).mono ?_
        rintro e w3 ⟨⟨y0, y1, y2, y3, y4, y5, y6, y7, rfl, HY⟩, hb3⟩
        rw [← HT.out] at HY
        have HBX3 := HBX1.below hb3
        obtain ⟨h0, h1, h2, h3, h4, h5, h6, h7⟩ := HBX3.cells
        have f0 := HBX3.free 0
        have f1 := HBX3.free 1
        have f2 := HBX3.free 2
        have f3 := HBX3.free 3
        have f4 := HBX3.free 4
        have f5 := HBX3.free 5
        have f6 := HBX3.free 6
        have f7 := HBX3.free 7
        have HP := HBX3.put (ys := [y0, y1, y2, y3, y4, y5, y6, y7]) rfl rfl
        rw [← HY.out] at HP
        have hk := putW_keeps w3 z [y0, y1, y2, y3, y4, y5, y6, y7]
        rw [← HY.out] at hk
        have hBE := (below_then hB hB.size hb3).trans (hk.below (Nat.le_trans hB.size hb3.size) (fun q hq => by have hq : q = z := hq; omega))
        clear hb3 HBX1 hB hk
        go_wp2
        rw [← putW_eq, ← HY.out]
        go_roundw
        case rel => exact ⟨i + 1, by omega, by go_num, HP, hBE⟩
        case measure => simp [intOf]; omega
      · obtain rfl : i = n := by omega
        rw [List.take_of_length_le (by have := HN.out; omega)] at HBX
        have hnm := HBX.nums k 8 (by rw [arr_length hk8]; exact hk8)
        rw [arr_take] at hnm
        have HCL := cloneI _ k _ wr (vals_nums hnm (fun _ h => by cases h)) (fun u hu => by obtain ⟨x, _, rfl⟩ := List.mem_map.1 hu; rfl) (by omega)
        clear HBX hnm
        go_wp2_with fail
        refine HCL.mono ?_
        rintro e w3 ⟨⟨v3, rfl, ho⟩, hb3⟩
        have hBE := below_then hB hB.size hb3
        have HO := Lib.hid (ho.mono hB.size)
        clear HCL ho hb3
        go_wp2
        go_ret
        exact ⟨⟨v3, rfl, HO.out⟩, hBE⟩

end Go.Proofs.Ytmmeiclclapmfaa
