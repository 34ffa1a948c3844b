/-
  Rows of rows are held against each other; Same of package script.
  Conditions: both read so.
-/
import Derived.Test.YtjgdkfgcfningaaDoorSEq2
namespace Go.Proofs.YtjgdkfgcfningaaDoor
open Go.RowKit Go.Shelf

theorem RI.vals {w : World} {p : Option Addr} {n c : Nat} {xs : List Int} (h : RI w p n c xs) : ValsAt w (.slice p n c) 1 n (xs.map (Value.int .i64)) := vals_nums h.nums fun _ => h.nil

set_option maxRecDepth 100000 in
set_option maxHeartbeats 4000000 in
theorem eqfC_c (p0 p1 : Option Addr) (n0 n1 c0 c1 : Nat) (xs ys : List (List CallM)) (W : World) (hv0 : LRow W p0 n0 c0 xs) (hv1 : LRow W p1 n1 c1 ys) (hl0 : n0 ≤ 1099511627776) (hl1 : n1 ≤ 1099511627776) (hx : ∀ l ∈ xs, l.length ≤ 1099511627776) (hy : ∀ l ∈ ys, l.length ≤ 1099511627776) :
    Calls Tryd.prog 44 #[.slice p0 n0 c0, .slice p1 n1 c1, .func (.func 45) #[] #[]] W fun e w' => e = .returned (.bool (decide (xs = ys))) ∧ Below W.heap.size W w' := by
  have HV0 := Lib.hid hv0
  have HV1 := Lib.hid hv1
  have HX0 := Lib.hid hv0.len
  have HX1 := Lib.hid hv1.len
  have HX := Lib.hid hx
  have HY := Lib.hid hy
  clear hv0 hv1 hx hy
  go_enter Tryd.func44, Tryd.ntmps44
  by_cases hlen : n0 = n1
  · subst hlen
    have hne : ((n0 : Int) != (n0 : Int)) = false := by rw [bne_eq_false_iff_eq]
    go_wp2
    clear hne
    go_loopw [17] (fun iv wr => ∃ i : Nat, i ≤ n0 ∧ iv = .int .i64 i ∧ Hid (xs.take i = ys.take i) ∧ Below W.heap.size W wr) (fun iv _ => n0 - (intOf iv).toNat)
    case atStart => exact ⟨0, Nat.zero_le _, rfl, rfl, Below.refl _ _⟩
    case round =>
      obtain ⟨i, hi, rfl, HE, hB⟩ := hrel
      by_cases hlt : i < n0
      · have hil0 : i < xs.length := by have := HX0.out; omega
        have hil1 : i < ys.length := by have := HX1.out; omega
        obtain ⟨b0, off0, rfl, hcs0⟩ := HV0.out.cells (by intro e; rw [e] at hil0; cases hil0)
        obtain ⟨b1, off1, rfl, hcs1⟩ := HV1.out.cells (by intro e; rw [e] at hil1; cases hil1)
        obtain ⟨q0, d0, hx0, hr0⟩ := hcs0 i hil0
        obtain ⟨q1, d1, hy0, hr1⟩ := hcs1 i hil1
        have hb0 := HX.out _ (List.getElem_mem hil0)
        have hb1 := HY.out _ (List.getElem_mem hil1)
        obtain ⟨x, hxe⟩ : ∃ x, x = xs[i] := ⟨_, rfl⟩
        obtain ⟨y, hye⟩ : ∃ y, y = ys[i] := ⟨_, rfl⟩
        rw [← hxe] at hx0 hr0 hb0
        rw [← hye] at hy0 hr1 hb1
        have hx := below_cell hB hx0
        have hy := below_cell hB hy0
        have HC := Lib.hid (equalC_c q0 q1 x.length y.length d0 d1 x y wr (hr0.below hB) (hr1.below hB) hb0 hb1)
        obtain ⟨lx, hlx⟩ : ∃ l, l = x.length := ⟨_, rfl⟩
        obtain ⟨ly, hly⟩ : ∃ l, l = y.length := ⟨_, rfl⟩
        rw [← hlx, ← hly] at HC
        rw [← hlx] at hx
        rw [← hly] at hy
        have HA := Lib.hid (List.take_succ_eq_append_getElem hil0)
        have HBB := Lib.hid (List.take_succ_eq_append_getElem hil1)
        have HXY := Lib.hid (And.intro hxe hye)
        clear hx0 hy0 hr0 hr1 hcs0 hcs1 hxe hye hlx hly hb0 hb1
        by_cases hxy : x = y
        · rw [decide_eq_true hxy] at HC
          have HE2 := Lib.hid (show xs.take (i + 1) = ys.take (i + 1) by rw [HA.out, HBB.out, HE.out, ← HXY.out.1, ← HXY.out.2, hxy])
          clear hxy
          go_wp2_with fail
          refine HC.out.mono ?_
          rintro e w2 ⟨rfl, hb2⟩
          have hB2 := below_then hB hB.size hb2
          clear hb2
          go_wp2
          go_roundw
          case rel => exact ⟨i + 1, by omega, by go_num, HE2, hB2⟩
          case measure => simp [intOf]; omega
        · rw [decide_eq_false hxy] at HC
          have HR := Lib.hid (show decide (xs = ys) = false by
            rw [decide_eq_false_iff_not]
            intro e
            subst e
            exact hxy (HXY.out.1.trans HXY.out.2.symm))
          clear hxy
          go_wp2_with fail
          refine HC.out.mono ?_
          rintro e w2 ⟨rfl, hb2⟩
          have hB2 := below_then hB hB.size hb2
          clear hb2
          go_wp2
          go_ret
          exact ⟨ret_bool HR.out.symm, hB2⟩
      · have HR := Lib.hid (show decide (xs = ys) = true by
          have := HE.out
          rw [List.take_of_length_le (by have := HX0.out; omega), List.take_of_length_le (by have := HX1.out; omega)] at this
          exact decide_eq_true this)
        go_wp2
        go_ret
        exact ⟨ret_bool HR.out.symm, hB⟩
  · have hne : ((n0 : Int) != (n1 : Int)) = true := by rw [bne_iff_ne]; omega
    have HR := Lib.hid (show decide (xs = ys) = false by rw [decide_eq_false_iff_not]; intro e; subst e; have := HX0.out; have := HX1.out; omega)
    clear hlen
    go_wp2
    go_ret
    exact ⟨ret_bool HR.out.symm, Below.refl _ _⟩

set_option maxRecDepth 100000 in
set_option maxHeartbeats 4000000 in
theorem eqfI_c (b0 b1 : Nat) (q0 q1 : Option Addr) (m0 m1 d0 d1 : Nat) (xs ys : List Int) (W : World) (h0 : W.cell? ⟨b0, 0, none⟩ = some (.slice q0 m0 d0)) (h1 : W.cell? ⟨b1, 0, none⟩ = some (.slice q1 m1 d1)) (hv0 : RI W q0 m0 d0 xs) (hv1 : RI W q1 m1 d1 ys) (hl0 : m0 ≤ 1099511627776) (hl1 : m1 ≤ 1099511627776) :
    Calls Tryd.prog 46 #[.slice (some ⟨b0, 0, none⟩) 1 1, .slice (some ⟨b1, 0, none⟩) 1 1, .func (.func 24) #[] #[]] W fun e w' => e = .returned (.bool (decide (xs = ys))) ∧ Below W.heap.size W w' := by
  have HC := Lib.hid (show ∀ W', Below W.heap.size W W' → Calls Tryd.prog 24 #[.slice q0 m0 d0, .slice q1 m1 d1] W' fun e w' => e = .returned (.bool (decide (xs = ys))) ∧ Below W'.heap.size W' w' from fun W' hb => equalI_c _ _ xs ys W' (nums_below hv0.nums hb) (nums_below hv1.nums hb) (by have := hv0.len; omega) (by have := hv1.len; omega))
  clear hv0 hv1
  cases hd : decide (xs = ys) <;> rw [hd] at HC <;> clear hd
  · go_enter Tryd.func46, Tryd.ntmps46
    go_wp2
    go_loopw [17] (fun iv wr => iv = .int .i64 0 ∧ Below W.heap.size W wr) (fun iv _ => 1 - (intOf iv).toNat)
    case atStart => exact ⟨rfl, Below.refl _ _⟩
    case round =>
      obtain ⟨rfl, hB⟩ := hrel
      have hx := below_cell hB h0
      have hy := below_cell hB h1
      go_wp2_with fail
      refine (HC.out _ hB).mono ?_
      rintro e w2 ⟨rfl, hb2⟩
      have hB2 := below_then hB hB.size hb2
      clear hb2
      go_wp2
      go_ret
      exact ⟨rfl, hB2⟩
  · go_enter Tryd.func46, Tryd.ntmps46
    go_wp2
    go_loopw [17] (fun iv wr => ∃ i : Nat, i ≤ 1 ∧ iv = .int .i64 i ∧ Below W.heap.size W wr) (fun iv _ => 1 - (intOf iv).toNat)
    case atStart => exact ⟨0, by omega, rfl, Below.refl _ _⟩
    case round =>
      obtain ⟨i, hi, rfl, hB⟩ := hrel
      by_cases hlt : i < 1
      · obtain rfl : i = 0 := by omega
        have hx := below_cell hB h0
        have hy := below_cell hB h1
        go_wp2_with fail
        refine (HC.out _ hB).mono ?_
        rintro e w2 ⟨rfl, hb2⟩
        have hB2 := below_then hB hB.size hb2
        clear hb2
        go_wp2
        go_roundw
        case rel => exact ⟨1, by omega, by go_num, hB2⟩
        case measure => simp [intOf]
      · go_wp2
        go_ret
        exact ⟨rfl, hB⟩

end Go.Proofs.YtjgdkfgcfningaaDoor
