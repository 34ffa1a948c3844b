/-
  Rows of calls, and rows of rows, are held against each other; Same of package script.
  Conditions: both read so.
-/
import Derived.Test.YtjgdkfgcfningaaDoorSEq
namespace Go.Proofs.YtjgdkfgcfningaaDoor
open Go.RowKit Go.Shelf

/-- Where a row of calls lies, call by call. -/
theorem VRow.calls {W : World} {p : Option Addr} {n c : Nat} {xs : List CallM} (h : VRow W p n c 5 (cellsC xs)) (hn : 0 < n) : ∃ b off, p = some ⟨b, off, none⟩ ∧ ∀ k (hk : k < xs.length), ∀ j, j < 5 → ∀ u, (cells5 xs[k])[j]? = some u → W.cell? ⟨b, off + k * 5 + j, none⟩ = some u := by
  have hl := h.len
  rw [cellsC_length] at hl
  obtain ⟨b, off, hp, hc⟩ := h.cells (by intro e; have := congrArg List.length e; rw [cellsC_length] at this; simp only [List.length_nil] at this; omega)
  refine ⟨b, off, hp, fun k hk j hj u hu => ?_⟩
  have h1 := cellsC_get xs k hk j hj
  rw [hu] at h1
  obtain ⟨h2, h3⟩ := List.getElem?_eq_some_iff.1 h1
  have h4 := hc (k * 5 + j) h2
  rw [h3] at h4
  rw [Nat.add_assoc]; exact h4

set_option maxRecDepth 100000 in
set_option maxHeartbeats 4000000 in
theorem equalC_c (p0 p1 : Option Addr) (n0 n1 c0 c1 : Nat) (xs ys : List CallM) (W : World) (hv0 : VRow W p0 n0 c0 5 (cellsC xs)) (hv1 : VRow W p1 n1 c1 5 (cellsC ys)) (hl0 : n0 ≤ 1099511627776) (hl1 : n1 ≤ 1099511627776) :
    Calls Tryd.prog 45 #[.slice p0 n0 c0, .slice p1 n1 c1] W fun e w' => e = .returned (.bool (decide (xs = ys))) ∧ Below W.heap.size W w' := by
  have hx0 : n0 = xs.length := by have := hv0.len; rw [cellsC_length] at this; omega
  have hx1 : n1 = ys.length := by have := hv1.len; rw [cellsC_length] at this; omega
  have HV0 := Lib.hid hv0
  have HV1 := Lib.hid hv1
  have HX0 := Lib.hid hx0
  have HX1 := Lib.hid hx1
  clear hv0 hv1 hx0 hx1
  go_enter Tryd.func45, Tryd.ntmps45
  by_cases hlen : n0 = n1
  · subst hlen
    have hne : ((n0 : Int) != (n0 : Int)) = false := by rw [bne_eq_false_iff_eq]
    go_wp2
    clear hne
    go_loopw [13] (fun iv wr => ∃ i : Nat, i ≤ n0 ∧ iv = .int .i64 i ∧ Hid (xs.take i = ys.take i) ∧ Below W.heap.size W wr) (fun iv _ => n0 - (intOf iv).toNat)
    case atStart => exact ⟨0, Nat.zero_le _, rfl, rfl, Below.refl _ _⟩
    case round =>
      obtain ⟨i, hi, rfl, HE, hB⟩ := hrel
      by_cases hlt : i < n0
      · obtain ⟨b0, off0, rfl, hcs0⟩ := HV0.out.calls (by omega)
        obtain ⟨b1, off1, rfl, hcs1⟩ := HV1.out.calls (by omega)
        have hil0 : i < xs.length := by have := HX0.out; omega
        have hil1 : i < ys.length := by have := HX1.out; omega
        obtain ⟨x, hxe⟩ : ∃ x, x = xs[i] := ⟨_, rfl⟩
        obtain ⟨y, hye⟩ : ∃ y, y = ys[i] := ⟨_, rfl⟩
        have hx : ∀ j, j < 5 → ∀ u, (cells5 x)[j]? = some u → wr.cell? ⟨b0, off0 + i * 5 + j, none⟩ = some u := fun j hj u hu => below_cell hB (hcs0 i hil0 j hj u (by rw [← hxe]; exact hu))
        have hy : ∀ j, j < 5 → ∀ u, (cells5 y)[j]? = some u → wr.cell? ⟨b1, off1 + i * 5 + j, none⟩ = some u := fun j hj u hu => below_cell hB (hcs1 i hil1 j hj u (by rw [← hye]; exact hu))
        have hx0 : wr.cell? ⟨b0, off0 + i * 5, none⟩ = some (.int .u64 (x.k : Int)) := hx 0 (by decide) _ rfl
        have hx1 : wr.cell? ⟨b0, off0 + i * 5 + 1, none⟩ = some (.int .u64 (x.a0 : Int)) := hx 1 (by decide) _ rfl
        have hx2 : wr.cell? ⟨b0, off0 + i * 5 + 2, none⟩ = some (.int .u64 (x.a1 : Int)) := hx 2 (by decide) _ rfl
        have hx3 : wr.cell? ⟨b0, off0 + i * 5 + 3, none⟩ = some (.int .u64 (x.a2 : Int)) := hx 3 (by decide) _ rfl
        have hx4 : wr.cell? ⟨b0, off0 + i * 5 + 4, none⟩ = some (.int .u64 (x.a3 : Int)) := hx 4 (by decide) _ rfl
        have hy0 : wr.cell? ⟨b1, off1 + i * 5, none⟩ = some (.int .u64 (y.k : Int)) := hy 0 (by decide) _ rfl
        have hy1 : wr.cell? ⟨b1, off1 + i * 5 + 1, none⟩ = some (.int .u64 (y.a0 : Int)) := hy 1 (by decide) _ rfl
        have hy2 : wr.cell? ⟨b1, off1 + i * 5 + 2, none⟩ = some (.int .u64 (y.a1 : Int)) := hy 2 (by decide) _ rfl
        have hy3 : wr.cell? ⟨b1, off1 + i * 5 + 3, none⟩ = some (.int .u64 (y.a2 : Int)) := hy 3 (by decide) _ rfl
        have hy4 : wr.cell? ⟨b1, off1 + i * 5 + 4, none⟩ = some (.int .u64 (y.a3 : Int)) := hy 4 (by decide) _ rfl
        have HA := Lib.hid (List.take_succ_eq_append_getElem hil0)
        have HBB := Lib.hid (List.take_succ_eq_append_getElem hil1)
        have HXY := Lib.hid (And.intro hxe hye)
        clear hx hy hcs0 hcs1 hxe hye
        by_cases hxy : x = y
        · have hcmp : ∀ w, (binOp .neq 53 (.agg #[.int .u64 (x.k : Int), .int .u64 (x.a0 : Int), .int .u64 (x.a1 : Int), .int .u64 (x.a2 : Int), .int .u64 (x.a3 : Int)]) (.agg #[.int .u64 (y.k : Int), .int .u64 (y.a0 : Int), .int .u64 (y.a1 : Int), .int .u64 (y.a2 : Int), .int .u64 (y.a3 : Int)])).run Tryd.prog w = .ok (.bool false) w := fun w => by
            have := run_neq_call x y w
            rw [decide_eq_true hxy] at this
            exact this
          have HE2 := Lib.hid (show xs.take (i + 1) = ys.take (i + 1) by rw [HA.out, HBB.out, HE.out, ← HXY.out.1, ← HXY.out.2, hxy])
          clear hxy
          go_wp2
          go_quiet (fail)
          go_wp2
          all_goals
            go_roundw
            case rel => exact ⟨i + 1, by omega, by go_num, HE2, below_drewN hB _⟩
            case measure => simp [intOf]; omega
        · have hcmp : ∀ w, (binOp .neq 53 (.agg #[.int .u64 (x.k : Int), .int .u64 (x.a0 : Int), .int .u64 (x.a1 : Int), .int .u64 (x.a2 : Int), .int .u64 (x.a3 : Int)]) (.agg #[.int .u64 (y.k : Int), .int .u64 (y.a0 : Int), .int .u64 (y.a1 : Int), .int .u64 (y.a2 : Int), .int .u64 (y.a3 : Int)])).run Tryd.prog w = .ok (.bool true) w := fun w => by
            have := run_neq_call x y w
            rw [decide_eq_false hxy] at this
            exact this
          have HR := Lib.hid (show decide (xs = ys) = false by
            rw [decide_eq_false_iff_not]
            intro e
            subst e
            exact hxy (HXY.out.1.trans HXY.out.2.symm))
          clear hxy
          go_wp2
          go_quiet (fail)
          go_wp2
          all_goals go_ret
          all_goals exact ⟨ret_bool HR.out.symm, below_drewN hB _⟩
      · have HR := Lib.hid (show decide (xs = ys) = true by
          have := HE.out
          rw [List.take_of_length_le (by have := HX0.out; omega), List.take_of_length_le (by have := HX1.out; omega)] at this
          exact decide_eq_true this)
        go_wp2
        go_ret
        exact ⟨ret_bool HR.out.symm, hB⟩
  · have hne : ((n0 : Int) != (n1 : Int)) = true := by rw [bne_iff_ne]; omega
    have HR := Lib.hid (show decide (xs = ys) = false by rw [decide_eq_false_iff_not]; intro e; subst e; have := HX0.out; have := HX1.out; omega)
    clear hlen
    go_wp2
    go_ret
    exact ⟨ret_bool HR.out.symm, Below.refl _ _⟩

end Go.Proofs.YtjgdkfgcfningaaDoor
