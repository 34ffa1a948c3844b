/-
  Can, of the reference of layer 4: whether the picks can be gone on with.
  Conditions: the row of picks reads as a list of at most 2 to the power 40; from 1 to 8 CPUs; k at least their number.
-/
import Derived.Test.YtmmeiclclapmfaaDSorted
namespace Go.Proofs.Ytmmeiclclapmfaa
open Go.RowKit Go.Shelf

theorem wv_take_succ (c : Nat) (l : List Int) (i : Nat) (h : i < c) : (wv c l).take (i + 1) = (wv c l).take i ++ [(waitL l (i : Int) : Int)] := by
  have hl : i < (wv c l).length := by rw [wv_length]; exact h
  rw [List.take_succ_eq_append_getElem hl, wv_get]

set_option maxRecDepth 100000 in
set_option maxHeartbeats 4000000 in
theorem canR_c (c : Nat) (hc : 1 ≤ c ∧ c ≤ 8) (k : Int) (hk : (c : Int) ≤ k) (hk2 : k ≤ 9223372036854775807) (p : Option Addr) (n d : Nat) (l : List Int) (W : World) (h : RI W p n d l) (hl : n ≤ 1099511627776) :
    Calls Try.prog 35 #[.int .i64 (c : Int), .int .i64 k, .slice p n d] W fun e w' => e = .returned (.bool (canB k (wv c l))) ∧ Below W.heap.size W w' := by
  obtain ⟨hc1, hc8⟩ := hc
  obtain ⟨i0, hi0, hz0, hz1, hz2⟩ := info_parts int_info
  have HI0 := Lib.hid (And.intro hi0 (And.intro hz0 (And.intro hz1 hz2)))
  have HWA := Lib.hid (show ∀ (j : Nat) wx, Below W.heap.size W wx → Calls Try.prog 17 #[.slice p n d, .int .i64 (j : Int)] wx fun e w' => e = .returned (.int .i64 (waitL l (j : Int) : Int)) ∧ w' = wx from fun j wx hb => wait_c (j : Int) p n d l wx (h.below hb) hl)
  clear h hi0 hz0 hz1 hz2
  obtain ⟨b, hb⟩ : ∃ b, b = canB k (wv c l) := ⟨_, rfl⟩
  rw [← hb]
  have HBB := Lib.hid hb
  clear hb
  go_enter Try.func35, Try.ntmps35
  go_wp2
  go_loopw [7, 12] (fun ov iv wr => ∃ (i : Nat) (q : Option Addr) (r : Nat), i ≤ c ∧ iv = .int .i64 i ∧ ov = .slice q i r ∧ Hid (wr.ownsRow W.heap.size 3 1 (.slice q i r) i (((wv c l).take i).map (Value.int .i64))) ∧ Below W.heap.size W wr) (fun _ iv _ => c - (intOf iv).toNat)
  case atStart => exact ⟨0, none, 0, Nat.zero_le _, rfl, rfl, World.ownsRow_nil _ _ _ _, Below.refl _ _⟩
  case round =>
    obtain ⟨i, q, r, hi, rfl, rfl, HO, hB⟩ := hrel
    by_cases hlt : i < c
    · have HTK := Lib.hid (wv_take_succ c l i hlt)
      have HW1 := HWA.out i wr hB
      obtain ⟨x, hx⟩ : ∃ x : Nat, x = waitL l (i : Int) := ⟨_, rfl⟩
      rw [← hx] at HTK HW1
      clear hx
      have hsz := hB.size
      go_wp2_with fail
      refine HW1.mono ?_
      rintro e w1 ⟨rfl, rfl⟩
      clear HW1
      go_wp2_with (at_builtin; refine wpList_append_own _ rfl _ _ 22 rfl W.heap.size 3 i0 (.int .i64 0) 1 8 Try.underlying22 HI0.out.1 HI0.out.2.1 HI0.out.2.2.1 HI0.out.2.2.2 rfl (by decide) (.slice q i r) i _ rfl (HO.out.alloc _) ⟨w1.heap.size, 0, none⟩ 1 1 [.int .i64 (x : Int)] rfl rfl (cell_one_new _ _ _) (fun y hy => by rw [List.mem_singleton.1 hy]; rfl) (by unfold maxLen; omega) (by omega) (by simp; omega) ?_; intro v' w2 hown' hgrow _; obtain ⟨q6, d6, rfl⟩ := owns_slice hown')
      have hB2 : Below W.heap.size W w2 := (hB.alloc hsz _).grown hgrow (by simp; omega) (fun r hr => (HO.out.lt r hr).1)
      have HO2 := Lib.hid (show w2.ownsRow W.heap.size 3 1 (.slice q6 (i + 1) d6) (i + 1) (((wv c l).take (i + 1)).map (Value.int .i64)) by rw [HTK.out, List.map_append]; exact hown')
      clear hown' hgrow HO hB
      go_roundw
      case rel => exact ⟨i + 1, q6, d6, by omega, by go_num, rfl, HO2, hB2⟩
      case measure => simp [intOf]; omega
    · obtain rfl : c = i := by omega
      have hO := HO.out
      rw [List.take_of_length_le (by rw [wv_length]; omega)] at hO
      have R := RI.of_owns hO
      have HV := Lib.hid hO.1
      have HS := sorted_c q c r (wv c l) wr R (by omega)
      clear HO hO R HWA
      go_wp2_with fail
      refine HS.mono ?_
      rintro e w3 ⟨⟨ys, hperm, hpw, q3, r3, rfl, ho⟩, hb3⟩
      have hyl : ys.length = c := by rw [hperm.length_eq, wv_length]
      rw [hyl] at ho ⊢
      have RY := RI.of_owns ho
      have hcells := RY.cells
      have HLEN := Lib.hid hyl
      have HB := Lib.hid (canB_desc (k := k) hperm hpw)
      have hBE := below_then hB hB.size hb3
      clear hb3 hB ho RY hyl hperm hpw HS
      have HB := Lib.hid (by rw [HBB.out]; exact HB.out : b = true ↔ ∀ i (h : i < ys.length), ys[i] ≤ k - 1 - (i : Int))
      go_wp2
      go_loop [25] (fun iv => ∃ i : Nat, i ≤ c ∧ iv = .int .i64 i ∧ Hid (∀ j (h : j < ys.length), j < i → ys[j] ≤ k - 1 - (j : Int))) (fun iv => c - (intOf iv).toNat)
      case atStart => exact ⟨0, Nat.zero_le _, rfl, Lib.hid (fun j _ hj => absurd hj (Nat.not_lt_zero _))⟩
      case round =>
        obtain ⟨i, hi, rfl, HK⟩ := hrel
        by_cases hlt : i < c
        · obtain ⟨bo, oo, rfl, hco⟩ := hcells (by omega)
          have hil : i < ys.length := by have := HLEN.out; omega
          have hy := hco i hil
          obtain ⟨y, hye⟩ : ∃ y, y = ys[i] := ⟨_, rfl⟩
          rw [← hye] at hy
          have HYE := Lib.hid hye
          clear hco hye
          by_cases hgt : k - 1 - (i : Int) < y
          · have hr : Hid (b = false) := Lib.hid (by
              cases e : b with
              | false => rfl
              | true =>
                have := (HB.out.1 e) i hil
                rw [← HYE.out] at this
                omega)
            clear HYE hil
            go_wp2
            go_ret
            exact ⟨ret_bool hr.out.symm, hBE⟩
          · have HK' := Lib.hid (show ∀ j (h : j < ys.length), j < i + 1 → ys[j] ≤ k - 1 - (j : Int) from fun j hj hji => by
              by_cases e : j = i
              · subst e; rw [← HYE.out]; omega
              · exact HK.out j hj (by omega))
            clear HYE hil
            go_wp2
            go_round
            case rel => exact ⟨i + 1, by omega, by go_num, HK'⟩
            case measure => simp [intOf]; omega
        · have hr : Hid (b = true) := Lib.hid (HB.out.2 fun j hj => HK.out j hj (by have := HLEN.out; omega))
          go_wp2
          go_ret
          exact ⟨ret_bool hr.out.symm, hBE⟩

end Go.Proofs.Ytmmeiclclapmfaa
