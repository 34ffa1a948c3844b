/-
  Mend, of the reference of layer 4: the picks by wishes.
  Conditions: the row of wishes reads as a list of ints, of at most 2 to the power 32; from 1 to 8 CPUs; k at least their number.
-/
import Derived.Test.YtmmeiclclapmfaaDCanR
namespace Go.Proofs.Ytmmeiclclapmfaa
open Go.RowKit Go.Shelf

theorem wish_rem (w : Int) (c : Nat) (hc : 1 ≤ c) : (w.tmod (c : Int) + c) % (c : Int) = w % (c : Int) := by
  rcases tmod_cases w c hc with ⟨h1, h2, h3⟩ | ⟨h1, h2, h3⟩
  · rw [Int.add_emod_right, Int.emod_eq_of_lt h1 h2, h3]
  · rw [Int.emod_eq_of_lt (by omega) (by omega), h3]
theorem wish_range (w : Int) (c : Nat) (hc : 1 ≤ c) : -(c : Int) < w.tmod (c : Int) ∧ w.tmod (c : Int) < c := by
  rcases tmod_cases w c hc with ⟨h1, h2, h3⟩ | ⟨h1, h2, h3⟩ <;> omega
theorem amax_step (c : Nat) (M : List Int) (j : Nat) (hj : j < c) : amax (wv c M) (j + 1) = if waitL M ((amax (wv c M) j : Nat) : Int) < waitL M (j : Int) then j else amax (wv c M) j := by
  have ha : amax (wv c M) j < c := by
    rcases Nat.eq_zero_or_pos j with e | e
    · subst e; simp only [amax]; omega
    · have := amax_lt (wv c M) j e; omega
  simp only [amax]
  rw [wv_getD c M _ ha, wv_getD c M _ hj]
  by_cases h : waitL M ((amax (wv c M) j : Nat) : Int) < waitL M (j : Int)
  · rw [if_pos h, if_pos (by omega)]
  · rw [if_neg h, if_neg (by omega)]

set_option maxRecDepth 100000 in
set_option maxHeartbeats 4000000 in
theorem mendR_c (c : Nat) (hc : 1 ≤ c ∧ c ≤ 8) (k : Int) (hk : (c : Int) ≤ k) (hk2 : k ≤ 9223372036854775807) (p : Option Addr) (n d : Nat) (l : List Int) (W : World) (h : RI W p n d l) (hl : n ≤ 4294967296) (hr : ∀ x ∈ l, -9223372036854775808 ≤ x ∧ x ≤ 9223372036854775807) :
    Calls Try.prog 24 #[.int .i64 (c : Int), .int .i64 k, .slice p n d] W fun e w' => GivesRow W.heap.size (mendL c k [] l) e w' ∧ Below W.heap.size W w' := by
  have HN := Lib.hid h.len
  have HR := Lib.hid hr
  have hcells := h.cells
  obtain ⟨hc1, hc8⟩ := hc
  have hcz : ((c : Int) == 0) = false := by rw [beq_eq_false_iff_ne]; omega
  have hcm : ((c : Int) == -1) = false := by rw [beq_eq_false_iff_ne]; omega
  obtain ⟨i0, hi0, hz0, hz1, hz2⟩ := info_parts int_info
  have HI0 := Lib.hid (And.intro hi0 (And.intro hz0 (And.intro hz1 hz2)))
  clear h hi0 hz0 hz1 hz2 hr
  go_enter Try.func24, Try.ntmps24
  go_wp2
  go_loopw [7, 14] (fun ov iv wr => ∃ (i : Nat) (q : Option Addr) (r : Nat) (M : List Int), i ≤ n ∧ iv = .int .i64 i ∧ ov = .slice q i r ∧ Hid (M = mendL c k [] (l.take i)) ∧ Hid (wr.ownsRow W.heap.size 3 1 (.slice q i r) i (M.map (Value.int .i64))) ∧ Below W.heap.size W wr) (fun _ iv _ => n - (intOf iv).toNat)
  case atStart => exact ⟨0, none, 0, [], Nat.zero_le _, rfl, rfl, rfl, World.ownsRow_nil _ _ _ _, Below.refl _ _⟩
  case round =>
    obtain ⟨i, q, r, M, hi, rfl, rfl, HM, HO, hB⟩ := hrel
    by_cases hlt : i < n
    · obtain ⟨b, off, rfl, hcs⟩ := hcells (by omega)
      have hil : i < l.length := by have := HN.out; omega
      have hx := below_cell hB (hcs i hil)
      obtain ⟨hr0, hr1⟩ := HR.out _ (List.getElem_mem hil)
      have htk := List.take_succ_eq_append_getElem hil
      have hMS := mendL_snoc c k (l.take i) [] l[i]
      rw [← htk, ← HM.out] at hMS
      obtain ⟨x, hxe⟩ : ∃ x, x = l[i] := ⟨_, rfl⟩
      rw [← hxe] at hx hr0 hr1 hMS
      have HMS := Lib.hid hMS
      obtain ⟨g, hg⟩ := Int.eq_ofNat_of_zero_le (Int.emod_nonneg x (show (c : Int) ≠ 0 by omega))
      have hgc : g < c := by have := Int.emod_lt_of_pos x (show (0 : Int) < c by omega); omega
      have HG := Lib.hid hg
      obtain ⟨ht0, ht1⟩ := wish_range x c hc1
      have hg2 := wish_rem x c hc1
      rw [hg] at hg2
      have HG2 := Lib.hid hg2
      have RO := RI.of_owns HO.out
      have hsz := hB.size
      clear hcs hxe htk hMS hg hg2
      go_upto_region 6 with (fail)
      rw [HG2.out]
      go_wp2_with (first
        | (at_builtin; refine wpList_appI (by rfl) _ _ (by rfl) (by rfl) (own_lit (Nat.le_refl wr.heap.size)) (by rfl) (RO.below ((Below.refl _ _).alloc (Nat.le_refl _) _)) (by simp) (by omega) i (by omega) ?_; intro q1 r1 w1 ho1 hb1 hg1; rw [List.nil_append] at ho1; replace hb1 := ((Below.refl wr.heap.size wr).alloc (Nat.le_refl _) _).trans hb1)
        | (at_builtin; refine wpList_appI (by rfl) _ _ (by rfl) (by rfl) (ho1.alloc _) (by rfl) (show RI (w1.alloc (.cells #[.int .i64 (g : Int)] 3)) (some ⟨w1.heap.size, 0, none⟩) 1 1 [(g : Int)] from RI.lit w1 [(g : Int)] rfl) (by have := hb1.size; simp; omega) (by omega) (i + 1) (by omega) ?_; intro q2 r2 w2 ho2 hb2 hg2; replace hb2 := (hb1.alloc hb1.size _).trans hb2))
      refine (canR_c c ⟨hc1, hc8⟩ k hk hk2 q2 (i + 1) r2 (M ++ [(g : Int)]) w2 (RI.of_owns ho2) (by omega)).mono ?_
      rintro e w3 ⟨rfl, hb3⟩
      have hbr3 := below_then hb2 hb2.size hb3
      have HO3 := Lib.hid (owns_below HO.out hbr3)
      have hB3 := below_then hB hsz hbr3
      have RO3 := RO.below hbr3
      clear hb1 hb2 hb3 hg1 hg2 ho1 ho2 hbr3 HO hB RO hsz
      have hs3 := hB3.size
      cases hcan : canB k (wv c (M ++ [(g : Int)])) with
      | true =>
        have HPK := Lib.hid (show pickOf c k M x = (g : Int) by unfold pickOf; rw [HG.out, if_pos hcan])
        clear hcan RO3
        go_wp2_with (at_builtin; refine wpList_append_own _ rfl _ _ 22 rfl W.heap.size 3 i0 (.int .i64 0) 1 8 Try.underlying22 HI0.out.1 HI0.out.2.1 HI0.out.2.2.1 HI0.out.2.2.2 rfl (by decide) (.slice q i r) i _ rfl (HO3.out.alloc _) ⟨w3.heap.size, 0, none⟩ 1 1 [.int .i64 (g : Int)] rfl rfl (cell_one_new _ _ _) (fun y hy => by rw [List.mem_singleton.1 hy]; rfl) (by unfold maxLen; omega) (by omega) (by simp; omega) ?_; intro v' w4 hown' hgrow _; obtain ⟨q6, d6, rfl⟩ := owns_slice hown')
        have hB4 : Below W.heap.size W w4 := (hB3.alloc hB3.size _).grown hgrow (by have := hB3.size; simp; omega) (fun r hr => (HO3.out.lt r hr).1)
        have HO4 := Lib.hid (show w4.ownsRow W.heap.size 3 1 (.slice q6 (i + 1) d6) (i + 1) ((M ++ [(g : Int)]).map (Value.int .i64)) by rw [List.map_append]; exact hown')
        have HM4 := Lib.hid (show M ++ [(g : Int)] = mendL c k [] (l.take (i + 1)) by rw [HMS.out, HPK.out])
        clear hown' hgrow HO3 hB3
        go_roundw
        case rel => exact ⟨i + 1, q6, d6, M ++ [(g : Int)], by omega, by go_num, rfl, HM4, HO4, hB4⟩
        case measure => simp [intOf]; omega
      | false =>
        have HPK0 := Lib.hid (show pickOf c k M x = ((amax (wv c M) c : Nat) : Int) by unfold pickOf; rw [HG.out, if_neg (by rw [hcan]; decide)])
        clear hcan
        go_wp2
        go_loop [10, 36] (fun pv jv => ∃ (j a : Nat), j ≤ c ∧ a ≤ j ∧ jv = .int .i64 j ∧ pv = .int .i64 a ∧ Hid (a = amax (wv c M) j)) (fun _ jv => c - (intOf jv).toNat)
        case atStart => exact ⟨0, 0, Nat.zero_le _, Nat.le_refl _, rfl, rfl, rfl⟩
        case round =>
          obtain ⟨j, a, hj, haj, rfl, rfl, HA⟩ := hrel
          by_cases hjc : j < c
          · have hst := amax_step c M j hjc
            rw [← HA.out] at hst
            have HWJ := Lib.hid (wait_c (j : Int) q i r M w3 RO3 (by omega))
            have HWA := Lib.hid (wait_c (a : Int) q i r M w3 RO3 (by omega))
            obtain ⟨tj, htj⟩ : ∃ t : Nat, t = waitL M (j : Int) := ⟨_, rfl⟩
            obtain ⟨ta, hta⟩ : ∃ t : Nat, t = waitL M (a : Int) := ⟨_, rfl⟩
            rw [← htj] at hst HWJ
            rw [← hta] at hst HWA
            clear htj hta
            by_cases hgt : ta < tj
            · rw [if_pos hgt] at hst
              have HST := Lib.hid hst.symm
              have hgti : (ta : Int) < (tj : Int) := by omega
              clear hst
              go_wp2_with fail
              refine HWJ.out.mono ?_
              rintro e w4 ⟨rfl, rfl⟩
              go_wp2_with fail
              refine HWA.out.mono ?_
              rintro e w5 ⟨rfl, rfl⟩
              clear HWJ HWA
              go_wp2
              go_round
              case rel => exact ⟨j + 1, j, by omega, by omega, by go_num, rfl, HST⟩
              case measure => simp [intOf]; omega
            · rw [if_neg hgt] at hst
              have HST := Lib.hid hst.symm
              have hgti : ¬ (ta : Int) < (tj : Int) := by omega
              clear hst
              go_wp2_with fail
              refine HWJ.out.mono ?_
              rintro e w4 ⟨rfl, rfl⟩
              go_wp2_with fail
              refine HWA.out.mono ?_
              rintro e w5 ⟨rfl, rfl⟩
              clear HWJ HWA
              go_wp2
              go_round
              case rel => exact ⟨j + 1, a, by omega, by omega, by go_num, rfl, HST⟩
              case measure => simp [intOf]; omega
          · obtain rfl : c = j := by omega
            have HPK := Lib.hid (show pickOf c k M x = (a : Int) by rw [HPK0.out, ← HA.out])
            clear HPK0 HA RO3
            go_wp2_with (at_builtin; refine wpList_append_own _ rfl _ _ 22 rfl W.heap.size 3 i0 (.int .i64 0) 1 8 Try.underlying22 HI0.out.1 HI0.out.2.1 HI0.out.2.2.1 HI0.out.2.2.2 rfl (by decide) (.slice q i r) i _ rfl (HO3.out.alloc _) ⟨w3.heap.size, 0, none⟩ 1 1 [.int .i64 (a : Int)] rfl rfl (cell_one_new _ _ _) (fun y hy => by rw [List.mem_singleton.1 hy]; rfl) (by unfold maxLen; omega) (by omega) (by simp; omega) ?_; intro v' w4 hown' hgrow _; obtain ⟨q6, d6, rfl⟩ := owns_slice hown')
            have hB4 : Below W.heap.size W w4 := (hB3.alloc hB3.size _).grown hgrow (by have := hB3.size; simp; omega) (fun r hr => (HO3.out.lt r hr).1)
            have HO4 := Lib.hid (show w4.ownsRow W.heap.size 3 1 (.slice q6 (i + 1) d6) (i + 1) ((M ++ [(a : Int)]).map (Value.int .i64)) by rw [List.map_append]; exact hown')
            have HM4 := Lib.hid (show M ++ [(a : Int)] = mendL c k [] (l.take (i + 1)) by rw [HMS.out, HPK.out])
            clear hown' hgrow HO3 hB3
            go_roundw
            case rel => exact ⟨i + 1, q6, d6, M ++ [(a : Int)], by omega, by go_num, rfl, HM4, HO4, hB4⟩
            case measure => simp [intOf]; omega
    · obtain rfl : n = i := by omega
      have hM := HM.out
      rw [List.take_of_length_le (by have := HN.out; omega)] at hM
      have HGV : Hid (GivesRow W.heap.size (mendL c k [] l) (.returned (.slice q n r)) wr) := Lib.hid (by
        have hO := HO.out
        rw [← hM]
        have hyl : n = M.length := by have := hO.1; simpa using this.symm
        subst hyl
        exact ⟨q, r, rfl, hO⟩)
      clear hM HM HO
      go_wp2
      go_ret
      exact ⟨HGV.out, hB⟩

end Go.Proofs.Ytmmeiclclapmfaa
