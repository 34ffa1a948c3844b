/-
  within of package sched.
  Conditions: k is an int, at least as many as there are CPUs.
-/
import Derived.Test.YtmmeiclclapmfaaDSort
namespace Go.Proofs.Ytmmeiclclapmfaa
open Go.RowKit Go.Shelf

theorem within_iff {k : Int} {ws : List Int} : canB k ws = true ↔ ∀ i (h : i < (rise ws).length), (rise ws)[(rise ws).length - 1 - i] ≤ k - 1 - (i : Int) := canB_asc (rise_perm ws) (rise_sorted ws)

set_option maxRecDepth 100000 in
set_option maxHeartbeats 4000000 in
theorem within_c (c : Nat) (hc : 1 ≤ c ∧ c ≤ 8) (l : List Int) (k : Int) (hk : (c : Int) ≤ k) (hk2 : k ≤ 9223372036854775807) (W : World) :
    Calls Try.prog 33 #[aggI (arr c l), .int .i64 (c : Int), .int .i64 k] W fun e w' => e = .returned (.bool (canB k (wv c l))) ∧ Below W.heap.size W w' := by
  obtain ⟨a0, a1, a2, a3, a4, a5, a6, a7, HA, hagg⟩ := arr8 hc.2 l
  rw [hagg]
  obtain ⟨hc1, hc8⟩ := hc
  obtain ⟨s, hs⟩ : ∃ s, s = rise (wv c l) := ⟨_, rfl⟩
  have hrl : s.length = c := by rw [hs, rise_length, wv_length]
  have HI : Hid (canB k (wv c l) = true ↔ ∀ i (h : i < s.length), s[s.length - 1 - i] ≤ k - 1 - (i : Int)) := Lib.hid (by subst hs; exact within_iff)
  have HS : ∀ w', w' = W.alloc (.cells #[.int .i64 a0, .int .i64 a1, .int .i64 a2, .int .i64 a3, .int .i64 a4, .int .i64 a5, .int .i64 a6, .int .i64 a7] 46) → Calls Try.prog 25 #[.slice (some ⟨W.heap.size, 0, none⟩) c 8] w' fun e w2 => e = .returned (.tuple #[]) ∧ (∀ (i : Nat) (x : Int), i < c → s[i]? = some x → w2.cell? ⟨W.heap.size, i, none⟩ = some (.int .i64 x)) ∧ Below W.heap.size W w2 := by
    rintro w' rfl
    have hb : (W.alloc (.cells #[.int .i64 a0, .int .i64 a1, .int .i64 a2, .int .i64 a3, .int .i64 a4, .int .i64 a5, .int .i64 a6, .int .i64 a7] 46)).heap[W.heap.size]? = some (.cells ((arr c l).map (Value.int .i64)).toArray 46 (0, 0)) := WBox.new HA.out
    refine (sort_c W.heap.size c 8 _ _ (wv c l) _ (wv_length c l) hb (by rw [← arr_take, List.toList_toArray, List.map_take]) (by omega)).mono fun e w2 ⟨he, hk, cur, hcur, hb2, ht⟩ => ⟨he, fun i x hi hx => ?_, ?_⟩
    · have h1 : (cur.toList.take c)[i]? = some (.int .i64 x) := by
        rw [ht, ← hs, List.getElem?_map, hx]; rfl
      rw [List.getElem?_take_of_lt hi, Array.getElem?_toList] at h1
      simp [World.cell?, hb2, h1]
    · exact ((Below.refl _ W).alloc (Nat.le_refl _) _).trans (hk.below (by simp) (fun q hq => by have hq : q = W.heap.size := hq; omega))
  clear hs
  have HRL := Lib.hid hrl
  clear hagg hrl
  have hcut := run_cutA W.heap.size c hc8
  go_enter Try.func33, Try.ntmps33
  go_wp2_with fail
  refine (HS _ rfl).mono ?_
  rintro e w1 ⟨rfl, hcs, hB⟩
  have HCS := Lib.hid hcs
  clear HS hcs
  go_wp2
  go_loop [14] (fun iv => ∃ i : Nat, i ≤ c ∧ iv = .int .i64 i ∧ ∀ j (h : j < s.length), j < i → s[s.length - 1 - j] ≤ k - 1 - (j : Int)) (fun iv => c - (intOf iv).toNat)
  case atStart => exact ⟨0, Nat.zero_le _, rfl, fun j _ h => absurd h (Nat.not_lt_zero _)⟩
  case round =>
    obtain ⟨i, hi, rfl, hall⟩ := hrel
    have HALL := Lib.hid hall
    clear hall
    by_cases hlt : i < c
    · obtain ⟨m, hm⟩ : ∃ m, m = c - 1 - i := ⟨_, rfl⟩
      have hmc : m < c := by omega
      have hmi : ((c : Int) - 1) - (i : Int) = (m : Int) := by omega
      have hml : m < s.length := by have := HRL.out; omega
      have hx := HCS.out m _ hmc (List.getElem?_eq_getElem hml)
      have hms : s.length - 1 - i = m := by rw [HRL.out, hm]
      obtain ⟨x, hxe⟩ : ∃ x, x = s[m]'hml := ⟨_, rfl⟩
      rw [← hxe] at hx
      have HXE := Lib.hid (show ∀ h : s.length - 1 - i < s.length, s[s.length - 1 - i] = x from fun h => by rw [hxe]; congr 1)
      clear hm hms hxe hml
      by_cases hbad : k - 1 - (i : Int) < x
      · have HR := Lib.hid (show canB k (wv c l) = false by
          cases e : canB k (wv c l) with
          | false => rfl
          | true => have := HI.out.1 e i (by rw [HRL.out]; exact hlt); rw [HXE.out _] at this; omega)
        go_wp2
        go_ret
        exact ⟨ret_bool HR.out.symm, hB⟩
      · go_wp2
        go_round
        case rel => exact ⟨i + 1, by omega, by go_num, fun j hj hji => by
          by_cases e : j = i
          · subst e; rw [HXE.out _]; omega
          · exact HALL.out j hj (by omega)⟩
        case measure => simp [intOf]; omega
    · have HR := Lib.hid (show canB k (wv c l) = true from HI.out.2 fun j hj => HALL.out j hj (by have := HRL.out; omega))
      go_wp2
      go_ret
      exact ⟨ret_bool HR.out.symm, hB⟩

end Go.Proofs.Ytmmeiclclapmfaa
