/-
  Right, of the reference of layer 3: which scripts may be.
  Conditions: as Check's.
-/
import Derived.Test.YtjgdkfgcfningaaDoorSMay2
namespace Go.Proofs.YtjgdkfgcfningaaDoor
open Go.RowKit Go.Shelf

set_option maxRecDepth 100000 in
set_option maxHeartbeats 8000000 in
theorem right3_c (c g : Int) (v0 v1 : Value) (ls : List Nat) (ps : List Int) (W : World) (h0 : LensAt W v0 ls) (h1 : NumsAt W .i64 v1 ps) (_hl : ls.length ≤ 1048576) (hs : ∀ n ∈ ls, n ≤ 1099511627776) (hp : ps.length ≤ 1099511627776) :
    Calls Tryd.prog 10 #[.agg #[.int .i64 c, .int .i64 g, v0, v1]] W fun e w' => e = .returned (.bool (scriptB c g ls ps)) ∧ Below W.heap.size W w' := by
  obtain ⟨wo, hwo⟩ : ∃ w : World, w = W.alloc (.cells #[.int .i64 c, .int .i64 g, v0, v1] 25) := ⟨_, rfl⟩
  have hB : Below W.heap.size W wo := by rw [hwo]; exact (Below.refl _ _).alloc (Nat.le_refl _) _
  have hL := h0.below hB
  have hP := nums_below h1 hB
  obtain ⟨p0, d0, rfl, h0c⟩ := hL
  obtain ⟨p1, d1, rfl, h1c⟩ := hP
  clear h0 h1
  obtain ⟨n, hn⟩ : ∃ n, n = ls.length := ⟨_, rfl⟩
  obtain ⟨m, hm⟩ : ∃ m, m = ps.length := ⟨_, rfl⟩
  have hl : n ≤ 1048576 := by rw [hn]; exact _hl
  obtain ⟨r, hre⟩ : ∃ r, r = scriptB c g ls ps := ⟨_, rfl⟩
  rw [← hre]
  unfold scriptB at hre
  rw [← hn, ← hm] at hre
  rw [← hn] at hwo ⊢
  rw [← hm] at hp hwo ⊢
  have HN := Lib.hid hn
  have HM := Lib.hid hm
  have HS := Lib.hid hs
  clear hn hm hs
  have HWO := Lib.hid hwo
  clear hwo
  by_cases hk1 : 1 ≤ c
  · by_cases hk2 : c ≤ 8
    · by_cases hk3 : 1 ≤ g
      · by_cases hk4 : g ≤ 64
        · by_cases hk5 : (n : Int) = c
          · by_cases hk7 : m ≤ 4096
            · have HRR := Lib.hid (show r = (decide (sumL ls ≤ 64) && !(ps.any (strangeB c))) by rw [hre]; simp [hk1, hk2, hk3, hk4, hk5, hk7])
              clear hre
              have heq : ((n : Int) != c) = false := by rw [hk5]; simp
              have hc0 : wo.cell? ⟨W.heap.size, 0, none⟩ = some (.int .i64 c) := by rw [HWO.out]; simp
              have hc2 : wo.cell? ⟨W.heap.size, 2, none⟩ = some (.slice p0 n d0) := by rw [HWO.out]; simp
              have hc3 : wo.cell? ⟨W.heap.size, 3, none⟩ = some (.slice p1 m d1) := by rw [HWO.out]; simp
              go_enter Tryd.func10, Tryd.ntmps10
              go_upto_region 4 with (fail)
              rw [← HWO.out]
              go_wp2
              go_loop [3, 43] (fun sv iv => ∃ i s : Nat, i ≤ n ∧ iv = .int .i64 i ∧ sv = .int .i64 s ∧ s ≤ i * 1099511627776 ∧ Hid (s = sumL (ls.take i))) (fun _ iv => n - (intOf iv).toNat)
              case atStart => exact ⟨0, 0, Nat.zero_le _, rfl, rfl, Nat.zero_le _, rfl⟩
              case round =>
                obtain ⟨i, s, hi, rfl, rfl, hsi, HA⟩ := hrel
                by_cases hlt : i < n
                · have hil : i < ls.length := by have := HN.out; omega
                  obtain ⟨b, off, rfl, hcs⟩ := h0c (by intro e; rw [e] at hil; cases hil)
                  obtain ⟨q, d, hx⟩ := hcs i hil
                  have hmm := HS.out _ (List.getElem_mem hil)
                  have htk := List.take_succ_eq_append_getElem hil
                  obtain ⟨y, hme⟩ : ∃ m, m = ls[i] := ⟨_, rfl⟩
                  rw [← hme] at hx hmm htk
                  have HA2 := Lib.hid (show s + y = sumL (ls.take (i + 1)) by rw [htk, sumL_snoc, ← HA.out])
                  clear hcs hme htk h0c
                  go_wp2
                  go_round
                  case rel => exact ⟨i + 1, s + y, by omega, by go_num, by go_num, by omega, HA2⟩
                  case measure => simp [intOf]; omega
                · obtain rfl : n = i := by omega
                  have HSL := Lib.hid (show s = sumL ls by rw [HA.out, List.take_of_length_le (by have := HN.out; omega)])
                  have HRS := Lib.hid (show r = (decide (s ≤ 64) && !(ps.any (strangeB c))) by rw [HRR.out, HSL.out])
                  clear HA HRR h0c
                  go_wp2
                  go_loop [55] (fun iv => ∃ i : Nat, i ≤ m ∧ iv = .int .i64 i ∧ Hid ((ps.take i).any (strangeB c) = false)) (fun iv => m - (intOf iv).toNat)
                  case atStart => exact ⟨0, Nat.zero_le _, rfl, Lib.hid rfl⟩
                  case round =>
                    obtain ⟨i, hi2, rfl, HP⟩ := hrel
                    by_cases hlt2 : i < m
                    · have hil : i < ps.length := by have := HM.out; omega
                      obtain ⟨b, off, rfl, hcs⟩ := h1c (by intro e; rw [e] at hil; cases hil)
                      have hx := hcs i hil
                      have htk := List.take_succ_eq_append_getElem hil
                      have hmem := List.getElem_mem hil
                      obtain ⟨x, hxe⟩ : ∃ x, x = ps[i] := ⟨_, rfl⟩
                      rw [← hxe] at hx htk hmem
                      have HTK := Lib.hid htk
                      have HMEM := Lib.hid hmem
                      clear hcs hxe htk hmem h1c
                      by_cases hx0 : x < 0
                      · have HF := Lib.hid (show r = false by rw [HRS.out, List.any_eq_true.2 ⟨x, HMEM.out, by simp [strangeB, hx0]⟩]; simp)
                        go_wp2
                        go_ret
                        exact ⟨ret_bool HF.out.symm, hB⟩
                      · by_cases hx1 : c ≤ x
                        · have HF := Lib.hid (show r = false by rw [HRS.out, List.any_eq_true.2 ⟨x, HMEM.out, by simp [strangeB, hx1]⟩]; simp)
                          go_wp2
                          go_ret
                          exact ⟨ret_bool HF.out.symm, hB⟩
                        · have HP2 := Lib.hid (show (ps.take (i + 1)).any (strangeB c) = false by rw [HTK.out, List.any_append, HP.out]; simp [strangeB]; omega)
                          go_wp2
                          go_round
                          case rel => exact ⟨i + 1, by omega, by go_num, HP2⟩
                          case measure => simp [intOf]; omega
                    · obtain rfl : m = i := by omega
                      have HF := Lib.hid (show r = decide ((s : Int) ≤ 64) by
                        have := HP.out
                        rw [List.take_of_length_le (by have := HM.out; omega)] at this
                        rw [HRS.out, this]
                        simp
                        omega)
                      clear HP
                      by_cases h64 : (s : Int) ≤ 64
                      · have HF2 := Lib.hid (show r = true by rw [HF.out]; exact decide_eq_true h64)
                        go_wp2
                        go_ret
                        exact ⟨ret_bool HF2.out.symm, hB⟩
                      · have HF2 := Lib.hid (show r = false by rw [HF.out]; exact decide_eq_false h64)
                        go_wp2
                        go_ret
                        exact ⟨ret_bool HF2.out.symm, hB⟩
            · have HRR := Lib.hid (show r = false by rw [hre]; simp [hk1, hk2, hk3, hk4, hk5, hk7])
              clear hre
              have heq : ((n : Int) != c) = false := by rw [hk5]; simp
              go_enter Tryd.func10, Tryd.ntmps10
              go_wp2
              go_ret
              exact ⟨ret_bool HRR.out.symm, by first | exact hB | (rw [← HWO.out]; exact hB)⟩
          · have HRR := Lib.hid (show r = false by rw [hre]; simp [hk1, hk2, hk3, hk4, hk5])
            clear hre
            have hne : ((n : Int) != c) = true := by rw [bne_iff_ne]; exact hk5
            go_enter Tryd.func10, Tryd.ntmps10
            go_wp2
            go_ret
            exact ⟨ret_bool HRR.out.symm, by first | exact hB | (rw [← HWO.out]; exact hB)⟩
        · have HRR := Lib.hid (show r = false by rw [hre]; simp [hk1, hk2, hk3, hk4])
          clear hre
          go_enter Tryd.func10, Tryd.ntmps10
          go_wp2
          go_ret
          exact ⟨ret_bool HRR.out.symm, by first | exact hB | (rw [← HWO.out]; exact hB)⟩
      · have HRR := Lib.hid (show r = false by rw [hre]; simp [hk1, hk2, hk3])
        clear hre
        go_enter Tryd.func10, Tryd.ntmps10
        go_wp2
        go_ret
        exact ⟨ret_bool HRR.out.symm, by first | exact hB | (rw [← HWO.out]; exact hB)⟩
    · have HRR := Lib.hid (show r = false by rw [hre]; simp [hk1, hk2])
      clear hre
      go_enter Tryd.func10, Tryd.ntmps10
      go_wp2
      go_ret
      exact ⟨ret_bool HRR.out.symm, by first | exact hB | (rw [← HWO.out]; exact hB)⟩
  · have HRR := Lib.hid (show r = false by rw [hre]; simp [hk1])
    clear hre
    go_enter Tryd.func10, Tryd.ntmps10
    go_wp2
    go_ret
    exact ⟨ret_bool HRR.out.symm, by first | exact hB | (rw [← HWO.out]; exact hB)⟩

end Go.Proofs.YtjgdkfgcfningaaDoor
