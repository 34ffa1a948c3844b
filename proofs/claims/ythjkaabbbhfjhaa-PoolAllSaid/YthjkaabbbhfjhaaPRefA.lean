/-
  The reference's Has, Sized, Right.
  Conditions: rows have at most 2 to the power 62 numbers.
-/
import Derived.Test.YthjkaabbbhfjhaaPGive
namespace Go.Proofs.Ythjkaabbbhfjhaa
open Go.RowKit Go.Shelf
attribute [local go_sem] Oper.semAt_some

set_option maxRecDepth 100000 in
set_option maxHeartbeats 4000000 in
theorem rhas_c (v : Value) (l : List Int) (x : Int) (W : World) (hv : NumsAt W .i64 v l) (hm : l.length ≤ 4611686018427387904) :
    Calls Try.prog 26 #[v, .int .i64 x] W fun e w' => e = .returned (.bool (decide (x ∈ l))) ∧ w' = W := by
  obtain ⟨p, c, rfl, hcs⟩ := hv
  have HC := Lib.hid hcs
  clear hcs
  obtain ⟨r, hr⟩ : ∃ r, r = decide (x ∈ l) := ⟨_, rfl⟩
  rw [← hr]
  have HR := Lib.hid hr
  clear hr
  go_enter Try.func26, Try.ntmps26
  go_wp2
  go_loop [9] (fun iv => ∃ i : Nat, i ≤ l.length ∧ iv = .int .i64 (i : Int) ∧ Hid (x ∉ l.take i)) (fun iv => l.length - (pIntOf iv).toNat)
  case atStart => exact ⟨0, Nat.zero_le _, rfl, Lib.hid (by simp)⟩
  case round =>
    obtain ⟨i, hi, rfl, HN⟩ := hrel
    by_cases hlt : i < l.length
    · obtain ⟨b, off, rfl, hc⟩ := HC.out (by intro e; rw [e] at hlt; exact absurd hlt (Nat.not_lt_zero _))
      have hx := hc i hlt
      have htk := List.take_succ_eq_append_getElem hlt
      have hmem := List.getElem_mem hlt
      obtain ⟨y, hy⟩ : ∃ y, y = l[i] := ⟨_, rfl⟩
      rw [← hy] at hx htk hmem
      have HT := Lib.hid htk
      have HM := Lib.hid hmem
      clear hc hy htk hmem
      by_cases hyx : y = x
      · subst hyx
        have HT1 := Lib.hid (show r = true by rw [HR.out]; exact decide_eq_true HM.out)
        go_wp2
        go_ret
        exact ⟨by rw [HT1.out]; rfl, rfl⟩
      · have hne : (y == x) = false := by rw [beq_eq_false_iff_ne]; exact hyx
        have HN2 := Lib.hid (show x ∉ l.take (i + 1) by rw [HT.out, List.mem_append, List.mem_singleton]; rintro (h | h); exact HN.out h; exact hyx h.symm)
        clear hyx
        go_wp2
        go_round
        case rel => exact ⟨i + 1, by omega, by go_num, HN2⟩
        case measure => simp [pIntOf]; omega
    · have HT1 := Lib.hid (show r = false by
        rw [HR.out]; have h := HN.out; rw [List.take_of_length_le (by omega)] at h; exact decide_eq_false h)
      go_wp2
      go_ret
      exact ⟨by rw [HT1.out]; rfl, rfl⟩

set_option maxRecDepth 100000 in
set_option maxHeartbeats 4000000 in
theorem rsized_c (b p : Int) (W : World) : Calls Try.prog 27 #[.int .i64 b, .int .i64 p] W fun e w' => e = .returned (.bool (fitsB b p)) ∧ w' = W := by
  have e : fitsB b p = true ↔ 0 ≤ b ∧ b ≤ 4096 ∧ b % 16 = 0 ∧ 0 ≤ p ∧ p ≤ 64 ∧ b + 16 * p ≤ 4096 := by
    unfold fitsB; simp only [Bool.and_eq_true, decide_eq_true_eq, and_assoc]
  have ef : ∀ h : ¬ (0 ≤ b ∧ b ≤ 4096 ∧ b % 16 = 0 ∧ 0 ≤ p ∧ p ≤ 64 ∧ b + 16 * p ≤ 4096), fitsB b p = false := fun h => by
    cases hf : fitsB b p with
    | false => rfl
    | true => exact absurd (e.1 hf) h
  by_cases h0 : 0 ≤ b
  · by_cases h1 : b % 16 = 0
    · have hz : (b % 16 == 0) = true := by rw [h1]; rfl
      by_cases h2 : b ≤ 4096
      · by_cases h3 : 0 ≤ p
        · by_cases h4 : p ≤ 64
          · have hr : fitsB b p = decide (b + 16 * p ≤ 4096) := by
              by_cases h5 : b + 16 * p ≤ 4096
              · rw [decide_eq_true h5]; exact e.2 ⟨h0, h2, h1, h3, h4, h5⟩
              · rw [decide_eq_false h5]; exact ef (fun h => h5 h.2.2.2.2.2)
            rw [hr]
            clear hr ef e h1
            go_enter Try.func27, Try.ntmps27
            go_wp2
            go_ret
            exact ⟨rfl, rfl⟩
          · rw [ef (fun h => h4 h.2.2.2.2.1)]
            clear ef e h1
            go_enter Try.func27, Try.ntmps27
            go_wp2
            go_ret
            exact ⟨rfl, rfl⟩
        · rw [ef (fun h => h3 h.2.2.2.1)]
          clear ef e h1
          go_enter Try.func27, Try.ntmps27
          go_wp2
          go_ret
          exact ⟨rfl, rfl⟩
      · rw [ef (fun h => h2 h.2.1)]
        clear ef e h1
        go_enter Try.func27, Try.ntmps27
        go_wp2
        go_ret
        exact ⟨rfl, rfl⟩
    · have hz : (b % 16 == 0) = false := by rw [beq_eq_false_iff_ne]; exact h1
      rw [ef (fun h => h1 h.2.2.1)]
      clear ef e h1
      go_enter Try.func27, Try.ntmps27
      go_wp2
      go_ret
      exact ⟨rfl, rfl⟩
  · rw [ef (fun h => h0 h.1)]
    clear ef e
    go_enter Try.func27, Try.ntmps27
    go_wp2
    go_ret
    exact ⟨rfl, rfl⟩

theorem nums_take {W : World} {k : IntKind} {p : Option Addr} {n c : Nat} {ns : List Int} (h : NumsAt W k (.slice p n c) ns) (i : Nat) (hi : i ≤ ns.length) : NumsAt W k (.slice p i c) (ns.take i) := by
  obtain ⟨q, cap, e, hc⟩ := h
  injection e with e1 _ e3
  subst e1 e3
  refine ⟨p, c, by rw [List.length_take, Nat.min_eq_left hi], fun hne => ?_⟩
  obtain ⟨b, off, rfl, hcs⟩ := hc (by intro e; rw [e] at hne; exact hne (by simp))
  exact ⟨b, off, rfl, fun j hj => by rw [List.length_take] at hj; rw [List.getElem_take]; exact hcs j (by omega)⟩
set_option maxRecDepth 100000 in
set_option maxHeartbeats 4000000 in
theorem rright_c (b pg : Int) (p : Option Addr) (c : Nat) (fs : List Int) (W : World) (hmax : fs.length ≤ 4611686018427387904) (hl : NumsAt W .i64 (.slice p fs.length c) fs) (hcap : fs.length ≤ c) :
    Calls Try.prog 9 #[.agg #[.int .i64 b, .int .i64 pg, .slice p fs.length c]] W fun e w' => e = .returned (.bool (rightP b pg fs)) ∧ w' = W.alloc (.cells #[.int .i64 b, .int .i64 pg, .slice p fs.length c] 24) := by
  obtain ⟨w0, hw0⟩ : ∃ X : World, X = W.alloc (.cells #[.int .i64 b, .int .i64 pg, .slice p fs.length c] 24) := ⟨_, rfl⟩
  rw [← hw0]
  have hP : PBox w0 W.heap.size b pg (.slice p fs.length c) := by rw [hw0]; exact PBox.new _ _ _ _
  have HL := Lib.hid (show NumsAt w0 .i64 (.slice p fs.length c) fs from nums_below hl (by rw [hw0]; exact below1 _ _))
  have HS := Lib.hid (rsized_c b pg w0)
  obtain ⟨r, hr⟩ : ∃ r, r = rightP b pg fs := ⟨_, rfl⟩
  rw [← hr]
  have HR := Lib.hid hr
  obtain ⟨d0, d1, d2⟩ := hP.cells
  have HP := Lib.hid hP
  have HW0 := Lib.hid hw0
  rw [hw0] at d0 d1 d2
  clear hr hw0 hl hP
  go_enter Try.func9, Try.ntmps9
  go_wp2
  rw [← HW0.out]
  clear d0 d1 d2 HW0
  go_loop [8] (fun iv => ∃ i : Nat, i ≤ fs.length ∧ iv = .int .i64 (i : Int) ∧ Hid (okP pg (fs.take i))) (fun iv => fs.length - (pIntOf iv).toNat)
  case atStart => exact ⟨0, Nat.zero_le _, rfl, Lib.hid (by simp [okP])⟩
  case round =>
    obtain ⟨i, hi, rfl, HK⟩ := hrel
    obtain ⟨d0, d1, d2⟩ := HP.out.cells
    by_cases hlt : i < fs.length
    · have htk := List.take_succ_eq_append_getElem hlt
      have HH := Lib.hid (fun y : Int => rhas_c _ (fs.take i) y w0 (nums_take HL.out i hi) (by rw [List.length_take]; omega))
      obtain ⟨qq, cc, e, hc⟩ := HL.out
      injection e with e1 _ e3
      subst e1
      obtain ⟨bb, off, rfl, hcs⟩ := hc (by intro e; rw [e] at hlt; exact absurd hlt (Nat.not_lt_zero _))
      have hx := hcs i hlt
      obtain ⟨y, hy⟩ : ∃ y, y = fs[i] := ⟨_, rfl⟩
      rw [← hy] at hx htk
      have hbad : ¬ okP pg (fs.take i ++ [y]) → r = false := fun hn => by
        rw [HR.out]
        cases h : rightP b pg fs with
        | false => rfl
        | true =>
          have hok := (rightP_iff.1 h).2
          refine absurd ?_ hn
          rw [← htk]
          exact ⟨hok.1.sublist (List.take_sublist _ _), fun x hx => hok.2 x (List.mem_of_mem_take hx)⟩
      have HBAD := Lib.hid hbad
      have HTK := Lib.hid htk
      clear hc hcs hy htk hbad e3
      have hic : (i : Int) ≤ (c : Int) := by omega
      have hi0 : (0 : Int) ≤ (i : Int) := by omega
      have hil : (i : Int) < (fs.length : Int) := by omega
      by_cases h1 : y < 0
      · have HRF := Lib.hid (HBAD.out (okP_not_has (by unfold hasB; simp; omega)))
        go_wp2
        go_ret
        exact ⟨by rw [HRF.out]; rfl, rfl⟩
      · by_cases h2 : pg ≤ y
        · have HRF := Lib.hid (HBAD.out (okP_not_has (by unfold hasB; simp; omega)))
          go_wp2
          go_ret
          exact ⟨by rw [HRF.out]; rfl, rfl⟩
        · have HY := Lib.hid (HH.out y)
          clear HH
          go_wp2_with fail
          refine HY.out.mono ?_
          rintro e w1 ⟨rfl, rfl⟩
          by_cases hm : y ∈ fs.take i
          · have HRF := Lib.hid (HBAD.out (okP_not_mem hm))
            rw [decide_eq_true hm]
            clear hm
            go_wp2
            go_ret
            exact ⟨by rw [HRF.out]; rfl, rfl⟩
          · have HK2 := Lib.hid (show okP pg (fs.take (i + 1)) by rw [HTK.out]; exact okP_snoc HK.out (by unfold hasB; simp; omega) hm)
            rw [decide_eq_false hm]
            clear hm
            go_wp2
            go_round
            case rel => exact ⟨i + 1, by omega, by go_num, HK2⟩
            case measure => simp [pIntOf]; omega
    · have HRF := Lib.hid (show r = fitsB b pg by
        rw [HR.out]
        have h := HK.out
        rw [List.take_of_length_le (by omega)] at h
        cases hf : fitsB b pg with
        | true => exact rightP_iff.2 ⟨hf, h⟩
        | false => unfold rightP; rw [hf]; rfl)
      go_wp2_with fail
      refine HS.out.mono ?_
      rintro e w1 ⟨rfl, rfl⟩
      go_wp2
      go_ret
      exact ⟨by rw [HRF.out]; rfl, rfl⟩

end Go.Proofs.Ythjkaabbbhfjhaa
