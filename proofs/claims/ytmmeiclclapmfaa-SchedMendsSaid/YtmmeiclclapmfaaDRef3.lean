/-
  Rounds and Places of the reference of layer 4.
  Conditions: the row of picks reads as a list of at most 2 to the power 40; there are from 1 to 8 CPUs.
-/
import Derived.Test.YtmmeiclclapmfaaDRef2
namespace Go.Proofs.Ytmmeiclclapmfaa
open Go.RowKit Go.Shelf

theorem wholeB_nat {c : Nat} {l : List Int} {b : Bool} (h : b = true ↔ ∀ x, x < c → ((x : Nat) : Int) ∈ l) : wholeB c l = b := by
  cases b with
  | true => exact wholeB_iff.2 (h.1 rfl)
  | false =>
    cases e : wholeB c l with
    | false => rfl
    | true => exact (h.2 (wholeB_iff.1 e)).symm

set_option maxRecDepth 100000 in
set_option maxHeartbeats 4000000 in
theorem roundsR_c (c : Nat) (hc : 1 ≤ c ∧ c ≤ 8) (p : Option Addr) (n d : Nat) (l : List Int) (W : World) (h : RI W p n d l) (hl : n ≤ 1099511627776) :
    Calls Try.prog 22 #[.int .i64 (c : Int), .slice p n d] W fun e w' => e = .returned (.int .i64 (roundsL c l : Int)) ∧ w' = W := by
  have HN := Lib.hid h.len
  have hroom := h.room
  obtain ⟨hc1, hc8⟩ := hc
  go_enter Try.func22, Try.ntmps22
  go_wp2
  go_loop [5, 6, 12] (fun rv fv iv => ∃ i r f : Nat, i ≤ n ∧ iv = .int .i64 i ∧ rv = .int .i64 r ∧ fv = .int .i64 f ∧ f ≤ i ∧ r ≤ i ∧ Hid ((l.take i).foldl (rstep c) (0, []) = (r, (l.take i).drop f))) (fun _ _ iv => n - (intOf iv).toNat)
  case atStart => exact ⟨0, 0, 0, Nat.zero_le _, rfl, rfl, rfl, Nat.le_refl _, Nat.le_refl _, rfl⟩
  case round =>
    obtain ⟨i, r, f, hi, rfl, rfl, rfl, hfi, hri, HS⟩ := hrel
    by_cases hlt : i < n
    · have hil : i < l.length := by have := HN.out; omega
      have htk := List.take_succ_eq_append_getElem hil
      have HST := Lib.hid (show (l.take (i + 1)).foldl (rstep c) (0, []) = rstep c (r, (l.take i).drop f) l[i] by rw [htk, rounds_snoc, HS.out])
      have hwd : (l.take i).drop f ++ [l[i]] = (l.drop f).take (i + 1 - f) := by
        rw [← List.drop_take, htk, List.drop_append_of_le_length (by rw [List.length_take]; omega)]
      have HWD := Lib.hid hwd
      have HDT := Lib.hid (show (l.take (i + 1)).drop f = (l.drop f).take (i + 1 - f) from List.drop_take ..)
      have hsumi : ((i + 1 : Nat) : Int) = (i : Int) + 1 := by omega
      have hcut := run_part p n d f (i + 1) (by omega) (by omega)
      rw [hsumi] at hcut
      obtain ⟨g, hg⟩ : ∃ g, g = i + 1 - f := ⟨_, rfl⟩
      have RP := h.part f g (by omega)
      rw [Nat.add_sub_cancel_left] at RP
      rw [← hg] at hcut hwd
      obtain ⟨pp, hpp⟩ : ∃ pp, pp = (if d = f then p else p.map (·.add f)) := ⟨_, rfl⟩
      obtain ⟨dp, hdp⟩ : ∃ dp, dp = d - f := ⟨_, rfl⟩
      rw [← hpp, ← hdp] at hcut RP
      have hg40 : g ≤ 1099511627776 := by omega
      have HG := Lib.hid hg
      obtain ⟨Wd, hWd⟩ : ∃ Wd, Wd = (l.drop f).take g := ⟨_, rfl⟩
      rw [← hWd] at RP
      have HWE := Lib.hid hWd
      clear hpp hdp hsumi htk hwd hg hWd
      go_wp2
      go_loop [8, 16] (fun bv jv => ∃ (j : Nat) (b : Bool), j ≤ c ∧ jv = .int .i64 j ∧ bv = .bool b ∧ Hid (b = true ↔ ∀ x, x < j → ((x : Nat) : Int) ∈ Wd)) (fun _ jv => c - (intOf jv).toNat)
      case atStart => exact ⟨0, true, Nat.zero_le _, rfl, rfl, Lib.hid ⟨fun _ x hx => absurd hx (Nat.not_lt_zero _), fun _ => rfl⟩⟩
      case round =>
        obtain ⟨j, b, hj, rfl, rfl, HJ⟩ := hrel
        by_cases hjc : j < c
        · cases b with
          | false =>
            have HJ2 := Lib.hid (show (false = true ↔ ∀ x, x < j + 1 → ((x : Nat) : Int) ∈ Wd) from ⟨(fun h => by cases h), (fun h => HJ.out.2 fun x hx => h x (by omega))⟩)
            go_wp2
            go_round
            case rel => exact ⟨j + 1, false, by omega, by go_num, rfl, HJ2⟩
            case measure => simp [intOf]; omega
          | true =>
            have HC := has_c (j : Int) pp g dp Wd W RP hg40
            obtain ⟨b2, hb2⟩ : ∃ b2, b2 = decide (((j : Nat) : Int) ∈ Wd) := ⟨_, rfl⟩
            rw [← hb2] at HC
            have HJ2 := Lib.hid (show (b2 = true ↔ ∀ x, x < j + 1 → ((x : Nat) : Int) ∈ Wd) from ⟨fun h x hx => by
              by_cases e : x = j
              · rw [e]; rw [hb2] at h; simpa using h
              · exact HJ.out.1 rfl x (by omega), fun h => by rw [hb2]; simpa using h j (by omega)⟩)
            clear hb2
            go_wp2_with fail
            refine HC.mono ?_
            rintro e w1 ⟨rfl, rfl⟩
            clear HC
            go_wp2
            go_round
            case rel => exact ⟨j + 1, b2, by omega, by go_num, rfl, HJ2⟩
            case measure => simp [intOf]; omega
        · obtain rfl : c = j := by omega
          have hwb := wholeB_nat HJ.out
          cases b with
          | false =>
            have HN2 := Lib.hid (show (l.take (i + 1)).foldl (rstep c) (0, []) = (r, (l.take (i + 1)).drop f) by
              rw [HST.out, HDT.out]
              simp only [rstep]
              rw [HWD.out, ← HG.out, ← HWE.out, hwb, if_neg (by decide)])
            clear hwb hjc
            go_wp2
            go_round
            case rel => exact ⟨i + 1, r, f, by omega, by go_num, rfl, rfl, by omega, by omega, HN2⟩
            case measure => simp [intOf]; omega
          | true =>
            have HN2 := Lib.hid (show (l.take (i + 1)).foldl (rstep c) (0, []) = (r + 1, (l.take (i + 1)).drop (i + 1)) by
              rw [HST.out]
              simp only [rstep]
              rw [HWD.out, ← HG.out, ← HWE.out, hwb, if_pos rfl, List.drop_of_length_le (by rw [List.length_take]; omega)])
            clear hwb hjc
            go_wp2
            go_round
            case rel => exact ⟨i + 1, r + 1, i + 1, by omega, by go_num, by go_num, by go_num, by omega, by omega, HN2⟩
            case measure => simp [intOf]; omega
    · have HR := Lib.hid (show roundsL c l = r by
        have h1 := HS.out
        rw [List.take_of_length_le (by have := HN.out; omega)] at h1
        unfold roundsL; rw [h1])
      go_wp2
      go_ret
      exact ⟨ret_int (by rw [HR.out]), rfl⟩

set_option maxRecDepth 100000 in
set_option maxHeartbeats 4000000 in
theorem places_c (c : Int) (p : Option Addr) (n d : Nat) (l : List Int) (W : World) (h : RI W p n d l) (hl : n ≤ 1099511627776) :
    Calls Try.prog 19 #[.slice p n d, .int .i64 c] W fun e w' => GivesRow W.heap.size (plc l c) e w' ∧ Below W.heap.size W w' := by
  have HN := Lib.hid h.len
  have hcells := h.cells
  obtain ⟨i0, hi0, hz0, hz1, hz2⟩ := info_parts int_info
  have HI0 := Lib.hid (And.intro hi0 (And.intro hz0 (And.intro hz1 hz2)))
  clear h hi0 hz0 hz1 hz2
  go_enter Try.func19, Try.ntmps19
  go_wp2
  go_loopw [5, 10] (fun ov iv wr => ∃ (i a : Nat) (q : Option Addr) (ca : Nat), i ≤ n ∧ iv = .int .i64 i ∧ ov = .slice q a ca ∧ a ≤ i ∧ Hid (a = (plc (l.take i) c).length) ∧ Hid (wr.ownsRow W.heap.size 3 1 (.slice q a ca) a ((plc (l.take i) c).map (Value.int .i64))) ∧ Below W.heap.size W wr) (fun _ iv _ => n - (intOf iv).toNat)
  case atStart => exact ⟨0, 0, none, 0, Nat.zero_le _, rfl, rfl, Nat.le_refl _, rfl, World.ownsRow_nil _ _ _ _, Below.refl _ _⟩
  case round =>
    obtain ⟨i, a, q, ca, hi, rfl, rfl, hai, HA, HO, hB⟩ := hrel
    by_cases hlt : i < n
    · obtain ⟨b, off, rfl, hcs⟩ := hcells (by omega)
      have hil : i < l.length := by have := HN.out; omega
      have hx := below_cell hB (hcs i hil)
      have htk := List.take_succ_eq_append_getElem hil
      have hps := plc_snoc (l.take i) l[i] c
      rw [← htk, List.length_take, Nat.min_eq_left (by omega)] at hps
      obtain ⟨x, hxe⟩ : ∃ x, x = l[i] := ⟨_, rfl⟩
      rw [← hxe] at hx hps
      have HPS := Lib.hid hps
      have hsz := hB.size
      clear hcs htk hxe hps
      by_cases hxc : x = c
      · subst hxc
        have hP := Lib.hid (show plc (l.take (i + 1)) x = plc (l.take i) x ++ [(i : Int)] by rw [HPS.out, if_pos rfl])
        go_wp2_with (at_builtin; refine wpList_append_own _ rfl _ _ 22 rfl W.heap.size 3 i0 (.int .i64 0) 1 8 Try.underlying22 HI0.out.1 HI0.out.2.1 HI0.out.2.2.1 HI0.out.2.2.2 rfl (by decide) (.slice q a ca) a _ rfl (HO.out.alloc _) ⟨wr.heap.size, 0, none⟩ 1 1 [.int .i64 (i : Int)] rfl rfl (cell_one_new _ _ _) (fun y hy => by rw [List.mem_singleton.1 hy]; rfl) (by unfold maxLen; omega) (by omega) (by simp; omega) ?_; intro v' w2 hown' hgrow _; obtain ⟨q6, d6, rfl⟩ := owns_slice hown')
        have hB2 : Below W.heap.size W w2 := (hB.alloc hsz _).grown hgrow (by simp; omega) (fun r hr => (HO.out.lt r hr).1)
        have HO2 := Lib.hid (show w2.ownsRow W.heap.size 3 1 (.slice q6 (a + 1) d6) (a + 1) ((plc (l.take (i + 1)) x).map (Value.int .i64)) by rw [hP.out, List.map_append]; exact hown')
        have HA2 := Lib.hid (show a + 1 = (plc (l.take (i + 1)) x).length by rw [hP.out, List.length_append, ← HA.out]; rfl)
        clear hown' hgrow HO hB HA
        go_roundw
        case rel => exact ⟨i + 1, a + 1, q6, d6, by omega, by go_num, rfl, by omega, HA2, HO2, hB2⟩
        case measure => simp [intOf]; omega
      · have hne : ((x : Int) == c) = false := by rw [beq_eq_false_iff_ne]; exact hxc
        have hP := Lib.hid (show plc (l.take (i + 1)) c = plc (l.take i) c by rw [HPS.out, if_neg hxc, List.append_nil])
        clear hxc
        go_wp2
        go_roundw
        case rel => exact ⟨i + 1, a, q, ca, by omega, by go_num, rfl, by omega, by rw [hP.out]; exact HA, by rw [hP.out]; exact HO, hB⟩
        case measure => simp [intOf]; omega
    · have hO := HO.out
      have hA := HA.out
      rw [List.take_of_length_le (by have := HN.out; omega)] at hO hA
      have HG : Hid (GivesRow W.heap.size (plc l c) (.returned (.slice q a ca)) wr) := Lib.hid (by subst hA; exact ⟨q, ca, rfl, hO⟩)
      clear hO hA HO HA
      go_wp2
      go_ret
      exact ⟨HG.out, hB⟩

end Go.Proofs.Ytmmeiclclapmfaa
