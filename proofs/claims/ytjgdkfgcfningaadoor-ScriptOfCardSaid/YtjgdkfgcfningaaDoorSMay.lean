/-
  may and Check, of package script: which scripts may be.
  Conditions: the script's rows read as rows.
-/
import Derived.Test.YtjgdkfgcfningaaDoorSParts
import Derived.Deep.Cut
namespace Go.Proofs.YtjgdkfgcfningaaDoor
open Go.RowKit Go.Shelf

def strangeB (c x : Int) : Bool := decide (x < 0) || decide (c ≤ x)
theorem strange_c (c x : Int) (z : Nat) (W : World) (h : W.cell? ⟨z, 0, none⟩ = some (.int .i64 c)) :
    Calls Tryd.prog 41 #[.int .i64 x, .pointer (some ⟨z, 0, none⟩)] W fun e w' => e = .returned (.bool (strangeB c x)) ∧ w' = W := by
  by_cases h0 : x < 0
  · have HR := Lib.hid (show strangeB c x = true by simp [strangeB, h0])
    go_enter Tryd.func41, Tryd.ntmps41
    go_wp2
    go_ret
    exact ⟨ret_bool HR.out.symm, rfl⟩
  · by_cases h1 : c ≤ x
    · have HR := Lib.hid (show strangeB c x = true by simp [strangeB, h1])
      go_enter Tryd.func41, Tryd.ntmps41
      go_wp2
      go_ret
      exact ⟨ret_bool HR.out.symm, rfl⟩
    · have HR := Lib.hid (show strangeB c x = false by simp [strangeB, h0, h1])
      go_enter Tryd.func41, Tryd.ntmps41
      go_wp2
      go_ret
      exact ⟨ret_bool HR.out.symm, rfl⟩

set_option maxHeartbeats 4000000 in
theorem strangeIx_c (c : Int) (z : Nat) (v : Value) (l : List Int) (W : World) (hv : NumsAt W .i64 v l) (hl : l.length ≤ 1099511627776) (h : W.cell? ⟨z, 0, none⟩ = some (.int .i64 c)) :
    Calls Tryd.prog 57 #[v, .func (.func 41) #[] #[.pointer (some ⟨z, 0, none⟩)]] W fun e w' => (∃ i : Int, e = .returned (.int .i64 i) ∧ -1 ≤ i ∧ i ≤ 1099511627776 ∧ decide (0 ≤ i) = l.any (strangeB c)) ∧ w' = W := by
  obtain ⟨p, cap, rfl, hc⟩ := hv
  obtain ⟨n, hn⟩ : ∃ n, n = l.length := ⟨_, rfl⟩
  rw [← hn] at hl ⊢
  have HN := Lib.hid hn
  have HST := Lib.hid (fun x => strange_c c x z W h)
  clear hn h
  go_enter Tryd.func57, Tryd.ntmps57
  go_wp2
  go_loop [8] (fun iv => ∃ i : Nat, i ≤ n ∧ iv = .int .i64 i ∧ Hid ((l.take i).any (strangeB c) = false)) (fun iv => n - (intOf iv).toNat)
  case atStart => exact ⟨0, Nat.zero_le _, rfl, Lib.hid rfl⟩
  case round =>
    obtain ⟨i, hi, rfl, HA⟩ := hrel
    by_cases hlt : i < n
    · have hil : i < l.length := by have := HN.out; omega
      obtain ⟨b, off, rfl, hcs⟩ := hc (by intro e; rw [e] at hil; cases hil)
      have hx := hcs i hil
      have htk := List.take_succ_eq_append_getElem hil
      have hmem := List.getElem_mem hil
      obtain ⟨x, hxe⟩ : ∃ x, x = l[i] := ⟨_, rfl⟩
      rw [← hxe] at hx htk hmem
      have HTK := Lib.hid htk
      have HMEM := Lib.hid hmem
      clear hcs hxe htk hmem
      cases hs : strangeB c x with
      | true =>
        have HR := Lib.hid (show decide (0 ≤ (i : Int)) = l.any (strangeB c) by
          rw [List.any_eq_true.2 ⟨x, HMEM.out, hs⟩]; simp)
        have HC := Lib.hid (HST.out x)
        go_wp2_with fail
        refine HC.out.mono ?_
        rintro e w1 ⟨rfl, rfl⟩
        rw [hs]
        clear HC hs
        go_wp2
        go_ret
        exact ⟨⟨i, rfl, by omega, by omega, HR.out⟩, rfl⟩
      | false =>
        have HA2 := Lib.hid (show (l.take (i + 1)).any (strangeB c) = false by rw [HTK.out, List.any_append, HA.out]; simp [hs])
        have HC := Lib.hid (HST.out x)
        go_wp2_with fail
        refine HC.out.mono ?_
        rintro e w1 ⟨rfl, rfl⟩
        rw [hs]
        clear HC hs
        go_wp2
        go_round
        case rel => exact ⟨i + 1, by omega, by go_num, HA2⟩
        case measure => simp [intOf]; omega
    · obtain rfl : n = i := by omega
      have HR := Lib.hid (show decide (0 ≤ (-1 : Int)) = l.any (strangeB c) by
        have := HA.out
        rw [List.take_of_length_le (by have := HN.out; omega)] at this
        rw [this]; rfl)
      go_wp2
      go_ret
      exact ⟨⟨-1, rfl, by omega, by omega, HR.out⟩, rfl⟩
theorem anyStrange_c (c : Int) (z : Nat) (v : Value) (l : List Int) (W : World) (hv : NumsAt W .i64 v l) (hl : l.length ≤ 1099511627776) (h : W.cell? ⟨z, 0, none⟩ = some (.int .i64 c)) :
    Calls Tryd.prog 43 #[v, .func (.func 41) #[] #[.pointer (some ⟨z, 0, none⟩)]] W fun e w' => e = .returned (.bool (l.any (strangeB c))) ∧ w' = W := by
  have HC := strangeIx_c c z v l W hv hl h
  obtain ⟨p, cap, rfl, hc⟩ := hv
  clear hc
  go_enter Tryd.func43, Tryd.ntmps43
  go_wp2_with fail
  refine HC.mono ?_
  rintro e w1 ⟨⟨i, rfl, h1, h2, hd⟩, rfl⟩
  have HD := Lib.hid hd
  clear HC hd
  go_wp2
  go_ret
  exact ⟨ret_bool HD.out, rfl⟩

end Go.Proofs.YtjgdkfgcfningaaDoor
