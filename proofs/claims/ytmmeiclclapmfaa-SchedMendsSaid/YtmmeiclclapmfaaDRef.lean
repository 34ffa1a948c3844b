/-
  Right, Wait, has and Fair of the reference of layer 4.
  Conditions: the row of picks reads as a list of at most 2 to the power 40.
-/
import Derived.Test.YtmmeiclclapmfaaDPartS
namespace Go.Proofs.Ytmmeiclclapmfaa
open Go.RowKit Go.Shelf

set_option maxHeartbeats 4000000 in
theorem right_c (c : Int) (p : Option Addr) (n d : Nat) (l : List Int) (W : World) (h : RI W p n d l) (hl : n ≤ 1099511627776) :
    Calls Try.prog 10 #[.int .i64 c, .slice p n d] W fun e w' => e = .returned (.bool (okB c l)) ∧ Below W.heap.size W w' := by
  have HN := Lib.hid h.len
  have hcells := h.cells
  clear h
  go_enter Try.func10, Try.ntmps10
  go_wp2
  go_loop [9] (fun iv => ∃ i : Nat, i ≤ n ∧ iv = .int .i64 i ∧ Hid (∀ p ∈ l.take i, 0 ≤ p ∧ p < c)) (fun iv => n - (intOf iv).toNat)
  case atStart => exact ⟨0, Nat.zero_le _, rfl, Lib.hid (fun p hp => by simp at hp)⟩
  case round =>
    obtain ⟨i, hi, rfl, HA⟩ := hrel
    by_cases hlt : i < n
    · obtain ⟨b, off, rfl, hcs⟩ := hcells (by omega)
      have hil : i < l.length := by have := HN.out; omega
      have hx := hcs i hil
      have htk := List.take_succ_eq_append_getElem hil
      obtain ⟨x, hxe⟩ : ∃ x, x = l[i] := ⟨_, rfl⟩
      have hmem : x ∈ l := by rw [hxe]; exact List.getElem_mem hil
      have HMEM := Lib.hid hmem
      rw [← hxe] at hx htk
      have HT := Lib.hid htk
      clear hcs htk hxe hmem
      have HBAD : ¬ (0 ≤ x ∧ x < c) → Hid (okB c l = false) := fun h => Lib.hid (by
        cases e : okB c l with
        | false => rfl
        | true => exact absurd ((okB_iff.1 e).2 x HMEM.out) h)
      by_cases h0 : x < 0
      · have hr := HBAD (by omega)
        clear HBAD
        go_wp2
        go_ret
        exact ⟨ret_bool hr.out.symm, Below.refl _ _⟩
      · by_cases h1 : c ≤ x
        · have hr := HBAD (by omega)
          clear HBAD
          go_wp2
          go_ret
          exact ⟨ret_bool hr.out.symm, Below.refl _ _⟩
        · clear HBAD
          go_wp2
          go_round
          case rel => exact ⟨i + 1, by omega, by go_num, Lib.hid (fun p hp => by
            rw [HT.out] at hp
            rcases List.mem_append.1 hp with h | h
            · exact HA.out p h
            · rw [List.mem_singleton.1 h]; omega)⟩
          case measure => simp [intOf]; omega
    · have hall : ∀ p ∈ l, 0 ≤ p ∧ p < c := fun p hp => by
        have := HA.out p
        rw [List.take_of_length_le (by have := HN.out; omega)] at this
        exact this hp
      have HALL := Lib.hid hall
      clear hall
      by_cases h1 : 1 ≤ c
      · by_cases h8 : c ≤ 8
        · have HR := Lib.hid (okB_iff.2 ⟨⟨h1, h8⟩, HALL.out⟩)
          go_wp2
          go_ret
          exact ⟨ret_bool HR.out.symm, Below.refl _ _⟩
        · have HR := Lib.hid (show okB c l = false by simp [okB, mayI, h8])
          go_wp2
          go_ret
          exact ⟨ret_bool HR.out.symm, Below.refl _ _⟩
      · have HR := Lib.hid (show okB c l = false by simp [okB, mayI, h1])
        go_wp2
        go_ret
        exact ⟨ret_bool HR.out.symm, Below.refl _ _⟩

theorem wait_take (l : List Int) (c : Int) (j : Nat) (hj : j < l.length) (hne : l[l.length - 1 - j] ≠ c) : waitL (l.take (l.length - j)) c = waitL (l.take (l.length - (j + 1))) c + 1 := by
  have e : l.take (l.length - j) = l.take (l.length - (j + 1)) ++ [l[l.length - 1 - j]] := by
    have := List.take_succ_eq_append_getElem (l := l) (i := l.length - (j + 1)) (by omega)
    rw [show l.length - (j + 1) + 1 = l.length - j by omega] at this
    rw [this]
    congr 2
    · congr 1; omega
  rw [e, waitL_snoc, if_neg hne]
theorem wait_stop (l : List Int) (c : Int) (j : Nat) (hj : j < l.length) (heq : l[l.length - 1 - j] = c) : waitL (l.take (l.length - j)) c = 0 := by
  have e : l.take (l.length - j) = l.take (l.length - (j + 1)) ++ [l[l.length - 1 - j]] := by
    have := List.take_succ_eq_append_getElem (l := l) (i := l.length - (j + 1)) (by omega)
    rw [show l.length - (j + 1) + 1 = l.length - j by omega] at this
    rw [this]
    congr 2
    · congr 1; omega
  rw [e, waitL_snoc, if_pos heq]

set_option maxHeartbeats 4000000 in
theorem wait_c (c : Int) (p : Option Addr) (n d : Nat) (l : List Int) (W : World) (h : RI W p n d l) (hl : n ≤ 1099511627776) :
    Calls Try.prog 17 #[.slice p n d, .int .i64 c] W fun e w' => e = .returned (.int .i64 (waitL l c : Int)) ∧ w' = W := by
  have HN := Lib.hid h.len
  have hcells := h.cells
  clear h
  go_enter Try.func17, Try.ntmps17
  go_wp2
  go_loop [5, 6] (fun nv iv => ∃ j : Nat, j ≤ n ∧ nv = .int .i64 j ∧ iv = .int .i64 ((n : Int) - 1 - (j : Int)) ∧ Hid (waitL l c = j + waitL (l.take (n - j)) c)) (fun nv _ => n - (intOf nv).toNat)
  case atStart => exact ⟨0, Nat.zero_le _, rfl, by first | rfl | go_num, Lib.hid (by rw [Nat.sub_zero, Nat.zero_add, HN.out, List.take_length])⟩
  case round =>
    obtain ⟨j, hj, rfl, rfl, HW⟩ := hrel
    by_cases hlt : j < n
    · obtain ⟨b, off, rfl, hcs⟩ := hcells (by omega)
      obtain ⟨m, hm⟩ : ∃ m, m = n - 1 - j := ⟨_, rfl⟩
      have hmn : m < n := by omega
      have hml : m < l.length := by have := HN.out; omega
      have hmi : (n : Int) - 1 - (j : Int) = (m : Int) := by omega
      have hx := hcs m hml
      rw [hmi]
      obtain ⟨x, hxe⟩ : ∃ x, x = l[m] := ⟨_, rfl⟩
      have HX := Lib.hid (show ∀ h : l.length - 1 - j < l.length, l[l.length - 1 - j] = x from fun h => by
        rw [hxe]; congr 1; have := HN.out; omega)
      rw [← hxe] at hx
      have HMI := Lib.hid hmi
      have HM := Lib.hid hm
      clear hcs hxe hmi hm
      by_cases hxc : x = c
      · subst hxc
        have HS := Lib.hid (show waitL l x = j by
          have h1 := wait_stop l x j (by have := HN.out; omega) (HX.out _)
          have h2 := HW.out
          rw [HN.out, h1] at h2
          omega)
        go_wp2
        go_ret
        exact ⟨ret_int (by rw [HS.out]), rfl⟩
      · have hne : ((x : Int) != c) = true := by rw [bne_iff_ne]; exact hxc
        have HS := Lib.hid (show waitL l c = (j + 1) + waitL (l.take (n - (j + 1))) c by
          have h1 := wait_take l c j (by have := HN.out; omega) (by rw [HX.out _]; exact hxc)
          have h2 := HW.out
          rw [HN.out] at h2 ⊢
          rw [h1] at h2
          omega)
        clear hxc
        go_wp2
        go_round
        case rel => exact ⟨j + 1, by omega, by go_num, by rw [← HMI.out]; go_num, HS⟩
        case measure => simp [intOf]; omega
    · obtain rfl : n = j := by omega
      have HS := Lib.hid (show waitL l c = n by
        have := HW.out
        rw [Nat.sub_self, List.take_zero, waitL_nil] at this
        omega)
      go_wp2
      go_ret
      exact ⟨ret_int (by rw [HS.out]), rfl⟩

set_option maxHeartbeats 4000000 in
theorem has_c (c : Int) (p : Option Addr) (n d : Nat) (l : List Int) (W : World) (h : RI W p n d l) (hl : n ≤ 1099511627776) :
    Calls Try.prog 31 #[.slice p n d, .int .i64 c] W fun e w' => e = .returned (.bool (decide (c ∈ l))) ∧ w' = W := by
  have HW := wait_c c p n d l W h hl
  have hlen := h.len
  have hle := waitL_le l c
  have HH := Lib.hid (waitL_lt l c)
  obtain ⟨t, ht⟩ : ∃ t, t = waitL l c := ⟨_, rfl⟩
  rw [← ht] at HW hle HH
  rw [← hlen] at hle HH
  clear ht hlen h
  by_cases hin : c ∈ l
  · have htn : t < n := HH.out.2 hin
    have HD := Lib.hid (show decide (c ∈ l) = true by simpa using hin)
    clear hin
    go_enter Try.func31, Try.ntmps31
    go_wp2_with fail
    refine HW.mono ?_
    rintro e w1 ⟨rfl, rfl⟩
    clear HW
    go_wp2
    go_ret
    exact ⟨ret_bool HD.out.symm, rfl⟩
  · have htn : ¬ t < n := fun h => hin (HH.out.1 h)
    have HD := Lib.hid (show decide (c ∈ l) = false by simpa using hin)
    clear hin
    go_enter Try.func31, Try.ntmps31
    go_wp2_with fail
    refine HW.mono ?_
    rintro e w1 ⟨rfl, rfl⟩
    clear HW
    go_wp2
    go_ret
    exact ⟨ret_bool HD.out.symm, rfl⟩

end Go.Proofs.Ytmmeiclclapmfaa
