/-
  may and Check of package sched.
  Conditions: the row of picks reads as a list.
-/
import Derived.Test.YtmmeiclclapmfaaGInts
import Derived.Test.YtmmeiclclapmfaaDFair
namespace Go.Proofs.Ytmmeiclclapmfaa
open Go.RowKit Go.Shelf

/-- May there be so many CPUs? -/
def mayI (c : Int) : Bool := decide (1 ≤ c) && decide (c ≤ 8)
theorem mayI_iff {c : Int} : mayI c = true ↔ 1 ≤ c ∧ c ≤ 8 := by simp [mayI]
/-- Are these picks of so many CPUs? -/
def okB (c : Int) (l : List Int) : Bool := mayI c && l.all fun p => decide (0 ≤ p) && decide (p < c)
theorem okB_iff {c : Int} {l : List Int} : okB c l = true ↔ (1 ≤ c ∧ c ≤ 8) ∧ ∀ p ∈ l, 0 ≤ p ∧ p < c := by simp [okB, mayI]
def errS (b : Bool) : Int := if b then 0 else 140

theorem may_c (c : Int) (W : World) : Calls Try.prog 27 #[.int .i64 c] W fun e w' => e = .returned (.bool (mayI c)) ∧ w' = W := by
  by_cases h1 : 1 ≤ c
  · by_cases h2 : c ≤ 8
    · have hr := Lib.hid (mayI_iff.2 ⟨h1, h2⟩)
      go_enter Try.func27, Try.ntmps27
      go_wp2
      go_ret
      exact ⟨ret_bool hr.out.symm, rfl⟩
    · have hr := Lib.hid (show mayI c = false by simp [mayI, h2])
      go_enter Try.func27, Try.ntmps27
      go_wp2
      go_ret
      exact ⟨ret_bool hr.out.symm, rfl⟩
  · have hr := Lib.hid (show mayI c = false by simp [mayI, h1])
    go_enter Try.func27, Try.ntmps27
    go_wp2
    go_ret
    exact ⟨ret_bool hr.out.symm, rfl⟩

set_option maxHeartbeats 4000000 in
theorem check_c (c : Int) (v : Value) (l : List Int) (W : World) (hv : NumsAt W .i64 v l) (hl : l.length ≤ 9223372036854775807) :
    Calls Try.prog 11 #[.int .i64 c, v] W fun e w' => e = .returned (.int .i64 (errS (okB c l))) ∧ Below W.heap.size W w' := by
  obtain ⟨p, cap, rfl, hc⟩ := hv
  obtain ⟨n, hn⟩ : ∃ n, n = l.length := ⟨_, rfl⟩
  rw [← hn] at hl ⊢
  have HN := Lib.hid hn
  clear hn
  have HM := may_c c W
  cases hm : mayI c with
  | false =>
    rw [hm] at HM
    have hr := Lib.hid (show okB c l = false by simp [okB, hm])
    clear hm
    go_enter Try.func11, Try.ntmps11
    go_wp2_with fail
    refine HM.mono ?_
    rintro e w1 ⟨rfl, rfl⟩
    go_wp2
    go_ret
    exact ⟨ret_int (by rw [hr.out]; rfl), Below.refl _ _⟩
  | true =>
    rw [hm] at HM
    have HMI := Lib.hid hm
    clear hm
    go_enter Try.func11, Try.ntmps11
    go_wp2_with fail
    refine HM.mono ?_
    rintro e w1 ⟨rfl, rfl⟩
    clear HM
    go_wp2
    go_loopw [12] (fun iv wr => ∃ i : Nat, i ≤ n ∧ iv = .int .i64 i ∧ (∀ p ∈ l.take i, 0 ≤ p ∧ p < c) ∧ Below w1.heap.size w1 wr) (fun iv _ => n - (intOf iv).toNat)
    case atStart => exact ⟨0, Nat.zero_le _, rfl, fun p hp => by simp at hp, Below.refl _ _⟩
    case round =>
      obtain ⟨i, hi, rfl, hall, hB⟩ := hrel
      have HA := Lib.hid hall
      clear hall
      by_cases hlt : i < n
      · obtain ⟨b, off, rfl, hcs⟩ := hc (by intro e; have := HN.out; rw [e] at this; simp at this; omega)
        have hil : i < l.length := by have := HN.out; omega
        have hx := below_cell hB (hcs i hil)
        have htk := List.take_succ_eq_append_getElem hil
        obtain ⟨x, hxe⟩ : ∃ x, x = l[i] := ⟨_, rfl⟩
        have hmem : x ∈ l := by rw [hxe]; exact List.getElem_mem hil
        have HMEM := Lib.hid hmem
        rw [← hxe] at hx htk
        have HT := Lib.hid htk
        clear hcs htk hxe hmem
        have HBAD : ¬ (0 ≤ x ∧ x < c) → Hid (okB c l = false) := fun h => Lib.hid (by
          cases e : okB c l with
          | false => rfl
          | true => exact absurd ((okB_iff.1 e).2 x HMEM.out) h)
        by_cases h0 : x < 0
        · have hr := HBAD (by omega)
          clear HBAD
          go_wp2
          go_ret
          exact ⟨ret_int (by rw [hr.out]; rfl), hB⟩
        · by_cases h1 : c ≤ x
          · have hr := HBAD (by omega)
            clear HBAD
            go_wp2
            go_ret
            exact ⟨ret_int (by rw [hr.out]; rfl), hB⟩
          · clear HBAD
            go_wp2
            go_roundw
            case rel => exact ⟨i + 1, by omega, by go_num, fun p hp => by
              rw [HT.out] at hp
              rcases List.mem_append.1 hp with h | h
              · exact HA.out p h
              · rw [List.mem_singleton.1 h]; omega, hB⟩
            case measure => simp [intOf]; omega
      · have hr : okB c l = true := okB_iff.2 ⟨mayI_iff.1 HMI.out, fun p hp => by
          have := HA.out p
          rw [List.take_of_length_le (by have := HN.out; omega)] at this
          exact this hp⟩
        have HR := Lib.hid hr
        clear hr
        go_wp2
        go_ret
        exact ⟨ret_int (by rw [HR.out]; rfl), hB⟩

end Go.Proofs.Ytmmeiclclapmfaa
