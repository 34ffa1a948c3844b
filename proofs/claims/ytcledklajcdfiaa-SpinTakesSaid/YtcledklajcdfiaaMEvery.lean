/-
  memory.every at a row of accesses, asked whether each is of a kind.
  Conditions: the slice reads as these accesses.
-/
import Derived.Test.YtcledklajcdfiaaMDouble
namespace Go.Proofs.Ytcledklajcdfiaa
open Go.RowKit Go.Shelf

/-- An access: its kind, its word, what it expects, and what it stores. -/
structure Acc where
  k : Int
  a : Int
  o : Int
  n : Int
def Acc.val (x : Acc) : Value := .agg #[.int .i64 x.k, .int .i64 x.a, .int .u64 x.o, .int .u64 x.n]
/-- Is it of a kind? -/
def kindB (k : Int) : Bool := decide (1 ≤ k) && decide (k ≤ 3)
theorem kindB_iff {k : Int} : kindB k = true ↔ 1 ≤ k ∧ k ≤ 3 := by simp [kindB]
/-- A slice that reads as these accesses. -/
def AccsAt (W : World) (v : Value) (l : List Acc) : Prop := ∃ p cap, v = .slice p l.length cap ∧
  (l ≠ [] → ∃ b off, p = some ⟨b, off, none⟩ ∧ ∀ i (h : i < l.length), W.cell? ⟨b, off + i * 4, none⟩ = some (.int .i64 l[i].k) ∧ W.cell? ⟨b, off + i * 4 + 1, none⟩ = some (.int .i64 l[i].a) ∧ W.cell? ⟨b, off + i * 4 + 2, none⟩ = some (.int .u64 l[i].o) ∧ W.cell? ⟨b, off + i * 4 + 3, none⟩ = some (.int .u64 l[i].n))
theorem accs_below {W W' : World} {v : Value} {l : List Acc} (h : AccsAt W v l) (hb : Below W.heap.size W W') : AccsAt W' v l := by
  obtain ⟨p, cap, rfl, hc⟩ := h
  refine ⟨p, cap, rfl, fun hne => ?_⟩
  obtain ⟨b, off, rfl, hcs⟩ := hc hne
  exact ⟨b, off, rfl, fun i hi => ⟨below_cell hb (hcs i hi).1, below_cell hb (hcs i hi).2.1, below_cell hb (hcs i hi).2.2.1, below_cell hb (hcs i hi).2.2.2⟩⟩

set_option maxRecDepth 100000 in
theorem is_c (k a o n : Int) (W : World) : Calls Try.prog 62 #[.agg #[.int .i64 k, .int .i64 a, .int .u64 o, .int .u64 n]] W fun e w' => e = .returned (.bool (kindB k)) ∧ Below W.heap.size W w' := by
  by_cases h1 : 1 ≤ k
  · by_cases h2 : k ≤ 3
    · have HR := Lib.hid (show kindB k = true by simp [kindB, h1, h2])
      go_enter Try.func62, Try.ntmps62
      go_wp2
      go_ret
      exact ⟨ret_bool HR.out.symm, (Below.refl _ _).alloc (Nat.le_refl _) _⟩
    · have HR := Lib.hid (show kindB k = false by simp [kindB, h2])
      go_enter Try.func62, Try.ntmps62
      go_wp2
      go_ret
      exact ⟨ret_bool HR.out.symm, (Below.refl _ _).alloc (Nat.le_refl _) _⟩
  · have HR := Lib.hid (show kindB k = false by simp [kindB, h1])
    go_enter Try.func62, Try.ntmps62
    go_wp2
    go_ret
    exact ⟨ret_bool HR.out.symm, (Below.refl _ _).alloc (Nat.le_refl _) _⟩

set_option maxRecDepth 100000 in
theorem runLit_c (i : Int) (k a o n : Int) (W : World) : Calls Try.prog 61 #[.int .i64 i, .agg #[.int .i64 k, .int .i64 a, .int .u64 o, .int .u64 n]] W fun e w' => e = .returned (.bool (kindB k)) ∧ Below W.heap.size W w' := by
  go_enter Try.func61, Try.ntmps61
  go_wp2_with fail
  refine (is_c k a o n _).mono ?_
  rintro e w1 ⟨rfl, hb⟩
  go_wp2
  go_ret
  exact ⟨rfl, below_then ((Below.refl _ _).alloc (Nat.le_refl _) _) (by simp) hb⟩

/-- The first i accesses are of a kind. -/
def KindTo (l : List Acc) (i : Nat) : Prop := (l.take i).all (fun x => kindB x.k) = true
def kindAll (l : List Acc) : Bool := l.all fun x => kindB x.k
theorem kindTo_step {l : List Acc} {i : Nat} (h : KindTo l i) (hi : i < l.length) : (kindB l[i].k = true → KindTo l (i + 1)) ∧ (kindB l[i].k = false → kindAll l = false) := by
  refine ⟨fun e => ?_, fun e => ?_⟩
  · unfold KindTo at h ⊢
    rw [List.take_succ_eq_append_getElem hi, List.all_append, h]
    simp [e]
  · unfold kindAll
    rw [List.all_eq_false]
    exact ⟨l[i], List.getElem_mem hi, by simp [e]⟩
theorem kindTo_end {l : List Acc} (h : KindTo l l.length) : kindAll l = true := by
  unfold KindTo at h
  rwa [List.take_length] at h

set_option maxRecDepth 100000 in
set_option maxHeartbeats 1000000 in
theorem everyA_c (v : Value) (l : List Acc) (W : World) (hv : AccsAt W v l) (hmax : l.length ≤ 4611686018427387904) :
    Calls Try.prog 60 #[v, .func (.func 61) #[] #[]] W
      fun e w' => e = .returned (.bool (kindAll l)) ∧ Below W.heap.size W w' := by
  obtain ⟨p, cap, rfl, hc⟩ := hv
  go_enter Try.func60, Try.ntmps60
  go_wp2
  go_loopw [9] (fun iv wr => ∃ i : Nat, i ≤ l.length ∧ iv = .int .i64 i ∧ KindTo l i ∧ Below W.heap.size W wr) (fun iv _ => l.length - (intOf iv).toNat)
  case atStart => exact ⟨0, Nat.zero_le _, rfl, rfl, Below.refl _ _⟩
  case round =>
    obtain ⟨i, hi, rfl, hm, hB⟩ := hrel
    by_cases hlt : i < l.length
    · have hstep := kindTo_step hm hlt
      obtain ⟨b, off, rfl, hcs⟩ := hc (by intro e; rw [e] at hlt; cases hlt)
      obtain ⟨h0, h1, h2, h3⟩ := hcs i hlt
      obtain ⟨⟨k, a, o, n⟩, hx⟩ : ∃ x, x = l[i] := ⟨_, rfl⟩
      rw [← hx] at h0 h1 h2 h3 hstep
      simp only at h0 h1 h2 h3 hstep
      have h0' := below_cell hB h0
      have h1' := below_cell hB h1
      have h2' := below_cell hB h2
      have h3' := below_cell hB h3
      have HST := Lib.hid hstep
      clear hstep hx hm h0 h1 h2 h3 hcs
      go_wp2_with fail
      refine (runLit_c i k a o n _).mono ?_
      rintro e w1 ⟨rfl, hb1⟩
      have hB1 := below_then (hB.alloc hB.size _) (by have := hB.size; simp; omega) hb1
      clear hb1
      rcases Bool.eq_false_or_eq_true (kindB k) with hb | hb
      · rw [hb]
        go_wp2
        go_roundw
        case rel => exact ⟨i + 1, by omega, by go_num, HST.out.1 hb, hB1⟩
        case measure => simp [intOf]; omega
      · rw [hb]
        go_wp2
        go_ret
        exact ⟨ret_bool (HST.out.2 hb).symm, hB1⟩
    · obtain rfl : i = l.length := by omega
      go_wp2
      go_ret
      exact ⟨ret_bool (kindTo_end hm).symm, hB⟩

end Go.Proofs.Ytcledklajcdfiaa
