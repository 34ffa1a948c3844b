/-
  The places of picks are all places, once each: the plain mathematics of SchedParts.
  Conditions: as each has them.
-/
import Derived.Test.YtmmeiclclapmfaaDSplit
namespace Go.Proofs.Ytmmeiclclapmfaa
open Go.RowKit

/-- The places of the first j CPUs, one row behind the other. -/
def catP (L : List Int) (j : Nat) : List Int := (List.range j).flatMap fun i : Nat => plc L (i : Int)
theorem catP_zero (L : List Int) : catP L 0 = [] := rfl
theorem catP_succ (L : List Int) (j : Nat) : catP L (j + 1) = catP L j ++ plc L (j : Int) := by simp [catP, List.range_succ]
theorem plcF_mem (c : Int) : ∀ (l : List Int) (o : Nat) (x : Int), x ∈ plcF c o l → ∃ i, ∃ h : i < l.length, x = ((o + i : Nat) : Int) ∧ l[i] = c
  | [], _, _, h => by simp [plcF] at h
  | y :: r, o, x, h => by
    simp only [plcF] at h
    by_cases e : y = c
    · rw [if_pos e] at h
      rcases List.mem_cons.1 h with h | h
      · exact ⟨0, by simp, by rw [h]; simp, by simpa using e⟩
      · obtain ⟨i, hi, h1, h2⟩ := plcF_mem c r (o + 1) x h
        exact ⟨i + 1, by simpa using hi, by rw [h1]; congr 1; omega, by simpa using h2⟩
    · rw [if_neg e] at h
      obtain ⟨i, hi, h1, h2⟩ := plcF_mem c r (o + 1) x h
      exact ⟨i + 1, by simpa using hi, by rw [h1]; congr 1; omega, by simpa using h2⟩
theorem plc_mem {L : List Int} {c x : Int} (h : x ∈ plc L c) : ∃ i, ∃ hi : i < L.length, x = (i : Int) ∧ L[i] = c := by
  obtain ⟨i, hi, h1, h2⟩ := plcF_mem c L 0 x h
  exact ⟨i, hi, by rw [h1]; simp, h2⟩
theorem catP_snoc (L : List Int) (x : Nat) : ∀ j, (catP (L ++ [(x : Int)]) j).Perm (if x < j then catP L j ++ [(L.length : Int)] else catP L j)
  | 0 => by simp [catP_zero]
  | j + 1 => by
    rw [catP_succ, catP_succ, plc_snoc]
    have ih := catP_snoc L x j
    by_cases h : x < j
    · rw [if_pos h] at ih
      rw [if_neg (show ¬ ((x : Int) = (j : Int)) by omega), if_pos (show x < j + 1 by omega), List.append_nil]
      refine (ih.append_right _).trans ?_
      rw [List.append_assoc, List.append_assoc]
      exact List.perm_append_comm.append_left _
    · rw [if_neg h] at ih
      by_cases e : x = j
      · rw [if_pos (show ((x : Int) = (j : Int)) by omega), if_pos (show x < j + 1 by omega), ← List.append_assoc]
        exact (ih.append_right _).append_right _
      · rw [if_neg (show ¬ ((x : Int) = (j : Int)) by omega), if_neg (show ¬ x < j + 1 by omega), List.append_nil]
        exact ih.append_right _
/-- The numbers from 0 on. -/
def uptoI (m : Nat) : List Int := (List.range m).map fun i : Nat => (i : Int)
theorem catP_perm (k : Nat) : ∀ (L : List Int), (∀ x ∈ L, 0 ≤ x ∧ x < (k : Int)) → (catP L k).Perm (uptoI L.length) := by
  intro L
  induction h : L.length generalizing L with
  | zero =>
    intro _
    obtain rfl : L = [] := List.eq_nil_of_length_eq_zero h
    have : ∀ j, catP [] j = [] := by
      intro j
      induction j with
      | zero => rfl
      | succ j ih => rw [catP_succ, ih]; rfl
    rw [this]; exact List.Perm.refl _
  | succ n ih =>
    intro hr
    have hne : L ≠ [] := by rintro rfl; simp at h
    obtain ⟨M, x, rfl⟩ : ∃ M x, L = M ++ [x] := ⟨L.dropLast, L.getLast hne, (List.dropLast_concat_getLast hne).symm⟩
    have hM : M.length = n := by simpa using h
    obtain ⟨hx0, hx1⟩ := hr x (by simp)
    obtain ⟨y, rfl⟩ := Int.eq_ofNat_of_zero_le hx0
    have := catP_snoc M y k
    rw [if_pos (by omega)] at this
    refine this.trans ?_
    have ih' := ih M hM fun z hz => hr z (by simp [hz])
    have e : uptoI (n + 1) = uptoI n ++ [(n : Int)] := by simp [uptoI, List.range_succ]
    rw [e, hM]
    exact ih'.append_right _
theorem uptoI_length (m : Nat) : (uptoI m).length = m := by simp [uptoI]
theorem uptoI_get (m i : Nat) (h : i < (uptoI m).length) : (uptoI m)[i] = (i : Int) := by simp [uptoI]
theorem uptoI_sorted (m : Nat) : (uptoI m).Pairwise (· ≤ ·) := by
  rw [uptoI, List.pairwise_map]
  exact List.pairwise_lt_range.imp fun h => by omega
theorem rise_catP {k : Nat} {L : List Int} (h : ∀ x ∈ L, 0 ≤ x ∧ x < (k : Int)) : rise (catP L k) = uptoI L.length :=
  List.Perm.eq_of_pairwise (fun _ _ _ _ h1 h2 => Int.le_antisymm h1 h2) (rise_sorted _) (uptoI_sorted _) ((rise_perm _).trans (catP_perm k L h))
theorem catP_length {k : Nat} {L : List Int} (h : ∀ x ∈ L, 0 ≤ x ∧ x < (k : Int)) : (catP L k).length = L.length := by rw [(catP_perm k L h).length_eq, uptoI_length]
theorem catP_mono (L : List Int) {i j : Nat} (h : i ≤ j) : (catP L i).length ≤ (catP L j).length := by
  induction j with
  | zero => obtain rfl : i = 0 := by omega
            exact Nat.le_refl _
  | succ j ih =>
    by_cases e : i = j + 1
    · rw [e]; exact Nat.le_refl _
    · have := ih (by omega)
      rw [catP_succ, List.length_append]; omega

end Go.Proofs.Ytmmeiclclapmfaa
