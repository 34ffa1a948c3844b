/-
  Package reader: which readers may be, place by place; and that a step leaves readers that may be.
  Conditions: none.
-/
import Derived.Test.YtjfphhemhaphbabYRunL
namespace Go.Proofs.Ytjfphhemhaphbab

def nN (s : RdS) (i : Nat) : Int := s.ns.getD i 0
def oO (s : RdS) (i : Nat) : Int := s.os.getD i 0
structure Good (s : RdS) : Prop where
  l1 : 1 ≤ s.ns.length
  l8 : s.ns.length ≤ 8
  lo : s.os.length = s.ns.length
  n0 : 0 ≤ s.now
  n1 : s.now ≤ 2147483647
  each : ∀ i, i < s.ns.length → (nN s i = 0 ∧ oO s i = 0) ∨ (1 ≤ nN s i ∧ nN s i ≤ 8 ∧ 1 ≤ oO s i ∧ oO s i ≤ s.now)
  apart : ∀ i j, i < j → j < s.ns.length → oO s i ≠ 0 → oO s i ≠ oO s j

theorem getD_lt {l : List Int} {i : Nat} (h : i < l.length) : l.getD i 0 = l[i] := by rw [List.getD_eq_getElem?_getD, List.getElem?_eq_getElem h]; rfl
theorem getD_set (l : List Int) (k : Nat) (x : Int) (i : Nat) : (l.set k x).getD i 0 = if i = k ∧ k < l.length then x else l.getD i 0 := by
  rw [List.getD_eq_getElem?_getD, List.getD_eq_getElem?_getD, List.getElem?_set]
  by_cases h : k = i
  · subst h
    by_cases h2 : k < l.length
    · simp [h2]
    · simp [h2]
  · rw [if_neg h, if_neg (fun e => h e.1.symm)]
theorem zip_at (s : RdS) (hl : s.os.length = s.ns.length) (i : Nat) (h : i < (s.ns.zip s.os).length) : (s.ns.zip s.os)[i] = (nN s i, oO s i) := by
  have h1 : i < s.ns.length := by simp at h; omega
  rw [List.getElem_zip]
  unfold nN oO
  rw [getD_lt h1, getD_lt (by omega)]
theorem secB_iff (a p : Int) : secB a p = true ↔ ¬ (a = 0 ∧ p = 0) := by unfold secB; rw [Bool.not_eq_true', decide_eq_false_iff_not]
theorem okS_iff (now : Int) (l : List (Int × Int)) : okS now (secs l) = true ↔ (∀ x ∈ l, x = (0, 0) ∨ (1 ≤ x.1 ∧ x.1 ≤ 8 ∧ 1 ≤ x.2 ∧ x.2 ≤ now)) ∧ ∀ i j (hi : i < l.length) (hj : j < l.length), i < j → l[i] ≠ (0, 0) → l[j] ≠ (0, 0) → l[i].2 ≠ l[j].2 := by
  unfold okS secs
  rw [Bool.and_eq_true, List.all_filter, List.all_eq_true, decide_eq_true_eq, List.Nodup, List.pairwise_map, List.pairwise_filter, List.pairwise_iff_getElem]
  have e : ∀ x : Int × Int, x = (0, 0) ↔ x.1 = 0 ∧ x.2 = 0 := fun ⟨a, b⟩ => by simp
  constructor
  · rintro ⟨h1, h2⟩
    refine ⟨fun x hx => ?_, fun i j hi hj hij hx hy => h2 i j hi hj hij ((secB_iff _ _).2 (fun h => hx ((e _).2 h))) ((secB_iff _ _).2 (fun h => hy ((e _).2 h)))⟩
    have := h1 x hx
    by_cases hz : x = (0, 0)
    · exact .inl hz
    · rw [show secB x.1 x.2 = true from (secB_iff _ _).2 (fun h => hz ((e _).2 h))] at this
      simp only [okOne, Bool.not_true, Bool.false_or, Bool.and_eq_true, decide_eq_true_eq] at this
      exact .inr (by omega)
  · rintro ⟨h1, h2⟩
    refine ⟨fun x hx => ?_, fun i j hi hj hij hx hy => h2 i j hi hj hij (fun h => (secB_iff _ _).1 hx ((e _).1 h)) (fun h => (secB_iff _ _).1 hy ((e _).1 h))⟩
    rcases h1 x hx with rfl | h
    · simp [secB]
    · simp only [okOne, Bool.or_eq_true, Bool.and_eq_true, decide_eq_true_eq]
      exact .inr (by omega)
theorem good_iff (s : RdS) : mayB s.now s.ns s.os = true ↔ Good s := by
  unfold mayB mayCpus
  simp only [Bool.and_eq_true, decide_eq_true_eq]
  constructor
  · rintro ⟨h1, h2, h3, h4, h5⟩
    obtain ⟨h6, h7⟩ := (okS_iff _ _).1 h5
    have hz : (s.ns.zip s.os).length = s.ns.length := by simp; omega
    refine ⟨by omega, by omega, h2, h3, h4, fun i hi => ?_, fun i j hij hj h0 he => ?_⟩
    · have := h6 (s.ns.zip s.os)[i] (List.getElem_mem _)
      rw [zip_at s h2] at this
      simpa using this
    · have hj' := h6 (s.ns.zip s.os)[j] (List.getElem_mem _)
      have := h7 i j (by omega) (by omega) hij
      rw [zip_at s h2, zip_at s h2] at this
      refine this (fun e => h0 (congrArg Prod.snd e)) (fun e => ?_) he
      have := congrArg Prod.snd e
      simp only at this
      exact h0 (he.trans this)
  · intro g
    have hz : (s.ns.zip s.os).length = s.ns.length := by have := g.lo; simp; omega
    refine ⟨⟨by have := g.l1; omega, by have := g.l8; omega⟩, g.lo, g.n0, g.n1, (okS_iff _ _).2 ⟨fun x hx => ?_, fun i j hi hj hij hx hy => ?_⟩⟩
    · obtain ⟨i, hi, rfl⟩ := List.getElem_of_mem hx
      rw [zip_at s g.lo]
      simpa using g.each i (by omega)
    · rw [zip_at s g.lo] at hx hy ⊢
      rw [zip_at s g.lo]
      have h1 := g.each i (by omega)
      have : oO s i ≠ 0 := fun e => by
        rcases h1 with ⟨ha, hb⟩ | h
        · exact hx (by rw [ha, hb])
        · omega
      exact g.apart i j hij (by omega) this
theorem Good.range {s : RdS} (g : Good s) : ∀ x ∈ s.ns, 0 ≤ x ∧ x ≤ 8 := fun x hx => by
  obtain ⟨i, hi, rfl⟩ := List.getElem_of_mem hx
  have := g.each i hi
  unfold nN at this
  rw [getD_lt hi] at this
  omega
theorem Good.rangeO {s : RdS} (g : Good s) : ∀ x ∈ s.os, I64 x := fun x hx => by
  obtain ⟨i, hi, rfl⟩ := List.getElem_of_mem hx
  have := g.each i (by have := g.lo; omega)
  unfold oO at this
  rw [getD_lt hi] at this
  have := g.n1
  unfold I64
  omega
theorem has_iff (k : Nat) (c : Int) : hasB k c = true ↔ ∃ i : Nat, c = (i : Int) ∧ i < k := by
  unfold hasB
  simp only [Bool.and_eq_true, decide_eq_true_eq]
  exact ⟨fun h => ⟨c.toNat, by omega, by omega⟩, fun ⟨i, h1, h2⟩ => by omega⟩
/-- What a step without an error is of. -/
theorem stepE_zero {s : RdS} {c : Int} {en : Bool} (h : stepE s c en = 0) : ∃ i : Nat, c = (i : Int) ∧ i < s.ns.length ∧ s.now ≠ 2147483647 ∧ (en = true → nN s i ≠ 8) ∧ (en = false → nN s i ≠ 0) := by
  unfold stepE at h
  split at h
  · cases h
  rename_i h1
  split at h
  · cases h
  rename_i h2
  split at h
  · cases h
  rename_i h3
  obtain ⟨i, rfl, hi⟩ := (has_iff _ _).1 (by simpa using h1)
  rw [Int.toNat_natCast] at h2 h3
  exact ⟨i, rfl, hi, fun e => h2 (.inl e), fun e e2 => h2 (.inr ⟨e, e2⟩), fun e e2 => h3 ⟨e, e2⟩⟩
theorem stepS_now (s : RdS) (c : Int) (en : Bool) : (stepS s c en).now = s.now + 1 := by unfold stepS; split <;> rfl
theorem stepS_len (s : RdS) (c : Int) (en : Bool) : (stepS s c en).ns.length = s.ns.length ∧ (stepS s c en).os.length = s.os.length := by
  unfold stepS
  split <;> simp only [List.length_set] <;> split <;> simp
theorem stepS_n (s : RdS) (i : Nat) (en : Bool) (hi : i < s.ns.length) (j : Nat) : nN (stepS s i en) j = if j = i then (if en = true then nN s i + 1 else nN s i - 1) else nN s j := by
  unfold stepS nN
  cases en
  · simp only [Bool.false_eq_true, if_false, Int.toNat_natCast]
    rw [getD_set]
    by_cases h : j = i
    · rw [if_pos ⟨h, hi⟩, if_pos h]
    · rw [if_neg (fun e => h e.1), if_neg h]
  · simp only [if_true, Int.toNat_natCast]
    rw [getD_set]
    by_cases h : j = i
    · rw [if_pos ⟨h, hi⟩, if_pos h]
    · rw [if_neg (fun e => h e.1), if_neg h]
theorem stepS_o (s : RdS) (i : Nat) (en : Bool) (hi : i < s.os.length) (j : Nat) : oO (stepS s i en) j = if j = i then (if en = true then (if nN s i = 0 then s.now + 1 else oO s i) else (if nN s i = 1 then 0 else oO s i)) else oO s j := by
  unfold stepS oO nN
  cases en
  · simp only [Bool.false_eq_true, if_false, Int.toNat_natCast]
    by_cases h1 : s.ns.getD i 0 = 1
    · rw [if_pos h1, if_pos h1, getD_set]
      by_cases h : j = i
      · rw [if_pos ⟨h, hi⟩, if_pos h]
      · rw [if_neg (fun e => h e.1), if_neg h]
    · rw [if_neg h1, if_neg h1]
      by_cases h : j = i
      · rw [if_pos h, h]
      · rw [if_neg h]
  · simp only [if_true, Int.toNat_natCast]
    by_cases h1 : s.ns.getD i 0 = 0
    · rw [if_pos h1, if_pos h1, getD_set]
      by_cases h : j = i
      · rw [if_pos ⟨h, hi⟩, if_pos h]
      · rw [if_neg (fun e => h e.1), if_neg h]
    · rw [if_neg h1, if_neg h1]
      by_cases h : j = i
      · rw [if_pos h, h]
      · rw [if_neg h]
theorem Good.step {s : RdS} {c : Int} {en : Bool} (g : Good s) (h : stepE s c en = 0) : Good (stepS s c en) := by
  obtain ⟨i, rfl, hi, hnow, h8, h0⟩ := stepE_zero h
  have hio : i < s.os.length := by have := g.lo; omega
  have hl := stepS_len s i en
  have hi1 := g.each i hi
  have hn1 := g.n1
  have hn0 := g.n0
  refine ⟨by rw [hl.1]; exact g.l1, by rw [hl.1]; exact g.l8, by rw [hl.1, hl.2]; exact g.lo, by rw [stepS_now]; omega, by rw [stepS_now]; omega, fun j hj => ?_, fun j k hjk hk => ?_⟩
  · rw [hl.1] at hj
    have hj1 := g.each j hj
    rw [stepS_n s i en hi, stepS_o s i en hio, stepS_now]
    by_cases e : j = i
    · subst e
      rw [if_pos rfl, if_pos rfl]
      cases en
      · have := h0 rfl
        simp only [Bool.false_eq_true, if_false]
        split <;> omega
      · have := h8 rfl
        simp only [if_true]
        split <;> omega
    · rw [if_neg e, if_neg e]
      omega
  · rw [hl.1] at hk
    rw [stepS_o s i en hio, stepS_o s i en hio]
    have hj1 := g.each j (by omega)
    have hk1 := g.each k hk
    have ha := g.apart j k hjk hk
    by_cases e : j = i
    · subst e
      rw [if_pos (rfl : j = j), if_neg (show ¬ k = j by omega)]
      cases en
      · simp only [Bool.false_eq_true, if_false]
        split
        · exact fun h => absurd rfl h
        · exact ha
      · simp only [if_true]
        split
        · intro _; omega
        · exact ha
    · rw [if_neg e]
      by_cases e2 : k = i
      · subst e2
        rw [if_pos (rfl : k = k)]
        cases en
        · simp only [Bool.false_eq_true, if_false]
          split
          · exact fun h => h
          · exact ha
        · simp only [if_true]
          split
          · intro _; omega
          · exact ha
      · rw [if_neg e2]
        exact ha
theorem Good.run {s : RdS} (g : Good s) : ∀ (l : List (Int × Bool)), okTo s l → Good (runS s l)
  | l, h => by
    induction l generalizing s with
    | nil => exact g
    | cons x l ih =>
      simp only [okTo] at h
      exact ih (g.step h.1) h.2

end Go.Proofs.Ytjfphhemhaphbab
