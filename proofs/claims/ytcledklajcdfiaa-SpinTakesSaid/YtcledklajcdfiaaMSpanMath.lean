/-
  Rows of truth values that stand together, by their first place and length; how many of them lie in a part.
  Conditions: none.
-/
import Derived.Test.YtcledklajcdfiaaMBase
namespace Go.Proofs.Ytcledklajcdfiaa

def oneRow (a n : Nat) : List (Nat × Nat) := if n = 0 then [] else [(a, n)]
theorem oneRow_zero (a : Nat) : oneRow a 0 = [] := rfl
theorem oneRow_pos {n : Nat} (a : Nat) (h : n ≠ 0) : oneRow a n = [(a, n)] := by simp [oneRow, h]
/-- The rows, where one of n began ahead: it begins at a. -/
def spansP (a n : Nat) : List Bool → List (Nat × Nat)
  | [] => oneRow a n
  | true :: t => spansP a (n + 1) t
  | false :: t => oneRow a n ++ spansP (a + n + 1) 0 t
/-- How many stand together at the beginning. -/
def lead : List Bool → Nat
  | true :: t => lead t + 1
  | _ => 0
theorem lead_le (l : List Bool) : lead l ≤ l.length := by
  induction l with
  | nil => simp [lead]
  | cons b t ih => cases b <;> simp [lead]; omega
theorem spansP_step (l : List Bool) (a n : Nat) : spansP a n l = oneRow a (n + lead l) ++ spansP (a + n + lead l + 1) 0 (l.drop (lead l + 1)) := by
  induction l generalizing n with
  | nil => simp [spansP, lead, oneRow_zero]
  | cons b t ih =>
    cases b with
    | true =>
      simp only [spansP, lead, List.drop_succ_cons]
      rw [ih (n + 1), show n + 1 + lead t = n + (lead t + 1) by omega, show a + (n + 1) + lead t + 1 = a + n + (lead t + 1) + 1 by omega]
    | false => simp [spansP, lead]
/-- The rows of a list. -/
def spansL (l : List Bool) : List (Nat × Nat) := spansP 0 0 l

/-- The places of a row that lie between x and y, and those of a list. -/
def ovl (x y : Nat) (s : Nat × Nat) : Nat := min (s.1 + s.2) y - max s.1 x
def cnt (x y a : Nat) : List Bool → Nat
  | [] => 0
  | b :: t => (if b = true ∧ x ≤ a ∧ a < y then 1 else 0) + cnt x y (a + 1) t
def ovlAll (x y : Nat) (l : List (Nat × Nat)) : Nat := (l.map (ovl x y)).sum
theorem ovlAll_snoc (x y : Nat) (l : List (Nat × Nat)) (s : Nat × Nat) : ovlAll x y (l ++ [s]) = ovlAll x y l + ovl x y s := by simp [ovlAll]
theorem ovlAll_append (x y : Nat) (l m : List (Nat × Nat)) : ovlAll x y (l ++ m) = ovlAll x y l + ovlAll x y m := by simp [ovlAll]
theorem ovl_spansP (x y : Nat) (hxy : x ≤ y) (l : List Bool) (a n : Nat) : ovlAll x y (spansP a n l) = ovl x y (a, n) + cnt x y (a + n) l := by
  induction l generalizing a n with
  | nil =>
    by_cases h : n = 0
    · subst h; simp [spansP, oneRow_zero, ovlAll, cnt, ovl]; omega
    · simp [spansP, oneRow_pos a h, ovlAll, cnt]
  | cons b t ih =>
    cases b with
    | true =>
      simp only [spansP, cnt]
      rw [ih a (n + 1), show a + (n + 1) = a + n + 1 by omega]
      simp only [ovl, true_and]
      split <;> omega
    | false =>
      simp only [spansP, cnt]
      rw [ovlAll_append, ih (a + n + 1) 0]
      have e : ovlAll x y (oneRow a n) = ovl x y (a, n) := by
        by_cases h : n = 0
        · subst h; simp [oneRow_zero, ovlAll, ovl]; omega
        · simp [ovlAll, oneRow_pos a h]
      rw [e]
      simp [ovl]
      omega
theorem ovl_spansL (x y : Nat) (hxy : x ≤ y) (l : List Bool) : ovlAll x y (spansL l) = cnt x y 0 l := by
  have := ovl_spansP x y hxy l 0 0
  simpa [spansL, ovl] using this
/-- Each row begins behind the ones ahead of it, and has one place at least. -/
theorem spansP_ge (l : List Bool) (a n : Nat) : ∀ s ∈ spansP a n l, a ≤ s.1 ∧ 1 ≤ s.2 ∧ s.1 + s.2 ≤ a + n + l.length := by
  induction l generalizing a n with
  | nil =>
    intro s hs
    by_cases h : n = 0
    · subst h; simp [spansP, oneRow_zero] at hs
    · simp [spansP, oneRow_pos a h] at hs; subst hs; simp; omega
  | cons b t ih =>
    intro s hs
    cases b with
    | true =>
      have := ih a (n + 1) s (by simpa [spansP] using hs)
      simp only [List.length_cons]
      omega
    | false =>
      simp only [spansP, List.mem_append] at hs
      rcases hs with hs | hs
      · by_cases h : n = 0
        · subst h; simp [oneRow_zero] at hs
        · simp [oneRow_pos a h] at hs; subst hs; simp; omega
      · have := ih (a + n + 1) 0 s hs
        simp only [List.length_cons]
        omega
theorem spansP_sorted (l : List Bool) (a n : Nat) : (spansP a n l).Pairwise (fun s t => s.1 + s.2 ≤ t.1) := by
  induction l generalizing a n with
  | nil =>
    by_cases h : n = 0
    · subst h; simp [spansP, oneRow_zero]
    · simp [spansP, oneRow_pos a h]
  | cons b t ih =>
    cases b with
    | true => simpa [spansP] using ih a (n + 1)
    | false =>
      simp only [spansP]
      by_cases h : n = 0
      · subst h; simpa [oneRow_zero] using ih (a + 0 + 1) 0
      · simp only [oneRow_pos a h, List.singleton_append, List.pairwise_cons]
        exact ⟨fun s hs => by have := spansP_ge t (a + n + 1) 0 s hs; omega, ih _ _⟩
/-- What lies behind y is not counted. -/
theorem ovlAll_behind (x y : Nat) (l : List (Nat × Nat)) (h : ∀ s ∈ l, y ≤ s.1) : ovlAll x y l = 0 := by
  induction l with
  | nil => rfl
  | cons s t ih =>
    have h1 := h s List.mem_cons_self
    have h2 := ih fun u hu => h u (List.mem_cons_of_mem _ hu)
    simp only [ovlAll, List.map_cons, List.sum_cons] at h2 ⊢
    rw [h2]
    simp only [ovl]
    omega
theorem ovl_stop (x y : Nat) (hxy : x ≤ y) (ls : List Bool) (pre : List (Nat × Nat)) (s : Nat × Nat) (suf : List (Nat × Nat)) (h : pre ++ s :: suf = spansL ls) (hs : y ≤ s.1) : ovlAll x y pre = cnt x y 0 ls := by
  rw [← ovl_spansL x y hxy, ← h, ovlAll_append, ovlAll_behind x y (s :: suf), Nat.add_zero]
  intro u hu
  rcases List.mem_cons.1 hu with rfl | hu
  · exact hs
  · have hp := spansP_sorted ls 0 0
    rw [show spansP 0 0 ls = pre ++ s :: suf from h.symm, List.pairwise_append] at hp
    have := (List.pairwise_cons.1 hp.2.1).1 u hu
    omega
/-- All of a part are live, or none. -/
theorem cnt_zero_iff (x y : Nat) (l : List Bool) (a : Nat) : cnt x y a l = 0 ↔ ∀ i (h : i < l.length), x ≤ a + i → a + i < y → l[i] = false := by
  induction l generalizing a with
  | nil => simp [cnt]
  | cons b t ih =>
    simp only [cnt, Nat.add_eq_zero_iff, ih (a + 1)]
    constructor
    · rintro ⟨h1, h2⟩ i hi hx hy
      cases i with
      | zero => cases b <;> simp_all
      | succ i => exact h2 i (by simpa using hi) (by omega) (by omega)
    · intro h
      refine ⟨?_, fun i hi hx hy => h (i + 1) (by simpa using hi) (by omega) (by omega)⟩
      have h0 := h 0 (by simp)
      by_cases hc : b = true ∧ x ≤ a ∧ a < y
      · have := h0 (by omega) (by omega); simp [hc.1] at this
      · simp [hc]
theorem cnt_le (x y : Nat) (l : List Bool) (a : Nat) : cnt x y a l ≤ min y (a + l.length) - max x a := by
  induction l generalizing a with
  | nil => simp [cnt]
  | cons b t ih =>
    have := ih (a + 1)
    simp only [cnt, List.length_cons]
    split <;> omega
theorem cnt_full_iff (x y : Nat) (l : List Bool) (a : Nat) (hx : a ≤ x) (hy : y ≤ a + l.length) (hxy : x ≤ y) : cnt x y a l = y - x ↔ ∀ i (h : i < l.length), x ≤ a + i → a + i < y → l[i] = true := by
  induction l generalizing a x with
  | nil => simp [cnt] at *; omega
  | cons b t ih =>
    simp only [List.length_cons] at hy
    by_cases hxa : x = a
    · subst hxa
      by_cases hya : y = x
      · subst hya
        constructor
        · intro _ i hi h1 h2; omega
        · intro _
          have := cnt_le y y (b :: t) y
          simp only [List.length_cons] at this
          omega
      · have e : cnt x y (x + 1) t = cnt (x + 1) y (x + 1) t := by
          clear ih
          suffices ∀ (t : List Bool) (c : Nat), x + 1 ≤ c → cnt x y c t = cnt (x + 1) y c t from this t (x + 1) (Nat.le_refl _)
          intro t
          induction t with
          | nil => intro c _; rfl
          | cons d t ih => intro c hc; simp only [cnt]; rw [ih (c + 1) (by omega)]; congr 1; simp [show x ≤ c by omega, hc]
        have hle := cnt_le (x + 1) y t (x + 1)
        have hi := ih (x + 1) (x + 1) (by omega) (by omega) (by omega)
        simp only [cnt, e]
        constructor
        · intro h i hi2 h1 h2
          have hb : b = true := by
            cases b with
            | true => rfl
            | false => simp at h; omega
          cases i with
          | zero => exact hb
          | succ i =>
            simp [hb, show x < y by omega] at h
            exact hi.1 (by omega) i (by simpa using hi2) (by omega) (by omega)
        · intro h
          have hb : b = true := h 0 (by simp) (by omega) (by omega)
          have := hi.2 fun i hi2 h1 h2 => h (i + 1) (by simpa using hi2) (by omega) (by omega)
          simp [hb, show x < y by omega]
          omega
    · have h1 : ¬ (b = true ∧ x ≤ a ∧ a < y) := by omega
      simp only [cnt, h1, if_false, Nat.zero_add]
      rw [ih x (a + 1) (by omega) (by omega) hxy]
      constructor
      · intro h i hi h1 h2
        cases i with
        | zero => omega
        | succ i => exact h i (by simpa using hi) (by omega) (by omega)
      · intro h i hi h1 h2
        exact h (i + 1) (by simpa using hi) (by omega) (by omega)

end Go.Proofs.Ytcledklajcdfiaa
