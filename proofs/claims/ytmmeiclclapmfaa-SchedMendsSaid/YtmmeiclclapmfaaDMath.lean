/-
  Waits behind picks, how fair picks are, and their rounds: the plain mathematics.
  Conditions: as each has them.
-/
namespace Go.Proofs.Ytmmeiclclapmfaa

/-! waits -/
def waitR : List Int → Int → Nat
  | [], _ => 0
  | x :: r, c => if x = c then 0 else waitR r c + 1
/-- How many picks stand behind the last one that is c. -/
def waitL (l : List Int) (c : Int) : Nat := waitR l.reverse c
theorem waitR_le : ∀ (l : List Int) (c : Int), waitR l c ≤ l.length
  | [], _ => Nat.le_refl _
  | x :: r, c => by
    have := waitR_le r c
    simp only [waitR, List.length_cons]
    split <;> omega
theorem waitR_lt : ∀ (l : List Int) (c : Int), waitR l c < l.length ↔ c ∈ l
  | [], _ => by simp [waitR]
  | x :: r, c => by
    have := waitR_lt r c
    simp only [waitR, List.length_cons, List.mem_cons]
    by_cases h : x = c
    · simp [h]
    · rw [if_neg h]
      constructor
      · intro h1; exact .inr (this.1 (by omega))
      · rintro (h1 | h1)
        · exact absurd h1.symm h
        · have := this.2 h1; omega
theorem waitR_append : ∀ (a b : List Int) (c : Int), waitR (a ++ b) c = if c ∈ a then waitR a c else a.length + waitR b c
  | [], b, c => by simp
  | x :: r, b, c => by
    have := waitR_append r b c
    simp only [List.cons_append, waitR, List.mem_cons, List.length_cons]
    by_cases h : x = c
    · simp [h]
    · rw [if_neg h, this]
      have h' : ¬ c = x := fun e => h e.symm
      by_cases hc : c ∈ r <;> simp [hc, h, h'] <;> omega
theorem waitL_nil (c : Int) : waitL [] c = 0 := rfl
theorem waitL_snoc (l : List Int) (x c : Int) : waitL (l ++ [x]) c = if x = c then 0 else waitL l c + 1 := by simp [waitL, waitR]
theorem waitL_le (l : List Int) (c : Int) : waitL l c ≤ l.length := by have := waitR_le l.reverse c; simpa [waitL] using this
theorem waitL_lt (l : List Int) (c : Int) : waitL l c < l.length ↔ c ∈ l := by have := waitR_lt l.reverse c; simpa [waitL] using this
theorem waitL_append (a b : List Int) (c : Int) : waitL (a ++ b) c = if c ∈ b then waitL b c else b.length + waitL a c := by have := waitR_append b.reverse a.reverse c; simpa [waitL] using this

/-- The waits of so many CPUs. -/
def wv (c : Nat) (l : List Int) : List Int := (List.range c).map fun i : Nat => (waitL l (i : Int) : Int)
theorem wv_length (c : Nat) (l : List Int) : (wv c l).length = c := by simp [wv]
theorem wv_get (c : Nat) (l : List Int) (i : Nat) (h : i < (wv c l).length) : (wv c l)[i] = (waitL l (i : Int) : Int) := by simp [wv]
theorem wv_nil (c : Nat) : wv c [] = List.replicate c 0 := by
  apply List.ext_getElem <;> simp [wv, waitL_nil]
theorem wv_snoc (c : Nat) (l : List Int) (p : Nat) : wv c (l ++ [(p : Int)]) = ((wv c l).map (· + 1)).set p 0 := by
  apply List.ext_getElem
  · simp [wv]
  · intro i h1 h2
    rw [wv_get, waitL_snoc, List.getElem_set]
    by_cases h : p = i
    · simp [h]
    · have : ¬ (p : Int) = (i : Int) := by omega
      simp [h, this, wv]

/-! what can be -/
/-- The waits, the longest one first, are at most k less 1, k less 2, and so on: said by counting. -/
def canB (k : Int) (ws : List Int) : Bool := (List.range ws.length).all fun i => decide (ws.countP (fun w => decide (k - 1 - (i : Int) < w)) ≤ i)
theorem canB_iff {k : Int} {ws : List Int} : canB k ws = true ↔ ∀ i, i < ws.length → ws.countP (fun w => decide (k - 1 - (i : Int) < w)) ≤ i := by simp [canB]
theorem desc_count : ∀ (d : List Int) (t : Int) (i : Nat) (h : i < d.length), d.Pairwise (· ≥ ·) → (d[i] ≤ t ↔ d.countP (fun w => decide (t < w)) ≤ i)
  | x :: r, t, i, h, hp => by
    rw [List.pairwise_cons] at hp
    by_cases hx : t < x
    · cases i with
      | zero => simp [hx]
      | succ j =>
        have := desc_count r t j (by simpa using h) hp.2
        simp [hx, this]
    · have h0 : r.countP (fun w => decide (t < w)) = 0 := by
        rw [List.countP_eq_zero]
        intro a ha
        have := hp.1 a ha
        simp; omega
      simp only [List.countP_cons, h0, hx, decide_false]
      constructor
      · intro _; simp
      · intro _
        cases i with
        | zero => simp; omega
        | succ j =>
          have hj : j < r.length := by simpa using h
          have := hp.1 r[j] (List.getElem_mem hj)
          simp only [List.getElem_cons_succ]
          omega
/-- As rows that fall say it. -/
theorem canB_desc {k : Int} {ws d : List Int} (hp : d.Perm ws) (hd : d.Pairwise (· ≥ ·)) : canB k ws = true ↔ ∀ i (h : i < d.length), d[i] ≤ k - 1 - (i : Int) := by
  rw [canB_iff, ← hp.length_eq]
  constructor
  · intro H i h
    rw [desc_count d _ i h hd, hp.countP_eq]
    exact H i h
  · intro H i h
    rw [← hp.countP_eq, ← desc_count d _ i h hd]
    exact H i h
/-- As rows that rise say it. -/
theorem canB_asc {k : Int} {ws s : List Int} (hp : s.Perm ws) (hs : s.Pairwise (· ≤ ·)) : canB k ws = true ↔ ∀ i (h : i < s.length), s[s.length - 1 - i] ≤ k - 1 - (i : Int) := by
  have hd : s.reverse.Pairwise (· ≥ ·) := by rw [List.pairwise_reverse]; exact hs
  rw [canB_desc ((List.reverse_perm s).trans hp) hd]
  constructor
  · intro H i h
    have := H i (by simpa using h)
    simpa using this
  · intro H i h
    have := H i (by simpa using h)
    simpa using this

/-! who waits longest -/
/-- The place of the greatest of the first n, of several the first. -/
def amax (l : List Int) : Nat → Nat
  | 0 => 0
  | n + 1 => if l.getD (amax l n) 0 < l.getD n 0 then n else amax l n
theorem amax_lt (l : List Int) : ∀ n, 0 < n → amax l n < n
  | n + 1, _ => by
    simp only [amax]
    split
    · omega
    · cases n with
      | zero => simp [amax]
      | succ m => have := amax_lt l (m + 1) (by omega); omega
theorem amax_ge (l : List Int) : ∀ n i, i < n → l.getD i 0 ≤ l.getD (amax l n) 0
  | n + 1, i, h => by
    simp only [amax]
    by_cases hi : i = n
    · subst hi; split <;> omega
    · have := amax_ge l n i (by omega)
      split <;> omega

theorem can_longest {k : Int} {ws : List Int} (hk : (ws.length : Int) ≤ k) (h : canB k ws = true) (hpos : 0 < ws.length) : canB k ((ws.map (· + 1)).set (amax ws ws.length) 0) = true := by
  rw [canB_iff] at h ⊢
  have hp := amax_lt ws ws.length hpos
  generalize hq : amax ws ws.length = p at *
  intro i hi
  have hi : i < ws.length := by simpa using hi
  rw [List.countP_set (by simpa using hp)]
  have h0 : ¬ (k - 1 - (i : Int) < 0) := by omega
  have hcm : (ws.map (· + 1)).countP (fun w => decide (k - 1 - (i : Int) < w)) = ws.countP (fun w => decide (k - 1 - ((i + 1 : Nat) : Int) < w)) := by
    rw [List.countP_map]
    congr 1
    funext w
    simp only [Function.comp]
    rw [decide_eq_decide]
    omega
  rw [hcm]
  simp only [List.getElem_map, h0, decide_false]
  by_cases hg : k - 1 - (i : Int) < ws[p] + 1
  · simp only [hg, decide_true, if_true]
    by_cases hi1 : i + 1 < ws.length
    · have := h (i + 1) hi1
      simp only [Bool.false_eq_true, if_false]; omega
    · have := List.countP_le_length (p := fun w => decide (k - 1 - ((i + 1 : Nat) : Int) < w)) (l := ws)
      simp only [Bool.false_eq_true, if_false]; omega
  · have hz : ws.countP (fun w => decide (k - 1 - ((i + 1 : Nat) : Int) < w)) = 0 := by
      rw [List.countP_eq_zero]
      intro a ha
      obtain ⟨j, hj, rfl⟩ := List.getElem_of_mem ha
      have := amax_ge ws ws.length j hj
      rw [hq] at this
      simp [hj, hp] at this
      simp; omega
    simp only [hz]
    simp
theorem can_first {k : Int} (c : Nat) (hk : (c : Int) ≤ k) : canB k (List.replicate c 0) = true := by
  rw [canB_iff]
  intro i hi
  have hi : i < c := by simpa using hi
  have h0 : ¬ (k - 1 - (i : Int) < 0) := by omega
  simp [List.countP_replicate, h0]
theorem can_most {k : Int} {ws : List Int} (h : canB k ws = true) (i : Nat) (hi : i < ws.length) : ws[i] ≤ k - 1 := by
  have := canB_iff.1 h 0 (by omega)
  have h0 := List.countP_eq_zero.1 (Nat.le_zero.1 this) _ (List.getElem_mem hi)
  simp at h0; omega

/-! picks by wishes -/
def pickOf (c : Nat) (k : Int) (out : List Int) (w : Int) : Int := if canB k (wv c (out ++ [w % (c : Int)])) = true then w % (c : Int) else (amax (wv c out) c : Int)
def mendL (c : Nat) (k : Int) : List Int → List Int → List Int
  | out, [] => out
  | out, w :: r => mendL c k (out ++ [pickOf c k out w]) r
theorem mendL_length (c : Nat) (k : Int) : ∀ (ws out : List Int), (mendL c k out ws).length = out.length + ws.length
  | [], out => by simp [mendL]
  | w :: r, out => by rw [mendL, mendL_length c k r]; simp; omega
theorem mendL_snoc (c : Nat) (k : Int) : ∀ (ws out : List Int) (x : Int), mendL c k out (ws ++ [x]) = mendL c k out ws ++ [pickOf c k (mendL c k out ws) x]
  | [], out, x => by simp [mendL]
  | w :: r, out, x => by simp only [List.cons_append, mendL]; exact mendL_snoc c k r _ x
theorem pick_range {c : Nat} (hc : 0 < c) (k : Int) (out : List Int) (w : Int) : 0 ≤ pickOf c k out w ∧ pickOf c k out w < (c : Int) := by
  unfold pickOf
  split
  · exact ⟨Int.emod_nonneg _ (by omega), Int.emod_lt_of_pos _ (by omega)⟩
  · have := amax_lt (wv c out) c hc; omega
/-- These can be gone on with, and so could all that stand ahead. -/
def Goes (c : Nat) (k : Int) (l : List Int) : Prop := ∀ n, canB k (wv c (l.take n)) = true
theorem goes_nil {c : Nat} {k : Int} (h : (c : Int) ≤ k) : Goes c k [] := fun n => by rw [List.take_nil, wv_nil]; exact can_first c h
theorem Goes.whole {c : Nat} {k : Int} {l : List Int} (h : Goes c k l) : canB k (wv c l) = true := by have := h l.length; rwa [List.take_length] at this
theorem Goes.snoc {c : Nat} {k : Int} {l : List Int} (h : Goes c k l) {x : Int} (hx : canB k (wv c (l ++ [x])) = true) : Goes c k (l ++ [x]) := fun n => by
  by_cases hn : n ≤ l.length
  · rw [List.take_append_of_le_length hn]; exact h n
  · rw [List.take_of_length_le (by simp; omega)]; exact hx
theorem pick_goes {c : Nat} {k : Int} (hc : 0 < c) (hk : (c : Int) ≤ k) {out : List Int} (h : Goes c k out) (w : Int) : Goes c k (out ++ [pickOf c k out w]) := by
  refine h.snoc ?_
  unfold pickOf
  split
  · assumption
  · rw [wv_snoc]
    have := can_longest (ws := wv c out) (k := k) (by rw [wv_length]; exact hk) h.whole (by rw [wv_length]; exact hc)
    rwa [wv_length] at this
theorem mend_goes {c : Nat} {k : Int} (hc : 0 < c) (hk : (c : Int) ≤ k) : ∀ (ws out : List Int), Goes c k out → Goes c k (mendL c k out ws)
  | [], _, h => h
  | w :: r, _, h => mend_goes hc hk r _ (pick_goes hc hk h w)
theorem mend_range {c : Nat} (hc : 0 < c) (k : Int) : ∀ (ws out : List Int), (∀ x ∈ out, 0 ≤ x ∧ x < (c : Int)) → ∀ x ∈ mendL c k out ws, 0 ≤ x ∧ x < (c : Int)
  | [], _, h => h
  | w :: r, out, h => mend_range hc k r _ fun x hx => by
    rcases List.mem_append.1 hx with h1 | h1
    · exact h x h1
    · rw [List.mem_singleton.1 h1]; exact pick_range hc k out w
/-- What goes on is kept. -/
theorem mend_keeps {c : Nat} {k : Int} : ∀ (l out : List Int), Goes c k (out ++ l) → (∀ x ∈ l, 0 ≤ x ∧ x < (c : Int)) → mendL c k out l = out ++ l
  | [], out, _, _ => by simp [mendL]
  | x :: r, out, h, hr => by
    have hx := hr x List.mem_cons_self
    have he : x % (c : Int) = x := Int.emod_eq_of_lt hx.1 hx.2
    have hc : canB k (wv c (out ++ [x])) = true := by
      have := h (out.length + 1)
      rw [List.take_append, List.take_of_length_le (by omega)] at this
      simpa using this
    have hp : pickOf c k out x = x := by unfold pickOf; rw [he, if_pos hc]
    rw [mendL, hp, mend_keeps r (out ++ [x]) (by simpa using h) fun y hy => hr y (List.mem_cons_of_mem _ hy)]
    simp

end Go.Proofs.Ytmmeiclclapmfaa
