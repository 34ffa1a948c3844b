/-
  How fair picks are, and their rounds: the plain mathematics.
  Conditions: as each has them.
-/
import Derived.Test.YtmmeiclclapmfaaDMath
namespace Go.Proofs.Ytmmeiclclapmfaa

/-- The longest wait behind any pick. -/
def mostW (c : Nat) (l : List Int) : Nat → Nat
  | 0 => 0
  | n + 1 => max (mostW c l n) ((wv c (l.take (n + 1))).getD (amax (wv c (l.take (n + 1))) c) 0).toNat
/-- The least k of which picks are k-fair. -/
def leastL (c : Nat) (l : List Int) : Nat := mostW c l l.length + 1
theorem wv_getD (c : Nat) (l : List Int) (i : Nat) (h : i < c) : (wv c l).getD i 0 = (waitL l (i : Int) : Int) := by
  simp [wv, h]
theorem longest_ge (c : Nat) (l : List Int) (i : Nat) (h : i < c) : waitL l (i : Int) ≤ ((wv c l).getD (amax (wv c l) c) 0).toNat := by
  have := amax_ge (wv c l) c i h
  rw [wv_getD c l i h] at this
  omega
theorem mostW_ge (c : Nat) (l : List Int) (i : Nat) (h : i < c) : ∀ (n m : Nat), m ≤ n → waitL (l.take m) (i : Int) ≤ mostW c l n
  | 0, m, hm => by obtain rfl : m = 0 := by omega
                   simp [mostW, waitL_nil]
  | n + 1, m, hm => by
    simp only [mostW]
    by_cases e : m = n + 1
    · subst e
      have := longest_ge c (l.take (n + 1)) i h
      omega
    · have := mostW_ge c l i h n m (by omega)
      omega
theorem mostW_le (c : Nat) (hc : 0 < c) (l : List Int) (K : Nat) : ∀ n, (∀ m, m ≤ n → ∀ i, i < c → waitL (l.take m) (i : Int) ≤ K) → mostW c l n ≤ K
  | 0, _ => by simp [mostW]
  | n + 1, h => by
    simp only [mostW]
    have h1 := mostW_le c hc l K n fun m hm => h m (by omega)
    have hlt := amax_lt (wv c (l.take (n + 1))) c hc
    have h2 := h (n + 1) (by omega) _ hlt
    rw [wv_getD c _ _ hlt]
    omega
/-- Each k of them that stand together have each CPU. -/
def FairL (c : Nat) (l : List Int) (k : Nat) : Prop := 1 ≤ k ∧ ∀ i, i + k ≤ l.length → ∀ x, x < c → ((x : Nat) : Int) ∈ (l.drop i).take k
theorem take_split (l : List Int) (i k : Nat) : l.take (i + k) = l.take i ++ (l.drop i).take k := List.take_add
theorem fair_waits {c : Nat} {l : List Int} {k : Nat} (hk : 1 ≤ k) : FairL c l k ↔ ∀ m, m ≤ l.length → ∀ i, i < c → waitL (l.take m) (i : Int) ≤ k - 1 := by
  constructor
  · rintro ⟨_, H⟩ m hm i hi
    by_cases hmk : m < k
    · have := waitL_le (l.take m) (i : Int)
      simp at this; omega
    · obtain ⟨j, rfl⟩ : ∃ j, m = j + k := ⟨m - k, by omega⟩
      have hin := H j hm i hi
      rw [take_split, waitL_append, if_pos hin]
      have := (waitL_lt _ _).2 hin
      simp at this
      omega
  · intro H
    refine ⟨hk, fun i hi x hx => ?_⟩
    have := H (i + k) hi x hx
    rw [take_split, waitL_append] at this
    by_cases hin : (x : Int) ∈ (l.drop i).take k
    · exact hin
    · rw [if_neg hin] at this
      have hl : ((l.drop i).take k).length = k := by simp; omega
      omega
theorem fair_least {c : Nat} (hc : 0 < c) {l : List Int} {k : Nat} : FairL c l k ↔ leastL c l ≤ k := by
  unfold leastL
  constructor
  · intro h
    have := mostW_le c hc l (k - 1) l.length ((fair_waits h.1).1 h)
    have := h.1
    omega
  · intro h
    refine (fair_waits (by omega)).2 fun m hm i hi => ?_
    have := mostW_ge c l i hi l.length m hm
    omega
theorem least_pos (c : Nat) (l : List Int) : 1 ≤ leastL c l := Nat.succ_le_succ (Nat.zero_le _)
theorem least_le (c : Nat) (hc : 0 < c) (l : List Int) : leastL c l ≤ l.length + 1 := by
  have := mostW_le c hc l l.length l.length fun m hm i _ => by
    have := waitL_le (l.take m) (i : Int)
    simp at this; omega
  unfold leastL; omega
/-- What goes on is fair. -/
theorem goes_fair {c : Nat} {k : Int} (hc : 0 < c) (hk : (c : Int) ≤ k) {l : List Int} (h : Goes c k l) : (leastL c l : Int) ≤ k := by
  have : leastL c l ≤ k.toNat := by
    rw [← fair_least hc, fair_waits (by omega)]
    intro m _ i hi
    have := can_most (h m) i (by rw [wv_length]; exact hi)
    rw [wv_get] at this
    omega
  omega
theorem fair_part {c : Nat} (hc : 0 < c) {l : List Int} {k : Nat} (h : leastL c l ≤ k) (from' many : Nat) : leastL c ((l.drop from').take many) ≤ k := by
  rw [← fair_least hc] at h ⊢
  refine ⟨h.1, fun i hi x hx => ?_⟩
  have hlen : ((l.drop from').take many).length ≤ l.length - from' := by simp; omega
  have hlen2 : ((l.drop from').take many).length ≤ many := by simp; omega
  have h1 := h.2 (from' + i) (by have := h.1; omega) x hx
  rw [List.drop_take, List.take_take, List.drop_drop]
  rwa [Nat.min_eq_left (by omega)]

/-! rounds -/
/-- Each CPU is among these. -/
def wholeB (c : Nat) (l : List Int) : Bool := (List.range c).all fun i : Nat => l.contains (i : Int)
theorem wholeB_iff {c : Nat} {l : List Int} : wholeB c l = true ↔ ∀ i : Nat, i < c → (i : Int) ∈ l := by simp [wholeB]
theorem wholeB_mono {c : Nat} {l m : List Int} (h : wholeB c l = true) (hs : ∀ x ∈ l, x ∈ m) : wholeB c m = true := wholeB_iff.2 fun i hi => hs _ (wholeB_iff.1 h i hi)
def rstep (c : Nat) (s : Nat × List Int) (x : Int) : Nat × List Int := if wholeB c (s.2 ++ [x]) = true then (s.1 + 1, []) else (s.1, s.2 ++ [x])
/-- How many whole rounds there are. -/
def roundsL (c : Nat) (l : List Int) : Nat := (l.foldl (rstep c) (0, [])).1
theorem rstep_add (c : Nat) (l : List Int) : ∀ (n m : Nat) (cur : List Int), l.foldl (rstep c) (n + m, cur) = ((l.foldl (rstep c) (n, cur)).1 + m, (l.foldl (rstep c) (n, cur)).2) := by
  induction l with
  | nil => intro n m cur; rfl
  | cons x r ih =>
    intro n m cur
    simp only [List.foldl_cons, rstep]
    split
    · rw [show n + m + 1 = (n + 1) + m by omega]; exact ih _ _ _
    · exact ih _ _ _
theorem rounds_none (c : Nat) : ∀ (l cur : List Int) (n : Nat), wholeB c (cur ++ l) = false → l.foldl (rstep c) (n, cur) = (n, cur ++ l)
  | [], cur, n, _ => by simp
  | x :: r, cur, n, h => by
    have h1 : wholeB c (cur ++ [x]) = false := by
      cases e : wholeB c (cur ++ [x]) with
      | false => rfl
      | true => rw [wholeB_mono e (by simp; intro y hy; rcases hy with h | h <;> simp [h])] at h; exact h
    rw [List.foldl_cons, rstep, if_neg (by simp [h1]), rounds_none c r (cur ++ [x]) n (by simpa using h)]
    simp
/-- The first m are a round. -/
theorem rounds_one {c : Nat} {l : List Int} {m : Nat} (hm : 0 < m) (hml : m ≤ l.length) (hw : wholeB c (l.take m) = true) (hn : wholeB c (l.take (m - 1)) = false) : roundsL c l = roundsL c (l.drop m) + 1 := by
  unfold roundsL
  have e : l = l.take (m - 1) ++ ([l[m - 1]'(by omega)] ++ l.drop m) := by
    have h1 : l.drop (m - 1) = l[m - 1]'(by omega) :: l.drop m := by
      rw [List.drop_eq_getElem_cons (by omega), show m - 1 + 1 = m by omega]
    rw [List.singleton_append, ← h1, List.take_append_drop]
  have e2 : l.take m = l.take (m - 1) ++ [l[m - 1]'(by omega)] := by
    have := List.take_succ_eq_append_getElem (l := l) (i := m - 1) (by omega)
    rwa [show m - 1 + 1 = m by omega] at this
  conv => lhs; rw [e]
  rw [List.foldl_append, rounds_none c _ [] 0 (by simpa using hn), List.foldl_append, List.foldl_cons, List.foldl_nil]
  rw [rstep, if_pos (by simp only [List.nil_append]; rw [← e2]; exact hw)]
  rw [rstep_add c _ 0 1 []]
theorem rounds_zero {c : Nat} {l : List Int} (h : wholeB c l = false) : roundsL c l = 0 := by
  unfold roundsL; rw [rounds_none c l [] 0 (by simpa using h)]
/-- The least beginning that is whole. -/
theorem first_whole {c : Nat} (hc : 0 < c) {l : List Int} (h : wholeB c l = true) : ∃ m, 0 < m ∧ m ≤ l.length ∧ wholeB c (l.take m) = true ∧ wholeB c (l.take (m - 1)) = false := by
  have key : ∀ n, n ≤ l.length → wholeB c (l.take n) = true → ∃ m, 0 < m ∧ m ≤ n ∧ wholeB c (l.take m) = true ∧ wholeB c (l.take (m - 1)) = false := by
    intro n
    induction n with
    | zero =>
      intro _ h0
      have := wholeB_iff.1 h0 0 hc
      simp at this
    | succ n ih =>
      intro hn h1
      cases e : wholeB c (l.take n) with
      | false => exact ⟨n + 1, by omega, Nat.le_refl _, h1, e⟩
      | true => obtain ⟨m, a, b, d⟩ := ih (by omega) e; exact ⟨m, a, by omega, d⟩
  obtain ⟨m, a, b, d⟩ := key l.length (Nat.le_refl _) (by rwa [List.take_length])
  exact ⟨m, a, b, d⟩
/-- With fairness come rounds. -/
theorem rounds_fair {c : Nat} (hc : 0 < c) {k : Nat} (hk : 1 ≤ k) : ∀ (n : Nat) (l : List Int), l.length ≤ n → leastL c l ≤ k → l.length / k ≤ roundsL c l
  | n, l, hn, hf => by
    by_cases hlk : l.length < k
    · rw [Nat.div_eq_of_lt hlk]; exact Nat.zero_le _
    · have hF := (fair_least hc).2 hf
      have hw : wholeB c (l.take k) = true := wholeB_iff.2 fun i hi => by have := hF.2 0 (by omega) i hi; simpa using this
      obtain ⟨m, h0, h1, h2, h3⟩ := first_whole hc hw
      have h1 : m ≤ k := by simp at h1; omega
      rw [List.take_take, Nat.min_eq_left h1] at h2
      rw [List.take_take, Nat.min_eq_left (by omega)] at h3
      rw [rounds_one h0 (by omega) h2 h3]
      match n, hn with
      | 0, hn => omega
      | n + 1, hn =>
        have hf2 : leastL c (l.drop m) ≤ k := by
          have := fair_part hc hf m (l.drop m).length
          rwa [List.take_length] at this
        have ih := rounds_fair hc hk n (l.drop m) (by simp; omega) hf2
        have hlen : (l.drop m).length = l.length - m := by simp
        rw [hlen] at ih
        have : l.length / k ≤ (l.length - m) / k + 1 := by
          have h4 : l.length ≤ (l.length - m) + k := by omega
          calc l.length / k ≤ ((l.length - m) + k) / k := Nat.div_le_div_right h4
            _ = (l.length - m) / k + 1 := Nat.add_div_right _ (by omega)
        omega
theorem fold_mono (c : Nat) (l : List Int) : ∀ (n : Nat) (cur : List Int), n ≤ (l.foldl (rstep c) (n, cur)).1 := by
  induction l with
  | nil => intro n cur; exact Nat.le_refl _
  | cons x r ih =>
    intro n cur
    simp only [List.foldl_cons, rstep]
    split
    · exact Nat.le_trans (Nat.le_succ _) (ih _ _)
    · exact ih _ _
theorem rounds_take (c : Nat) (l : List Int) (m : Nat) : roundsL c (l.take m) ≤ roundsL c l := by
  unfold roundsL
  conv => rhs; rw [← List.take_append_drop m l, List.foldl_append]
  exact fold_mono c _ _ _
def Ahead (a b : Nat × List Int) : Prop := b.1 < a.1 ∨ (b.1 = a.1 ∧ ∀ x ∈ b.2, x ∈ a.2)
theorem ahead_step {c : Nat} {a b : Nat × List Int} (h : Ahead a b) (x : Int) : Ahead (rstep c a x) (rstep c b x) := by
  unfold rstep
  rcases h with h | ⟨h1, h2⟩
  · by_cases hb : wholeB c (b.2 ++ [x]) = true
    · rw [if_pos hb]
      by_cases ha : wholeB c (a.2 ++ [x]) = true
      · rw [if_pos ha]; exact .inl (by simp; omega)
      · rw [if_neg ha]
        by_cases e : b.1 + 1 = a.1
        · exact .inr ⟨e, fun y hy => by simp at hy⟩
        · exact .inl (by simp; omega)
    · rw [if_neg hb]
      by_cases ha : wholeB c (a.2 ++ [x]) = true
      · rw [if_pos ha]; exact .inl (by simp; omega)
      · rw [if_neg ha]; exact .inl h
  · have hs : ∀ y ∈ b.2 ++ [x], y ∈ a.2 ++ [x] := fun y hy => by
      rcases List.mem_append.1 hy with h | h
      · exact List.mem_append_left _ (h2 y h)
      · exact List.mem_append_right _ h
    by_cases hb : wholeB c (b.2 ++ [x]) = true
    · rw [if_pos hb, if_pos (wholeB_mono hb hs)]; exact .inr ⟨by simp [h1], fun y hy => by simp at hy⟩
    · rw [if_neg hb]
      by_cases ha : wholeB c (a.2 ++ [x]) = true
      · rw [if_pos ha]; exact .inl (by simp; omega)
      · rw [if_neg ha]; exact .inr ⟨h1, hs⟩
theorem ahead_fold {c : Nat} : ∀ (l : List Int) (a b : Nat × List Int), Ahead a b → Ahead (l.foldl (rstep c) a) (l.foldl (rstep c) b)
  | [], _, _, h => h
  | x :: r, _, _, h => ahead_fold r _ _ (ahead_step h x)
theorem rounds_drop (c : Nat) (l : List Int) (m : Nat) : roundsL c (l.drop m) ≤ roundsL c l := by
  have h : Ahead ((l.drop m).foldl (rstep c) ((l.take m).foldl (rstep c) (0, []))) ((l.drop m).foldl (rstep c) (0, [])) := by
    apply ahead_fold
    by_cases e : 0 < ((l.take m).foldl (rstep c) (0, [])).1
    · exact .inl e
    · exact .inr ⟨by simp; omega, fun y hy => by simp at hy⟩
  rw [← List.foldl_append, List.take_append_drop] at h
  unfold roundsL
  rcases h with h | h
  · exact Nat.le_of_lt h
  · exact Nat.le_of_eq h.1
theorem rounds_part (c : Nat) (l : List Int) (from' many : Nat) : roundsL c ((l.drop from').take many) ≤ roundsL c l := Nat.le_trans (rounds_take _ _ _) (rounds_drop _ _ _)
theorem rounds_snoc (c : Nat) (l : List Int) (x : Int) : (l ++ [x]).foldl (rstep c) (0, []) = rstep c (l.foldl (rstep c) (0, [])) x := by simp [List.foldl_append]
theorem rounds_le (c : Nat) (l : List Int) : roundsL c l ≤ l.length := by
  have : ∀ (l : List Int) (s : Nat × List Int), (l.foldl (rstep c) s).1 ≤ s.1 + l.length := by
    intro l
    induction l with
    | nil => intro s; exact Nat.le_refl _
    | cons x r ih =>
      intro s
      have := ih (rstep c s x)
      simp only [List.foldl_cons, List.length_cons]
      unfold rstep at this ⊢
      split at this <;> simp_all <;> omega
  have := this l (0, [])
  simpa [roundsL] using this

end Go.Proofs.Ytmmeiclclapmfaa
