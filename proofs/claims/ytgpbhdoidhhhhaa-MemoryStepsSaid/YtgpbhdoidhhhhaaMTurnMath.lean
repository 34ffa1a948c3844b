/-
  What Live, Free, and Live again come to, in numbers; and their contracts as variables hold what they answer.
  Conditions: none.
-/
import Derived.Test.YtgpbhdoidhhhhaaMKit2
import Derived.Test.YtgpbhdoidhhhhaaMLive
import Derived.Test.YtgpbhdoidhhhhaaMFree
import Derived.Test.YtgpbhdoidhhhhaaMCollect
namespace Go.Proofs.Ytgpbhdoidhhhhaa
open Go.RowKit Go.Shelf

theorem fill_fill {α : Type} (l : List α) (x : Nat) (u v : α) (k : Nat) : fill (fill l x u k) x v k = fill l x v k := by
  refine List.ext_getElem (by simp [fill_length]) fun i h1 h2 => ?_
  have hl : i < l.length := by simpa [fill_length] using h2
  rw [fill_get _ _ _ _ _ (by rw [fill_length]; exact hl), fill_get _ _ _ _ _ hl, fill_get _ _ _ _ _ hl]
  split <;> rfl
theorem right_fill {ws : List Int} {ls : List Bool} (h : rightB ws ls = true) (x k : Nat) (d : Bool) (u : Int) (hm : mayB d u = true) : rightB (fill ws x u k) (fill ls x d k) = true := by
  obtain ⟨h1, h2, h3, h4⟩ := rightB_iff.1 h
  refine rightB_iff.2 ⟨by rw [fill_length]; exact h1, by rw [fill_length]; exact h2, by rw [fill_length, fill_length]; exact h3, fun i hi hi' => ?_⟩
  rw [fill_length] at hi hi'
  rw [fill_get _ _ _ _ _ hi, fill_get _ _ _ _ _ hi']
  split
  · exact hm
  · exact h4 i hi hi'
theorem cnt_fill_true (ls : List Bool) (x k : Nat) (h : x + k ≤ ls.length) : cnt x (x + k) 0 (fill ls x true k) = k := by
  have := (cnt_full_iff x (x + k) (fill ls x true k) 0 (Nat.zero_le _) (by rw [fill_length]; omega) (by omega)).2 (fun i hi h1 h2 => by
    rw [fill_length] at hi
    rw [fill_get _ _ _ _ _ hi, if_pos (by omega)])
  omega
theorem cnt_fill_false (ls : List Bool) (x k : Nat) : cnt x (x + k) 0 (fill ls x false k) = 0 :=
  (cnt_zero_iff x (x + k) _ 0).2 fun i hi h1 h2 => by
    rw [fill_length] at hi
    rw [fill_get _ _ _ _ _ hi, if_pos (by omega)]
/-- How many are live. -/
def trues : List Bool → Nat
  | [] => 0
  | b :: t => (if b = true then 1 else 0) + trues t
theorem trues_snoc (l : List Bool) (b : Bool) : trues (l ++ [b]) = trues l + (if b = true then 1 else 0) := by
  induction l with
  | nil => simp [trues]
  | cons c t ih => simp only [List.cons_append, trues, ih]; omega
theorem trues_le (l : List Bool) : trues l ≤ l.length := by
  induction l with
  | nil => simp [trues]
  | cons c t ih => simp only [trues, List.length_cons]; split <;> omega
/-- How many places rows have together. -/
def sumRows (l : List (Nat × Nat)) : Nat := (l.map (·.2)).sum
theorem sumRows_snoc (l : List (Nat × Nat)) (s : Nat × Nat) : sumRows (l ++ [s]) = sumRows l + s.2 := by simp [sumRows]
theorem sum_spansP (l : List Bool) (a n : Nat) : sumRows (spansP a n l) = n + trues l := by
  induction l generalizing a n with
  | nil =>
    by_cases h : n = 0
    · subst h; simp [spansP, oneRow_zero, sumRows, trues]
    · simp [spansP, oneRow_pos a h, sumRows, trues]
  | cons b t ih =>
    cases b with
    | true => simp only [spansP, trues]; rw [ih]; simp; omega
    | false =>
      have h1 := ih (a + n + 1) 0
      simp only [sumRows] at h1
      by_cases h : n = 0
      · subst h; simp [spansP, oneRow_zero, sumRows, trues] at h1 ⊢; omega
      · simp [spansP, oneRow_pos a h, sumRows, trues] at h1 ⊢; omega
theorem sum_spansL (l : List Bool) : sumRows (spansL l) = trues l := by simpa [spansL] using sum_spansP l 0 0
theorem sumRows_take_le (l : List (Nat × Nat)) (i : Nat) : sumRows (l.take i) ≤ sumRows l := by
  have : sumRows l = sumRows (l.take i) + sumRows (l.drop i) := by
    have h : sumRows (l.take i ++ l.drop i) = sumRows (l.take i) + sumRows (l.drop i) := by simp only [sumRows, List.map_append, List.sum_append]
    rw [List.take_append_drop] at h
    exact h
  omega
theorem spansL_pos (l : List Bool) : ∀ s ∈ spansL l, 1 ≤ s.2 ∧ s.2 ≤ l.length := fun s hs => by
  have := spansP_ge l 0 0 s hs
  omega

theorem cap_mk {x : Value} {q : Option Addr} {n c : Nat} {b : Value} (h : n ≤ c) : ∀ (x' y' : Value) (p : Option Addr) (n' c' : Nat), Value.agg #[x, .slice q n c, b] = .agg #[x', .slice p n' c', y'] → n' ≤ c' := by
  intro x' y' p n' c' e
  injection e with e
  injection e with e
  injection e with _ e
  injection e with e _
  injection e with _ e1 e2
  subst e1
  subst e2
  exact h
/-- What Live and Free answer, put into a variable. -/
theorem live_put {B : Nat} {ws us : List Int} {ls ms : List Bool} {f : Bool} {e : Ending} {w' : World} (h : LiveOk B us ms f e w') (h1 : us = ws) (h2 : ms = ls) :
    ∃ p0 c0 p1 c1, e = .returned (.tuple #[.agg #[.slice p0 ws.length c0, .slice p1 ls.length c1, .bool f], .int .i64 0]) ∧ ls.length ≤ c1 ∧
    ∃ w3, w3 = putM w' (.slice p0 ws.length c0) (.slice p1 ls.length c1) f ∧ MVar w3 w'.heap.size (.slice p0 ws.length c0) (.slice p1 ls.length c1) ws ls f ∧ Below w'.heap.size w' w3 := by
  subst h1
  subst h2
  obtain ⟨v, rfl, vw, vl, rfl, h0, h1⟩ := h
  obtain ⟨p0, c0, rfl⟩ := owns_slice h0
  obtain ⟨p1, c1, rfl⟩ := owns_slice h1
  exact ⟨_, _, _, _, rfl, (own_cap h1).1, _, rfl, putM_var f (nums_of_owns rfl h0) (bools_of_owns rfl h1), putM_below _ _ _ _⟩
theorem thereB_fill (ws : List Int) (x k : Nat) (u a m : Int) : thereB (fill ws x u k).length a m = thereB ws.length a m := by rw [fill_length]
theorem turn_cases (us : List Int) (ms : List Bool) (a k : Int) : (∃ c c' : Int, (c != 0) = true ∧ (c' == 0) = false ∧ ((rightB us ms = false ∧ c = 120) ∨ (rightB us ms = true ∧ thereB us.length a k = false ∧ c = 2) ∨ (rightB us ms = true ∧ thereB us.length a k = true ∧ cnt a.toNat (a.toNat + k.toNat) 0 ms ≠ 0 ∧ c = 5)) ∧ ((rightB us ms = false ∧ c' = 120) ∨ (rightB us ms = true ∧ thereB us.length a k = false ∧ c' = 2) ∨ (rightB us ms = true ∧ thereB us.length a k = true ∧ cnt a.toNat (a.toNat + k.toNat) 0 ms < k.toNat ∧ c' = 4))) ∨
    (rightB us ms = true ∧ thereB us.length a k = true ∧ cnt a.toNat (a.toNat + k.toNat) 0 ms ≠ 0 ∧ cnt a.toNat (a.toNat + k.toNat) 0 ms = k.toNat) ∨ (rightB us ms = true ∧ thereB us.length a k = true ∧ cnt a.toNat (a.toNat + k.toNat) 0 ms = 0) := by
  cases hr : rightB us ms with
  | false => exact .inl ⟨120, 120, by decide, by decide, .inl ⟨rfl, rfl⟩, .inl ⟨rfl, rfl⟩⟩
  | true =>
    cases ht : thereB us.length a k with
    | false => exact .inl ⟨2, 2, by decide, by decide, .inr (.inl ⟨rfl, rfl, rfl⟩), .inr (.inl ⟨rfl, rfl, rfl⟩)⟩
    | true =>
      have hle := cnt_le a.toNat (a.toNat + k.toNat) ms 0
      have ha := (thereB_iff.1 ht).2.1
      by_cases h0 : cnt a.toNat (a.toNat + k.toNat) 0 ms = 0
      · exact .inr (.inr ⟨rfl, rfl, h0⟩)
      · by_cases h1 : cnt a.toNat (a.toNat + k.toNat) 0 ms = k.toNat
        · exact .inr (.inl ⟨rfl, rfl, h0, h1⟩)
        · exact .inl ⟨5, 4, by decide, by decide, .inr (.inr ⟨rfl, rfl, h0, rfl⟩), .inr (.inr ⟨rfl, rfl, by omega, rfl⟩)⟩
theorem bools_cells {w : World} {q : Option Addr} {n d : Nat} {ns : List Bool} (h : BoolsAt w (.slice q n d) ns) (hn : 0 < ns.length) : ∃ b off, q = some ⟨b, off, none⟩ ∧ ∀ i (hi : i < ns.length), w.cell? ⟨b, off + i, none⟩ = some (.bool ns[i]) := by
  obtain ⟨p, c, e, hc⟩ := h
  injection e with e1 _ _
  subst e1
  exact hc (List.length_pos_iff.1 hn)
/-- A variable that says nothing. -/
theorem putM_nil (w : World) : MVar (putM w (.slice none 0 0) (.slice none 0 0) false) w.heap.size (.slice none 0 0) (.slice none 0 0) [] [] false :=
  putM_var false ⟨none, 0, rfl, fun h => absurd rfl h⟩ ⟨none, 0, rfl, fun h => absurd rfl h⟩

end Go.Proofs.Ytgpbhdoidhhhhaa
