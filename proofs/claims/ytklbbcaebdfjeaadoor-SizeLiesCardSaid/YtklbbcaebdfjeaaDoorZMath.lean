/-
  Which rows of blocks are apart: those of which no two overlap; what is around a block, and its parts: plain mathematics.
  Conditions: none.
-/
import Derived.Test.YtklbbcaebdfjeaaDoorZTaken
import Derived.Test.YtklbbcaebdfjeaaDoorZArF
import Derived.Test.YtklbbcaebdfjeaaDoorZOver
import Derived.Test.YtklbbcaebdfjeaaDoorZInside
namespace Go.Proofs.YtklbbcaebdfjeaaDoor

theorem mem_wrL {x a n : Nat} : x ∈ wrL a n ↔ a ≤ x ∧ x < a + n := by
  unfold wrL
  simp only [List.mem_map, List.mem_range]
  exact ⟨fun ⟨y, hy, e⟩ => by omega, fun h => ⟨x - a, by omega, by omega⟩⟩
theorem nodup_wrL (a n : Nat) : (wrL a n).Nodup := by
  unfold wrL
  refine List.Pairwise.map _ (fun x y h e => h (by omega)) List.nodup_range
/-- The words of a block. -/
def wdB (b : Int × Int) : List Nat := wrL b.1.toNat (szN b.2.toNat)
theorem ov_iff {b b' : Int × Int} (h : mayB b.1 b.2 = true) (h' : mayB b'.1 b'.2 = true) : ovB b.1 b.2 b'.1 b'.2 = false ↔ ∀ x ∈ wdB b', x ∉ wdB b := by
  obtain ⟨a, c⟩ := b
  obtain ⟨a', c'⟩ := b'
  obtain ⟨k, n, hc, hk, hn, _⟩ := mayB_yes h
  obtain ⟨k', n', hc', hk', hn', _⟩ := mayB_yes h'
  simp only at hc hn hc' hn' h h' ⊢
  subst hc hn hc' hn'
  have h1 := (sz_ok hk).1
  have h2 := (sz_ok hk').1
  unfold ovB wdB
  rw [h, h']
  simp only [Int.toNat_natCast, Bool.true_and, decide_eq_false_iff_not, mem_wrL]
  constructor
  · intro hno x hx hy
    exact hno (by omega)
  · intro hall hov
    rcases Nat.le_total n n' with hle | hle
    · exact hall n' (by omega) (by omega)
    · exact hall n (by omega) (by omega)
def apFrom (t : List Nat) (l : List (Int × Int)) : Option (List Nat) := l.foldl (fun o b => o.bind fun t => ap1 t b) (some t)
theorem apFrom_none (l : List (Int × Int)) : l.foldl (fun (o : Option (List Nat)) b => o.bind fun t => ap1 t b) none = none := by
  induction l with
  | nil => rfl
  | cons b l ih => exact ih
theorem apFrom_cons (t : List Nat) (b : Int × Int) (l : List (Int × Int)) : apFrom t (b :: l) = (ap1 t b).bind fun m => apFrom m l := by
  unfold apFrom
  rw [List.foldl_cons, Option.bind_some]
  cases ap1 t b with
  | none => exact apFrom_none l
  | some m => rfl
theorem apFrom_some : ∀ (l : List (Int × Int)) {t m : List Nat}, apFrom t l = some m ↔ ((∀ b ∈ l, mayB b.1 b.2 = true) ∧ l.Pairwise (fun b b' => ovB b.1 b.2 b'.1 b'.2 = false) ∧ (∀ b ∈ l, ∀ x ∈ wdB b, x ∉ t)) ∧ m = t ++ l.flatMap wdB
  | [], t, m => by
    constructor
    · intro h
      cases h
      simp
    · rintro ⟨_, rfl⟩
      simp [apFrom]
  | b :: l, t, m => by
    rw [apFrom_cons]
    unfold ap1
    by_cases hb : mayB b.1 b.2 = true
    · rw [if_pos hb]
      constructor
      · intro h
        obtain ⟨q, hq, h⟩ := Option.bind_eq_some_iff.1 h
        obtain ⟨⟨_, h1⟩, rfl⟩ := (apF_some _).1 hq
        obtain ⟨⟨h2, h3, h4⟩, rfl⟩ := (apFrom_some l).1 h
        refine ⟨⟨fun x hx => ?_, List.pairwise_cons.2 ⟨fun b' hb' => ?_, h3⟩, fun x hx => ?_⟩, by simp [wdB]⟩
        · rcases List.mem_cons.1 hx with rfl | hx
          · exact hb
          · exact h2 x hx
        · refine (ov_iff hb (h2 b' hb')).2 fun x hx hn => h4 b' hb' x hx (List.mem_append_right _ hn)
        · rcases List.mem_cons.1 hx with rfl | hx
          · exact h1
          · exact fun y hy hn => h4 x hx y hy (List.mem_append_left _ hn)
      · rintro ⟨⟨h2, h3, h4⟩, rfl⟩
        obtain ⟨h5, h6⟩ := List.pairwise_cons.1 h3
        refine Option.bind_eq_some_iff.2 ⟨t ++ wdB b, (apF_some _).2 ⟨⟨nodup_wrL _ _, h4 b List.mem_cons_self⟩, rfl⟩, (apFrom_some l).2 ⟨⟨fun x hx => h2 x (List.mem_cons_of_mem _ hx), h6, fun x hx y hy hn => ?_⟩, by simp⟩⟩
        rcases List.mem_append.1 hn with hn | hn
        · exact h4 x (List.mem_cons_of_mem _ hx) y hy hn
        · exact (ov_iff hb (h2 x (List.mem_cons_of_mem _ hx))).1 (h5 x hx) y hy hn
    · rw [if_neg hb]
      constructor
      · intro h; cases h
      · rintro ⟨⟨h2, _⟩, _⟩; exact absurd (h2 b List.mem_cons_self) hb
theorem apB_iff (l : List (Int × Int)) : apB l = true ↔ (∀ b ∈ l, mayB b.1 b.2 = true) ∧ l.Pairwise (fun b b' => ovB b.1 b.2 b'.1 b'.2 = false) := by
  unfold apB
  rw [Option.isSome_iff_exists]
  constructor
  · rintro ⟨m, hm⟩
    obtain ⟨⟨h1, h2, _⟩, _⟩ := (apFrom_some l (t := [])).1 hm
    exact ⟨h1, h2⟩
  · rintro ⟨h1, h2⟩
    exact ⟨_, (apFrom_some l (t := [])).2 ⟨⟨h1, h2, fun _ _ _ _ h => by cases h⟩, rfl⟩⟩
theorem apB_two {a c a' c' : Int} (h : mayB a c = true) (h' : mayB a' c' = true) : apB [(a, c), (a', c')] = !ovB a c a' c' := by
  cases ho : ovB a c a' c' with
  | false =>
    refine (apB_iff _).2 ⟨fun b hb => ?_, by simp [ho]⟩
    rcases List.mem_cons.1 hb with rfl | hb
    · exact h
    · rw [List.mem_singleton.1 hb]; exact h'
  | true =>
    cases hp : apB [(a, c), (a', c')] with
    | false => rfl
    | true =>
      have := ((apB_iff _).1 hp).2
      simp [ho] at this
theorem apB_no {a c a' c' : Int} (h : mayB a c = false ∨ mayB a' c' = false) : apB [(a, c), (a', c')] = false := by
  cases hp : apB [(a, c), (a', c')] with
  | false => rfl
  | true =>
    have h1 := ((apB_iff _).1 hp).1
    have h2 := h1 (a, c) (by simp)
    have h3 := h1 (a', c') (by simp)
    simp only at h2 h3
    rcases h with h | h
    · rw [h] at h2; cases h2
    · rw [h] at h3; cases h3
theorem ovB_comm (a c a' c' : Int) : ovB a' c' a c = ovB a c a' c' := by
  unfold ovB
  rw [Bool.eq_iff_iff]
  simp only [Bool.and_eq_true, decide_eq_true_eq]
  exact ⟨fun ⟨h1, h2, h3, h4⟩ => ⟨h2, h1, h4, h3⟩, fun ⟨h1, h2, h3, h4⟩ => ⟨h2, h1, h4, h3⟩⟩
theorem mayB_small {a c : Int} (h : mayB a c = true) : 0 ≤ a ∧ a ≤ 4096 ∧ 0 ≤ c ∧ c < 4 := by
  obtain ⟨k, n, rfl, hk, rfl, hn, _⟩ := mayB_yes h
  omega
theorem szN_four {k : Nat} (hk : k < 4) : szN k = 2 ∨ szN k = 4 ∨ szN k = 8 ∨ szN k = 16 := by
  have : ∀ k, k < 4 → szN k = 2 ∨ szN k = 4 ∨ szN k = 8 ∨ szN k = 16 := by decide
  exact this k hk
theorem szN_mono {k k' : Nat} (hk' : k' < 4) (h : k ≤ k') : szN k ≤ szN k' := by
  have : ∀ k', k' < 4 → ∀ k, k < 4 → k ≤ k' → szN k ≤ szN k' := by decide
  exact this k' hk' k (by omega) h
theorem nest_nat {s s' n n' : Nat} (hs : s = 2 ∨ s = 4 ∨ s = 8 ∨ s = 16) (hs' : s' = 2 ∨ s' = 4 ∨ s' = 8 ∨ s' = 16) (hle : s ≤ s') (hm : n % s = 0) (hm' : n' % s' = 0) :
    ((n - n % s' : Nat) : Int) = (n' : Int) ↔ (n : Int) < (n' : Int) + (s' : Int) ∧ (n' : Int) < (n : Int) + (s : Int) := by
  rcases hs with rfl | rfl | rfl | rfl <;> rcases hs' with rfl | rfl | rfl | rfl <;> omega
/-- What is around one of a class no less: it is so, just if both overlap, if it is the other one. -/
theorem nests {a c a' c' : Int} (h : mayB a c = true) (h' : mayB a' c' = true) (hc : c ≤ c') : ∃ r : Int, aroundA a c c' = (r, c', 0) ∧ decide (r = a' ∧ c' = c') = ovB a c a' c' ∧ 0 ≤ r ∧ r ≤ 4096 := by
  obtain ⟨k, n, rfl, hk, rfl, hn, hm⟩ := mayB_yes h
  obtain ⟨k', n', rfl, hk', rfl, hn', hm'⟩ := mayB_yes h'
  refine ⟨((n - n % szN k' : Nat) : Int), ?_, ?_, by omega, by have := Nat.sub_le n (n % szN k'); omega⟩
  · unfold aroundA arA
    rw [if_pos h, Int.toNat_natCast, Int.toNat_natCast, if_pos (show ((k : Nat) : Int) ≤ (k' : Int) ∧ (k' : Int) < 4 by omega), Int.toNat_natCast]
    rfl
  · unfold ovB
    rw [h, h']
    simp only [Int.toNat_natCast, Bool.true_and, and_true]
    rw [decide_eq_decide]
    exact nest_nat (szN_four hk) (szN_four hk') (szN_mono hk' (by omega)) hm hm'

end Go.Proofs.YtklbbcaebdfjeaaDoor
