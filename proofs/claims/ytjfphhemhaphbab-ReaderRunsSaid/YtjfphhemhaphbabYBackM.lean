/-
  Package reader: the mathematics of the statements: what is passed, and what comes of a step.
  Conditions: none.
-/
import Derived.Test.YtjfphhemhaphbabYTell
import Derived.Test.YtjfphhemhaphbabYPass
namespace Go.Proofs.Ytjfphhemhaphbab

theorem oldM_spec : ∀ (n : Nat) (l : List (Int × Int)), l.length = n → (∀ x ∈ l, 1 ≤ x.2) → (l = [] → oldM l = 0) ∧ (l ≠ [] → ∃ x ∈ l, oldM l = x.2) ∧ ∀ x ∈ l, oldM l ≤ x.2
  | 0, l, hl, _ => by
    obtain rfl := List.eq_nil_of_length_eq_zero hl
    exact ⟨fun _ => rfl, fun h => absurd rfl h, fun x hx => by cases hx⟩
  | n + 1, l', hl, h => by
    obtain ⟨l, y, rfl⟩ : ∃ l y, l' = l ++ [y] := by
      rcases List.eq_nil_or_concat l' with rfl | ⟨l, y, e⟩
      · cases hl
      · exact ⟨l, y, by rw [e, List.concat_eq_append]⟩
    have ih := oldM_spec n l (by simpa using hl)
    obtain ⟨h1, h2, h3⟩ := ih (fun x hx => h x (by simp [hx]))
    have hy := h y (by simp)
    refine ⟨fun e => by simp at e, fun _ => ?_, fun x hx => ?_⟩
    · rw [oldM_snoc]
      by_cases ha : aheadB (oldM l) y.2 = true
      · rw [if_pos ha]; exact ⟨y, by simp, rfl⟩
      · rw [if_neg ha]
        have hne : l ≠ [] := fun e => ha (by unfold aheadB; rw [h1 e]; rfl)
        obtain ⟨x, hx, he⟩ := h2 hne
        exact ⟨x, by simp [hx], he⟩
    · rw [oldM_snoc]
      by_cases ha : aheadB (oldM l) y.2 = true
      · rw [if_pos ha]
        rcases List.mem_append.1 hx with hx | hx
        · have hle := h3 x hx
          obtain ⟨z, hz, he⟩ := h2 (by intro e; rw [e] at hx; cases hx)
          have hz1 := h z (by simp [hz])
          unfold aheadB at ha
          simp only [Bool.or_eq_true, decide_eq_true_eq] at ha
          omega
        · rw [List.mem_singleton.1 hx]; exact Int.le_refl _
      · rw [if_neg ha]
        unfold aheadB at ha
        simp only [Bool.or_eq_true, decide_eq_true_eq, not_or] at ha
        rcases List.mem_append.1 hx with hx | hx
        · exact h3 x hx
        · rw [List.mem_singleton.1 hx]; omega
theorem Good.secs {s : RdS} (g : Good s) : ∀ x, x ∈ secs (s.ns.zip s.os) ↔ ∃ i, i < s.ns.length ∧ nN s i ≠ 0 ∧ x = (nN s i, oO s i) := fun x => by
  have hz : (s.ns.zip s.os).length = s.ns.length := by have := g.lo; simp; omega
  unfold Go.Proofs.Ytjfphhemhaphbab.secs
  rw [List.mem_filter]
  constructor
  · rintro ⟨h1, h2⟩
    obtain ⟨i, hi, rfl⟩ := List.getElem_of_mem h1
    have e := zip_at s g.lo i hi
    rw [e] at h2 ⊢
    refine ⟨i, by omega, fun h0 => ?_, rfl⟩
    have := g.each i (by omega)
    have hb := (secB_iff _ _).1 h2
    simp only at hb
    omega
  · rintro ⟨i, hi, h0, rfl⟩
    have e := zip_at s g.lo i (by omega)
    exact ⟨by rw [← e]; exact List.getElem_mem _, (secB_iff _ _).2 (fun h => h0 h.1)⟩
/-- What is passed. -/
theorem pass_iff {s : RdS} (g : Good s) (t : Int) : passB s.now (oldM (secs (s.ns.zip s.os))) t = true ↔ 0 ≤ t ∧ t ≤ s.now ∧ ∀ i, i < s.ns.length → nN s i ≠ 0 → t < oO s i := by
  have hp : ∀ x ∈ secs (s.ns.zip s.os), 1 ≤ x.2 := fun x hx => by
    obtain ⟨i, hi, h0, rfl⟩ := (g.secs x).1 hx
    have := g.each i hi
    simp only
    omega
  obtain ⟨h1, h2, h3⟩ := oldM_spec _ _ rfl hp
  unfold passB
  simp only [Bool.and_eq_true, Bool.or_eq_true, decide_eq_true_eq]
  constructor
  · rintro ⟨a, b, c⟩
    refine ⟨a, b, fun i hi h0 => ?_⟩
    have hm := (g.secs _).2 ⟨i, hi, h0, rfl⟩
    have h4 := h3 _ hm
    obtain ⟨x, hx, he⟩ := h2 (by intro e; rw [e] at hm; cases hm)
    have := hp x hx
    simp only at h4
    omega
  · rintro ⟨a, b, c⟩
    refine ⟨a, b, ?_⟩
    by_cases hne : secs (s.ns.zip s.os) = []
    · exact .inl (h1 hne)
    · obtain ⟨x, hx, he⟩ := h2 hne
      obtain ⟨i, hi, h0, rfl⟩ := (g.secs x).1 hx
      exact .inr (by rw [he]; exact c i hi h0)
theorem pass_now {s : RdS} (g : Good s) : passB s.now (oldM (secs (s.ns.zip s.os))) s.now = true ↔ ∀ i, i < s.ns.length → nN s i = 0 := by
  rw [pass_iff g]
  constructor
  · rintro ⟨_, _, h⟩ i hi
    have := g.each i hi
    by_cases h0 : nN s i = 0
    · exact h0
    · have := h i hi h0
      omega
  · intro h
    exact ⟨g.n0, Int.le_refl _, fun i hi h0 => absurd (h i hi) h0⟩
/-- Once a step is passed it stays so. -/
theorem pass_stays {s : RdS} {c : Int} {en : Bool} (g : Good s) (h : stepE s c en = 0) (t : Int) (hp : passB s.now (oldM (secs (s.ns.zip s.os))) t = true) : passB (stepS s c en).now (oldM (secs ((stepS s c en).ns.zip (stepS s c en).os))) t = true := by
  have g2 := g.step h
  rw [pass_iff g] at hp
  rw [pass_iff g2]
  obtain ⟨i, rfl, hi, hnow, h8, h0⟩ := stepE_zero h
  obtain ⟨p1, p2, p3⟩ := hp
  have hl := stepS_len s i en
  have hio : i < s.os.length := by have := g.lo; omega
  rw [stepS_now]
  refine ⟨p1, by omega, fun j hj hne => ?_⟩
  rw [hl.1] at hj
  rw [stepS_n s i en hi] at hne
  rw [stepS_o s i en hio]
  by_cases e : j = i
  · subst e
    rw [if_pos rfl] at hne
    rw [if_pos (rfl : j = j)]
    have := p3 j hj
    cases en
    · have := h0 rfl
      simp only [Bool.false_eq_true, if_false] at hne ⊢
      split <;> omega
    · simp only [if_true] at hne ⊢
      split <;> omega
  · rw [if_neg e] at hne
    rw [if_neg e]
    exact p3 j hj hne
theorem quiet_iff {s : RdS} (g : Good s) (i : Nat) (hi : i < s.ns.length) : quietB s (i : Int) = decide (nN s i = 0) := by
  unfold quietB
  rw [(good_iff s).2 g, Bool.true_and, (has_iff _ _).2 ⟨i, rfl, hi⟩, Bool.true_and, Int.toNat_natCast]
  rfl
/-- Behind an entry: not quiet, and the step is not passed. -/
theorem enter_then {s : RdS} {c : Int} (g : Good s) (h : stepE s c true = 0) : quietB (stepS s c true) c = false ∧ passB (stepS s c true).now (oldM (secs ((stepS s c true).ns.zip (stepS s c true).os))) (stepS s c true).now = false := by
  have g2 := g.step h
  obtain ⟨i, rfl, hi, hnow, h8, h0⟩ := stepE_zero h
  have hl := stepS_len s i true
  have hn := stepS_n s i true hi i
  rw [if_pos rfl, if_pos rfl] at hn
  have := g.each i hi
  refine ⟨by rw [quiet_iff g2 i (by omega), decide_eq_false (by omega)], ?_⟩
  cases hh : passB (stepS s i true).now (oldM (secs ((stepS s i true).ns.zip (stepS s i true).os))) (stepS s i true).now with
  | false => rfl
  | true =>
    have := (pass_now g2).1 hh i (by omega)
    omega
/-- Entered, and left: as it was, but for Now. -/
theorem enter_leave {s : RdS} {c : Int} (g : Good s) (h : stepE s c true = 0) : (s.now = 2147483646 ∧ stepE (stepS s c true) c false = 6) ∨
    (s.now < 2147483646 ∧ stepE (stepS s c true) c false = 0 ∧ (stepS (stepS s c true) c false).ns = s.ns ∧ (stepS (stepS s c true) c false).os = s.os) := by
  have g2 := g.step h
  obtain ⟨i, rfl, hi, hnow, h8, h0⟩ := stepE_zero h
  have hl := stepS_len s i true
  have hn := stepS_n s i true hi i
  rw [if_pos rfl, if_pos rfl] at hn
  have hi1 := g.each i hi
  have hs := stepS_now s i true
  have hh : hasB (stepS s i true).ns.length (i : Int) = true := (has_iff _ _).2 ⟨i, rfl, by omega⟩
  have hm := g2.n1
  by_cases e : s.now = 2147483646
  · refine .inl ⟨e, ?_⟩
    unfold stepE
    rw [if_neg (by rw [hh]; exact Bool.noConfusion), if_pos (.inl (by omega))]
  · refine .inr ⟨by omega, ?_, ?_, ?_⟩
    · unfold stepE
      rw [if_neg (by rw [hh]; exact Bool.noConfusion), if_neg (by rintro (h | ⟨h, _⟩); omega; cases h), if_neg]
      rintro ⟨_, h⟩
      rw [Int.toNat_natCast] at h
      have : nN (stepS s i true) i = 0 := h
      omega
    · refine List.ext_getElem (by rw [(stepS_len _ _ _).1, hl.1]) fun j h1 h2 => ?_
      have e2 := stepS_n (stepS s i true) i false (by omega) j
      rw [← getD_lt h1, ← getD_lt h2]
      show nN _ j = nN s j
      rw [e2]
      by_cases ej : j = i
      · subst ej
        rw [if_pos rfl, if_neg Bool.false_ne_true, hn]
        omega
      · rw [if_neg ej, stepS_n s i true hi, if_neg ej]
    · refine List.ext_getElem (by rw [(stepS_len _ _ _).2, hl.2]) fun j h1 h2 => ?_
      have hio : i < s.os.length := by have := g.lo; omega
      have e2 := stepS_o (stepS s i true) i false (by omega) j
      rw [← getD_lt h1, ← getD_lt h2]
      show oO _ j = oO s j
      rw [e2]
      by_cases ej : j = i
      · subst ej
        rw [if_pos rfl, if_neg Bool.false_ne_true, hn, stepS_o s j true hio, if_pos rfl, if_pos rfl]
        by_cases hz : nN s j = 0
        · rw [if_pos (by omega)]
          omega
        · rw [if_neg (by omega), if_neg hz]
      · rw [if_neg ej, stepS_o s i true hio, if_neg ej]

end Go.Proofs.Ytjfphhemhaphbab
