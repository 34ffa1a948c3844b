/-
  Opening arguments of layer 12: a row of numbers.
  Conditions: none.
-/
import Derived.Test.YtdmcijfjnegcgaaJA3
import Derived.Test.YtdmcijfjnegcgaaJA4
import Derived.Test.YtdmcijfjnegcgaaJA2
import Derived.Laws.EntriesVeiled
import Derived.StillTail
import Derived.Deep.RegionWith
import Derived.StillTailTactics
/-
  Package reader: the mathematics of the statements: what is passed, and what comes of a step.
  Conditions: none.
-/
namespace Go.Proofs.Ytdmcijfjnegcgaa

theorem oldM_spec : ∀ (n : Nat) (l : List (Int × Int)), l.length = n → (∀ x ∈ l, 1 ≤ x.2) → (l = [] → oldM l = 0) ∧ (l ≠ [] → ∃ x ∈ l, oldM l = x.2) ∧ ∀ x ∈ l, oldM l ≤ x.2
  | 0, l, hl, _ => by
    obtain rfl := List.eq_nil_of_length_eq_zero hl
    exact ⟨fun _ => rfl, fun h => absurd rfl h, fun x hx => by cases hx⟩
  | n + 1, l', hl, h => by
    obtain ⟨l, y, rfl⟩ : ∃ l y, l' = l ++ [y] := by
      rcases List.eq_nil_or_concat l' with rfl | ⟨l, y, e⟩
      · cases hl
      · exact ⟨l, y, by rw [e, List.concat_eq_append]⟩
    have ih := oldM_spec n l (by simpa using hl)
    obtain ⟨h1, h2, h3⟩ := ih (fun x hx => h x (by simp [hx]))
    have hy := h y (by simp)
    refine ⟨fun e => by simp at e, fun _ => ?_, fun x hx => ?_⟩
    · rw [oldM_snoc]
      by_cases ha : aheadB (oldM l) y.2 = true
      · rw [if_pos ha]; exact ⟨y, by simp, rfl⟩
      · rw [if_neg ha]
        have hne : l ≠ [] := fun e => ha (by unfold aheadB; rw [h1 e]; rfl)
        obtain ⟨x, hx, he⟩ := h2 hne
        exact ⟨x, by simp [hx], he⟩
    · rw [oldM_snoc]
      by_cases ha : aheadB (oldM l) y.2 = true
      · rw [if_pos ha]
        rcases List.mem_append.1 hx with hx | hx
        · have hle := h3 x hx
          obtain ⟨z, hz, he⟩ := h2 (by intro e; rw [e] at hx; cases hx)
          have hz1 := h z (by simp [hz])
          unfold aheadB at ha
          simp only [Bool.or_eq_true, decide_eq_true_eq] at ha
          omega
        · rw [List.mem_singleton.1 hx]; exact Int.le_refl _
      · rw [if_neg ha]
        unfold aheadB at ha
        simp only [Bool.or_eq_true, decide_eq_true_eq, not_or] at ha
        rcases List.mem_append.1 hx with hx | hx
        · exact h3 x hx
        · rw [List.mem_singleton.1 hx]; omega
theorem Good.secs {s : RdS} (g : Good s) : ∀ x, x ∈ secs (s.ns.zip s.os) ↔ ∃ i, i < s.ns.length ∧ nN s i ≠ 0 ∧ x = (nN s i, oO s i) := fun x => by
  have hz : (s.ns.zip s.os).length = s.ns.length := by have := g.lo; simp; omega
  unfold Go.Proofs.Ytdmcijfjnegcgaa.secs
  rw [List.mem_filter]
  constructor
  · rintro ⟨h1, h2⟩
    obtain ⟨i, hi, rfl⟩ := List.getElem_of_mem h1
    have e := zip_at s g.lo i hi
    rw [e] at h2 ⊢
    refine ⟨i, by omega, fun h0 => ?_, rfl⟩
    have := g.each i (by omega)
    have hb := (secB_iff _ _).1 h2
    simp only at hb
    omega
  · rintro ⟨i, hi, h0, rfl⟩
    have e := zip_at s g.lo i (by omega)
    exact ⟨by rw [← e]; exact List.getElem_mem _, (secB_iff _ _).2 (fun h => h0 h.1)⟩
/-- What is passed. -/
theorem pass_iff {s : RdS} (g : Good s) (t : Int) : passB s.now (oldM (secs (s.ns.zip s.os))) t = true ↔ 0 ≤ t ∧ t ≤ s.now ∧ ∀ i, i < s.ns.length → nN s i ≠ 0 → t < oO s i := by
  have hp : ∀ x ∈ secs (s.ns.zip s.os), 1 ≤ x.2 := fun x hx => by
    obtain ⟨i, hi, h0, rfl⟩ := (g.secs x).1 hx
    have := g.each i hi
    simp only
    omega
  obtain ⟨h1, h2, h3⟩ := oldM_spec _ _ rfl hp
  unfold passB
  simp only [Bool.and_eq_true, Bool.or_eq_true, decide_eq_true_eq]
  constructor
  · rintro ⟨a, b, c⟩
    refine ⟨a, b, fun i hi h0 => ?_⟩
    have hm := (g.secs _).2 ⟨i, hi, h0, rfl⟩
    have h4 := h3 _ hm
    obtain ⟨x, hx, he⟩ := h2 (by intro e; rw [e] at hm; cases hm)
    have := hp x hx
    simp only at h4
    omega
  · rintro ⟨a, b, c⟩
    refine ⟨a, b, ?_⟩
    by_cases hne : secs (s.ns.zip s.os) = []
    · exact .inl (h1 hne)
    · obtain ⟨x, hx, he⟩ := h2 hne
      obtain ⟨i, hi, h0, rfl⟩ := (g.secs x).1 hx
      exact .inr (by rw [he]; exact c i hi h0)
theorem pass_now {s : RdS} (g : Good s) : passB s.now (oldM (secs (s.ns.zip s.os))) s.now = true ↔ ∀ i, i < s.ns.length → nN s i = 0 := by
  rw [pass_iff g]
  constructor
  · rintro ⟨_, _, h⟩ i hi
    have := g.each i hi
    by_cases h0 : nN s i = 0
    · exact h0
    · have := h i hi h0
      omega
  · intro h
    exact ⟨g.n0, Int.le_refl _, fun i hi h0 => absurd (h i hi) h0⟩
/-- Once a step is passed it stays so. -/
theorem pass_stays {s : RdS} {c : Int} {en : Bool} (g : Good s) (h : stepE s c en = 0) (t : Int) (hp : passB s.now (oldM (secs (s.ns.zip s.os))) t = true) : passB (stepS s c en).now (oldM (secs ((stepS s c en).ns.zip (stepS s c en).os))) t = true := by
  have g2 := g.step h
  rw [pass_iff g] at hp
  rw [pass_iff g2]
  obtain ⟨i, rfl, hi, hnow, h8, h0⟩ := stepE_zero h
  obtain ⟨p1, p2, p3⟩ := hp
  have hl := stepS_len s i en
  have hio : i < s.os.length := by have := g.lo; omega
  rw [stepS_now]
  refine ⟨p1, by omega, fun j hj hne => ?_⟩
  rw [hl.1] at hj
  rw [stepS_n s i en hi] at hne
  rw [stepS_o s i en hio]
  by_cases e : j = i
  · subst e
    rw [if_pos rfl] at hne
    rw [if_pos (rfl : j = j)]
    have := p3 j hj
    cases en
    · have := h0 rfl
      simp only [Bool.false_eq_true, if_false] at hne ⊢
      split <;> omega
    · simp only [if_true] at hne ⊢
      split <;> omega
  · rw [if_neg e] at hne
    rw [if_neg e]
    exact p3 j hj hne
theorem quiet_iff {s : RdS} (g : Good s) (i : Nat) (hi : i < s.ns.length) : quietB s (i : Int) = decide (nN s i = 0) := by
  unfold quietB
  rw [(good_iff s).2 g, Bool.true_and, (has_iff _ _).2 ⟨i, rfl, hi⟩, Bool.true_and, Int.toNat_natCast]
  rfl
/-- Behind an entry: not quiet, and the step is not passed. -/
theorem enter_then {s : RdS} {c : Int} (g : Good s) (h : stepE s c true = 0) : quietB (stepS s c true) c = false ∧ passB (stepS s c true).now (oldM (secs ((stepS s c true).ns.zip (stepS s c true).os))) (stepS s c true).now = false := by
  have g2 := g.step h
  obtain ⟨i, rfl, hi, hnow, h8, h0⟩ := stepE_zero h
  have hl := stepS_len s i true
  have hn := stepS_n s i true hi i
  rw [if_pos rfl, if_pos rfl] at hn
  have := g.each i hi
  refine ⟨by rw [quiet_iff g2 i (by omega), decide_eq_false (by omega)], ?_⟩
  cases hh : passB (stepS s i true).now (oldM (secs ((stepS s i true).ns.zip (stepS s i true).os))) (stepS s i true).now with
  | false => rfl
  | true =>
    have := (pass_now g2).1 hh i (by omega)
    omega
/-- Entered, and left: as it was, but for Now. -/
theorem enter_leave {s : RdS} {c : Int} (g : Good s) (h : stepE s c true = 0) : (s.now = 2147483646 ∧ stepE (stepS s c true) c false = 6) ∨
    (s.now < 2147483646 ∧ stepE (stepS s c true) c false = 0 ∧ (stepS (stepS s c true) c false).ns = s.ns ∧ (stepS (stepS s c true) c false).os = s.os) := by
  have g2 := g.step h
  obtain ⟨i, rfl, hi, hnow, h8, h0⟩ := stepE_zero h
  have hl := stepS_len s i true
  have hn := stepS_n s i true hi i
  rw [if_pos rfl, if_pos rfl] at hn
  have hi1 := g.each i hi
  have hs := stepS_now s i true
  have hh : hasB (stepS s i true).ns.length (i : Int) = true := (has_iff _ _).2 ⟨i, rfl, by omega⟩
  have hm := g2.n1
  by_cases e : s.now = 2147483646
  · refine .inl ⟨e, ?_⟩
    unfold stepE
    rw [if_neg (by rw [hh]; exact Bool.noConfusion), if_pos (.inl (by omega))]
  · refine .inr ⟨by omega, ?_, ?_, ?_⟩
    · unfold stepE
      rw [if_neg (by rw [hh]; exact Bool.noConfusion), if_neg (by rintro (h | ⟨h, _⟩); omega; cases h), if_neg]
      rintro ⟨_, h⟩
      rw [Int.toNat_natCast] at h
      have : nN (stepS s i true) i = 0 := h
      omega
    · refine List.ext_getElem (by rw [(stepS_len _ _ _).1, hl.1]) fun j h1 h2 => ?_
      have e2 := stepS_n (stepS s i true) i false (by omega) j
      rw [← getD_lt h1, ← getD_lt h2]
      show nN _ j = nN s j
      rw [e2]
      by_cases ej : j = i
      · subst ej
        rw [if_pos rfl, if_neg Bool.false_ne_true, hn]
        omega
      · rw [if_neg ej, stepS_n s i true hi, if_neg ej]
    · refine List.ext_getElem (by rw [(stepS_len _ _ _).2, hl.2]) fun j h1 h2 => ?_
      have hio : i < s.os.length := by have := g.lo; omega
      have e2 := stepS_o (stepS s i true) i false (by omega) j
      rw [← getD_lt h1, ← getD_lt h2]
      show oO _ j = oO s j
      rw [e2]
      by_cases ej : j = i
      · subst ej
        rw [if_pos rfl, if_neg Bool.false_ne_true, hn, stepS_o s j true hio, if_pos rfl, if_pos rfl]
        by_cases hz : nN s j = 0
        · rw [if_pos (by omega)]
          omega
        · rw [if_neg (by omega), if_neg hz]
      · rw [if_neg ej, stepS_o s i true hio, if_neg ej]

end Go.Proofs.Ytdmcijfjnegcgaa
/-
  Package grace, in mathematics: which graces may be, and stay so; ticks, one behind the other.
  Conditions: none.
-/
namespace Go.Proofs.Ytdmcijfjnegcgaa
open Go.RowKit Go.Shelf

def ndB (g : GrS) (i : Nat) : Bool := g.nd.getD i false
structure GoodG (g : GrS) : Prop where
  l1 : 1 ≤ g.nd.length
  l8 : g.nd.length ≤ 8
  d0 : 0 ≤ g.done
  a1 : g.asked ≤ 2147483645
  on1 : g.on = true → (∃ i, i < g.nd.length ∧ ndB g i = true) ∧ g.done < g.asked ∧ g.asked ≤ g.done + 2
  on0 : g.on = false → (∀ i, i < g.nd.length → ndB g i = false) ∧ g.done ≤ g.asked ∧ g.asked ≤ g.done + 1
theorem many_pos (nd : List Bool) : 0 < manyG nd ↔ ∃ i, i < nd.length ∧ nd.getD i false = true := by
  unfold manyG
  constructor
  · intro h
    cases hl : trN nd nd.length with
    | nil => rw [hl] at h; simp at h
    | cons x r =>
      have hx : x ∈ trN nd nd.length := by rw [hl]; simp
      obtain ⟨i, h1, _, h2⟩ := (trN_mem nd x _).1 hx
      exact ⟨i, h1, h2⟩
  · rintro ⟨i, h1, h2⟩
    have : (i : Int) ∈ trN nd nd.length := (trN_mem nd _ _).2 ⟨i, h1, rfl, h2⟩
    exact List.length_pos_of_mem this
theorem goodG_iff (g : GrS) : mayG g = true ↔ GoodG g := by
  unfold mayG numsG mayCpus tellG
  constructor
  · intro h
    simp only [Bool.and_eq_true, decide_eq_true_eq] at h
    obtain ⟨⟨h1, h2, h3, h4⟩, h5⟩ := h
    refine ⟨by omega, by omega, h2, h4, fun ho => ?_, fun ho => ?_⟩
    · rw [if_pos ho] at h5
      simp only [Bool.and_eq_true, decide_eq_true_eq] at h5
      exact ⟨(many_pos _).1 (by omega), by omega, by omega⟩
    · rw [if_neg (by rw [ho]; exact Bool.false_ne_true)] at h5
      simp only [Bool.and_eq_true, decide_eq_true_eq] at h5
      refine ⟨fun i hi => ?_, h3, by omega⟩
      cases hb : ndB g i with
      | false => rfl
      | true => have := (many_pos g.nd).2 ⟨i, hi, hb⟩; omega
  · rintro ⟨l1, l8, d0, a1, on1, on0⟩
    have key : g.done ≤ g.asked := by
      cases ho : g.on with
      | true => have := on1 ho; omega
      | false => have := on0 ho; omega
    simp only [Bool.and_eq_true, decide_eq_true_eq]
    refine ⟨⟨by omega, d0, key, a1⟩, ?_⟩
    cases ho : g.on with
    | true =>
      obtain ⟨h1, h2, h3⟩ := on1 ho
      rw [if_pos rfl]
      simp only [Bool.and_eq_true, decide_eq_true_eq]
      have := (many_pos g.nd).2 h1
      omega
    | false =>
      obtain ⟨h1, h2, h3⟩ := on0 ho
      rw [if_neg Bool.false_ne_true]
      simp only [Bool.and_eq_true, decide_eq_true_eq]
      refine ⟨?_, by omega⟩
      have : ¬ 0 < manyG g.nd := fun h => by
        obtain ⟨i, hi, hb⟩ := (many_pos _).1 h
        have := h1 i hi
        unfold ndB at this
        rw [hb] at this; cases this
      omega
theorem last_iff (nd : List Bool) (i : Nat) : lastB nd i = true ↔ ∀ j, j < nd.length → nd.getD j false = true → j = i := by
  unfold lastB
  rw [List.all_eq_true]
  constructor
  · intro h j hj hb
    have := h (j : Int) ((trN_mem nd _ _).2 ⟨j, hj, rfl, hb⟩)
    rw [beq_iff_eq] at this
    omega
  · intro h x hx
    obtain ⟨j, hj, rfl, hb⟩ := (trN_mem nd x _).1 hx
    rw [beq_iff_eq, h j hj hb]
theorem getB_set (l : List Bool) (k : Nat) (x : Bool) (i : Nat) : (l.set k x).getD i false = if i = k ∧ k < l.length then x else l.getD i false := by
  rw [List.getD_eq_getElem?_getD, List.getElem?_set, List.getD_eq_getElem?_getD]
  by_cases h : k = i
  · subst h
    by_cases h2 : k < l.length
    · simp [h2]
    · simp [h2]
  · rw [if_neg h, if_neg (fun e => h e.1.symm)]
theorem GoodG.next {g : GrS} (h : GoodG g) : g.asked ≤ nextG g ∧ nextG g ≤ g.done + 2 ∧ g.done < nextG g := by
  unfold nextG
  cases ho : g.on with
  | true => have := h.on1 ho; rw [if_pos rfl]; omega
  | false => have := h.on0 ho; rw [if_neg Bool.false_ne_true]; omega
theorem GoodG.ask {g : GrS} (h : GoodG g) (he : askE g = 0) : GoodG (askG g) := by
  have hx : ¬ 2147483645 < nextG g := fun hx => by unfold askE at he; rw [if_pos hx] at he; cases he
  have hn := h.next
  refine ⟨h.l1, h.l8, h.d0, (by show nextG g ≤ _; omega), fun ho => ⟨(h.on1 ho).1, (by show g.done < nextG g; omega), (by show nextG g ≤ _; exact hn.2.1)⟩, fun ho => ⟨(h.on0 ho).1, (by show g.done ≤ nextG g; omega), ?_⟩⟩
  show nextG g ≤ _
  have ho' : g.on = false := ho
  unfold nextG
  rw [if_neg (by rw [ho']; exact Bool.false_ne_true)]
  exact Int.le_refl _
theorem GoodG.begin {g : GrS} (h : GoodG g) (he : beginE g = 0) : GoodG (beginG g) := by
  unfold beginE at he
  have ho : g.on = false := by cases ho : g.on with | false => rfl | true => rw [ho, if_pos rfl] at he; cases he
  rw [if_neg (by rw [ho]; exact Bool.false_ne_true)] at he
  have hne : ¬ g.asked = g.done := fun e => by rw [if_pos e] at he; cases he
  obtain ⟨h1, h2, h3⟩ := h.on0 ho
  refine ⟨by rw [beginG_len]; exact h.l1, by rw [beginG_len]; exact h.l8, h.d0, h.a1, fun _ => ⟨⟨0, by rw [beginG_len]; exact h.l1, ?_⟩, (by show g.done < g.asked; omega), (by show g.asked ≤ g.done + 2; omega)⟩, fun ho => by cases ho⟩
  unfold ndB beginG
  have := h.l1
  rw [List.getD_eq_getElem?_getD, List.getElem?_replicate, if_pos (by omega)]
  rfl
theorem GoodG.report {g : GrS} (h : GoodG g) (i : Nat) (ho : g.on = true) : GoodG (reportG g i) := by
  obtain ⟨⟨j, hj, hb⟩, h2, h3⟩ := h.on1 ho
  unfold reportG
  by_cases hl : lastB g.nd i = true
  · rw [if_pos hl]
    refine ⟨by simp only [List.length_set]; exact h.l1, by simp only [List.length_set]; exact h.l8, (by have := h.d0; show 0 ≤ g.done + 1; omega), h.a1, fun e => by (cases e), fun _ => ⟨fun k hk => ?_, (by show g.done + 1 ≤ g.asked; omega), (by show g.asked ≤ g.done + 1 + 1; omega)⟩⟩
    simp only [List.length_set] at hk
    unfold ndB
    simp only
    rw [getB_set]
    split
    · rfl
    · rename_i hn
      cases hb : g.nd.getD k false with
      | false => rfl
      | true =>
        have := (last_iff g.nd i).1 hl k hk hb
        subst this
        exact absurd ⟨rfl, hk⟩ hn
  · rw [if_neg hl]
    have : ∃ k, k < g.nd.length ∧ g.nd.getD k false = true ∧ k ≠ i := by
      refine Classical.byContradiction fun hc => hl ((last_iff g.nd i).2 fun k hk hb => ?_)
      exact Classical.byContradiction fun he => hc ⟨k, hk, hb, he⟩
    obtain ⟨k, hk, hb, hki⟩ := this
    refine ⟨by simp only [List.length_set]; exact h.l1, by simp only [List.length_set]; exact h.l8, h.d0, h.a1, fun _ => ⟨⟨k, by simp only [List.length_set]; exact hk, ?_⟩, h2, h3⟩, fun e => by rw [ho] at e; cases e⟩
    unfold ndB
    simp only
    rw [getB_set, if_neg (fun e => hki e.1)]
    exact hb
theorem GoodG.pick {g : GrS} (h : GoodG g) (i : Nat) (q : Bool) : GoodG (pickG g i q) := by
  unfold pickG
  split
  · rename_i ho
    split
    · exact h.report i ho
    · exact h
  · rename_i ho
    split
    · rename_i hlt
      exact h.begin (by unfold beginE; rw [if_neg ho, if_neg (by omega)])
    · exact h

/-- Readers, a grace, and the numbers that were asked for. -/
structure PlS where
  s : RdS
  g : GrS
  ls : List Int
/-- The error of a tick; 0: none. -/
def tickE (P : PlS) (t : Int × Int) : Int :=
  if t.1 = 1 then stepE P.s t.2 true else if t.1 = 2 then stepE P.s t.2 false else if t.1 = 3 then (if hasB P.g.nd.length t.2 = false then 2 else askE P.g) else if t.1 = 4 then (if hasB P.g.nd.length t.2 = false then 2 else 0) else 221
def tickP (P : PlS) (t : Int × Int) : PlS :=
  if t.1 = 1 then ⟨stepS P.s t.2 true, P.g, P.ls⟩ else if t.1 = 2 then ⟨stepS P.s t.2 false, P.g, P.ls⟩ else if t.1 = 3 then ⟨P.s, askG P.g, P.ls ++ [nextG P.g]⟩ else ⟨P.s, pickG P.g t.2.toNat (quietB P.s t.2), P.ls⟩
def playE : PlS → List (Int × Int) → Int
  | _, [] => 0
  | P, t :: l => if tickE P t = 0 then playE (tickP P t) l else tickE P t
def playP (P : PlS) (l : List (Int × Int)) : PlS := l.foldl tickP P
structure GoodP (P : PlS) : Prop where
  s : Good P.s
  g : GoodG P.g
  len : P.s.ns.length = P.g.nd.length
theorem GoodP.tick {P : PlS} (h : GoodP P) {t : Int × Int} (he : tickE P t = 0) : GoodP (tickP P t) := by
  unfold tickE at he
  unfold tickP
  by_cases h1 : t.1 = 1
  · rw [if_pos h1] at he ⊢
    exact ⟨h.s.step he, h.g, by rw [show (stepS P.s t.2 true).ns.length = P.s.ns.length from (stepS_len _ _ _).1]; exact h.len⟩
  · rw [if_neg h1] at he ⊢
    by_cases h2 : t.1 = 2
    · rw [if_pos h2] at he ⊢
      exact ⟨h.s.step he, h.g, by rw [show (stepS P.s t.2 false).ns.length = P.s.ns.length from (stepS_len _ _ _).1]; exact h.len⟩
    · rw [if_neg h2] at he ⊢
      by_cases h3 : t.1 = 3
      · rw [if_pos h3] at he ⊢
        have : askE P.g = 0 := by
          by_cases hh : hasB P.g.nd.length t.2 = false
          · rw [if_pos hh] at he; cases he
          · rw [if_neg hh] at he; exact he
        exact ⟨h.s, h.g.ask this, h.len⟩
      · rw [if_neg h3]
        exact ⟨h.s, h.g.pick _ _, by rw [show (pickG P.g t.2.toNat (quietB P.s t.2)).nd.length = P.g.nd.length from pickG_len _ _ _]; exact h.len⟩
theorem tick_ls (P : PlS) (t : Int × Int) : (tickP P t).ls.length ≤ P.ls.length + 1 := by
  unfold tickP
  repeat' split
  all_goals simp
theorem tick_len {P : PlS} (h : GoodP P) {t : Int × Int} (he : tickE P t = 0) : (tickP P t).g.nd.length = P.g.nd.length := by
  have h1 := (h.tick he).len
  unfold tickP
  repeat' split
  all_goals first | rfl | exact pickG_len _ _ _

end Go.Proofs.Ytdmcijfjnegcgaa
/-
  Package grace: what each kind of tick does to a turn.
  Conditions: the ranges of Go's types.
-/
namespace Go.Proofs.Ytdmcijfjnegcgaa
set_option maxRecDepth 100000
open Go.RowKit Go.Shelf
attribute [local go_sem] Oper.semAt_some

def rowV (b n : Nat) : Value := .slice (some ⟨b, 0, none⟩) n n
theorem rowV_sl (b n : Nat) : IsSl (rowV b n) := ⟨_, _, _, rfl⟩
/-- A turn with readers, in memory. -/
structure PlAt (W : World) (z B : Nat) (P : PlS) (n gb hb nb : Nat) (lv : Value) : Prop where
  tu : TuAt W z B P.s.now (rowV gb n) (rowV hb n) P.g n nb lv P.ls
  nest : IBlock W gb P.s.ns
  opened : IBlock W hb P.s.os
  good : GoodP P
  ap : ∀ q, lv.ownBlock = some q → q ≠ gb ∧ q ≠ hb
  hB : B ≤ W.heap.size
theorem PlAt.ln {W : World} {z B : Nat} {P : PlS} {n gb hb nb : Nat} {lv : Value} (k : PlAt W z B P n gb hb nb lv) : P.s.ns.length = n ∧ P.s.os.length = n ∧ P.g.nd.length = n := by
  have h1 := k.tu.len
  have h2 := k.good.len
  have h3 := k.good.s.lo
  omega
theorem TBox.ne_ints {W : World} {z gb : Nat} {now : Int} {u v : Value} {d a : Int} {on : Bool} {nv lv : Value} {ns : List Int} (h : TBox W z now u v d a on nv lv) (k : IBlock W gb ns) : gb ≠ z := fun e => by
  have h1 : W.heap[z]? = _ := h
  have h2 : W.heap[gb]? = _ := k
  rw [e, h1] at h2; injection h2 with h2; injection h2 with _ h2 _; revert h2; decide
theorem BBlock.ne_ints {W : World} {nb gb : Nat} {bs : List Bool} {ns : List Int} (h : BBlock W nb bs) (k : IBlock W gb ns) : gb ≠ nb := fun e => by
  have h1 : W.heap[nb]? = _ := h
  have h2 : W.heap[gb]? = _ := k
  rw [e, h1] at h2; injection h2 with h2; injection h2 with _ h2 _; revert h2; decide
theorem PlAt.keeps {S : Nat → Prop} {W W' : World} {z B : Nat} {P : PlS} {n gb hb nb : Nat} {lv : Value} (k : PlAt W z B P n gb hb nb lv) (hk : Keeps S W W') (hz : ¬ S z) (hn : ¬ S nb) (hg : ¬ S gb) (hh : ¬ S hb) (hl : ∀ q, lv.ownBlock = some q → ¬ S q) : PlAt W' z B P n gb hb nb lv :=
  ⟨k.tu.keeps hk hz hn hl, k.nest.keeps hk hg, k.opened.keeps hk hh, k.good, k.ap, Nat.le_trans k.hB hk.size⟩
theorem PlAt.below {W W' : World} {z B : Nat} {P : PlS} {n gb hb nb : Nat} {lv : Value} (k : PlAt W z B P n gb hb nb lv) (hb' : Below W.heap.size W W') : PlAt W' z B P n gb hb nb lv :=
  k.keeps (Keeps.of_below (S := fun _ => False) hb') id id id id (fun _ _ => id)
theorem PlAt.any {W : World} {z B : Nat} {P : PlS} {n gb hb nb : Nat} {lv : Value} (k : PlAt W z B P n gb hb nb lv) : TAny W z := k.tu.any (rowV_sl _ _) (rowV_sl _ _)
/-- What a tick leaves, or with which error it was left: only what the turn holds, and new memory, changes. -/
def TickQ (z B : Nat) (E : Int) (P' : PlS) (n nb : Nat) (S : Nat → Prop) (e : Ending) (W w' : World) : Prop :=
  Keeps S W w' ∧ ((E ≠ 0 ∧ e = woe E ∧ TAny w' z) ∨ (E = 0 ∧ e = .returned (.tuple #[]) ∧ ∃ gb hb lv, PlAt w' z B P' n gb hb nb lv ∧ ∀ q, lv.ownBlock = some q → S q ∨ W.heap.size ≤ q))

set_option maxHeartbeats 8000000 in
theorem pask_c (z B : Nat) (P : PlS) (n gb hb nb : Nat) (lv : Value) (c : Int) (W : World) (k : PlAt W z B P n gb hb nb lv) (hls : P.ls.length ≤ 1000000) :
    Calls Try.prog 82 #[.pointer (some ⟨z, 0, none⟩), .int .i64 c] W fun e w' => TickQ z B (tickE P (3, c)) (tickP P (3, c)) n nb (fun q => q = z ∨ some q = lv.ownBlock) e W w' := by
  have HE := Lib.hid (show tickE P (3, c) = if hasB n c = false then 2 else askE P.g by unfold tickE; simp only [k.ln.2.2]; rfl)
  have HP := Lib.hid (show tickP P (3, c) = ⟨P.s, askG P.g, P.ls ++ [nextG P.g]⟩ from rfl)
  have HG := Lib.hid (fun h => k.good.tick (t := (3, c)) h)
  have hd0 := k.good.g.d0
  have hda : P.g.done ≤ 2147483645 := by have := (mayG_facts ((goodG_iff _).2 k.good.g)); omega
  have HK := Lib.hid k
  cases hh : hasB n c with
  | false =>
    rw [hh, if_pos rfl] at HE
    have HC := Lib.hid (gat_no z _ _ _ _ _ _ _ n n lv c W k.tu.box hh)
    clear hh k
    go_enter Try.func82, Try.ntmps82
    go_wp2_with fail
    (with_reducible refine HC.out.mono ?_)
    rintro e w1 ⟨rfl, hb1⟩
    exact ⟨rfl, Keeps.of_below hb1, .inl ⟨by rw [HE.out]; decide, by rw [HE.out]; rfl, (HK.out.below hb1).any⟩⟩
  | true =>
    rw [hh, if_neg (by simp)] at HE
    have HC := Lib.hid (gat_ok z _ _ _ _ _ _ _ n n lv c W k.tu.box hh)
    clear hh k
    go_enter Try.func82, Try.ntmps82
    go_wp2_with fail
    (with_reducible refine HC.out.mono ?_)
    rintro e w1 ⟨rfl, hb1⟩
    have HK1 := Lib.hid (And.intro (HK.out.below hb1) (Keeps.of_below (S := fun q => q = z ∨ some q = lv.ownBlock) hb1))
    clear hb1 HC
    by_cases hx : 2147483645 < nextG P.g
    · have HX := Lib.hid (show askE P.g = 6 by unfold askE; rw [if_pos hx])
      have HC2 := Lib.hid (gorder_no z B P.s.now (rowV gb n) (rowV hb n) P.g n nb lv P.ls w1 HK1.out.1.tu hd0 hda hx)
      clear hx
      go_wp2_with fail
      (with_reducible refine HC2.out.mono ?_)
      rintro e w2 ⟨rfl, hw2⟩
      rw [hw2]
      exact ⟨rfl, HK1.out.2, .inl ⟨by rw [HE.out, HX.out]; decide, by rw [HE.out, HX.out]; rfl, HK1.out.1.any⟩⟩
    · have HX := Lib.hid (show askE P.g = 0 by unfold askE; rw [if_neg hx])
      have HC2 := Lib.hid (gorder_ok z B P.s.now (rowV gb n) (rowV hb n) P.g n nb lv P.ls w1 HK1.out.1.tu hd0 (by omega) HK1.out.1.hB hls)
      clear hx
      go_wp2_with fail
      (with_reducible refine HC2.out.mono ?_)
      rintro e w2 ⟨rfl, lv2, k2, hk2, hfr, hB2⟩
      have k1 := HK1.out.1
      have HR := Lib.hid (show TickQ z B (tickE P (3, c)) (tickP P (3, c)) n nb (fun q => q = z ∨ some q = lv.ownBlock) (.returned (.tuple #[])) W w2 by
        have hng : ∀ {b : Nat} {ns : List Int}, IBlock w1 b ns → (∀ q, lv.ownBlock = some q → q ≠ b) → ¬ (b = z ∨ some b = lv.ownBlock) := fun hb hap e => by
          rcases e with e | e
          · exact k1.tu.box.ne_ints hb e
          · exact hap _ e.symm rfl
        refine ⟨HK1.out.2.trans hk2, .inr ⟨by rw [HE.out, HX.out], rfl, gb, hb, lv2, ⟨?_, ?_, ?_, HG.out (by rw [HE.out, HX.out]), ?_, hB2⟩, ?_⟩⟩
        · rw [HP.out]; exact k2
        · rw [HP.out]; exact k1.nest.keeps hk2 (hng k1.nest (fun q hq => (k1.ap q hq).1))
        · rw [HP.out]; exact k1.opened.keeps hk2 (hng k1.opened (fun q hq => (k1.ap q hq).2))
        · intro q hq
          rcases hfr q hq with h | h
          · exact k1.ap q h
          · have h1 := k1.nest.lt
            have h2 := k1.opened.lt
            omega
        · intro q hq
          rcases hfr q hq with h | h
          · exact .inl (.inr h.symm)
          · exact .inr (Nat.le_trans HK1.out.2.size h))
      clear k2 hk2 hfr hB2 k1
      go_wp2
      go_end0
      exact HR.out

set_option maxHeartbeats 8000000 in
theorem ppick_c (z B : Nat) (P : PlS) (n gb hb nb : Nat) (lv : Value) (c : Int) (W : World) (k : PlAt W z B P n gb hb nb lv) :
    Calls Try.prog 83 #[.pointer (some ⟨z, 0, none⟩), .int .i64 c] W fun e w' => TickQ z B (tickE P (4, c)) (tickP P (4, c)) n nb (fun q => q = z ∨ q = nb ∨ some q = lv.ownBlock) e W w' := by
  have HE := Lib.hid (show tickE P (4, c) = if hasB n c = false then 2 else 0 by unfold tickE; simp only [k.ln.2.2]; rfl)
  have HP := Lib.hid (show tickP P (4, c) = ⟨P.s, pickG P.g c.toNat (quietB P.s c), P.ls⟩ from rfl)
  have HG := Lib.hid (fun h => k.good.tick (t := (4, c)) h)
  have hf := mayG_facts ((goodG_iff _).2 k.good.g)
  have HK := Lib.hid k
  have hln := k.ln
  have HQ := Lib.hid (quiet_c P.s (rowV gb n) (rowV hb n) c W (by have := k.nest.nums; rw [hln.1] at this; exact this) (by have := k.opened.nums; rw [hln.2.1] at this; exact this) (by omega) (by omega) k.good.s.rangeO)
  obtain ⟨d0, d1, d2, d3, d4, d5, d6, d7⟩ := k.tu.box.cells
  unfold rowV at d1 d2 HQ
  have HF := Lib.hid hf
  clear k hf
  go_enter Try.func83, Try.ntmps83
  go_wp2_with fail
  (with_reducible refine HQ.out.mono ?_)
  rintro e w1 ⟨rfl, hb1⟩
  have HK1 := Lib.hid (And.intro (HK.out.below hb1) (Keeps.of_below (S := fun q => q = z ∨ q = nb ∨ some q = lv.ownBlock) hb1))
  clear hb1 d0 d1 d2 d3 d4 d5 d6 d7 HQ
  cases hh : hasB n c with
  | false =>
    rw [hh, if_pos rfl] at HE
    have HC := Lib.hid (gpicked_no z B P.s.now (rowV gb n) (rowV hb n) P.g n nb lv P.ls c (quietB P.s c) w1 HK1.out.1.tu hh)
    clear hh
    go_wp2_with fail
    (with_reducible refine HC.out.mono ?_)
    rintro e w2 ⟨rfl, hb2⟩
    exact ⟨rfl, HK1.out.2.trans (Keeps.of_below hb2), .inl ⟨by rw [HE.out]; decide, by rw [HE.out]; rfl, (HK1.out.1.below hb2).any⟩⟩
  | true =>
    rw [hh, if_neg (by simp)] at HE
    obtain ⟨i, hic, hi⟩ := (has_iff _ _).1 hh
    subst hic
    have HC := Lib.hid (gpicked_ok z B P.s.now (rowV gb n) (rowV hb n) P.g n nb lv P.ls i (quietB P.s (i : Int)) w1 HK1.out.1.tu hi (by have := HF.out; omega) HF.out.2.2.1 (by have := HF.out; omega) HF.out.2.2.2.1)
    clear hh hi
    go_wp2_with fail
    (with_reducible refine HC.out.mono ?_)
    rintro e w2 ⟨rfl, k2, hk2⟩
    have k1 := HK1.out.1
    have HR := Lib.hid (show TickQ z B (tickE P (4, (i : Int))) (tickP P (4, (i : Int))) n nb (fun q => q = z ∨ q = nb ∨ some q = lv.ownBlock) (.returned (.tuple #[])) W w2 by
      have hng : ∀ {b : Nat} {ns : List Int}, IBlock w1 b ns → ¬ (b = z ∨ b = nb) := fun hb e => by
        rcases e with e | e
        · exact k1.tu.box.ne_ints hb e
        · exact k1.tu.needs.ne_ints hb e
      refine ⟨HK1.out.2.trans (hk2.sub (fun q _ h => h.elim .inl (fun h => .inr (.inl h)))), .inr ⟨HE.out, rfl, gb, hb, lv, ⟨?_, ?_, ?_, HG.out HE.out, k1.ap, Nat.le_trans k1.hB hk2.size⟩, fun q hq => .inl (.inr (.inr hq.symm))⟩⟩
      · rw [HP.out]; simp only [Int.toNat_natCast]; exact k2
      · rw [HP.out]; exact k1.nest.keeps hk2 (hng k1.nest)
      · rw [HP.out]; exact k1.opened.keeps hk2 (hng k1.opened))
    clear k2 hk2 k1
    go_wp2
    go_end0
    exact HR.out

end Go.Proofs.Ytdmcijfjnegcgaa
/-
  Package grace: a CPU of a turn enters a section, and leaves one; readers that a turn takes.
  Conditions: the ranges of Go's types.
-/
namespace Go.Proofs.Ytdmcijfjnegcgaa
set_option maxRecDepth 100000
open Go.RowKit Go.Shelf
attribute [local go_sem] Oper.semAt_some

theorem putRK (W : World) (z : Nat) (now : Int) (u v : Value) : Keeps (fun k => k = z) W (((W.setCell ⟨z, 0, none⟩ (.int .i64 now)).setCell ⟨z, 1, none⟩ u).setCell ⟨z, 2, none⟩ v) := ((setK W z 0 _).trans (setK _ z 1 _)).trans (setK _ z 2 _)
theorem TuAt.putR {W : World} {z B : Nat} {now0 : Int} {u0 v0 : Value} {g : GrS} {n nb : Nat} {lv : Value} {ls : List Int} (k : TuAt W z B now0 u0 v0 g n nb lv ls) (now : Int) (u v : Value) : TuAt (((W.setCell ⟨z, 0, none⟩ (.int .i64 now)).setCell ⟨z, 1, none⟩ u).setCell ⟨z, 2, none⟩ v) z B now u v g n nb lv ls :=
  ⟨k.box.putR now u v, k.len, k.needs.keeps (putRK W z now u v) (fun e => k.box.ne_bools k.needs e.symm), (putRK W z now u v).row k.nums (fun q hq e => k.box.ne_row k.nums q hq e)⟩

set_option maxHeartbeats 8000000 in
theorem penter_c (z B : Nat) (P : PlS) (n gb hb nb : Nat) (lv : Value) (c : Int) (W : World) (k : PlAt W z B P n gb hb nb lv) :
    Calls Try.prog 80 #[.pointer (some ⟨z, 0, none⟩), .int .i64 c] W fun e w' => TickQ z B (tickE P (1, c)) (tickP P (1, c)) n nb (fun q => q = z ∨ some q = lv.ownBlock) e W w' := by
  have HE := Lib.hid (show tickE P (1, c) = stepE P.s c true from rfl)
  have HP := Lib.hid (show tickP P (1, c) = ⟨stepS P.s c true, P.g, P.ls⟩ from rfl)
  have HG := Lib.hid (fun h => k.good.tick (t := (1, c)) h)
  have HK := Lib.hid k
  have hln := k.ln
  have HQ := Lib.hid (Enter_c P.s (rowV gb n) (rowV hb n) c W (by have := k.nest.nums; rw [hln.1] at this; exact this) (by have := k.opened.nums; rw [hln.2.1] at this; exact this) (by have := k.good.s.l8; omega) (by have := k.good.s.l8; omega) k.good.s.rangeO)
  obtain ⟨d0, d1, d2, d3, d4, d5, d6, d7⟩ := k.tu.box.cells
  unfold rowV at d1 d2 HQ
  have HM := Lib.hid ((good_iff _).2 k.good.s)
  have HZW := Lib.hid (show z < W.heap.size from k.tu.box.lt)
  have HLV := Lib.hid (show ∀ q, lv.ownBlock = some q → q < W.heap.size from fun q hq => (k.tu.nums.lt q hq).2)
  have HLN := Lib.hid hln
  clear k hln
  go_enter Try.func80, Try.ntmps80
  go_wp2_with fail
  (with_reducible refine HQ.out.mono ?_)
  rintro e w1 ⟨⟨nw, p1, n1, c1, p2, n2, c2, err, rfl, hQ⟩, hb1⟩
  obtain ⟨w2, hw2⟩ : ∃ X : World, X = w1.alloc (.cells #[.int .i64 nw, .slice p1 n1 c1, .slice p2 n2 c2] 45) := ⟨_, rfl⟩
  have hb2 : Below w1.heap.size w1 w2 := by rw [hw2]; exact below1 _ _
  have HBX := Lib.hid (show RBox w2 w1.heap.size nw (.slice p1 n1 c1) (.slice p2 n2 c2) by rw [hw2]; exact RBox.new _ _ _ _)
  have HK2 := Lib.hid (show PlAt w2 z B P n gb hb nb lv ∧ Below W.heap.size W w2 from ⟨(HK.out.below hb1).below hb2, below_then hb1 hb1.size hb2⟩)
  have HZ := Lib.hid (show z < w1.heap.size from (HK.out.below hb1).tu.box.lt)
  have hQ2 := hQ.keeps (Keeps.of_below (S := fun _ => False) hb2) (fun _ h => h.elim)
  clear hb1 hQ d0 d1 d2 d3 d4 d5 d6 d7 HQ HK hb2
  have HW2 := Lib.hid hw2
  clear hw2
  by_cases hE : stepE P.s c true = 0
  · have hq : err = 0 ∧ nw = (stepS P.s c true).now ∧ ∃ g' h' : Nat, W.heap.size + 2 ≤ g' ∧ W.heap.size + 2 ≤ h' ∧ g' ≠ h' ∧ (p1 = some ⟨g', 0, none⟩ ∧ n1 = (stepS P.s c true).ns.length ∧ c1 = (stepS P.s c true).ns.length) ∧ (p2 = some ⟨h', 0, none⟩ ∧ n2 = (stepS P.s c true).os.length ∧ c2 = (stepS P.s c true).os.length) ∧ IBlock w2 g' (stepS P.s c true).ns ∧ IBlock w2 h' (stepS P.s c true).os := by
      rcases hQ2 with h | h
      · rcases h.1 with h1 | h1
        · rw [HM.out] at h1; cases h1.1
        · exact absurd hE h1.2.1
      · exact ⟨h.2.2.1, h.2.2.2.1, h.2.2.2.2⟩
    obtain ⟨rfl, rfl, g', h', hg', hh', hgh, ⟨rfl, hn1, hc1⟩, ⟨rfl, hn2, hc2⟩, hI, hJ⟩ := hq
    have hl := stepS_len P.s c true
    have hn1' : n = n1 := by rw [hn1, hl.1]; exact HLN.out.1.symm
    have hc1' : n = c1 := by rw [hc1, hl.1]; exact HLN.out.1.symm
    have hn2' : n = n2 := by rw [hn2, hl.2]; exact HLN.out.2.1.symm
    have hc2' : n = c2 := by rw [hc2, hl.2]; exact HLN.out.2.1.symm
    clear hn1 hc1 hn2 hc2 hl hQ2
    subst hn1' hc1' hn2' hc2'
    obtain ⟨nw, hnw⟩ : ∃ x, x = (stepS P.s c true).now := ⟨_, rfl⟩
    have HX := Lib.hid (show IBlock w2 g' (stepS P.s c true).ns ∧ IBlock w2 h' (stepS P.s c true).os ∧ W.heap.size + 2 ≤ g' ∧ W.heap.size + 2 ≤ h' ∧ nw = (stepS P.s c true).now ∧ stepE P.s c true = 0 from ⟨hI, hJ, hg', hh', hnw, hE⟩)
    rw [← hnw] at HBX HW2 ⊢
    have k2 := HK2.out.1
    have hr := k2.tu.putR nw (rowV g' n) (rowV h' n)
    have hk := putRK w2 z nw (rowV g' n) (rowV h' n)
    have HR := Lib.hid (show TickQ z B (tickE P (1, c)) (tickP P (1, c)) n nb (fun q => q = z ∨ some q = lv.ownBlock) (.returned (.tuple #[])) W (((w2.setCell ⟨z, 0, none⟩ (.int .i64 nw)).setCell ⟨z, 1, none⟩ (rowV g' n)).setCell ⟨z, 2, none⟩ (rowV h' n)) by
      have hzg : ∀ {b : Nat}, W.heap.size + 2 ≤ b → ¬ b = z := fun hb e => by
        have := HZW.out
        omega
      refine ⟨((Keeps.of_below HK2.out.2).trans (hk.sub (fun _ _ h => .inl h))), .inr ⟨by rw [HE.out]; exact hE, rfl, g', h', lv, ⟨?_, ?_, ?_, HG.out (by rw [HE.out]; exact hE), ?_, Nat.le_trans k2.hB hk.size⟩, fun q hq => .inl (.inr hq.symm)⟩⟩
      · rw [HP.out, hnw]; rw [hnw] at hr; exact hr
      · rw [HP.out]; exact hI.keeps hk (hzg hg')
      · rw [HP.out]; exact hJ.keeps hk (hzg hh')
      · intro q hq
        have h1 := HLV.out q hq
        omega)
    unfold rowV at HR
    obtain ⟨e0, e1, e2⟩ := HBX.out.cells
    obtain ⟨d0, d1, d2, d3, d4, d5, d6, d7⟩ := HK2.out.1.tu.box.cells
    have m0 := HK2.out.1.tu.box.marks 0
    have m1 := HK2.out.1.tu.box.marks 1
    have m2 := HK2.out.1.tu.box.marks 2
    clear hI hJ hg' hh' hgh hnw hE k2 hr hk
    go_wp2_with fail
    rw [← HW2.out]
    (with_reducible refine (must_ok w2).mono ?_)
    rintro e w2' ⟨rfl, hww⟩
    rw [hww]
    clear hww
    go_wp2
    go_end0
    exact HR.out
  · have hq : err = stepE P.s c true ∧ nw = 0 ∧ (p1 = none ∧ n1 = 0 ∧ c1 = 0) ∧ (p2 = none ∧ n2 = 0 ∧ c2 = 0) := by
      rcases hQ2 with h | h
      · rcases h.1 with h1 | h1
        · rw [HM.out] at h1; cases h1.1
        · exact ⟨h1.2.2, h.2⟩
      · exact absurd h.2.1 hE
    obtain ⟨he, rfl, ⟨rfl, rfl, rfl⟩, ⟨rfl, rfl, rfl⟩⟩ := hq
    have hne : err ≠ 0 := by rw [he]; exact hE
    have HC := Lib.hid (must_no err hne w2)
    have HX := Lib.hid (And.intro he hE)
    clear he hE hne hQ2
    go_wp2_with fail
    rw [← HW2.out]
    (with_reducible refine HC.out.mono ?_)
    rintro e w3 ⟨rfl, hww⟩
    rw [hww]
    exact ⟨rfl, Keeps.of_below HK2.out.2, .inl ⟨by rw [HE.out]; exact HX.out.2, by rw [HE.out, ← HX.out.1]; rfl, HK2.out.1.any⟩⟩

set_option maxHeartbeats 8000000 in
theorem pleave_c (z B : Nat) (P : PlS) (n gb hb nb : Nat) (lv : Value) (c : Int) (W : World) (k : PlAt W z B P n gb hb nb lv) :
    Calls Try.prog 81 #[.pointer (some ⟨z, 0, none⟩), .int .i64 c] W fun e w' => TickQ z B (tickE P (2, c)) (tickP P (2, c)) n nb (fun q => q = z ∨ some q = lv.ownBlock) e W w' := by
  have HE := Lib.hid (show tickE P (2, c) = stepE P.s c false from rfl)
  have HP := Lib.hid (show tickP P (2, c) = ⟨stepS P.s c false, P.g, P.ls⟩ from rfl)
  have HG := Lib.hid (fun h => k.good.tick (t := (2, c)) h)
  have HK := Lib.hid k
  have hln := k.ln
  have HQ := Lib.hid (Leave_c P.s (rowV gb n) (rowV hb n) c W (by have := k.nest.nums; rw [hln.1] at this; exact this) (by have := k.opened.nums; rw [hln.2.1] at this; exact this) (by have := k.good.s.l8; omega) (by have := k.good.s.l8; omega) k.good.s.rangeO)
  obtain ⟨d0, d1, d2, d3, d4, d5, d6, d7⟩ := k.tu.box.cells
  unfold rowV at d1 d2 HQ
  have HM := Lib.hid ((good_iff _).2 k.good.s)
  have HZW := Lib.hid (show z < W.heap.size from k.tu.box.lt)
  have HLV := Lib.hid (show ∀ q, lv.ownBlock = some q → q < W.heap.size from fun q hq => (k.tu.nums.lt q hq).2)
  have HLN := Lib.hid hln
  clear k hln
  go_enter Try.func81, Try.ntmps81
  go_wp2_with fail
  (with_reducible refine HQ.out.mono ?_)
  rintro e w1 ⟨⟨nw, p1, n1, c1, p2, n2, c2, err, rfl, hQ⟩, hb1⟩
  obtain ⟨w2, hw2⟩ : ∃ X : World, X = w1.alloc (.cells #[.int .i64 nw, .slice p1 n1 c1, .slice p2 n2 c2] 45) := ⟨_, rfl⟩
  have hb2 : Below w1.heap.size w1 w2 := by rw [hw2]; exact below1 _ _
  have HBX := Lib.hid (show RBox w2 w1.heap.size nw (.slice p1 n1 c1) (.slice p2 n2 c2) by rw [hw2]; exact RBox.new _ _ _ _)
  have HK2 := Lib.hid (show PlAt w2 z B P n gb hb nb lv ∧ Below W.heap.size W w2 from ⟨(HK.out.below hb1).below hb2, below_then hb1 hb1.size hb2⟩)
  have HZ := Lib.hid (show z < w1.heap.size from (HK.out.below hb1).tu.box.lt)
  have hQ2 := hQ.keeps (Keeps.of_below (S := fun _ => False) hb2) (fun _ h => h.elim)
  clear hb1 hQ d0 d1 d2 d3 d4 d5 d6 d7 HQ HK hb2
  have HW2 := Lib.hid hw2
  clear hw2
  by_cases hE : stepE P.s c false = 0
  · have hq : err = 0 ∧ nw = (stepS P.s c false).now ∧ ∃ g' h' : Nat, W.heap.size + 2 ≤ g' ∧ W.heap.size + 2 ≤ h' ∧ g' ≠ h' ∧ (p1 = some ⟨g', 0, none⟩ ∧ n1 = (stepS P.s c false).ns.length ∧ c1 = (stepS P.s c false).ns.length) ∧ (p2 = some ⟨h', 0, none⟩ ∧ n2 = (stepS P.s c false).os.length ∧ c2 = (stepS P.s c false).os.length) ∧ IBlock w2 g' (stepS P.s c false).ns ∧ IBlock w2 h' (stepS P.s c false).os := by
      rcases hQ2 with h | h
      · rcases h.1 with h1 | h1
        · rw [HM.out] at h1; cases h1.1
        · exact absurd hE h1.2.1
      · exact ⟨h.2.2.1, h.2.2.2.1, h.2.2.2.2⟩
    obtain ⟨rfl, rfl, g', h', hg', hh', hgh, ⟨rfl, hn1, hc1⟩, ⟨rfl, hn2, hc2⟩, hI, hJ⟩ := hq
    have hl := stepS_len P.s c false
    have hn1' : n = n1 := by rw [hn1, hl.1]; exact HLN.out.1.symm
    have hc1' : n = c1 := by rw [hc1, hl.1]; exact HLN.out.1.symm
    have hn2' : n = n2 := by rw [hn2, hl.2]; exact HLN.out.2.1.symm
    have hc2' : n = c2 := by rw [hc2, hl.2]; exact HLN.out.2.1.symm
    clear hn1 hc1 hn2 hc2 hl hQ2
    subst hn1' hc1' hn2' hc2'
    obtain ⟨nw, hnw⟩ : ∃ x, x = (stepS P.s c false).now := ⟨_, rfl⟩
    have HX := Lib.hid (show IBlock w2 g' (stepS P.s c false).ns ∧ IBlock w2 h' (stepS P.s c false).os ∧ W.heap.size + 2 ≤ g' ∧ W.heap.size + 2 ≤ h' ∧ nw = (stepS P.s c false).now ∧ stepE P.s c false = 0 from ⟨hI, hJ, hg', hh', hnw, hE⟩)
    rw [← hnw] at HBX HW2 ⊢
    have k2 := HK2.out.1
    have hr := k2.tu.putR nw (rowV g' n) (rowV h' n)
    have hk := putRK w2 z nw (rowV g' n) (rowV h' n)
    have HR := Lib.hid (show TickQ z B (tickE P (2, c)) (tickP P (2, c)) n nb (fun q => q = z ∨ some q = lv.ownBlock) (.returned (.tuple #[])) W (((w2.setCell ⟨z, 0, none⟩ (.int .i64 nw)).setCell ⟨z, 1, none⟩ (rowV g' n)).setCell ⟨z, 2, none⟩ (rowV h' n)) by
      have hzg : ∀ {b : Nat}, W.heap.size + 2 ≤ b → ¬ b = z := fun hb e => by
        have := HZW.out
        omega
      refine ⟨((Keeps.of_below HK2.out.2).trans (hk.sub (fun _ _ h => .inl h))), .inr ⟨by rw [HE.out]; exact hE, rfl, g', h', lv, ⟨?_, ?_, ?_, HG.out (by rw [HE.out]; exact hE), ?_, Nat.le_trans k2.hB hk.size⟩, fun q hq => .inl (.inr hq.symm)⟩⟩
      · rw [HP.out, hnw]; rw [hnw] at hr; exact hr
      · rw [HP.out]; exact hI.keeps hk (hzg hg')
      · rw [HP.out]; exact hJ.keeps hk (hzg hh')
      · intro q hq
        have h1 := HLV.out q hq
        omega)
    unfold rowV at HR
    obtain ⟨e0, e1, e2⟩ := HBX.out.cells
    obtain ⟨d0, d1, d2, d3, d4, d5, d6, d7⟩ := HK2.out.1.tu.box.cells
    have m0 := HK2.out.1.tu.box.marks 0
    have m1 := HK2.out.1.tu.box.marks 1
    have m2 := HK2.out.1.tu.box.marks 2
    clear hI hJ hg' hh' hgh hnw hE k2 hr hk
    go_wp2_with fail
    rw [← HW2.out]
    (with_reducible refine (must_ok w2).mono ?_)
    rintro e w2' ⟨rfl, hww⟩
    rw [hww]
    clear hww
    go_wp2
    go_end0
    exact HR.out
  · have hq : err = stepE P.s c false ∧ nw = 0 ∧ (p1 = none ∧ n1 = 0 ∧ c1 = 0) ∧ (p2 = none ∧ n2 = 0 ∧ c2 = 0) := by
      rcases hQ2 with h | h
      · rcases h.1 with h1 | h1
        · rw [HM.out] at h1; cases h1.1
        · exact ⟨h1.2.2, h.2⟩
      · exact absurd h.2.1 hE
    obtain ⟨he, rfl, ⟨rfl, rfl, rfl⟩, ⟨rfl, rfl, rfl⟩⟩ := hq
    have hne : err ≠ 0 := by rw [he]; exact hE
    have HC := Lib.hid (must_no err hne w2)
    have HX := Lib.hid (And.intro he hE)
    clear he hE hne hQ2
    go_wp2_with fail
    rw [← HW2.out]
    (with_reducible refine HC.out.mono ?_)
    rintro e w3 ⟨rfl, hww⟩
    rw [hww]
    exact ⟨rfl, Keeps.of_below HK2.out.2, .inl ⟨by rw [HE.out]; exact HX.out.2, by rw [HE.out, ← HX.out.1]; rfl, HK2.out.1.any⟩⟩

end Go.Proofs.Ytdmcijfjnegcgaa
/-
  Package grace: which ticks are of a kind; what the kinds of ticks do.
  Conditions: none.
-/
namespace Go.Proofs.Ytdmcijfjnegcgaa
set_option maxRecDepth 100000
open Go.RowKit Go.Shelf
attribute [local go_sem] Oper.semAt_some

def isB (k : Int) : Bool := decide (1 ≤ k) && decide (k ≤ 4)
theorem is_c (k c : Int) (W : World) : Calls Try.prog 69 #[.agg #[.int .i64 k, .int .i64 c]] W fun e w' => e = .returned (.bool (isB k)) ∧ Below W.heap.size W w' := by
  have hc : (k < 1 ∧ isB k = false) ∨ (1 ≤ k ∧ isB k = decide (k ≤ 4)) := by
    unfold isB
    by_cases h : 1 ≤ k
    · rw [decide_eq_true h]; exact .inr ⟨h, rfl⟩
    · rw [decide_eq_false h]; exact .inl ⟨by omega, rfl⟩
  rcases hc with ⟨h0, hr⟩ | ⟨h0, hr⟩
  all_goals
    rw [hr]; clear hr
    go_enter Try.func69, Try.ntmps69
    go_wp2
    go_ret
    exact ⟨rfl, by first | exact below1 _ _ | exact below2 _ _ _⟩

/-- What deeds answers. -/
def deedsV : Value := .agg #[.nilFunc, .func (.func 80) #[] #[], .func (.func 81) #[] #[], .func (.func 82) #[] #[], .func (.func 83) #[] #[]]
/-- A box with the deeds. -/
def DBox (W : World) (b : Nat) : Prop := W.heap[b]? = some (.cells #[.nilFunc, .func (.func 80) #[] #[], .func (.func 81) #[] #[], .func (.func 82) #[] #[], .func (.func 83) #[] #[]] 97 (0, 0))
theorem DBox.cells {W : World} {b : Nat} (h : DBox W b) : W.cell? ⟨b, 0, none⟩ = some .nilFunc ∧ W.cell? ⟨b, 1, none⟩ = some (.func (.func 80) #[] #[]) ∧ W.cell? ⟨b, 2, none⟩ = some (.func (.func 81) #[] #[]) ∧ W.cell? ⟨b, 3, none⟩ = some (.func (.func 82) #[] #[]) ∧ W.cell? ⟨b, 4, none⟩ = some (.func (.func 83) #[] #[]) := by
  have h' : W.heap[b]? = _ := h
  simp [World.cell?, h']
theorem DBox.lt {W : World} {b : Nat} (h : DBox W b) : b < W.heap.size := (Array.getElem?_eq_some_iff.1 h).1
theorem deeds_info : (Try.prog.info? 97).map (·.size) = some 5 := by kernel_rfl
theorem deeds_load {W : World} {b : Nat} (h : DBox W b) : (loadVar 97 ⟨b, 0, none⟩).run Try.prog W = .ok deedsV W := by
  obtain ⟨h0, h1, h2, h3, h4⟩ := h.cells
  refine run_loadVar_mid W b 0 97 [.nilFunc, .func (.func 80) #[] #[], .func (.func 81) #[] #[], .func (.func 82) #[] #[], .func (.func 83) #[] #[]] _ (fun j u hj => ?_) Try.underlying97 rfl deeds_info
  rw [Nat.zero_add]
  match j, hj with
  | 0, hj => cases hj; exact h0
  | 1, hj => cases hj; exact h1
  | 2, hj => cases hj; exact h2
  | 3, hj => cases hj; exact h3
  | 4, hj => cases hj; exact h4
  | (k + 5), hj => simp at hj
set_option maxHeartbeats 4000000 in
theorem deeds_c (W : World) : Calls Try.prog 68 #[] W fun e w' => e = .returned deedsV ∧ Below W.heap.size W w' := by
  go_enter Try.func68, Try.ntmps68
  go_wp2
  have hD : DBox (W.alloc (.cells #[.nilFunc, .func (.func 80) #[] #[], .func (.func 81) #[] #[], .func (.func 82) #[] #[], .func (.func 83) #[] #[]] 97)) W.heap.size := World.alloc_heap_new W _
  refine bodyPost_ret (v := deedsV) (results_cell1 rfl _ _ _ rfl (deeds_load hD)) rfl ⟨rfl, below1 _ _⟩

end Go.Proofs.Ytdmcijfjnegcgaa
/-
  Package grace: ticks, one behind the other.
  Conditions: the ranges of Go's types; the turn is younger than the ticks.
-/
namespace Go.Proofs.Ytdmcijfjnegcgaa
set_option maxRecDepth 100000
open Go.RowKit Go.Shelf
attribute [local go_sem] Oper.semAt_some

/-- A slice of ticks. -/
def TksAt (W : World) (v : Value) (l : List (Int × Int)) : Prop := ∃ p cap, v = .slice p l.length cap ∧
  (l ≠ [] → ∃ b off, p = some ⟨b, off, none⟩ ∧ ∀ i (h : i < l.length), W.cell? ⟨b, off + i * 2, none⟩ = some (.int .i64 l[i].1) ∧ W.cell? ⟨b, off + i * 2 + 1, none⟩ = some (.int .i64 l[i].2))
theorem TksAt.keeps {S : Nat → Prop} {W W' : World} {v : Value} {l : List (Int × Int)} {z : Nat} (h : TksAt W v l) (hk : Keeps S W W') (hS : ∀ q, S q → z ≤ q) (hz : ∀ b off n c, v = .slice (some ⟨b, off, none⟩) n c → l ≠ [] → b < z) : TksAt W' v l := by
  obtain ⟨p, cap, rfl, hc⟩ := h
  refine ⟨p, cap, rfl, fun hne => ?_⟩
  obtain ⟨b, off, rfl, hcs⟩ := hc hne
  have hb := hz b off _ _ rfl hne
  exact ⟨b, off, rfl, fun i hi => ⟨hk.cell (hcs i hi).1 (fun e => by have := hS b e; omega), hk.cell (hcs i hi).2 (fun e => by have := hS b e; omega)⟩⟩
theorem TksAt.below {W W' : World} {v : Value} {l : List (Int × Int)} (h : TksAt W v l) (hb : Below W.heap.size W W') : TksAt W' v l := by
  obtain ⟨p, cap, rfl, hc⟩ := h
  refine ⟨p, cap, rfl, fun hne => ?_⟩
  obtain ⟨b, off, rfl, hcs⟩ := hc hne
  exact ⟨b, off, rfl, fun i hi => ⟨below_cell hb (hcs i hi).1, below_cell hb (hcs i hi).2⟩⟩
/-- Behind ticks. -/
def RunQ (z : Nat) (E : Int) (P' : PlS) (n : Nat) (e : Ending) (W w' : World) : Prop :=
  Keeps (fun k => k = z ∨ z + 2 ≤ k) W w' ∧ ((E ≠ 0 ∧ e = woe E ∧ TAny w' z) ∨ (E = 0 ∧ e = .returned (.tuple #[]) ∧ ∃ gb hb nb lv, PlAt w' z (z + 2) P' n gb hb nb lv ∧ z + 2 ≤ nb))
theorem RunQ.of {z : Nat} {E : Int} {P' : PlS} {n nb : Nat} {S : Nat → Prop} {e : Ending} {W w' : World} (h : TickQ z (z + 2) E P' n nb S e W w') (hS : ∀ q, S q → q = z ∨ z + 2 ≤ q) (hnb : z + 2 ≤ nb) : RunQ z E P' n e W w' := by
  obtain ⟨hk, h⟩ := h
  refine ⟨hk.sub (fun q _ h => hS q h), ?_⟩
  rcases h with h | ⟨h1, h2, gb, hb, lv, h3, -⟩
  · exact .inl h
  · exact .inr ⟨h1, h2, gb, hb, nb, lv, h3, hnb⟩
theorem play_step (P : PlS) (l : List (Int × Int)) (i : Nat) (hi : i < l.length) : playP P (l.take (i + 1)) = tickP (playP P (l.take i)) l[i] := by
  unfold playP
  rw [List.take_succ_eq_append_getElem hi, List.foldl_append]
  rfl
theorem playE_step (P : PlS) (l : List (Int × Int)) (i : Nat) (hi : i < l.length) : playE P (l.drop i) = if tickE P l[i] = 0 then playE (tickP P l[i]) (l.drop (i + 1)) else tickE P l[i] := by
  rw [List.drop_eq_getElem_cons hi]
  rfl
theorem play_ls (P : PlS) : ∀ (l : List (Int × Int)), (playP P l).ls.length ≤ P.ls.length + l.length
  | [] => Nat.le_refl _
  | t :: l => by
    have h1 := play_ls (tickP P t) l
    have h2 := tick_ls P t
    show (playP (tickP P t) l).ls.length ≤ _
    simp only [List.length_cons]
    omega
/-- Each kind. -/
theorem tick_any (z : Nat) (P : PlS) (n gb hb nb : Nat) (lv : Value) (k c : Int) (K : Nat) (W : World) (h : PlAt W z (z + 2) P n gb hb nb lv) (hnb : z + 2 ≤ nb) (hls : P.ls.length ≤ 1000000)
    (hK : (k = 1 ∧ K = 80) ∨ (k = 2 ∧ K = 81) ∨ (k = 3 ∧ K = 82) ∨ (k = 4 ∧ K = 83)) :
    Calls Try.prog K #[.pointer (some ⟨z, 0, none⟩), .int .i64 c] W fun e w' => RunQ z (tickE P (k, c)) (tickP P (k, c)) n e W w' ∧ Keeps (fun q => q = z ∨ q = nb ∨ some q = lv.ownBlock) W w' := by
  have hlv : ∀ q, some q = lv.ownBlock → z + 2 ≤ q := fun q hq => (h.tu.nums.lt q hq.symm).1
  rcases hK with ⟨rfl, rfl⟩ | ⟨rfl, rfl⟩ | ⟨rfl, rfl⟩ | ⟨rfl, rfl⟩
  · exact (penter_c z (z + 2) P n gb hb nb lv c W h).mono fun e w' hq => ⟨RunQ.of hq (fun q e => by rcases e with e | e; exact .inl e; exact .inr (hlv q e)) hnb, hq.1.sub (fun q _ e => e.elim .inl (fun e => .inr (.inr e)))⟩
  · exact (pleave_c z (z + 2) P n gb hb nb lv c W h).mono fun e w' hq => ⟨RunQ.of hq (fun q e => by rcases e with e | e; exact .inl e; exact .inr (hlv q e)) hnb, hq.1.sub (fun q _ e => e.elim .inl (fun e => .inr (.inr e)))⟩
  · exact (pask_c z (z + 2) P n gb hb nb lv c W h hls).mono fun e w' hq => ⟨RunQ.of hq (fun q e => by rcases e with e | e; exact .inl e; exact .inr (hlv q e)) hnb, hq.1.sub (fun q _ e => e.elim .inl (fun e => .inr (.inr e)))⟩
  · exact (ppick_c z (z + 2) P n gb hb nb lv c W h).mono fun e w' hq => ⟨RunQ.of hq (fun q e => by rcases e with e | e | e; exact .inl e; exact .inr (by omega); exact .inr (hlv q e)) hnb, hq.1⟩

theorem DBox.apart {W : World} {z B n gb hb nb db : Nat} {P : PlS} {lv : Value} (h : DBox W db) (k : PlAt W z B P n gb hb nb lv) : ¬ (db = z ∨ db = nb ∨ some db = lv.ownBlock) := by
  have h0 : W.heap[db]? = _ := h
  rintro (e | e | e)
  · have h1 : W.heap[z]? = _ := k.tu.box
    rw [← e, h0] at h1; injection h1 with h1; injection h1 with _ h1 _; revert h1; decide
  · have h1 : W.heap[nb]? = _ := k.tu.needs
    rw [← e, h0] at h1; injection h1 with h1; injection h1 with _ h1 _; revert h1; decide
  · obtain ⟨c, f, h1⟩ := Lib.ownsRow_kind k.tu.nums db e.symm
    rw [h0] at h1; injection h1 with h1; injection h1 with _ h1 _; revert h1; decide
/-- Between two ticks. -/
def TkI (z : Nat) (P : PlS) (l : List (Int × Int)) (n db i : Nat) (W wr : World) : Prop :=
  (∃ gb hb nb lv, PlAt wr z (z + 2) (playP P (l.take i)) n gb hb nb lv ∧ z + 2 ≤ nb) ∧ Keeps (fun k => k = z ∨ z + 2 ≤ k) W wr ∧ DBox wr db ∧ playE P l = playE (playP P (l.take i)) (l.drop i)
theorem tki_next {z : Nat} {P : PlS} {l : List (Int × Int)} {n db i : Nat} {W wr w' : World} {e : Ending} (hi : i < l.length) (hI : TkI z P l n db i W wr) (hB : Keeps (fun k => k = z ∨ z + 2 ≤ k) W wr) (hD : DBox w' db) (hq : RunQ z (tickE (playP P (l.take i)) l[i]) (tickP (playP P (l.take i)) l[i]) n e wr w') :
    (tickE (playP P (l.take i)) l[i] ≠ 0 → e = woe (playE P l) ∧ playE P l ≠ 0 ∧ RunQ z (playE P l) (playP P l) n e W w') ∧ (tickE (playP P (l.take i)) l[i] = 0 → e = .returned (.tuple #[]) ∧ TkI z P l n db (i + 1) W w') := by
  obtain ⟨hk, h⟩ := hq
  have hE := hI.2.2.2.trans (playE_step _ l i hi)
  constructor
  · intro hne
    rw [if_neg hne] at hE
    rcases h with ⟨h1, h2, h3⟩ | h
    · exact ⟨by rw [hE]; exact h2, by rw [hE]; exact hne, hB.trans hk, .inl ⟨by rw [hE]; exact hne, by rw [hE]; exact h2, h3⟩⟩
    · exact absurd h.1 hne
  · intro he
    rw [if_pos he] at hE
    rcases h with h | ⟨h1, h2, gb, hb, nb, lv, h3, h4⟩
    · exact absurd he h.1
    · exact ⟨h2, ⟨gb, hb, nb, lv, by rw [play_step P l i hi]; exact h3, h4⟩, hB.trans hk, hD, by rw [play_step P l i hi]; exact hE⟩

set_option maxHeartbeats 16000000 in
theorem ticks_c (z : Nat) (P : PlS) (n gb hb nb : Nat) (lv tv : Value) (l : List (Int × Int)) (W : World) (k : PlAt W z (z + 2) P n gb hb nb lv) (hnb : z + 2 ≤ nb) (hl : TksAt W tv l) (hz : ∀ b off n c, tv = .slice (some ⟨b, off, none⟩) n c → l ≠ [] → b < z) (hls : P.ls.length + l.length ≤ 1000000) :
    Calls Try.prog 53 #[.pointer (some ⟨z, 0, none⟩), tv] W fun e w' => RunQ z (playE P l) (playP P l) n e W w' := by
  have HK := Lib.hid (And.intro k hnb)
  have HZW := Lib.hid (show z < W.heap.size from k.tu.box.lt)
  have HL := Lib.hid (And.intro hl (And.intro hz hls))
  obtain ⟨tp, tc, rfl, -⟩ := hl
  have hln : l.length ≤ 1000000 := by omega
  clear k hnb hz hls
  go_enter Try.func53, Try.ntmps53
  go_wp2_with fail
  (with_reducible refine (deeds_c W).mono ?_)
  rintro e w1 ⟨rfl, hb1⟩
  unfold deedsV
  obtain ⟨w2, hw2⟩ : ∃ X : World, X = w1.alloc (.cells #[.nilFunc, .func (.func 80) #[] #[], .func (.func 81) #[] #[], .func (.func 82) #[] #[], .func (.func 83) #[] #[]] 97) := ⟨_, rfl⟩
  have hb2 : Below w1.heap.size w1 w2 := by rw [hw2]; exact below1 _ _
  have hB2 : Below W.heap.size W w2 := below_then hb1 hb1.size hb2
  obtain ⟨db, hdb⟩ : ∃ x, x = w1.heap.size := ⟨_, rfl⟩
  have HI0 := Lib.hid (show TkI z P l n db 0 W w2 from ⟨⟨gb, hb, nb, lv, HK.out.1.below hB2, HK.out.2⟩, Keeps.of_below hB2, by rw [hw2, hdb]; exact World.alloc_heap_new _ _, rfl⟩)
  have HDB := Lib.hid (show W.heap.size ≤ db by rw [hdb]; exact hb1.size)
  have HW2 := Lib.hid (And.intro hw2 hdb)
  clear hw2 hdb hb1 hb2 hB2
  go_upto_region 1 with fail
  rw [← HW2.out.1, ← HW2.out.2]
  go_wp2
  go_loopw [10] (fun iv wr => ∃ i : Nat, i ≤ l.length ∧ iv = .int .i64 (i : Int) ∧ Hid (TkI z P l n db i W wr)) (fun iv _ => l.length - (intOf iv).toNat)
  case atStart => exact ⟨0, Nat.zero_le _, rfl, HI0⟩
  case round =>
    clear HI0
    obtain ⟨i, hi, rfl, HI⟩ := hrel
    by_cases hlt : i < l.length
    · have htk := HL.out.1.keeps HI.out.2.1 (fun q h => by omega) HL.out.2.1
      obtain ⟨p', cap', e, hcs⟩ := htk
      injection e with e1 e2 e3
      obtain ⟨b, off, hp, hcs⟩ := hcs (by intro e; rw [e] at hlt; simp at hlt)
      rw [← e1] at hp
      obtain ⟨hx, hy⟩ := hcs i hlt
      obtain ⟨x, hxe⟩ : ∃ x, x = l[i].1 := ⟨_, rfl⟩
      obtain ⟨y, hye⟩ : ∃ y, y = l[i].2 := ⟨_, rfl⟩
      have HXY := Lib.hid (show l[i] = (x, y) by rw [hxe, hye])
      rw [← hxe] at hx
      rw [← hye] at hy
      subst hp
      clear hcs e1 e2 e3 hxe hye
      obtain ⟨w3, hw3⟩ : ∃ X : World, X = wr.alloc (.cells #[.int .i64 x, .int .i64 y] 50) := ⟨_, rfl⟩
      have hb3 : Below wr.heap.size wr w3 := by rw [hw3]; exact below1 _ _
      obtain ⟨tb, htb⟩ : ∃ x, x = wr.heap.size := ⟨_, rfl⟩
      have ht0 : w3.cell? ⟨tb, 0, none⟩ = some (.int .i64 x) := by rw [hw3, htb]; simp
      have ht1 : w3.cell? ⟨tb, 1, none⟩ = some (.int .i64 y) := by rw [hw3, htb]; simp
      have HI3 := Lib.hid (show TkI z P l n db i W w3 from by
        obtain ⟨⟨gb, hb, nb, lv, h1, h2⟩, h3, h4, h5⟩ := HI.out
        exact ⟨⟨gb, hb, nb, lv, h1.below hb3, h2⟩, h3.trans (Keeps.of_below hb3), (hb3.block db h4.lt).trans h4, h5⟩)
      have HW3 := Lib.hid (And.intro hw3 htb)
      have HC := Lib.hid (is_c x y w3)
      have hi0 : (0 : Int) ≤ (i : Int) := by omega
      have hil : (i : Int) < (l.length : Int) := by omega
      clear hw3 htb hb3 HI
      go_wp2_with fail
      rw [← HW3.out.1, ← HW3.out.2]
      (with_reducible refine HC.out.mono ?_)
      rintro e w4 ⟨rfl, hb4⟩
      have HI4 := Lib.hid (show ∀ Z, Below w4.heap.size w4 Z → TkI z P l n db i W Z from fun Z hZ => by
        obtain ⟨⟨gb, hb, nb, lv, h1, h2⟩, h3, h4, h5⟩ := HI3.out
        have hb := below_then hb4 hb4.size hZ
        exact ⟨⟨_, _, _, _, h1.below hb, h2⟩, h3.trans (Keeps.of_below hb), (hb.block db h4.lt).trans h4, h5⟩)
      have g0 := below_cell hb4 ht0
      have g1 := below_cell hb4 ht1
      obtain ⟨s1, s2, s3, s4, s5⟩ := (HI4.out w4 (Below.refl _ _)).2.2.1.cells
      have HTI := Lib.hid (play_ls P (l.take i))
      have HLS := Lib.hid (show (playP P (l.take i)).ls.length ≤ 1000000 by
        have h1 := play_ls P (l.take i)
        have h2 := HL.out.2.2
        have h3 : (l.take i).length ≤ l.length := by rw [List.length_take]; omega
        omega)
      clear hb4 ht0 ht1 HI3 HC hx hy
      cases hB : isB x with
      | false =>
        have HR := Lib.hid (show RunQ z (playE P l) (playP P l) n (woe 221) W w4 from by
          obtain ⟨⟨gb, hb, nb, lv, h1, h2⟩, h3, h4, h5⟩ := HI4.out w4 (Below.refl _ _)
          have he : tickE (playP P (l.take i)) l[i] = 221 := by
            have hx : ¬ (1 ≤ x ∧ x ≤ 4) := fun h => by unfold isB at hB; rw [decide_eq_true h.1, decide_eq_true h.2] at hB; cases hB
            rw [HXY.out]
            unfold tickE
            simp only
            rw [if_neg (by omega), if_neg (by omega), if_neg (by omega), if_neg (by omega)]
          have hE := h5.trans (playE_step _ l i hlt)
          rw [he, if_neg (by decide)] at hE
          exact ⟨h3, .inl ⟨by rw [hE]; decide, by rw [hE], h1.any⟩⟩)
        clear hB HTI
        go_wp2
        exact ⟨rfl, HR.out⟩
      | true =>
        have hx : x = 1 ∨ x = 2 ∨ x = 3 ∨ x = 4 := by unfold isB at hB; simp only [Bool.and_eq_true, decide_eq_true_eq] at hB; omega
        clear hB HTI
        rcases hx with rfl | rfl | rfl | rfl
        · have HT := Lib.hid (show Calls Try.prog 80 #[.pointer (some ⟨z, 0, none⟩), .int .i64 y] w4.drew fun e w' => (tickE (playP P (l.take i)) l[i] ≠ 0 → e = woe (playE P l) ∧ playE P l ≠ 0 ∧ RunQ z (playE P l) (playP P l) n e W w') ∧ (tickE (playP P (l.take i)) l[i] = 0 → e = .returned (.tuple #[]) ∧ TkI z P l n db (i + 1) W w') from by
            have hI := HI4.out w4.drew (below_drewN (Below.refl _ _) 1)
            obtain ⟨⟨gb, hb, nb, lv, h1, h2⟩, h3, h4, h5⟩ := id hI
            refine (tick_any z _ n gb hb nb lv 1 y 80 w4.drew h1 h2 HLS.out (by simp)).mono fun e w' hq => ?_
            rw [← HXY.out] at hq
            exact tki_next hlt hI h3 ((hq.2.block db h4.lt (h4.apart h1)).trans h4) hq.1)
          clear HI4
          go_wp2_with fail
          by_cases hc : tickE (playP P (l.take i)) l[i] = 0
          · have HTK := Lib.hid (show Calls Try.prog 80 #[.pointer (some ⟨z, 0, none⟩), .int .i64 y] w4.drew fun e w' => e = .returned (.tuple #[]) ∧ TkI z P l n db (i + 1) W w' from HT.out.mono fun e w' hq => hq.2 hc)
            clear HT hc
            go_still_tail 7, (by kernel_rfl)
            change wpList _ _ _ _ _ w4.drew
            go_wp2_with fail
            (with_reducible refine HTK.out.mono ?_)
            rintro e w5 ⟨rfl, hI5⟩
            have HI5 := Lib.hid hI5
            clear hI5 HTK
            go_wp2
            go_roundw
            case rel => exact ⟨i + 1, by omega, by go_num, HI5⟩
            case measure => simp [intOf]; omega
          · have HTK := Lib.hid (show Calls Try.prog 80 #[.pointer (some ⟨z, 0, none⟩), .int .i64 y] w4.drew fun e w' => e = woe (playE P l) ∧ RunQ z (playE P l) (playP P l) n e W w' from HT.out.mono fun e w' hq => ⟨(hq.1 hc).1, (hq.1 hc).2.2⟩)
            clear HT hc
            go_still_tail 7, (by kernel_rfl)
            change wpList _ _ _ _ _ w4.drew
            go_wp2_with fail
            (with_reducible refine HTK.out.mono ?_)
            rintro e w5 ⟨rfl, hI5⟩
            exact ⟨rfl, hI5⟩
        · have HT := Lib.hid (show Calls Try.prog 81 #[.pointer (some ⟨z, 0, none⟩), .int .i64 y] w4.drew fun e w' => (tickE (playP P (l.take i)) l[i] ≠ 0 → e = woe (playE P l) ∧ playE P l ≠ 0 ∧ RunQ z (playE P l) (playP P l) n e W w') ∧ (tickE (playP P (l.take i)) l[i] = 0 → e = .returned (.tuple #[]) ∧ TkI z P l n db (i + 1) W w') from by
            have hI := HI4.out w4.drew (below_drewN (Below.refl _ _) 1)
            obtain ⟨⟨gb, hb, nb, lv, h1, h2⟩, h3, h4, h5⟩ := id hI
            refine (tick_any z _ n gb hb nb lv 2 y 81 w4.drew h1 h2 HLS.out (by simp)).mono fun e w' hq => ?_
            rw [← HXY.out] at hq
            exact tki_next hlt hI h3 ((hq.2.block db h4.lt (h4.apart h1)).trans h4) hq.1)
          clear HI4
          go_wp2_with fail
          by_cases hc : tickE (playP P (l.take i)) l[i] = 0
          · have HTK := Lib.hid (show Calls Try.prog 81 #[.pointer (some ⟨z, 0, none⟩), .int .i64 y] w4.drew fun e w' => e = .returned (.tuple #[]) ∧ TkI z P l n db (i + 1) W w' from HT.out.mono fun e w' hq => hq.2 hc)
            clear HT hc
            go_still_tail 7, (by kernel_rfl)
            change wpList _ _ _ _ _ w4.drew
            go_wp2_with fail
            (with_reducible refine HTK.out.mono ?_)
            rintro e w5 ⟨rfl, hI5⟩
            have HI5 := Lib.hid hI5
            clear hI5 HTK
            go_wp2
            go_roundw
            case rel => exact ⟨i + 1, by omega, by go_num, HI5⟩
            case measure => simp [intOf]; omega
          · have HTK := Lib.hid (show Calls Try.prog 81 #[.pointer (some ⟨z, 0, none⟩), .int .i64 y] w4.drew fun e w' => e = woe (playE P l) ∧ RunQ z (playE P l) (playP P l) n e W w' from HT.out.mono fun e w' hq => ⟨(hq.1 hc).1, (hq.1 hc).2.2⟩)
            clear HT hc
            go_still_tail 7, (by kernel_rfl)
            change wpList _ _ _ _ _ w4.drew
            go_wp2_with fail
            (with_reducible refine HTK.out.mono ?_)
            rintro e w5 ⟨rfl, hI5⟩
            exact ⟨rfl, hI5⟩
        · have HT := Lib.hid (show Calls Try.prog 82 #[.pointer (some ⟨z, 0, none⟩), .int .i64 y] w4.drew fun e w' => (tickE (playP P (l.take i)) l[i] ≠ 0 → e = woe (playE P l) ∧ playE P l ≠ 0 ∧ RunQ z (playE P l) (playP P l) n e W w') ∧ (tickE (playP P (l.take i)) l[i] = 0 → e = .returned (.tuple #[]) ∧ TkI z P l n db (i + 1) W w') from by
            have hI := HI4.out w4.drew (below_drewN (Below.refl _ _) 1)
            obtain ⟨⟨gb, hb, nb, lv, h1, h2⟩, h3, h4, h5⟩ := id hI
            refine (tick_any z _ n gb hb nb lv 3 y 82 w4.drew h1 h2 HLS.out (by simp)).mono fun e w' hq => ?_
            rw [← HXY.out] at hq
            exact tki_next hlt hI h3 ((hq.2.block db h4.lt (h4.apart h1)).trans h4) hq.1)
          clear HI4
          go_wp2_with fail
          by_cases hc : tickE (playP P (l.take i)) l[i] = 0
          · have HTK := Lib.hid (show Calls Try.prog 82 #[.pointer (some ⟨z, 0, none⟩), .int .i64 y] w4.drew fun e w' => e = .returned (.tuple #[]) ∧ TkI z P l n db (i + 1) W w' from HT.out.mono fun e w' hq => hq.2 hc)
            clear HT hc
            go_still_tail 7, (by kernel_rfl)
            change wpList _ _ _ _ _ w4.drew
            go_wp2_with fail
            (with_reducible refine HTK.out.mono ?_)
            rintro e w5 ⟨rfl, hI5⟩
            have HI5 := Lib.hid hI5
            clear hI5 HTK
            go_wp2
            go_roundw
            case rel => exact ⟨i + 1, by omega, by go_num, HI5⟩
            case measure => simp [intOf]; omega
          · have HTK := Lib.hid (show Calls Try.prog 82 #[.pointer (some ⟨z, 0, none⟩), .int .i64 y] w4.drew fun e w' => e = woe (playE P l) ∧ RunQ z (playE P l) (playP P l) n e W w' from HT.out.mono fun e w' hq => ⟨(hq.1 hc).1, (hq.1 hc).2.2⟩)
            clear HT hc
            go_still_tail 7, (by kernel_rfl)
            change wpList _ _ _ _ _ w4.drew
            go_wp2_with fail
            (with_reducible refine HTK.out.mono ?_)
            rintro e w5 ⟨rfl, hI5⟩
            exact ⟨rfl, hI5⟩
        · have HT := Lib.hid (show Calls Try.prog 83 #[.pointer (some ⟨z, 0, none⟩), .int .i64 y] w4.drew fun e w' => (tickE (playP P (l.take i)) l[i] ≠ 0 → e = woe (playE P l) ∧ playE P l ≠ 0 ∧ RunQ z (playE P l) (playP P l) n e W w') ∧ (tickE (playP P (l.take i)) l[i] = 0 → e = .returned (.tuple #[]) ∧ TkI z P l n db (i + 1) W w') from by
            have hI := HI4.out w4.drew (below_drewN (Below.refl _ _) 1)
            obtain ⟨⟨gb, hb, nb, lv, h1, h2⟩, h3, h4, h5⟩ := id hI
            refine (tick_any z _ n gb hb nb lv 4 y 83 w4.drew h1 h2 HLS.out (by simp)).mono fun e w' hq => ?_
            rw [← HXY.out] at hq
            exact tki_next hlt hI h3 ((hq.2.block db h4.lt (h4.apart h1)).trans h4) hq.1)
          clear HI4
          go_wp2_with fail
          by_cases hc : tickE (playP P (l.take i)) l[i] = 0
          · have HTK := Lib.hid (show Calls Try.prog 83 #[.pointer (some ⟨z, 0, none⟩), .int .i64 y] w4.drew fun e w' => e = .returned (.tuple #[]) ∧ TkI z P l n db (i + 1) W w' from HT.out.mono fun e w' hq => hq.2 hc)
            clear HT hc
            go_still_tail 7, (by kernel_rfl)
            change wpList _ _ _ _ _ w4.drew
            go_wp2_with fail
            (with_reducible refine HTK.out.mono ?_)
            rintro e w5 ⟨rfl, hI5⟩
            have HI5 := Lib.hid hI5
            clear hI5 HTK
            go_wp2
            go_roundw
            case rel => exact ⟨i + 1, by omega, by go_num, HI5⟩
            case measure => simp [intOf]; omega
          · have HTK := Lib.hid (show Calls Try.prog 83 #[.pointer (some ⟨z, 0, none⟩), .int .i64 y] w4.drew fun e w' => e = woe (playE P l) ∧ RunQ z (playE P l) (playP P l) n e W w' from HT.out.mono fun e w' hq => ⟨(hq.1 hc).1, (hq.1 hc).2.2⟩)
            clear HT hc
            go_still_tail 7, (by kernel_rfl)
            change wpList _ _ _ _ _ w4.drew
            go_wp2_with fail
            (with_reducible refine HTK.out.mono ?_)
            rintro e w5 ⟨rfl, hI5⟩
            exact ⟨rfl, hI5⟩
    · obtain rfl : i = l.length := by omega
      have HR := Lib.hid (show RunQ z (playE P l) (playP P l) n (.returned (.tuple #[])) W wr from by
        obtain ⟨⟨gb, hb, nb, lv, h1, h2⟩, h3, h4, h5⟩ := HI.out
        rw [List.drop_length] at h5
        rw [List.take_length] at h1
        exact ⟨h3, .inr ⟨h5, rfl, gb, hb, nb, lv, h1, h2⟩⟩)
      clear HI hlt hi
      go_wp2
      go_end0
      exact HR.out

end Go.Proofs.Ytdmcijfjnegcgaa
/-
  Package grace: readers that a turn takes; what Play has a turn do.
  Conditions: the ranges of Go's types.
-/
namespace Go.Proofs.Ytdmcijfjnegcgaa
set_option maxRecDepth 100000
open Go.RowKit Go.Shelf
attribute [local go_sem] Oper.semAt_some

theorem rgs_nil (W : World) : RgsAt W (.slice none 0 0) [] := ⟨_, _, rfl, fun h => absurd rfl h⟩

set_option maxHeartbeats 8000000 in
theorem pread_no (z : Nat) (s : RdS) (u v : Value) (W : World) (hn : NumsAt W .i64 u s.ns) (ho : NumsAt W .i64 v s.os) (h1 : s.ns.length ≤ 9223372036854775807) (h2 : s.os.length ≤ 9223372036854775807) (hr : ∀ x ∈ s.os, I64 x) (hm : mayB s.now s.ns s.os = false) :
    Calls Try.prog 52 #[.pointer (some ⟨z, 0, none⟩), .agg #[.int .i64 s.now, u, v]] W fun e w' => e = woe 210 ∧ Below W.heap.size W w' := by
  obtain ⟨w0, hw0⟩ : ∃ X : World, X = W.alloc (.cells #[.int .i64 s.now, u, v] 45) := ⟨_, rfl⟩
  have hb0 : Below W.heap.size W w0 := by rw [hw0]; exact below1 _ _
  have HBX := Lib.hid (show RBox w0 W.heap.size s.now u v ∧ Below W.heap.size W w0 by exact ⟨by rw [hw0]; exact RBox.new _ _ _ _, hb0⟩)
  have HC := Lib.hid (run_no s.now u v (.slice none 0 0) s.ns s.os w0 (nums_below hn hb0) (nums_below ho hb0) h1 h2 hr hm)
  unfold zeroR at HC
  obtain ⟨d0, d1, d2⟩ := HBX.out.1.cells
  obtain ⟨p, c, rfl, -⟩ := hn
  obtain ⟨p2, c2, rfl, -⟩ := ho
  clear hb0 h1 h2 hr hm
  go_enter Try.func52, Try.ntmps52
  go_wp2_with fail
  rw [← hw0]
  clear hw0
  (with_reducible refine HC.out.mono ?_)
  rintro e w1 ⟨rfl, hb1⟩
  have hx1 := HBX.out.1.below hb1
  have hB1 := below_then HBX.out.2 HBX.out.2.size hb1
  have HB := Lib.hid (hB1.trans ((RBox.putK w1 W.heap.size 0 (.slice none 0 0) (.slice none 0 0)).below hB1.size (fun k e => by omega)))
  obtain ⟨d0, d1, d2⟩ := hx1.cells
  have m0 := hx1.marks 0
  have m1 := hx1.marks 1
  have m2 := hx1.marks 2
  obtain ⟨w2, hw2⟩ : ∃ X : World, X = (((w1.setCell ⟨W.heap.size, 0, none⟩ (.int .i64 0)).setCell ⟨W.heap.size, 1, none⟩ (.slice none 0 0)).setCell ⟨W.heap.size, 2, none⟩ (.slice none 0 0)) := ⟨_, rfl⟩
  rw [← hw2] at HB
  clear hx1 hB1 hb1
  go_wp2_with fail
  rw [← hw2]
  (with_reducible refine (must_no 210 (by decide) w2).mono ?_)
  rintro e w3 ⟨rfl, hww⟩
  rw [hww]
  exact ⟨rfl, rfl, HB.out⟩

set_option maxHeartbeats 8000000 in
theorem pread_ok (z : Nat) (now0 : Int) (u0 v0 : Value) (d a : Int) (on : Bool) (nv lv : Value) (s : RdS) (u v : Value) (W : World) (kb : TBox W z now0 u0 v0 d a on nv lv) (hn : NumsAt W .i64 u s.ns) (ho : NumsAt W .i64 v s.os) (g : Good s) :
    Calls Try.prog 52 #[.pointer (some ⟨z, 0, none⟩), .agg #[.int .i64 s.now, u, v]] W fun e w' => e = .returned (.tuple #[]) ∧ ∃ gb hb, TBox w' z s.now (rowV gb s.ns.length) (rowV hb s.ns.length) d a on nv lv ∧ IBlock w' gb s.ns ∧ IBlock w' hb s.os ∧ W.heap.size ≤ gb ∧ W.heap.size ≤ hb ∧ Keeps (fun k => k = z) W w' := by
  obtain ⟨w0, hw0⟩ : ∃ X : World, X = W.alloc (.cells #[.int .i64 s.now, u, v] 45) := ⟨_, rfl⟩
  have hb0 : Below W.heap.size W w0 := by rw [hw0]; exact below1 _ _
  have HBX := Lib.hid (show RBox w0 W.heap.size s.now u v ∧ Below W.heap.size W w0 by exact ⟨by rw [hw0]; exact RBox.new _ _ _ _, hb0⟩)
  have HC := Lib.hid (run_yes s u v (.slice none 0 0) [] w0 (nums_below hn hb0) (nums_below ho hb0) (rgs_nil _) (by simp) g)
  have HKB := Lib.hid kb
  have HLO := Lib.hid g.lo
  obtain ⟨d0, d1, d2⟩ := HBX.out.1.cells
  obtain ⟨p, c, rfl, -⟩ := hn
  obtain ⟨p2, c2, rfl, -⟩ := ho
  clear hb0 g kb
  go_enter Try.func52, Try.ntmps52
  go_wp2_with fail
  rw [← hw0]
  have HZ0 := Lib.hid (show w0.heap.size = W.heap.size + 1 by rw [hw0]; simp)
  clear hw0
  (with_reducible refine HC.out.mono ?_)
  rintro e w1 ⟨h | ⟨-, gb, hb, hgb, hhb, -, rfl, hI, hJ⟩, hb1⟩
  · obtain ⟨i, hi, -⟩ := h
    simp at hi
  obtain ⟨now, hnow⟩ : ∃ x, x = s.now := ⟨_, rfl⟩
  obtain ⟨n, hn⟩ : ∃ x, x = s.ns.length := ⟨_, rfl⟩
  have hm : n = s.os.length := by rw [hn]; exact HLO.out.symm
  have hr : runS s [] = s := rfl
  rw [hr] at hI hJ
  rw [hr, ← hn, ← hm, ← hnow]
  have hx1 := HBX.out.1.below hb1
  have hB1 := below_then HBX.out.2 HBX.out.2.size hb1
  have hk := RBox.putK w1 W.heap.size now (.slice (some ⟨gb, 0, none⟩) n n) (.slice (some ⟨hb, 0, none⟩) n n)
  have hp := hx1.put now (.slice (some ⟨gb, 0, none⟩) n n) (.slice (some ⟨hb, 0, none⟩) n n)
  have hz : z < W.heap.size := HKB.out.lt
  obtain ⟨w2, hw2⟩ : ∃ X : World, X = (((w1.setCell ⟨W.heap.size, 0, none⟩ (.int .i64 now)).setCell ⟨W.heap.size, 1, none⟩ (.slice (some ⟨gb, 0, none⟩) n n)).setCell ⟨W.heap.size, 2, none⟩ (.slice (some ⟨hb, 0, none⟩) n n)) := ⟨_, rfl⟩
  rw [← hw2] at hk hp
  have HF := Lib.hid (show RBox w2 W.heap.size now (.slice (some ⟨gb, 0, none⟩) n n) (.slice (some ⟨hb, 0, none⟩) n n) ∧ IBlock w2 gb s.ns ∧ IBlock w2 hb s.os ∧ Below W.heap.size W w2 ∧ TBox w2 z now0 u0 v0 d a on nv lv ∧ W.heap.size < gb ∧ W.heap.size < hb ∧ z < W.heap.size from by
    have h1 := HZ0.out
    refine ⟨hp, hI.keeps hk (by omega), hJ.keeps hk (by omega), hB1.trans (hk.below hB1.size (fun k e => by omega)), (HKB.out.below hB1).keeps hk (by omega), by omega, by omega, hz⟩)
  obtain ⟨d0, d1, d2⟩ := hx1.cells
  have m0 := hx1.marks 0
  have m1 := hx1.marks 1
  have m2 := hx1.marks 2
  have HW2 := Lib.hid hw2
  have HNN := Lib.hid (And.intro hnow hn)
  clear hx1 hB1 hk hp hI hJ hgb hhb hb1 hw2 hr hm hn hnow hz HC
  go_wp2_with fail
  rw [← HW2.out]
  (with_reducible refine (must_ok w2).mono ?_)
  rintro e w2' ⟨rfl, hww⟩
  rw [hww]
  clear hww d0 d1 d2 m0 m1 m2
  obtain ⟨d0, d1, d2⟩ := HF.out.1.cells
  obtain ⟨e0, e1, e2, e3, e4, e5, e6, e7⟩ := HF.out.2.2.2.2.1.cells
  have m0 := HF.out.2.2.2.2.1.marks 0
  have m1 := HF.out.2.2.2.2.1.marks 1
  have m2 := HF.out.2.2.2.2.1.marks 2
  have HP := Lib.hid (HF.out.2.2.2.2.1.putR now (.slice (some ⟨gb, 0, none⟩) n n) (.slice (some ⟨hb, 0, none⟩) n n))
  have HK := Lib.hid (putRK w2 z now (.slice (some ⟨gb, 0, none⟩) n n) (.slice (some ⟨hb, 0, none⟩) n n))
  go_wp2
  go_end0
  obtain ⟨-, h2, h3, h4, -, h6, h7, h8⟩ := HF.out
  refine ⟨rfl, gb, hb, ?_, h2.keeps HK.out (by omega), h3.keeps HK.out (by omega), Nat.le_of_lt h6, Nat.le_of_lt h7, (Keeps.of_below h4).trans HK.out⟩
  rw [← HNN.out.1, ← HNN.out.2]
  exact HP.out

/-- The error of Play. -/
def allE (s : RdS) (g : GrS) (l : List (Int × Int)) : Int := if mayB s.now s.ns s.os = false then 210 else if mayG g = false then 220 else if s.ns.length ≠ g.nd.length then 220 else playE ⟨s, g, []⟩ l
/-- What Play has a turn do. -/
def AllQ (z : Nat) (E : Int) (P' : PlS) (e : Ending) (W w' : World) : Prop :=
  Keeps (fun k => k = z ∨ z + 2 ≤ k) W w' ∧ ((E ≠ 0 ∧ e = woe E ∧ TAny w' z) ∨ (E = 0 ∧ e = .returned (.tuple #[]) ∧ ∃ n gb hb nb lv, PlAt w' z (z + 2) P' n gb hb nb lv ∧ z + 2 ≤ nb))

set_option maxHeartbeats 16000000 in
theorem play1_c (z rb gb lb : Nat) (s : RdS) (u v : Value) (g : GrS) (nv tv : Value) (l : List (Int × Int)) (W : World) (kb : TBox W z 0 nilV nilV 0 0 false nilV nilV) (hz2 : z + 2 = W.heap.size)
    (hrb : RBox W rb s.now u v) (hgb : GBox W gb g.done g.asked g.on nv) (hlb : Boxed W lb 46 tv) (hrz : rb < z) (hgz : gb < z) (hlz : lb < z)
    (hn : NumsAt W .i64 u s.ns) (ho : NumsAt W .i64 v s.os) (h1 : s.ns.length ≤ 9223372036854775807) (h2 : s.os.length ≤ 9223372036854775807) (hr : ∀ x ∈ s.os, I64 x)
    (hv : BoolsAt W nv g.nd) (h3 : g.nd.length ≤ 9223372036854775807) (hl : TksAt W tv l) (hz : ∀ b off n c, tv = .slice (some ⟨b, off, none⟩) n c → l ≠ [] → b < z) (hzv : ∀ b off n c, nv = .slice (some ⟨b, off, none⟩) n c → b < z) (hls : l.length ≤ 1000000) :
    Calls Try.prog 51 #[.pointer (some ⟨z, 0, none⟩), .pointer (some ⟨rb, 0, none⟩), .pointer (some ⟨gb, 0, none⟩), .pointer (some ⟨lb, 0, none⟩)] W fun e w' => AllQ z (allE s g l) (playP ⟨s, g, []⟩ l) e W w' := by
  obtain ⟨d0, d1, d2⟩ := hrb.cells
  have HKB := Lib.hid kb
  have HZ := Lib.hid (show rb < z ∧ gb < z ∧ lb < z ∧ z + 2 = W.heap.size from ⟨hrz, hgz, hlz, hz2⟩)
  have HBX := Lib.hid (show GBox W gb g.done g.asked g.on nv ∧ Boxed W lb 46 tv from ⟨hgb, hlb⟩)
  have HTK := Lib.hid (And.intro hl (And.intro hz hls))
  have HNV := Lib.hid (And.intro hv (And.intro h3 hzv))
  cases hm : mayB s.now s.ns s.os with
  | false =>
    have HC := Lib.hid (pread_no z s u v W hn ho h1 h2 hr hm)
    have HE := Lib.hid (show allE s g l = 210 by unfold allE; rw [if_pos hm])
    obtain ⟨p, c, rfl, -⟩ := hn
    obtain ⟨p2, c2, rfl, -⟩ := ho
    clear hm h1 h2 hr hv hl hz hzv kb hz2 hrz hgz hlz hgb hlb hrb h3 hls
    go_enter Try.func51, Try.ntmps51
    go_wp2_with fail
    (with_reducible refine HC.out.mono ?_)
    rintro e w1 ⟨rfl, hb1⟩
    exact ⟨rfl, Keeps.of_below hb1, .inl ⟨by rw [HE.out]; decide, by rw [HE.out]; rfl, TAny.keeps ⟨_, _, _, _, _, _, _, _, HKB.out, nil_sl, nil_sl, nil_sl, nil_sl⟩ (keepsB (z := z + 1) hb1) (by omega)⟩⟩
  | true =>
    have hgood := (good_iff s).1 hm
    have HGD := Lib.hid (And.intro hgood hm)
    have HC := Lib.hid (pread_ok z 0 nilV nilV 0 0 false nilV nilV s u v W kb hn ho hgood)
    obtain ⟨p, c, rfl, -⟩ := hn
    obtain ⟨p2, c2, rfl, -⟩ := ho
    obtain ⟨pn, cn, rfl, -⟩ := id hv
    obtain ⟨tp, tc, rfl, -⟩ := id hl
    clear hm h1 h2 hr hv hl hz hzv kb hz2 hrz hgz hlz hgb hlb hrb h3 hls hgood
    go_enter Try.func51, Try.ntmps51
    go_wp2_with fail
    (with_reducible refine HC.out.mono ?_)
    rintro e w1 ⟨rfl, b1, b2, hT, hI, hJ, hg1, hg2, hk⟩
    have hgz : GBox w1 gb g.done g.asked g.on (.slice pn g.nd.length cn) := HBX.out.1.keeps hk (by have := HZ.out; omega)
    have hlz : Boxed w1 lb 46 (.slice tp l.length tc) := (hk.block lb HBX.out.2.lt (by have := HZ.out; omega)).trans HBX.out.2
    have HV1 := Lib.hid (show BoolsAt w1 (.slice pn g.nd.length cn) g.nd from by
      obtain ⟨q, cap, e, hc⟩ := HNV.out.1
      injection e with e1 e2 e3
      subst e1 e3
      refine ⟨_, _, rfl, fun hne => ?_⟩
      obtain ⟨b, off, rfl, hcs⟩ := hc hne
      have := HNV.out.2.2 b off _ _ rfl
      exact ⟨b, off, rfl, fun i hi => hk.cell (hcs i hi) (by show ¬ b = z; omega)⟩)
    have HT1 := Lib.hid (show TBox w1 z s.now (rowV b1 s.ns.length) (rowV b2 s.ns.length) 0 0 false nilV nilV ∧ IBlock w1 b1 s.ns ∧ IBlock w1 b2 s.os ∧ W.heap.size ≤ b1 ∧ W.heap.size ≤ b2 ∧ Keeps (fun k => k = z) W w1 ∧ Boxed w1 lb 46 (.slice tp l.length tc) from ⟨hT, hI, hJ, hg1, hg2, hk, hlz⟩)
    obtain ⟨e0, e1, e2, e3⟩ := hgz.cells
    clear hT hI hJ hg1 hg2 hk hlz hgz HC d0 d1 d2
    cases hmg : mayG g with
    | false =>
      have HC := Lib.hid (ghold_no z g _ w1 HV1.out HNV.out.2.1 hmg)
      have HE := Lib.hid (show allE s g l = 220 by unfold allE; rw [if_neg (by rw [HGD.out.2]; decide), if_pos hmg])
      clear hmg
      go_wp2_with fail
      (with_reducible refine HC.out.mono ?_)
      rintro e w2 ⟨rfl, hb2⟩
      exact ⟨rfl, (HT1.out.2.2.2.2.2.1.sub (fun k _ e => .inl e)).trans (Keeps.of_below hb2), .inl ⟨by rw [HE.out]; decide, by rw [HE.out]; rfl, TAny.keeps ⟨_, _, _, _, _, _, _, _, HT1.out.1, rowV_sl _ _, rowV_sl _ _, nil_sl, nil_sl⟩ (keepsB (z := z + 1) hb2) (by omega)⟩⟩
    | true =>
      have HMG := Lib.hid hmg
      have HC := Lib.hid (ghold_ok z (z + 2) s.now (rowV b1 s.ns.length) (rowV b2 s.ns.length) 0 0 false nilV nilV [] g _ w1 HV1.out (mayG_facts hmg).2.1 hmg HT1.out.1 (World.ownsRow_nil _ _ _ _))
      clear hmg
      go_wp2_with fail
      (with_reducible refine HC.out.mono ?_)
      rintro e w2 ⟨rfl, nb, k2, hk2, hnb⟩
      have HT2 := Lib.hid (show TuAt w2 z (z + 2) s.now (rowV b1 s.ns.length) (rowV b2 s.ns.length) g g.nd.length nb nilV [] ∧ IBlock w2 b1 s.ns ∧ IBlock w2 b2 s.os ∧ W.heap.size ≤ nb ∧ Keeps (fun k => k = z ∨ z + 2 ≤ k) W w2 ∧ Boxed w2 lb 46 (.slice tp l.length tc) ∧ z + 2 ≤ w2.heap.size from by
        obtain ⟨g1, g2, g3, g4, g5, g6, g7⟩ := HT1.out
        have hz := HZ.out
        refine ⟨k2, g2.keeps hk2 (by omega), g3.keeps hk2 (by omega), Nat.le_trans g6.size hnb, (g6.trans hk2).sub (fun k _ e => .inl e), (hk2.block lb g7.lt (by omega)).trans g7, ?_⟩
        have := g6.size
        have := hk2.size
        omega)
      obtain ⟨d0, d1, d2, d3, d4, d5, d6, d7⟩ := k2.box.cells
      unfold rowV at d1 d2
      clear k2 hk2 hnb HC e0 e1 e2 e3
      by_cases hlen : s.ns.length = g.nd.length
      · have hq : ((s.ns.length : Int) != (g.nd.length : Int)) = false := by rw [bne_eq_false_iff_eq]; omega
        have HE := Lib.hid (show allE s g l = playE ⟨s, g, []⟩ l by unfold allE; rw [if_neg (by rw [HGD.out.2]; decide), if_neg (by rw [HMG.out]; decide), if_neg (fun h => h hlen)])
        have HP2 := Lib.hid (show ∀ Z, Below w2.heap.size w2 Z → PlAt Z z (z + 2) ⟨s, g, []⟩ g.nd.length b1 b2 nb nilV from fun Z hZ => by
          obtain ⟨g1, g2, g3, g4, g5, g6, g7⟩ := HT2.out
          have g1' := g1.below hZ
          rw [hlen] at g1'
          exact ⟨g1', g2.below hZ, g3.below hZ, ⟨HGD.out.1, (goodG_iff g).1 HMG.out, hlen⟩, fun q hq => by (cases hq), Nat.le_trans g7 hZ.size⟩)
        have el := HT2.out.2.2.2.2.2.1.cell
        clear hlen
        go_wp2
        go_quiet (fail)
        rename_i nq
        have HC := Lib.hid (ticks_c z ⟨s, g, []⟩ g.nd.length b1 b2 nb nilV (.slice tp l.length tc) l (w2.drewN nq) (HP2.out _ (below_drewN (Below.refl _ _) nq)) (by have := HT2.out.2.2.2.1; have := HZ.out; omega)
          ((HTK.out.1.keeps HT2.out.2.2.2.2.1 (fun q h => by omega) HTK.out.2.1).below (below_drewN (Below.refl _ _) nq)) HTK.out.2.1 (by have := HTK.out.2.2; simp only [List.length_nil]; omega))
        go_wp2_with fail
        (with_reducible refine HC.out.mono ?_)
        rintro e w3 ⟨hk3, h | ⟨h1, rfl, c1, c2, c3, lv, h2, h3⟩⟩
        · obtain ⟨hne, rfl, hany⟩ := h
          exact ⟨rfl, (HT2.out.2.2.2.2.1.drewN nq).trans hk3, .inl ⟨by rw [HE.out]; exact hne, by rw [HE.out]; rfl, hany⟩⟩
        · have HR := Lib.hid (show AllQ z (allE s g l) (playP ⟨s, g, []⟩ l) (.returned (.tuple #[])) W w3 from ⟨(HT2.out.2.2.2.2.1.drewN nq).trans hk3, .inr ⟨by rw [HE.out]; exact h1, rfl, _, _, _, _, _, h2, h3⟩⟩)
          clear h2 h3 h1 hk3
          go_wp2
          go_end0
          exact HR.out
      · have hq : ((s.ns.length : Int) != (g.nd.length : Int)) = true := by rw [bne_iff_ne]; omega
        have HE := Lib.hid (show allE s g l = 220 by unfold allE; rw [if_neg (by rw [HGD.out.2]; decide), if_neg (by rw [HMG.out]; decide), if_pos hlen])
        clear hlen
        go_wp2
        go_quiet (fail)
        rename_i nq
        go_wp2
        exact ⟨rfl, HT2.out.2.2.2.2.1.drewN nq, .inl ⟨by rw [HE.out]; decide, by rw [HE.out]; rfl, (HT2.out.1.any (rowV_sl _ _) (rowV_sl _ _)).keeps (S := fun _ => False) ((Keeps.refl _ _).drewN nq) id⟩⟩

end Go.Proofs.Ytdmcijfjnegcgaa
/-
  Opening arguments of layer 12: a grace, a row of ticks.
  Conditions: none.
-/
namespace Go.Proofs.Ytdmcijfjnegcgaa
open Go.ChangeShapes Go.WideShapes Go.ChangeAt Go.RowKit Go.Deep Go.Joins

theorem bools_argr {H : Type} {enc : TypeId × Value → H} {P : Program} {W : World} {t e : TypeId} {n : Nat} {v : Value} {y : DataW H × List MemPlace} (ht : P.underlying t = some (.slice e)) (he : P.underlying e = some .bool) (hc : P.cellsOf e = 1)
    (hf : DataW.trod enc P W 0 (fun _ => true) true n t [v] = some y) :
    ∃ ls : List Bool, ArgR W v (ls.map Value.bool) ∧ ls.length ≤ 9223372036854775807 := by
  rcases open_bools ht he hc hf with ⟨hcs, _⟩ | ⟨a, len', cap', B, hcs, _, hl, hm, _, hcell⟩
  · simp only [List.cons.injEq, and_true] at hcs
    subst hcs
    exact ⟨[], ⟨_, _, _, rfl, rfl, .inl ⟨rfl, rfl, rfl⟩⟩, by decide⟩
  · simp only [List.cons.injEq, and_true] at hcs
    subst hcs
    refine ⟨(List.range len').map B, ⟨_, _, _, rfl, by simp, .inr ⟨a, rfl, hl, fun j u hj => ?_⟩⟩, by simp; unfold maxLen at hm; omega⟩
    obtain ⟨hj1, rfl⟩ := List.getElem?_eq_some_iff.1 hj
    have hj2 : j < len' := by simpa using hj1
    rw [hcell j (by omega)]
    simp


set_option maxRecDepth 100000 in
theorem grace_open {H : Type} {enc : TypeId × Value → H} {W : World} {base : Nat} {v : Value} {d : DataW H} {ps : List MemPlace}
    (hval : Value.okWide Try.prog W .any base 24 v) (h : DataW.Trod enc Try.prog W 0 (fun _ => true) true 24 v d ps) :
    ∃ (k a : Int) (on : Bool) (u : Value) (xs : List Bool), v = .agg #[.int .i64 k, .int .i64 a, .bool on, u] ∧ ArgR W u (xs.map Value.bool) ∧ xs.length ≤ 9223372036854775807 ∧ I64 k ∧ I64 a := by
  obtain ⟨v0, v1, v2, v3, y0, y1, y2, y3, n, rfl, _, _, h0, h1, h2, h3⟩ := open_agg4 Try.underlying24 (by kernel_rfl) (by kernel_rfl) hval h
  obtain ⟨k, hk, _, wk⟩ := DataW.trod_int (t := 3) Try.underlying3 h0
  obtain ⟨a, ha, _, wa⟩ := DataW.trod_int (t := 3) Try.underlying3 h1
  obtain ⟨f, hf, _⟩ := DataW.trod_bool (t := 4) Try.underlying4 h2
  simp only [List.cons.injEq, and_true] at hk ha hf
  subst hk ha hf
  obtain ⟨ls, hb, hl2⟩ := bools_argr (t := 22) Try.underlying22 Try.underlying4 (by kernel_rfl) h3
  exact ⟨k, a, f, v3, ls, rfl, hb, hl2, by simpa [I64, Lit.wf, IntKind.min, IntKind.max, IntKind.signed, IntKind.bits] using wk, by simpa [I64, Lit.wf, IntKind.min, IntKind.max, IntKind.signed, IntKind.bits] using wa⟩

set_option maxRecDepth 100000 in
theorem ticks_open {H : Type} {enc : TypeId × Value → H} {W : World} {base : Nat} {v : Value} {d : DataW H} {ps : List MemPlace}
    (hval : Value.okWide Try.prog W .any base 46 v) (h : DataW.Trod enc Try.prog W 0 (fun _ => true) true 46 v d ps) :
    ∃ bs : List (Int × Int), TksAt W v bs ∧ bs.length ≤ 9223372036854775807 ∧ ∀ p n c, v = .slice p n c → n ≤ c ∧ (p = none → c = 0) := by
  obtain ⟨a0, len, cap, rfl⟩ := okWide_slice Try.underlying46 hval
  obtain ⟨fuel, hf⟩ := h
  have hce : Try.prog.cellsOf 50 = 2 := by kernel_rfl
  have hcu : Try.prog.cellsOf 3 = 1 := by kernel_rfl
  rcases open_slice Try.underlying46 hf with ⟨hcs, _⟩ | ⟨a, len', cap', m, n, D, Pl, hcs, _, hl, hm, hmm, _, hall⟩
  · simp [Value.cells] at hcs
    obtain ⟨rfl, rfl, rfl⟩ := hcs
    exact ⟨[], ⟨_, _, rfl, fun h => absurd rfl h⟩, by decide, fun p n c e => by cases e; exact ⟨Nat.le_refl _, fun _ => rfl⟩⟩
  · simp [Value.cells] at hcs
    obtain ⟨rfl, rfl, rfl⟩ := hcs
    simp only [if_true] at hmm
    have hone : ∀ i, i < len → ∃ g : Int × Int, W.cell? (a.add (i * 2)) = some (.int .i64 g.1) ∧ W.cell? (a.add (i * 2 + 1)) = some (.int .i64 g.2) := by
      intro i hi
      obtain ⟨cs', hc, ht⟩ := hall i (by omega)
      rw [hce] at hc
      obtain ⟨_, hcl, hat⟩ := World.cells?_some hc
      obtain ⟨xs, k, _, _, _, hlx, hx⟩ := DataW.trod_struct Try.underlying50 ht
      have hlx : xs.length = 2 := hlx
      match cs', hcl with
      | [c0, c1], _ =>
        have h0 : DataW.trod enc Try.prog W 0 (fun _ => true) true k 3 (([c0, c1].drop 0).take (Try.prog.cellsOf 3)) = xs[0]? := hx 0 _ rfl
        have h1 : DataW.trod enc Try.prog W 0 (fun _ => true) true k 3 (([c0, c1].drop 1).take (Try.prog.cellsOf 3)) = xs[1]? := hx 1 _ rfl
        rw [hcu] at h0 h1
        simp only [List.drop_zero, List.take_succ_cons, List.take_zero, List.drop_succ_cons] at h0 h1
        rw [List.getElem?_eq_getElem (by omega)] at h0 h1
        have e0 := hat 0 (by decide)
        have e1 := hat 1 (by decide)
        rw [Go.Deep.add_add] at e0 e1
        obtain ⟨x0, y0, _, w0⟩ := DataW.trod_int (t := 3) Try.underlying3 h0
        obtain ⟨x1, y1, _, w1⟩ := DataW.trod_int (t := 3) Try.underlying3 h1
        simp only [List.cons.injEq, and_true] at y0 y1
        subst y0 y1
        exact ⟨(x0, x1), by simpa using e0, by simpa using e1⟩
    obtain ⟨F, hF⟩ := choose_lt' hone
    have hlen : ((List.range len).map F).length = len := by simp
    refine ⟨(List.range len).map F, ⟨_, _, by rw [hlen], fun hne => ?_⟩, by rw [hlen]; unfold maxLen at hm; omega, fun p n c e => by cases e; exact ⟨hl, fun h => by cases h⟩⟩
    have hpos : 0 < len := by
      rcases Nat.eq_zero_or_pos len with e | e
      · subst e; exact absurd rfl hne
      · exact e
    obtain ⟨b, off, sp⟩ := a
    have h0 := (hF 0 hpos).1
    rw [Nat.zero_mul, Addr.add_zero'] at h0
    obtain rfl := spot_none h0
    refine ⟨b, off, rfl, fun i hi => ?_⟩
    rw [hlen] at hi
    have hg := hF i hi
    rw [addr_add_off, addr_add_off] at hg
    simp only [List.getElem_map, List.getElem_range]
    exact ⟨hg.1, by rw [Nat.add_assoc]; exact hg.2⟩


end Go.Proofs.Ytdmcijfjnegcgaa
namespace Go.Proofs.Ytdmcijfjnegcgaa
open Go.ChangeShapes Go.WideShapes Go.ChangeAt Go.RowKit Go.Deep Go.Joins

theorem nums_open {H : Type} {enc : TypeId × Value → H} {P : Program} {W : World} {base : Nat} {t e : TypeId} {k : IntKind} {v : Value} {d : DataW H} {ps : List MemPlace} (ht : P.underlying t = some (.slice e)) (he : P.underlying e = some (.int k)) (hc : P.cellsOf e = 1)
    (hval : Value.okWide P W .any base t v) (h : DataW.Trod enc P W 0 (fun _ => true) true t v d ps) :
    ∃ ns : List Int, NumsAt W k v ns ∧ (∀ x ∈ ns, (Lit.int k x).wf = true) ∧ ns.length ≤ 9223372036854775807 := by
  obtain ⟨a0, len, cap, rfl⟩ := okWide_slice ht hval
  obtain ⟨fuel, hf⟩ := h
  rcases open_ints ht he hc hf with ⟨hcs, _⟩ | ⟨a, len', cap', zs, hcs, _, hl, hm, hz, _, hcell, hwz⟩
  · simp [Value.cells] at hcs
    obtain ⟨rfl, rfl, rfl⟩ := hcs
    exact ⟨[], ⟨_, _, rfl, fun h => absurd rfl h⟩, (fun x hx => by cases hx), by decide⟩
  · simp [Value.cells] at hcs
    obtain ⟨rfl, rfl, rfl⟩ := hcs
    simp only [if_true] at hz
    have hlen : (zs.take len).length = len := List.length_take_of_le (by omega)
    refine ⟨zs.take len, ⟨_, _, by rw [hlen], fun hne => ?_⟩, fun x hx => hwz x (List.mem_of_mem_take hx), by rw [hlen]; unfold maxLen at hm; omega⟩
    have hpos : 0 < len := by
      rcases Nat.eq_zero_or_pos len with e | e
      · subst e; exact absurd (List.take_zero) hne
      · exact e
    obtain ⟨b, off, sp⟩ := a
    have hspot : sp = none := by
      have h0 := hcell 0 (by omega)
      simp only [Addr.add, if_true, World.cell?] at h0
      split at h0
      · cases sp with
        | none => rfl
        | some x => simp at h0
      · cases h0
    subst hspot
    refine ⟨b, off, rfl, fun i hi => ?_⟩
    rw [hlen] at hi
    have h1 := hcell i (by omega)
    rw [addr_add_off, List.getD_eq_getElem?_getD, List.getElem?_eq_getElem (by omega)] at h1
    simpa using h1

end Go.Proofs.Ytdmcijfjnegcgaa
