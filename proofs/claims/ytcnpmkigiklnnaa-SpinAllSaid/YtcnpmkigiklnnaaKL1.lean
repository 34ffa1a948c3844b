/-
  If all are picked often enough, in whatever order each time, all have had the lock, once each: the statement's body.
  Conditions: the rows of picks are ones that came in.
-/
import Derived.Test.YtcnpmkigiklnnaaKA1
import Derived.Test.YtcnpmkigiklnnaaKAH
import Derived.Shelf.Sort.Plain
import Derived.Shelf.Slices.In.SortNone
import Derived.Test.YtcnpmkigiklnnaaProg
import Derived.Sort.OwnSortedInts
/-
  All have had the lock once all were picked often enough: plain mathematics over the steps of a play.
  Conditions: none.
-/
namespace Go.Proofs.Ytcnpmkigiklnnaa
open Go.RowKit Go.Shelf

/-- A turn, told outright. -/
def Tr (nx ow : Nat) (s : SpM) (nx' ow' : Nat) (s' : SpM) : Prop :=
  (s.p = 0 ∧ s' = ⟨0, 1, nx⟩ ∧ nx' = nx ∧ ow' = ow) ∨ (s.p = 1 ∧ s.t = nx ∧ s' = ⟨0, 2, nx⟩ ∧ nx' = nx + 1 ∧ ow' = ow) ∨ (s.p = 1 ∧ s.t ≠ nx ∧ s' = ⟨0, 0, 0⟩ ∧ nx' = nx ∧ ow' = ow) ∨
  (s.p = 2 ∧ s.t = ow ∧ s' = ⟨0, 3, ow⟩ ∧ nx' = nx ∧ ow' = ow) ∨ (s.p = 2 ∧ s.t ≠ ow ∧ s' = s ∧ nx' = nx ∧ ow' = ow) ∨ (s.p = 3 ∧ s' = ⟨0, 5, ow⟩ ∧ nx' = nx ∧ ow' = ow + 1) ∨ (s.p = 5 ∧ s' = s ∧ nx' = nx ∧ ow' = ow)
theorem turn_tr {n nx ow : Nat} {ss : List SpM} {ord : List Nat} {i : Nat} (h : TickI n nx ow ss ord) (hi : i < n) (hb : nx ≤ 1000000) (hb2 : ow ≤ 1000000) :
    ∃ nx' ow' s', turnP lk (lkP nx ow ss) i = lkP nx' ow' (ss.set i s') ∧ Tr nx ow (ss.getD i dS) nx' ow' s' := by
  have hl := h.len
  have hi' : i < ss.length := by omega
  have ho := h.each i hi
  obtain ⟨⟨a, p, t⟩, hs⟩ : ∃ s, ss.getD i dS = s := ⟨_, rfl⟩
  rw [hs] at ho ⊢
  obtain ⟨ha, hc⟩ := ho
  simp only at ha hc
  subst ha
  rcases hc with ⟨rfl, rfl⟩ | ⟨rfl, h1, h2⟩ | ⟨rfl, h1, h2⟩ | ⟨rfl, rfl, h1, h2⟩ | ⟨rfl, h1, h2, h3⟩
  · exact ⟨nx, ow, _, turn_0 hi' hs, .inl ⟨rfl, rfl, rfl, rfl⟩⟩
  · by_cases ht : (nx : Int) = t
    · subst ht
      exact ⟨nx + 1, ow, _, turn_1y hi' hs hb, .inr (.inl ⟨rfl, rfl, rfl, rfl, rfl⟩)⟩
    · exact ⟨nx, ow, _, turn_1n hi' hs ht, .inr (.inr (.inl ⟨rfl, fun e => ht e.symm, rfl, rfl, rfl⟩))⟩
  · by_cases ht : (ow : Int) = t
    · subst ht
      exact ⟨nx, ow, _, turn_2y hi' hs, .inr (.inr (.inr (.inl ⟨rfl, rfl, rfl, rfl, rfl⟩)))⟩
    · exact ⟨nx, ow, _, turn_2n hi' hs ht, .inr (.inr (.inr (.inr (.inl ⟨rfl, fun e => ht e.symm, rfl, rfl, rfl⟩))))⟩
  · exact ⟨nx, ow + 1, _, turn_3 hi' hs hb2, .inr (.inr (.inr (.inr (.inr (.inl ⟨rfl, rfl, rfl, rfl⟩)))))⟩
  · refine ⟨nx, ow, ⟨0, 5, t⟩, ?_, .inr (.inr (.inr (.inr (.inr (.inr ⟨rfl, rfl, rfl, rfl⟩)))))⟩
    rw [turn_5 hi' hs]
    have : ss.set i ⟨0, 5, t⟩ = ss := by
      rw [← hs, List.getD_eq_getElem?_getD, List.getElem?_eq_getElem hi']
      exact List.set_getElem_self hi'
    rw [this]
theorem lkP_inj {a b c d : Nat} {s t : List SpM} (h : lkP a b s = lkP c d t) : a = c ∧ b = d ∧ s = t := by
  unfold lkP at h
  injection h with h1 _ h3
  injection h1 with h1 h2
  injection h2 with h2 _
  exact ⟨by omega, by omega, h3⟩
def tickB (s : SpM) : Bool := decide (2 ≤ s.p)
/-- All tickets below the next one are somebody's; so many have one. -/
structure TickJ (n nx ow : Nat) (ss : List SpM) (ord : List Nat) : Prop where
  tick : TickI n nx ow ss ord
  cnt : ss.countP tickB = nx
  sur : ∀ t, t < nx → ∃ i, i < n ∧ 2 ≤ (ss.getD i dS).p ∧ (ss.getD i dS).t = t
theorem TickJ.le {n nx ow : Nat} {ss : List SpM} {ord : List Nat} (h : TickJ n nx ow ss ord) : nx ≤ n := by
  rw [← h.cnt, ← h.tick.len]
  exact List.countP_le_length
theorem TickJ.ordle {n nx ow : Nat} {ss : List SpM} {ord : List Nat} (h : TickJ n nx ow ss ord) : ord.length ≤ nx := by
  by_cases h0 : ord.length = 0
  · omega
  · obtain ⟨a, b, c⟩ := h.tick.held (ord.length - 1) (by omega)
    have := h.tick.each _ a
    unfold OneS at this
    omega
theorem countP_set' (l : List SpM) (i : Nat) (h : i < l.length) (s : SpM) : (l.set i s).countP tickB + (if tickB (l.getD i dS) = true then 1 else 0) = l.countP tickB + (if tickB s = true then 1 else 0) := by
  induction l generalizing i with
  | nil => simp at h
  | cons x r ih =>
    cases i with
    | zero => simp only [List.set_cons_zero, List.countP_cons, List.getD_cons_zero]; omega
    | succ i =>
      have := ih i (by simpa using h)
      simp only [List.set_cons_succ, List.countP_cons, List.getD_cons_succ]
      omega
/-- How many picks it takes to have a ticket, if nobody else gets one. -/
def need (nx : Nat) (s : SpM) : Nat := if s.p = 0 then 2 else if s.t = nx then 1 else 3
theorem need_0 (nx : Nat) {s : SpM} (h : s.p = 0) : need nx s = 2 := by unfold need; rw [if_pos h]
theorem need_1 (nx : Nat) {s : SpM} (h : s.p = 1) (ht : s.t = nx) : need nx s = 1 := by unfold need; rw [if_neg (by omega), if_pos ht]
theorem need_2 (nx : Nat) {s : SpM} (h : s.p = 1) (ht : s.t ≠ nx) : need nx s = 3 := by unfold need; rw [if_neg (by omega), if_neg ht]
theorem need_pos (nx : Nat) (s : SpM) : 1 ≤ need nx s ∧ need nx s ≤ 3 := by unfold need; split <;> (try split) <;> omega
/-- What a row of picks brings. -/
structure Runs (n nx ow : Nat) (ss : List SpM) (ord : List Nat) (ps : List Nat) (nx' ow' : Nat) (ss' : List SpM) (hs : List Nat) : Prop where
  tick : TickJ n nx' ow' ss' (ord ++ hs)
  up : nx ≤ nx'
  on : ow ≤ ow'
  early : ∀ j, j < n → (ss.getD j dS).p < 2 → nx' = nx → (ss'.getD j dS).p < 2 ∧ need nx (ss'.getD j dS) + ps.count j ≤ need nx (ss.getD j dS)
  late : ∀ j, j < n → 2 ≤ (ss.getD j dS).p → (ss.getD j dS).t = ow → (ss.getD j dS).p ≠ 5 → ow' + hs.length = ow → j ∉ ps
theorem TickJ.one {n nx ow : Nat} {ss : List SpM} {ord : List Nat} (h : TickJ n nx ow ss ord) {i : Nat} (hi : i < n) (hb : n ≤ 1000) :
    ∃ nx' ow' s', turnP lk (lkP nx ow ss) i = lkP nx' ow' (ss.set i s') ∧ Tr nx ow (ss.getD i dS) nx' ow' s' ∧ TickJ n nx' ow' (ss.set i s') (ord ++ if s'.p = 3 then [i] else []) := by
  have h1 := h.le
  have h2 := h.ordle
  have h3 := h.tick.low
  have hl := h.tick.len
  obtain ⟨nx', ow', s', ht, htr⟩ := turn_tr h.tick hi (by omega) (by omega)
  obtain ⟨nx2, ow2, ss2, ht2, _, _, hT⟩ := h.tick.turn hi (by omega) (by omega)
  obtain ⟨rfl, rfl, rfl⟩ := lkP_inj (ht.symm.trans ht2)
  rw [getD_set_self (by omega)] at hT
  have hord : (if s'.p = 3 then ord ++ [i] else ord) = ord ++ if s'.p = 3 then [i] else [] := by split <;> simp
  rw [hord] at hT
  refine ⟨nx', ow', s', ht, htr, hT, ?_, fun t ht => ?_⟩
  · have hc := countP_set' ss i (by omega) s'
    rw [h.cnt] at hc
    unfold Tr at htr
    generalize ss.getD i dS = s at htr hc
    generalize (ss.set i s').countP tickB = q at hc
    unfold tickB at hc
    simp only [decide_eq_true_eq] at hc
    rcases htr with ⟨a, rfl, c, d⟩ | ⟨a, b, rfl, c, d⟩ | ⟨a, b, rfl, c, d⟩ | ⟨a, b, rfl, c, d⟩ | ⟨a, b, rfl, c, d⟩ | ⟨a, rfl, c, d⟩ | ⟨a, rfl, c, d⟩ <;> (try simp only at hc) <;> first | (split at hc <;> split at hc <;> omega) | (split at hc <;> omega)
  · by_cases htn : t < nx
    · obtain ⟨j, hj, hp, hjt⟩ := h.sur t htn
      refine ⟨j, hj, ?_⟩
      by_cases e : i = j
      · subst e
        rw [getD_set_self (by omega)]
        unfold Tr at htr
        have ho := h.tick.each i hi
        unfold OneS at ho
        rcases htr with ⟨a, rfl, c, d⟩ | ⟨a, b, rfl, c, d⟩ | ⟨a, b, rfl, c, d⟩ | ⟨a, b, rfl, c, d⟩ | ⟨a, b, rfl, c, d⟩ | ⟨a, rfl, c, d⟩ | ⟨a, rfl, c, d⟩ <;> (try simp only) <;> omega
      · rw [getD_set_ne e]
        exact ⟨hp, hjt⟩
    · refine ⟨i, hi, ?_⟩
      rw [getD_set_self (by omega)]
      unfold Tr at htr
      rcases htr with ⟨a, rfl, c, d⟩ | ⟨a, b, rfl, c, d⟩ | ⟨a, b, rfl, c, d⟩ | ⟨a, b, rfl, c, d⟩ | ⟨a, b, rfl, c, d⟩ | ⟨a, rfl, c, d⟩ | ⟨a, rfl, c, d⟩ <;> (try simp only) <;> omega
theorem TickJ.runs {n : Nat} (hb : n ≤ 1000) : ∀ (ps : List Nat) {nx ow : Nat} {ss : List SpM} {ord : List Nat} (h0 : List Int), TickJ n nx ow ss ord → (∀ p ∈ ps, p < n) →
    ∃ nx' ow' ss' hs, refR lk n (ps.map fun k : Nat => (k : Int)) (lkP nx ow ss) h0 = (lkP nx' ow' ss', h0 ++ hs.map fun k : Nat => (k : Int)) ∧ Runs n nx ow ss ord ps nx' ow' ss' hs
  | [], nx, ow, ss, ord, h0, h, _ => ⟨nx, ow, ss, [], by simp [refR], by rw [List.append_nil]; exact h, Nat.le_refl _, Nat.le_refl _, fun j _ hp _ => ⟨hp, by simp⟩, fun j _ _ _ _ _ => by simp⟩
  | i :: r, nx, ow, ss, ord, h0, h, hr => by
    have hi : i < n := hr i (by simp)
    have hl := h.tick.len
    obtain ⟨nx1, ow1, s1, ht, htr, h1⟩ := h.one hi hb
    obtain ⟨hs1, hhs1⟩ : ∃ hs1, hs1 = (if s1.p = 3 then [i] else []) := ⟨_, rfl⟩
    rw [← hhs1] at h1
    obtain ⟨nx', ow', ss', hs, he, hR⟩ := TickJ.runs hb r (h0 ++ hs1.map fun k : Nat => (k : Int)) h1 (fun p hp => hr p (by simp [hp]))
    refine ⟨nx', ow', ss', hs1 ++ hs, ?_, ?_⟩
    · simp only [List.map_cons, refR]
      rw [if_pos ⟨by omega, by omega⟩, Int.toNat_natCast, ht]
      have e1 : ((lkP nx1 ow1 (ss.set i s1)).ss.getD i dS) = s1 := getD_set_self (by omega)
      rw [e1]
      have e2 : (if s1.p = 3 then h0 ++ [(i : Int)] else h0) = h0 ++ hs1.map fun k : Nat => (k : Int) := by rw [hhs1]; split <;> simp
      rw [e2, he, List.map_append, List.append_assoc]
    · have hup : nx ≤ nx1 := by unfold Tr at htr; omega
      have hon : ow ≤ ow1 := by unfold Tr at htr; omega
      have hge := hR.up
      have hgo := hR.on
      refine ⟨by rw [← List.append_assoc]; exact hR.tick, by omega, by omega, fun j hj hp hnx => ?_, fun j hj hp ht5 hp5 hF => ?_⟩
      · have hn1 : nx1 = nx := by omega
        by_cases e : i = j
        · subst e
          rw [List.count_cons_self]
          have hs1' : s1.p < 2 ∧ need nx s1 + 1 ≤ need nx (ss.getD i dS) := by
            unfold Tr at htr
            rcases htr with ⟨a, rfl, c, d⟩ | ⟨a, b, rfl, c, d⟩ | ⟨a, b, rfl, c, d⟩ | ⟨a, b, rfl, c, d⟩ | ⟨a, b, rfl, c, d⟩ | ⟨a, rfl, c, d⟩ | ⟨a, rfl, c, d⟩ <;> (try omega)
            · rw [need_0 nx a, need_1 nx rfl rfl]; simp
            · rw [need_2 nx a b, need_0 nx rfl]; simp
          have := hR.early i hi (by rw [getD_set_self (by omega)]; exact hs1'.1) (by omega)
          rw [getD_set_self (by omega), hn1] at this
          exact ⟨this.1, by omega⟩
        · rw [List.count_cons_of_ne e]
          have := hR.early j hj (by rw [getD_set_ne e]; exact hp) (by omega)
          rw [getD_set_ne e, hn1] at this
          exact this
      · rw [List.length_append] at hF
        have hl1 : hs1 = [] := List.eq_nil_of_length_eq_zero (by omega)
        have ho1 : ow1 = ow := by omega
        have hne : i ≠ j := by
          rintro rfl
          have h3 : ¬ s1.p = 3 := fun h3 => by rw [hhs1, if_pos h3] at hl1; cases hl1
          have ho := h.tick.each i hi
          unfold OneS at ho
          unfold Tr at htr
          rcases htr with ⟨a, rfl, c, d⟩ | ⟨a, b, rfl, c, d⟩ | ⟨a, b, rfl, c, d⟩ | ⟨a, b, rfl, c, d⟩ | ⟨a, b, rfl, c, d⟩ | ⟨a, rfl, c, d⟩ | ⟨a, rfl, c, d⟩ <;> (try omega)
          exact h3 rfl
        have hrest := hR.late j hj (by rw [getD_set_ne hne]; exact hp) (by rw [getD_set_ne hne, ho1]; exact ht5) (by rw [getD_set_ne hne]; exact hp5) (by omega)
        simp only [List.mem_cons, not_or]
        exact ⟨fun e => hne e.symm, hrest⟩
/-- So many rounds are enough. -/
def Good (n nx ow L : Nat) (ss : List SpM) (c : Nat) : Prop :=
  (∃ j, j < n ∧ (ss.getD j dS).p < 2 ∧ 3 * (n - nx - 1) + need nx (ss.getD j dS) + 2 * n ≤ c) ∨ (nx = n ∧ 2 * n ≤ ow + L + c)
theorem good_round {n nx ow : Nat} {ss : List SpM} {ord ps : List Nat} {nx' ow' : Nat} {ss' : List SpM} {hs : List Nat} {c : Nat} (h : TickJ n nx ow ss ord) (hR : Runs n nx ow ss ord ps nx' ow' ss' hs) (hall : ∀ j, j < n → j ∈ ps) (hg : Good n nx ow ord.length ss (c + 1)) :
    Good n nx' ow' (ord ++ hs).length ss' c := by
  have hle := hR.tick.le
  have hup := hR.up
  have hon := hR.on
  have hlen' := hR.tick.tick.len
  rw [List.length_append]
  rcases hg with ⟨j, hj, hp, hc⟩ | ⟨hn, hc⟩
  · have hnp := need_pos nx (ss.getD j dS)
    by_cases hn : nx' = n
    · exact .inr ⟨hn, by omega⟩
    · by_cases hu : nx' = nx
      · obtain ⟨hp', hd⟩ := hR.early j hj hp hu
        have hcnt : 0 < ps.count j := List.count_pos_iff.2 (hall j hj)
        refine .inl ⟨j, hj, hp', ?_⟩
        rw [hu]
        omega
      · have hex : ∃ j', j' < n ∧ (ss'.getD j' dS).p < 2 := by
          refine Classical.byContradiction fun hno => ?_
          have hcl : ss'.countP tickB = ss'.length := by
            rw [List.countP_eq_length]
            intro s hs
            obtain ⟨i, hi, rfl⟩ := List.mem_iff_getElem.1 hs
            have : ¬ (ss'.getD i dS).p < 2 := fun hlt => hno ⟨i, by omega, hlt⟩
            rw [List.getD_eq_getElem?_getD, List.getElem?_eq_getElem hi] at this
            simp only [Option.getD_some] at this
            unfold tickB
            rw [decide_eq_true_eq]
            omega
          rw [hR.tick.cnt, hlen'] at hcl
          exact hn hcl
        obtain ⟨j', hj', hp'⟩ := hex
        have hnp' := need_pos nx' (ss'.getD j' dS)
        exact .inl ⟨j', hj', hp', by omega⟩
  · have hn' : nx' = n := by omega
    refine .inr ⟨hn', ?_⟩
    by_cases hF : ow' + hs.length = ow
    · by_cases hdone : 2 * n ≤ ow + ord.length + c
      · omega
      · exfalso
        have hlow := h.tick.low
        obtain ⟨j, hj, hp, ht⟩ := h.sur ow (by omega)
        have ho := h.tick.each j hj
        unfold OneS at ho
        exact hR.late j hj hp ht (by omega) hF (hall j hj)
    · omega
theorem good_start {n : Nat} (hn : 1 ≤ n) : Good n 0 0 0 (zS n) (6 * n + 6) := by
  have hz : (zS n).getD 0 dS = ⟨0, 0, 0⟩ := by
    rw [List.getD_eq_getElem?_getD, List.getElem?_eq_getElem (by rw [zS_len]; omega)]
    simp [zS]
  refine .inl ⟨0, by omega, by rw [hz]; simp, ?_⟩
  rw [hz, need_0 0 rfl]
  omega
theorem TickJ.start (n : Nat) : TickJ n 0 0 (zS n) [] := by
  refine ⟨TickI.start n, ?_, fun t ht => by omega⟩
  rw [List.countP_eq_zero]
  intro s hs
  rw [List.eq_of_mem_replicate hs]
  decide
theorem good_end {n nx ow : Nat} {ss : List SpM} {ord : List Nat} (h : TickJ n nx ow ss ord) (_hn : 1 ≤ n) (hg : Good n nx ow ord.length ss 0) : nx = n ∧ ow = n ∧ ord.length = n ∧ ∀ j, j < n → (ss.getD j dS).p = 5 := by
  rcases hg with ⟨j, hj, hp, hc⟩ | ⟨hnx, hc⟩
  · omega
  · have h1 := h.ordle
    have h2 := h.tick.low
    have how : ow = n := by omega
    have hL : ord.length = n := by omega
    refine ⟨hnx, how, hL, fun j hj => ?_⟩
    have hl := h.tick.len
    have hcl : ss.countP tickB = ss.length := by rw [h.cnt, hl, hnx]
    rw [List.countP_eq_length] at hcl
    have ht := hcl (ss[j]'(by omega)) (List.getElem_mem _)
    have e : ss.getD j dS = ss[j]'(by omega) := by rw [List.getD_eq_getElem?_getD, List.getElem?_eq_getElem (by omega)]; rfl
    rw [← e] at ht
    unfold tickB at ht
    rw [decide_eq_true_eq] at ht
    have ho := h.tick.each j hj
    unfold OneS at ho
    omega
/-- What rises, and has each of the first so many numbers once, are these in order. -/
theorem rises {n : Nat} {l R : List Int} (hp : R.Perm l) (hs : R.Pairwise (· ≤ ·)) (hnd : l.Nodup) (hl : l.length = n) (hr : ∀ x ∈ l, 0 ≤ x ∧ x < (n : Int)) (i : Nat) (hi : i < R.length) : R[i] = (i : Int) := by
  have hRl : R.length = n := by rw [hp.length_eq, hl]
  have hRnd : R.Nodup := hp.nodup_iff.2 hnd
  have hRr : ∀ k (hk : k < R.length), 0 ≤ R[k] ∧ R[k] < (n : Int) := fun k hk => hr _ (hp.mem_iff.1 (List.getElem_mem hk))
  have hst : ∀ k (hk : k + 1 < R.length), R[k] < R[k + 1] := fun k hk => by
    have h1 := List.pairwise_iff_getElem.1 hs k (k + 1) (by omega) hk (by omega)
    have h2 := List.pairwise_iff_getElem.1 hRnd k (k + 1) (by omega) hk (by omega)
    omega
  have hlo : ∀ k (hk : k < R.length), (k : Int) ≤ R[k] := by
    intro k
    induction k with
    | zero => intro hk; exact (hRr 0 hk).1
    | succ k ih =>
      intro hk
      have h1 := ih (by omega)
      have h2 := hst k hk
      omega
  have hhi : ∀ d k (hk : k < R.length), k + d + 1 = n → R[k] ≤ (k : Int) := by
    intro d
    induction d with
    | zero => intro k hk he; have := (hRr k hk).2; omega
    | succ d ih =>
      intro k hk he
      have h1 := ih (k + 1) (by omega) (by omega)
      have h2 := hst k (by omega)
      omega
  have h1 := hlo i hi
  have h2 := hhi (n - 1 - i) i hi (by omega)
  omega
theorem TickI.sorted {n nx ow : Nat} {ss : List SpM} {ord : List Nat} (h : TickI n nx ow ss ord) (hL : ord.length = n) {R : List Int} (hp : R.Perm (ord.map fun k : Nat => (k : Int))) (hs : R.Pairwise (· ≤ ·)) (i : Nat) (hi : i < R.length) : R[i] = (i : Int) := by
  refine rises hp hs ?_ (by rw [List.length_map, hL]) (fun x hx => ?_) i hi
  · rw [List.nodup_iff_pairwise_ne, List.pairwise_iff_getElem]
    intro a b ha hb hab
    rw [List.getElem_map, List.getElem_map]
    rw [List.length_map] at ha hb
    have := h.once ha hb (by omega)
    omega
  · obtain ⟨k, hk, rfl⟩ := List.mem_map.1 hx
    obtain ⟨m, hm, rfl⟩ := List.mem_iff_getElem.1 hk
    have := (h.held m hm).1
    omega

end Go.Proofs.Ytcnpmkigiklnnaa
/-
  A row of picks of a lock's play, slices.Contains, and rows of rows, in the form in which the statement's walk calls them.
  Conditions: as each has them.
-/
namespace Go.Proofs.Ytcnpmkigiklnnaa
open Go.RowKit Go.Shelf
attribute [local go_sem] Oper.semAt_some

/-- What a row of picks comes to. -/
def ManyPicks (B n nx' ow' : Nat) (ss' : List SpM) (hs : List Nat) (e : Ending) (w' : World) : Prop :=
  ∃ x y g vh, e = .returned (.tuple #[.agg #[x, y, .bool false], .slice (some ⟨g, 0, none⟩) n n, vh, .int .i64 0]) ∧ w'.ownsRow B 22 1 x 2 (([(nx' : Int), (ow' : Int)] : List Int).map (Value.int .u64)) ∧ w'.ownsRow B 4 1 y 2 (lk.map Value.bool) ∧
    w'.ownsRow B 24 3 (.slice (some ⟨g, 0, none⟩) n n) n (flatS ss') ∧ w'.ownsRow B 3 1 vh hs.length (hs.map fun k : Nat => Value.int .i64 (k : Int))
theorem play_many {n nx ow : Nat} {ss : List SpM} {ord : List Nat} (h : TickJ n nx ow ss ord) (hn : n ≤ 5) (pl : List Nat) (hpl : ∀ p ∈ pl, p < n) (hpn : pl.length ≤ 100) (v v1 v2 : Value) :
    ∃ nx' ow' ss' hs, Runs n nx ow ss ord pl nx' ow' ss' hs ∧
      ∀ W : World, MemAt W v [(nx : Int), (ow : Int)] lk false → SpinsAt W v1 ss → NumsAt W .i64 v2 (pl.map fun k : Nat => (k : Int)) →
        Calls Try.prog 26 #[v, v1, v2] W fun e w' => ManyPicks W.heap.size n nx' ow' ss' hs e w' ∧ Below W.heap.size W w' := by
  obtain ⟨nx', ow', ss', hs, he, hR⟩ := TickJ.runs (n := n) (by omega) pl (ss := ss) [] h hpl
  refine ⟨nx', ow', ss', hs, hR, fun W hv hS hN => ?_⟩
  have h1 := h.le
  have h2 := h.ordle
  have h3 := h.tick.low
  have hok := h.tick.ok (by omega) (by omega)
  have hl := h.tick.len
  have := qplay v v1 v2 _ lk false ss (pl.map fun k : Nat => (k : Int)) W hv hok.mem hok.rng hS (by omega) hok.may hok.sr hN (by rw [List.length_map]; omega)
  rw [refR_play lk ss.length _ ⟨[(nx : Int), (ow : Int)], false, ss⟩ [] rfl, hl] at this
  have he' : refR lk n (pl.map fun k : Nat => (k : Int)) ⟨[(nx : Int), (ow : Int)], false, ss⟩ [] = (lkP nx' ow' ss', [] ++ hs.map fun k : Nat => (k : Int)) := he
  rw [he'] at this
  exact this.mono fun e w' hh => by
    obtain ⟨⟨x, y, g, vh, h4, h5, h6, h7, h8, h9⟩, hb⟩ := hh
    refine ⟨⟨x, y, g, vh, h4, h5, h6, h7, ?_⟩, hb⟩
    simp only [List.nil_append, List.length_map, List.map_map] at h9
    exact h9
theorem first_at : ∀ (l : List Int) (x : Int), x ∈ l → ∃ m, ∃ h : m < l.length, l[m] = x ∧ x ∉ l.take m
  | y :: r, x, hx => by
    by_cases e : y = x
    · exact ⟨0, by simp, by simpa using e, by simp⟩
    · have hx' : x ∈ r := by
        rcases List.mem_cons.1 hx with h | h
        · exact absurd h.symm e
        · exact h
      obtain ⟨m, hm, h1, h2⟩ := first_at r x hx'
      refine ⟨m + 1, by simp; omega, by simpa using h1, ?_⟩
      rw [List.take_succ_cons, List.mem_cons, not_or]
      exact ⟨fun h => e h.symm, h2⟩
set_option maxRecDepth 100000 in
theorem contains_yes (v : Value) (l : List Int) (x : Int) (W : World) (hv : NumsAt W .i64 v l) (hl : l.length ≤ 9223372036854775807) (hx : x ∈ l) :
    Calls Try.prog 33 #[v, .int .i64 x] W fun e w' => e = .returned (.bool true) ∧ w' = W := by
  obtain ⟨m, hm, h1, h2⟩ := first_at l x hx
  have HI := Lib.hid (index_yes v l x m W hv hl hm h1 h2)
  obtain ⟨p, cap, rfl, hc⟩ := hv
  clear hc hl hx h1 h2 hm
  go_enter Try.func33, Try.ntmps33
  go_wp2_with fail
  refine HI.out.mono ?_
  rintro e w1 ⟨rfl, rfl⟩
  clear HI
  go_wp2
  go_ret
  exact ⟨rfl, rfl⟩
/-- A row of rows of numbers. -/
def RoundsAt (W : World) (v : Value) (rs : List (List Int)) : Prop := ∃ p cap, v = .slice p rs.length cap ∧ (rs ≠ [] → ∃ b off, p = some ⟨b, off, none⟩ ∧ ∀ i (h : i < rs.length), ∃ q c, W.cell? ⟨b, off + i, none⟩ = some (.slice q rs[i].length c) ∧ NumsAt W .i64 (.slice q rs[i].length c) rs[i] ∧ rs[i].length ≤ 9223372036854775807)
theorem all4_rng (mn : Int) : ∃ k : Nat, 1 ≤ k ∧ k ≤ 4 ∧ wrap64 (1 + wrap64 ((IntKind.u64.wrap mn).tmod 4)) = (k : Int) := by
  obtain ⟨h0, _⟩ := u64_rng mn
  rw [Int.tmod_eq_emod_of_nonneg h0]
  generalize IntKind.u64.wrap mn = u at h0
  refine ⟨(1 + u % 4).toNat, by omega, by omega, ?_⟩
  unfold wrap64
  omega
theorem ptn_eq (l : List Nat) : (l.map fun k : Nat => (k : Int)).map (Value.int .i64) = l.map fun k : Nat => Value.int .i64 (k : Int) := by
  rw [List.map_map]; rfl

end Go.Proofs.Ytcnpmkigiklnnaa
/-
  slices.Sort at a row of ints, of the library: the row rises; what is elsewhere in memory stays.
  Conditions: the row is not frozen, and has less than 2 to the power 62 elements.
-/
namespace Go.Proofs
open Go.Shelf
def Try.lays189_ren : Go.Shelf.Ren := ⟨fun | 189 => 34 | 125 => 50 | 257 => 49 | 128 => 82 | 129 => 83 | 294 => 73 | 295 => 74 | 296 => 75 | 297 => 76 | 298 => 77 | 299 => 78 | 216 => 79 | 300 => 80 | 301 => 81 | 328 => 92 | 329 => 93 | 330 => 94 | 331 => 95 | 332 => 96 | 215 => 97 | 343 => 103 | n => n, fun | 28 => 58 | 3 => 3 | 46 => 71 | 0 => 0 | 51 => 129 | 53 => 22 | 4 => 4 | 183 => 121 | 182 => 120 | 131 => 126 | 5 => 5 | 9 => 9 | 218 => 146 | 222 => 150 | 228 => 155 | 229 => 156 | n => n, fun | n => n⟩
theorem Try.lays189 : Go.Proofs.Lays.n189 Try.prog Try.lays189_ren := {
  mixed := by kernel_rfl
  f125 := Try.func50.trans (congrArg some (by kernel_rfl))
  f128 := Try.func82.trans (congrArg some (by kernel_rfl))
  f129 := Try.func83.trans (congrArg some (by kernel_rfl))
  f189 := Try.func34.trans (congrArg some (by kernel_rfl))
  f215 := Try.func97.trans (congrArg some (by kernel_rfl))
  f216 := Try.func79.trans (congrArg some (by kernel_rfl))
  f257 := Try.func49.trans (congrArg some (by kernel_rfl))
  f294 := Try.func73.trans (congrArg some (by kernel_rfl))
  f295 := Try.func74.trans (congrArg some (by kernel_rfl))
  f296 := Try.func75.trans (congrArg some (by kernel_rfl))
  f297 := Try.func76.trans (congrArg some (by kernel_rfl))
  f298 := Try.func77.trans (congrArg some (by kernel_rfl))
  f299 := Try.func78.trans (congrArg some (by kernel_rfl))
  f300 := Try.func80.trans (congrArg some (by kernel_rfl))
  f301 := Try.func81.trans (congrArg some (by kernel_rfl))
  f328 := Try.func92.trans (congrArg some (by kernel_rfl))
  f329 := Try.func93.trans (congrArg some (by kernel_rfl))
  f330 := Try.func94.trans (congrArg some (by kernel_rfl))
  f331 := Try.func95.trans (congrArg some (by kernel_rfl))
  f332 := Try.func96.trans (congrArg some (by kernel_rfl))
  f343 := Try.func103.trans (congrArg some (by kernel_rfl))
  t0 := Try.underlying0
  a0 := Try.isAgg0
  z0 := Try.sizeOf0
  v0 := Try.zeroValue0
  t3 := Try.underlying3
  a3 := Try.isAgg3
  z3 := Try.sizeOf3
  v3 := Try.zeroValue3
  t4 := Try.underlying4
  a4 := Try.isAgg4
  z4 := Try.sizeOf4
  v4 := Try.zeroValue4
  t5 := Try.underlying5
  a5 := Try.isAgg5
  z5 := Try.sizeOf5
  v5 := Try.zeroValue5
  t9 := Try.underlying9
  a9 := Try.isAgg9
  z9 := Try.sizeOf9
  v9 := Try.zeroValue9
  t28 := Try.underlying58
  a28 := Try.isAgg58
  z28 := Try.sizeOf58
  v28 := Try.zeroValue58
  t46 := Try.underlying71
  a46 := Try.isAgg71
  z46 := Try.sizeOf71
  v46 := Try.zeroValue71
  t51 := Try.underlying129
  a51 := Try.isAgg129
  z51 := Try.sizeOf129
  v51 := Try.zeroValue129
  t53 := Try.underlying22
  a53 := Try.isAgg22
  z53 := Try.sizeOf22
  v53 := Try.zeroValue22
  t131 := Try.underlying126
  a131 := Try.isAgg126
  z131 := Try.sizeOf126
  v131 := Try.zeroValue126
  t182 := Try.underlying120
  a182 := Try.isAgg120
  z182 := Try.sizeOf120
  v182 := Try.zeroValue120
  t183 := Try.underlying121
  a183 := Try.isAgg121
  z183 := Try.sizeOf121
  v183 := Try.zeroValue121
  t218 := Try.underlying146
  a218 := Try.isAgg146
  z218 := Try.sizeOf146
  v218 := Try.zeroValue146
  t222 := Try.underlying150
  a222 := Try.isAgg150
  z222 := Try.sizeOf150
  v222 := Try.zeroValue150
  t228 := Try.underlying155
  a228 := Try.isAgg155
  z228 := Try.sizeOf155
  v228 := Try.zeroValue155
  t229 := Try.underlying156
  a229 := Try.isAgg156
  z229 := Try.sizeOf156
  v229 := Try.zeroValue156 }
open Go.Sort Go.RowKit in
theorem Try.slices_Sort_int (blk off cap : Nat) (zs : List Int) (w : World) (hH : Holds (Value.int .i64) w blk off zs.toArray) (hblk : blk < w.heap.size) (hsz : zs.length < 4611686018427387904) :
    Calls Try.prog 34 #[.slice (some ⟨blk, off, none⟩) zs.length cap] w fun e w' =>
      e = .returned (.tuple #[]) ∧ ∃ n os, w' = grow (putRow (Value.int .i64) (Sort.ahead w n) blk off (zs.mergeSort fun x y => decide (x ≤ y)).toArray) os := Any.slices_Sort_int Try.lays189 blk off cap zs w hH hblk hsz
open Go.RowKit Go.Sort in
theorem Try.slices_Sort_int_none (p : Option Addr) (cap : Nat) (w : World) :
    Calls Try.prog 34 #[.slice p 0 cap] w fun e w' => e = .returned (.tuple #[]) ∧ w' = w := Any.slices_Sort_int_none Try.lays189 p cap w
end Go.Proofs
/-
  slices.Sort at a row of ints that lies in a block of its own, and slices.Contains.
  Conditions: the block is not frozen.
-/
namespace Go.Proofs.Ytcnpmkigiklnnaa
open Go.RowKit Go.Shelf Go.Sort

/-- The row, rising. -/
def rise (l : List Int) : List Int := l.mergeSort fun x y => decide (x ≤ y)
theorem rise_perm (l : List Int) : (rise l).Perm l := List.mergeSort_perm _ _
theorem rise_length (l : List Int) : (rise l).length = l.length := (rise_perm l).length_eq
theorem rise_sorted (l : List Int) : (rise l).Pairwise (· ≤ ·) := by
  have := List.pairwise_mergeSort (le := fun x y : Int => decide (x ≤ y)) (fun a b c h1 h2 => by simp at *; omega) (fun a b => by simp; omega) l
  exact this.imp fun h => by simpa using h
theorem grown_keeps {w w' : World} {g : Nat} (h : w.grownBy w' (some g)) : Keeps (fun q => q = g) w w' := by
  obtain ⟨h1, h2, h3, h4, h5⟩ := h
  exact ⟨h1, h2, h3, h4, fun k hk hne => h5 k hk fun e => hne (by cases e; rfl)⟩
theorem sort_c (b n cap : Nat) (cur : Array Value) (E : TypeId) (zs : List Int) (w : World) (hn : zs.length = n) (hb : w.heap[b]? = some (.cells cur E (0, 0))) (ht : cur.toList.take n = zs.map (Value.int .i64)) (hlen : n < 4611686018427387904) :
    Calls Try.prog 34 #[.slice (some ⟨b, 0, none⟩) n cap] w fun e w' => e = .returned (.tuple #[]) ∧ Keeps (fun q => q = b) w w' ∧ ∃ cur', cur'.size = cur.size ∧ w'.heap[b]? = some (.cells cur' E (0, 0)) ∧ cur'.toList.take n = (rise zs).map (Value.int .i64) := by
  subst hn
  have hblk : b < w.heap.size := (Array.getElem?_eq_some_iff.1 hb).1
  refine (Try.slices_Sort_int b 0 cap zs w (holds_of_blockI hb ht) hblk hlen).mono fun e w' ⟨he, q, os, hw⟩ => ⟨he, ?_, ?_⟩
  · rw [hw]; exact grown_keeps (grownBy_sortedI _)
  · refine ⟨putCells (Value.int .i64) 0 (rise zs).toArray cur, by simp [putCells], by rw [hw]; exact heap_sortedI _ hb, ?_⟩
    have h1 : (rise zs).length ≤ cur.size := by
      have := congrArg List.length ht
      simp at this
      rw [rise_length]; omega
    have := take_putCellsI cur (rise zs) h1
    rwa [rise_length] at this

end Go.Proofs.Ytcnpmkigiklnnaa
namespace Go.Proofs.Ytcnpmkigiklnnaa
open Go.RowKit Go.Shelf
attribute [local go_sem] Oper.semAt_some

set_option maxRecDepth 100000 in
set_option maxHeartbeats 40000000 in
theorem all_c (mn : Int) (vr : Value) (rs : List (List Int)) (W : World) (hp : RoundsAt W vr rs) (hrl : rs.length ≤ 9223372036854775807) :
    Calls Try.prog 7 #[.int .i64 mn, vr] W fun e w' => e = .returned (.bool true) ∧ Below W.heap.size W w' := by
  have hpl := hrl
  obtain ⟨pr, cr, rfl, hcr⟩ := hp
  obtain ⟨nr, hnr⟩ : ∃ nr, nr = rs.length := ⟨_, rfl⟩
  rw [← hnr] at hpl ⊢
  have HNR := Lib.hid hnr
  have HCR := Lib.hid hcr
  clear hnr hcr hrl
  go_enter Try.func7, Try.ntmps7
  go_wp2_with fail
  refine (qwakes _).mono ?_
  rintro e w1 ⟨rfl, hb1⟩
  have hB := hb1
  clear hb1
  go_wp2_with fail
  refine (qlaid _).mono ?_
  rintro e w2 ⟨⟨gw, cw, gl, cl, rfl, h0, h1⟩, hb⟩
  obtain ⟨w2p, hw2p⟩ : ∃ x, x = putM w2 (.slice (some ⟨gw, 0, none⟩) 2 cw) (.slice (some ⟨gl, 0, none⟩) 2 cl) false := ⟨_, rfl⟩
  have hbp : Below w2.heap.size w2 w2p := by rw [hw2p]; exact putM_below _ _ _ _
  have hM := putM_pvar (us := [(0 : Int), 0]) (ms := lk) (B := w1.heap.size) false h0 h1 hb.size
  rw [← hw2p] at hM
  have HM0 := Lib.hid (hM.wide hB.size (Nat.le_refl _))
  have hB := below_then (below_then hB hB.size hb) (Nat.le_trans hB.size hb.size) hbp
  clear h0 h1 hb hbp hM
  obtain ⟨z5, hz5⟩ : ∃ z, z = w2.heap.size := ⟨_, rfl⟩
  rw [← hz5] at HM0
  unfold putM at hw2p
  go_wp2_with fail
  rw [← hw2p, ← hz5]
  clear hw2p hz5
  obtain ⟨n, hn1, hn4, hke⟩ := all4_rng mn
  rw [hke]
  clear hke
  refine (asking_c n ⟨hn1, by omega⟩ _).mono ?_
  rintro e w3 ⟨⟨ql, dl, rfl, hl⟩, hb⟩
  have HL0 := Lib.hid (hl.mono hB.size)
  have HM := Lib.hid ((HM0.out.below hb).wide (Nat.le_refl _) hb.size)
  have hB := below_then hB hB.size hb
  have HB0 := Lib.hid hB
  clear hl hb hB HM0
  go_wp2
  go_loopw [8, 9, 37] (fun lv ov iv wr => ∃ (i : Nat) (q : Option Addr) (d : Nat) (po : Option Addr) (no co : Nat) (px : Option Addr) (cx : Nat) (py : Option Addr) (cy : Nat) (nx ow : Nat) (ss : List SpM) (ord : List Nat), i ≤ 6 * n + 6 ∧ iv = .int .i64 i ∧ lv = .slice q n d ∧ ov = .slice po no co ∧ no = ord.length ∧ TickJ n nx ow ss ord ∧ Good n nx ow ord.length ss (6 * n + 6 - i) ∧ Hid (PVar wr W.heap.size wr.heap.size z5 (.slice px 2 cx) (.slice py 2 cy) [(nx : Int), (ow : Int)] lk false ∧ wr.ownsRow W.heap.size 24 3 (.slice q n d) n (flatS ss) ∧ wr.ownsRow W.heap.size 3 1 (.slice po no co) no (ord.map fun k : Nat => Value.int .i64 (k : Int)) ∧ Below W.heap.size W wr)) (fun _ _ iv _ => 6 * n + 6 - (intOf iv).toNat)
  case atStart => exact ⟨0, _, _, _, _, _, _, _, _, _, 0, 0, zS n, [], Nat.zero_le _, rfl, rfl, rfl, rfl, TickJ.start n, good_start hn1, Lib.hid ⟨HM.out, HL0.out, World.ownsRow_nil _ _ _ _, HB0.out⟩⟩
  case round =>
    obtain ⟨i, q, d, po, no, co, px, cx, py, cy, nx, ow, ss, ord, hi, rfl, rfl, rfl, hno, hT, hG, HF⟩ := hrel
    clear HM HL0 HB0
    have HT := Lib.hid hT
    have HNO := Lib.hid hno
    have HG := Lib.hid hG
    clear hT hno hG
    by_cases hlt : i < 6 * n + 6
    · obtain ⟨wR, hwR⟩ : ∃ w : World, w = wr := ⟨_, rfl⟩
      have HWR := Lib.hid hwR
      rw [← hwR] at HF
      clear hwR
      by_cases hir : i < nr
      · have hir' : i < rs.length := by have := HNR.out; omega
        obtain ⟨br, of, rfl, hcs⟩ := HCR.out (by intro e; rw [e] at hir'; cases hir')
        obtain ⟨qi, ci, hci, hni, hli⟩ := hcs i hir'
        have hci := below_cell HF.out.2.2.2 hci
        have hni := nums_below hni HF.out.2.2.2
        obtain ⟨ri, hri⟩ : ∃ l, l = rs[i] := ⟨_, rfl⟩
        rw [← hri] at hci hni hli
        have hci2 := hci
        rw [HWR.out] at hci
        clear hcs hri
        obtain ⟨q2, c2, e2, hc2⟩ := hni
        injection e2 with e3 _ e4
        subst e3 e4
        have HRC := Lib.hid hc2
        obtain ⟨m, hm⟩ : ∃ m, m = ri.length := ⟨_, rfl⟩
        rw [← hm] at hci hci2 hli
        have HM_ := Lib.hid hm
        clear hc2 hci2 hm
        go_wp2
        go_loopw [11, 49] (fun pv kv wx => ∃ (k : Nat) (pq : Option Addr) (npl cq : Nat) (pl : List Nat), k ≤ m ∧ kv = .int .i64 k ∧ pv = .slice pq npl cq ∧ npl = pl.length ∧ npl ≤ 6 ∧ npl ≤ k ∧ (∀ p ∈ pl, p < n) ∧ Hid (wx.ownsRow wR.heap.size 3 1 (.slice pq npl cq) npl (pl.map fun k : Nat => Value.int .i64 (k : Int)) ∧ Below wR.heap.size wR wx)) (fun _ kv _ => m - (intOf kv).toNat)
        case atStart => exact ⟨0, _, _, _, [], Nat.zero_le _, rfl, rfl, rfl, by simp, by simp, (fun p hp => by cases hp), Lib.hid ⟨World.ownsRow_nil _ _ _ _, by rw [HWR.out]; exact Below.refl _ _⟩⟩
        case round =>
          obtain ⟨k, pq, npl, cq, pl, hk, rfl, rfl, hnpl, hn6, hnk, hpn, HP⟩ := hrel
          clear hci
          have HNPL := Lib.hid hnpl
          have HPN := Lib.hid hpn
          clear hnpl hpn
          by_cases hkm : k < m
          · obtain ⟨bi, oi, rfl, hcs⟩ := HRC.out (by intro e; have := HM_.out; rw [e] at this; simp at this; omega)
            have hx := below_cell HP.out.2 (hcs k (by have := HM_.out; omega))
            obtain ⟨pk, hpk⟩ : ∃ pk, pk = ri[k]'(by have := HM_.out; omega) := ⟨_, rfl⟩
            rw [← hpk] at hx
            clear hcs hpk
            by_cases hk6 : k < 6
            · obtain ⟨r, hr, hre⟩ := pick_rng pk hn1 (show n ≤ 5 by omega)
              obtain ⟨i1, hi1, hy0, hy1, hy2⟩ := info_parts num_info'
              have HI1 := Lib.hid (And.intro hi1 (And.intro hy0 (And.intro hy1 hy2)))
              clear hi1 hy0 hy1 hy2
              have HSZ := Lib.hid HP.out.2.size
              go_upto_region 16 with fail
              have hnu : IntKind.u64.wrap (n : Int) = (n : Int) := by simp [IntKind.wrap, IntKind.signed, IntKind.bits]; omega
              go_wp2_with (at_builtin; rw [hre]; refine wpList_append_own _ rfl _ _ 58 rfl wR.heap.size 3 i1 (.int .i64 0) 1 8 Try.underlying58 HI1.out.1 HI1.out.2.1 HI1.out.2.2.1 HI1.out.2.2.2 rfl (by decide) (.slice pq npl cq) npl _ rfl (HP.out.1.alloc _) ⟨wr.heap.size, 0, none⟩ 1 1 [.int .i64 (r : Int)] rfl rfl (cell_one_new _ _ _) (fun y hy => by rw [List.mem_singleton.1 hy]; rfl) (by unfold maxLen; omega) (by omega) (by have := HSZ.out; simp; omega) ?_; intro v' w5 hown' hgrow _; obtain ⟨q6, d6, rfl⟩ := owns_slice hown')
              have HP2 := Lib.hid (show w5.ownsRow wR.heap.size 3 1 (.slice q6 (npl + 1) d6) (npl + 1) ((pl ++ [r]).map fun k : Nat => Value.int .i64 (k : Int)) ∧ Below wR.heap.size wR w5 from ⟨by rw [List.map_append]; exact hown', below_grown (below_then HP.out.2 HP.out.2.size (below1 wr (.cells #[.int .i64 (r : Int)] 3))) hgrow (fun r hr => (HP.out.1.lt r hr).1)⟩)
              have HPN2 := Lib.hid (show ∀ p ∈ pl ++ [r], p < n from fun p hp => by
                rcases List.mem_append.1 hp with h | h
                · exact HPN.out p h
                · rw [List.mem_singleton.1 h]; exact hr)
              have HL2 := Lib.hid (show npl + 1 = (pl ++ [r]).length by rw [List.length_append, ← HNPL.out]; rfl)
              clear hown' hgrow hre hnu HP hx
              go_roundw
              case rel => exact ⟨k + 1, q6, npl + 1, d6, pl ++ [r], by omega, by go_num, rfl, HL2.out, by omega, by omega, HPN2.out, HP2⟩
              case measure => simp [intOf]; omega
            · go_wp2
              go_roundw
              case rel => exact ⟨k + 1, pq, npl, cq, pl, by omega, by go_num, rfl, HNPL.out, by omega, by omega, HPN.out, HP⟩
              case measure => simp [intOf]; omega
          · clear hk hnk
            go_wp2
            go_loopw [11, 67] (fun pv jv wx => ∃ (j : Nat) (pq : Option Addr) (npl cq : Nat) (pl : List Nat), j ≤ n ∧ jv = .int .i64 j ∧ pv = .slice pq npl cq ∧ npl = pl.length ∧ npl ≤ 6 + j ∧ (∀ p ∈ pl, p < n) ∧ (∀ a, a < j → a ∈ pl) ∧ Hid (wx.ownsRow wR.heap.size 3 1 (.slice pq npl cq) npl (pl.map fun k : Nat => Value.int .i64 (k : Int)) ∧ Below wR.heap.size wR wx)) (fun _ jv _ => n - (intOf jv).toNat)
            case atStart => exact ⟨0, _, _, _, _, Nat.zero_le _, rfl, rfl, HNPL.out, by omega, HPN.out, fun a ha => absurd ha (Nat.not_lt_zero _), HP⟩
            case round =>
              obtain ⟨j, pq, npl, cq, pl, hj, rfl, rfl, hnpl, hnj, hpn, hall, HPP⟩ := hrel
              clear HP HNPL HPN hn6
              have HNPL := Lib.hid hnpl
              have HPN := Lib.hid hpn
              have HALL := Lib.hid hall
              clear hnpl hpn hall
              have HNM := Lib.hid (show NumsAt wr .i64 (.slice pq npl cq) (pl.map fun k : Nat => (k : Int)) from nums_of_owns (n := npl) (by rw [List.length_map]; exact HNPL.out.symm) (by rw [ptn_eq]; exact HPP.out.1))
              by_cases hjn : j < n
              · by_cases hmem : j ∈ pl
                · have HCN := Lib.hid (contains_yes (.slice pq npl cq) (pl.map fun k : Nat => (k : Int)) (j : Int) wr HNM.out (by rw [List.length_map]; have := HNPL.out; omega) (List.mem_map.2 ⟨j, hmem, rfl⟩))
                  have HALL2 := Lib.hid (show ∀ a, a < j + 1 → a ∈ pl from fun a ha => by
                    by_cases e : a = j
                    · rw [e]; exact hmem
                    · exact HALL.out a (by omega))
                  clear hmem HNM
                  go_wp2_with fail
                  refine HCN.out.mono ?_
                  rintro e w9 ⟨rfl, rfl⟩
                  clear HCN
                  go_wp2
                  go_roundw
                  case rel => exact ⟨j + 1, pq, npl, cq, pl, by omega, by go_num, rfl, HNPL.out, by omega, HPN.out, HALL2.out, HPP⟩
                  case measure => simp [intOf]; omega
                · have HCN := Lib.hid (contains_no (.slice pq npl cq) (pl.map fun k : Nat => (k : Int)) (j : Int) wr HNM.out (by rw [List.length_map]; have := HNPL.out; omega) (fun h => by
                    obtain ⟨m, hm, e⟩ := List.mem_map.1 h
                    have e : m = j := by omega
                    exact hmem (e ▸ hm)))
                  clear hmem HNM
                  obtain ⟨i1, hi1, hy0, hy1, hy2⟩ := info_parts num_info'
                  have HI1 := Lib.hid (And.intro hi1 (And.intro hy0 (And.intro hy1 hy2)))
                  clear hi1 hy0 hy1 hy2
                  have HSZ := Lib.hid HPP.out.2.size
                  go_wp2_with fail
                  refine HCN.out.mono ?_
                  rintro e w9 ⟨rfl, rfl⟩
                  clear HCN
                  go_upto_region 22 with fail
                  go_wp2_with (at_builtin; refine wpList_append_own _ rfl _ _ 58 rfl wR.heap.size 3 i1 (.int .i64 0) 1 8 Try.underlying58 HI1.out.1 HI1.out.2.1 HI1.out.2.2.1 HI1.out.2.2.2 rfl (by decide) (.slice pq npl cq) npl _ rfl (HPP.out.1.alloc _) ⟨w9.heap.size, 0, none⟩ 1 1 [.int .i64 (j : Int)] rfl rfl (cell_one_new _ _ _) (fun y hy => by rw [List.mem_singleton.1 hy]; rfl) (by unfold maxLen; omega) (by omega) (by have := HSZ.out; simp; omega) ?_; intro v' w5 hown' hgrow _; obtain ⟨q6, d6, rfl⟩ := owns_slice hown')
                  have HP2 := Lib.hid (show w5.ownsRow wR.heap.size 3 1 (.slice q6 (npl + 1) d6) (npl + 1) ((pl ++ [j]).map fun k : Nat => Value.int .i64 (k : Int)) ∧ Below wR.heap.size wR w5 from ⟨by rw [List.map_append]; exact hown', below_grown (below_then HPP.out.2 HPP.out.2.size (below1 _ (.cells #[.int .i64 (j : Int)] 3))) hgrow (fun r hr => (HPP.out.1.lt r hr).1)⟩)
                  have HPN2 := Lib.hid (show ∀ p ∈ pl ++ [j], p < n from fun p hp => by
                    rcases List.mem_append.1 hp with h | h
                    · exact HPN.out p h
                    · rw [List.mem_singleton.1 h]; exact hjn)
                  have HALL2 := Lib.hid (show ∀ a, a < j + 1 → a ∈ pl ++ [j] from fun a ha => by
                    by_cases e : a = j
                    · rw [e]; simp
                    · exact List.mem_append_left _ (HALL.out a (by omega)))
                  have HL2 := Lib.hid (show npl + 1 = (pl ++ [j]).length by rw [List.length_append, ← HNPL.out]; rfl)
                  clear hown' hgrow HPP
                  go_roundw
                  case rel => exact ⟨j + 1, q6, npl + 1, d6, pl ++ [j], by omega, by go_num, rfl, HL2.out, by omega, HPN2.out, HALL2.out, HP2⟩
                  case measure => simp [intOf]; omega
              · obtain rfl : j = n := by omega
                clear hjn hj
                obtain ⟨nx', ow', ss', hs, hR, hPL⟩ := play_many HT.out (show j ≤ 5 by omega) pl HPN.out (by have := HNPL.out; omega) (.agg #[.slice px 2 cx, .slice py 2 cy, .bool false]) (.slice q j d) (.slice pq npl cq)
                have HPL := Lib.hid hPL
                have HRN := Lib.hid hR
                have hG2 := HG.out
                rw [show 6 * j + 6 - i = (6 * j + 6 - (i + 1)) + 1 by omega] at hG2
                have HG2 := Lib.hid (good_round HT.out hR HALL.out hG2)
                have hhs4 : hs.length ≤ j := by
                  have h1 := hR.tick.le
                  have h2 := hR.tick.ordle
                  rw [List.length_append] at h2
                  omega
                have hno4 : no ≤ j := by
                  have h1 := HT.out.le
                  have h2 := HT.out.ordle
                  have h3 := HNO.out
                  omega
                clear hPL hR hG2 HG
                obtain ⟨hM, hl, ho, hB⟩ := HF.out
                have hbR := HPP.out.2
                have HM4 := Lib.hid (hM.below hbR)
                have HL4 := Lib.hid (owns_below hl hbR)
                have HO4 := Lib.hid (owns_below ho hbR)
                have hB4 := below_then hB hB.size hbR
                obtain ⟨hm0, hm1, hm2⟩ := HM4.out.cells
                clear hM hl ho hB HF hbR
                go_wp2_with fail
                clear hm0 hm1 hm2
                refine (HPL.out wr HM4.out.mem (spins_of_owns HT.out.tick.len HL4.out) HNM.out).mono ?_
                rintro e w5 ⟨⟨x, y, g, vh, rfl, hx5, hy5, hs5, hh5⟩, hb5⟩
                obtain ⟨px5, cx5, rfl⟩ := owns_slice hx5
                obtain ⟨py5, cy5, rfl⟩ := owns_slice hy5
                obtain ⟨nh, hnh⟩ : ∃ nh, nh = hs.length := ⟨_, rfl⟩
                rw [← hnh] at hh5 hhs4
                obtain ⟨ph, ch, rfl⟩ := owns_slice hh5
                have HNH := Lib.hid hnh
                obtain ⟨w5p, hw5p⟩ : ∃ x, x = putM w5 (.slice px5 2 cx5) (.slice py5 2 cy5) false := ⟨_, rfl⟩
                have hbp : Below w5.heap.size w5 w5p := by rw [hw5p]; exact putM_below _ _ _ _
                have hbox := putM_box w5 (.slice px5 2 cx5) (.slice py5 2 cy5) false
                rw [← hw5p] at hbox
                have HM5 := Lib.hid ((HM4.out.below hb5).below hbp)
                have HO5 := Lib.hid (owns_below (owns_below HO4.out hb5) hbp)
                have HR5 := Lib.hid (And.intro (owns_below hx5 hbp) (And.intro (owns_below hy5 hbp) (And.intro (owns_below hs5 hbp) (owns_below hh5 hbp))))
                have HB5 := Lib.hid (below_then (below_then hB4 hB4.size hb5) (Nat.le_trans hB4.size hb5.size) hbp)
                have HLO := Lib.hid hB4.size
                obtain ⟨zN, hzN⟩ : ∃ z, z = w5.heap.size := ⟨_, rfl⟩
                rw [← hzN] at hbox
                obtain ⟨⟨hn0, hn1', hn2⟩, _⟩ := mbox_cells hbox
                obtain ⟨⟨hm0, hm1, hm2⟩, hf0, hf1, hf2⟩ := mbox_cells HM5.out.box
                unfold putM at hw5p
                rw [hw5p] at hn0 hn1' hn2 hm0 hm1 hm2 hf0 hf1 hf2
                obtain ⟨wB, hwB⟩ : ∃ w : World, w = wr := ⟨_, rfl⟩
                rw [← hwB] at HR5 HLO
                obtain ⟨w6, hw6⟩ : ∃ x : World, x = ((w5p.setCell ⟨z5, 0, none⟩ (.slice px5 2 cx5)).setCell ⟨z5, 1, none⟩ (.slice py5 2 cy5)).setCell ⟨z5, 2, none⟩ (.bool false) := ⟨_, rfl⟩
                have hk6 : Keeps (fun q => q = z5) w5p w6 := by rw [hw6]; exact ((Keeps.setCell w5p (S := fun q => q = z5) (p := ⟨z5, 0, none⟩) rfl _).trans (Keeps.setCell _ (S := fun q => q = z5) (p := ⟨z5, 1, none⟩) rfl _)).trans (Keeps.setCell _ (S := fun q => q = z5) (p := ⟨z5, 2, none⟩) rfl _)
                have hrow : ∀ {E : TypeId} {s m B' : Nat} {v : Value} {xs : List Value}, w5p.ownsRow B' E s v m xs → E ≠ 46 → w6.ownsRow B' E s v m xs := fun hr hE => hk6.row hr fun q hq e => HM5.out.box.row hr hE hq (by have e : q = z5 := e; exact e.symm)
                have HM6 := Lib.hid (show PVar w6 W.heap.size w6.heap.size z5 (.slice px5 2 cx5) (.slice py5 2 cy5) [(nx' : Int), (ow' : Int)] lk false by rw [hw6]; exact put_back (us := [(nx' : Int), (ow' : Int)]) (ms := lk) HM5.out.box HR5.out.1 HR5.out.2.1 HLO.out HM5.out.from')
                have HL6 := Lib.hid ((hrow HR5.out.2.2.1 (by decide)).mono HLO.out)
                have HH6 := Lib.hid (hrow HR5.out.2.2.2 (by decide))
                have HO6 := Lib.hid (hrow HO5.out (by decide))
                have HB6 := Lib.hid (HB5.out.trans (hk6.below HB5.out.size (fun q hq => by have e : q = z5 := hq; rw [e]; exact HM5.out.from')))
                clear hx5 hy5 hs5 hh5 hb5 hbp hbox hnh hk6 hrow HM4 HL4 HO4 hB4 HPL HM5 HO5 HR5 HB5 HPP HNM
                go_upto_region 28 with fail
                rw [← hw5p, ← hzN, ← hw6]
                clear hw5p hzN hw6 hn0 hn1' hn2 hm0 hm1 hm2 hf0 hf1 hf2
                obtain ⟨i1, hi1, hy0, hy1, hy2⟩ := info_parts num_info'
                have HI1 := Lib.hid (And.intro hi1 (And.intro hy0 (And.intro hy1 hy2)))
                clear hi1 hy0 hy1 hy2 hwB
                go_wp2_with (at_builtin; refine wpList_append_any rfl _ _ 58 rfl W.heap.size 3 i1 (.int .i64 0) 8 Try.underlying58 HI1.out.1 HI1.out.2.1 HI1.out.2.2.1 HI1.out.2.2.2 rfl (.slice po no co) no _ rfl HO6.out (.slice ph nh ch) wB.heap.size nh _ rfl HH6.out (fun u hu => by obtain ⟨x, _, rfl⟩ := List.mem_map.1 hu; rfl) (by unfold maxLen; omega) (by omega) HB6.out.size ?_; intro v' w7 hown' hk7; obtain ⟨q7, d7, rfl⟩ := owns_slice hown')
                have HM7 := Lib.hid (HM6.out.other HO6.out hk7)
                have HL7 := Lib.hid (hk7.row HL6.out fun q hq e => owns_ne HL6.out HO6.out (by decide) hq e.symm rfl)
                have HO7 := Lib.hid (show w7.ownsRow W.heap.size 3 1 (.slice q7 (no + nh) d7) (no + nh) ((ord ++ hs).map fun k : Nat => Value.int .i64 (k : Int)) by rw [List.map_append]; exact hown')
                have HB7 := Lib.hid (HB6.out.trans (hk7.below HB6.out.size (fun q hq => by
                  have hq : some q = (Value.slice po no co).ownBlock := hq
                  exact (HO6.out.lt q hq.symm).1)))
                have HNO2 := Lib.hid (show no + nh = (ord ++ hs).length by rw [List.length_append, ← HNO.out, ← HNH.out])
                clear hown' hk7 HM6 HL6 HH6 HO6 HB6
                go_roundw
                case rel => exact ⟨i + 1, _, _, _, _, _, _, _, _, _, nx', ow', ss', ord ++ hs, by omega, by go_num, rfl, rfl, HNO2.out, HRN.out.tick, HG2.out, Lib.hid ⟨HM7.out, HL7.out, HO7.out, HB7.out⟩⟩
                case measure => simp [intOf]; omega
      · have HP : Hid (wr.ownsRow wR.heap.size 3 1 (.slice none 0 0) 0 (([] : List Nat).map fun k : Nat => Value.int .i64 (k : Int)) ∧ Below wR.heap.size wR wr) := Lib.hid ⟨World.ownsRow_nil _ _ _ _, by rw [HWR.out]; exact Below.refl _ _⟩
        have HNPL := Lib.hid (show 0 = ([] : List Nat).length from rfl)
        have HPN := Lib.hid (show ∀ p ∈ ([] : List Nat), p < n from fun p hp => by cases hp)
        have hn6 : 0 ≤ 6 := Nat.zero_le _
        have hdt : decide ((i : Int) < 6 * (n : Int) + 6) = true := decide_eq_true (by omega)
        go_wp2
        clear hdt
        go_loopw [11, 67] (fun pv jv wx => ∃ (j : Nat) (pq : Option Addr) (npl cq : Nat) (pl : List Nat), j ≤ n ∧ jv = .int .i64 j ∧ pv = .slice pq npl cq ∧ npl = pl.length ∧ npl ≤ 6 + j ∧ (∀ p ∈ pl, p < n) ∧ (∀ a, a < j → a ∈ pl) ∧ Hid (wx.ownsRow wR.heap.size 3 1 (.slice pq npl cq) npl (pl.map fun k : Nat => Value.int .i64 (k : Int)) ∧ Below wR.heap.size wR wx)) (fun _ jv _ => n - (intOf jv).toNat)
        case atStart => exact ⟨0, _, _, _, _, Nat.zero_le _, rfl, rfl, HNPL.out, by omega, HPN.out, fun a ha => absurd ha (Nat.not_lt_zero _), HP⟩
        case round =>
          obtain ⟨j, pq, npl, cq, pl, hj, rfl, rfl, hnpl, hnj, hpn, hall, HPP⟩ := hrel
          clear HP HNPL HPN hn6
          have HNPL := Lib.hid hnpl
          have HPN := Lib.hid hpn
          have HALL := Lib.hid hall
          clear hnpl hpn hall
          have HNM := Lib.hid (show NumsAt wr .i64 (.slice pq npl cq) (pl.map fun k : Nat => (k : Int)) from nums_of_owns (n := npl) (by rw [List.length_map]; exact HNPL.out.symm) (by rw [ptn_eq]; exact HPP.out.1))
          by_cases hjn : j < n
          · by_cases hmem : j ∈ pl
            · have HCN := Lib.hid (contains_yes (.slice pq npl cq) (pl.map fun k : Nat => (k : Int)) (j : Int) wr HNM.out (by rw [List.length_map]; have := HNPL.out; omega) (List.mem_map.2 ⟨j, hmem, rfl⟩))
              have HALL2 := Lib.hid (show ∀ a, a < j + 1 → a ∈ pl from fun a ha => by
                by_cases e : a = j
                · rw [e]; exact hmem
                · exact HALL.out a (by omega))
              clear hmem HNM
              go_wp2_with fail
              refine HCN.out.mono ?_
              rintro e w9 ⟨rfl, rfl⟩
              clear HCN
              go_wp2
              go_roundw
              case rel => exact ⟨j + 1, pq, npl, cq, pl, by omega, by go_num, rfl, HNPL.out, by omega, HPN.out, HALL2.out, HPP⟩
              case measure => simp [intOf]; omega
            · have HCN := Lib.hid (contains_no (.slice pq npl cq) (pl.map fun k : Nat => (k : Int)) (j : Int) wr HNM.out (by rw [List.length_map]; have := HNPL.out; omega) (fun h => by
                obtain ⟨m, hm, e⟩ := List.mem_map.1 h
                have e : m = j := by omega
                exact hmem (e ▸ hm)))
              clear hmem HNM
              obtain ⟨i1, hi1, hy0, hy1, hy2⟩ := info_parts num_info'
              have HI1 := Lib.hid (And.intro hi1 (And.intro hy0 (And.intro hy1 hy2)))
              clear hi1 hy0 hy1 hy2
              have HSZ := Lib.hid HPP.out.2.size
              go_wp2_with fail
              refine HCN.out.mono ?_
              rintro e w9 ⟨rfl, rfl⟩
              clear HCN
              go_upto_region 22 with fail
              go_wp2_with (at_builtin; refine wpList_append_own _ rfl _ _ 58 rfl wR.heap.size 3 i1 (.int .i64 0) 1 8 Try.underlying58 HI1.out.1 HI1.out.2.1 HI1.out.2.2.1 HI1.out.2.2.2 rfl (by decide) (.slice pq npl cq) npl _ rfl (HPP.out.1.alloc _) ⟨w9.heap.size, 0, none⟩ 1 1 [.int .i64 (j : Int)] rfl rfl (cell_one_new _ _ _) (fun y hy => by rw [List.mem_singleton.1 hy]; rfl) (by unfold maxLen; omega) (by omega) (by have := HSZ.out; simp; omega) ?_; intro v' w5 hown' hgrow _; obtain ⟨q6, d6, rfl⟩ := owns_slice hown')
              have HP2 := Lib.hid (show w5.ownsRow wR.heap.size 3 1 (.slice q6 (npl + 1) d6) (npl + 1) ((pl ++ [j]).map fun k : Nat => Value.int .i64 (k : Int)) ∧ Below wR.heap.size wR w5 from ⟨by rw [List.map_append]; exact hown', below_grown (below_then HPP.out.2 HPP.out.2.size (below1 _ (.cells #[.int .i64 (j : Int)] 3))) hgrow (fun r hr => (HPP.out.1.lt r hr).1)⟩)
              have HPN2 := Lib.hid (show ∀ p ∈ pl ++ [j], p < n from fun p hp => by
                rcases List.mem_append.1 hp with h | h
                · exact HPN.out p h
                · rw [List.mem_singleton.1 h]; exact hjn)
              have HALL2 := Lib.hid (show ∀ a, a < j + 1 → a ∈ pl ++ [j] from fun a ha => by
                by_cases e : a = j
                · rw [e]; simp
                · exact List.mem_append_left _ (HALL.out a (by omega)))
              have HL2 := Lib.hid (show npl + 1 = (pl ++ [j]).length by rw [List.length_append, ← HNPL.out]; rfl)
              clear hown' hgrow HPP
              go_roundw
              case rel => exact ⟨j + 1, q6, npl + 1, d6, pl ++ [j], by omega, by go_num, rfl, HL2.out, by omega, HPN2.out, HALL2.out, HP2⟩
              case measure => simp [intOf]; omega
          · obtain rfl : j = n := by omega
            clear hjn hj
            obtain ⟨nx', ow', ss', hs, hR, hPL⟩ := play_many HT.out (show j ≤ 5 by omega) pl HPN.out (by have := HNPL.out; omega) (.agg #[.slice px 2 cx, .slice py 2 cy, .bool false]) (.slice q j d) (.slice pq npl cq)
            have HPL := Lib.hid hPL
            have HRN := Lib.hid hR
            have hG2 := HG.out
            rw [show 6 * j + 6 - i = (6 * j + 6 - (i + 1)) + 1 by omega] at hG2
            have HG2 := Lib.hid (good_round HT.out hR HALL.out hG2)
            have hhs4 : hs.length ≤ j := by
              have h1 := hR.tick.le
              have h2 := hR.tick.ordle
              rw [List.length_append] at h2
              omega
            have hno4 : no ≤ j := by
              have h1 := HT.out.le
              have h2 := HT.out.ordle
              have h3 := HNO.out
              omega
            clear hPL hR hG2 HG
            obtain ⟨hM, hl, ho, hB⟩ := HF.out
            have hbR := HPP.out.2
            have HM4 := Lib.hid (hM.below hbR)
            have HL4 := Lib.hid (owns_below hl hbR)
            have HO4 := Lib.hid (owns_below ho hbR)
            have hB4 := below_then hB hB.size hbR
            obtain ⟨hm0, hm1, hm2⟩ := HM4.out.cells
            clear hM hl ho hB HF hbR
            go_wp2_with fail
            clear hm0 hm1 hm2
            refine (HPL.out wr HM4.out.mem (spins_of_owns HT.out.tick.len HL4.out) HNM.out).mono ?_
            rintro e w5 ⟨⟨x, y, g, vh, rfl, hx5, hy5, hs5, hh5⟩, hb5⟩
            obtain ⟨px5, cx5, rfl⟩ := owns_slice hx5
            obtain ⟨py5, cy5, rfl⟩ := owns_slice hy5
            obtain ⟨nh, hnh⟩ : ∃ nh, nh = hs.length := ⟨_, rfl⟩
            rw [← hnh] at hh5 hhs4
            obtain ⟨ph, ch, rfl⟩ := owns_slice hh5
            have HNH := Lib.hid hnh
            obtain ⟨w5p, hw5p⟩ : ∃ x, x = putM w5 (.slice px5 2 cx5) (.slice py5 2 cy5) false := ⟨_, rfl⟩
            have hbp : Below w5.heap.size w5 w5p := by rw [hw5p]; exact putM_below _ _ _ _
            have hbox := putM_box w5 (.slice px5 2 cx5) (.slice py5 2 cy5) false
            rw [← hw5p] at hbox
            have HM5 := Lib.hid ((HM4.out.below hb5).below hbp)
            have HO5 := Lib.hid (owns_below (owns_below HO4.out hb5) hbp)
            have HR5 := Lib.hid (And.intro (owns_below hx5 hbp) (And.intro (owns_below hy5 hbp) (And.intro (owns_below hs5 hbp) (owns_below hh5 hbp))))
            have HB5 := Lib.hid (below_then (below_then hB4 hB4.size hb5) (Nat.le_trans hB4.size hb5.size) hbp)
            have HLO := Lib.hid hB4.size
            obtain ⟨zN, hzN⟩ : ∃ z, z = w5.heap.size := ⟨_, rfl⟩
            rw [← hzN] at hbox
            obtain ⟨⟨hn0, hn1', hn2⟩, _⟩ := mbox_cells hbox
            obtain ⟨⟨hm0, hm1, hm2⟩, hf0, hf1, hf2⟩ := mbox_cells HM5.out.box
            unfold putM at hw5p
            rw [hw5p] at hn0 hn1' hn2 hm0 hm1 hm2 hf0 hf1 hf2
            obtain ⟨wB, hwB⟩ : ∃ w : World, w = wr := ⟨_, rfl⟩
            rw [← hwB] at HR5 HLO
            obtain ⟨w6, hw6⟩ : ∃ x : World, x = ((w5p.setCell ⟨z5, 0, none⟩ (.slice px5 2 cx5)).setCell ⟨z5, 1, none⟩ (.slice py5 2 cy5)).setCell ⟨z5, 2, none⟩ (.bool false) := ⟨_, rfl⟩
            have hk6 : Keeps (fun q => q = z5) w5p w6 := by rw [hw6]; exact ((Keeps.setCell w5p (S := fun q => q = z5) (p := ⟨z5, 0, none⟩) rfl _).trans (Keeps.setCell _ (S := fun q => q = z5) (p := ⟨z5, 1, none⟩) rfl _)).trans (Keeps.setCell _ (S := fun q => q = z5) (p := ⟨z5, 2, none⟩) rfl _)
            have hrow : ∀ {E : TypeId} {s m B' : Nat} {v : Value} {xs : List Value}, w5p.ownsRow B' E s v m xs → E ≠ 46 → w6.ownsRow B' E s v m xs := fun hr hE => hk6.row hr fun q hq e => HM5.out.box.row hr hE hq (by have e : q = z5 := e; exact e.symm)
            have HM6 := Lib.hid (show PVar w6 W.heap.size w6.heap.size z5 (.slice px5 2 cx5) (.slice py5 2 cy5) [(nx' : Int), (ow' : Int)] lk false by rw [hw6]; exact put_back (us := [(nx' : Int), (ow' : Int)]) (ms := lk) HM5.out.box HR5.out.1 HR5.out.2.1 HLO.out HM5.out.from')
            have HL6 := Lib.hid ((hrow HR5.out.2.2.1 (by decide)).mono HLO.out)
            have HH6 := Lib.hid (hrow HR5.out.2.2.2 (by decide))
            have HO6 := Lib.hid (hrow HO5.out (by decide))
            have HB6 := Lib.hid (HB5.out.trans (hk6.below HB5.out.size (fun q hq => by have e : q = z5 := hq; rw [e]; exact HM5.out.from')))
            clear hx5 hy5 hs5 hh5 hb5 hbp hbox hnh hk6 hrow HM4 HL4 HO4 hB4 HPL HM5 HO5 HR5 HB5 HPP HNM
            go_upto_region 28 with fail
            rw [← hw5p, ← hzN, ← hw6]
            clear hw5p hzN hw6 hn0 hn1' hn2 hm0 hm1 hm2 hf0 hf1 hf2
            obtain ⟨i1, hi1, hy0, hy1, hy2⟩ := info_parts num_info'
            have HI1 := Lib.hid (And.intro hi1 (And.intro hy0 (And.intro hy1 hy2)))
            clear hi1 hy0 hy1 hy2 hwB
            go_wp2_with (at_builtin; refine wpList_append_any rfl _ _ 58 rfl W.heap.size 3 i1 (.int .i64 0) 8 Try.underlying58 HI1.out.1 HI1.out.2.1 HI1.out.2.2.1 HI1.out.2.2.2 rfl (.slice po no co) no _ rfl HO6.out (.slice ph nh ch) wB.heap.size nh _ rfl HH6.out (fun u hu => by obtain ⟨x, _, rfl⟩ := List.mem_map.1 hu; rfl) (by unfold maxLen; omega) (by omega) HB6.out.size ?_; intro v' w7 hown' hk7; obtain ⟨q7, d7, rfl⟩ := owns_slice hown')
            have HM7 := Lib.hid (HM6.out.other HO6.out hk7)
            have HL7 := Lib.hid (hk7.row HL6.out fun q hq e => owns_ne HL6.out HO6.out (by decide) hq e.symm rfl)
            have HO7 := Lib.hid (show w7.ownsRow W.heap.size 3 1 (.slice q7 (no + nh) d7) (no + nh) ((ord ++ hs).map fun k : Nat => Value.int .i64 (k : Int)) by rw [List.map_append]; exact hown')
            have HB7 := Lib.hid (HB6.out.trans (hk7.below HB6.out.size (fun q hq => by
              have hq : some q = (Value.slice po no co).ownBlock := hq
              exact (HO6.out.lt q hq.symm).1)))
            have HNO2 := Lib.hid (show no + nh = (ord ++ hs).length by rw [List.length_append, ← HNO.out, ← HNH.out])
            clear hown' hk7 HM6 HL6 HH6 HO6 HB6
            go_roundw
            case rel => exact ⟨i + 1, _, _, _, _, _, _, _, _, _, nx', ow', ss', ord ++ hs, by omega, by go_num, rfl, rfl, HNO2.out, HRN.out.tick, HG2.out, Lib.hid ⟨HM7.out, HL7.out, HO7.out, HB7.out⟩⟩
            case measure => simp [intOf]; omega
    · obtain rfl : i = 6 * n + 6 := by omega
      have hG := HG.out
      rw [Nat.sub_self] at hG
      obtain ⟨e1, e2, hL, h5⟩ := good_end HT.out hn1 hG
      obtain ⟨hM, hl, ho, hB⟩ := HF.out
      rw [e1, e2] at hM
      have hnoN : no = n := by have := HNO.out; omega
      have ho2 := ho
      obtain ⟨_, ⟨_, h0⟩ | ⟨g1, cap1, cur1, hv, hBg, hheap, hncap, hmx, hsz, htk⟩⟩ := ho2
      · omega
      · injection hv with hv hv2 hv3
        subst hv hv3
        clear hv2
        obtain ⟨gx, c7, hf, _, _⟩ := own_form hM.words (by simp)
        injection hf with hf hf2 hf3
        subst hf
        clear hf2 hf3
        obtain ⟨gq, c8, hf, _, _⟩ := own_form hl (by omega)
        injection hf with hf hf2 hf3
        subst hf
        clear hf2 hf3
        have HST := Lib.hid (sort_c g1 no co cur1 3 (ord.map fun k : Nat => (k : Int)) wr (by rw [List.length_map]; exact HNO.out.symm) hheap (by rw [ptn_eq]; simpa using htk) (by omega))
        have HMr := Lib.hid hM
        have HLr := Lib.hid hl
        have HOr := Lib.hid ho
        have HBr := Lib.hid hB
        have H5 := Lib.hid h5
        have HNON := Lib.hid hnoN
        have HLN := Lib.hid hL
        have hno0 : no ≤ 4 := by omega
        clear hM hl ho hB HF hG hBg hheap hncap hmx hsz htk h5 hnoN hL e1 e2
        go_wp2_with fail
        refine HST.out.mono ?_
        rintro e w9 ⟨rfl, hk9, cur', hsz', hheap', htk'⟩
        have HCE := Lib.hid (show ∀ j, j < n → w9.cell? ⟨g1, j, none⟩ = some (.int .i64 (j : Int)) from fun j hj => by
          have hRl : (rise (ord.map fun k : Nat => (k : Int))).length = n := by rw [rise_length, List.length_map]; exact HLN.out
          have hR := HT.out.tick.sorted HLN.out (rise_perm (ord.map fun k : Nat => (k : Int))) (rise_sorted _) j (by omega)
          have h8 : w9.cell? ⟨g1, j, none⟩ = cur'[j]? := by simp [World.cell?, hheap']
          have h9 : (cur'.toList.take no)[j]? = some (.int .i64 (j : Int)) := by
            rw [htk', List.getElem?_map, List.getElem?_eq_getElem (by omega), hR]; rfl
          rw [List.getElem?_take, if_pos (by have := HNON.out; omega), Array.getElem?_toList] at h9
          rw [h8, h9])
        have hr9 : ∀ {E : TypeId} {s m B' : Nat} {v : Value} {xs : List Value}, wr.ownsRow B' E s v m xs → E ≠ 3 → w9.ownsRow B' E s v m xs := fun hr hE => hk9.row hr fun q hq e => owns_ne hr HOr.out hE hq rfl (by have e : q = g1 := e; exact e)
        have HL9 := Lib.hid (hr9 HLr.out (by decide))
        have HM9 := Lib.hid (show PVar w9 W.heap.size w9.heap.size z5 (.slice (some ⟨gx, 0, none⟩) 2 cx) (.slice py 2 cy) [(n : Int), (n : Int)] lk false from
          have hw := hr9 HMr.out.words (by decide)
          have hv := hr9 HMr.out.lives (by decide)
          ⟨HMr.out.box.keeps hk9 (fun e => HMr.out.box.row HOr.out (by decide) rfl e), hw, hv, HMr.out.from', Nat.lt_of_lt_of_le HMr.out.box.lt hk9.size, owns_lt hw, owns_lt hv⟩)
        have HB9 := Lib.hid (HBr.out.trans (hk9.below HBr.out.size (fun q hq => by
          have e : q = g1 := hq
          rw [e]
          exact (HOr.out.lt g1 rfl).1)))
        clear hk9 hsz' hheap' htk' hr9 HST HLr HMr HBr HOr
        go_wp2
        go_loopw [100] (fun kv wx => ∃ k : Nat, k ≤ n ∧ kv = .int .i64 k ∧ Below w9.heap.size w9 wx) (fun kv _ => n - (intOf kv).toNat)
        case atStart => exact ⟨0, Nat.zero_le _, rfl, Below.refl _ _⟩
        case round =>
          obtain ⟨k, hk, rfl, hbx⟩ := hrel
          have HBX := Lib.hid hbx
          by_cases hkn : k < n
          · obtain ⟨⟨y0, y1, y2⟩, -, -⟩ := all_cells HL9.out HT.out.tick.len hkn
            have hp5 := H5.out k hkn
            obtain ⟨⟨a, p, t⟩, hs⟩ : ∃ s, s = ss.getD k dS := ⟨_, rfl⟩
            rw [← hs] at y0 y1 y2 hp5
            simp only at hp5
            subst hp5
            have x0 := below_cell hbx y0
            have x1 := below_cell hbx y1
            have x2 := below_cell hbx y2
            have xc := below_cell hbx (HCE.out k hkn)
            simp only at x0 x1 x2
            have hkno : k < no := by have := HNON.out; omega
            have hne : ((k : Int) != (k : Int)) = false := by rw [bne_eq_false_iff_eq]
            obtain ⟨wy, hwy⟩ : ∃ w : World, w = wr.alloc (.cells #[.int .i64 a, .int .i64 5, .int .u64 t] 24) := ⟨_, rfl⟩
            have hby : Below wr.heap.size wr wy := by rw [hwy]; exact below1 wr _
            have hsy : SpBox wy wr.heap.size a 5 t := by rw [hwy]; exact World.alloc_heap_new _ _
            obtain ⟨s0, s1, s2⟩ := hsy.cells
            have xcy := below_cell hby xc
            rw [hwy] at s0 s1 s2 xcy
            have HBY := Lib.hid (below_then hbx hbx.size hby)
            clear y0 y1 y2 hs hbx hby hsy HBX
            go_wp2
            rw [← hwy]
            go_roundw
            case rel => exact ⟨k + 1, by omega, by go_num, HBY.out⟩
            case measure => simp [intOf]; omega
          · have HBE := Lib.hid (below_then HB9.out HB9.out.size HBX.out)
            have HMX := HM9.out.below HBX.out
            obtain ⟨hm0, hm1, hm2⟩ := HMX.cells
            have w0 := HMX.word (k := 0) (by simp)
            have w1 := HMX.word (k := 1) (by simp)
            simp only [List.getElem_cons_zero, List.getElem_cons_succ] at w0 w1
            have hnu : IntKind.u64.wrap (n : Int) = (n : Int) := by simp [IntKind.wrap, IntKind.signed, IntKind.bits]; omega
            have hq1 : ((no : Int) == (n : Int)) = true := by rw [HNON.out]; simp
            have hq2 : ((n : Int) == (n : Int)) = true := by simp
            clear hbx HMX HBX
            go_wp2
            go_ret
            exact ⟨rfl, HBE.out⟩

end Go.Proofs.Ytcnpmkigiklnnaa
