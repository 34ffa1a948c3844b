/-
  Scripts as words: plain mathematics of what words say, and of the words of a script.
  Conditions: as each has them.
-/
import Derived.Test.YtjgdkfgcfningaaDoorMath
import Derived.Test.YtjgdkfgcfningaaDoorSRunMath
namespace Go.Proofs.YtjgdkfgcfningaaDoor

/-- A call: its kind, and its four arguments. -/
structure CallM where
  k : Nat
  a0 : Nat
  a1 : Nat
  a2 : Nat
  a3 : Nat
/-- How many calls rows have together. -/
def tot : List (List CallM) → Nat
  | [] => 0
  | l :: r => l.length + tot r
/-- A call more in one of the rows. -/
def addC : List (List CallM) → Nat → CallM → List (List CallM)
  | [], _, _ => []
  | l :: r, 0, x => (l ++ [x]) :: r
  | l :: r, i + 1, x => l :: addC r i x
theorem addC_length : ∀ (ls : List (List CallM)) (i : Nat) (x : CallM), (addC ls i x).length = ls.length
  | [], _, _ => rfl
  | l :: r, 0, x => rfl
  | l :: r, i + 1, x => by simp [addC, addC_length r i x]
theorem addC_tot : ∀ (ls : List (List CallM)) (i : Nat) (x : CallM), i < ls.length → tot (addC ls i x) = tot ls + 1
  | [], _, _, h => by cases h
  | l :: r, 0, x, _ => by simp [addC, tot]; omega
  | l :: r, i + 1, x, h => by simp only [addC, tot]; rw [addC_tot r i x (by simpa using h)]; omega
theorem addC_get : ∀ (ls : List (List CallM)) (i : Nat) (x : CallM) (j : Nat) (hj : j < ls.length) (hj2 : j < (addC ls i x).length), (addC ls i x)[j] = if i = j then ls[j] ++ [x] else ls[j]
  | l :: r, 0, x, 0, _, _ => rfl
  | l :: r, 0, x, j + 1, _, _ => by simp [addC]
  | l :: r, i + 1, x, 0, _, _ => by simp [addC]
  | l :: r, i + 1, x, j + 1, hj, hj2 => by
    simp only [addC, List.getElem_cons_succ]
    rw [addC_get r i x j (by simpa using hj)]
    by_cases h : i = j
    · simp [h]
    · rw [if_neg h, if_neg (by omega)]
theorem addC_set (ls : List (List CallM)) (i : Nat) (x : CallM) (h : i < ls.length) : addC ls i x = ls.set i (ls[i] ++ [x]) := by
  refine List.ext_getElem (by rw [addC_length, List.length_set]) fun j h1 h2 => ?_
  rw [addC_length] at h1
  rw [addC_get ls i x j h1, List.getElem_set]
  by_cases e : i = j
  · subst e; simp
  · rw [if_neg e, if_neg e]

/-- What has been read: the calls, and the picks. -/
abbrev RdS := List (List CallM) × List Int
def cpuOf (c h : Nat) : Nat := getN h 8 3 % c
def callS (c h : Nat) (x : CallM) (s : RdS) : RdS := (if tot s.1 < 64 then addC s.1 (cpuOf c h) x else s.1, s.2)
def manyS (h : Nat) (n : Nat) : Nat := min (getN h 16 8 + 1) (4096 - n)
def pickS (c h : Nat) (s : RdS) : RdS := (s.1, s.2 ++ List.replicate (manyS h s.2.length) (cpuOf c h : Int))
def kindN (h : Nat) : Nat := getN h 0 2
def callAt (t : List Nat) : CallM := ⟨t.getD 0 0, t.getD 1 0, t.getD 2 0, t.getD 3 0, t.getD 4 0⟩
def rd (c : Nat) : List Nat → RdS → RdS
  | [], s => s
  | h :: t, s =>
    if kindN h = 1 then
      if 5 ≤ t.length then rd c (t.drop 5) (callS c h (callAt t) s) else rd c t s
    else if kindN h = 2 then rd c t (pickS c h s)
    else rd c t s
termination_by l => l.length
decreasing_by all_goals simp_wf; try omega

theorem rd_nil (c : Nat) (s : RdS) : rd c [] s = s := by rw [rd]
theorem rd_call (c h : Nat) (t : List Nat) (s : RdS) (hk : kindN h = 1) (ht : 5 ≤ t.length) : rd c (h :: t) s = rd c (t.drop 5) (callS c h (callAt t) s) := by
  rw [rd, if_pos hk, if_pos ht]
theorem rd_short (c h : Nat) (t : List Nat) (s : RdS) (hk : kindN h = 1) (ht : t.length < 5) : rd c (h :: t) s = rd c t s := by
  rw [rd, if_pos hk, if_neg (by omega)]
theorem rd_pick (c h : Nat) (t : List Nat) (s : RdS) (hk : kindN h = 2) : rd c (h :: t) s = rd c t (pickS c h s) := by
  rw [rd, if_neg (by omega), if_pos hk]
theorem rd_pass (c h : Nat) (t : List Nat) (s : RdS) (h1 : kindN h ≠ 1) (h2 : kindN h ≠ 2) : rd c (h :: t) s = rd c t s := by
  rw [rd, if_neg h1, if_neg h2]

/-- A script. -/
structure SM where
  c : Int
  g : Int
  ls : List (List CallM)
  ps : List Int
def cpusN (f : Nat) : Nat := getN f 0 3 + 1
def pagesN (f : Nat) : Nat := getN f 8 6 + 1
def readL (ws : List Nat) : SM :=
  let f := ws.headD 0
  let r := rd (cpusN f) ws.tail (List.replicate (cpusN f) [], [])
  ⟨(cpusN f : Nat), (pagesN f : Nat), r.1, r.2⟩
/-- May it be? -/
def okS (s : SM) : Prop := (1 ≤ s.c ∧ s.c ≤ 8) ∧ (1 ≤ s.g ∧ s.g ≤ 64) ∧ (s.ls.length : Int) = s.c ∧ tot s.ls ≤ 64 ∧ s.ps.length ≤ 4096 ∧ ∀ p ∈ s.ps, 0 ≤ p ∧ p < s.c

/-- What holds of all that has been read. -/
def Inv (c : Nat) (s : RdS) : Prop := s.1.length = c ∧ tot s.1 ≤ 64 ∧ s.2.length ≤ 4096 ∧ ∀ p ∈ s.2, 0 ≤ p ∧ p < (c : Int)
theorem cpuOf_lt {c : Nat} (h : 1 ≤ c) (w : Nat) : cpuOf c w < c := Nat.mod_lt _ (by omega)
theorem Inv.call {c : Nat} (hc : 1 ≤ c) {s : RdS} (h : Inv c s) (w : Nat) (x : CallM) : Inv c (callS c w x s) := by
  obtain ⟨h1, h2, h3, h4⟩ := h
  unfold callS
  by_cases ht : tot s.1 < 64
  · rw [if_pos ht]
    exact ⟨by rw [addC_length]; exact h1, by rw [addC_tot _ _ _ (by rw [h1]; exact cpuOf_lt hc w)]; exact ht, h3, h4⟩
  · rw [if_neg ht]; exact ⟨h1, h2, h3, h4⟩
theorem Inv.pick {c : Nat} (hc : 1 ≤ c) {s : RdS} (h : Inv c s) (w : Nat) : Inv c (pickS c w s) := by
  obtain ⟨h1, h2, h3, h4⟩ := h
  refine ⟨h1, h2, ?_, fun p hp => ?_⟩
  · simp only [pickS, List.length_append, List.length_replicate, manyS]; omega
  · rcases List.mem_append.1 hp with hp | hp
    · exact h4 p hp
    · have := List.eq_of_mem_replicate hp
      subst this
      have := cpuOf_lt hc w
      omega
theorem rd_inv {c : Nat} (hc : 1 ≤ c) : ∀ (n : Nat) (l : List Nat), l.length ≤ n → ∀ s, Inv c s → Inv c (rd c l s)
  | _, [], _, s, h => by rw [rd_nil]; exact h
  | 0, _ :: _, hn, _, _ => by simp at hn
  | n + 1, w :: t, hn, s, h => by
    simp only [List.length_cons] at hn
    by_cases h1 : kindN w = 1
    · by_cases h5 : t.length < 5
      · rw [rd_short c w t s h1 h5]; exact rd_inv hc n t (by omega) s h
      · rw [rd_call c w t s h1 (by omega)]
        exact rd_inv hc n _ (by rw [List.length_drop]; omega) _ (h.call hc w _)
    · by_cases h2 : kindN w = 2
      · rw [rd_pick c w t s h2]; exact rd_inv hc n t (by omega) _ (h.pick hc w)
      · rw [rd_pass c w t s h1 h2]; exact rd_inv hc n t (by omega) _ h
theorem tot_replicate (n : Nat) : tot (List.replicate n []) = 0 := by
  induction n with
  | zero => rfl
  | succ n ih => rw [List.replicate_succ, tot, ih]; rfl
theorem inv_start (c : Nat) : Inv c (List.replicate c [], []) := ⟨by simp, by rw [tot_replicate]; omega, by simp, fun p hp => by cases hp⟩
theorem cpusN_le (f : Nat) : 1 ≤ cpusN f ∧ cpusN f ≤ 8 := by
  have := getN_lt f 0 3
  unfold cpusN
  omega
theorem pagesN_le (f : Nat) : 1 ≤ pagesN f ∧ pagesN f ≤ 64 := by
  have := getN_lt f 8 6
  unfold pagesN
  omega
/-- What is read may be. -/
theorem read_ok (ws : List Nat) : okS (readL ws) := by
  have h := rd_inv (cpusN_le (ws.headD 0)).1 _ ws.tail (Nat.le_refl _) _ (inv_start (cpusN (ws.headD 0)))
  have h1 := cpusN_le (ws.headD 0)
  have h2 := pagesN_le (ws.headD 0)
  obtain ⟨h3, h4, h5, h6⟩ := h
  refine ⟨⟨?_, ?_⟩, ⟨?_, ?_⟩, ?_, h4, h5, h6⟩ <;> simp only [readL] <;> omega

/-- The words of a script. -/
def firstN (s : SM) : Nat := (s.c.toNat - 1) + 256 * (s.g.toNat - 1)
def callW (i : Nat) (x : CallM) : List Nat := [1 + 256 * i, x.k, x.a0, x.a1, x.a2, x.a3]
def rowW (i : Nat) (l : List CallM) : List Nat := (l.map (callW i)).flatten
def listsW : Nat → List (List CallM) → List Nat
  | _, [] => []
  | i, l :: r => rowW i l ++ listsW (i + 1) r
def runW (r : Int × Nat) : Nat := 2 + 256 * r.1.toNat + 65536 * (r.2 - 1)
def runsW : List (Int × Nat) → List Nat
  | [] => []
  | r :: rs => runsW rs ++ [runW r]
def wordsL (s : SM) : List Nat := firstN s :: (listsW 0 s.ls ++ runsW (runsR s.ps))

theorem firstN_lt {s : SM} (h : okS s) : firstN s < 65536 := by
  obtain ⟨⟨_, _⟩, ⟨_, _⟩, _⟩ := h
  unfold firstN; omega
theorem first_back {s : SM} (h : okS s) : cpusN (firstN s) = s.c.toNat ∧ pagesN (firstN s) = s.g.toNat := by
  obtain ⟨⟨_, _⟩, ⟨_, _⟩, _⟩ := h
  unfold cpusN pagesN firstN getN
  constructor
  · simp only [Nat.pow_zero, Nat.div_one]; omega
  · omega
theorem callW_kind (i : Nat) : kindN (1 + 256 * i) = 1 := by unfold kindN getN; simp only [Nat.pow_zero, Nat.div_one]; omega
theorem callW_cpu {i c : Nat} (hi : i < c) (hc : c ≤ 8) : cpuOf c (1 + 256 * i) = i := by
  unfold cpuOf getN
  have : (1 + 256 * i) / 2 ^ 8 % 2 ^ 3 = i := by omega
  rw [this]; exact Nat.mod_eq_of_lt hi
theorem runW_kind (r : Int × Nat) : kindN (runW r) = 2 := by unfold kindN getN runW; simp only [Nat.pow_zero, Nat.div_one]; omega
theorem runW_cpu {r : Int × Nat} {c : Nat} (h0 : 0 ≤ r.1) (h1 : r.1 < (c : Int)) (hc : c ≤ 8) : (cpuOf c (runW r) : Int) = r.1 := by
  unfold cpuOf getN runW
  have : (2 + 256 * r.1.toNat + 65536 * (r.2 - 1)) / 2 ^ 8 % 2 ^ 3 = r.1.toNat := by omega
  rw [this, Nat.mod_eq_of_lt (by omega)]; omega
theorem runW_many {r : Int × Nat} (h : r.2 ≤ 256) (h1 : 1 ≤ r.2) (h2 : 0 ≤ r.1) (h3 : r.1 < 8) : getN (runW r) 16 8 + 1 = r.2 := by
  unfold getN runW
  have : (2 + 256 * r.1.toNat + 65536 * (r.2 - 1)) / 2 ^ 16 = r.2 - 1 := by omega
  rw [this, Nat.mod_eq_of_lt (by have : (2:Nat)^8 = 256 := rfl; omega)]; omega

/-- A call more in row i, i of them ahead. -/
theorem addC_mid : ∀ (A : List (List CallM)) (l : List CallM) (B : List (List CallM)) (x : CallM), addC (A ++ l :: B) A.length x = A ++ (l ++ [x]) :: B
  | [], _, _, _ => rfl
  | y :: A, l, B, x => by simp only [List.cons_append, List.length_cons, addC]; rw [addC_mid A l B x]
theorem tot_append : ∀ (A B : List (List CallM)), tot (A ++ B) = tot A + tot B
  | [], B => by simp [tot]
  | l :: A, B => by simp only [List.cons_append, tot]; rw [tot_append A B]; omega
theorem rd_row (c : Nat) (hc : c ≤ 8) (A : List (List CallM)) (B : List (List CallM)) (ps : List Int) (rest : List Nat) (hA : A.length < c) :
    ∀ (l m : List CallM), tot A + (m.length + l.length) + tot B ≤ 64 → rd c (rowW A.length l ++ rest) (A ++ m :: B, ps) = rd c rest (A ++ (m ++ l) :: B, ps)
  | [], m, _ => by simp [rowW]
  | x :: l, m, ht => by
    have hs : callS c (1 + 256 * A.length) ⟨x.k, x.a0, x.a1, x.a2, x.a3⟩ (A ++ m :: B, ps) = (A ++ (m ++ [x]) :: B, ps) := by
      unfold callS
      rw [callW_cpu hA hc, if_pos (by rw [tot_append, tot]; simp only [List.length_cons] at ht; omega), addC_mid]
    have := rd_row c hc A B ps rest hA l (m ++ [x]) (by simp only [List.length_append, List.length_cons, List.length_nil] at ht ⊢; omega)
    rw [List.append_assoc] at this
    rw [List.singleton_append] at this
    rw [← this, ← hs]
    simp only [rowW, List.map_cons, List.flatten_cons, callW, List.cons_append, List.nil_append]
    rw [rd_call _ _ _ _ (callW_kind _) (by simp)]
    rfl
theorem rd_lists (c : Nat) (hc : c ≤ 8) (ps : List Int) (rest : List Nat) : ∀ (ls A : List (List CallM)), A.length + ls.length = c → tot A + tot ls ≤ 64 →
    rd c (listsW A.length ls ++ rest) (A ++ List.replicate ls.length [], ps) = rd c rest (A ++ ls, ps)
  | [], A, _, _ => by simp [listsW]
  | l :: r, A, hl, ht => by
    simp only [List.length_cons, tot] at hl ht
    simp only [listsW, List.length_cons, List.replicate_succ, List.append_assoc]
    rw [rd_row c hc A _ ps _ (by omega) l [] (by rw [tot_replicate]; simp; omega), List.nil_append]
    have := rd_lists c hc ps rest r (A ++ [l]) (by simp; omega) (by rw [tot_append]; simp only [tot]; omega)
    simpa [List.append_assoc] using this
theorem rd_run (c : Nat) (hc : c ≤ 8) (r : Int × Nat) (ls : List (List CallM)) (ps : List Int) (rest : List Nat) (h0 : 0 ≤ r.1) (h1 : r.1 < (c : Int)) (h2 : 1 ≤ r.2 ∧ r.2 ≤ 256) (hl : ps.length + r.2 ≤ 4096) :
    rd c (runW r :: rest) (ls, ps) = rd c rest (ls, ps ++ List.replicate r.2 r.1) := by
  rw [rd_pick _ _ _ _ (runW_kind r)]
  unfold pickS
  simp only
  rw [runW_cpu h0 h1 hc, show manyS (runW r) ps.length = r.2 by unfold manyS; rw [runW_many h2.2 h2.1 h0 (by omega)]; omega]
theorem flat_len : ∀ (rs : List (Int × Nat)) (x : Int × Nat), (flatR (x :: rs)).length = (flatR rs).length + x.2 := fun rs x => by simp [flatR]
theorem rd_runs (c : Nat) (hc : c ≤ 8) (ls : List (List CallM)) : ∀ (rs : List (Int × Nat)) (rest : List Nat), OkR rs → (∀ x ∈ rs, 0 ≤ x.1 ∧ x.1 < (c : Int)) → (flatR rs).length ≤ 4096 →
    rd c (runsW rs ++ rest) (ls, []) = rd c rest (ls, flatR rs)
  | [], rest, _, _, _ => rfl
  | x :: rs, rest, hk, hx, hl => by
    rw [flat_len] at hl
    simp only [runsW, List.append_assoc, List.singleton_append]
    rw [rd_runs c hc ls rs (runW x :: rest) hk.tail (fun y hy => hx y (List.mem_cons_of_mem _ hy)) (by omega)]
    rw [rd_run c hc x ls _ rest (hx x List.mem_cons_self).1 (hx x List.mem_cons_self).2 hk.head hl]
    rfl
theorem runs_mem (ps : List Int) : ∀ x ∈ runsR ps, x.1 ∈ ps := by
  suffices ∀ (ps : List Int) (rs : List (Int × Nat)), ∀ x ∈ ps.foldl putR rs, x.1 ∈ ps ∨ ∃ y ∈ rs, y.1 = x.1 by
    intro x hx
    rcases this ps [] x hx with h | ⟨y, hy, _⟩
    · exact h
    · cases hy
  intro ps
  induction ps with
  | nil => intro rs x hx; exact .inr ⟨x, hx, rfl⟩
  | cons p r ih =>
    intro rs x hx
    rcases ih _ x hx with h | ⟨y, hy, he⟩
    · exact .inl (List.mem_cons_of_mem _ h)
    · have : y.1 = p ∨ ∃ z ∈ rs, z.1 = y.1 := by
        cases rs with
        | nil => simp [putR] at hy; subst hy; exact .inl rfl
        | cons z rs =>
          obtain ⟨m, k⟩ := z
          simp only [putR] at hy
          split at hy
          · rcases List.mem_cons.1 hy with rfl | hy
            · exact .inr ⟨(m, k), List.mem_cons_self, rfl⟩
            · exact .inr ⟨y, List.mem_cons_of_mem _ hy, rfl⟩
          · rcases List.mem_cons.1 hy with rfl | hy
            · exact .inl rfl
            · exact .inr ⟨y, hy, rfl⟩
      rcases this with h | ⟨z, hz, hzy⟩
      · left; rw [← he, h]; exact List.mem_cons_self
      · right; exact ⟨z, hz, hzy.trans he⟩
/-- Read of the words is the script. -/
theorem read_words {s : SM} (h : okS s) : readL (wordsL s) = s := by
  obtain ⟨h1, h2⟩ := first_back h
  obtain ⟨⟨c1, c2⟩, ⟨g1, g2⟩, hl, ht, hp, hall⟩ := h
  have hc : (s.c.toNat : Int) = s.c := by omega
  have hA := rd_lists s.c.toNat (by omega) [] (runsW (runsR s.ps)) s.ls [] (by simp; omega) (by simp only [tot]; omega)
  have hB := rd_runs s.c.toNat (by omega) s.ls (runsR s.ps) [] (runs_ok _) (fun x hx => by have := hall _ (runs_mem _ x hx); omega) (by rw [runs_flat]; exact hp)
  rw [List.append_nil, runs_flat, rd_nil] at hB
  simp only [List.nil_append, List.length_nil] at hA
  rw [hB] at hA
  have hls : s.ls.length = s.c.toNat := by omega
  rw [hls] at hA
  unfold readL wordsL
  simp only [List.headD_cons, List.tail_cons, h1, h2, hA]
  cases s
  simp only at c1 g1 ⊢
  congr 1 <;> omega

/-- The records of a script's words, one by one. -/
def callRecs : Nat → List (List CallM) → List (List Nat)
  | _, [] => []
  | i, l :: r => l.map (callW i) ++ callRecs (i + 1) r
def runRecs : List (Int × Nat) → List (List Nat)
  | [] => []
  | r :: rs => runRecs rs ++ [[runW r]]
def recsL (s : SM) : List (List Nat) := callRecs 0 s.ls ++ runRecs (runsR s.ps)
theorem callRecs_flat : ∀ (ls : List (List CallM)) (i : Nat), (callRecs i ls).flatten = listsW i ls
  | [], _ => rfl
  | l :: r, i => by simp only [callRecs, listsW, List.flatten_append, callRecs_flat r, rowW]
theorem runRecs_flat : ∀ rs : List (Int × Nat), (runRecs rs).flatten = runsW rs
  | [] => rfl
  | r :: rs => by simp only [runRecs, runsW, List.flatten_append, runRecs_flat rs]; rfl
theorem recs_flat (s : SM) : (recsL s).flatten = (wordsL s).tail := by simp [recsL, wordsL, callRecs_flat, runRecs_flat]
theorem callRecs_length : ∀ (ls : List (List CallM)) (i : Nat), (callRecs i ls).length = tot ls
  | [], _ => rfl
  | l :: r, i => by simp [callRecs, tot, callRecs_length r]
/-- Words that are read whole, whatever comes behind them. -/
def Whole (c : Nat) (r : List Nat) : Prop := ∃ f : RdS → RdS, ∀ rest s, rd c (r ++ rest) s = rd c rest (f s)
theorem whole_call (c i : Nat) (x : CallM) : Whole c (callW i x) := ⟨fun s => callS c (1 + 256 * i) x s, fun rest s => by
  simp only [callW, List.cons_append, List.nil_append]
  rw [rd_call _ _ _ _ (callW_kind _) (by simp)]
  rfl⟩
theorem whole_run (c : Nat) (r : Int × Nat) : Whole c [runW r] := ⟨fun s => pickS c (runW r) s, fun rest s => by
  simp only [List.cons_append, List.nil_append]
  rw [rd_pick _ _ _ _ (runW_kind _)]⟩
theorem callRecs_mem : ∀ (ls : List (List CallM)) (i : Nat), ∀ r ∈ callRecs i ls, r.length = 6 ∧ ∀ c, Whole c r
  | [], _, _, h => by cases h
  | l :: t, i, r, h => by
    rcases List.mem_append.1 h with h | h
    · obtain ⟨x, _, rfl⟩ := List.mem_map.1 h
      exact ⟨rfl, fun c => whole_call c i x⟩
    · exact callRecs_mem t (i + 1) r h
theorem runRecs_mem : ∀ (rs : List (Int × Nat)), ∀ r ∈ runRecs rs, r.length = 1 ∧ ∀ c, Whole c r
  | [], _, h => by cases h
  | x :: t, r, h => by
    rcases List.mem_append.1 h with h | h
    · exact runRecs_mem t r h
    · rw [List.mem_singleton.1 h]; exact ⟨rfl, fun c => whole_run c x⟩
theorem recs_len (s : SM) (i : Nat) (h : i < (recsL s).length) : (recsL s)[i].length = if i < tot s.ls then 6 else 1 := by
  have hl := callRecs_length s.ls 0
  by_cases hi : i < tot s.ls
  · rw [if_pos hi]
    have : (recsL s)[i] = (callRecs 0 s.ls)[i]'(by omega) := by simp only [recsL]; rw [List.getElem_append_left (by omega)]
    rw [this]
    exact (callRecs_mem s.ls 0 _ (List.getElem_mem _)).1
  · rw [if_neg hi]
    have h' := h
    simp only [recsL, List.length_append] at h'
    have : (recsL s)[i] = (runRecs (runsR s.ps))[i - (callRecs 0 s.ls).length]'(by omega) := by simp only [recsL]; rw [List.getElem_append_right (by omega)]
    rw [this]
    exact (runRecs_mem _ _ (List.getElem_mem _)).1
theorem recs_whole (s : SM) : ∀ r ∈ recsL s, ∀ c, Whole c r := fun r hr => by
  rcases List.mem_append.1 hr with h | h
  · exact (callRecs_mem _ _ r h).2
  · exact (runRecs_mem _ r h).2
theorem recs_pos (s : SM) : ∀ r ∈ recsL s, r ≠ [] := fun r hr e => by
  subst e
  rcases List.mem_append.1 hr with h | h
  · exact absurd (callRecs_mem _ _ _ h).1 (by decide)
  · exact absurd (runRecs_mem _ _ h).1 (by decide)

/-- What has been put together says what the first so many records say. -/
def Mixed (c : Nat) (R : List (List Nat)) (i : Nat) (o : List Nat) : Prop := ∃ f : RdS → RdS, (∀ rest s, rd c (o ++ rest) s = rd c rest (f s)) ∧ ∀ rest s, rd c ((R.take i).flatten ++ rest) s = rd c rest (f s)
theorem mixed_start (c : Nat) (R : List (List Nat)) : Mixed c R 0 [] := ⟨id, fun _ _ => rfl, fun _ _ => rfl⟩
theorem mixed_junk {c : Nat} {R : List (List Nat)} {i : Nat} {o : List Nat} (h : Mixed c R i o) (w : Nat) (h1 : kindN w ≠ 1) (h2 : kindN w ≠ 2) : Mixed c R i (o ++ [w]) := by
  obtain ⟨f, ha, hb⟩ := h
  refine ⟨f, fun rest s => ?_, hb⟩
  rw [List.append_assoc, ha, List.singleton_append, rd_pass c w rest _ h1 h2]
theorem mixed_rec {c : Nat} {R : List (List Nat)} {i : Nat} {o : List Nat} (h : Mixed c R i o) (hi : i < R.length) (hw : Whole c R[i]) : Mixed c R (i + 1) (o ++ R[i]) := by
  obtain ⟨f, ha, hb⟩ := h
  obtain ⟨g, hg⟩ := hw
  refine ⟨fun s => g (f s), fun rest s => ?_, fun rest s => ?_⟩
  · rw [List.append_assoc, ha, hg]
  · rw [List.take_succ_eq_append_getElem hi, List.flatten_append, List.append_assoc, hb]
    simp only [List.flatten_cons, List.flatten_nil, List.append_nil]
    rw [hg]
theorem mixed_end {c : Nat} {R : List (List Nat)} {o : List Nat} (h : Mixed c R R.length o) (s : RdS) : rd c o s = rd c R.flatten s := by
  obtain ⟨f, ha, hb⟩ := h
  have h1 := ha [] s
  have h2 := hb [] s
  rw [List.append_nil] at h1 h2
  rw [List.take_length] at h2
  rw [h1, h2]
/-- Mixed with words that say nothing, the words say the script. -/
theorem mixed_read {s : SM} (h : okS s) {o : List Nat} (hm : Mixed s.c.toNat (recsL s) (recsL s).length o) : readL (firstN s :: o) = s := by
  have h1 := read_words h
  have h2 := first_back h
  have h3 := mixed_end hm (List.replicate s.c.toNat [], [])
  unfold readL at h1 ⊢
  rw [wordsL] at h1
  simp only [List.headD_cons, List.tail_cons, h2.1] at h1 ⊢
  rw [h3, recs_flat]
  exact h1
theorem junk_kind (x : Nat) : kindN (x / 4 * 4) ≠ 1 ∧ kindN (x / 4 * 4) ≠ 2 ∧ kindN (x / 4 * 4 + 3) ≠ 1 ∧ kindN (x / 4 * 4 + 3) ≠ 2 := by
  unfold kindN getN
  simp only [Nat.pow_zero, Nat.div_one]
  omega

end Go.Proofs.YtjgdkfgcfningaaDoor
