/-
  Package rcu: New.
  Conditions: none.
-/
import Derived.Test.YtdllhiihmpinoaaGreatVB11
import Derived.Test.YtdllhiihmpinoaaGreatVB9
/-
  Package rcu: what a CPU does leaves one that may be.
  Conditions: none.
-/
namespace Go.Proofs.YtdllhiihmpinoaaGreat
open Go.RowKit Go.Shelf

theorem rmay_of {r : RcS} (h1 : Good r.s) (h2 : mayG r.g = true) (h3 : r.s.ns.length = r.qs.length) (h4 : r.g.nd.length = r.qs.length) (h5 : ∀ q ∈ r.qs, U.mayB q.1 q.2 = true ∧ q.1 = r.g.done ∧ ∀ c ∈ q.2, c.1 ≤ r.g.asked) : rmayB r = true := by
  unfold rmayB
  simp only [Bool.and_eq_true, decide_eq_true_eq, List.all_eq_true]
  refine ⟨(good_iff r.s).2 h1, h2, h3, h4, fun q hq => ?_⟩
  obtain ⟨g1, g2, g3⟩ := h5 q hq
  unfold qOk
  simp only [Bool.and_eq_true, decide_eq_true_eq, List.all_eq_true]
  exact ⟨⟨g1, g2⟩, g3⟩
/-- One that may be, of periods that are none below 0. -/
structure GoodR (r : RcS) : Prop where
  may : rmayB r = true
  pe : ∀ q ∈ r.qs, ∀ c ∈ q.2, 0 ≤ c.1
theorem upB_more (over over' : Int) (h : over ≤ over') : ∀ (l : List (Int × Int)) (a : Int), U.upB over a l = true → U.upB over' a l = true
  | [], _, _ => rfl
  | c :: l, a, hu => by
    unfold U.upB U.allowsB at hu ⊢
    simp only [Bool.and_eq_true, decide_eq_true_eq] at hu ⊢
    exact ⟨⟨hu.1.1, by omega⟩, upB_more over over' h l c.1 hu.2⟩
theorem upB_snoc (over : Int) (c : Int × Int) (hc : c.1 ≤ over + 2) : ∀ (l : List (Int × Int)) (a : Int), U.upB over a l = true → (∀ d ∈ l, d.1 ≤ c.1) → a ≤ c.1 → U.upB over a (l ++ [c]) = true
  | [], a, _, _, ha => by
    show U.upB over a [c] = true
    unfold U.upB U.allowsB
    simp only [Bool.and_eq_true, decide_eq_true_eq]
    exact ⟨⟨ha, hc⟩, rfl⟩
  | d :: l, a, hu, hl, _ => by
    show U.upB over a (d :: (l ++ [c])) = true
    unfold U.upB at hu ⊢
    simp only [Bool.and_eq_true] at hu ⊢
    exact ⟨hu.1, upB_snoc over c hc l d.1 hu.2 (fun x hx => hl x (List.mem_cons_of_mem _ hx)) (hl d (List.mem_cons_self ..))⟩
theorem mayU_of {over : Int} {l : List (Int × Int)} (h1 : over ≤ 9223372036854775806) (h2 : l.length ≤ 16) (h3 : U.upB over 0 l = true) : U.mayB over l = true := by
  unfold U.mayB
  rw [decide_eq_true h1, decide_eq_true h2, h3]
  rfl
theorem GoodR.call {r : RcS} (h : GoodR r) {i : Nat} (hi : i < r.qs.length) (he : callE r i = 0) (x : Int) : GoodR (callR r i x) := by
  obtain ⟨g1, g2, g3, g4, g5⟩ := rmay_facts h.may
  have hg := (goodG_iff r.g).1 g2
  have hask : askE r.g = 0 := by
    unfold callE at he
    split at he
    · cases he
    · next hne => exact Classical.not_not.1 hne
  have hlen : (qAt r i).2.length ≠ 16 := by
    unfold callE at he
    rw [if_neg (fun hne => hne hask)] at he
    intro e
    rw [if_pos e] at he
    cases he
  have hq := qAt_lt hi
  obtain ⟨q1, q2, q3⟩ := g5 _ (List.getElem_mem hi)
  rw [← hq] at q1 q2 q3
  obtain ⟨m1, m2, m3⟩ := U.may_parts q1
  obtain ⟨n1, n2, n3⟩ := hg.next
  have hqa := hq
  have hd0 := hg.d0
  have ha1 := hg.a1
  have hset : ∀ q ∈ (callR r i x).qs, q = ((qAt r i).1, (qAt r i).2 ++ [(nextG r.g, x)]) ∨ q ∈ r.qs := fun q hq => by
    unfold callR at hq
    rcases List.mem_or_eq_of_mem_set hq with h | h
    · exact .inr h
    · exact .inl h
  refine ⟨rmay_of g1 ((goodG_iff _).2 (hg.ask hask)) (by show r.s.ns.length = (r.qs.set i _).length; rw [List.length_set]; exact g3) (by show r.g.nd.length = (r.qs.set i _).length; rw [g4, List.length_set]) (fun q hq => ?_), fun q hq => ?_⟩
  · rcases hset q hq with rfl | h'
    · refine ⟨mayU_of m1 (by simp only [List.length_append, List.length_singleton]; omega) (upB_snoc _ _ (by simp only; omega) _ 0 m3 (fun d hd => by have := q3 d hd; simp only; omega) (by simp only; omega)), q2, fun c hc => ?_⟩
      rcases List.mem_append.1 hc with hc | hc
      · have := q3 c hc
        show c.1 ≤ nextG r.g
        omega
      · simp only [List.mem_cons, List.not_mem_nil, or_false] at hc
        rw [hc]
        exact Int.le_refl _
    · obtain ⟨k1, k2, k3⟩ := g5 q h'
      exact ⟨k1, k2, fun c hc => by have := k3 c hc; show c.1 ≤ nextG r.g; omega⟩
  · rcases hset q hq with rfl | h'
    · intro c hc
      rcases List.mem_append.1 hc with hc | hc
      · exact h.pe _ (by rw [hqa]; exact List.getElem_mem hi) c hc
      · simp only [List.mem_cons, List.not_mem_nil, or_false] at hc
        rw [hc]
        simp only
        omega
    · exact h.pe q h'
theorem GoodR.pick {r : RcS} (h : GoodR r) (i : Nat) : GoodR (pickR r i) := by
  obtain ⟨g1, g2, g3, g4, g5⟩ := rmay_facts h.may
  have hg := ((goodG_iff r.g).1 g2).pick i (quietB r.s i)
  obtain ⟨f1, f2, f3⟩ := pickG_facts r.g i (quietB r.s i)
  have ha1 := hg.a1
  have hdd : (pickG r.g i (quietB r.s i)).done ≤ (pickG r.g i (quietB r.s i)).asked := (mayG_facts ((goodG_iff _).2 hg)).2.2.2.1
  unfold pickR
  split
  · next hd =>
    exact ⟨rmay_of g1 ((goodG_iff _).2 hg) g3 (by rw [f2]; exact g4) (fun q hq => by
      obtain ⟨k1, k2, k3⟩ := g5 q hq
      exact ⟨k1, k2.trans hd.symm, fun c hc => by have := k3 c hc; show c.1 ≤ (pickG r.g i (quietB r.s i)).asked; omega⟩), h.pe⟩
  · next hd =>
    refine ⟨rmay_of g1 ((goodG_iff _).2 hg) (by simpa using g3) (by simp only [List.length_map]; rw [f2]; exact g4) (fun q hq => ?_), fun q hq => ?_⟩
    · obtain ⟨q0, hq0, rfl⟩ := List.mem_map.1 hq
      obtain ⟨k1, k2, k3⟩ := g5 q0 hq0
      obtain ⟨m1, m2, m3⟩ := U.may_parts k1
      exact ⟨mayU_of (by simp only; omega) m2 (upB_more _ _ (by simp only; omega) _ _ m3), rfl, fun c hc => by have := k3 c hc; show c.1 ≤ (pickG r.g i (quietB r.s i)).asked; omega⟩
    · obtain ⟨q0, hq0, rfl⟩ := List.mem_map.1 hq
      exact h.pe q0 hq0
theorem GoodR.drop {r : RcS} (h : GoodR r) {i : Nat} (hi : i < r.qs.length) (k : Nat) : GoodR (dropR r i k) := by
  obtain ⟨g1, g2, g3, g4, g5⟩ := rmay_facts h.may
  have hq := qAt_lt hi
  obtain ⟨q1, q2, q3⟩ := g5 _ (List.getElem_mem hi)
  rw [← hq] at q1 q2 q3
  have hp : ∀ c ∈ (qAt r i).2, 0 ≤ c.1 := h.pe _ (by rw [hq]; exact List.getElem_mem hi)
  have hset : ∀ q ∈ (dropR r i k).qs, q = ((qAt r i).1, (qAt r i).2.drop k) ∨ q ∈ r.qs := fun q hq => by
    unfold dropR at hq
    rcases List.mem_or_eq_of_mem_set hq with h | h
    · exact .inr h
    · exact .inl h
  refine ⟨rmay_of g1 g2 (by show r.s.ns.length = (r.qs.set i _).length; rw [List.length_set]; exact g3) (by show r.g.nd.length = (r.qs.set i _).length; rw [g4, List.length_set]) (fun q hq => ?_), fun q hq => ?_⟩
  · rcases hset q hq with rfl | h'
    · exact ⟨may_drop q1 hp k, q2, fun c hc => q3 c (List.mem_of_mem_drop hc)⟩
    · exact g5 q h'
  · rcases hset q hq with rfl | h'
    · exact fun c hc => hp c (List.mem_of_mem_drop hc)
    · exact h.pe q h'
theorem GoodR.step {r : RcS} (h : GoodR r) {c : Int} {en : Bool} (he : stepE r.s c en = 0) : GoodR { r with s := stepS r.s c en } := by
  obtain ⟨g1, g2, g3, g4, g5⟩ := rmay_facts h.may
  exact ⟨rmay_of (g1.step he) g2 (by rw [(stepS_len _ _ _).1]; exact g3) g4 g5, h.pe⟩

/-- Ops: the error; what is left; what was run. -/
def opE (r : RcS) (o : Int × Int × Int) : Int :=
  if ¬ (1 ≤ o.1 ∧ o.1 ≤ 5) then 242 else if hasB r.qs.length o.2.1 = false then 2 else if o.1 = 1 then stepE r.s o.2.1 true else if o.1 = 2 then stepE r.s o.2.1 false else if o.1 = 3 then callE r o.2.1.toNat else if o.1 = 4 then 0 else runE r o.2.1.toNat
def opR (r : RcS) (o : Int × Int × Int) : RcS :=
  if o.1 = 1 then { r with s := stepS r.s o.2.1 true } else if o.1 = 2 then { r with s := stepS r.s o.2.1 false } else if o.1 = 3 then callR r o.2.1.toNat o.2.2 else if o.1 = 4 then pickR r o.2.1.toNat else dropR r o.2.1.toNat 1
def opW (r : RcS) (o : Int × Int × Int) : List Int := if o.1 = 5 then (told r o.2.1.toNat).take 1 else []
def opsE : RcS → List (Int × Int × Int) → Int
  | _, [] => 0
  | r, o :: l => if opE r o = 0 then opsE (opR r o) l else opE r o
def opsR (r : RcS) (l : List (Int × Int × Int)) : RcS := l.foldl opR r
def opsW : RcS → List (Int × Int × Int) → List Int
  | _, [] => []
  | r, o :: l => opW r o ++ opsW (opR r o) l
theorem has_lt {n : Nat} {c : Int} (h : hasB n c = true) : c.toNat < n ∧ ((c.toNat : Nat) : Int) = c := by
  unfold hasB at h
  simp only [Bool.and_eq_true, decide_eq_true_eq] at h
  omega
theorem GoodR.op {r : RcS} (h : GoodR r) {o : Int × Int × Int} (he : opE r o = 0) : GoodR (opR r o) := by
  unfold opE at he
  split at he
  · cases he
  · next hk =>
    have hk' : 1 ≤ o.1 ∧ o.1 ≤ 5 := Classical.not_not.1 hk
    split at he
    · cases he
    · next hh =>
      have hc := (has_lt (by simpa using hh)).1
      unfold opR
      split at he
      · next h1 => rw [if_pos h1]; exact h.step he
      · next h1 =>
        rw [if_neg h1]
        split at he
        · next h2 => rw [if_pos h2]; exact h.step he
        · next h2 =>
          rw [if_neg h2]
          split at he
          · next h3 => rw [if_pos h3]; exact h.call hc he _
          · next h3 =>
            rw [if_neg h3]
            split at he
            · next h4 => rw [if_pos h4]; exact h.pick _
            · next h4 => rw [if_neg h4]; exact h.drop hc 1
theorem opsR_snoc (r : RcS) (l : List (Int × Int × Int)) (i : Nat) (hi : i < l.length) : opsR r (l.take (i + 1)) = opR (opsR r (l.take i)) l[i] := by
  unfold opsR
  rw [List.take_succ_eq_append_getElem hi, List.foldl_append]
  rfl
theorem opsW_append (r : RcS) : ∀ (l m : List (Int × Int × Int)), opsW r (l ++ m) = opsW r l ++ opsW (opsR r l) m
  | [], m => rfl
  | o :: l, m => by
    show opW r o ++ opsW (opR r o) (l ++ m) = (opW r o ++ opsW (opR r o) l) ++ _
    rw [opsW_append (opR r o) l m, List.append_assoc]
    rfl
theorem opsW_snoc (r : RcS) (l : List (Int × Int × Int)) (i : Nat) (hi : i < l.length) : opsW r (l.take (i + 1)) = opsW r (l.take i) ++ opW (opsR r (l.take i)) l[i] := by
  rw [List.take_succ_eq_append_getElem hi, opsW_append]
  congr 1
  show opW _ _ ++ [] = _
  rw [List.append_nil]
theorem opsE_drop (r : RcS) (l : List (Int × Int × Int)) (i : Nat) (hi : i < l.length) : opsE (opsR r (l.take i)) (l.drop i) = if opE (opsR r (l.take i)) l[i] = 0 then opsE (opsR r (l.take (i + 1))) (l.drop (i + 1)) else opE (opsR r (l.take i)) l[i] := by
  rw [List.drop_eq_getElem_cons hi, opsR_snoc r l i hi]
  rfl
theorem opR_len (r : RcS) (o : Int × Int × Int) : (opR r o).qs.length = r.qs.length := by
  unfold opR callR pickR dropR
  split
  · rfl
  · split
    · rfl
    · split
      · simp
      · split
        · split <;> simp
        · simp

end Go.Proofs.YtdllhiihmpinoaaGreat
/-
  Package rcu: ops, one behind the other.
  Conditions: the ranges of Go's types; the ops are older than the turn.
-/
namespace Go.Proofs.YtdllhiihmpinoaaGreat
set_option maxRecDepth 100000
open Go.RowKit Go.Shelf
attribute [local go_sem] Oper.semAt_some

/-- A row of ops lies there, outside of S. -/
def OpsOut (S : Nat → Prop) (W : World) (v : Value) (l : List (Int × Int × Int)) : Prop := ∃ p cap, v = .slice p l.length cap ∧ (l ≠ [] → ∃ b off, p = some ⟨b, off, none⟩ ∧ ¬ S b ∧ ∀ i (h : i < l.length), W.cell? ⟨b, off + i * 3, none⟩ = some (.int .i64 l[i].1) ∧ W.cell? ⟨b, off + i * 3 + 1, none⟩ = some (.int .i64 l[i].2.1) ∧ W.cell? ⟨b, off + i * 3 + 2, none⟩ = some (.int .u64 l[i].2.2))
theorem OpsOut.keeps {S : Nat → Prop} {W W' : World} {v : Value} {l : List (Int × Int × Int)} (h : OpsOut S W v l) (hk : Keeps S W W') : OpsOut S W' v l := by
  obtain ⟨p, cap, rfl, hc⟩ := h
  refine ⟨p, cap, rfl, fun hne => ?_⟩
  obtain ⟨b, off, rfl, hS, hcs⟩ := hc hne
  exact ⟨b, off, rfl, hS, fun i hi => ⟨hk.cell (hcs i hi).1 hS, hk.cell (hcs i hi).2.1 hS, hk.cell (hcs i hi).2.2 hS⟩⟩
theorem OpsOut.below {S : Nat → Prop} {W W' : World} {v : Value} {l : List (Int × Int × Int)} (h : OpsOut S W v l) (hb : Below W.heap.size W W') : OpsOut S W' v l := by
  obtain ⟨p, cap, rfl, hc⟩ := h
  refine ⟨p, cap, rfl, fun hne => ?_⟩
  obtain ⟨b, off, rfl, hS, hcs⟩ := hc hne
  exact ⟨b, off, rfl, hS, fun i hi => ⟨below_cell hb (hcs i hi).1, below_cell hb (hcs i hi).2.1, below_cell hb (hcs i hi).2.2⟩⟩
theorem OpsOut.apart {S T : Nat → Prop} {W : World} {v : Value} {l : List (Int × Int × Int)} (h : OpsOut S W v l) (hT : ∀ q, T q → S q ∨ W.heap.size ≤ q) : OpsOut T W v l := by
  obtain ⟨p, cap, rfl, hc⟩ := h
  refine ⟨p, cap, rfl, fun hne => ?_⟩
  obtain ⟨b, off, rfl, hS, hcs⟩ := hc hne
  have hlt : b < W.heap.size := World.block_lt_of_cell? W _ (hcs 0 (List.length_pos_iff.2 hne)).1
  exact ⟨b, off, rfl, fun hb => (hT b hb).elim hS (by omega), hcs⟩

/-- The kinds' methods. -/
def kindK (k : Int) : Nat := if k = 1 then 120 else if k = 2 then 121 else if k = 3 then 122 else if k = 4 then 82 else 123
/-- Each kind. -/
theorem kind_c (z B : Nat) (r : RcS) (u v nv : Value) (qb qc : Nat) (lv : Value) (ls : List Int) (k c x : Int) (W : World) (h : VtAt W z B r u v nv qb qc lv ls) (hg : GoodR r) (hk : 1 ≤ k ∧ k ≤ 5) (hc : hasB r.qs.length c = true) (hls : ls.length ≤ 999999) :
    Calls Tryz.prog (kindK k) #[.pointer (some ⟨z, 0, none⟩), .agg #[.int .i64 k, .int .i64 c, .int .u64 x]] W fun e w' => OpQ z B (opE r (k, c, x)) (opR r (k, c, x)) (ls ++ opW r (k, c, x)) qb qc lv e W w' := by
  obtain ⟨hlt, hcn⟩ := has_lt hc
  obtain ⟨i, hi⟩ : ∃ i, i = c.toNat := ⟨_, rfl⟩
  have hci : c = (i : Int) := by omega
  have hqi := qAt_lt (r := r) (i := i) (by omega)
  have hE : opE r (k, c, x) = if k = 1 then stepE r.s c true else if k = 2 then stepE r.s c false else if k = 3 then callE r i else if k = 4 then 0 else runE r i := by
    unfold opE
    rw [if_neg (fun h => h hk), if_neg (by rw [hc]; decide), ← hi]
  have hk' : k = 1 ∨ k = 2 ∨ k = 3 ∨ k = 4 ∨ k = 5 := by omega
  rw [hE]
  unfold opR opW
  simp only [← hi]
  rcases hk' with rfl | rfl | rfl | rfl | rfl
  · rw [if_pos rfl, if_pos rfl, if_neg (by decide), List.append_nil]
    exact renter_c z B r u v nv qb qc lv ls 1 c x W h hg.may
  · rw [if_neg (by decide), if_pos rfl, if_neg (by decide), if_pos rfl, if_neg (by decide), List.append_nil]
    exact rleave_c z B r u v nv qb qc lv ls 2 c x W h hg.may
  · rw [if_neg (by decide), if_neg (by decide), if_pos rfl, if_neg (by decide), if_neg (by decide), if_pos rfl, if_neg (by decide), List.append_nil, hci]
    exact rcall_c z B r u v nv qb qc lv ls 3 x i W h hg.may (by omega)
  · rw [if_neg (by decide), if_neg (by decide), if_neg (by decide), if_pos rfl, if_neg (by decide), if_neg (by decide), if_neg (by decide), if_pos rfl, if_neg (by decide), List.append_nil, hci]
    exact rpick_c z B r u v nv qb qc lv ls 4 x i W h hg.may (by omega)
  · rw [if_neg (by decide), if_neg (by decide), if_neg (by decide), if_neg (by decide), if_neg (by decide), if_neg (by decide), if_neg (by decide), if_neg (by decide), if_pos rfl, hci]
    exact rrun_c z B r u v nv qb qc lv ls 5 x i W h hg.may (by omega) (hg.pe _ (by rw [hqi]; exact List.getElem_mem _)) hls

/-- Between two ops. -/
def OsI (Wl : World) (z B : Nat) (r : RcS) (qb qc : Nat) (lv0 : Value) (ls : List Int) (l : List (Int × Int × Int)) (i : Nat) (W : World) : Prop :=
  (∃ u v nv lv, VtAt W z B (opsR r (l.take i)) u v nv qb qc lv (ls ++ opsW r (l.take i)) ∧ ∀ g, lv.ownBlock = some g → lv0.ownBlock = some g ∨ Wl.heap.size ≤ g) ∧ Keeps (dS z qb lv0) Wl W ∧ GoodR (opsR r (l.take i)) ∧ (opsR r (l.take i)).qs.length = r.qs.length ∧ opsE r l = opsE (opsR r (l.take i)) (l.drop i) ∧ (opsW r (l.take i)).length ≤ i
theorem opW_len (r : RcS) (o : Int × Int × Int) : (opW r o).length ≤ 1 := by
  unfold opW
  split
  · rw [List.length_take]; omega
  · simp
/-- What ops leave. -/
def OsQ (z B : Nat) (E : Int) (r' : RcS) (ls' : List Int) (e : Ending) (W w' : World) : Prop :=
  Keeps (fun k => k = z ∨ B ≤ k) W w' ∧ ((E ≠ 0 ∧ e = woe E ∧ VtAny w' z) ∨ (E = 0 ∧ e = .returned (.tuple #[]) ∧ ∃ u v nv qb qc lv, VtAt w' z B r' u v nv qb qc lv ls'))
theorem find_miss (k : Int) (hk : ¬ (1 ≤ k ∧ k ≤ 5)) (a b c d e : Value) : Instr.findNow (.int .i64) (.int .i64 k) [⟨.int .i64 1, a, 0⟩, ⟨.int .i64 2, b, 1⟩, ⟨.int .i64 3, c, 2⟩, ⟨.int .i64 4, d, 3⟩, ⟨.int .i64 5, e, 4⟩] 0 = some none := by
  have h1 : (k == 1) = false := by rw [beq_eq_false_iff_ne]; omega
  have h2 : (k == 2) = false := by rw [beq_eq_false_iff_ne]; omega
  have h3 : (k == 3) = false := by rw [beq_eq_false_iff_ne]; omega
  have h4 : (k == 4) = false := by rw [beq_eq_false_iff_ne]; omega
  have h5 : (k == 5) = false := by rw [beq_eq_false_iff_ne]; omega
  simp [Instr.findNow, Instr.sameNow, h1, h2, h3, h4, h5]

set_option maxHeartbeats 32000000 in
theorem rops_c (z B : Nat) (r : RcS) (u v nv : Value) (qb qc : Nat) (lv : Value) (ls : List Int) (ov : Value) (l : List (Int × Int × Int)) (W : World) (h : VtAt W z B r u v nv qb qc lv ls) (hg : GoodR r) (ho : OpsOut (fun k => z ≤ k) W ov l) (hlen : l.length + ls.length ≤ 999999) :
    Calls Tryz.prog 46 #[.pointer (some ⟨z, 0, none⟩), ov] W fun e w' => OsQ z B (opsE r l) (opsR r l) (ls ++ opsW r l) e W w' := by
  have HV := Lib.hid (And.intro h (And.intro hg (And.intro ho hlen)))
  have HZ := Lib.hid (show z < B ∧ B ≤ qb ∧ (∀ g, lv.ownBlock = some g → B ≤ g) ∧ B ≤ W.heap.size from ⟨h.zB, h.qB, fun g hg => (h.lB hg).1, h.BW⟩)
  obtain ⟨op, oc, rfl, -⟩ := ho
  obtain ⟨n, hn⟩ : ∃ n, n = l.length := ⟨_, rfl⟩
  rw [← hn] at HV hlen ⊢
  have HN := Lib.hid (And.intro hn hlen)
  have hnm : n ≤ 999999 := by omega
  clear h hg hn hlen
  go_enter Tryz.func46, Tryz.ntmps46
  go_wp2_with fail
  (with_reducible refine (deedsR_c z W).mono ?_)
  rintro e w1 ⟨⟨rfl, hmap⟩, hb1⟩
  obtain ⟨mb, hmb⟩ : ∃ x, x = W.heap.size := ⟨_, rfl⟩
  rw [← hmb] at hmap ⊢
  have hv1 := HV.out.1.below hb1
  have HI0 := Lib.hid (show OsI w1 z B r qb qc lv ls l 0 w1 from ⟨⟨u, v, nv, lv, by show VtAt w1 z B r u v nv qb qc lv (ls ++ []); rw [List.append_nil]; exact hv1, fun g hg => .inl hg⟩, Keeps.refl _ _, HV.out.2.1, rfl, rfl, Nat.le_refl _⟩)
  have HM := Lib.hid (show w1.heap[mb]? = some (mapD z) ∧ ¬ dS z qb lv mb ∧ Below W.heap.size W w1 ∧ mb < w1.heap.size ∧ OpsOut (fun k => z ≤ k) w1 (.slice op n oc) l from by
    refine ⟨hmap, ?_, hb1, (Array.getElem?_eq_some_iff.1 hmap).1, HV.out.2.2.1.below hb1⟩
    rintro (e | e | e)
    · have := HV.out.1.box.lt; omega
    · have := HV.out.1.row.lt; omega
    · have := (HV.out.1.lB e.symm).2; omega)
  clear hv1 hmap hmb hb1 HV
  go_wp2
  go_loopw [13] (fun iv wr => ∃ i : Nat, i ≤ n ∧ iv = .int .i64 (i : Int) ∧ Hid (OsI w1 z B r qb qc lv ls l i wr)) (fun iv _ => n - (intOf iv).toNat)
  case atStart => exact ⟨0, Nat.zero_le _, rfl, HI0⟩
  case round =>
    clear HI0
    obtain ⟨i, hi, rfl, HI⟩ := hrel
    by_cases hlt : i < n
    · have hil : i < l.length := by have := HN.out.1; omega
      have hol := (HM.out.2.2.2.2.apart (T := dS z qb lv) (fun q hq => .inl (by
        have := HZ.out
        rcases hq with e | e | e
        · omega
        · omega
        · have := HZ.out.2.2.1 q e.symm; omega))).keeps HI.out.2.1
      obtain ⟨p', c', e, hcs⟩ := hol
      injection e with e1 e2 e3
      obtain ⟨b, off, rfl, -, hcs⟩ := hcs (by rintro rfl; simp at hil)
      obtain ⟨hx, hy, hw⟩ := hcs i hil
      subst e1 e3
      obtain ⟨k, hke⟩ : ∃ x, x = l[i].1 := ⟨_, rfl⟩
      obtain ⟨c, hce⟩ : ∃ x, x = l[i].2.1 := ⟨_, rfl⟩
      obtain ⟨x, hxe⟩ : ∃ x, x = l[i].2.2 := ⟨_, rfl⟩
      rw [← hke] at hx
      rw [← hce] at hy
      rw [← hxe] at hw
      have HO := Lib.hid (show l[i] = (k, c, x) by rw [hke, hce, hxe])
      have hbl := World.block_lt_of_cell? wr _ hx
      obtain ⟨zo, hzo⟩ : ∃ x, x = wr.heap.size := ⟨_, rfl⟩
      obtain ⟨w2, hw2⟩ : ∃ X : World, X = wr.alloc (.cells #[.int .i64 k, .int .i64 c, .int .u64 x] 37) := ⟨_, rfl⟩
      have hb2 : Below wr.heap.size wr w2 := by rw [hw2]; exact below1 _ _
      have hob : ABox w2 zo k c x := by rw [hw2, hzo]; exact ABox.new _ _ _ _
      have hmp : w2.heap[mb]? = some (mapD z) := (hb2.block mb (Nat.lt_of_lt_of_le HM.out.2.2.2.1 HI.out.2.1.size)).trans ((HI.out.2.1.block mb HM.out.2.2.2.1 HM.out.2.1).trans HM.out.1)
      have HI2 := Lib.hid (show OsI w1 z B r qb qc lv ls l i w2 from by
        obtain ⟨⟨u, v, nv, lv1, h1, h2⟩, h3, h4⟩ := HI.out
        exact ⟨⟨u, v, nv, lv1, h1.below hb2, h2⟩, h3.trans (Keeps.of_below hb2), h4⟩)
      have HX := Lib.hid (And.intro hob hmp)
      have HW2 := Lib.hid (And.intro hw2 hzo)
      have hi0 : (0 : Int) ≤ (i : Int) := by omega
      have hlt' : (i : Int) < (n : Int) := by omega
      clear hcs e2 hke hce hxe hw2 hzo hb2 hob hmp HI
      go_upto_region 4 with fail
      rw [← HW2.out.1, ← HW2.out.2]
      clear HW2 hx hy hw hbl
      obtain ⟨a0, a1, a2⟩ := HX.out.1.cells
      by_cases hk : 1 ≤ k ∧ k ≤ 5
      · have hl : (Instr.lookup 120 (.map (some mb)) (.int .i64 k) true).run Tryz.prog w2 = .ok (.tuple #[.func (.func (kindK k)) #[.pointer (some ⟨z, 0, none⟩)] #[], .bool true]) w2 := by
          have hk' : k = 1 ∨ k = 2 ∨ k = 3 ∨ k = 4 ∨ k = 5 := by omega
          rcases hk' with rfl | rfl | rfl | rfl | rfl
          · exact emap_get w2 mb 5 1 _ _ 0 HX.out.2 rfl
          · exact emap_get w2 mb 5 2 _ _ 1 HX.out.2 rfl
          · exact emap_get w2 mb 5 3 _ _ 2 HX.out.2 rfl
          · exact emap_get w2 mb 5 4 _ _ 3 HX.out.2 rfl
          · exact emap_get w2 mb 5 5 _ _ 4 HX.out.2 rfl
        have HKK := Lib.hid hk
        obtain ⟨K0, hK0⟩ : ∃ K0, K0 = kindK k := ⟨_, rfl⟩
        rw [← hK0] at hl
        have HK0 := Lib.hid hK0
        obtain ⟨⟨u1, v1, nv1, lv1, hv1, hown1⟩, hkp1, hgr, hln, hop, hwl⟩ := id HI2.out
        obtain ⟨q1, cc1, q2, cc2, q3, cc3, q4, cc4, f1, f2, f3, f4⟩ := hv1.inn.sl
        obtain ⟨N, hN⟩ : ∃ N, N = r.qs.length := ⟨_, rfl⟩
        have hbz := hv1.box
        rw [hln, ← hN] at hbz
        obtain ⟨s, hs⟩ : ∃ s, s = opsR r (l.take i) := ⟨_, rfl⟩
        rw [← hs] at hv1 hgr hln hop hbz f1 f2 f3
        have HS := Lib.hid (show VtAt w2 z B s u1 v1 nv1 qb qc lv1 (ls ++ opsW r (l.take i)) ∧ (∀ g, lv1.ownBlock = some g → lv.ownBlock = some g ∨ w1.heap.size ≤ g) ∧ Keeps (dS z qb lv) w1 w2 ∧ GoodR s ∧ s.qs.length = N ∧ opsE r l = opsE s (l.drop i) ∧ (opsW r (l.take i)).length ≤ i ∧ s = opsR r (l.take i) from ⟨hv1, hown1, hkp1, hgr, hln.trans hN.symm, hop, hwl, hs⟩)
        obtain ⟨na, hna⟩ : ∃ x, x = s.s.ns.length := ⟨_, rfl⟩
        obtain ⟨nb, hnb⟩ : ∃ x, x = s.s.os.length := ⟨_, rfl⟩
        obtain ⟨nc, hnc⟩ : ∃ x, x = s.g.nd.length := ⟨_, rfl⟩
        rw [← hna] at f1
        rw [← hnb] at f2
        rw [← hnc] at f3
        subst f1 f2 f3
        obtain ⟨lp, lc, hlp⟩ := owns_slice hv1.run
        obtain ⟨lm, hlm⟩ : ∃ x, x = (ls ++ opsW r (l.take i)).length := ⟨_, rfl⟩
        rw [← hlm] at hlp
        subst hlp
        have HL := Lib.hid hlm
        have hab := HX.out.1
        have HN2 := Lib.hid hN
        clear hv1 hown1 hkp1 hgr hln hop hwl hs hna hnb hnc hlm hk hK0 HI2 hN f4
        go_upto_region 7 with fail
        clear hl a0 a1 a2
        refine wpTwo_begin (T := fun w' => VtBox w' z s.s.now (.slice q1 na cc1) (.slice q2 nb cc2) s.g.done s.g.asked s.g.on (.slice q3 nc cc3) (.slice (some ⟨qb, 0, none⟩) N qc) (.slice lp lm lc) ∧ ABox w' zo k c x) (S := fun _ => True) (late := fun _ => false) (by kernel_rfl) ?_
        obtain ⟨X, hX⟩ : ∃ Y : World, Y = w2.drew := ⟨_, rfl⟩
        rw [← hX]
        have hbx : Below w2.heap.size w2 X := by rw [hX]; exact (Below.refl _ _).drew
        clear hX
        have hT0 : (fun w' => VtBox w' z s.s.now (.slice q1 na cc1) (.slice q2 nb cc2) s.g.done s.g.asked s.g.on (.slice q3 nc cc3) (.slice (some ⟨qb, 0, none⟩) N qc) (.slice lp lm lc) ∧ ABox w' zo k c x) X := ⟨hbz.below hbx, hab.below hbx⟩
        have HBX := Lib.hid hbx
        clear hbx hbz hab
        refine wpTwo_takeT (i := 0) (v := .pointer (some ⟨z, 0, none⟩)) rfl (by kernel_rfl) (by kernel_rfl) (by kernel_rfl) (fun _ _ _ h => h) ⟨by rfl, ?_⟩ hT0 ?_
        · rintro w ⟨hT1, hT2⟩
          obtain ⟨t0, t1, t2, t3, t4, t5, t6, t7, t8⟩ := hT1.cells
          obtain ⟨s0, s1, s2⟩ := hT2.cells
          go_simp
        (try simp only [Act.put, List.getElem_toArray, List.getElem_cons_zero, List.setIfInBounds_toArray, List.set_cons_succ, List.set_cons_zero])
        refine wpTwo_takeT (i := 1) (v := .pointer (some ⟨z, 0, none⟩)) rfl (by kernel_rfl) (by kernel_rfl) (by kernel_rfl) (fun _ _ _ h => h) ⟨by rfl, ?_⟩ hT0 ?_
        · rintro w ⟨hT1, hT2⟩
          obtain ⟨t0, t1, t2, t3, t4, t5, t6, t7, t8⟩ := hT1.cells
          obtain ⟨s0, s1, s2⟩ := hT2.cells
          go_simp
        (try simp only [Act.put, List.getElem_toArray, List.getElem_cons_succ, List.getElem_cons_zero, List.setIfInBounds_toArray, List.set_cons_succ, List.set_cons_zero])
        refine wpTwo_takeT (i := 2) (v := .pointer (some ⟨z, 0, none⟩)) rfl (by kernel_rfl) (by kernel_rfl) (by kernel_rfl) (fun _ _ _ h => h) ⟨by rfl, ?_⟩ hT0 ?_
        · rintro w ⟨hT1, hT2⟩
          obtain ⟨t0, t1, t2, t3, t4, t5, t6, t7, t8⟩ := hT1.cells
          obtain ⟨s0, s1, s2⟩ := hT2.cells
          go_simp
        (try simp only [Act.put, List.getElem_toArray, List.getElem_cons_succ, List.getElem_cons_zero, List.setIfInBounds_toArray, List.set_cons_succ, List.set_cons_zero])
        refine wpTwo_takeT (i := 3) (v := .agg #[.int .i64 s.s.now, .slice q1 na cc1, .slice q2 nb cc2, .int .i64 s.g.done, .int .i64 s.g.asked, .bool s.g.on, .slice q3 nc cc3, .slice (some ⟨qb, 0, none⟩) N qc]) rfl (by kernel_rfl) (by kernel_rfl) (by kernel_rfl) (fun _ _ _ h => h) ⟨by rfl, ?_⟩ hT0 ?_
        · rintro w ⟨hT1, hT2⟩
          obtain ⟨t0, t1, t2, t3, t4, t5, t6, t7, t8⟩ := hT1.cells
          obtain ⟨s0, s1, s2⟩ := hT2.cells
          go_simp
        (try simp only [Act.put, List.getElem_toArray, List.getElem_cons_succ, List.getElem_cons_zero, List.setIfInBounds_toArray, List.set_cons_succ, List.set_cons_zero])
        refine wpTwo_takeT (i := 4) (v := .pointer (some ⟨zo, 1, none⟩)) rfl (by kernel_rfl) (by kernel_rfl) (by kernel_rfl) (fun _ _ _ h => h) ⟨by rfl, ?_⟩ hT0 ?_
        · rintro w ⟨hT1, hT2⟩
          obtain ⟨t0, t1, t2, t3, t4, t5, t6, t7, t8⟩ := hT1.cells
          obtain ⟨s0, s1, s2⟩ := hT2.cells
          go_simp
        (try simp only [Act.put, List.getElem_toArray, List.getElem_cons_succ, List.getElem_cons_zero, List.setIfInBounds_toArray, List.set_cons_succ, List.set_cons_zero])
        refine wpTwo_takeT (i := 5) (v := .int .i64 c) rfl (by kernel_rfl) (by kernel_rfl) (by kernel_rfl) (fun _ _ _ h => h) ⟨by rfl, ?_⟩ hT0 ?_
        · rintro w ⟨hT1, hT2⟩
          obtain ⟨t0, t1, t2, t3, t4, t5, t6, t7, t8⟩ := hT1.cells
          obtain ⟨s0, s1, s2⟩ := hT2.cells
          go_simp
        (try simp only [Act.put, List.getElem_toArray, List.getElem_cons_succ, List.getElem_cons_zero, List.setIfInBounds_toArray, List.set_cons_succ, List.set_cons_zero])
        have HC := Lib.hid (rhas_c s.s.now s.g.done s.g.asked c s.g.on (.slice q1 na cc1) (.slice q2 nb cc2) (.slice q3 nc cc3) (some ⟨qb, 0, none⟩) N qc X)
        refine wpTwo_ready (rs := [6]) (by kernel_rfl) (by simp) ?_
        refine (AllTwo.cons rfl (fun K hK => ?_) AllTwo.nil)
        go_simp
        (with_reducible refine HC.out.mono ?_)
        rintro e X1 ⟨rfl, hb1⟩
        have hT1 : (fun w' => VtBox w' z s.s.now (.slice q1 na cc1) (.slice q2 nb cc2) s.g.done s.g.asked s.g.on (.slice q3 nc cc3) (.slice (some ⟨qb, 0, none⟩) N qc) (.slice lp lm lc) ∧ ABox w' zo k c x) X1 := ⟨hT0.1.below hb1, hT0.2.below hb1⟩
        have HX1 := Lib.hid (below_then HBX.out HBX.out.size hb1)
        clear hb1 HC hT0 HBX
        go_wp2_with fail
        refine hK.out _ _ ⟨hT1, fun _ _ => trivial⟩ ?_
        clear hK K
        (try simp only [Act.put, List.getElem_toArray, List.getElem_cons_succ, List.getElem_cons_zero, List.setIfInBounds_toArray, List.set_cons_succ, List.set_cons_zero])
        refine wpTwo_takeT (i := 7) (v := .bool (!(hasB N c))) rfl (by kernel_rfl) (by kernel_rfl) (by kernel_rfl) (fun _ _ _ h => h) ⟨by rfl, ?_⟩ hT1 ?_
        · intro w _
          go_simp
        (try simp only [Act.put, List.getElem_toArray, List.getElem_cons_succ, List.getElem_cons_zero, List.setIfInBounds_toArray, List.set_cons_succ, List.set_cons_zero])
        refine wpTwo_takeT (i := 8) (v := .bool (!(hasB N c))) rfl (by kernel_rfl) (by kernel_rfl) (by kernel_rfl) (fun _ _ _ h => h) ⟨by rfl, ?_⟩ hT1 ?_
        · intro w _
          go_simp
        (try simp only [Act.put, List.getElem_toArray, List.getElem_cons_succ, List.getElem_cons_zero, List.setIfInBounds_toArray, List.set_cons_succ, List.set_cons_zero])
        refine wpTwo_end (by kernel_rfl) ?_ _
        cases hh : hasB N c with
        | false =>
          have HF := Lib.hid (show OsQ z B (opsE r l) (opsR r l) (ls ++ opsW r l) (woe 2) W X1 from by
            obtain ⟨h1, -, h3, -, h4, h5, -, h6⟩ := HS.out
            have hE : opsE r l = 2 := by
              rw [h5, h6, opsE_drop r l i hil, ← h6]
              have : opE s l[i] = 2 := by rw [HO.out]; unfold opE; rw [if_neg (fun h => h HKK.out), h4, if_pos hh]
              rw [this, if_neg (by decide)]
            refine ⟨keeps_then (Keeps.of_below HM.out.2.2.1) (h3.trans (Keeps.of_below HX1.out)) (fun b _ e => ?_), .inl ⟨by rw [hE]; decide, by rw [hE], (h1.below HX1.out).any⟩⟩
            have := HZ.out
            rcases e with e | e | e
            · exact .inl e
            · exact .inr (by omega)
            · exact .inr (HZ.out.2.2.1 b e.symm))
          clear hh hT1 HS
          go_wp2
          exact ⟨rfl, HF.out⟩
        | true =>
          have hls : (ls ++ opsW r (l.take i)).length ≤ 999999 := by rw [List.length_append]; have := HS.out.2.2.2.2.2.2.1; have := HN.out.2; omega
          have HC := Lib.hid (show Calls Tryz.prog K0 #[.pointer (some ⟨z, 0, none⟩), .agg #[.int .i64 k, .int .i64 c, .int .u64 x]] X1 fun e w' => OpQ z B (opE s (k, c, x)) (opR s (k, c, x)) ((ls ++ opsW r (l.take i)) ++ opW s (k, c, x)) qb qc (.slice lp lm lc) e X1 w' by
            rw [HK0.out]
            exact kind_c z B s _ _ _ qb qc _ _ k c x X1 (HS.out.1.below HX1.out) HS.out.2.2.2.1 HKK.out (by rw [HS.out.2.2.2.2.1]; exact hh) hls)
          obtain ⟨a0, a1, a2⟩ := hT1.2.cells
          have hcf : ∀ (args : Array Value) (w : World), (callFunc K0 args).run Tryz.prog w = .ok (.enter K0 args) w := by
            intro args w
            rw [HK0.out]
            have hk5 := HKK.out
            have hk' : k = 1 ∨ k = 2 ∨ k = 3 ∨ k = 4 ∨ k = 5 := by omega
            clear HC a0 a1 a2
            rcases hk' with rfl | rfl | rfl | rfl | rfl <;> rfl
          clear hh hls hT1
          go_wp2_with fail
          (with_reducible refine HC.out.mono ?_)
          rintro e w5 ⟨hk5, ⟨hE, rfl, hany⟩ | ⟨hE, rfl, u5, v5, nv5, lv5, hv5, ho5⟩⟩
          · have HF := Lib.hid (show OsQ z B (opsE r l) (opsR r l) (ls ++ opsW r l) (woe (opE s (k, c, x))) W w5 from by
              obtain ⟨h1, h2, h3, -, -, h5, -, h6⟩ := HS.out
              have hEE : opsE r l = opE s (k, c, x) := by
                rw [h5, h6, opsE_drop r l i hil, ← h6, HO.out, if_neg hE]
              refine ⟨keeps_then (keeps_then (Keeps.of_below HM.out.2.2.1) (h3.trans (Keeps.of_below HX1.out)) (fun b _ e => by have := HZ.out; rcases e with e | e | e; exact .inl e; exact .inr (by omega); exact .inr (HZ.out.2.2.1 b e.symm))) hk5 (fun b hb e => ?_), .inl ⟨by rw [hEE]; exact hE, by rw [hEE], hany⟩⟩
              have := HZ.out
              rcases e with e | e | e
              · exact .inl e
              · exact .inr (by omega)
              · exact .inr ((h2 b e.symm).elim (fun h => HZ.out.2.2.1 b h) (fun h => by have := HM.out.2.2.1.size; omega)))
            exact ⟨rfl, HF.out⟩
          · have HN5 := Lib.hid (show OsI w1 z B r qb qc lv ls l (i + 1) w5 from by
              obtain ⟨h1, h2, h3, h4, h44, h5, h55, h6⟩ := HS.out
              have ht := opsR_snoc r l i hil
              rw [← h6, HO.out] at ht
              have hw := opsW_snoc r l i hil
              rw [← h6, HO.out] at hw
              refine ⟨⟨u5, v5, nv5, lv5, by rw [ht, hw, ← List.append_assoc]; exact hv5, fun g hg => ?_⟩, keeps_then (h3.trans (Keeps.of_below HX1.out)) hk5 (fun b hb e => ?_), by rw [ht]; exact h4.op hE, by rw [ht, opR_len, h44, HN2.out], by rw [ht, h5, h6, opsE_drop r l i hil, ← h6, HO.out, if_pos hE, ← HO.out, h6, ← opsR_snoc r l i hil], by rw [hw, List.length_append]; have := opW_len s (k, c, x); omega⟩
              · rcases ho5 g hg with h | h
                · exact h2 g h
                · right; have := h3.size; have := HX1.out.size; omega
              · rcases e with e | e | e
                · exact .inl e
                · exact .inr (.inl e)
                · exact (h2 b e.symm).elim (fun h => .inr (.inr h.symm)) (fun h => by omega))
            clear hv5 ho5 hk5 hE
            go_wp2
            go_roundw
            case rel => exact ⟨i + 1, by omega, by go_num, HN5⟩
            case measure => simp [intOf]; omega
      · have hl : (Instr.lookup 120 (.map (some mb)) (.int .i64 k) true).run Tryz.prog w2 = .ok (.tuple #[.nilFunc, .bool false]) w2 := emap_miss w2 mb 5 k _ HX.out.2 (find_miss k hk _ _ _ _ _)
        have HF := Lib.hid (show OsQ z B (opsE r l) (opsR r l) (ls ++ opsW r l) (woe 242) W w2 from by
          obtain ⟨⟨u1, v1, nv1, lv1, h1, -⟩, h3, -, -, h5, -⟩ := HI2.out
          have hE : opsE r l = 242 := by
            rw [h5, opsE_drop r l i hil]
            have : opE (opsR r (l.take i)) l[i] = 242 := by rw [HO.out]; unfold opE; rw [if_pos hk]
            rw [this, if_neg (by decide)]
          refine ⟨keeps_then (Keeps.of_below HM.out.2.2.1) h3 (fun b _ e => ?_), .inl ⟨by rw [hE]; decide, by rw [hE], h1.any⟩⟩
          have := HZ.out
          rcases e with e | e | e
          · exact .inl e
          · exact .inr (by omega)
          · exact .inr (HZ.out.2.2.1 b e.symm))
        clear hk HI2 HX
        go_wp2
        exact ⟨rfl, HF.out⟩
    · obtain rfl : i = n := by omega
      have HF := Lib.hid (show OsQ z B (opsE r l) (opsR r l) (ls ++ opsW r l) (.returned (.tuple #[])) W wr from by
        obtain ⟨⟨u1, v1, nv1, lv1, h1, -⟩, h3, -, -, h5, -⟩ := HI.out
        rw [HN.out.1, List.take_length] at h1
        rw [HN.out.1, List.take_length, List.drop_length] at h5
        refine ⟨keeps_then (Keeps.of_below HM.out.2.2.1) h3 (fun b _ e => ?_), .inr ⟨h5, rfl, _, _, _, _, _, _, h1⟩⟩
        have := HZ.out
        rcases e with e | e | e
        · exact .inl e
        · exact .inr (by omega)
        · exact .inr (HZ.out.2.2.1 b e.symm))
      clear HI hlt hi
      go_wp2
      go_end0
      exact HF.out

end Go.Proofs.YtdllhiihmpinoaaGreat
/-
  Package rcu: Run, Step.
  Conditions: the ranges of Go's types.
-/
namespace Go.Proofs.YtdllhiihmpinoaaGreat
set_option maxRecDepth 100000
open Go.RowKit Go.Shelf
attribute [local go_sem] Oper.semAt_some

def runAE (r : RcS) (l : List (Int × Int × Int)) : Int := if rmayB r = true then opsE r l else 240
set_option maxHeartbeats 16000000 in
theorem run1_c (z rb lb : Nat) (r : RcS) (u v nv qv ov : Value) (l : List (Int × Int × Int)) (W : World) (kb : VtBox W z 0 nilV nilV 0 0 false nilV nilV nilV) (hz : z + 2 ≤ W.heap.size) (hrb : RcBox W rb r.s.now u v r.g.done r.g.asked r.g.on nv qv) (hlb : Boxed W lb 31 ov) (hrz : rb < z) (hlz : lb < z)
    (hi : RcIn (fun k => z ≤ k) W u v nv qv r) (hr : RcR r) (ho : OpsOut (fun k => z ≤ k) W ov l) (hl : l.length ≤ 999999) :
    Calls Tryz.prog 44 #[.pointer (some ⟨z, 0, none⟩), .pointer (some ⟨rb, 0, none⟩), .pointer (some ⟨lb, 0, none⟩)] W fun e w' => OsQ z (z + 2) (runAE r l) (opsR r l) (opsW r l) e W w' := by
  obtain ⟨d0, d1, d2, d3, d4, d5, d6, d7⟩ := hrb.cells
  have HX := Lib.hid (And.intro hlb (And.intro hrz (And.intro hlz (And.intro ho (And.intro hl kb)))))
  cases hm : rmayB r with
  | false =>
    have HC := Lib.hid (rhold_no z r u v nv qv W hi.noS hr hm)
    have HE := Lib.hid (show runAE r l = 240 by unfold runAE; rw [hm]; rfl)
    obtain ⟨p1, c1, p2, c2, p3, c3, p4, c4, rfl, rfl, rfl, rfl⟩ := hi.sl
    clear hm hi hr ho hl hlb kb hrb hrz hlz
    go_enter Tryz.func44, Tryz.ntmps44
    go_wp2_with fail
    (with_reducible refine HC.out.mono ?_)
    rintro e w1 ⟨rfl, hb1⟩
    exact ⟨rfl, Keeps.of_below hb1, .inl ⟨by rw [HE.out]; decide, by rw [HE.out]; rfl, VtAny.keeps ⟨_, _, _, _, _, _, _, _, _, HX.out.2.2.2.2.2, nil_sl, nil_sl, nil_sl, nil_sl, nil_sl⟩ (Keeps.of_below (S := fun _ => False) hb1) id⟩⟩
  | true =>
    have HC := Lib.hid (rhold_ok z (z + 2) r u v nv qv W kb hi hr hm (by omega) hz)
    have HE := Lib.hid (show runAE r l = opsE r l ∧ GoodR r from ⟨by unfold runAE; rw [if_pos hm], hm, hr.pe⟩)
    obtain ⟨p1, c1, p2, c2, p3, c3, p4, c4, rfl, rfl, rfl, rfl⟩ := hi.sl
    obtain ⟨op, oc, rfl, -⟩ := id ho
    clear hm hi hr ho hl hlb kb hrb hrz hlz
    go_enter Tryz.func44, Tryz.ntmps44
    go_wp2_with fail
    (with_reducible refine HC.out.mono ?_)
    rintro e w1 ⟨rfl, hk1, u1, v1, nv1, qb, qc, hv1⟩
    have hlb1 : Boxed w1 lb 31 (.slice op l.length oc) := (hk1.block lb HX.out.1.lt (by have := HX.out.2.2.1; omega)).trans HX.out.1
    have HO := Lib.hid (rops_c z (z + 2) r u1 v1 nv1 qb qc nilV [] (.slice op l.length oc) l w1 hv1 HE.out.2 ((HX.out.2.2.2.1).keeps (hk1.sub fun k _ e => by omega)) (by have := HX.out.2.2.2.2.1; simp only [List.length_nil]; omega))
    have HK := Lib.hid hk1
    have e0 := hlb1.cell
    clear hk1 hv1 hlb1 HC d0 d1 d2 d3 d4 d5 d6 d7
    go_wp2_with fail
    (with_reducible refine HO.out.mono ?_)
    rintro e w2 ⟨hk2, ⟨h1, rfl, h3⟩ | ⟨h1, rfl, h3⟩⟩
    · exact ⟨rfl, (HK.out.sub fun k _ e => .inl e).trans hk2, .inl ⟨by rw [HE.out.1]; exact h1, by rw [HE.out.1]; rfl, h3⟩⟩
    · have HF := Lib.hid (show OsQ z (z + 2) (runAE r l) (opsR r l) (opsW r l) (.returned (.tuple #[])) W w2 from ⟨(HK.out.sub fun k _ e => .inl e).trans hk2, .inr ⟨by rw [HE.out.1]; exact h1, rfl, h3⟩⟩)
      clear hk2 h1 h3
      go_wp2
      go_end0
      exact HF.out

/-- What a turn's function answers. -/
def AnsX (B : Nat) (E : Int) (r' : RcS) (ws : List Int) (now : Int) (u v : Value) (d a : Int) (on : Bool) (nv qv lv : Value) (x : Int) (X : World) : Prop :=
  (IsSl u ∧ IsSl v ∧ IsSl nv ∧ IsSl qv ∧ IsSl lv) ∧ ((E ≠ 0 ∧ x = E ∧ now = 0 ∧ u = nilV ∧ v = nilV ∧ d = 0 ∧ a = 0 ∧ on = false ∧ nv = nilV ∧ qv = nilV ∧ lv = nilV) ∨
    (E = 0 ∧ x = 0 ∧ now = r'.s.now ∧ d = r'.g.done ∧ a = r'.g.asked ∧ on = r'.g.on ∧ RcIn (fun k => k < B) X u v nv qv r' ∧ X.ownsRow B 35 1 lv ws.length (ws.map (Value.int .u64))))
theorem AnsX.below {B : Nat} {E : Int} {r' : RcS} {ws : List Int} {now : Int} {u v : Value} {d a : Int} {on : Bool} {nv qv lv : Value} {x : Int} {X Y : World} (h : AnsX B E r' ws now u v d a on nv qv lv x X) (hb : Below X.heap.size X Y) : AnsX B E r' ws now u v d a on nv qv lv x Y := by
  obtain ⟨hs, h | ⟨h1, h2, h3, h4, h5, h6, h7, h8⟩⟩ := h
  · exact ⟨hs, .inl h⟩
  · exact ⟨hs, .inr ⟨h1, h2, h3, h4, h5, h6, h7.below hb, owns_below h8 hb⟩⟩
theorem AnsX.keeps {B : Nat} {E : Int} {r' : RcS} {ws : List Int} {now : Int} {u v : Value} {d a : Int} {on : Bool} {nv qv lv : Value} {x : Int} {X Y : World} {S : Nat → Prop} (h : AnsX B E r' ws now u v d a on nv qv lv x X) (hk : Keeps S X Y) (hS : ∀ k, S k → k < B) : AnsX B E r' ws now u v d a on nv qv lv x Y := by
  obtain ⟨hs, h | ⟨h1, h2, h3, h4, h5, h6, h7, h8⟩⟩ := h
  · exact ⟨hs, .inl h⟩
  · exact ⟨hs, .inr ⟨h1, h2, h3, h4, h5, h6, h7.keeps (hk.sub fun k _ e => hS k e), hk.row h8 (fun g hg e => by have := (h8.lt g hg).1; have := hS g e; omega)⟩⟩
theorem AnsX.mono {B B' : Nat} {E : Int} {r' : RcS} {ws : List Int} {now : Int} {u v : Value} {d a : Int} {on : Bool} {nv qv lv : Value} {x : Int} {X : World} (h : AnsX B E r' ws now u v d a on nv qv lv x X) (hB : B' ≤ B) : AnsX B' E r' ws now u v d a on nv qv lv x X := by
  obtain ⟨hs, h | ⟨h1, h2, h3, h4, h5, h6, h7, h8⟩⟩ := h
  · exact ⟨hs, .inl h⟩
  · exact ⟨hs, .inr ⟨h1, h2, h3, h4, h5, h6, h7.apart (fun q hq => .inl (Nat.lt_of_lt_of_le hq hB)), h8.mono hB⟩⟩
/-- What a turn behind ops answers, out of what these leave. -/
theorem tried_ans (K : Nat) (caps : Array Value) (W : World) (hcf : ∀ (args : Array Value) (w : World), (callFunc K args).run Tryz.prog w = .ok (.enter K args) w) (E : Int) (r' : RcS) (ws : List Int)
    (C : ∀ W0, VtBox W0 W.heap.size 0 nilV nilV 0 0 false nilV nilV nilV → W.heap.size + 2 ≤ W0.heap.size → Below W.heap.size W W0 → Calls Tryz.prog K (#[.pointer (some ⟨W.heap.size, 0, none⟩)] ++ caps) W0 fun e w' => OsQ W.heap.size (W.heap.size + 2) E r' ws e W0 w') :
    Calls Tryz.prog 43 #[.func (.func K) #[] caps] W fun e w' => (∃ now u v d a on nv qv lv x, e = .returned (.tuple #[.agg #[.int .i64 now, u, v, .int .i64 d, .int .i64 a, .bool on, nv, qv, lv], .int .i64 x]) ∧ AnsX (W.heap.size + 2) E r' ws now u v d a on nv qv lv x w') ∧ Below W.heap.size W w' := by
  obtain ⟨f1, f2, f3, f4⟩ := vWT_facts W
  refine (vTried_K K caps W hcf (fun t x X => ∃ now u v d a on nv qv lv, t = .agg #[.int .i64 now, u, v, .int .i64 d, .int .i64 a, .bool on, nv, qv, lv] ∧ AnsX (W.heap.size + 2) E r' ws now u v d a on nv qv lv x X) ((C (vWT W) f1 (by omega) f3).mono ?_)).mono ?_
  · rintro e w' ⟨hk, h⟩
    have hB : Below W.heap.size W w' := f3.trans (hk.below f3.size (fun k e => by omega))
    have he : Boxed w' (W.heap.size + 1) 39 (.int .i64 0) := (hk.block _ f2.lt (by omega)).trans f2
    refine ⟨hB, ?_⟩
    rcases h with ⟨h1, rfl, now, u, v, d, a, on, nv, qv, lv, h2, h3⟩ | ⟨h1, rfl, u, v, nv, qb, qc, lv, hv⟩
    · exact ⟨now, u, v, d, a, on, nv, qv, lv, h2, h3, he, .inl ⟨E, rfl, fun X _ => ⟨0, nilV, nilV, 0, 0, false, nilV, nilV, nilV, rfl, ⟨nil_sl, nil_sl, nil_sl, nil_sl, nil_sl⟩, .inl ⟨h1, rfl, rfl, rfl, rfl, rfl, rfl, rfl, rfl, rfl, rfl⟩⟩⟩⟩
    · refine ⟨_, _, _, _, _, _, _, _, _, hv.box, ⟨hv.sl.1, hv.sl.2.1, hv.sl.2.2.1, ⟨_, _, _, rfl⟩, hv.sl.2.2.2⟩, he, .inr ⟨rfl, fun X hX => ⟨_, _, _, _, _, _, _, _, _, rfl, ⟨hv.sl.1, hv.sl.2.1, hv.sl.2.2.1, ⟨_, _, _, rfl⟩, hv.sl.2.2.2⟩, .inr ⟨h1, rfl, rfl, rfl, rfl, rfl, hv.inn.keeps (hX.sub fun k _ e => by omega), hX.row hv.run (fun g hg e => by have := (hv.lB hg).1; omega)⟩⟩⟩⟩
  · rintro e w' ⟨⟨t, x, rfl, now, u, v, d, a, on, nv, qv, lv, rfl, hA⟩, hB⟩
    exact ⟨⟨now, u, v, d, a, on, nv, qv, lv, x, rfl, hA⟩, hB⟩

theorem results_cttt {fn : Func} {a b c : Tmp} {t : TypeId} (h : fn.results = #[.cell a t, .tmp b, .tmp c]) (tmps : Array Value) (P : Program) (w : World) {p : Addr} {x y z : Value} (ha : tmps.getD a undef = .pointer (some p)) (hb : tmps.getD b undef = y) (hc : tmps.getD c undef = z)
    (hx : (loadVar t p).run P w = .ok x w) : (results fn tmps).run P w = .ok (.tuple #[x, y, z]) w := by
  unfold results
  rw [h]
  simp only [Array.mapM_eq_foldlM, List.foldlM_toArray, List.foldlM_cons, List.foldlM_nil, ha, hb, hc, asAddr, run_fmap, Sem.run_bind, Sem.run_pure, Result.andThen_ok, hx]
  rfl

/-- What Run answers. -/
def RunQ2 (B : Nat) (E : Int) (r' : RcS) (ws : List Int) (e : Ending) (w' : World) : Prop := ∃ now u v d a on nv qv lv x, e = .returned (.tuple #[.agg #[.int .i64 now, u, v, .int .i64 d, .int .i64 a, .bool on, nv, qv], lv, .int .i64 x]) ∧ AnsX B E r' ws now u v d a on nv qv lv x w'

set_option maxHeartbeats 32000000 in
theorem rRun_c (r : RcS) (u v nv qv ov : Value) (l : List (Int × Int × Int)) (W : World) (hi : RcIn U.NoS W u v nv qv r) (hr : RcR r) (ho : OpsOut U.NoS W ov l) (hl : l.length ≤ 999999) :
    Calls Tryz.prog 15 #[.agg #[.int .i64 r.s.now, u, v, .int .i64 r.g.done, .int .i64 r.g.asked, .bool r.g.on, nv, qv], ov] W fun e w' => RunQ2 W.heap.size (runAE r l) (opsR r l) (opsW r l) e w' ∧ Below W.heap.size W w' := by
  have hmf : ∀ (fn : Fn) (first cap : Array Value) (w : World), (Instr.makeFunc fn first cap).run Tryz.prog w = .ok (.func fn first cap) w := fun _ _ _ _ => rfl
  obtain ⟨wa, hwa⟩ : ∃ X : World, X = W.alloc (.cells #[.int .i64 r.s.now, u, v, .int .i64 r.g.done, .int .i64 r.g.asked, .bool r.g.on, nv, qv] 30) := ⟨_, rfl⟩
  obtain ⟨wb, hwb⟩ : ∃ X : World, X = wa.alloc (.cells #[ov] 31) := ⟨_, rfl⟩
  obtain ⟨w0, hw0⟩ : ∃ X : World, X = wb.alloc (.cells #[.int .i64 0, .slice none 0 0, .slice none 0 0, .int .i64 0, .int .i64 0, .bool false, .slice none 0 0, .slice none 0 0] 30) := ⟨_, rfl⟩
  obtain ⟨-, ba, xa⟩ := rc_boxed hi hwa
  have bb : Below wa.heap.size wa wb := by rw [hwb]; exact below1 _ _
  have b0 : Below wb.heap.size wb w0 := by rw [hw0]; exact below1 _ _
  have sa : wa.heap.size = W.heap.size + 1 := by rw [hwa]; simp
  have sb : wb.heap.size = W.heap.size + 2 := by rw [hwb, World.size_alloc, sa]
  have s0 : w0.heap.size = W.heap.size + 3 := by rw [hw0, World.size_alloc, sb]
  have hbW := below_then (below_then ba ba.size bb) (below_then ba ba.size bb).size b0
  have xb : Boxed w0 (W.heap.size + 1) 31 ov := by
    have : Boxed wb wa.heap.size 31 ov := by rw [hwb]; exact Boxed.new _ _ _
    rw [sa] at this
    exact boxed_bw this b0
  have x0 : RcBox w0 (W.heap.size + 1 + 1) 0 nilV nilV 0 0 false nilV nilV := by
    have : RcBox w0 wb.heap.size 0 nilV nilV 0 0 false nilV nilV := by rw [hw0]; exact RcBox.new _ _ _ _ _ _ _ _ _
    rwa [sb] at this
  have HF := Lib.hid (show RcBox w0 (W.heap.size + 1 + 1) 0 nilV nilV 0 0 false nilV nilV ∧ Below W.heap.size W w0 ∧ w0.heap.size = W.heap.size + 3 from ⟨x0, hbW, s0⟩)
  have HT := Lib.hid (tried_ans 44 #[.pointer (some ⟨W.heap.size, 0, none⟩), .pointer (some ⟨W.heap.size + 1, 0, none⟩)] w0 (fun _ _ => rfl) (runAE r l) (opsR r l) (opsW r l) (fun W0 kb hz hb => by
    have h1 := below_then hbW hbW.size hb
    exact run1_c w0.heap.size W.heap.size (W.heap.size + 1) r u v nv qv ov l W0 kb hz (((xa.below bb).below b0).below hb) (boxed_bw xb hb) (by omega) (by omega)
      (((hi.apart (T := fun k => w0.heap.size ≤ k) (fun q hq => .inr (by omega)))).below h1) hr ((ho.apart (T := fun k => w0.heap.size ≤ k) (fun q hq => .inr (by omega))).below h1) hl))
  obtain ⟨p1, c1, p2, c2, p3, c3, p4, c4, rfl, rfl, rfl, rfl⟩ := hi.sl
  obtain ⟨op, oc, rfl, -⟩ := id ho
  have HW := Lib.hid (show w0 = ((W.alloc (.cells #[.int .i64 r.s.now, .slice p1 r.s.ns.length c1, .slice p2 r.s.os.length c2, .int .i64 r.g.done, .int .i64 r.g.asked, .bool r.g.on, .slice p3 r.g.nd.length c3, .slice p4 r.qs.length c4] 30)).alloc (.cells #[.slice op l.length oc] 31)).alloc (.cells #[.int .i64 0, .slice none 0 0, .slice none 0 0, .int .i64 0, .int .i64 0, .bool false, .slice none 0 0, .slice none 0 0] 30) by rw [hw0, hwb, hwa])
  clear hi hr ho hl hwa hwb hw0 ba xa bb b0 sa sb s0 hbW xb x0
  go_enter Tryz.func15, Tryz.ntmps15
  go_upto_region 1 with fail
  rw [← HW.out]
  clear HW
  go_wp2_with fail
  (with_reducible refine HT.out.mono ?_)
  rintro e w1 ⟨⟨now, u, v, d, a, on, nv, qv, lv, x, rfl, hA⟩, hb1⟩
  obtain ⟨⟨q1, m1, e1, rfl⟩, ⟨q2, m2, e2, rfl⟩, ⟨q3, m3, e3, rfl⟩, ⟨q4, m4, e4, rfl⟩, ⟨q5, m5, e5, rfl⟩⟩ := hA.1
  obtain ⟨z7, hz7⟩ : ∃ x, x = w1.heap.size := ⟨_, rfl⟩
  obtain ⟨w2, hw2⟩ : ∃ X : World, X = w1.alloc (.cells #[.int .i64 now, .slice q1 m1 e1, .slice q2 m2 e2, .int .i64 d, .int .i64 a, .bool on, .slice q3 m3 e3, .slice q4 m4 e4, .slice q5 m5 e5] 91) := ⟨_, rfl⟩
  have hb2 : Below w1.heap.size w1 w2 := by rw [hw2]; exact below1 _ _
  have hv2 : VtBox w2 z7 now (.slice q1 m1 e1) (.slice q2 m2 e2) d a on (.slice q3 m3 e3) (.slice q4 m4 e4) (.slice q5 m5 e5) := by rw [hw2, hz7]; exact VtBox.new _ _ _ _ _ _ _ _ _ _
  have hx2 := (HF.out.1.below hb1).below hb2
  have hB2 := below_then (below_then HF.out.2.1 HF.out.2.1.size hb1) (below_then HF.out.2.1 HF.out.2.1.size hb1).size hb2
  have hz27 : W.heap.size + 2 < z7 := by rw [hz7]; have := hb1.size; have := HF.out.2.2; omega
  obtain ⟨w3, hw3⟩ : ∃ X : World, X = ((((((((w2.setCell ⟨W.heap.size + 1 + 1, 0, none⟩ (.int .i64 now)).setCell ⟨W.heap.size + 1 + 1, 1, none⟩ (.slice q1 m1 e1)).setCell ⟨W.heap.size + 1 + 1, 2, none⟩ (.slice q2 m2 e2)).setCell ⟨W.heap.size + 1 + 1, 3, none⟩ (.int .i64 d)).setCell ⟨W.heap.size + 1 + 1, 4, none⟩ (.int .i64 a)).setCell ⟨W.heap.size + 1 + 1, 5, none⟩ (.bool on)).setCell ⟨W.heap.size + 1 + 1, 6, none⟩ (.slice q3 m3 e3)).setCell ⟨W.heap.size + 1 + 1, 7, none⟩ (.slice q4 m4 e4)) := ⟨_, rfl⟩
  have hput := hx2.putAll now (.slice q1 m1 e1) (.slice q2 m2 e2) d a on (.slice q3 m3 e3) (.slice q4 m4 e4)
  have hkp := RcBox.putAllK w2 (W.heap.size + 1 + 1) now (.slice q1 m1 e1) (.slice q2 m2 e2) d a on (.slice q3 m3 e3) (.slice q4 m4 e4)
  rw [← hw3] at hput hkp
  have HR := Lib.hid (show RcBox w3.drew (W.heap.size + 1 + 1) now (.slice q1 m1 e1) (.slice q2 m2 e2) d a on (.slice q3 m3 e3) (.slice q4 m4 e4) ∧ Below W.heap.size W w3.drew ∧ AnsX W.heap.size (runAE r l) (opsR r l) (opsW r l) now (.slice q1 m1 e1) (.slice q2 m2 e2) d a on (.slice q3 m3 e3) (.slice q4 m4 e4) (.slice q5 m5 e5) x w3.drew from
    ⟨hput.below ((Below.refl _ _).drew), (hB2.trans (hkp.below hB2.size (fun k e => by omega))).drew, ((((hA.below hb2).keeps hkp (fun k e => by have := HF.out.2.2; omega)).mono (by have := HF.out.2.2; omega))).below ((Below.refl _ _).drew)⟩)
  obtain ⟨t0, t1, t2, t3, t4, t5, t6, t7, t8⟩ := hv2.cells
  obtain ⟨d0, d1, d2, d3, d4, d5, d6, d7⟩ := hx2.cells
  have k0 := hx2.marks 0
  have k1 := hx2.marks 1
  have k2 := hx2.marks 2
  have k3 := hx2.marks 3
  have k4 := hx2.marks 4
  have k5 := hx2.marks 5
  have k6 := hx2.marks 6
  have k7 := hx2.marks 7
  have hne : ¬ z7 = W.heap.size + 1 + 1 := by omega
  unfold nilV at d1 d2 d6 d7
  have HW2 := Lib.hid (And.intro hw2 (And.intro hz7 hw3))
  clear hb2 hv2 hx2 hB2 hput hkp hA hb1 hw2 hz7 hw3 HT hz27
  go_upto_region 2 with fail
  rw [← HW2.out.1, ← HW2.out.2.1]
  go_region
  go_wp2
  rw [← HW2.out.2.2]
  refine bodyPost_ret (v := .tuple #[.agg #[.int .i64 now, .slice q1 m1 e1, .slice q2 m2 e2, .int .i64 d, .int .i64 a, .bool on, .slice q3 m3 e3, .slice q4 m4 e4], .slice q5 m5 e5, .int .i64 x]) (results_cttt rfl _ _ _ rfl rfl rfl HR.out.1.load) rfl ⟨⟨_, _, _, _, _, _, _, _, _, _, rfl, HR.out.2.2⟩, HR.out.2.1⟩

end Go.Proofs.YtdllhiihmpinoaaGreat
/-
  Package reader: New, and where its rows lie.
  Conditions: none.
-/
namespace Go.Proofs.YtdllhiihmpinoaaGreat
set_option maxRecDepth 100000
open Go.RowKit Go.Shelf
attribute [local go_sem] Oper.semAt_some

theorem newV_fin (n : Nat) (w1 : World) (W : World) (z : Nat) (g h : Nat) (hR : RBox w1 z 0 (.slice none 0 0) (.slice none 0 0)) (hB : Below W.heap.size W w1) (hz : W.heap.size ≤ z) (hgh : (g = w1.heap.size ∧ h = w1.heap.size + 1) ∨ (g = w1.heap.size + 1 ∧ h = w1.heap.size)) :
    ∀ X : World, X = (((((w1.setCell ⟨z, 0, none⟩ (.int .i64 0)).setCell ⟨z, 1, none⟩ (.slice (some ⟨g, 0, none⟩) n n)).setCell ⟨z, 2, none⟩ (.slice (some ⟨h, 0, none⟩) n n)).alloc (.cells (Array.replicate n (Value.int .i64 0)) 3)).alloc (.cells (Array.replicate n (Value.int .i64 0)) 3)).drew →
      RBox X z 0 (.slice (some ⟨g, 0, none⟩) n n) (.slice (some ⟨h, 0, none⟩) n n) ∧ (IBlock X g (List.replicate n 0) ∧ IBlock X h (List.replicate n 0)) ∧ Below W.heap.size W X := by
  rintro X rfl
  have hP := hR.put 0 (.slice (some ⟨g, 0, none⟩) n n) (.slice (some ⟨h, 0, none⟩) n n)
  have hK := RBox.putK w1 z 0 (.slice (some ⟨g, 0, none⟩) n n) (.slice (some ⟨h, 0, none⟩) n n)
  have hs : (((w1.setCell ⟨z, 0, none⟩ (.int .i64 0)).setCell ⟨z, 1, none⟩ (.slice (some ⟨g, 0, none⟩) n n)).setCell ⟨z, 2, none⟩ (.slice (some ⟨h, 0, none⟩) n n)).heap.size = w1.heap.size := by simp [World.setCell]
  generalize (((w1.setCell ⟨z, 0, none⟩ (.int .i64 0)).setCell ⟨z, 1, none⟩ (.slice (some ⟨g, 0, none⟩) n n)).setCell ⟨z, 2, none⟩ (.slice (some ⟨h, 0, none⟩) n n)) = w2 at hP hK hs ⊢
  have hB2 : Below W.heap.size W w2 := hB.trans (hK.below hB.size (fun k e => by omega))
  have a0 := World.alloc_heap_new w2 (.cells (Array.replicate n (Value.int .i64 0)) 3)
  have a1 := World.alloc_heap_new (w2.alloc (.cells (Array.replicate n (Value.int .i64 0)) 3)) (.cells (Array.replicate n (Value.int .i64 0)) 3)
  have a2 := (below1 (w2.alloc (.cells (Array.replicate n (Value.int .i64 0)) 3)) (.cells (Array.replicate n (Value.int .i64 0)) 3)).block w2.heap.size (by simp)
  rw [a0] at a2
  rw [World.size_alloc] at a1
  rw [hs] at a1 a2
  have hN : ∀ {Y : World} {g : Nat}, Y.heap[g]? = some (.cells (Array.replicate n (Value.int .i64 0)) 3 (0, 0)) → IBlock Y g (List.replicate n 0) := fun {Y g} h => by unfold IBlock; rw [h]; simp
  have hbox := (hP.below (below1 w2 (.cells (Array.replicate n (Value.int .i64 0)) 3))).below (below1 _ (.cells (Array.replicate n (Value.int .i64 0)) 3))
  refine ⟨hbox, ?_, ((below_then hB2 hB2.size (below2 _ _ _))).drew⟩
  rcases hgh with ⟨rfl, rfl⟩ | ⟨rfl, rfl⟩
  · exact ⟨hN a2, hN a1⟩
  · exact ⟨hN a1, hN a2⟩

set_option maxHeartbeats 4000000 in
theorem newV_c (n : Nat) (l1 : 1 ≤ n) (l8 : n ≤ 8) (W : World) : Calls Tryz.prog 54 #[.int .i64 (n : Int)] W fun e w' => (∃ g h, e = .returned (.tuple #[.agg #[.int .i64 0, .slice (some ⟨g, 0, none⟩) n n, .slice (some ⟨h, 0, none⟩) n n], .int .i64 0]) ∧ (IBlock w' g (List.replicate n 0) ∧ IBlock w' h (List.replicate n 0)) ∧ W.heap.size ≤ g ∧ W.heap.size ≤ h) ∧ Below W.heap.size W w' := by
  obtain ⟨w0, hw0⟩ : ∃ X : World, X = W.alloc (.cells #[.int .i64 0, .slice none 0 0, .slice none 0 0] 24) := ⟨_, rfl⟩
  have HR := Lib.hid (show RBox w0 W.heap.size 0 (.slice none 0 0) (.slice none 0 0) ∧ Below W.heap.size W w0 ∧ w0.heap.size = W.heap.size + 1 by rw [hw0]; exact ⟨RBox.new _ _ _ _, below1 _ _, by simp⟩)
  have HC := Lib.hid (mayBe_c (n : Int) w0)
  rw [show mayCpus (n : Int) = true by unfold mayCpus; simp; omega] at HC
  have hmk := run_makeI n (by omega)
  go_enter Tryz.func54, Tryz.ntmps54
  go_wp2_with fail
  rw [← hw0]
  clear hw0
  (with_reducible refine HC.out.mono ?_)
  rintro e w1 ⟨rfl, rfl⟩
  obtain ⟨d0, d1, d2⟩ := HR.out.1.cells
  have m0 := HR.out.1.marks 0
  have m1 := HR.out.1.marks 1
  have m2 := HR.out.1.marks 2
  have hz := HR.out.1.lt
  clear HC
  go_wp2
  go_region
  all_goals
    have HF1 := Lib.hid (newV_fin n w1 W W.heap.size (w1.heap.size + 1) w1.heap.size HR.out.1 HR.out.2.1 (Nat.le_refl _) (.inr ⟨rfl, rfl⟩))
    have HF2 := Lib.hid (newV_fin n w1 W W.heap.size w1.heap.size (w1.heap.size + 1) HR.out.1 HR.out.2.1 (Nat.le_refl _) (.inl ⟨rfl, rfl⟩))
    clear hmk d0 d1 d2 m0 m1 m2 hz
    go_wp2
    first
      | (obtain ⟨h1, h2, h3⟩ := HF1.out _ rfl
         exact bodyPost_ret (v := .tuple #[.agg #[.int .i64 0, .slice (some ⟨w1.heap.size + 1, 0, none⟩) n n, .slice (some ⟨w1.heap.size, 0, none⟩) n n], .int .i64 0]) (results_ct rfl _ _ _ rfl rfl (readers_load h1)) rfl ⟨⟨_, _, rfl, h2, by have := HR.out.2.1.size; omega, by have := HR.out.2.1.size; omega⟩, h3⟩)
      | (obtain ⟨h1, h2, h3⟩ := HF2.out _ rfl
         exact bodyPost_ret (v := .tuple #[.agg #[.int .i64 0, .slice (some ⟨w1.heap.size, 0, none⟩) n n, .slice (some ⟨w1.heap.size + 1, 0, none⟩) n n], .int .i64 0]) (results_ct rfl _ _ _ rfl rfl (readers_load h1)) rfl ⟨⟨_, _, rfl, h2, by have := HR.out.2.1.size; omega, by have := HR.out.2.1.size; omega⟩, h3⟩)



end Go.Proofs.YtdllhiihmpinoaaGreat
/-
  Package rcu: New.
  Conditions: none.
-/
namespace Go.Proofs.YtdllhiihmpinoaaGreat
set_option maxRecDepth 100000
open Go.RowKit Go.Shelf
attribute [local go_sem] Oper.semAt_some

/-- A new Rcu. -/
def rNew (n : Nat) : RcS := ⟨⟨0, List.replicate n 0, List.replicate n 0⟩, ⟨0, 0, false, List.replicate n false⟩, List.replicate n (0, [])⟩
theorem U.newE_0 : U.newE 0 = 0 := by decide

/-- Between two queues. -/
structure NwI (z B : Nat) (n gb hb nb i : Nat) (q : Value) (W wr : World) : Prop where
  box : VtBox wr z 0 (rowV gb n) (rowV hb n) 0 0 false (rowV nb n) q nilV
  two : Two0 B (rNew n).s (rNew n).g n gb hb nb wr
  row : QOwn (hS B q) B wr q (List.replicate i (0, []))
  ap : ∀ g, q.ownBlock = some g → g ≠ gb ∧ g ≠ hb ∧ g ≠ nb
  kp : Keeps (fun k => k = z) W wr
  np : ∀ g, q.ownBlock = some g → W.heap.size ≤ g
theorem NwI.below {z B n gb hb nb i : Nat} {q : Value} {W wr w : World} (h : NwI z B n gb hb nb i q W wr) (hk : Below wr.heap.size wr w) : NwI z B n gb hb nb i q W w :=
  ⟨h.box.below hk, h.two.below hk, h.row.below hk, h.ap, h.kp.trans (Keeps.of_below hk), h.np⟩
theorem NwI.sl {z B n gb hb nb i : Nat} {q : Value} {W wr : World} (h : NwI z B n gb hb nb i q W wr) : ∃ p c, q = .slice p i c := by
  obtain ⟨m, h1, -⟩ := h.row
  obtain ⟨p, c, e⟩ := owns_slice h1
  exact ⟨p, c, by rw [e, List.length_replicate]⟩
theorem NwI.next {z B n gb hb nb i : Nat} {q q' : Value} {W wr w : World} (h : NwI z B n gb hb nb i q W wr) (hzB : z < B) (hBW : B ≤ W.heap.size) (hk : Keeps (fun k => some k = q.ownBlock) wr w)
    (hrow : QOwn (hS B q') B w q' (List.replicate i (0, []) ++ [(0, [])])) (hq' : q'.ownBlock = q.ownBlock ∨ q'.ownBlock = some wr.heap.size) : NwI z B n gb hb nb (i + 1) q' W (w.setCell ⟨z, 7, none⟩ q') := by
  have hqB : ∀ k, some k = q.ownBlock → B ≤ k := fun k e => by have := h.np k e.symm; omega
  have hkz := setK w z 7 q'
  have hb1 := h.box.keeps hk (fun e => by have := hqB _ e; omega)
  have hlt : ∀ {b : Nat} {X : Obj}, wr.heap[b]? = some X → b < wr.heap.size := fun hx => (Array.getElem?_eq_some_iff.1 hx).1
  have hsz := h.kp.size
  refine ⟨hb1.putQ q', ?_, ?_, ?_, (((h.kp.sub (T := fun k => k = z ∨ W.heap.size ≤ k) fun k _ e => .inl e).trans (hk.sub fun k _ e => .inr (h.np k e.symm))).sub (fun k hk e => by rcases e with e | e; exact e; omega)).trans hkz, ?_⟩
  · obtain ⟨t1, t2, t3, t4, t5, t6, t7⟩ := h.two
    have ap := h.ap
    have k1 : IBlock w gb (rNew n).s.ns := t1.keeps hk (fun e => (ap gb e.symm).1 rfl)
    have k2 : IBlock w hb (rNew n).s.os := t2.keeps hk (fun e => (ap hb e.symm).2.1 rfl)
    have k3 : BBlock w nb (rNew n).g.nd := t3.keeps hk (fun e => (ap nb e.symm).2.2 rfl)
    exact ⟨k1.keeps hkz (by omega), k2.keeps hkz (by omega), k3.keeps hkz (by omega), t4, t5, t6, t7⟩
  · rw [List.replicate_succ']
    exact hrow.keeps hkz (fun k e => .inl (by omega)) (fun g hg e => by
      rcases hq' with h' | h'
      · rw [h'] at hg; have := hqB g hg.symm; omega
      · rw [h'] at hg; injection hg with hg; omega)
  · intro g hg
    rcases hq' with e | e
    · rw [e] at hg; exact h.ap g hg
    · rw [e] at hg
      injection hg with hg
      have := hlt h.two.nest
      have := hlt h.two.opened
      have := hlt h.two.needs
      omega
  · intro g hg
    rcases hq' with e | e
    · rw [e] at hg; exact h.np g hg
    · rw [e] at hg; injection hg with hg; omega

set_option maxHeartbeats 32000000 in
theorem new1_c (z cb n : Nat) (l1 : 1 ≤ n) (l8 : n ≤ 8) (W : World) (kb : VtBox W z 0 nilV nilV 0 0 false nilV nilV nilV) (hz : z + 2 ≤ W.heap.size) (hcb : Boxed W cb 3 (.int .i64 (n : Int))) (hcz : cb < z) :
    Calls Tryz.prog 52 #[.pointer (some ⟨z, 0, none⟩), .pointer (some ⟨cb, 0, none⟩)] W fun e w' => OsQ z (z + 2) 0 (rNew n) [] e W w' := by
  have HZ := Lib.hid (And.intro hz (And.intro hcz (And.intro l1 l8)))
  have HB := Lib.hid (And.intro kb hcb)
  have HC := Lib.hid (newV_c n l1 l8 W)
  have c0 := hcb.cell
  clear kb hz hcb hcz
  go_enter Tryz.func52, Tryz.ntmps52
  go_wp2_with fail
  (with_reducible refine HC.out.mono ?_)
  rintro e w1 ⟨⟨gb, hb, rfl, hi1, hgg, hhh⟩, hb1⟩
  have HB1 := Lib.hid (show (VtBox w1 z 0 nilV nilV 0 0 false nilV nilV nilV ∧ Boxed w1 cb 3 (.int .i64 (n : Int))) ∧ (IBlock w1 gb (List.replicate n 0) ∧ IBlock w1 hb (List.replicate n 0)) ∧ W.heap.size ≤ gb ∧ W.heap.size ≤ hb ∧ Below W.heap.size W w1 from ⟨⟨HB.out.1.below hb1, boxed_bw HB.out.2 hb1⟩, hi1, hgg, hhh, hb1⟩)
  clear hi1 hgg hhh hb1 HB HC c0
  go_wp2_with fail
  (with_reducible refine (gotR_ok 0 (some ⟨gb, 0, none⟩) n n (some ⟨hb, 0, none⟩) n n w1).mono ?_)
  rintro e w2 ⟨rfl, hb2⟩
  have HB2 := Lib.hid (show (VtBox w2 z 0 nilV nilV 0 0 false nilV nilV nilV ∧ Boxed w2 cb 3 (.int .i64 (n : Int))) ∧ (IBlock w2 gb (List.replicate n 0) ∧ IBlock w2 hb (List.replicate n 0)) ∧ W.heap.size ≤ gb ∧ W.heap.size ≤ hb ∧ Below W.heap.size W w2 from ⟨⟨HB1.out.1.1.below hb2, boxed_bw HB1.out.1.2 hb2⟩, ⟨HB1.out.2.1.1.below hb2, HB1.out.2.1.2.below hb2⟩, HB1.out.2.2.1, HB1.out.2.2.2.1, below_then HB1.out.2.2.2.2 HB1.out.2.2.2.2.size hb2⟩)
  clear hb2 HB1
  obtain ⟨e0, e1, e2, e3, e4, e5, e6, e7, e8⟩ := HB2.out.1.1.cells
  have m0 := HB2.out.1.1.marks 0
  have m1 := HB2.out.1.1.marks 1
  have m2 := HB2.out.1.1.marks 2
  obtain ⟨w3, hw3⟩ : ∃ X : World, X = ((w2.setCell ⟨z, 0, none⟩ (.int .i64 0)).setCell ⟨z, 1, none⟩ (.slice (some ⟨gb, 0, none⟩) n n)).setCell ⟨z, 2, none⟩ (.slice (some ⟨hb, 0, none⟩) n n) := ⟨_, rfl⟩
  have hV3 : VtBox w3 z 0 (rowV gb n) (rowV hb n) 0 0 false nilV nilV nilV := by rw [hw3]; exact HB2.out.1.1.putR _ _ _
  have hK3 : Keeps (fun k => k = z) w2 w3 := by rw [hw3]; exact VtBox.putRK _ z _ _ _
  have HB3 := Lib.hid (show (VtBox w3 z 0 (rowV gb n) (rowV hb n) 0 0 false nilV nilV nilV ∧ Boxed w3 cb 3 (.int .i64 (n : Int))) ∧ (IBlock w3 gb (List.replicate n 0) ∧ IBlock w3 hb (List.replicate n 0)) ∧ W.heap.size ≤ gb ∧ W.heap.size ≤ hb ∧ Keeps (fun k => k = z) W w3 from by
    obtain ⟨⟨i1, i2⟩, ⟨i3, i4⟩, i5, i6, i7⟩ := HB2.out
    have := HZ.out
    exact ⟨⟨hV3, (hK3.block cb i2.lt (by omega)).trans i2⟩, ⟨i3.keeps hK3 (by omega), i4.keeps hK3 (by omega)⟩, i5, i6, (Keeps.of_below i7).trans hK3⟩)
  have HW := Lib.hid (show w3 = ((w2.setCell ⟨z, 0, none⟩ (.int .i64 0)).setCell ⟨z, 1, none⟩ (.slice (some ⟨gb, 0, none⟩) n n)).setCell ⟨z, 2, none⟩ (.slice (some ⟨hb, 0, none⟩) n n) from hw3)
  have c0 := HB3.out.1.2.cell
  have HC := Lib.hid (gnew_c n l1 l8 w3)
  rw [hw3] at c0
  clear hw3 hV3 hK3
  go_wp2_with fail
  rw [← HW.out]
  clear HW e0 e1 e2 e3 e4 e5 e6 e7 e8 m0 m1 m2 c0 HB2
  (with_reducible refine HC.out.mono ?_)
  rintro e w4 ⟨⟨nb, rfl, hnn, hnb⟩, hb4⟩
  have HB4 := Lib.hid (show (VtBox w4 z 0 (rowV gb n) (rowV hb n) 0 0 false nilV nilV nilV ∧ Boxed w4 cb 3 (.int .i64 (n : Int))) ∧ (IBlock w4 gb (List.replicate n 0) ∧ IBlock w4 hb (List.replicate n 0) ∧ BBlock w4 nb (List.replicate n false)) ∧ W.heap.size ≤ gb ∧ W.heap.size ≤ hb ∧ W.heap.size ≤ nb ∧ Keeps (fun k => k = z) W w4 from by
    obtain ⟨⟨i1, i2⟩, ⟨i3, i4⟩, i5, i6, i7⟩ := HB3.out
    exact ⟨⟨i1.below hb4, boxed_bw i2 hb4⟩, ⟨i3.below hb4, i4.below hb4, hnn⟩, i5, i6, Nat.le_trans i7.size hnb, i7.trans (Keeps.of_below hb4)⟩)
  clear hnn hnb hb4 HC HB3
  go_wp2_with fail
  (with_reducible refine (gotG_ok 0 0 false (some ⟨nb, 0, none⟩) n n w4).mono ?_)
  rintro e w5 ⟨rfl, hb5⟩
  have HB5 := Lib.hid (show (VtBox w5 z 0 (rowV gb n) (rowV hb n) 0 0 false nilV nilV nilV ∧ Boxed w5 cb 3 (.int .i64 (n : Int))) ∧ (IBlock w5 gb (List.replicate n 0) ∧ IBlock w5 hb (List.replicate n 0) ∧ BBlock w5 nb (List.replicate n false)) ∧ W.heap.size ≤ gb ∧ W.heap.size ≤ hb ∧ W.heap.size ≤ nb ∧ Keeps (fun k => k = z) W w5 from by
    obtain ⟨⟨i1, i2⟩, ⟨i3, i4, j4⟩, i5, i6, j6, i7⟩ := HB4.out
    exact ⟨⟨i1.below hb5, boxed_bw i2 hb5⟩, ⟨i3.below hb5, i4.below hb5, j4.below hb5⟩, i5, i6, j6, i7.trans (Keeps.of_below hb5)⟩)
  clear hb5 HB4
  obtain ⟨e0, e1, e2, e3, e4, e5, e6, e7, e8⟩ := HB5.out.1.1.cells
  have m3 := HB5.out.1.1.marks 3
  have m4 := HB5.out.1.1.marks 4
  have m5 := HB5.out.1.1.marks 5
  have m6 := HB5.out.1.1.marks 6
  obtain ⟨w6, hw6⟩ : ∃ X : World, X = (((w5.setCell ⟨z, 3, none⟩ (.int .i64 0)).setCell ⟨z, 4, none⟩ (.int .i64 0)).setCell ⟨z, 5, none⟩ (.bool false)).setCell ⟨z, 6, none⟩ (.slice (some ⟨nb, 0, none⟩) n n) := ⟨_, rfl⟩
  have hV6 : VtBox w6 z 0 (rowV gb n) (rowV hb n) 0 0 false (rowV nb n) nilV nilV := by rw [hw6]; exact HB5.out.1.1.putG _ _ _ _
  have hK6 : Keeps (fun k => k = z) w5 w6 := by rw [hw6]; exact VtBox.putGK _ z _ _ _ _
  have HB6 := Lib.hid (show Boxed w6 cb 3 (.int .i64 (n : Int)) ∧ NwI z (z + 2) n gb hb nb 0 nilV W w6 from by
    obtain ⟨⟨i1, i2⟩, ⟨i3, i4, j4⟩, i5, i6, j6, i7⟩ := HB5.out
    have := HZ.out
    exact ⟨(hK6.block cb i2.lt (by omega)).trans i2, hV6, ⟨i3.keeps hK6 (by omega), i4.keeps hK6 (by omega), j4.keeps hK6 (by omega), by omega, by omega, by omega, by simp [rNew]⟩, QOwn.nil _ _ _, (fun g hg => by cases hg), i7.trans hK6, (fun g hg => by cases hg)⟩)
  have HW := Lib.hid (show w6 = (((w5.setCell ⟨z, 3, none⟩ (.int .i64 0)).setCell ⟨z, 4, none⟩ (.int .i64 0)).setCell ⟨z, 5, none⟩ (.bool false)).setCell ⟨z, 6, none⟩ (.slice (some ⟨nb, 0, none⟩) n n) from hw6)
  have c0 := HB6.out.1.cell
  rw [hw6] at c0
  clear hw6 hV6 hK6
  go_upto_region 3 with fail
  rw [← HW.out]
  clear HW e0 e1 e2 e3 e4 e5 e6 e7 e8 m3 m4 m5 m6 c0 HB5
  go_loopw [22] (fun iv wr => ∃ i : Nat, i ≤ n ∧ iv = .int .i64 (i : Int) ∧ ∃ q, Hid (NwI z (z + 2) n gb hb nb i q W wr)) (fun iv _ => n - (intOf iv).toNat)
  case atStart => exact ⟨0, Nat.zero_le _, rfl, nilV, Lib.hid HB6.out.2⟩
  case round =>
    clear HB6
    obtain ⟨i, hi, rfl, q, HI⟩ := hrel
    by_cases hlt : i < n
    · obtain ⟨pq, cq, rfl⟩ := HI.out.sl
      have hi0 : (0 : Int) ≤ (i : Int) := by omega
      have hlt' : (i : Int) < (n : Int) := by omega
      have hn8 := HZ.out.2.2.2
      have HN8 := Lib.hid hn8
      clear hn8
      go_upto_region 4 with fail
      refine wpTwo_begin (T := fun _ => True) (S := fun w' => VtBox w' z 0 (rowV gb n) (rowV hb n) 0 0 false (rowV nb n) (.slice pq i cq) nilV) (late := fun j => [15].contains j) (by kernel_rfl) ?_
      obtain ⟨X, hX⟩ : ∃ Y : World, Y = wr.drew := ⟨_, rfl⟩
      rw [← hX]
      have HX := Lib.hid (show NwI z (z + 2) n gb hb nb i (.slice pq i cq) W X from by rw [hX]; exact HI.out.below ((Below.refl _ _).drew))
      have hT0 : VtBox X z 0 (rowV gb n) (rowV hb n) 0 0 false (rowV nb n) (.slice pq i cq) nilV := HX.out.box
      clear hX HI
      refine wpTwo_takeT (i := 0) (v := .pointer (some ⟨z, 0, none⟩)) rfl (by kernel_rfl) (by kernel_rfl) (by kernel_rfl) (fun _ _ _ h => h) ⟨by rfl, ?_⟩ trivial ?_
      · intro w _
        go_simp
      (try simp only [Act.put, List.getElem_toArray, List.getElem_cons_zero, List.setIfInBounds_toArray, List.set_cons_succ, List.set_cons_zero])
      refine wpTwo_takeT (i := 1) (v := .pointer (some ⟨z, 0, none⟩)) rfl (by kernel_rfl) (by kernel_rfl) (by kernel_rfl) (fun _ _ _ h => h) ⟨by rfl, ?_⟩ trivial ?_
      · intro w _
        go_simp
      (try simp only [Act.put, List.getElem_toArray, List.getElem_cons_succ, List.getElem_cons_zero, List.setIfInBounds_toArray, List.set_cons_succ, List.set_cons_zero])
      refine wpTwo_takeT (i := 2) (v := .pointer (some ⟨z, 0, none⟩)) rfl (by kernel_rfl) (by kernel_rfl) (by kernel_rfl) (fun _ _ _ h => h) ⟨by rfl, ?_⟩ trivial ?_
      · intro w _
        go_simp
      (try simp only [Act.put, List.getElem_toArray, List.getElem_cons_succ, List.getElem_cons_zero, List.setIfInBounds_toArray, List.set_cons_succ, List.set_cons_zero])
      refine wpTwo_takeT (i := 3) (v := .pointer (some ⟨z, 0, none⟩)) rfl (by kernel_rfl) (by kernel_rfl) (by kernel_rfl) (fun _ _ _ h => h) ⟨by rfl, ?_⟩ trivial ?_
      · intro w _
        go_simp
      (try simp only [Act.put, List.getElem_toArray, List.getElem_cons_succ, List.getElem_cons_zero, List.setIfInBounds_toArray, List.set_cons_succ, List.set_cons_zero])
      refine wpTwo_takeT (i := 4) (v := .pointer (some ⟨z, 7, none⟩)) rfl (by kernel_rfl) (by kernel_rfl) (by kernel_rfl) (fun _ _ _ h => h) ⟨by rfl, ?_⟩ trivial ?_
      · intro w _
        go_simp
      (try simp only [Act.put, List.getElem_toArray, List.getElem_cons_succ, List.getElem_cons_zero, List.setIfInBounds_toArray, List.set_cons_succ, List.set_cons_zero])
      refine wpTwo_takeS (i := 5) (v := .slice pq i cq) (waits_all (by kernel_rfl)) rfl (by kernel_rfl) (by kernel_rfl) (by kernel_rfl) (fun _ _ _ h => h) ⟨by rfl, ?_⟩ ⟨trivial, hT0⟩ ?_
      · rintro w ⟨-, hT1⟩
        obtain ⟨t0, t1, t2, t3, t4, t5, t6, t7, t8⟩ := hT1.cells
        go_simp
      (try simp only [Act.put, List.getElem_toArray, List.getElem_cons_succ, List.getElem_cons_zero, List.setIfInBounds_toArray, List.set_cons_succ, List.set_cons_zero])
      have HC := Lib.hid (U.new_c 0 X)
      refine wpTwo_ready (rs := [6]) (by kernel_rfl) (by simp) ?_
      refine (AllTwo.cons rfl (fun K hK => ?_) AllTwo.nil)
      go_simp
      (with_reducible refine HC.out.mono ?_)
      rintro e X1 ⟨hEQ, hb1⟩
      rw [U.newE_0, if_pos rfl] at hEQ
      obtain ⟨v', rfl, ho⟩ := hEQ
      obtain ⟨p', c', rfl⟩ := owns_slice ho
      rw [show (([] : List (Int × Int)).length) = 0 from rfl] at ho ⊢
      have HX1 := Lib.hid (show NwI z (z + 2) n gb hb nb i (.slice pq i cq) W X1 ∧ U.CbOut (fun k => k < X.heap.size) X1 (.slice p' 0 c') [] ∧ ∀ g, (Value.slice pq i cq).ownBlock = some g → g < X.heap.size from ⟨HX.out.below hb1, U.cb_of_owns ho, fun g hg => by obtain ⟨m, h1, -⟩ := HX.out.row; exact (h1.lt g hg).2⟩)
      have hsz1 := hb1.size
      have hszW := HX.out.kp.size
      have HSZ := Lib.hid (And.intro hsz1 hszW)
      clear hb1 ho HC HX hT0 hsz1 hszW
      go_wp2_with fail
      refine hK.out _ _ ⟨trivial, fun _ _ => HX1.out.1.box⟩ ?_
      clear hK K
      (try simp only [Act.put, List.getElem_toArray, List.getElem_cons_succ, List.getElem_cons_zero, List.setIfInBounds_toArray, List.set_cons_succ, List.set_cons_zero])
      refine wpTwo_takeT (i := 7) (v := .agg #[.slice p' 0 c', .int .u64 0]) rfl (by kernel_rfl) (by kernel_rfl) (by kernel_rfl) (fun _ _ _ h => h) ⟨by rfl, ?_⟩ trivial ?_
      · intro w _
        go_simp
      (try simp only [Act.put, List.getElem_toArray, List.getElem_cons_succ, List.getElem_cons_zero, List.setIfInBounds_toArray, List.set_cons_succ, List.set_cons_zero])
      refine wpTwo_takeT (i := 8) (v := .int .i64 0) rfl (by kernel_rfl) (by kernel_rfl) (by kernel_rfl) (fun _ _ _ h => h) ⟨by rfl, ?_⟩ trivial ?_
      · intro w _
        go_simp
      (try simp only [Act.put, List.getElem_toArray, List.getElem_cons_succ, List.getElem_cons_zero, List.setIfInBounds_toArray, List.set_cons_succ, List.set_cons_zero])
      refine wpTwo_ready (rs := [9]) (by kernel_rfl) (by simp) ?_
      refine (AllTwo.cons rfl (fun K hK => ?_) AllTwo.nil)
      go_simp
      (with_reducible refine (gotQ_ok p' 0 c' 0 X1).mono ?_)
      rintro e X2 ⟨rfl, hb2⟩
      have HX2 := Lib.hid (show NwI z (z + 2) n gb hb nb i (.slice pq i cq) W X2 ∧ U.CbOut (fun k => k < X.heap.size) X2 (.slice p' 0 c') [] ∧ (∀ g, (Value.slice pq i cq).ownBlock = some g → g < X.heap.size) ∧ X.heap.size ≤ X2.heap.size ∧ W.heap.size ≤ X.heap.size from ⟨HX1.out.1.below hb2, HX1.out.2.1.below hb2, HX1.out.2.2, Nat.le_trans HSZ.out.1 hb2.size, HSZ.out.2⟩)
      clear hb2 HX1 HSZ
      go_wp2_with fail
      refine hK.out _ _ ⟨trivial, fun _ _ => HX2.out.1.box⟩ ?_
      clear hK K
      (try simp only [Act.put, List.getElem_toArray, List.getElem_cons_succ, List.getElem_cons_zero, List.setIfInBounds_toArray, List.set_cons_succ, List.set_cons_zero])
      refine wpTwo_ready (rs := [10]) (by kernel_rfl) (by simp) ?_
      refine (AllTwo.cons rfl (fun K hK => ?_) AllTwo.nil)
      go_simp
      obtain ⟨zb, hzb⟩ : ∃ x, x = X2.heap.size := ⟨_, rfl⟩
      obtain ⟨X3, hX3⟩ : ∃ V : World, V = X2.alloc (.cells #[.slice p' 0 c', .int .u64 0] 66) := ⟨_, rfl⟩
      rw [← hX3, ← hzb]
      have hb3 : Below X2.heap.size X2 X3 := by rw [hX3]; exact below1 _ _
      have hq3 : U.QBox X3 zb (.slice p' 0 c') 0 := by rw [hX3, hzb]; exact U.QBox.new _ _ _
      have HX3 := Lib.hid (show NwI z (z + 2) n gb hb nb i (.slice pq i cq) W X3 ∧ U.CbOut (fun k => k < X.heap.size) X3 (.slice p' 0 c') [] ∧ (∀ g, (Value.slice pq i cq).ownBlock = some g → g < X.heap.size) ∧ X.heap.size ≤ X3.heap.size ∧ W.heap.size ≤ X.heap.size from ⟨HX2.out.1.below hb3, HX2.out.2.1.below hb3, HX2.out.2.2.1, Nat.le_trans HX2.out.2.2.2.1 hb3.size, HX2.out.2.2.2.2⟩)
      obtain ⟨a0, a1⟩ := hq3.cells
      have happ := run_app_q (hS (z + 2) (.slice pq i cq)) (z + 2) (.slice pq i cq) (List.replicate i (0, [])) X3 HX3.out.1.row zb 1 (.slice p' 0 c') 0 [] a0 a1 (HX3.out.2.1.sub (fun k hk => by rcases hk with h | h; have := HX3.out; have := HZ.out; omega; exact HX3.out.2.2.1 k h.symm)) (by rw [List.length_replicate]; have := HN8.out; omega) (by have := HZ.out; have := HX3.out; omega) (fun k h => .inr h)
      rw [show (List.replicate i ((0 : Int), ([] : List (Int × Int)))).length = i by simp] at happ
      obtain ⟨pq', cq', X4, hr, hown, hk4, hob⟩ := happ
      have HN := Lib.hid (show NwI z (z + 2) n gb hb nb (i + 1) (.slice pq' (i + 1) cq') W (X4.setCell ⟨z, 7, none⟩ (.slice pq' (i + 1) cq')) from HX3.out.1.next (by omega) (by have := HZ.out; omega) hk4 (hown _ (fun k hk => by
        rcases hk with h | h
        · exact .inl (.inl h)
        · rcases hob with e | e
          · exact .inl (.inr (h.trans e))
          · rw [e] at h; injection h with h; exact .inr (by omega))) hob)
      have hV4 : VtBox X4 z 0 (rowV gb n) (rowV hb n) 0 0 false (rowV nb n) (.slice pq i cq) nilV := HX3.out.1.box.keeps hk4 (fun e => by have := HX3.out.1.np z e.symm; have := HZ.out; omega)
      have hV3 := HX3.out.1.box
      clear hX3 hb3 hq3 hown hk4 hob HX2
      refine hK.out _ _ ⟨trivial, fun _ _ => hV3⟩ ?_
      clear hK K
      (try simp only [Act.put, List.getElem_toArray, List.getElem_cons_succ, List.getElem_cons_zero, List.setIfInBounds_toArray, List.set_cons_succ, List.set_cons_zero])
      refine wpTwo_ready (rs := [11]) (by kernel_rfl) (by simp) ?_
      refine (AllTwo.cons rfl (fun K hK => ?_) AllTwo.nil)
      refine two_app 28 (.tmp 29) (.tmp 34) _ _ _ hr rfl rfl rfl rfl rfl ?_
      refine hK _ _ ⟨trivial, fun _ _ => hV4⟩ ?_
      clear hK K hr a0 a1
      (try simp only [Act.put, List.getElem_toArray, List.getElem_cons_succ, List.getElem_cons_zero, List.setIfInBounds_toArray, List.set_cons_succ, List.set_cons_zero])
      refine wpTwo_takeT (i := 12) (v := .pointer (some ⟨z, 0, none⟩)) rfl (by kernel_rfl) (by kernel_rfl) (by kernel_rfl) (fun _ _ _ h => h) ⟨by rfl, ?_⟩ trivial ?_
      · intro w _
        go_simp
      (try simp only [Act.put, List.getElem_toArray, List.getElem_cons_succ, List.getElem_cons_zero, List.setIfInBounds_toArray, List.set_cons_succ, List.set_cons_zero])
      refine wpTwo_takeT (i := 13) (v := .pointer (some ⟨z, 0, none⟩)) rfl (by kernel_rfl) (by kernel_rfl) (by kernel_rfl) (fun _ _ _ h => h) ⟨by rfl, ?_⟩ trivial ?_
      · intro w _
        go_simp
      (try simp only [Act.put, List.getElem_toArray, List.getElem_cons_succ, List.getElem_cons_zero, List.setIfInBounds_toArray, List.set_cons_succ, List.set_cons_zero])
      refine wpTwo_takeT (i := 14) (v := .pointer (some ⟨z, 7, none⟩)) rfl (by kernel_rfl) (by kernel_rfl) (by kernel_rfl) (fun _ _ _ h => h) ⟨by rfl, ?_⟩ trivial ?_
      · intro w _
        go_simp
      (try simp only [Act.put, List.getElem_toArray, List.getElem_cons_succ, List.getElem_cons_zero, List.setIfInBounds_toArray, List.set_cons_succ, List.set_cons_zero])
      obtain ⟨e0, e1, e2, e3, e4, e5, e6, e7, e8⟩ := hV4.cells
      have m7 := hV4.marks 7
      refine wpTwo_ready (rs := [15]) (by kernel_rfl) (by simp) ?_
      refine (AllTwo.cons rfl (fun K hK => ?_) AllTwo.nil)
      go_simp
      refine hK.out _ _ ⟨trivial, fun h => absurd h (by decide)⟩ ?_
      clear hK K
      (try simp only [Act.put, List.getElem_toArray, List.getElem_cons_succ, List.getElem_cons_zero, List.setIfInBounds_toArray, List.set_cons_succ, List.set_cons_zero])
      refine wpTwo_end (by kernel_rfl) ?_ _
      clear hV3 hV4 e0 e1 e2 e3 e4 e5 e6 e7 e8 m7 HX3
      have hn8 := HN8.out
      go_wp2
      go_roundw
      case rel => exact ⟨i + 1, by omega, by go_num, _, HN⟩
      case measure => simp [intOf]; omega
    · obtain rfl : i = n := by omega
      have HF := Lib.hid (show OsQ z (z + 2) 0 (rNew i) [] (.returned (.tuple #[])) W wr from by
        obtain ⟨h1, h2, h3, h6, h7, h8⟩ := HI.out
        have hz := HZ.out
        obtain ⟨qb, qc, rfl, hB, hrow⟩ := h3.row (by intro e; have := congrArg List.length e; simp at this; omega)
        rw [List.length_replicate] at h1
        have hap := h6 qb rfl
        obtain ⟨t1, t2, t3, t4, t5, t6, t7, t8, t9⟩ := h2
        have hS : ∀ x, z + 2 ≤ x → x ≠ qb → ¬ vS (z + 2) qb nilV x := fun x hx hxq h => by
          rcases h with h | h | h
          · omega
          · exact hxq h
          · cases h
        have e1 := NumsOut.of_block t1 (hS gb t4 (fun e => hap.1 e.symm))
        have e2 := NumsOut.of_block t2 (hS hb t5 (fun e => hap.2.1 e.symm))
        have e3 := BoolsOut.of_block t3 (hS nb t6 (fun e => hap.2.2 e.symm))
        rw [t7] at e1
        rw [t8] at e2
        rw [t9] at e3
        refine ⟨h7.sub fun k _ e => .inl e, .inr ⟨rfl, rfl, _, _, _, qb, qc, _, ⟨?_, e1, e2, e3, hrow.apart (fun k hk => by
          rcases hk with h | h | h
          · exact .inl (.inl h)
          · exact .inl (.inr (by rw [h]; simp [Value.ownBlock]))
          · cases h), World.ownsRow_nil _ _ _ _, by omega, hB⟩⟩⟩
        have : (rNew i).qs.length = i := by simp [rNew]
        rw [this]
        exact h1)
      clear HI hlt hi
      go_wp2
      go_end0
      exact HF.out

end Go.Proofs.YtdllhiihmpinoaaGreat
namespace Go.Proofs.YtdllhiihmpinoaaGreat
set_option maxRecDepth 100000
open Go.RowKit Go.Shelf
attribute [local go_sem] Oper.semAt_some


/-- What New answers. -/
def NewQ (B n : Nat) (e : Ending) (w' : World) : Prop := ∃ u v nv qv, e = .returned (.tuple #[.agg #[.int .i64 0, u, v, .int .i64 0, .int .i64 0, .bool false, nv, qv], .int .i64 0]) ∧ (IsSl u ∧ IsSl v ∧ IsSl nv ∧ IsSl qv) ∧ RcIn (fun k => k < B) w' u v nv qv (rNew n)

set_option maxHeartbeats 32000000 in
theorem rNew_c (n : Nat) (l1 : 1 ≤ n) (l8 : n ≤ 8) (W : World) : Calls Tryz.prog 20 #[.int .i64 (n : Int)] W fun e w' => NewQ W.heap.size n e w' ∧ Below W.heap.size W w' := by
  have hmf : ∀ (fn : Fn) (first cap : Array Value) (w : World), (Instr.makeFunc fn first cap).run Tryz.prog w = .ok (.func fn first cap) w := fun _ _ _ _ => rfl
  obtain ⟨wb, hwb⟩ : ∃ X : World, X = W.alloc (.cells #[.int .i64 (n : Int)] 3) := ⟨_, rfl⟩
  obtain ⟨w0, hw0⟩ : ∃ X : World, X = wb.alloc (.cells #[.int .i64 0, .slice none 0 0, .slice none 0 0, .int .i64 0, .int .i64 0, .bool false, .slice none 0 0, .slice none 0 0] 30) := ⟨_, rfl⟩
  have bb : Below W.heap.size W wb := by rw [hwb]; exact below1 _ _
  have b0 : Below wb.heap.size wb w0 := by rw [hw0]; exact below1 _ _
  have sb : wb.heap.size = W.heap.size + 1 := by rw [hwb]; simp
  have s0 : w0.heap.size = W.heap.size + 2 := by rw [hw0, World.size_alloc, sb]
  have hbW := below_then bb bb.size b0
  have xb : Boxed w0 W.heap.size 3 (.int .i64 (n : Int)) := by
    have : Boxed wb W.heap.size 3 (.int .i64 (n : Int)) := by rw [hwb]; exact Boxed.new _ _ _
    exact boxed_bw this b0
  have x0 : RcBox w0 (W.heap.size + 1) 0 nilV nilV 0 0 false nilV nilV := by
    have : RcBox w0 wb.heap.size 0 nilV nilV 0 0 false nilV nilV := by rw [hw0]; exact RcBox.new _ _ _ _ _ _ _ _ _
    rwa [sb] at this
  have HF := Lib.hid (show RcBox w0 (W.heap.size + 1) 0 nilV nilV 0 0 false nilV nilV ∧ Below W.heap.size W w0 ∧ w0.heap.size = W.heap.size + 2 from ⟨x0, hbW, s0⟩)
  have HT := Lib.hid (tried_ans 52 #[.pointer (some ⟨W.heap.size, 0, none⟩)] w0 (fun _ _ => rfl) 0 (rNew n) [] (fun W0 kb hz hb => new1_c w0.heap.size W.heap.size n l1 l8 W0 kb hz (boxed_bw xb hb) (by omega)))
  have HW := Lib.hid (show w0 = (W.alloc (.cells #[.int .i64 (n : Int)] 3)).alloc (.cells #[.int .i64 0, .slice none 0 0, .slice none 0 0, .int .i64 0, .int .i64 0, .bool false, .slice none 0 0, .slice none 0 0] 30) by rw [hw0, hwb])
  clear l1 l8 hwb hw0 bb b0 sb s0 hbW xb x0
  go_enter Tryz.func20, Tryz.ntmps20
  go_upto_region 1 with fail
  rw [← HW.out]
  clear HW
  go_wp2_with fail
  (with_reducible refine HT.out.mono ?_)
  rintro e w1 ⟨⟨now, u, v, d, a, on, nv, qv, lv, x, rfl, hA⟩, hb1⟩
  obtain ⟨⟨⟨q1, m1, e1, rfl⟩, ⟨q2, m2, e2, rfl⟩, ⟨q3, m3, e3, rfl⟩, ⟨q4, m4, e4, rfl⟩, ⟨q5, m5, e5, rfl⟩⟩, ⟨h0, -⟩ | ⟨-, hx, hnow, hd, ha, hon, hin, -⟩⟩ := hA
  · exact absurd rfl h0
  obtain rfl : x = 0 := hx
  obtain rfl : now = 0 := hnow
  obtain rfl : d = 0 := hd
  obtain rfl : a = 0 := ha
  obtain rfl : on = false := hon
  obtain ⟨z7, hz7⟩ : ∃ x, x = w1.heap.size := ⟨_, rfl⟩
  obtain ⟨w2, hw2⟩ : ∃ X : World, X = w1.alloc (.cells #[.int .i64 0, .slice q1 m1 e1, .slice q2 m2 e2, .int .i64 0, .int .i64 0, .bool false, .slice q3 m3 e3, .slice q4 m4 e4, .slice q5 m5 e5] 91) := ⟨_, rfl⟩
  have hb2 : Below w1.heap.size w1 w2 := by rw [hw2]; exact below1 _ _
  have hv2 : VtBox w2 z7 0 (.slice q1 m1 e1) (.slice q2 m2 e2) 0 0 false (.slice q3 m3 e3) (.slice q4 m4 e4) (.slice q5 m5 e5) := by rw [hw2, hz7]; exact VtBox.new _ _ _ _ _ _ _ _ _ _
  have hx2 := (HF.out.1.below hb1).below hb2
  have hB2 := below_then (below_then HF.out.2.1 HF.out.2.1.size hb1) (below_then HF.out.2.1 HF.out.2.1.size hb1).size hb2
  have hz27 : W.heap.size + 1 < z7 := by rw [hz7]; have := hb1.size; have := HF.out.2.2; omega
  obtain ⟨w3, hw3⟩ : ∃ X : World, X = ((((((((w2.setCell ⟨W.heap.size + 1, 0, none⟩ (.int .i64 0)).setCell ⟨W.heap.size + 1, 1, none⟩ (.slice q1 m1 e1)).setCell ⟨W.heap.size + 1, 2, none⟩ (.slice q2 m2 e2)).setCell ⟨W.heap.size + 1, 3, none⟩ (.int .i64 0)).setCell ⟨W.heap.size + 1, 4, none⟩ (.int .i64 0)).setCell ⟨W.heap.size + 1, 5, none⟩ (.bool false)).setCell ⟨W.heap.size + 1, 6, none⟩ (.slice q3 m3 e3)).setCell ⟨W.heap.size + 1, 7, none⟩ (.slice q4 m4 e4)) := ⟨_, rfl⟩
  have hput := hx2.putAll 0 (.slice q1 m1 e1) (.slice q2 m2 e2) 0 0 false (.slice q3 m3 e3) (.slice q4 m4 e4)
  have hkp := RcBox.putAllK w2 (W.heap.size + 1) 0 (.slice q1 m1 e1) (.slice q2 m2 e2) 0 0 false (.slice q3 m3 e3) (.slice q4 m4 e4)
  rw [← hw3] at hput hkp
  have HR := Lib.hid (show RcBox w3 (W.heap.size + 1) 0 (.slice q1 m1 e1) (.slice q2 m2 e2) 0 0 false (.slice q3 m3 e3) (.slice q4 m4 e4) ∧ Below W.heap.size W w3 ∧ RcIn (fun k => k < W.heap.size) w3 (.slice q1 m1 e1) (.slice q2 m2 e2) (.slice q3 m3 e3) (.slice q4 m4 e4) (rNew n) from
    ⟨hput, hB2.trans (hkp.below hB2.size (fun k e => by omega)), ((hin.below hb2).keeps (hkp.sub fun k _ e => by have := HF.out.2.2; omega)).apart (fun q hq => .inl (by have := HF.out.2.2; omega))⟩)
  obtain ⟨t0, t1, t2, t3, t4, t5, t6, t7, t8⟩ := hv2.cells
  obtain ⟨d0, d1, d2, d3, d4, d5, d6, d7⟩ := hx2.cells
  have k0 := hx2.marks 0
  have k1 := hx2.marks 1
  have k2 := hx2.marks 2
  have k3 := hx2.marks 3
  have k4 := hx2.marks 4
  have k5 := hx2.marks 5
  have k6 := hx2.marks 6
  have k7 := hx2.marks 7
  have hne : ¬ z7 = W.heap.size + 1 := by omega
  unfold nilV at d1 d2 d6 d7
  have HW2 := Lib.hid (And.intro hw2 (And.intro hz7 hw3))
  clear hb2 hv2 hx2 hB2 hput hkp hin hb1 hw2 hz7 hw3 HT hz27
  go_upto_region 2 with fail
  rw [← HW2.out.1, ← HW2.out.2.1]
  go_wp2
  rw [← HW2.out.2.2]
  refine bodyPost_ret (v := .tuple #[.agg #[.int .i64 0, .slice q1 m1 e1, .slice q2 m2 e2, .int .i64 0, .int .i64 0, .bool false, .slice q3 m3 e3, .slice q4 m4 e4], .int .i64 0]) (results_ct rfl _ _ _ rfl rfl HR.out.1.load) rfl ⟨⟨_, _, _, _, rfl, ⟨⟨_, _, _, rfl⟩, ⟨_, _, _, rfl⟩, ⟨_, _, _, rfl⟩, ⟨_, _, _, rfl⟩⟩, HR.out.2.2⟩, HR.out.2.1⟩

end Go.Proofs.YtdllhiihmpinoaaGreat
