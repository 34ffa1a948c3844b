/-
  own, of the statements of layer 3: a script in memory of its own, its rows cut short.
  Conditions: the script lies so.
-/
import Derived.Test.YtjgdkfgcfningaaDoorSOwn
namespace Go.Proofs.YtjgdkfgcfningaaDoor
open Go.RowKit Go.Shelf
attribute [local go_sem] Oper.semAt_some

/-- A script with its rows cut short. -/
def ownS (s : SM) : SM := ⟨s.c, s.g, (s.ls.take 10).map (·.take 70), s.ps.take 5000⟩
theorem ownS_few (s : SM) : Few (ownS s) := by
  refine ⟨?_, fun l hl => ?_, ?_⟩
  · simp [ownS]; omega
  · obtain ⟨m, _, rfl⟩ := List.mem_map.1 hl
    simp; omega
  · simp [ownS]; omega
theorem cut_snoc (ls : List (List CallM)) (i : Nat) (h : i < ls.length) : (ls.take (i + 1)).map (·.take 70) = (ls.take i).map (·.take 70) ++ [ls[i].take 70] := by
  rw [List.take_succ_eq_append_getElem h, List.map_append]; rfl
/-- Rows of calls, each in new memory, and the row that holds them. -/
structure OwnL (w : World) (B : Nat) (v : Value) (ls : List (List CallM)) : Prop where
  ex : ∃ vs : List Value, vs.length = ls.length ∧ w.ownsRow B 47 1 v ls.length vs ∧ ∀ j (h : j < vs.length) (h2 : j < ls.length), w.ownsRow B 53 5 vs[j] ls[j].length (cellsC ls[j])
theorem OwnL.nil (w : World) (B : Nat) : OwnL w B (.slice none 0 0) [] := ⟨⟨[], rfl, World.ownsRow_nil _ _ _ _, fun j h => by cases h⟩⟩
theorem OwnL.keeps {S : Nat → Prop} {w w' : World} {B : Nat} {v : Value} {ls : List (List CallM)} (h : OwnL w B v ls) (hk : Keeps S w w') (hS : ∀ k, B ≤ k → ¬ S k) : OwnL w' B v ls := by
  obtain ⟨vs, h1, h2, h3⟩ := h.ex
  exact ⟨⟨vs, h1, hk.row h2 (fun g hg => hS g (h2.lt g hg).1), fun j hj hj2 => hk.row (h3 j hj hj2) (fun g hg => hS g ((h3 j hj hj2).lt g hg).1)⟩⟩
theorem OwnL.below {w w' : World} {B : Nat} {v : Value} {ls : List (List CallM)} (h : OwnL w B v ls) (hb : Below w.heap.size w w') : OwnL w' B v ls := h.keeps (S := fun _ => False) (Keeps.of_below hb) (fun _ _ h => h)
theorem OwnL.slice {w : World} {B : Nat} {v : Value} {ls : List (List CallM)} (h : OwnL w B v ls) : ∃ p c, v = .slice p ls.length c := by
  obtain ⟨vs, h1, h2, h3⟩ := h.ex
  exact owns_slice h2
theorem OwnL.row {w : World} {B : Nat} {v : Value} {ls : List (List CallM)} (h : OwnL w B v ls) : ∃ xs, w.ownsRow B 47 1 v ls.length xs := by
  obtain ⟨vs, h1, h2, h3⟩ := h.ex
  exact ⟨vs, h2⟩
theorem OwnL.lrow {w : World} {B n c : Nat} {p : Option Addr} {ls : List (List CallM)} (h : OwnL w B (.slice p n c) ls) : LRow w p n c ls := by
  obtain ⟨vs, h1, h2, h3⟩ := h.ex
  obtain ⟨e, hr, hn⟩ := owns_room h2
  refine ⟨e, hr, hn, fun hne => ?_⟩
  have hv := VRow.of_owns (p := p) (n := n) (c := c) (by rw [← e] at h2; exact h2)
  obtain ⟨b, off, hp, hc⟩ := hv.cells (by intro e'; rw [e', List.length_nil] at h1; exact hne (List.eq_nil_of_length_eq_zero h1.symm))
  refine ⟨b, off, hp, fun i hi => ?_⟩
  have hi' : i < vs.length := by omega
  have ho := h3 i hi' hi
  obtain ⟨q, d, eq⟩ := owns_slice ho
  have hcc := hc i hi'
  rw [eq] at hcc ho
  exact ⟨q, d, hcc, VRow.of_owns ho⟩
/-- A row more. -/
theorem OwnL.snoc {w w1 : World} {B : Nat} {v v' u : Value} {ls : List (List CallM)} {l : List CallM} {vs : List Value} (h1 : vs.length = ls.length) (h2 : w.ownsRow B 47 1 v ls.length vs) (h3 : ∀ j (h : j < vs.length) (h2 : j < ls.length), w.ownsRow B 53 5 vs[j] ls[j].length (cellsC ls[j])) (hu : w.ownsRow B 53 5 u l.length (cellsC l)) (hown : w1.ownsRow B 47 1 v' (ls.length + 1) (vs ++ [u])) (hg : w.grownBy w1 v.ownBlock) : OwnL w1 B v' (ls ++ [l]) := by
  have hk : Keeps (fun q => some q = v.ownBlock) w w1 := ⟨hg.os, hg.tape, hg.output, hg.size, fun q hq hn => hg.block q hq hn⟩
  refine ⟨⟨vs ++ [u], by simp [h1], by rw [List.length_append]; exact hown, fun j hj hj2 => ?_⟩⟩
  simp only [List.length_append, List.length_singleton] at hj hj2
  by_cases e : j < vs.length
  · have e2 : j < ls.length := by omega
    rw [List.getElem_append_left e, List.getElem_append_left e2]
    exact hk.row (h3 j e e2) (fun g hg' hS => owns_ne (h3 j e e2) h2 (by decide) hg' hS.symm rfl)
  · rw [List.getElem_append_right (by omega), List.getElem_append_right (by omega)]
    simp only [List.getElem_singleton]
    exact hk.row hu (fun g hg' hS => owns_ne hu h2 (by decide) hg' hS.symm rfl)
/-- What holds while rows of calls are put into the new script. -/
structure OwnIn (W : World) (y k : Nat) (c g : Int) (ps : List Int) (o : Nat) (pp : Option Addr) (dd : Nat) (A : List (List CallM)) (lv : Value) (X : World) : Prop where
  box : X.heap[o]? = some (.cells #[.int .i64 c, .int .i64 g, lv, .slice pp k dd] 25 (0, 0))
  ret : X.heap[y + 1]? = some (.cells #[.int .i64 0, .int .i64 0, .slice none 0 0, .slice none 0 0] 25 (0, 0))
  picks : X.ownsRow (y + 1) 3 1 (.slice pp k dd) k ((ps.take 5000).map (Value.int .i64))
  below : Below y W X
  rows : OwnL X (y + 1) lv A
  lt : y + 1 < o
theorem OwnIn.on {W : World} {y k : Nat} {c g : Int} {ps : List Int} {o : Nat} {pp : Option Addr} {dd : Nat} {A : List (List CallM)} {lv : Value} {X Y : World} (h : OwnIn W y k c g ps o pp dd A lv X) (hb : Below X.heap.size X Y) : OwnIn W y k c g ps o pp dd A lv Y := by
  have ho := (Array.getElem?_eq_some_iff.1 h.box).1
  have hl := h.lt
  exact ⟨(hb.block o ho).trans h.box, (hb.block (y + 1) (by omega)).trans h.ret, owns_below h.picks hb, h.below.trans (hb.mono (by omega)), h.rows.below hb, h.lt⟩
theorem OwnIn.cells {W : World} {y k : Nat} {c g : Int} {ps : List Int} {o : Nat} {pp : Option Addr} {dd : Nat} {A : List (List CallM)} {lv : Value} {X : World} (h : OwnIn W y k c g ps o pp dd A lv X) : (X.cell? ⟨o, 0, none⟩ = some (.int .i64 c) ∧ X.cell? ⟨o, 1, none⟩ = some (.int .i64 g) ∧ X.cell? ⟨o, 2, none⟩ = some lv ∧ X.cell? ⟨o, 3, none⟩ = some (.slice pp k dd)) ∧ X.frozen? ⟨o, 2, none⟩ = false :=
  ⟨⟨by simp [World.cell?, h.box], by simp [World.cell?, h.box], by simp [World.cell?, h.box], by simp [World.cell?, h.box]⟩, by simp [World.frozen?, h.box]⟩
/-- Behind an append to its row of rows: the box is as it was. -/
theorem OwnIn.box2 {W : World} {y k : Nat} {c g : Int} {ps : List Int} {o : Nat} {pp : Option Addr} {dd : Nat} {A : List (List CallM)} {lv : Value} {X Y : World} (h : OwnIn W y k c g ps o pp dd A lv X) (hg : X.grownBy Y lv.ownBlock) : ∀ (b : Nat) (cc : Array Value) (f : Nat × Nat), X.heap[b]? = some (.cells cc 25 f) → Y.heap[b]? = some (.cells cc 25 f) := fun b cc f hc => by
  obtain ⟨xs, hr⟩ := h.rows.row
  exact Far.grown hg hr (by decide) b cc f hc
theorem OwnIn.step {W : World} {y k : Nat} {c g : Int} {ps : List Int} {o : Nat} {pp : Option Addr} {dd : Nat} {A : List (List CallM)} {lv v' u : Value} {l : List CallM} {X Y : World} {vs : List Value} (h : OwnIn W y k c g ps o pp dd A lv X) (h1 : vs.length = A.length) (h2 : X.ownsRow (y + 1) 47 1 lv A.length vs) (h3 : ∀ j (h : j < vs.length) (h2 : j < A.length), X.ownsRow (y + 1) 53 5 vs[j] A[j].length (cellsC A[j])) (hu : X.ownsRow (y + 1) 53 5 u l.length (cellsC l)) (hown : Y.ownsRow (y + 1) 47 1 v' (A.length + 1) (vs ++ [u])) (hg : X.grownBy Y lv.ownBlock) : OwnIn W y k c g ps o pp dd (A ++ [l]) v' (Y.setCell ⟨o, 2, none⟩ v') := by
  have hlt := h.lt
  have hbo := h.box2 hg o _ _ h.box
  have hk : Keeps (fun q => q = o) Y (Y.setCell ⟨o, 2, none⟩ v') := Keeps.setCell Y (S := fun q => q = o) (p := ⟨o, 2, none⟩) rfl _
  have hno : ∀ (E : TypeId) (s n : Nat) (v : Value) (xs : List Value), E ≠ 25 → Y.ownsRow (y + 1) E s v n xs → ∀ gg, v.ownBlock = some gg → ¬ gg = o := fun E s n v xs hE hr gg hgg e => by
    subst e
    obtain ⟨cc, f, h7⟩ := Lib.ownsRow_kind hr _ hgg
    rw [hbo] at h7
    injection h7 with h7
    injection h7 with _ h8
    exact hE h8.symm
  have hp : Y.ownsRow (y + 1) 3 1 (.slice pp k dd) k ((ps.take 5000).map (Value.int .i64)) := h.picks.kept hg (by
    cases hvb : (Value.slice pp k dd).ownBlock with
    | none => exact .inl rfl
    | some gg => exact .inr fun e => owns_ne h.picks h2 (by decide) hvb e.symm rfl)
  have hrow := OwnL.snoc h1 h2 h3 hu hown hg
  have hys : ∀ gg, lv.ownBlock = some gg → y + 1 ≤ gg := fun gg e => (h2.lt gg e).1
  have hsz := (Array.getElem?_eq_some_iff.1 h.box).1
  refine ⟨by rw [heap_setCell_same Y o 2 _ _ _ hbo]; rfl, (hk.block (y + 1) (Array.getElem?_eq_some_iff.1 (h.box2 hg _ _ _ h.ret)).1 (by omega)).trans (h.box2 hg _ _ _ h.ret), hk.row hp (hno _ _ _ _ _ (by decide) hp), ?_, ?_, hlt⟩
  · exact h.below.trans (((Below.refl y X).grown hg (by omega) (fun q e => by have := hys q e; omega)).setCell (p := ⟨o, 2, none⟩) (by show y ≤ o; omega) _)
  · obtain ⟨vs2, e1, e2, e3⟩ := hrow.ex
    exact ⟨⟨vs2, e1, hk.row e2 (hno _ _ _ _ _ (by decide) e2), fun j hj hj2 => hk.row (e3 j hj hj2) (hno _ _ _ _ _ (by decide) (e3 j hj hj2))⟩⟩

/-- Four cells of a block are stored. -/
def _root_.Go.World.store4 (X : World) (o : Nat) (v0 v1 v2 v3 : Value) : World := (((X.setCell ⟨o, 0, none⟩ v0).setCell ⟨o, 1, none⟩ v1).setCell ⟨o, 2, none⟩ v2).setCell ⟨o, 3, none⟩ v3
theorem store4_heap {X : World} {o : Nat} {a0 a1 a2 a3 v0 v1 v2 v3 : Value} {T : TypeId} (h : X.heap[o]? = some (.cells #[a0, a1, a2, a3] T (0, 0))) : (X.store4 o v0 v1 v2 v3).heap[o]? = some (.cells #[v0, v1, v2, v3] T (0, 0)) ∧ Keeps (fun q => q = o) X (X.store4 o v0 v1 v2 v3) := by
  have e1 : (X.setCell ⟨o, 0, none⟩ v0).heap[o]? = some (.cells #[v0, a1, a2, a3] T (0, 0)) := by rw [heap_setCell_same X o 0 _ _ v0 h]; rfl
  have e2 : ((X.setCell ⟨o, 0, none⟩ v0).setCell ⟨o, 1, none⟩ v1).heap[o]? = some (.cells #[v0, v1, a2, a3] T (0, 0)) := by rw [heap_setCell_same _ o 1 _ _ v1 e1]; rfl
  have e3 : (((X.setCell ⟨o, 0, none⟩ v0).setCell ⟨o, 1, none⟩ v1).setCell ⟨o, 2, none⟩ v2).heap[o]? = some (.cells #[v0, v1, v2, a3] T (0, 0)) := by rw [heap_setCell_same _ o 2 _ _ v2 e2]; rfl
  have k0 : ∀ (X : World) (i : Nat) (v : Value), Keeps (fun q => q = o) X (X.setCell ⟨o, i, none⟩ v) := fun X i v => Keeps.setCell X (S := fun q => q = o) (p := ⟨o, i, none⟩) rfl v
  unfold World.store4
  exact ⟨by rw [heap_setCell_same _ o 3 _ _ v3 e3]; rfl, ((k0 _ 0 v0).trans (k0 _ 1 v1)).trans ((k0 _ 2 v2).trans (k0 _ 3 v3))⟩
/-- Behind the last row: the new script is answered. -/
theorem OwnIn.fin {W : World} {y k : Nat} {c g : Int} {ps : List Int} {o : Nat} {pp : Option Addr} {dd : Nat} {A : List (List CallM)} {p2 : Option Addr} {c2 : Nat} {X : World} (h : OwnIn W y k c g ps o pp dd A (.slice p2 A.length c2) X) (Y : World) (hY : Y = X.store4 (y + 1) (.int .i64 c) (.int .i64 g) (.slice p2 A.length c2) (.slice pp k dd)) :
    Y.heap[y + 1]? = some (.cells #[.int .i64 c, .int .i64 g, .slice p2 A.length c2, .slice pp k dd] 25 (0, 0)) ∧ OwnL Y (y + 1) (.slice p2 A.length c2) A ∧ Y.ownsRow (y + 1) 3 1 (.slice pp k dd) k ((ps.take 5000).map (Value.int .i64)) ∧ Below y W Y := by
  obtain ⟨hn, hk⟩ := store4_heap (v0 := .int .i64 c) (v1 := .int .i64 g) (v2 := .slice p2 A.length c2) (v3 := .slice pp k dd) h.ret
  rw [← hY] at hn hk
  have hno : ∀ (E : TypeId) (s n : Nat) (v : Value) (xs : List Value), E ≠ 25 → X.ownsRow (y + 1) E s v n xs → ∀ gg, v.ownBlock = some gg → ¬ gg = y + 1 := fun E s n v xs hE hr gg hgg e => by
    subst e
    obtain ⟨cc, f, h7⟩ := Lib.ownsRow_kind hr _ hgg
    rw [h.ret] at h7
    injection h7 with h7
    injection h7 with _ h8
    exact hE h8.symm
  obtain ⟨vs2, e1, e2, e3⟩ := h.rows.ex
  have hsz := (Array.getElem?_eq_some_iff.1 h.ret).1
  refine ⟨hn, ⟨⟨vs2, e1, hk.row e2 (hno _ _ _ _ _ (by decide) e2), fun j hj hj2 => hk.row (e3 j hj hj2) (hno _ _ _ _ _ (by decide) (e3 j hj hj2))⟩⟩, hk.row h.picks (hno _ _ _ _ _ (by decide) h.picks), h.below.trans (hk.below (by omega) (fun q hq => by omega))⟩
/-- What holds where the new script lies, its rows of calls to come. -/
def OwnMid (W : World) (y n cp : Nat) (p q : Option Addr) (m d k : Nat) (c g : Int) (ps : List Int) (o : Nat) (pp : Option Addr) (dd : Nat) (X : World) : Prop :=
  X.heap[o]? = some (.cells #[.int .i64 c, .int .i64 g, .slice none 0 0, .slice pp k dd] 25 (0, 0)) ∧ X.heap[y]? = some (.cells #[.int .i64 c, .int .i64 g, .slice p n cp, .slice q m d] 25 (0, 0)) ∧
  X.heap[y + 1]? = some (.cells #[.int .i64 0, .int .i64 0, .slice none 0 0, .slice none 0 0] 25 (0, 0)) ∧ X.ownsRow (y + 1) 3 1 (.slice pp k dd) k ((ps.take 5000).map (Value.int .i64)) ∧ Below y W X ∧ y + 1 < o ∧ o < X.heap.size
theorem ownMid_of {W : World} {y n cp : Nat} {p q : Option Addr} {m d k : Nat} {c g : Int} {ps : List Int} {o : Nat} {pp : Option Addr} {dd : Nat} {X : World} (h0 : X.heap[o]? = some (.cells #[.int .i64 0, .int .i64 0, .slice none 0 0, .slice none 0 0] 25 (0, 0)))
    (h1 : X.heap[y]? = some (.cells #[.int .i64 c, .int .i64 g, .slice p n cp, .slice q m d] 25 (0, 0))) (h2 : X.heap[y + 1]? = some (.cells #[.int .i64 0, .int .i64 0, .slice none 0 0, .slice none 0 0] 25 (0, 0)))
    (h3 : X.ownsRow (y + 1) 3 1 (.slice pp k dd) k ((ps.take 5000).map (Value.int .i64))) (h4 : Below y W X) (h5 : y + 1 < o) (h6 : o < X.heap.size) :
    OwnMid W y n cp p q m d k c g ps o pp dd (X.store4 o (.int .i64 c) (.int .i64 g) (.slice none 0 0) (.slice pp k dd)) ∧ X.cell? ⟨o, 0, none⟩ = some (.int .i64 0) ∧ X.cell? ⟨o, 1, none⟩ = some (.int .i64 0) ∧ X.cell? ⟨o, 2, none⟩ = some (.slice none 0 0) ∧ X.cell? ⟨o, 3, none⟩ = some (.slice none 0 0) ∧
      X.frozen? ⟨o, 0, none⟩ = false ∧ X.frozen? ⟨o, 1, none⟩ = false ∧ X.frozen? ⟨o, 2, none⟩ = false ∧ X.frozen? ⟨o, 3, none⟩ = false := by
  obtain ⟨hn, hk⟩ := store4_heap (v0 := .int .i64 c) (v1 := .int .i64 g) (v2 := .slice none 0 0) (v3 := .slice pp k dd) h0
  refine ⟨⟨hn, (hk.block y (by omega) (by omega)).trans h1, (hk.block (y + 1) (by omega) (by omega)).trans h2, hk.row h3 (fun gg hg e => ?_), h4.trans (hk.below (by omega) (fun q hq => by omega)), h5, Nat.lt_of_lt_of_le h6 hk.size⟩, by simp [World.cell?, h0], by simp [World.cell?, h0], by simp [World.cell?, h0], by simp [World.cell?, h0], by simp [World.frozen?, h0], by simp [World.frozen?, h0], by simp [World.frozen?, h0], by simp [World.frozen?, h0]⟩
  subst e
  obtain ⟨cc, f, h7⟩ := Lib.ownsRow_kind h3 _ hg
  rw [h0] at h7
  injection h7 with h7
  injection h7 with _ h8
  exact absurd h8 (by decide)

/-- A script in memory of its own. -/
def OwnSc (B : Nat) (s : SM) (v : Value) (w : World) : Prop := ∃ p c q m d, v = .agg #[.int .i64 s.c, .int .i64 s.g, .slice p s.ls.length c, .slice q m d] ∧ OwnL w B (.slice p s.ls.length c) s.ls ∧ w.ownsRow B 3 1 (.slice q m d) m (s.ps.map (Value.int .i64))
theorem OwnSc.sat {B : Nat} {s : SM} {v : Value} {w : World} (h : OwnSc B s v w) : SAt w v s := by
  obtain ⟨p, c, q, m, d, rfl, h1, h2⟩ := h
  have hm : m = s.ps.length := by have := h2.1; simp at this; omega
  subst hm
  exact ⟨_, _, _, _, _, _, rfl, h1.lrow, RI.of_owns h2⟩
theorem OwnSc.below {B : Nat} {s : SM} {v : Value} {w w' : World} (h : OwnSc B s v w) (hb : Below w.heap.size w w') : OwnSc B s v w' := by
  obtain ⟨p, c, q, m, d, rfl, h1, h2⟩ := h
  exact ⟨_, _, _, _, _, rfl, h1.below hb, owns_below h2 hb⟩
/-- .. stays, behind stores into a block of another kind. -/
theorem OwnSc.other {B z : Nat} {s : SM} {v : Value} {w w' : World} {cs : Array Value} {f : Nat × Nat} (h : OwnSc B s v w) (hz : w.heap[z]? = some (.cells cs 25 f)) (hk : Keeps (fun q => q = z) w w') : OwnSc B s v w' := by
  obtain ⟨p, c, q, m, d, rfl, h1, h2⟩ := h
  have hno : ∀ (E : TypeId) (s n : Nat) (v : Value) (xs : List Value), E ≠ 25 → w.ownsRow B E s v n xs → ∀ gg, v.ownBlock = some gg → ¬ gg = z := fun E s n v xs hE hr gg hgg e => by
    subst e
    obtain ⟨cc, f, h7⟩ := Lib.ownsRow_kind hr _ hgg
    rw [hz] at h7
    injection h7 with h7
    injection h7 with _ h8
    exact hE h8.symm
  obtain ⟨vs2, e1, e2, e3⟩ := h1.ex
  exact ⟨_, _, _, _, _, rfl, ⟨⟨vs2, e1, hk.row e2 (hno _ _ _ _ _ (by decide) e2), fun j hj hj2 => hk.row (e3 j hj hj2) (hno _ _ _ _ _ (by decide) (e3 j hj hj2))⟩⟩, hk.row h2 (hno _ _ _ _ _ (by decide) h2)⟩

set_option maxRecDepth 100000 in
set_option maxHeartbeats 4000000 in
theorem own_o (v : Value) (s : SM) (W : World) (hs : SAt W v s) (hll : ∀ l ∈ s.ls, l.length ≤ 9223372036854775807) (hln : s.ls.length ≤ 9223372036854775807) (hpn : s.ps.length ≤ 9223372036854775807) :
    Calls Tryd.prog 9 #[v] W fun e w' => (∃ v', e = .returned v' ∧ OwnSc (W.heap.size + 1) (ownS s) v' w') ∧ Below W.heap.size W w' := by
  obtain ⟨p, n, cp, q, m, d, rfl, h1, h2⟩ := hs
  obtain ⟨c, g, ls, ps⟩ := s
  simp only at h1 h2 hll hln hpn ⊢
  obtain ⟨w0, hw0⟩ : ∃ w : World, w = (W.alloc (.cells #[.int .i64 c, .int .i64 g, .slice p n cp, .slice q m d] 25)).alloc (.cells #[.int .i64 0, .int .i64 0, .slice none 0 0, .slice none 0 0] 25) := ⟨_, rfl⟩
  have hb0 : Below W.heap.size W w0 := by rw [hw0]; exact ((Below.refl _ _).alloc (Nat.le_refl _) _).alloc (by simp) _
  obtain ⟨y, hy⟩ : ∃ y, y = W.heap.size := ⟨_, rfl⟩
  have hsb : w0.heap[y]? = some (.cells #[.int .i64 c, .int .i64 g, .slice p n cp, .slice q m d] 25 (0, 0)) := by
    rw [hw0, hy]; exact (Below.heap_alloc _ _ _ (by simp)).trans (World.alloc_heap_new W _)
  have hrb : w0.heap[y + 1]? = some (.cells #[.int .i64 0, .int .i64 0, .slice none 0 0, .slice none 0 0] 25 (0, 0)) := by
    rw [hw0, hy]
    have := World.alloc_heap_new (W.alloc (.cells #[.int .i64 c, .int .i64 g, .slice p n cp, .slice q m d] 25)) (.cells #[.int .i64 0, .int .i64 0, .slice none 0 0, .slice none 0 0] 25)
    rwa [World.size_alloc] at this
  have hw0s : w0.heap.size = y + 1 + 1 := by rw [hw0, hy]; simp
  obtain ⟨k, hk⟩ : ∃ k, k = min m 5000 := ⟨_, rfl⟩
  have hkm : k ≤ m := by omega
  have hk5 : k ≤ 5000 := by omega
  have hm : ∀ w, (Builtin.min_ #[3, 3] 3 #[.int .i64 (m : Int), .int .i64 5000]).run Tryd.prog w = .ok (.int .i64 (k : Int)) w := fun w => by
    have : (if (5000 : Int) < (m : Int) then (5000 : Int) else m) = (k : Int) := by rw [hk]; split <;> omega
    simp [Builtin.min_, Builtin.min2, this]
  have hcut := run_cutI q m d k (Nat.le_trans hkm h2.room)
  have hpk : ps.take k = ps.take 5000 := by
    rw [hk, h2.len]
    by_cases h6 : ps.length ≤ 5000
    · rw [Nat.min_eq_left h6, List.take_length, List.take_of_length_le h6]
    · rw [Nat.min_eq_right (by omega)]
  have HCL := Lib.hid (show ∀ X, Below W.heap.size W X → Calls Tryd.prog 25 #[.slice q k d] X fun e w' => (∃ p' d', e = .returned (.slice p' k d') ∧ w'.ownsRow X.heap.size 3 1 (.slice p' k d') k ((ps.take 5000).map (Value.int .i64))) ∧ Below X.heap.size X w' from fun X hX => by
    have hT := (h2.below hX).take k hkm
    refine (cloneI _ k _ X hT.vals (fun u hu => by obtain ⟨x, _, rfl⟩ := List.mem_map.1 hu; rfl) (by omega)).mono ?_
    rintro e w' ⟨⟨v', rfl, ho⟩, hb⟩
    obtain ⟨p', d', rfl⟩ := owns_slice ho
    rw [hpk] at ho
    exact ⟨⟨p', d', rfl, ho⟩, hb⟩)
  have HL := Lib.hid h1
  have HLL := Lib.hid hll
  have HNL := Lib.hid h1.len
  have hnl : n ≤ 9223372036854775807 := by rw [h1.len]; exact hln
  have hml : m ≤ 9223372036854775807 := by rw [h2.len]; exact hpn
  have HW0 := Lib.hid hw0
  have HY := Lib.hid hy
  have HB0 := Lib.hid (show Below y W w0 by rw [hy]; exact hb0)
  clear hw0 hb0 hk hpk h1 h2 hll hln hpn hy
  go_enter Tryd.func9, Tryd.ntmps9
  go_upto_region 1 with (fail)
  rw [← HW0.out, ← HY.out]
  refine wpTwo_begin (T := fun w' => w'.heap[y]? = some (.cells #[.int .i64 c, .int .i64 g, .slice p n cp, .slice q m d] 25 (0, 0))) (S := fun _ => True) (late := fun _ => false) (by kernel_rfl) ?_
  obtain ⟨X0, hX0⟩ : ∃ X : World, X = w0.drew := ⟨_, rfl⟩
  have hd : Below w0.heap.size w0 X0 := by rw [hX0]; exact (Below.refl _ _).drew
  have hT0 : X0.heap[y]? = some (.cells #[.int .i64 c, .int .i64 g, .slice p n cp, .slice q m d] 25 (0, 0)) := by rw [hX0]; exact hsb
  have hR0 : X0.heap[y + 1]? = some (.cells #[.int .i64 0, .int .i64 0, .slice none 0 0, .slice none 0 0] 25 (0, 0)) := by rw [hX0]; exact hrb
  have hX0s : X0.heap.size = y + 1 + 1 := by rw [hX0]; exact hw0s
  have HB1 := Lib.hid (HB0.out.trans (hd.mono (by omega)))
  rw [← hX0]
  clear hX0 hd hsb hrb
  refine wpTwo_takeT (i := 0) (v := .pointer (some ⟨y, 0, none⟩)) rfl (by kernel_rfl) (by kernel_rfl) (by kernel_rfl) (fun _ _ _ h => h) ⟨by rfl, ?_⟩ hT0 ?_
  · intro w _
    go_simp
  (try simp only [Act.put, List.getElem_toArray, List.getElem_cons_zero, List.setIfInBounds_toArray, List.set_cons_succ, List.set_cons_zero])
  refine wpTwo_takeT (i := 1) (v := .int .i64 c) rfl (by kernel_rfl) (by kernel_rfl) (by kernel_rfl) (fun _ _ _ h => h) ⟨by rfl, ?_⟩ hT0 ?_
  · intro w hTw
    have hl : w.cell? ⟨y, 0, none⟩ = some (.int .i64 c) := by simp [World.cell?, hTw]
    clear hTw
    go_simp
  (try simp only [Act.put, List.getElem_toArray, List.getElem_cons_succ, List.getElem_cons_zero, List.setIfInBounds_toArray, List.set_cons_succ, List.set_cons_zero])
  refine wpTwo_takeT (i := 2) (v := .pointer (some ⟨y, 1, none⟩)) rfl (by kernel_rfl) (by kernel_rfl) (by kernel_rfl) (fun _ _ _ h => h) ⟨by rfl, ?_⟩ hT0 ?_
  · intro w _
    go_simp
  (try simp only [Act.put, List.getElem_toArray, List.getElem_cons_succ, List.getElem_cons_zero, List.setIfInBounds_toArray, List.set_cons_succ, List.set_cons_zero])
  refine wpTwo_takeT (i := 3) (v := .int .i64 g) rfl (by kernel_rfl) (by kernel_rfl) (by kernel_rfl) (fun _ _ _ h => h) ⟨by rfl, ?_⟩ hT0 ?_
  · intro w hTw
    have hl : w.cell? ⟨y, 1, none⟩ = some (.int .i64 g) := by simp [World.cell?, hTw]
    clear hTw
    go_simp
  (try simp only [Act.put, List.getElem_toArray, List.getElem_cons_succ, List.getElem_cons_zero, List.setIfInBounds_toArray, List.set_cons_succ, List.set_cons_zero])
  refine wpTwo_takeT (i := 4) (v := .pointer (some ⟨y, 3, none⟩)) rfl (by kernel_rfl) (by kernel_rfl) (by kernel_rfl) (fun _ _ _ h => h) ⟨by rfl, ?_⟩ hT0 ?_
  · intro w _
    go_simp
  (try simp only [Act.put, List.getElem_toArray, List.getElem_cons_succ, List.getElem_cons_zero, List.setIfInBounds_toArray, List.set_cons_succ, List.set_cons_zero])
  refine wpTwo_takeT (i := 5) (v := .slice q m d) rfl (by kernel_rfl) (by kernel_rfl) (by kernel_rfl) (fun _ _ _ h => h) ⟨by rfl, ?_⟩ hT0 ?_
  · intro w hTw
    have hl : w.cell? ⟨y, 3, none⟩ = some (.slice q m d) := by simp [World.cell?, hTw]
    clear hTw
    go_simp
  (try simp only [Act.put, List.getElem_toArray, List.getElem_cons_succ, List.getElem_cons_zero, List.setIfInBounds_toArray, List.set_cons_succ, List.set_cons_zero])
  refine wpTwo_takeT (i := 6) (v := .pointer (some ⟨y, 3, none⟩)) rfl (by kernel_rfl) (by kernel_rfl) (by kernel_rfl) (fun _ _ _ h => h) ⟨by rfl, ?_⟩ hT0 ?_
  · intro w _
    go_simp
  (try simp only [Act.put, List.getElem_toArray, List.getElem_cons_succ, List.getElem_cons_zero, List.setIfInBounds_toArray, List.set_cons_succ, List.set_cons_zero])
  refine wpTwo_takeT (i := 7) (v := .slice q m d) rfl (by kernel_rfl) (by kernel_rfl) (by kernel_rfl) (fun _ _ _ h => h) ⟨by rfl, ?_⟩ hT0 ?_
  · intro w hTw
    have hl : w.cell? ⟨y, 3, none⟩ = some (.slice q m d) := by simp [World.cell?, hTw]
    clear hTw
    go_simp
  (try simp only [Act.put, List.getElem_toArray, List.getElem_cons_succ, List.getElem_cons_zero, List.setIfInBounds_toArray, List.set_cons_succ, List.set_cons_zero])
  refine wpTwo_takeT (i := 8) (v := .int .i64 (m : Int)) rfl (by kernel_rfl) (by kernel_rfl) (by kernel_rfl) (fun _ _ _ h => h) ⟨by rfl, ?_⟩ hT0 ?_
  · intro w _
    go_simp
  (try simp only [Act.put, List.getElem_toArray, List.getElem_cons_succ, List.getElem_cons_zero, List.setIfInBounds_toArray, List.set_cons_succ, List.set_cons_zero])
  refine wpTwo_takeT (i := 9) (v := .int .i64 (k : Int)) rfl (by kernel_rfl) (by kernel_rfl) (by kernel_rfl) (fun _ _ _ h => h) ⟨by rfl, ?_⟩ hT0 ?_
  · intro w _
    go_simp
  (try simp only [Act.put, List.getElem_toArray, List.getElem_cons_succ, List.getElem_cons_zero, List.setIfInBounds_toArray, List.set_cons_succ, List.set_cons_zero])
  refine wpTwo_takeT (i := 10) (v := .slice q k d) rfl (by kernel_rfl) (by kernel_rfl) (by kernel_rfl) (fun _ _ _ h => h) ⟨by rfl, ?_⟩ hT0 ?_
  · intro w _
    go_simp
  (try simp only [Act.put, List.getElem_toArray, List.getElem_cons_succ, List.getElem_cons_zero, List.setIfInBounds_toArray, List.set_cons_succ, List.set_cons_zero])
  refine (fun (hGoal : ∀ (o : Nat) (pp : Option Addr) (dd : Nat) (X : World), OwnMid W y n cp p q m d k c g ps o pp dd X → (?G : Nat → Option Addr → Nat → World → Prop) o pp dd X) => ?main) ?tail
  case main =>
    refine wpTwo_ready (rs := [11, 13]) (by kernel_rfl) (by simp) ?_
    refine (AllTwo.cons rfl (fun K hK => ?_) (AllTwo.cons rfl (fun K hK => ?_) AllTwo.nil))
    · go_simp
      refine (HCL.out X0 (show Below W.heap.size W X0 by rw [← HY.out]; exact HB1.out)).mono ?_
      rintro e X1 ⟨⟨p', d', rfl, ho⟩, hb1⟩
      have hT1 : X1.heap[y]? = some (.cells #[.int .i64 c, .int .i64 g, .slice p n cp, .slice q m d] 25 (0, 0)) := (hb1.block y (by omega)).trans hT0
      have hR1 : X1.heap[y + 1]? = some (.cells #[.int .i64 0, .int .i64 0, .slice none 0 0, .slice none 0 0] 25 (0, 0)) := (hb1.block (y + 1) (by omega)).trans hR0
      have hB2 : Below y W X1 := HB1.out.trans (hb1.mono (by omega))
      have hX1s := hb1.size
      have HO := Lib.hid ho
      go_wp2_with fail
      refine hK.out _ _ ⟨hT1, fun _ _ => trivial⟩ ?_
      clear hK K hb1 ho
      (try simp only [Act.put, List.getElem_toArray, List.getElem_cons_succ, List.getElem_cons_zero, List.setIfInBounds_toArray, List.set_cons_succ, List.set_cons_zero])
      refine wpTwo_takeT (i := 12) (v := .agg #[.int .i64 c, .int .i64 g, .slice none 0 0, .slice p' k d']) rfl (by kernel_rfl) (by kernel_rfl) (by kernel_rfl) (fun _ _ _ h => h) ⟨by rfl, ?_⟩ hT1 ?_
      · intro w _
        go_simp
      (try simp only [Act.put, List.getElem_toArray, List.getElem_cons_succ, List.getElem_cons_zero, List.setIfInBounds_toArray, List.set_cons_succ, List.set_cons_zero])
      refine wpTwo_ready (rs := [13]) (by kernel_rfl) (by simp) ?_
      refine (AllTwo.cons rfl (fun K hK => ?_) AllTwo.nil)
      obtain ⟨X2, hX2⟩ : ∃ X : World, X = X1.alloc (.cells #[.int .i64 0, .int .i64 0, .slice none 0 0, .slice none 0 0] 25) := ⟨_, rfl⟩
      have hb2 : Below X1.heap.size X1 X2 := by rw [hX2]; exact (Below.refl _ _).alloc (Nat.le_refl _) _
      have hnew : X2.heap[X1.heap.size]? = some (.cells #[.int .i64 0, .int .i64 0, .slice none 0 0, .slice none 0 0] 25 (0, 0)) := by rw [hX2]; exact World.alloc_heap_new _ _
      have hT2 : X2.heap[y]? = some (.cells #[.int .i64 c, .int .i64 g, .slice p n cp, .slice q m d] 25 (0, 0)) := (hb2.block y (by omega)).trans hT1
      go_simp
      rw [← hX2]
      obtain ⟨o, ho⟩ : ∃ o, o = X1.heap.size := ⟨_, rfl⟩
      rw [← ho]
      rw [← ho] at hnew
      have hyo : y + 1 < o := by omega
      clear ho
      refine hK.out _ _ ⟨hT2, fun _ _ => trivial⟩ ?_
      clear hK K hX2
      (try simp only [Act.put, List.getElem_toArray, List.getElem_cons_succ, List.getElem_cons_zero, List.setIfInBounds_toArray, List.set_cons_succ, List.set_cons_zero])
      have hMid := ownMid_of (W := W) (y := y) (n := n) (cp := cp) (p := p) (q := q) (m := m) (d := d) (k := k) (c := c) (g := g) (ps := ps) (o := o) (pp := p') (dd := d') (X := X2) hnew hT2 ((hb2.block (y + 1) (by omega)).trans hR1) (owns_below (HO.out.mono (by omega)) hb2) (hB2.trans (hb2.mono (by omega))) hyo (by have := (Array.getElem?_eq_some_iff.1 hnew).1; omega)
      obtain ⟨hM, hq0, hq1, hq2, hq3, hf0, hf1, hf2, hf3⟩ := hMid
      refine wpTwo_ready (rs := [14]) (by kernel_rfl) (by simp) ?_
      refine (AllTwo.cons rfl (fun K hK => ?_) AllTwo.nil)
      have hTe : (X2.store4 o (.int .i64 c) (.int .i64 g) (.slice none 0 0) (.slice p' k d')).heap[y]? = some (.cells #[.int .i64 c, .int .i64 g, .slice p n cp, .slice q m d] 25 (0, 0)) := hM.2.1
      go_simp
      refine hK.out _ _ ⟨hTe, fun _ _ => trivial⟩ ?_
      clear hK K hq0 hq1 hq2 hq3 hf0 hf1 hf2 hf3
      (try simp only [Act.put, List.getElem_toArray, List.getElem_cons_succ, List.getElem_cons_zero, List.setIfInBounds_toArray, List.set_cons_succ, List.set_cons_zero])
      refine wpTwo_end (by kernel_rfl) ?_ _
      exact hGoal o p' d' _ hM
    · obtain ⟨X1, hX1⟩ : ∃ X : World, X = X0.alloc (.cells #[.int .i64 0, .int .i64 0, .slice none 0 0, .slice none 0 0] 25) := ⟨_, rfl⟩
      have hb1 : Below X0.heap.size X0 X1 := by rw [hX1]; exact (Below.refl _ _).alloc (Nat.le_refl _) _
      have hnew : X1.heap[X0.heap.size]? = some (.cells #[.int .i64 0, .int .i64 0, .slice none 0 0, .slice none 0 0] 25 (0, 0)) := by rw [hX1]; exact World.alloc_heap_new _ _
      have hT1 : X1.heap[y]? = some (.cells #[.int .i64 c, .int .i64 g, .slice p n cp, .slice q m d] 25 (0, 0)) := (hb1.block y (by omega)).trans hT0
      have hR1 : X1.heap[y + 1]? = some (.cells #[.int .i64 0, .int .i64 0, .slice none 0 0, .slice none 0 0] 25 (0, 0)) := (hb1.block (y + 1) (by omega)).trans hR0
      have hB2 : Below y W X1 := HB1.out.trans (hb1.mono (by omega))
      have hX1s := hb1.size
      go_simp
      rw [← hX1]
      rw [hX0s] at hnew
      obtain ⟨o, ho⟩ : ∃ o, o = y + 1 + 1 := ⟨_, rfl⟩
      rw [← ho]
      rw [← ho] at hnew
      have hyo : y + 1 < o := by omega
      clear ho
      refine hK.out _ _ ⟨hT1, fun _ _ => trivial⟩ ?_
      clear hK K hX1
      (try simp only [Act.put, List.getElem_toArray, List.getElem_cons_succ, List.getElem_cons_zero, List.setIfInBounds_toArray, List.set_cons_succ, List.set_cons_zero])
      refine wpTwo_ready (rs := [11]) (by kernel_rfl) (by simp) ?_
      refine (AllTwo.cons rfl (fun K hK => ?_) AllTwo.nil)
      go_simp
      refine (HCL.out X1 (show Below W.heap.size W X1 by rw [← HY.out]; exact hB2)).mono ?_
      rintro e X2 ⟨⟨p', d', rfl, hoo⟩, hb2⟩
      have hT2 : X2.heap[y]? = some (.cells #[.int .i64 c, .int .i64 g, .slice p n cp, .slice q m d] 25 (0, 0)) := (hb2.block y (by omega)).trans hT1
      have HO := Lib.hid hoo
      go_wp2_with fail
      refine hK.out _ _ ⟨hT2, fun _ _ => trivial⟩ ?_
      clear hK K hoo
      (try simp only [Act.put, List.getElem_toArray, List.getElem_cons_succ, List.getElem_cons_zero, List.setIfInBounds_toArray, List.set_cons_succ, List.set_cons_zero])
      refine wpTwo_takeT (i := 12) (v := .agg #[.int .i64 c, .int .i64 g, .slice none 0 0, .slice p' k d']) rfl (by kernel_rfl) (by kernel_rfl) (by kernel_rfl) (fun _ _ _ h => h) ⟨by rfl, ?_⟩ hT2 ?_
      · intro w _
        go_simp
      (try simp only [Act.put, List.getElem_toArray, List.getElem_cons_succ, List.getElem_cons_zero, List.setIfInBounds_toArray, List.set_cons_succ, List.set_cons_zero])
      have hol := (Array.getElem?_eq_some_iff.1 hnew).1
      have hMid := ownMid_of (W := W) (y := y) (n := n) (cp := cp) (p := p) (q := q) (m := m) (d := d) (k := k) (c := c) (g := g) (ps := ps) (o := o) (pp := p') (dd := d') (X := X2) ((hb2.block o hol).trans hnew) hT2 ((hb2.block (y + 1) (by omega)).trans hR1) (HO.out.mono (by omega)) (hB2.trans (hb2.mono (by omega))) hyo (by have := hb2.size; omega)
      obtain ⟨hM, hq0, hq1, hq2, hq3, hf0, hf1, hf2, hf3⟩ := hMid
      refine wpTwo_ready (rs := [14]) (by kernel_rfl) (by simp) ?_
      refine (AllTwo.cons rfl (fun K hK => ?_) AllTwo.nil)
      have hTe : (X2.store4 o (.int .i64 c) (.int .i64 g) (.slice none 0 0) (.slice p' k d')).heap[y]? = some (.cells #[.int .i64 c, .int .i64 g, .slice p n cp, .slice q m d] 25 (0, 0)) := hM.2.1
      go_simp
      refine hK.out _ _ ⟨hTe, fun _ _ => trivial⟩ ?_
      clear hK K hq0 hq1 hq2 hq3 hf0 hf1 hf2 hf3
      (try simp only [Act.put, List.getElem_toArray, List.getElem_cons_succ, List.getElem_cons_zero, List.setIfInBounds_toArray, List.set_cons_succ, List.set_cons_zero])
      refine wpTwo_end (by kernel_rfl) ?_ _
      exact hGoal o p' d' _ hM
  case tail =>
    intro o pp dd X HM
    have hyo : y + 1 < o := HM.2.2.2.2.2.1
    have hq2 : X.cell? ⟨y, 2, none⟩ = some (.slice p n cp) := by simp [World.cell?, HM.2.1]
    have HM0 := Lib.hid HM
    clear HM HCL hm hcut hT0 hR0
    go_wp2
    go_loopw [22] (fun iv wr => ∃ i : Nat, i ≤ n ∧ iv = .int .i64 i ∧ Hid (∃ lv, OwnIn W y k c g ps o pp dd (((ls.take 10).take i).map (·.take 70)) lv wr)) (fun iv _ => n - (intOf iv).toNat)
    case atStart => exact ⟨0, Nat.zero_le _, rfl, Lib.hid ⟨_, HM0.out.1, HM0.out.2.2.1, HM0.out.2.2.2.1, HM0.out.2.2.2.2.1, OwnL.nil _ _, hyo⟩⟩
    case round =>
      obtain ⟨i, hi, rfl, HI⟩ := hrel
      by_cases hlt : i < n
      · have hil : i < ls.length := by have := HNL.out; omega
        obtain ⟨lv, hI⟩ := HI.out
        have hBW : Below W.heap.size W wr := by rw [← HY.out]; exact hI.below
        obtain ⟨b, off, rfl, hcs⟩ := HL.out.cells (by intro e; rw [e] at hil; cases hil)
        obtain ⟨q2, d2, hx1, hV1⟩ := hcs i hil
        have hx := below_cell hBW hx1
        have hVr := hV1.below hBW
        have hll := HLL.out _ (List.getElem_mem hil)
        by_cases hi10 : i < 10
        · have hA : ((ls.take 10).take (i + 1)).map (·.take 70) = ((ls.take 10).take i).map (·.take 70) ++ [ls[i].take 70] := by
            rw [cut_snoc _ i (by rw [List.length_take]; omega)]
            simp only [List.getElem_take]
          have hAl : (((ls.take 10).take i).map (fun l : List CallM => l.take 70)).length = i := by rw [List.length_map, List.length_take, List.length_take]; omega
          obtain ⟨A, hAe⟩ : ∃ A, A = ((ls.take 10).take i).map (fun l : List CallM => l.take 70) := ⟨_, rfl⟩
          have hI : OwnIn W y k c g ps o pp dd A lv wr := by rw [hAe]; exact hI
          rw [← hAe] at hA hAl
          obtain ⟨L, hL⟩ : ∃ L, L = ls[i] := ⟨_, rfl⟩
          rw [← hL] at hx hVr hA hll
          obtain ⟨M, hM⟩ : ∃ M, M = L.length := ⟨_, rfl⟩
          rw [← hM] at hx hVr hll
          obtain ⟨k7, hk7⟩ : ∃ k, k = min M 70 := ⟨_, rfl⟩
          have hm7 : ∀ w, (Builtin.min_ #[3, 3] 3 #[.int .i64 (M : Int), .int .i64 70]).run Tryd.prog w = .ok (.int .i64 (k7 : Int)) w := fun w => by
            have : (if (70 : Int) < (M : Int) then (70 : Int) else M) = (k7 : Int) := by rw [hk7]; split <;> omega
            simp [Builtin.min_, Builtin.min2, this]
          have hk70 : k7 ≤ 70 := by omega
          have hkM : k7 ≤ M := by omega
          have hcut7 := run_cutC q2 M d2 k7 (Nat.le_trans hkM hVr.room)
          have hLk : L.take k7 = L.take 70 := by
            rw [hk7, hM]
            by_cases h6 : L.length ≤ 70
            · rw [Nat.min_eq_left h6, List.take_length, List.take_of_length_le h6]
            · rw [Nat.min_eq_right (by omega)]
          have hLl : (L.take 70).length = k7 := by rw [← hLk, List.length_take]; omega
          have HCC := Lib.hid (show ∀ X, Below wr.heap.size wr X → Calls Tryd.prog 26 #[.slice q2 k7 d2] X fun e w' => OwnsNew X.heap.size 53 5 k7 (cellsC (L.take 70)) e w' ∧ Below X.heap.size X w' from fun X hX => by
            have hT := (hVr.below hX).take k7 hkM
            rw [hLk] at hT
            exact cloneC _ k7 _ X (hT.vals (by decide)) (cellsC_one _) (by omega))
          have HA := Lib.hid hA
          have HAL := Lib.hid hAl
          have HLl := Lib.hid hLl
          have hyw : y + 1 ≤ wr.heap.size := by have := (Array.getElem?_eq_some_iff.1 hI.box).1; omega
          have HIN := Lib.hid hI
          clear hcs hx1 hV1 hVr hBW hLk hLl hA hAl hI hAe hL hM hk7
          go_upto_region 6 with (fail)
          refine wpTwo_begin (T := fun _ => True) (S := fun w' => w'.cell? ⟨o, 2, none⟩ = some lv) (late := fun j => [11].contains j) (by kernel_rfl) ?_
          obtain ⟨Y0, hY0⟩ : ∃ X : World, X = wr.drew := ⟨_, rfl⟩
          have hd : Below wr.heap.size wr Y0 := by rw [hY0]; exact (Below.refl _ _).drew
          have HI0 := Lib.hid (HIN.out.on hd)
          have hS0 := HI0.out.cells.1.2.2.1
          have hY0s : Y0.heap.size = wr.heap.size := by rw [hY0]; rfl
          rw [← hY0]
          clear hY0
          refine wpTwo_takeT (i := 0) (v := .pointer (some ⟨o, 2, none⟩)) rfl (by kernel_rfl) (by kernel_rfl) (by kernel_rfl) (fun _ _ _ h => h) ⟨by rfl, ?_⟩ trivial ?_
          · intro w _
            go_simp
          (try simp only [Act.put, List.getElem_toArray, List.getElem_cons_zero, List.setIfInBounds_toArray, List.set_cons_succ, List.set_cons_zero])
          refine wpTwo_takeS (i := 1) (v := lv) (waits_all (by kernel_rfl)) rfl (by kernel_rfl) (by kernel_rfl) (by kernel_rfl) (fun _ _ _ h => h) ⟨by rfl, ?_⟩ ⟨trivial, hS0⟩ ?_
          · rintro w ⟨-, hS1⟩
            go_simp
          (try simp only [Act.put, List.getElem_toArray, List.getElem_cons_succ, List.getElem_cons_zero, List.setIfInBounds_toArray, List.set_cons_succ, List.set_cons_zero])
          refine wpTwo_takeT (i := 2) (v := .slice q2 M d2) rfl (by kernel_rfl) (by kernel_rfl) (by kernel_rfl) (fun _ _ _ h => h) ⟨by rfl, ?_⟩ trivial ?_
          · intro w _
            go_simp
          (try simp only [Act.put, List.getElem_toArray, List.getElem_cons_succ, List.getElem_cons_zero, List.setIfInBounds_toArray, List.set_cons_succ, List.set_cons_zero])
          refine wpTwo_takeT (i := 3) (v := .slice q2 M d2) rfl (by kernel_rfl) (by kernel_rfl) (by kernel_rfl) (fun _ _ _ h => h) ⟨by rfl, ?_⟩ trivial ?_
          · intro w _
            go_simp
          (try simp only [Act.put, List.getElem_toArray, List.getElem_cons_succ, List.getElem_cons_zero, List.setIfInBounds_toArray, List.set_cons_succ, List.set_cons_zero])
          refine wpTwo_takeT (i := 4) (v := .int .i64 (M : Int)) rfl (by kernel_rfl) (by kernel_rfl) (by kernel_rfl) (fun _ _ _ h => h) ⟨by rfl, ?_⟩ trivial ?_
          · intro w _
            go_simp
          (try simp only [Act.put, List.getElem_toArray, List.getElem_cons_succ, List.getElem_cons_zero, List.setIfInBounds_toArray, List.set_cons_succ, List.set_cons_zero])
          refine wpTwo_takeT (i := 5) (v := .int .i64 (k7 : Int)) rfl (by kernel_rfl) (by kernel_rfl) (by kernel_rfl) (fun _ _ _ h => h) ⟨by rfl, ?_⟩ trivial ?_
          · intro w _
            go_simp
          (try simp only [Act.put, List.getElem_toArray, List.getElem_cons_succ, List.getElem_cons_zero, List.setIfInBounds_toArray, List.set_cons_succ, List.set_cons_zero])
          refine wpTwo_takeT (i := 6) (v := .slice q2 k7 d2) rfl (by kernel_rfl) (by kernel_rfl) (by kernel_rfl) (fun _ _ _ h => h) ⟨by rfl, ?_⟩ trivial ?_
          · intro w _
            go_simp
          (try simp only [Act.put, List.getElem_toArray, List.getElem_cons_succ, List.getElem_cons_zero, List.setIfInBounds_toArray, List.set_cons_succ, List.set_cons_zero])
          refine wpTwo_ready (rs := [7]) (by kernel_rfl) (by simp) ?_
          refine (AllTwo.cons rfl (fun K hK => ?_) AllTwo.nil)
          go_simp
          refine (HCC.out Y0 hd).mono ?_
          rintro e Y1 ⟨⟨u, rfl, hu⟩, hb1⟩
          obtain ⟨pu, du, rfl⟩ := owns_slice hu
          have HU1 := Lib.hid hu
          have HI1 := Lib.hid (HI0.out.on hb1)
          have hS1 := HI1.out.cells.1.2.2.1
          have hY1s := hb1.size
          go_wp2_with fail
          refine hK.out _ _ ⟨trivial, fun _ _ => hS1⟩ ?_
          clear hK K hb1 hu hS0 HI0 hd HCC
          (try simp only [Act.put, List.getElem_toArray, List.getElem_cons_succ, List.getElem_cons_zero, List.setIfInBounds_toArray, List.set_cons_succ, List.set_cons_zero])
          refine wpTwo_ready (rs := [8]) (by kernel_rfl) (by simp) ?_
          refine (AllTwo.cons rfl (fun K hK => ?_) AllTwo.nil)
          obtain ⟨Y2, hY2⟩ : ∃ X : World, X = Y1.alloc (.cells #[.slice pu k7 du] 47) := ⟨_, rfl⟩
          have hb2 : Below Y1.heap.size Y1 Y2 := by rw [hY2]; exact (Below.refl _ _).alloc (Nat.le_refl _) _
          have HI2 := Lib.hid (HI1.out.on hb2)
          have hS2 := HI2.out.cells.1.2.2.1
          have HU2 := Lib.hid (owns_below HU1.out hb2)
          have hY2s := hb2.size
          go_simp
          rw [← hY2]
          refine hK.out _ _ ⟨trivial, fun _ _ => hS2⟩ ?_
          clear hK K hS1 HI1 HU1 hb2
          (try simp only [Act.put, List.getElem_toArray, List.getElem_cons_succ, List.getElem_cons_zero, List.setIfInBounds_toArray, List.set_cons_succ, List.set_cons_zero])
          refine wpTwo_ready (rs := [9]) (by kernel_rfl) (by simp) ?_
          refine (AllTwo.cons rfl (fun K hK => ?_) AllTwo.nil)
          obtain ⟨i0, hi0, hz0, hz1, hz2⟩ := info_parts rows_info
          obtain ⟨vs, hv1, hv2, hv3⟩ := HI2.out.rows.ex
          refine step_append_at (by rfl) _ _ 22 rfl (y + 1) 47 i0 (.slice none 0 0) 1 24 Tryd.underlying22 hi0 hz0 hz1 hz2 rfl (by decide) lv A.length _ rfl hv2 ⟨Y1.heap.size, 0, none⟩ 1 1 [.slice pu k7 du] rfl rfl (by rw [hY2]; exact World.news_of_block (World.alloc_heap_new _ _)) (by intro u hu; rw [List.mem_singleton.1 hu]; rfl) (by have := HAL.out; unfold maxLen; omega) (by have := HAL.out; omega) (by omega) ?_
          intro v' Y3 hown3 hg3 _
          have hstep := HI2.out.step (l := L.take 70) hv1 hv2 hv3 (by rw [HLl.out]; exact HU2.out.mono (by omega)) hown3 hg3
          have hbox3 := HI2.out.box2 hg3 o _ _ HI2.out.box
          have hS3 : Y3.cell? ⟨o, 2, none⟩ = some lv := by simp [World.cell?, hbox3]
          have hf3 : Y3.frozen? ⟨o, 2, none⟩ = false := by simp [World.frozen?, hbox3]
          obtain ⟨pv, cv, rfl⟩ := owns_slice hown3
          have HST := Lib.hid hstep
          refine hK.out _ _ ⟨trivial, fun _ _ => hS3⟩ ?_
          clear hK K hstep hbox3 hown3 hg3 hv1 hv2 hv3 HU2 HI2 hY2
          (try simp only [Act.put, List.getElem_toArray, List.getElem_cons_succ, List.getElem_cons_zero, List.setIfInBounds_toArray, List.set_cons_succ, List.set_cons_zero])
          refine wpTwo_takeT (i := 10) (v := .pointer (some ⟨o, 2, none⟩)) rfl (by kernel_rfl) (by kernel_rfl) (by kernel_rfl) (fun _ _ _ h => h) ⟨by rfl, ?_⟩ trivial ?_
          · intro w _
            go_simp
          (try simp only [Act.put, List.getElem_toArray, List.getElem_cons_succ, List.getElem_cons_zero, List.setIfInBounds_toArray, List.set_cons_succ, List.set_cons_zero])
          refine wpTwo_ready (rs := [11]) (by kernel_rfl) (by simp) ?_
          refine (AllTwo.cons rfl (fun K hK => ?_) AllTwo.nil)
          go_simp
          refine hK.out _ _ ⟨trivial, fun h => absurd h (by decide)⟩ ?_
          clear hK K
          (try simp only [Act.put, List.getElem_toArray, List.getElem_cons_succ, List.getElem_cons_zero, List.setIfInBounds_toArray, List.set_cons_succ, List.set_cons_zero])
          refine wpTwo_end (by kernel_rfl) ?_ _
          have HN := Lib.hid (show ∃ lv, OwnIn W y k c g ps o pp dd (((ls.take 10).take (i + 1)).map (·.take 70)) lv (Y3.setCell ⟨o, 2, none⟩ (.slice pv (A.length + 1) cv)) from ⟨_, by rw [HA.out]; exact HST.out⟩)
          clear HST
          go_wp2
          go_roundw
          case rel => exact ⟨i + 1, by omega, by go_num, HN⟩
          case measure => simp [intOf]; omega
        · have hA : ((ls.take 10).take (i + 1)).map (fun l : List CallM => l.take 70) = ((ls.take 10).take i).map (fun l : List CallM => l.take 70) := by
            rw [List.take_of_length_le (l := ls.take 10) (i := i + 1) (by rw [List.length_take]; omega), List.take_of_length_le (l := ls.take 10) (i := i) (by rw [List.length_take]; omega)]
          have HN := Lib.hid (show ∃ lv, OwnIn W y k c g ps o pp dd (((ls.take 10).take (i + 1)).map (·.take 70)) lv wr from ⟨lv, by rw [hA]; exact hI⟩)
          clear hcs hx1 hV1 hVr hBW hI hA
          go_wp2
          go_roundw
          case rel => exact ⟨i + 1, by omega, by go_num, HN⟩
          case measure => simp [intOf]; omega
      · obtain rfl : i = n := by omega
        obtain ⟨lv, hI⟩ := HI.out
        have hA : ((ls.take 10).take i).map (fun l : List CallM => l.take 70) = (ls.take 10).map (fun l : List CallM => l.take 70) := by
          rw [List.take_of_length_le (l := ls.take 10) (i := i) (by have := HNL.out; rw [List.length_take]; omega)]
        rw [hA] at hI
        obtain ⟨A, hAe⟩ : ∃ A, A = (ls.take 10).map (fun l : List CallM => l.take 70) := ⟨_, rfl⟩
        rw [← hAe] at hI
        obtain ⟨p2, c2, rfl⟩ := hI.rows.slice
        obtain ⟨N, hN⟩ : ∃ N, N = A.length := ⟨_, rfl⟩
        have HAE := Lib.hid hAe
        have HN := Lib.hid hN
        obtain ⟨x5, hx5⟩ : ∃ x : World, x = wr.store4 (y + 1) (.int .i64 c) (.int .i64 g) (.slice p2 A.length c2) (.slice pp k dd) := ⟨_, rfl⟩
        have hfin := hI.fin x5 hx5
        have hret := hI.ret
        have hbox := hI.box
        rw [← hN] at hx5 hfin hbox
        have HF := Lib.hid hfin
        have hq0 : wr.cell? ⟨o, 0, none⟩ = some (.int .i64 c) := by simp [World.cell?, hbox]
        have hq1 : wr.cell? ⟨o, 1, none⟩ = some (.int .i64 g) := by simp [World.cell?, hbox]
        have hq3 : wr.cell? ⟨o, 2, none⟩ = some (.slice p2 N c2) := by simp [World.cell?, hbox]
        have hq4 : wr.cell? ⟨o, 3, none⟩ = some (.slice pp k dd) := by simp [World.cell?, hbox]
        have hr0 : wr.cell? ⟨y + 1, 0, none⟩ = some (.int .i64 0) := by simp [World.cell?, hret]
        have hr1 : wr.cell? ⟨y + 1, 1, none⟩ = some (.int .i64 0) := by simp [World.cell?, hret]
        have hr2 : wr.cell? ⟨y + 1, 2, none⟩ = some (.slice none 0 0) := by simp [World.cell?, hret]
        have hr3 : wr.cell? ⟨y + 1, 3, none⟩ = some (.slice none 0 0) := by simp [World.cell?, hret]
        have hrf : ∀ i, wr.frozen? ⟨y + 1, i, none⟩ = false := fun i => by simp [World.frozen?, hret]
        have hrf0 := hrf 0
        have hrf1 := hrf 1
        have hrf2 := hrf 2
        have hrf3 := hrf 3
        have HX5 := Lib.hid (show x5 = (((wr.setCell ⟨y + 1, 0, none⟩ (.int .i64 c)).setCell ⟨y + 1, 1, none⟩ (.int .i64 g)).setCell ⟨y + 1, 2, none⟩ (.slice p2 N c2)).setCell ⟨y + 1, 3, none⟩ (.slice pp k dd) from hx5)
        clear hx5 hret hbox hrf hfin hI hN hAe hA hlt hq2
        go_wp2
        rw [← HX5.out]
        obtain ⟨hxb, hLx, hPx, hBx⟩ := HF.out
        have hd0 : x5.cell? ⟨y + 1, 0, none⟩ = some (.int .i64 c) := by simp [World.cell?, hxb]
        have hd1 : x5.cell? ⟨y + 1, 1, none⟩ = some (.int .i64 g) := by simp [World.cell?, hxb]
        have hd2 : x5.cell? ⟨y + 1, 2, none⟩ = some (.slice p2 N c2) := by simp [World.cell?, hxb]
        have hd3 : x5.cell? ⟨y + 1, 3, none⟩ = some (.slice pp k dd) := by simp [World.cell?, hxb]
        have HG := Lib.hid (show (∃ v', Ending.returned (.agg #[.int .i64 c, .int .i64 g, .slice p2 N c2, .slice pp k dd]) = .returned v' ∧ OwnSc (W.heap.size + 1) (ownS ⟨c, g, ls, ps⟩) v' x5) ∧ Below W.heap.size W x5 from ⟨⟨_, rfl, p2, c2, pp, k, dd, by unfold ownS; simp only; rw [← HAE.out, ← HN.out], by unfold ownS; simp only; rw [← HAE.out, ← HN.out, ← HY.out]; exact hLx, by unfold ownS; simp only; rw [← HY.out]; exact hPx⟩, by rw [← HY.out]; exact hBx⟩)
        clear hLx hPx hBx hxb
        exact bodyPost_ret (v := .agg #[.int .i64 c, .int .i64 g, .slice p2 N c2, .slice pp k dd]) (by simp [results, Tryd.results9, go_sem, hd0, hd1, hd2, hd3]) rfl HG.out

theorem own_c (v : Value) (s : SM) (W : World) (hs : SAt W v s) (hll : ∀ l ∈ s.ls, l.length ≤ 9223372036854775807) (hln : s.ls.length ≤ 9223372036854775807) (hpn : s.ps.length ≤ 9223372036854775807) :
    Calls Tryd.prog 9 #[v] W fun e w' => (∃ v', e = .returned v' ∧ SAt w' v' (ownS s)) ∧ Below W.heap.size W w' :=
  (own_o v s W hs hll hln hpn).mono fun _ _ ⟨⟨v', e, h⟩, hb⟩ => ⟨⟨v', e, h.sat⟩, hb⟩

end Go.Proofs.YtjgdkfgcfningaaDoor
