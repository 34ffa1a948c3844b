/-
  Variables that hold memories and answers, as the statements of layer 2 lay them; and the contracts of own, Step and Same in that form.
  Conditions: as each has them.
-/
import Derived.Test.YtcledklajcdfiaaMOwn
import Derived.Test.YtcledklajcdfiaaMStep
import Derived.Test.YtcledklajcdfiaaMSmall
namespace Go.Proofs.Ytcledklajcdfiaa
open Go.RowKit Go.Shelf

/-- Block z is a variable that holds a memory that reads so. -/
def MVar (w : World) (z : Nat) (x y : Value) (ws : List Int) (ls : List Bool) (f : Bool) : Prop := MBox w z x y f ∧ NumsAt w .u64 x ws ∧ BoolsAt w y ls
theorem MVar.below {w w' : World} {z : Nat} {x y : Value} {ws : List Int} {ls : List Bool} {f : Bool} (h : MVar w z x y ws ls f) (hb : Below w.heap.size w w') : MVar w' z x y ws ls f :=
  ⟨h.1.below hb, nums_below h.2.1 hb, bools_below h.2.2 hb⟩
theorem MVar.mem {w : World} {z : Nat} {x y : Value} {ws : List Int} {ls : List Bool} {f : Bool} (h : MVar w z x y ws ls f) : MemAt w (.agg #[x, y, .bool f]) ws ls f := ⟨_, _, rfl, h.2.1, h.2.2⟩
theorem MVar.cells {w : World} {z : Nat} {x y : Value} {ws : List Int} {ls : List Bool} {f : Bool} (h : MVar w z x y ws ls f) : w.cell? ⟨z, 0, none⟩ = some x ∧ w.cell? ⟨z, 1, none⟩ = some y ∧ w.cell? ⟨z, 2, none⟩ = some (.bool f) := (mbox_cells h.1).1
theorem GBox.cells {w : World} {z : Nat} {g : Int} {d : Bool} (h : GBox w z g d) : w.cell? ⟨z, 0, none⟩ = some (.int .u64 g) ∧ w.cell? ⟨z, 1, none⟩ = some (.bool d) := (gbox_cells h).1

/-- What a call leaves that answers a memory: it reads so, and so do all memories that did. -/
def ReadsMem (ws : List Int) (ls : List Bool) (f : Bool) (e : Ending) (w' : World) : Prop := ∃ p0 n0 c0 p1 n1 c1, e = .returned (.agg #[.slice p0 n0 c0, .slice p1 n1 c1, .bool f]) ∧ NumsAt w' .u64 (.slice p0 n0 c0) ws ∧ BoolsAt w' (.slice p1 n1 c1) ls
theorem GivesMem.reads {B : Nat} {ws : List Int} {ls : List Bool} {f : Bool} {e : Ending} {w' : World} (h : GivesMem B ws ls f e w') : ReadsMem ws ls f e w' := by
  obtain ⟨v, rfl, vw, vl, rfl, h0, h1⟩ := h
  have a0 := nums_of_owns rfl h0
  have a1 := bools_of_owns rfl h1
  obtain ⟨p0, c0, rfl, _⟩ := id a0
  obtain ⟨p1, c1, rfl, _⟩ := id a1
  exact ⟨_, _, _, _, _, _, rfl, a0, a1⟩
/-- What a call leaves that answers a memory, what an access came to, and an error. -/
def ReadsStep (ls : List Bool) (r : List Int × Bool × (Int × Bool)) (e : Ending) (w' : World) : Prop := ∃ p0 n0 c0 p1 n1 c1, e = .returned (.tuple #[.agg #[.slice p0 n0 c0, .slice p1 n1 c1, .bool r.2.1], .agg #[.int .u64 r.2.2.1, .bool r.2.2.2], .int .i64 0]) ∧ NumsAt w' .u64 (.slice p0 n0 c0) r.1 ∧ BoolsAt w' (.slice p1 n1 c1) ls
theorem StepOk.reads {B : Nat} {ls : List Bool} {r : List Int × Bool × (Int × Bool)} {e : Ending} {w' : World} (h : StepOk B ls r e w') : ReadsStep ls r e w' := by
  obtain ⟨gw, cw, gl, cl, rfl, h0, h1⟩ := h
  exact ⟨_, _, _, _, _, _, rfl, nums_of_owns rfl h0, bools_of_owns rfl h1⟩

/-- A variable for a memory is made, and given one. -/
def putM (w : World) (x y : Value) (f : Bool) : World := w.alloc (.cells #[x, y, .bool f] 46)
theorem putM_box (w : World) (x y : Value) (f : Bool) : MBox (putM w x y f) w.heap.size x y f := MBox.new w x y f
theorem putM_below (w : World) (x y : Value) (f : Bool) : Below w.heap.size w (putM w x y f) := (Below.refl _ _).alloc (Nat.le_refl _) _
theorem putM_var {w : World} {x y : Value} {ws : List Int} {ls : List Bool} (f : Bool) (h0 : NumsAt w .u64 x ws) (h1 : BoolsAt w y ls) : MVar (putM w x y f) w.heap.size x y ws ls f :=
  ⟨putM_box _ _ _ _, nums_below h0 (putM_below _ _ _ _), bools_below h1 (putM_below _ _ _ _)⟩

/-- Variables for a memory and an answer are made, and given them. -/
def putMG (w : World) (x y : Value) (f : Bool) (g : Int) (d : Bool) : World := (w.alloc (.cells #[x, y, .bool f] 46)).alloc (.cells #[.int .u64 g, .bool d] 36)
theorem putMG_below (w : World) (x y : Value) (f : Bool) (g : Int) (d : Bool) : Below w.heap.size w (putMG w x y f g d) := ((Below.refl _ _).alloc (Nat.le_refl _) _).alloc (by simp) _
theorem putMG_box (w : World) (x y : Value) (f : Bool) (g : Int) (d : Bool) : MBox (putMG w x y f g d) w.heap.size x y f ∧ GBox (putMG w x y f g d) (w.heap.size + 1) g d := by
  have h1 : GBox (putMG w x y f g d) (w.alloc (.cells #[x, y, .bool f] 46)).heap.size g d := World.alloc_heap_new _ _
  rw [World.size_alloc] at h1
  exact ⟨(MBox.new w x y f).alloc _, h1⟩
theorem putMG_var {w : World} {x y : Value} {ws : List Int} {ls : List Bool} (f : Bool) (g : Int) (d : Bool) (h0 : NumsAt w .u64 x ws) (h1 : BoolsAt w y ls) : MVar (putMG w x y f g d) w.heap.size x y ws ls f ∧ GBox (putMG w x y f g d) (w.heap.size + 1) g d :=
  ⟨⟨(putMG_box _ _ _ _ _ _).1, nums_below h0 (putMG_below _ _ _ _ _ _), bools_below h1 (putMG_below _ _ _ _ _ _)⟩, (putMG_box _ _ _ _ _ _).2⟩
/-- What Step leaves, put into variables. -/
theorem step_put {ls : List Bool} {r : List Int × Bool × (Int × Bool)} {us : List Int} {f : Bool} {g : Int} {d : Bool} {e : Ending} {w' : World} (h : ReadsStep ls r e w') (hr : r = (us, f, g, d)) :
    ∃ p0 n0 c0 p1 n1 c1, e = .returned (.tuple #[.agg #[.slice p0 n0 c0, .slice p1 n1 c1, .bool f], .agg #[.int .u64 g, .bool d], .int .i64 0]) ∧
    ∃ w3, w3 = putMG w' (.slice p0 n0 c0) (.slice p1 n1 c1) f g d ∧ MVar w3 w'.heap.size (.slice p0 n0 c0) (.slice p1 n1 c1) us ls f ∧ GBox w3 (w'.heap.size + 1) g d ∧ Below w'.heap.size w' w3 := by
  subst hr
  obtain ⟨p0, n0, c0, p1, n1, c1, rfl, h0, h1⟩ := h
  exact ⟨p0, n0, c0, p1, n1, c1, rfl, _, rfl, (putMG_var f g d h0 h1).1, (putMG_var f g d h0 h1).2, putMG_below _ _ _ _ _ _⟩

theorem liveAt_lt {ws : List Int} {ls : List Bool} {a : Int} (h : liveAt ws ls a = true) : a.toNat < ws.length ∧ 0 ≤ a ∧ ls.getD a.toNat false = true := by
  simp only [liveAt, Bool.and_eq_true] at h
  have := thereB_iff.1 h.1
  exact ⟨by omega, by omega, h.2⟩
theorem liveAt_set (ws : List Int) (ls : List Bool) (a n : Int) (i : Nat) : liveAt (ws.set i n) ls a = liveAt ws ls a := by simp [liveAt]
theorem rightB_set {ws : List Int} {ls : List Bool} (h : rightB ws ls = true) {a : Int} (hl : liveAt ws ls a = true) (n : Int) : rightB (ws.set a.toNat n) ls = true := by
  obtain ⟨h1, h2, h3, h4⟩ := rightB_iff.1 h
  obtain ⟨hlt, ha, hd⟩ := liveAt_lt hl
  refine rightB_iff.2 ⟨by simpa using h1, by simpa using h2, by simpa using h3, fun i hi hi' => ?_⟩
  rw [List.getElem_set]
  split
  · rename_i e
    subst e
    rw [List.getD_eq_getElem?_getD, List.getElem?_eq_getElem hi'] at hd
    have : ls[a.toNat] = true := by simpa using hd
    rw [this]; rfl
  · exact h4 i (by simpa using hi) hi'
theorem getD_set {ws : List Int} {ls : List Bool} {a : Int} (hl : liveAt ws ls a = true) (n : Int) : (ws.set a.toNat n).getD a.toNat 0 = n := by
  have := (liveAt_lt hl).1
  simp [List.getD_eq_getElem?_getD, this]
theorem accM_load {ws : List Int} {ls : List Bool} {a : Int} (hl : liveAt ws ls a = true) (f : Bool) (o n : Int) : accM ws ls f 1 a o n = (ws, f, ws.getD a.toNat 0, true) := by simp [accM, hl]
theorem accM_out {ws : List Int} {ls : List Bool} {a : Int} (hl : liveAt ws ls a = false) (f : Bool) (k o n : Int) : accM ws ls f k a o n = (ws, true, 0, false) := by simp [accM, hl]
theorem accM_yes {ws : List Int} {ls : List Bool} {a : Int} (hl : liveAt ws ls a = true) (f : Bool) (o n : Int) (h : ws.getD a.toNat 0 = o) : accM ws ls f 3 a o n = (ws.set a.toNat n, f, ws.getD a.toNat 0, true) := by simp [accM, hl, -List.getD_eq_getElem?_getD, h]
theorem accM_no {ws : List Int} {ls : List Bool} {a : Int} (hl : liveAt ws ls a = true) (f : Bool) (o n : Int) (h : ws.getD a.toNat 0 ≠ o) : accM ws ls f 3 a o n = (ws, f, ws.getD a.toNat 0, false) := by simp [accM, hl, -List.getD_eq_getElem?_getD, h]
theorem accM_store {ws : List Int} {ls : List Bool} {a : Int} (hl : liveAt ws ls a = true) (f : Bool) (o n : Int) : accM ws ls f 2 a o n = (ws.set a.toNat n, f, ws.getD a.toNat 0, true) := by simp [accM, hl]

theorem ArgR.below {w w' : World} {v : Value} {xs : List Value} (h : ArgR w v xs) (hb : Below w.heap.size w w') : ArgR w' v xs := by
  obtain ⟨p, n, c, rfl, hn, h⟩ := h
  refine ⟨p, n, c, rfl, hn, ?_⟩
  rcases h with h | ⟨a, rfl, hc, hcs⟩
  · exact .inl h
  · exact .inr ⟨a, rfl, hc, fun j u hj => below_cell hb (hcs j u hj)⟩
theorem ArgR.from {B : Nat} {w w' : World} {v : Value} {xs : List Value} (h : ArgR w v xs) (hb : Below B w w') (hB : B = w.heap.size) : ArgR w' v xs := by
  subst hB; exact h.below hb

end Go.Proofs.Ytcledklajcdfiaa
