/-
  A region that draws its order, loads cells, and at its end writes over them: what holds throughout (T), and what holds till the first of its last operations (S).
  Conditions: each of the last operations waits for each load of a cell that they write over.
-/
import Derived.Test.YtcnpmkigiklnnaaKS3
import Derived.Test.YtcnpmkigiklnnaaKS4
import Derived.Test.YtcnpmkigiklnnaaKS5
import Derived.WalkKit
import Derived.StillTail
import Derived.Deep.RegionHeld3
import Derived.Deep.AppendLies
/-
  Variables that hold memories and answers, as the statements of layer 2 lay them; and the contracts of own, Step and Same in that form.
  Conditions: as each has them.
-/
namespace Go.Proofs.Ytcnpmkigiklnnaa
open Go.RowKit Go.Shelf

/-- Block z is a variable that holds a memory that reads so. -/
def MVar (w : World) (z : Nat) (x y : Value) (ws : List Int) (ls : List Bool) (f : Bool) : Prop := MBox w z x y f ∧ NumsAt w .u64 x ws ∧ BoolsAt w y ls
theorem MVar.below {w w' : World} {z : Nat} {x y : Value} {ws : List Int} {ls : List Bool} {f : Bool} (h : MVar w z x y ws ls f) (hb : Below w.heap.size w w') : MVar w' z x y ws ls f :=
  ⟨h.1.below hb, nums_below h.2.1 hb, bools_below h.2.2 hb⟩
theorem MVar.mem {w : World} {z : Nat} {x y : Value} {ws : List Int} {ls : List Bool} {f : Bool} (h : MVar w z x y ws ls f) : MemAt w (.agg #[x, y, .bool f]) ws ls f := ⟨_, _, rfl, h.2.1, h.2.2⟩
theorem MVar.cells {w : World} {z : Nat} {x y : Value} {ws : List Int} {ls : List Bool} {f : Bool} (h : MVar w z x y ws ls f) : w.cell? ⟨z, 0, none⟩ = some x ∧ w.cell? ⟨z, 1, none⟩ = some y ∧ w.cell? ⟨z, 2, none⟩ = some (.bool f) := (mbox_cells h.1).1
theorem GBox.cells {w : World} {z : Nat} {g : Int} {d : Bool} (h : GBox w z g d) : w.cell? ⟨z, 0, none⟩ = some (.int .u64 g) ∧ w.cell? ⟨z, 1, none⟩ = some (.bool d) := (gbox_cells h).1

/-- What a call leaves that answers a memory: it reads so, and so do all memories that did. -/
def ReadsMem (ws : List Int) (ls : List Bool) (f : Bool) (e : Ending) (w' : World) : Prop := ∃ p0 n0 c0 p1 n1 c1, e = .returned (.agg #[.slice p0 n0 c0, .slice p1 n1 c1, .bool f]) ∧ NumsAt w' .u64 (.slice p0 n0 c0) ws ∧ BoolsAt w' (.slice p1 n1 c1) ls
theorem GivesMem.reads {B : Nat} {ws : List Int} {ls : List Bool} {f : Bool} {e : Ending} {w' : World} (h : GivesMem B ws ls f e w') : ReadsMem ws ls f e w' := by
  obtain ⟨v, rfl, vw, vl, rfl, h0, h1⟩ := h
  have a0 := nums_of_owns rfl h0
  have a1 := bools_of_owns rfl h1
  obtain ⟨p0, c0, rfl, _⟩ := id a0
  obtain ⟨p1, c1, rfl, _⟩ := id a1
  exact ⟨_, _, _, _, _, _, rfl, a0, a1⟩
/-- What a call leaves that answers a memory, what an access came to, and an error. -/
def ReadsStep (ls : List Bool) (r : List Int × Bool × (Int × Bool)) (e : Ending) (w' : World) : Prop := ∃ p0 n0 c0 p1 n1 c1, e = .returned (.tuple #[.agg #[.slice p0 n0 c0, .slice p1 n1 c1, .bool r.2.1], .agg #[.int .u64 r.2.2.1, .bool r.2.2.2], .int .i64 0]) ∧ NumsAt w' .u64 (.slice p0 n0 c0) r.1 ∧ BoolsAt w' (.slice p1 n1 c1) ls
theorem StepOk.reads {B : Nat} {ls : List Bool} {r : List Int × Bool × (Int × Bool)} {e : Ending} {w' : World} (h : StepOk B ls r e w') : ReadsStep ls r e w' := by
  obtain ⟨gw, cw, gl, cl, rfl, h0, h1⟩ := h
  exact ⟨_, _, _, _, _, _, rfl, nums_of_owns rfl h0, bools_of_owns rfl h1⟩

/-- A variable for a memory is made, and given one. -/
def putM (w : World) (x y : Value) (f : Bool) : World := w.alloc (.cells #[x, y, .bool f] 46)
theorem putM_box (w : World) (x y : Value) (f : Bool) : MBox (putM w x y f) w.heap.size x y f := MBox.new w x y f
theorem putM_below (w : World) (x y : Value) (f : Bool) : Below w.heap.size w (putM w x y f) := (Below.refl _ _).alloc (Nat.le_refl _) _
theorem putM_var {w : World} {x y : Value} {ws : List Int} {ls : List Bool} (f : Bool) (h0 : NumsAt w .u64 x ws) (h1 : BoolsAt w y ls) : MVar (putM w x y f) w.heap.size x y ws ls f :=
  ⟨putM_box _ _ _ _, nums_below h0 (putM_below _ _ _ _), bools_below h1 (putM_below _ _ _ _)⟩

/-- Variables for a memory and an answer are made, and given them. -/
def putMG (w : World) (x y : Value) (f : Bool) (g : Int) (d : Bool) : World := (w.alloc (.cells #[x, y, .bool f] 46)).alloc (.cells #[.int .u64 g, .bool d] 36)
theorem putMG_below (w : World) (x y : Value) (f : Bool) (g : Int) (d : Bool) : Below w.heap.size w (putMG w x y f g d) := ((Below.refl _ _).alloc (Nat.le_refl _) _).alloc (by simp) _
theorem putMG_box (w : World) (x y : Value) (f : Bool) (g : Int) (d : Bool) : MBox (putMG w x y f g d) w.heap.size x y f ∧ GBox (putMG w x y f g d) (w.heap.size + 1) g d := by
  have h1 : GBox (putMG w x y f g d) (w.alloc (.cells #[x, y, .bool f] 46)).heap.size g d := World.alloc_heap_new _ _
  rw [World.size_alloc] at h1
  exact ⟨(MBox.new w x y f).alloc _, h1⟩
theorem putMG_var {w : World} {x y : Value} {ws : List Int} {ls : List Bool} (f : Bool) (g : Int) (d : Bool) (h0 : NumsAt w .u64 x ws) (h1 : BoolsAt w y ls) : MVar (putMG w x y f g d) w.heap.size x y ws ls f ∧ GBox (putMG w x y f g d) (w.heap.size + 1) g d :=
  ⟨⟨(putMG_box _ _ _ _ _ _).1, nums_below h0 (putMG_below _ _ _ _ _ _), bools_below h1 (putMG_below _ _ _ _ _ _)⟩, (putMG_box _ _ _ _ _ _).2⟩
/-- What Step leaves, put into variables. -/
theorem step_put {ls : List Bool} {r : List Int × Bool × (Int × Bool)} {us : List Int} {f : Bool} {g : Int} {d : Bool} {e : Ending} {w' : World} (h : ReadsStep ls r e w') (hr : r = (us, f, g, d)) :
    ∃ p0 n0 c0 p1 n1 c1, e = .returned (.tuple #[.agg #[.slice p0 n0 c0, .slice p1 n1 c1, .bool f], .agg #[.int .u64 g, .bool d], .int .i64 0]) ∧
    ∃ w3, w3 = putMG w' (.slice p0 n0 c0) (.slice p1 n1 c1) f g d ∧ MVar w3 w'.heap.size (.slice p0 n0 c0) (.slice p1 n1 c1) us ls f ∧ GBox w3 (w'.heap.size + 1) g d ∧ Below w'.heap.size w' w3 := by
  subst hr
  obtain ⟨p0, n0, c0, p1, n1, c1, rfl, h0, h1⟩ := h
  exact ⟨p0, n0, c0, p1, n1, c1, rfl, _, rfl, (putMG_var f g d h0 h1).1, (putMG_var f g d h0 h1).2, putMG_below _ _ _ _ _ _⟩

theorem liveAt_lt {ws : List Int} {ls : List Bool} {a : Int} (h : liveAt ws ls a = true) : a.toNat < ws.length ∧ 0 ≤ a ∧ ls.getD a.toNat false = true := by
  simp only [liveAt, Bool.and_eq_true] at h
  have := thereB_iff.1 h.1
  exact ⟨by omega, by omega, h.2⟩
theorem liveAt_set (ws : List Int) (ls : List Bool) (a n : Int) (i : Nat) : liveAt (ws.set i n) ls a = liveAt ws ls a := by simp [liveAt]
theorem rightB_set {ws : List Int} {ls : List Bool} (h : rightB ws ls = true) {a : Int} (hl : liveAt ws ls a = true) (n : Int) : rightB (ws.set a.toNat n) ls = true := by
  obtain ⟨h1, h2, h3, h4⟩ := rightB_iff.1 h
  obtain ⟨hlt, ha, hd⟩ := liveAt_lt hl
  refine rightB_iff.2 ⟨by simpa using h1, by simpa using h2, by simpa using h3, fun i hi hi' => ?_⟩
  rw [List.getElem_set]
  split
  · rename_i e
    subst e
    rw [List.getD_eq_getElem?_getD, List.getElem?_eq_getElem hi'] at hd
    have : ls[a.toNat] = true := by simpa using hd
    rw [this]; rfl
  · exact h4 i (by simpa using hi) hi'
theorem getD_set {ws : List Int} {ls : List Bool} {a : Int} (hl : liveAt ws ls a = true) (n : Int) : (ws.set a.toNat n).getD a.toNat 0 = n := by
  have := (liveAt_lt hl).1
  simp [List.getD_eq_getElem?_getD, this]
theorem accM_load {ws : List Int} {ls : List Bool} {a : Int} (hl : liveAt ws ls a = true) (f : Bool) (o n : Int) : accM ws ls f 1 a o n = (ws, f, ws.getD a.toNat 0, true) := by simp [accM, hl]
theorem accM_out {ws : List Int} {ls : List Bool} {a : Int} (hl : liveAt ws ls a = false) (f : Bool) (k o n : Int) : accM ws ls f k a o n = (ws, true, 0, false) := by simp [accM, hl]
theorem accM_yes {ws : List Int} {ls : List Bool} {a : Int} (hl : liveAt ws ls a = true) (f : Bool) (o n : Int) (h : ws.getD a.toNat 0 = o) : accM ws ls f 3 a o n = (ws.set a.toNat n, f, ws.getD a.toNat 0, true) := by simp [accM, hl, -List.getD_eq_getElem?_getD, h]
theorem accM_no {ws : List Int} {ls : List Bool} {a : Int} (hl : liveAt ws ls a = true) (f : Bool) (o n : Int) (h : ws.getD a.toNat 0 ≠ o) : accM ws ls f 3 a o n = (ws, f, ws.getD a.toNat 0, false) := by simp [accM, hl, -List.getD_eq_getElem?_getD, h]
theorem accM_store {ws : List Int} {ls : List Bool} {a : Int} (hl : liveAt ws ls a = true) (f : Bool) (o n : Int) : accM ws ls f 2 a o n = (ws.set a.toNat n, f, ws.getD a.toNat 0, true) := by simp [accM, hl]

theorem ArgR.below {w w' : World} {v : Value} {xs : List Value} (h : ArgR w v xs) (hb : Below w.heap.size w w') : ArgR w' v xs := by
  obtain ⟨p, n, c, rfl, hn, h⟩ := h
  refine ⟨p, n, c, rfl, hn, ?_⟩
  rcases h with h | ⟨a, rfl, hc, hcs⟩
  · exact .inl h
  · exact .inr ⟨a, rfl, hc, fun j u hj => below_cell hb (hcs j u hj)⟩
theorem ArgR.from {B : Nat} {w w' : World} {v : Value} {xs : List Value} (h : ArgR w v xs) (hb : Below B w w') (hB : B = w.heap.size) : ArgR w' v xs := by
  subst hB; exact h.below hb

end Go.Proofs.Ytcnpmkigiklnnaa
/-
  Variables that hold memories of their own, and accesses; what is written into other variables leaves them alone.
  Conditions: as each has them.
-/
namespace Go.Proofs.Ytcnpmkigiklnnaa
open Go.RowKit Go.Shelf

theorem Keeps.row' {S : Nat → Prop} {a b : World} (h : Keeps S a b) {B : Nat} {E : TypeId} {size : Nat} {v : Value} {n : Nat} {xs : List Value} (hr : a.ownsRow B E size v n xs) (hS : ∀ q, S q → q < B) : b.ownsRow B E size v n xs :=
  h.row hr fun g hg hs => by have h1 := (hr.lt g hg).1; have h2 := hS g hs; omega

/-- Block z is a variable that holds a memory of its own, newer than block B. -/
def OVar (w : World) (B z : Nat) (x y : Value) (ws : List Int) (ls : List Bool) (f : Bool) : Prop := B ≤ z ∧ MBox w z x y f ∧ w.ownsRow B 22 1 x ws.length (ws.map (Value.int .u64)) ∧ w.ownsRow B 4 1 y ls.length (ls.map Value.bool)
theorem OVar.below {w w' : World} {B z : Nat} {x y : Value} {ws : List Int} {ls : List Bool} {f : Bool} (h : OVar w B z x y ws ls f) (hb : Below w.heap.size w w') : OVar w' B z x y ws ls f :=
  ⟨h.1, h.2.1.below hb, owns_below h.2.2.1 hb, owns_below h.2.2.2 hb⟩
theorem OVar.keeps {w w' : World} {B z : Nat} {x y : Value} {ws : List Int} {ls : List Bool} {f : Bool} (h : OVar w B z x y ws ls f) {S : Nat → Prop} (hk : Keeps S w w') (hS : ∀ q, S q → q < B) : OVar w' B z x y ws ls f :=
  ⟨h.1, h.2.1.keeps hk (fun hs => by have := hS _ hs; have := h.1; omega), hk.row' h.2.2.1 hS, hk.row' h.2.2.2 hS⟩
theorem OVar.var {w : World} {B z : Nat} {x y : Value} {ws : List Int} {ls : List Bool} {f : Bool} (h : OVar w B z x y ws ls f) : MVar w z x y ws ls f := ⟨h.2.1, nums_of_owns rfl h.2.2.1, bools_of_owns rfl h.2.2.2⟩
theorem OVar.mem {w : World} {B z : Nat} {x y : Value} {ws : List Int} {ls : List Bool} {f : Bool} (h : OVar w B z x y ws ls f) : MemAt w (.agg #[x, y, .bool f]) ws ls f := h.var.mem
theorem OVar.cells {w : World} {B z : Nat} {x y : Value} {ws : List Int} {ls : List Bool} {f : Bool} (h : OVar w B z x y ws ls f) : w.cell? ⟨z, 0, none⟩ = some x ∧ w.cell? ⟨z, 1, none⟩ = some y ∧ w.cell? ⟨z, 2, none⟩ = some (.bool f) := h.var.cells
theorem owns_slice {w : World} {B : Nat} {E : TypeId} {s n : Nat} {v : Value} {xs : List Value} (h : w.ownsRow B E s v n xs) : ∃ p c, v = .slice p n c := by
  rcases h.2 with ⟨rfl, rfl⟩ | ⟨g, cap, cur, rfl, _⟩
  · exact ⟨_, _, rfl⟩
  · exact ⟨_, _, rfl⟩
theorem own_put {B : Nat} {ws : List Int} {ls : List Bool} {f : Bool} {e : Ending} {w' : World} (h : GivesMem B ws ls f e w') (hB : B ≤ w'.heap.size) :
    ∃ p0 c0 p1 c1, e = .returned (.agg #[.slice p0 ws.length c0, .slice p1 ls.length c1, .bool f]) ∧
    ∃ w3, w3 = putM w' (.slice p0 ws.length c0) (.slice p1 ls.length c1) f ∧ OVar w3 B w'.heap.size (.slice p0 ws.length c0) (.slice p1 ls.length c1) ws ls f ∧ Below w'.heap.size w' w3 := by
  obtain ⟨v, rfl, vw, vl, rfl, h0, h1⟩ := h
  obtain ⟨p0, c0, rfl⟩ := owns_slice h0
  obtain ⟨p1, c1, rfl⟩ := owns_slice h1
  exact ⟨_, _, _, _, rfl, _, rfl, ⟨hB, putM_box _ _ _ _, owns_below h0 (putM_below _ _ _ _), owns_below h1 (putM_below _ _ _ _)⟩, putM_below _ _ _ _⟩
theorem step_putO {B : Nat} {ls : List Bool} {r : List Int × Bool × (Int × Bool)} {us : List Int} {f : Bool} {g : Int} {d : Bool} {e : Ending} {w' : World} (h : StepOk B ls r e w') (hB : B ≤ w'.heap.size) (hr : r = (us, f, g, d)) :
    ∃ p0 c0 p1 c1, e = .returned (.tuple #[.agg #[.slice p0 us.length c0, .slice p1 ls.length c1, .bool f], .agg #[.int .u64 g, .bool d], .int .i64 0]) ∧
    ∃ w3, w3 = putMG w' (.slice p0 us.length c0) (.slice p1 ls.length c1) f g d ∧ OVar w3 B w'.heap.size (.slice p0 us.length c0) (.slice p1 ls.length c1) us ls f ∧ GBox w3 (w'.heap.size + 1) g d ∧ Below w'.heap.size w' w3 := by
  subst hr
  obtain ⟨gw, cw, gl, cl, rfl, h0, h1⟩ := h
  exact ⟨_, _, _, _, rfl, _, rfl, ⟨hB, (putMG_box _ _ _ _ _ _).1, owns_below h0 (putMG_below _ _ _ _ _ _), owns_below h1 (putMG_below _ _ _ _ _ _)⟩, (putMG_box _ _ _ _ _ _).2, putMG_below _ _ _ _ _ _⟩

/-- Block z is a variable that holds an access. -/
def AcBox (w : World) (z : Nat) (k a o n : Int) : Prop := w.heap[z]? = some (.cells #[.int .i64 k, .int .i64 a, .int .u64 o, .int .u64 n] 31 (0, 0))
theorem AcBox.lt {w : World} {z : Nat} {k a o n : Int} (h : AcBox w z k a o n) : z < w.heap.size := (Array.getElem?_eq_some_iff.1 h).1
theorem AcBox.below {w w' : World} {z : Nat} {k a o n : Int} (h : AcBox w z k a o n) (hk : Below w.heap.size w w') : AcBox w' z k a o n := (hk.block z h.lt).trans h
theorem AcBox.keeps {S : Nat → Prop} {w w' : World} {z : Nat} {k a o n : Int} (h : AcBox w z k a o n) (hk : Keeps S w w') (hz : ¬ S z) : AcBox w' z k a o n := (hk.block z h.lt hz).trans h
theorem AcBox.cells {w : World} {z : Nat} {k a o n : Int} (h : AcBox w z k a o n) : w.cell? ⟨z, 0, none⟩ = some (.int .i64 k) ∧ w.cell? ⟨z, 1, none⟩ = some (.int .i64 a) ∧ w.cell? ⟨z, 2, none⟩ = some (.int .u64 o) ∧ w.cell? ⟨z, 3, none⟩ = some (.int .u64 n) := by
  have h' : w.heap[z]? = _ := h
  simp [World.cell?, h']
theorem AcBox.free {w : World} {z : Nat} {k a o n : Int} (h : AcBox w z k a o n) : w.frozen? ⟨z, 0, none⟩ = false ∧ w.frozen? ⟨z, 1, none⟩ = false := by
  have h' : w.heap[z]? = _ := h
  simp [World.frozen?, h']
theorem AcBox.setKind {w : World} {z : Nat} {k a o n : Int} (h : AcBox w z k a o n) (k' : Int) : AcBox (w.setCell ⟨z, 0, none⟩ (.int .i64 k')) z k' a o n := by
  have h1 := heap_setCell_same w z 0 _ _ (.int .i64 k') h
  unfold AcBox
  rw [h1]; rfl
theorem AcBox.setAt {w : World} {z : Nat} {k a o n : Int} (h : AcBox w z k a o n) (a' : Int) : AcBox (w.setCell ⟨z, 1, none⟩ (.int .i64 a')) z k a' o n := by
  have h1 := heap_setCell_same w z 1 _ _ (.int .i64 a') h
  unfold AcBox
  rw [h1]; rfl

theorem MVar.memF {w : World} {z : Nat} {x y : Value} {ws : List Int} {ls : List Bool} {f g : Bool} (h : MVar w z x y ws ls f) : MemAt w (.agg #[x, y, .bool g]) ws ls g := ⟨_, _, rfl, h.2.1, h.2.2⟩
theorem kind_in (k : Int) : 1 ≤ wrap64 (1 + wrap64 ((IntKind.u64.wrap k).tmod 3)) ∧ wrap64 (1 + wrap64 ((IntKind.u64.wrap k).tmod 3)) ≤ 3 := by
  have h0 : 0 ≤ IntKind.u64.wrap k := by simp [IntKind.wrap, IntKind.signed, IntKind.bits]; omega
  rw [Int.tmod_eq_emod_of_nonneg h0]
  unfold wrap64
  omega

/-- What an access of another word leaves: the word is as it was, and a fault stays one. -/
theorem acc_other {ws : List Int} {ls : List Bool} {a b : Int} (hr : rightB ws ls = true) (hl : liveAt ws ls a = true) (hne : b ≠ a) (f : Bool) (k o n : Int) :
    ∃ u f' g d, accM ws ls f k b o n = (u, f', g, d) ∧ u.length = ws.length ∧ rightB u ls = true ∧ liveAt u ls a = true ∧ u.getD a.toNat 0 = ws.getD a.toNat 0 ∧ (f = true → f' = true) := by
  unfold accM
  cases hb : liveAt ws ls b with
  | false => simp only [Bool.false_eq_true, if_false]; exact ⟨_, _, _, _, rfl, rfl, hr, hl, rfl, fun _ => rfl⟩
  | true =>
    simp only [if_true]
    have hn : b.toNat ≠ a.toNat := by have h1 := (liveAt_lt hb).2.1; have h2 := (liveAt_lt hl).2.1; omega
    split
    · exact ⟨_, _, _, _, rfl, rfl, hr, hl, rfl, id⟩
    · split
      · refine ⟨_, _, _, _, rfl, by simp, rightB_set hr hb n, by rw [liveAt_set]; exact hl, ?_, id⟩
        simp [hn]
      · exact ⟨_, _, _, _, rfl, rfl, hr, hl, rfl, id⟩

theorem nums_cells {w : World} {k : IntKind} {q : Option Addr} {n d : Nat} {ns : List Int} (h : NumsAt w k (.slice q n d) ns) (hn : 0 < ns.length) : ∃ b off, q = some ⟨b, off, none⟩ ∧ ∀ i (hi : i < ns.length), w.cell? ⟨b, off + i, none⟩ = some (.int k ns[i]) := by
  obtain ⟨p, c, e, hc⟩ := h
  injection e with e1 _ _
  subst e1
  exact hc (List.length_pos_iff.1 hn)
theorem get_set_ne {us u2 : List Int} {a : Nat} {n : Int} (h : u2 = us.set a n) {i : Nat} (hne : a ≠ i) (h1 : i < u2.length) (h2 : i < us.length) : u2[i] = us[i] := by
  subst h
  rw [List.getElem_set_ne hne]

end Go.Proofs.Ytcnpmkigiklnnaa
namespace Go.Proofs.Ytcnpmkigiklnnaa
open Go

section
variable {P : Program} {ops : Array Oper} {Q : Exit → Act → World → Prop} {md : Region.Mode} {T S : World → Prop} {late : Nat → Bool}

/-- Behind operation i, which was carried out in the world w. -/
def Kept (T S : World → Prop) (late : Nat → Bool) (i : Nat) (w w' : World) : Prop := T w' ∧ (late i = false → S w → S w')
/-- Whatever is picked from here on; behind each operation its word is kept. -/
def wpTwo (P : Program) (md : Region.Mode) (ops : Array Oper) (Q : Exit → Act → World → Prop) (T S : World → Prop) (late : Nat → Bool) : Nat → Array Bool → Act → World → Prop
  | 0, did, a, w => Region.ready md ops did = [] ∧ Q .normal a w
  | n + 1, did, a, w => (Region.ready md ops did = [] → Q .normal a w) ∧
      ∀ i ∈ Region.ready md ops did, wpOp P ops Q i (fun a' w' => Kept T S late i w w' ∧ wpTwo P md ops Q T S late n (did.setIfInBounds i true) a' w') a w
theorem wpTwo_any : ∀ (n : Nat) (did : Array Bool) (a : Act) (w : World), wpTwo P md ops Q T S late n did a w → wpAny P md ops Q n did a w
  | 0, _, _, _, h => h
  | n + 1, _, _, _, h => ⟨h.1, fun i hi => wpOp_mono (fun _ _ hx => wpTwo_any n _ _ _ hx.2) (h.2 i hi)⟩
theorem wpTwo_begin {id : Nat} {a : Act} {w : World} (hm : P.follows .mixedOrders = true) (h : wpTwo P .any ops Q T S late ops.size (Array.replicate ops.size false) a w.drew) : (Code.region id ops true).wp P Q a w :=
  wp_region_any hm (wpTwo_any _ _ _ _ h)
theorem wpTwo_end {did : Array Bool} {a : Act} {w : World} (hr : Region.ready md ops did = []) (h : Q .normal a w) : ∀ n, wpTwo P md ops Q T S late n did a w
  | 0 => ⟨hr, h⟩
  | _ + 1 => ⟨fun _ => h, fun i hi => by rw [hr] at hi; cases hi⟩

/-- An operation that is ready, and yields v in each world that meets R, may be the next: if R is kept by each one that does not wait for it. -/
theorem wpTwo_next {R : World → Prop} {i : Nat} {oi : Oper} {v : Value} (hi : ops[i]? = some oi) (hs : Region.noSelect ops = true)
    (hQ : ∀ c a w, Q (.panic c) (a.put oi.dst v) w → Q (.panic c) a w) (hT : ∀ w, R w → T w)
    (hR : ∀ j oj, ops[j]? = some oj → (∀ e ∈ oj.after, Region.binds md e = true → e.on ≠ i) → ∀ w w', R w → Kept T S late j w w' → R w') (n : Nat) :
    ∀ (did : Array Bool) (a : Act) (w : World), (∀ j oj, ops[j]? = some oj → j ≠ i → did.getD j true = false → (∀ e ∈ oj.after, Region.binds md e = true → e.on ≠ i) → oi.apart ops oj = true) →
      i ∈ Region.ready md ops did → YieldsIf P ops R oi v a → R w → wpTwo P md ops Q T S late n (did.setIfInBounds i true) (a.put oi.dst v) w → wpTwo P md ops Q T S late (n + 1) did a w := by
  have hsel := Region.noSelect_spec hs
  -- the operation itself, where it is picked
  have self : ∀ (n : Nat) (did : Array Bool) (a : Act) (w : World), YieldsIf P ops R oi v a → R w → wpTwo P md ops Q T S late n (did.setIfInBounds i true) (a.put oi.dst v) w →
      wpOp P ops Q i (fun a' w' => Kept T S late i w w' ∧ wpTwo P md ops Q T S late n (did.setIfInBounds i true) a' w') a w :=
    fun _ _ _ w hy hw h => hy.wpOp hi hw ⟨⟨hT w hw, fun _ => id⟩, h⟩
  induction n with
  | zero =>
    intro did a w _ hr hy hw h
    refine ⟨fun e => (List.ne_nil_of_mem hr e).elim, fun j hj => ?_⟩
    by_cases e : j = i
    · subst e; exact self _ _ _ _ hy hw h
    · have := ready_mono hj e
      rw [h.1] at this
      cases this
  | succ n ih =>
    intro did a w hfree hr hy hw h
    refine ⟨fun e => (List.ne_nil_of_mem hr e).elim, fun j hj => ?_⟩
    by_cases e : j = i
    · subst e; exact self _ _ _ _ hy hw h
    · obtain ⟨hun, oj, hoj, hall⟩ := mem_ready.1 hj
      have hiun := (mem_ready.1 hr).1
      have hno : ∀ x ∈ oj.after, Region.binds md x = true → x.on ≠ i := fun x hx hb hxi => by
        have h1 := hall x hx hb
        rw [hxi, getD_both hiun] at h1
        cases h1
      refine wpOp_mono (fun a' w' hx => ⟨hx.2.1, ih (did.setIfInBounds j true) a' w' (fun k ok hk hki hkun hkno => hfree k ok hk hki (by
        by_cases hjk : j = k
        · subst hjk; exact hun
        · rwa [getD_set_ne true hjk] at hkun) hkno) (ready_mono hr (Ne.symm e)) hx.1 (hR j oj hoj hno w w' hw hx.2.1) ?_⟩) (wpOp_putIf hoj (hfree j oj hoj e hun hno) (fun cs b => hsel i oi cs b hi) (fun cs b => hsel j oj cs b hoj) hQ hy (h.2 j (ready_mono hj e)))
      rw [Array.setIfInBounds_comm _ _ e]
      exact hx.2.2

/-- Taken by what holds throughout. -/
theorem wpTwo_takeT {i : Nat} {oi : Oper} {v : Value} {n : Nat} {did : Array Bool} {a : Act} {w : World} (hi : ops[i]? = some oi) (hs : Region.noSelect ops = true) (hf : Region.free md ops did i = true)
    (hr : (Region.ready md ops did).contains i = true) (hQ : ∀ c a w, Q (.panic c) (a.put oi.dst v) w → Q (.panic c) a w)
    (hy : Region.wanted oi (yielded ops a.tmps) = true ∧ ∀ w, T w → (execOp a.eval oi).run P w = .ok (.value v) w) (hw : T w)
    (h : wpTwo P md ops Q T S late n (did.setIfInBounds i true) (a.put oi.dst v) w) : wpTwo P md ops Q T S late (n + 1) did a w :=
  wpTwo_next (R := T) hi hs hQ (fun _ h => h) (fun _ _ _ _ _ _ _ hk => hk.1) n did a w (Region.free_spec hi hf) (by simpa using hr) (.inl hy) hw h
/-- Taken by what holds till the last ones begin: they wait for it. -/
theorem wpTwo_takeS {i : Nat} {oi : Oper} {v : Value} {n : Nat} {did : Array Bool} {a : Act} {w : World} (hl : ∀ j, late j = true → Region.waitsFor md ops j i = true) (hi : ops[i]? = some oi) (hs : Region.noSelect ops = true) (hf : Region.free md ops did i = true)
    (hr : (Region.ready md ops did).contains i = true) (hQ : ∀ c a w, Q (.panic c) (a.put oi.dst v) w → Q (.panic c) a w)
    (hy : Region.wanted oi (yielded ops a.tmps) = true ∧ ∀ w, T w ∧ S w → (execOp a.eval oi).run P w = .ok (.value v) w) (hw : T w ∧ S w)
    (h : wpTwo P md ops Q T S late n (did.setIfInBounds i true) (a.put oi.dst v) w) : wpTwo P md ops Q T S late (n + 1) did a w :=
  wpTwo_next (R := fun w => T w ∧ S w) hi hs hQ (fun _ h => h.1) (fun j oj hoj hno w w' hR hk => ⟨hk.1, hk.2 (by
    cases hlj : late j with
    | false => rfl
    | true =>
      obtain ⟨o', ho', e, he, hb, hei⟩ := Region.waitsFor_spec (hl j hlj)
      rw [hoj] at ho'
      cases ho'
      exact (hno e he hb hei).elim) hR.2⟩) n did a w (Region.free_spec hi hf) (by simpa using hr) (.inl hy) hw h

theorem waits_all {l : List Nat} {i : Nat} (h : (l.all fun j => Region.waitsFor md ops j i) = true) : ∀ j, (l.contains j) = true → Region.waitsFor md ops j i = true := fun j hj =>
  List.all_eq_true.1 h j (by simpa using hj)
/-- Each of the operations rs comes up next. -/
def AllTwo (P : Program) (md : Region.Mode) (ops : Array Oper) (Q : Exit → Act → World → Prop) (T S : World → Prop) (late : Nat → Bool) (n : Nat) (did : Array Bool) (a : Act) (w : World) (rs : List Nat) : Prop :=
  ∀ i ∈ rs, wpOp P ops Q i (fun a' w' => Kept T S late i w w' ∧ wpTwo P md ops Q T S late n (did.setIfInBounds i true) a' w') a w
theorem wpTwo_ready {rs : List Nat} {n : Nat} {did : Array Bool} {a : Act} {w : World} (hr : Region.ready md ops did = rs) (hne : rs ≠ []) (h : AllTwo P md ops Q T S late n did a w rs) : wpTwo P md ops Q T S late (n + 1) did a w :=
  ⟨fun e => (hne (hr ▸ e)).elim, hr ▸ h⟩
theorem AllTwo.nil {n : Nat} {did : Array Bool} {a : Act} {w : World} : AllTwo P md ops Q T S late n did a w [] := fun _ h => by cases h
theorem AllTwo.cons {n : Nat} {did : Array Bool} {a : Act} {w : World} {i : Nat} {o : Oper} {rs : List Nat} (ho : ops[i]? = some o)
    (h : ∀ K : Act → World → Prop, Shut (∀ a' w', Kept T S late i w w' → wpTwo P md ops Q T S late n (did.setIfInBounds i true) a' w' → K a' w') → if Region.wanted o (yielded ops a.tmps) = true then Oper.wp P o a w K Q else K (a.put o.dst undef) w)
    (hs : AllTwo P md ops Q T S late n did a w rs) : AllTwo P md ops Q T S late n did a w (i :: rs) := fun j hj => by
  rcases List.mem_cons.1 hj with rfl | hj
  · exact wpOp_step ho fun K hK => h K fun a' w' h1 h2 => hK a' w' ⟨h1, h2⟩
  · exact hs j hj
end

end Go.Proofs.Ytcnpmkigiklnnaa
