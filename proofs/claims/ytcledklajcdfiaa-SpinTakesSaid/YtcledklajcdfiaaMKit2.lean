/-
  Variables that hold memories of their own, and accesses; what is written into other variables leaves them alone.
  Conditions: as each has them.
-/
import Derived.Test.YtcledklajcdfiaaMKit
namespace Go.Proofs.Ytcledklajcdfiaa
open Go.RowKit Go.Shelf

theorem Keeps.row' {S : Nat → Prop} {a b : World} (h : Keeps S a b) {B : Nat} {E : TypeId} {size : Nat} {v : Value} {n : Nat} {xs : List Value} (hr : a.ownsRow B E size v n xs) (hS : ∀ q, S q → q < B) : b.ownsRow B E size v n xs :=
  h.row hr fun g hg hs => by have h1 := (hr.lt g hg).1; have h2 := hS g hs; omega

/-- Block z is a variable that holds a memory of its own, newer than block B. -/
def OVar (w : World) (B z : Nat) (x y : Value) (ws : List Int) (ls : List Bool) (f : Bool) : Prop := B ≤ z ∧ MBox w z x y f ∧ w.ownsRow B 22 1 x ws.length (ws.map (Value.int .u64)) ∧ w.ownsRow B 4 1 y ls.length (ls.map Value.bool)
theorem OVar.below {w w' : World} {B z : Nat} {x y : Value} {ws : List Int} {ls : List Bool} {f : Bool} (h : OVar w B z x y ws ls f) (hb : Below w.heap.size w w') : OVar w' B z x y ws ls f :=
  ⟨h.1, h.2.1.below hb, owns_below h.2.2.1 hb, owns_below h.2.2.2 hb⟩
theorem OVar.keeps {w w' : World} {B z : Nat} {x y : Value} {ws : List Int} {ls : List Bool} {f : Bool} (h : OVar w B z x y ws ls f) {S : Nat → Prop} (hk : Keeps S w w') (hS : ∀ q, S q → q < B) : OVar w' B z x y ws ls f :=
  ⟨h.1, h.2.1.keeps hk (fun hs => by have := hS _ hs; have := h.1; omega), hk.row' h.2.2.1 hS, hk.row' h.2.2.2 hS⟩
theorem OVar.var {w : World} {B z : Nat} {x y : Value} {ws : List Int} {ls : List Bool} {f : Bool} (h : OVar w B z x y ws ls f) : MVar w z x y ws ls f := ⟨h.2.1, nums_of_owns rfl h.2.2.1, bools_of_owns rfl h.2.2.2⟩
theorem OVar.mem {w : World} {B z : Nat} {x y : Value} {ws : List Int} {ls : List Bool} {f : Bool} (h : OVar w B z x y ws ls f) : MemAt w (.agg #[x, y, .bool f]) ws ls f := h.var.mem
theorem OVar.cells {w : World} {B z : Nat} {x y : Value} {ws : List Int} {ls : List Bool} {f : Bool} (h : OVar w B z x y ws ls f) : w.cell? ⟨z, 0, none⟩ = some x ∧ w.cell? ⟨z, 1, none⟩ = some y ∧ w.cell? ⟨z, 2, none⟩ = some (.bool f) := h.var.cells
theorem owns_slice {w : World} {B : Nat} {E : TypeId} {s n : Nat} {v : Value} {xs : List Value} (h : w.ownsRow B E s v n xs) : ∃ p c, v = .slice p n c := by
  rcases h.2 with ⟨rfl, rfl⟩ | ⟨g, cap, cur, rfl, _⟩
  · exact ⟨_, _, rfl⟩
  · exact ⟨_, _, rfl⟩
theorem own_put {B : Nat} {ws : List Int} {ls : List Bool} {f : Bool} {e : Ending} {w' : World} (h : GivesMem B ws ls f e w') (hB : B ≤ w'.heap.size) :
    ∃ p0 c0 p1 c1, e = .returned (.agg #[.slice p0 ws.length c0, .slice p1 ls.length c1, .bool f]) ∧
    ∃ w3, w3 = putM w' (.slice p0 ws.length c0) (.slice p1 ls.length c1) f ∧ OVar w3 B w'.heap.size (.slice p0 ws.length c0) (.slice p1 ls.length c1) ws ls f ∧ Below w'.heap.size w' w3 := by
  obtain ⟨v, rfl, vw, vl, rfl, h0, h1⟩ := h
  obtain ⟨p0, c0, rfl⟩ := owns_slice h0
  obtain ⟨p1, c1, rfl⟩ := owns_slice h1
  exact ⟨_, _, _, _, rfl, _, rfl, ⟨hB, putM_box _ _ _ _, owns_below h0 (putM_below _ _ _ _), owns_below h1 (putM_below _ _ _ _)⟩, putM_below _ _ _ _⟩
theorem step_putO {B : Nat} {ls : List Bool} {r : List Int × Bool × (Int × Bool)} {us : List Int} {f : Bool} {g : Int} {d : Bool} {e : Ending} {w' : World} (h : StepOk B ls r e w') (hB : B ≤ w'.heap.size) (hr : r = (us, f, g, d)) :
    ∃ p0 c0 p1 c1, e = .returned (.tuple #[.agg #[.slice p0 us.length c0, .slice p1 ls.length c1, .bool f], .agg #[.int .u64 g, .bool d], .int .i64 0]) ∧
    ∃ w3, w3 = putMG w' (.slice p0 us.length c0) (.slice p1 ls.length c1) f g d ∧ OVar w3 B w'.heap.size (.slice p0 us.length c0) (.slice p1 ls.length c1) us ls f ∧ GBox w3 (w'.heap.size + 1) g d ∧ Below w'.heap.size w' w3 := by
  subst hr
  obtain ⟨gw, cw, gl, cl, rfl, h0, h1⟩ := h
  exact ⟨_, _, _, _, rfl, _, rfl, ⟨hB, (putMG_box _ _ _ _ _ _).1, owns_below h0 (putMG_below _ _ _ _ _ _), owns_below h1 (putMG_below _ _ _ _ _ _)⟩, (putMG_box _ _ _ _ _ _).2, putMG_below _ _ _ _ _ _⟩

/-- Block z is a variable that holds an access. -/
def AcBox (w : World) (z : Nat) (k a o n : Int) : Prop := w.heap[z]? = some (.cells #[.int .i64 k, .int .i64 a, .int .u64 o, .int .u64 n] 31 (0, 0))
theorem AcBox.lt {w : World} {z : Nat} {k a o n : Int} (h : AcBox w z k a o n) : z < w.heap.size := (Array.getElem?_eq_some_iff.1 h).1
theorem AcBox.below {w w' : World} {z : Nat} {k a o n : Int} (h : AcBox w z k a o n) (hk : Below w.heap.size w w') : AcBox w' z k a o n := (hk.block z h.lt).trans h
theorem AcBox.keeps {S : Nat → Prop} {w w' : World} {z : Nat} {k a o n : Int} (h : AcBox w z k a o n) (hk : Keeps S w w') (hz : ¬ S z) : AcBox w' z k a o n := (hk.block z h.lt hz).trans h
theorem AcBox.cells {w : World} {z : Nat} {k a o n : Int} (h : AcBox w z k a o n) : w.cell? ⟨z, 0, none⟩ = some (.int .i64 k) ∧ w.cell? ⟨z, 1, none⟩ = some (.int .i64 a) ∧ w.cell? ⟨z, 2, none⟩ = some (.int .u64 o) ∧ w.cell? ⟨z, 3, none⟩ = some (.int .u64 n) := by
  have h' : w.heap[z]? = _ := h
  simp [World.cell?, h']
theorem AcBox.free {w : World} {z : Nat} {k a o n : Int} (h : AcBox w z k a o n) : w.frozen? ⟨z, 0, none⟩ = false ∧ w.frozen? ⟨z, 1, none⟩ = false := by
  have h' : w.heap[z]? = _ := h
  simp [World.frozen?, h']
theorem AcBox.setKind {w : World} {z : Nat} {k a o n : Int} (h : AcBox w z k a o n) (k' : Int) : AcBox (w.setCell ⟨z, 0, none⟩ (.int .i64 k')) z k' a o n := by
  have h1 := heap_setCell_same w z 0 _ _ (.int .i64 k') h
  unfold AcBox
  rw [h1]; rfl
theorem AcBox.setAt {w : World} {z : Nat} {k a o n : Int} (h : AcBox w z k a o n) (a' : Int) : AcBox (w.setCell ⟨z, 1, none⟩ (.int .i64 a')) z k a' o n := by
  have h1 := heap_setCell_same w z 1 _ _ (.int .i64 a') h
  unfold AcBox
  rw [h1]; rfl

theorem MVar.memF {w : World} {z : Nat} {x y : Value} {ws : List Int} {ls : List Bool} {f g : Bool} (h : MVar w z x y ws ls f) : MemAt w (.agg #[x, y, .bool g]) ws ls g := ⟨_, _, rfl, h.2.1, h.2.2⟩
theorem kind_in (k : Int) : 1 ≤ wrap64 (1 + wrap64 ((IntKind.u64.wrap k).tmod 3)) ∧ wrap64 (1 + wrap64 ((IntKind.u64.wrap k).tmod 3)) ≤ 3 := by
  have h0 : 0 ≤ IntKind.u64.wrap k := by simp [IntKind.wrap, IntKind.signed, IntKind.bits]; omega
  rw [Int.tmod_eq_emod_of_nonneg h0]
  unfold wrap64
  omega

/-- What an access of another word leaves: the word is as it was, and a fault stays one. -/
theorem acc_other {ws : List Int} {ls : List Bool} {a b : Int} (hr : rightB ws ls = true) (hl : liveAt ws ls a = true) (hne : b ≠ a) (f : Bool) (k o n : Int) :
    ∃ u f' g d, accM ws ls f k b o n = (u, f', g, d) ∧ u.length = ws.length ∧ rightB u ls = true ∧ liveAt u ls a = true ∧ u.getD a.toNat 0 = ws.getD a.toNat 0 ∧ (f = true → f' = true) := by
  unfold accM
  cases hb : liveAt ws ls b with
  | false => simp only [Bool.false_eq_true, if_false]; exact ⟨_, _, _, _, rfl, rfl, hr, hl, rfl, fun _ => rfl⟩
  | true =>
    simp only [if_true]
    have hn : b.toNat ≠ a.toNat := by have h1 := (liveAt_lt hb).2.1; have h2 := (liveAt_lt hl).2.1; omega
    split
    · exact ⟨_, _, _, _, rfl, rfl, hr, hl, rfl, id⟩
    · split
      · refine ⟨_, _, _, _, rfl, by simp, rightB_set hr hb n, by rw [liveAt_set]; exact hl, ?_, id⟩
        simp [hn]
      · exact ⟨_, _, _, _, rfl, rfl, hr, hl, rfl, id⟩

theorem nums_cells {w : World} {k : IntKind} {q : Option Addr} {n d : Nat} {ns : List Int} (h : NumsAt w k (.slice q n d) ns) (hn : 0 < ns.length) : ∃ b off, q = some ⟨b, off, none⟩ ∧ ∀ i (hi : i < ns.length), w.cell? ⟨b, off + i, none⟩ = some (.int k ns[i]) := by
  obtain ⟨p, c, e, hc⟩ := h
  injection e with e1 _ _
  subst e1
  exact hc (List.length_pos_iff.1 hn)
theorem get_set_ne {us u2 : List Int} {a : Nat} {n : Int} (h : u2 = us.set a n) {i : Nat} (hne : a ≠ i) (h1 : i < u2.length) (h2 : i < us.length) : u2[i] = us[i] := by
  subst h
  rw [List.getElem_set_ne hne]

end Go.Proofs.Ytcledklajcdfiaa
