/-
  Words of worlds, rows and slices, for the walks of any layer: what a call keeps, and how slices of numbers read.
  Conditions: as each has them.
-/
import Derived.Test.YtjfphhemhaphbabNums
import Derived.Test.YtjfphhemhaphbabProg
import Derived.Shelf.Abstract
import Derived.OwnWalk
import Derived.WalkSpells
import Derived.Laws.OwnMore
import Derived.Deep.Onto
import Derived.Lib.OwnKind
import Derived.Lib.Hide
import Derived.RangeFuncBox
import Derived.Deep.QuietTactic
import Derived.BigQuiet
namespace Go.Proofs.Ytjfphhemhaphbab
open Go.RowKit Go.Shelf

theorem ret_bool {a b : Bool} (h : a = b) : Ending.returned (.bool a) = .returned (.bool b) := by rw [h]
theorem ret_int {k : IntKind} {a b : Int} (h : a = b) : Ending.returned (.int k a) = .returned (.int k b) := by rw [h]
theorem below_cell {W W' : World} {p : Addr} {v : Value} (hb : Below W.heap.size W W') (h : W.cell? p = some v) : W'.cell? p = some v := (hb.cell (World.block_lt_of_cell? W _ h)).trans h
theorem below_then {B : Nat} {X Y Z : World} (h : Below B X Y) (hB : B ≤ Y.heap.size) (k : Below Y.heap.size Y Z) : Below B X Z := h.trans (k.mono hB)
theorem below_drewN {B : Nat} {X w : World} (h : Below B X w) (n : Nat) : Below B X (w.drewN n) := ⟨h.os, h.tape, h.output, h.size, h.block⟩
theorem addr_add_off (b off i : Nat) : (⟨b, off, none⟩ : Addr).add i = ⟨b, off + i, none⟩ := by unfold Addr.add; split <;> simp_all
theorem below_grown {W w1 w2 : World} {r : Option Nat} (h1 : Below W.heap.size W w1) (hg : w1.grownBy w2 r) (hr : ∀ k, r = some k → W.heap.size ≤ k) : Below W.heap.size W w2 := h1.grown hg h1.size hr
/-- A slice value of n elements, size cells each, that reads as these cells. -/
def ValsAt (W : World) (v : Value) (size n : Nat) (xs : List Value) : Prop := xs.length = n * size ∧ ∃ p cap, v = .slice p n cap ∧
  ((p = none ∧ n = 0 ∧ cap = 0) ∨ ∃ a : Addr, p = some a ∧ ∀ j u, xs[j]? = some u → W.cell? (a.add j) = some u)
/-- A slice value of new memory that reads as these cells. -/
def OwnsNew (B : Nat) (E : TypeId) (size n : Nat) (xs : List Value) (e : Ending) (w' : World) : Prop := ∃ v', e = .returned v' ∧ w'.ownsRow B E size v' n xs

theorem nums_below {W W' : World} {k : IntKind} {v : Value} {ns : List Int} (h : NumsAt W k v ns) (hb : Below W.heap.size W W') : NumsAt W' k v ns := by
  obtain ⟨p, cap, rfl, hc⟩ := h
  refine ⟨p, cap, rfl, fun hne => ?_⟩
  obtain ⟨b, off, rfl, hcs⟩ := hc hne
  exact ⟨b, off, rfl, fun i hi => below_cell hb (hcs i hi)⟩
theorem nums_of_owns {B : Nat} {E : TypeId} {W : World} {v : Value} {k : IntKind} {ns : List Int} {n : Nat} (hl : ns.length = n) (h : W.ownsRow B E 1 v n (ns.map (Value.int k))) : NumsAt W k v ns := by
  subst hl
  rcases h.2 with ⟨rfl, h0⟩ | ⟨g, cap, cur, rfl, _⟩
  · obtain rfl : ns = [] := List.eq_nil_of_length_eq_zero h0
    exact ⟨none, 0, rfl, fun h => absurd rfl h⟩
  · refine ⟨_, _, rfl, fun _ => ⟨g, 0, rfl, fun i hi => ?_⟩⟩
    have h1 := h.cellAt i (by omega)
    rw [List.getElem?_eq_getElem (by simpa using hi)] at h1
    simpa using h1
/-- A world that is as another one was, but for what the blocks of S hold, and for new blocks. -/
structure Keeps (S : Nat → Prop) (w w' : World) : Prop where
  os : w'.os = w.os
  tape : w'.tape = w.tape
  output : w'.output = w.output
  size : w.heap.size ≤ w'.heap.size
  block : ∀ k, k < w.heap.size → ¬ S k → w'.heap[k]? = w.heap[k]?

theorem Keeps.refl (S : Nat → Prop) (w : World) : Keeps S w w := ⟨rfl, rfl, rfl, Nat.le_refl _, fun _ _ _ => rfl⟩
theorem Keeps.trans {S : Nat → Prop} {a b c : World} (h : Keeps S a b) (k : Keeps S b c) : Keeps S a c :=
  ⟨k.os.trans h.os, k.tape.trans h.tape, k.output.trans h.output, Nat.le_trans h.size k.size, fun i hi hs => (k.block i (Nat.lt_of_lt_of_le hi h.size) hs).trans (h.block i hi hs)⟩
theorem Keeps.sub {S T : Nat → Prop} {a b : World} (h : Keeps S a b) (hST : ∀ k, k < a.heap.size → S k → T k) : Keeps T a b :=
  ⟨h.os, h.tape, h.output, h.size, fun i hi hs => h.block i hi fun hS => hs (hST i hi hS)⟩
theorem Keeps.of_below {S : Nat → Prop} {a b : World} (h : Below a.heap.size a b) : Keeps S a b := ⟨h.os, h.tape, h.output, h.size, fun i hi _ => h.block i hi⟩
theorem Keeps.below {S : Nat → Prop} {a b : World} {B : Nat} (h : Keeps S a b) (hB : B ≤ a.heap.size) (hS : ∀ k, S k → B ≤ k) : Below B a b :=
  ⟨h.os, h.tape, h.output, h.size, fun i hi => h.block i (Nat.lt_of_lt_of_le hi hB) fun hs => absurd (hS i hs) (by omega)⟩
theorem Keeps.alloc (S : Nat → Prop) (w : World) (o : Obj) : Keeps S w (w.alloc o) := ⟨rfl, rfl, rfl, by simp, fun k hk _ => Below.heap_alloc _ _ _ hk⟩
theorem Keeps.setCell {S : Nat → Prop} (w : World) {p : Addr} (hp : S p.block) (u : Value) : Keeps S w (w.setCell p u) :=
  ⟨rfl, rfl, rfl, by simp [World.setCell], fun k _ hk => Below.heap_setCell _ _ _ _ fun e => hk (e ▸ hp)⟩
theorem Keeps.drewN {S : Nat → Prop} {a b : World} (h : Keeps S a b) (n : Nat) : Keeps S a (b.drewN n) := ⟨h.os, h.tape, h.output, h.size, h.block⟩
theorem Keeps.cell {S : Nat → Prop} {a b : World} (h : Keeps S a b) {p : Addr} {v : Value} (hc : a.cell? p = some v) (hp : ¬ S p.block) : b.cell? p = some v :=
  (World.cell?_of_block (w := a) (h.block p.block (World.block_lt_of_cell? a _ hc) hp)).trans hc
theorem Keeps.frozen {S : Nat → Prop} {a b : World} (h : Keeps S a b) {p : Addr} (hp : p.block < a.heap.size) (hS : ¬ S p.block) : b.frozen? p = a.frozen? p :=
  World.frozen?_of_block (w := a) (h.block p.block hp hS)
theorem Keeps.row {S : Nat → Prop} {a b : World} (h : Keeps S a b) {B : Nat} {E : TypeId} {size : Nat} {v : Value} {n : Nat} {xs : List Value} (hr : a.ownsRow B E size v n xs) (hv : ∀ g, v.ownBlock = some g → ¬ S g) : b.ownsRow B E size v n xs := by
  refine ⟨hr.1, ?_⟩
  rcases hr.2 with h' | ⟨g, cap, cur, rfl, h2, h3, h4⟩
  · exact .inl h'
  · exact .inr ⟨g, cap, cur, rfl, h2, (h.block g (Array.getElem?_eq_some_iff.1 h3).1 (hv g rfl)).trans h3, h4⟩
theorem owns_below {B : Nat} {E : TypeId} {size : Nat} {v : Value} {n : Nat} {xs : List Value} {X Y : World} (h : X.ownsRow B E size v n xs) (hb : Below X.heap.size X Y) : Y.ownsRow B E size v n xs :=
  (Keeps.of_below (S := fun _ => False) hb).row h fun _ _ h => h
/-- Rows of other kinds lie in other blocks. -/
theorem owns_ne {W : World} {B B' : Nat} {E E' : TypeId} {s s' n n' : Nat} {v v' : Value} {xs xs' : List Value} (h : W.ownsRow B E s v n xs) (h' : W.ownsRow B' E' s' v' n' xs') (hE : E ≠ E') {g g' : Nat} (hg : v.ownBlock = some g) (hg' : v'.ownBlock = some g') : g ≠ g' := by
  rintro rfl
  obtain ⟨c, f, h1⟩ := Lib.ownsRow_kind h g hg
  obtain ⟨c', f', h2⟩ := Lib.ownsRow_kind h' g hg'
  rw [h1] at h2
  simp at h2
  exact hE h2.2.1

theorem below_frozen {W W' : World} {p : Addr} {v : Value} (hb : Below W.heap.size W W') (h : W.cell? p = some v) (hf : W.frozen? p = false) : W'.frozen? p = false := (hb.frozen (World.block_lt_of_cell? W _ h)).trans hf

/-- A slice reads so before it is written, and behind writes elsewhere. -/
theorem nums_keeps {S : Nat → Prop} {W W' : World} {k : IntKind} {p : Option Addr} {n c : Nat} {ns : List Int} (h : NumsAt W k (.slice p n c) ns) (hk : Keeps S W W') (hS : ∀ a, p = some a → ¬ S a.block) : NumsAt W' k (.slice p n c) ns := by
  obtain ⟨q, cap, e, hc⟩ := h
  injection e with e1 e2 e3
  subst e1
  refine ⟨p, cap, by rw [e2, e3], fun hne => ?_⟩
  obtain ⟨b, off, rfl, hcs⟩ := hc hne
  exact ⟨b, off, rfl, fun i hi => hk.cell (hcs i hi) (show ¬ S b from hS ⟨b, off, none⟩ rfl)⟩
theorem nums_len {W : World} {k : IntKind} {p : Option Addr} {n c : Nat} {ns : List Int} (h : NumsAt W k (.slice p n c) ns) : n = ns.length := by
  obtain ⟨q, cap, e, _⟩ := h
  injection e
/-- A block whole as numbers reads as they. -/
theorem nums_block {W : World} {k : IntKind} {b n c : Nat} {T : TypeId} {xs : List Int} (h : W.heap[b]? = some (.cells (xs.map (Value.int k)).toArray T (0, 0))) (hn : n ≤ xs.length) : NumsAt W k (.slice (some ⟨b, 0, none⟩) n c) (xs.take n) := by
  have hl : (xs.take n).length = n := by rw [List.length_take]; omega
  refine ⟨_, c, by rw [hl], fun _ => ⟨b, 0, rfl, fun i hi => ?_⟩⟩
  have hi2 : i < xs.length := by omega
  simp [World.cell?, h, hi2]
theorem block_cell {W : World} {k : IntKind} {b : Nat} {T : TypeId} {xs : List Int} (h : W.heap[b]? = some (.cells (xs.map (Value.int k)).toArray T (0, 0))) (i : Nat) (hi : i < xs.length) : W.cell? ⟨b, i, none⟩ = some (.int k xs[i]) := by simp [World.cell?, h, hi]
theorem block_free {W : World} {k : IntKind} {b : Nat} {T : TypeId} {xs : List Int} (h : W.heap[b]? = some (.cells (xs.map (Value.int k)).toArray T (0, 0))) (i : Nat) : W.frozen? ⟨b, i, none⟩ = false := by simp [World.frozen?, h]
theorem block_set {W : World} {k : IntKind} {b : Nat} {T : TypeId} {xs : List Int} (h : W.heap[b]? = some (.cells (xs.map (Value.int k)).toArray T (0, 0))) (i : Nat) (x : Int) : (W.setCell ⟨b, i, none⟩ (.int k x)).heap[b]? = some (.cells ((xs.set i x).map (Value.int k)).toArray T (0, 0)) := by
  rw [heap_setCell_same W b i _ _ (.int k x) h]
  simp [List.map_set]

end Go.Proofs.Ytjfphhemhaphbab
