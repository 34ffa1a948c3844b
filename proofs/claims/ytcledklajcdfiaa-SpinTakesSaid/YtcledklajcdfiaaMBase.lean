/-
  Memories as lists: how a memory's value reads, which blocks a call may write, and what such a call keeps.
  Conditions: none.
-/
import Derived.Test.YtcledklajcdfiaaNums
import Derived.Test.YtcledklajcdfiaaProg
import Derived.Shelf.Abstract
import Derived.OwnWalk
import Derived.WalkSpells
import Derived.Laws.OwnMore
import Derived.Deep.Onto
import Derived.Lib.OwnKind
import Derived.RangeFuncBox
import Derived.Deep.QuietTactic
import Derived.BigQuiet
namespace Go.Proofs.Ytcledklajcdfiaa
open Go.RowKit Go.Shelf

theorem ret_bool {a b : Bool} (h : a = b) : Ending.returned (.bool a) = .returned (.bool b) := by rw [h]
theorem ret_int {k : IntKind} {a b : Int} (h : a = b) : Ending.returned (.int k a) = .returned (.int k b) := by rw [h]
theorem below_cell {W W' : World} {p : Addr} {v : Value} (hb : Below W.heap.size W W') (h : W.cell? p = some v) : W'.cell? p = some v := (hb.cell (World.block_lt_of_cell? W _ h)).trans h
theorem below_then {B : Nat} {X Y Z : World} (h : Below B X Y) (hB : B ≤ Y.heap.size) (k : Below Y.heap.size Y Z) : Below B X Z := h.trans (k.mono hB)
theorem below_drewN {B : Nat} {X w : World} (h : Below B X w) (n : Nat) : Below B X (w.drewN n) := ⟨h.os, h.tape, h.output, h.size, h.block⟩
theorem addr_add_off (b off i : Nat) : (⟨b, off, none⟩ : Addr).add i = ⟨b, off + i, none⟩ := by unfold Addr.add; split <;> simp_all
theorem below_grown {W w1 w2 : World} {r : Option Nat} (h1 : Below W.heap.size W w1) (hg : w1.grownBy w2 r) (hr : ∀ k, r = some k → W.heap.size ≤ k) : Below W.heap.size W w2 := h1.grown hg h1.size hr
/-- A slice value of n elements, size cells each, that reads as these cells. -/
def ValsAt (W : World) (v : Value) (size n : Nat) (xs : List Value) : Prop := xs.length = n * size ∧ ∃ p cap, v = .slice p n cap ∧
  ((p = none ∧ n = 0 ∧ cap = 0) ∨ ∃ a : Addr, p = some a ∧ ∀ j u, xs[j]? = some u → W.cell? (a.add j) = some u)
/-- A slice value of new memory that reads as these cells. -/
def OwnsNew (B : Nat) (E : TypeId) (size n : Nat) (xs : List Value) (e : Ending) (w' : World) : Prop := ∃ v', e = .returned v' ∧ w'.ownsRow B E size v' n xs

/-- A slice that reads as these truth values. -/
def BoolsAt (W : World) (v : Value) (bs : List Bool) : Prop := ∃ p cap, v = .slice p bs.length cap ∧ (bs ≠ [] → ∃ b off, p = some ⟨b, off, none⟩ ∧ ∀ i (h : i < bs.length), W.cell? ⟨b, off + i, none⟩ = some (.bool bs[i]))

theorem nums_below {W W' : World} {k : IntKind} {v : Value} {ns : List Int} (h : NumsAt W k v ns) (hb : Below W.heap.size W W') : NumsAt W' k v ns := by
  obtain ⟨p, cap, rfl, hc⟩ := h
  refine ⟨p, cap, rfl, fun hne => ?_⟩
  obtain ⟨b, off, rfl, hcs⟩ := hc hne
  exact ⟨b, off, rfl, fun i hi => below_cell hb (hcs i hi)⟩
theorem bools_below {W W' : World} {v : Value} {bs : List Bool} (h : BoolsAt W v bs) (hb : Below W.heap.size W W') : BoolsAt W' v bs := by
  obtain ⟨p, cap, rfl, hc⟩ := h
  refine ⟨p, cap, rfl, fun hne => ?_⟩
  obtain ⟨b, off, rfl, hcs⟩ := hc hne
  exact ⟨b, off, rfl, fun i hi => below_cell hb (hcs i hi)⟩
theorem nums_of_owns {B : Nat} {E : TypeId} {W : World} {v : Value} {k : IntKind} {ns : List Int} {n : Nat} (hl : ns.length = n) (h : W.ownsRow B E 1 v n (ns.map (Value.int k))) : NumsAt W k v ns := by
  subst hl
  rcases h.2 with ⟨rfl, h0⟩ | ⟨g, cap, cur, rfl, _⟩
  · obtain rfl : ns = [] := List.eq_nil_of_length_eq_zero h0
    exact ⟨none, 0, rfl, fun h => absurd rfl h⟩
  · refine ⟨_, _, rfl, fun _ => ⟨g, 0, rfl, fun i hi => ?_⟩⟩
    have h1 := h.cellAt i (by omega)
    rw [List.getElem?_eq_getElem (by simpa using hi)] at h1
    simpa using h1
theorem bools_of_owns {B : Nat} {E : TypeId} {W : World} {v : Value} {bs : List Bool} {n : Nat} (hl : bs.length = n) (h : W.ownsRow B E 1 v n (bs.map Value.bool)) : BoolsAt W v bs := by
  subst hl
  rcases h.2 with ⟨rfl, h0⟩ | ⟨g, cap, cur, rfl, _⟩
  · obtain rfl : bs = [] := List.eq_nil_of_length_eq_zero h0
    exact ⟨none, 0, rfl, fun h => absurd rfl h⟩
  · refine ⟨_, _, rfl, fun _ => ⟨g, 0, rfl, fun i hi => ?_⟩⟩
    have h1 := h.cellAt i (by omega)
    rw [List.getElem?_eq_getElem (by simpa using hi)] at h1
    simpa using h1

/-- A world that is as another one was, but for what the blocks of S hold, and for new blocks. -/
structure Keeps (S : Nat → Prop) (w w' : World) : Prop where
  os : w'.os = w.os
  tape : w'.tape = w.tape
  output : w'.output = w.output
  size : w.heap.size ≤ w'.heap.size
  block : ∀ k, k < w.heap.size → ¬ S k → w'.heap[k]? = w.heap[k]?

theorem Keeps.refl (S : Nat → Prop) (w : World) : Keeps S w w := ⟨rfl, rfl, rfl, Nat.le_refl _, fun _ _ _ => rfl⟩
theorem Keeps.trans {S : Nat → Prop} {a b c : World} (h : Keeps S a b) (k : Keeps S b c) : Keeps S a c :=
  ⟨k.os.trans h.os, k.tape.trans h.tape, k.output.trans h.output, Nat.le_trans h.size k.size, fun i hi hs => (k.block i (Nat.lt_of_lt_of_le hi h.size) hs).trans (h.block i hi hs)⟩
theorem Keeps.sub {S T : Nat → Prop} {a b : World} (h : Keeps S a b) (hST : ∀ k, k < a.heap.size → S k → T k) : Keeps T a b :=
  ⟨h.os, h.tape, h.output, h.size, fun i hi hs => h.block i hi fun hS => hs (hST i hi hS)⟩
theorem Keeps.of_below {S : Nat → Prop} {a b : World} (h : Below a.heap.size a b) : Keeps S a b := ⟨h.os, h.tape, h.output, h.size, fun i hi _ => h.block i hi⟩
theorem Keeps.below {S : Nat → Prop} {a b : World} {B : Nat} (h : Keeps S a b) (hB : B ≤ a.heap.size) (hS : ∀ k, S k → B ≤ k) : Below B a b :=
  ⟨h.os, h.tape, h.output, h.size, fun i hi => h.block i (Nat.lt_of_lt_of_le hi hB) fun hs => absurd (hS i hs) (by omega)⟩
theorem Keeps.alloc (S : Nat → Prop) (w : World) (o : Obj) : Keeps S w (w.alloc o) := ⟨rfl, rfl, rfl, by simp, fun k hk _ => Below.heap_alloc _ _ _ hk⟩
theorem Keeps.setCell {S : Nat → Prop} (w : World) {p : Addr} (hp : S p.block) (u : Value) : Keeps S w (w.setCell p u) :=
  ⟨rfl, rfl, rfl, by simp [World.setCell], fun k _ hk => Below.heap_setCell _ _ _ _ fun e => hk (e ▸ hp)⟩
theorem Keeps.drewN {S : Nat → Prop} {a b : World} (h : Keeps S a b) (n : Nat) : Keeps S a (b.drewN n) := ⟨h.os, h.tape, h.output, h.size, h.block⟩
theorem Keeps.cell {S : Nat → Prop} {a b : World} (h : Keeps S a b) {p : Addr} {v : Value} (hc : a.cell? p = some v) (hp : ¬ S p.block) : b.cell? p = some v :=
  (World.cell?_of_block (w := a) (h.block p.block (World.block_lt_of_cell? a _ hc) hp)).trans hc
theorem Keeps.frozen {S : Nat → Prop} {a b : World} (h : Keeps S a b) {p : Addr} (hp : p.block < a.heap.size) (hS : ¬ S p.block) : b.frozen? p = a.frozen? p :=
  World.frozen?_of_block (w := a) (h.block p.block hp hS)
theorem Keeps.row {S : Nat → Prop} {a b : World} (h : Keeps S a b) {B : Nat} {E : TypeId} {size : Nat} {v : Value} {n : Nat} {xs : List Value} (hr : a.ownsRow B E size v n xs) (hv : ∀ g, v.ownBlock = some g → ¬ S g) : b.ownsRow B E size v n xs := by
  refine ⟨hr.1, ?_⟩
  rcases hr.2 with h' | ⟨g, cap, cur, rfl, h2, h3, h4⟩
  · exact .inl h'
  · exact .inr ⟨g, cap, cur, rfl, h2, (h.block g (Array.getElem?_eq_some_iff.1 h3).1 (hv g rfl)).trans h3, h4⟩
theorem owns_below {B : Nat} {E : TypeId} {size : Nat} {v : Value} {n : Nat} {xs : List Value} {X Y : World} (h : X.ownsRow B E size v n xs) (hb : Below X.heap.size X Y) : Y.ownsRow B E size v n xs :=
  (Keeps.of_below (S := fun _ => False) hb).row h fun _ _ h => h
/-- Rows of other kinds lie in other blocks. -/
theorem owns_ne {W : World} {B B' : Nat} {E E' : TypeId} {s s' n n' : Nat} {v v' : Value} {xs xs' : List Value} (h : W.ownsRow B E s v n xs) (h' : W.ownsRow B' E' s' v' n' xs') (hE : E ≠ E') {g g' : Nat} (hg : v.ownBlock = some g) (hg' : v'.ownBlock = some g') : g ≠ g' := by
  rintro rfl
  obtain ⟨c, f, h1⟩ := Lib.ownsRow_kind h g hg
  obtain ⟨c', f', h2⟩ := Lib.ownsRow_kind h' g hg'
  rw [h1] at h2
  simp at h2
  exact hE h2.2.1

/-- A memory in memory of its own: its words, and which are live. -/
def OwnsMem (W : World) (B : Nat) (v : Value) (ws : List Int) (ls : List Bool) (f : Bool) : Prop :=
  ∃ vw vl, v = .agg #[vw, vl, .bool f] ∧ W.ownsRow B 22 1 vw ws.length (ws.map (Value.int .u64)) ∧ W.ownsRow B 4 1 vl ls.length (ls.map Value.bool)
/-- A memory that reads so. -/
def MemAt (W : World) (v : Value) (ws : List Int) (ls : List Bool) (f : Bool) : Prop := ∃ vw vl, v = .agg #[vw, vl, .bool f] ∧ NumsAt W .u64 vw ws ∧ BoolsAt W vl ls
theorem OwnsMem.at {W : World} {B : Nat} {v : Value} {ws : List Int} {ls : List Bool} {f : Bool} (h : OwnsMem W B v ws ls f) : MemAt W v ws ls f := by
  obtain ⟨vw, vl, rfl, h1, h2⟩ := h
  exact ⟨vw, vl, rfl, nums_of_owns rfl h1, bools_of_owns rfl h2⟩
theorem OwnsMem.below {W W' : World} {B : Nat} {v : Value} {ws : List Int} {ls : List Bool} {f : Bool} (h : OwnsMem W B v ws ls f) (hb : Below W.heap.size W W') : OwnsMem W' B v ws ls f := by
  obtain ⟨vw, vl, rfl, h1, h2⟩ := h
  exact ⟨vw, vl, rfl, owns_below h1 hb, owns_below h2 hb⟩
theorem OwnsMem.mono {W : World} {B B' : Nat} {v : Value} {ws : List Int} {ls : List Bool} {f : Bool} (h : OwnsMem W B v ws ls f) (hB : B' ≤ B) : OwnsMem W B' v ws ls f := by
  obtain ⟨vw, vl, rfl, h1, h2⟩ := h
  exact ⟨vw, vl, rfl, h1.mono hB, h2.mono hB⟩
theorem MemAt.below {W W' : World} {v : Value} {ws : List Int} {ls : List Bool} {f : Bool} (h : MemAt W v ws ls f) (hb : Below W.heap.size W W') : MemAt W' v ws ls f := by
  obtain ⟨vw, vl, rfl, h1, h2⟩ := h
  exact ⟨vw, vl, rfl, nums_below h1 hb, bools_below h2 hb⟩
/-- The words are in the range of Go's words. -/
def WRange (ws : List Int) : Prop := ∀ x ∈ ws, 0 ≤ x ∧ x ≤ 18446744073709551615

def poison : Int := 18369900232523579118
/-- May such a word be, that is live, or free? -/
def mayB (l : Bool) (w : Int) : Bool := l || (w == 0 || w == poison)
/-- May a memory be? -/
def rightB (ws : List Int) (ls : List Bool) : Bool := decide (1 ≤ ws.length) && decide (ws.length ≤ 4096) && decide (ls.length = ws.length) && (ls.zip ws).all fun x => mayB x.1 x.2
theorem rightB_iff {ws : List Int} {ls : List Bool} : rightB ws ls = true ↔ 1 ≤ ws.length ∧ ws.length ≤ 4096 ∧ ls.length = ws.length ∧ ∀ i (h : i < ws.length) (h' : i < ls.length), mayB ls[i] ws[i] = true := by
  simp only [rightB, Bool.and_eq_true, decide_eq_true_eq, List.all_eq_true, and_assoc]
  refine and_congr_right fun _ => and_congr_right fun _ => and_congr_right fun hl => ⟨fun h i hi hi' => ?_, fun h x hx => ?_⟩
  · exact h (ls[i], ws[i]) (by rw [List.mem_iff_getElem]; exact ⟨i, by simp; omega, by simp⟩)
  · obtain ⟨i, hi, rfl⟩ := List.mem_iff_getElem.1 hx
    simp only [List.length_zip] at hi
    rw [List.getElem_zip]
    exact h i (by omega) (by omega)

/-- Block z is a variable that holds a memory. -/
def MBox (W : World) (z : Nat) (a b : Value) (f : Bool) : Prop := W.heap[z]? = some (.cells #[a, b, .bool f] 46 (0, 0))
theorem mbox_cells {W : World} {z : Nat} {a b : Value} {f : Bool} (h : MBox W z a b f) : (W.cell? ⟨z, 0, none⟩ = some a ∧ W.cell? ⟨z, 1, none⟩ = some b ∧ W.cell? ⟨z, 2, none⟩ = some (.bool f)) ∧
    W.frozen? ⟨z, 0, none⟩ = false ∧ W.frozen? ⟨z, 1, none⟩ = false ∧ W.frozen? ⟨z, 2, none⟩ = false := by
  have h' : W.heap[z]? = _ := h
  simp [World.cell?, World.frozen?, h']
theorem MBox.lt {W : World} {z : Nat} {a b : Value} {f : Bool} (h : MBox W z a b f) : z < W.heap.size := (Array.getElem?_eq_some_iff.1 h).1
theorem MBox.new (W : World) (a b : Value) (f : Bool) : MBox (W.alloc (.cells #[a, b, .bool f] 46)) W.heap.size a b f := World.alloc_heap_new W _
theorem MBox.keeps {S : Nat → Prop} {W W' : World} {z : Nat} {a b : Value} {f : Bool} (h : MBox W z a b f) (hk : Keeps S W W') (hz : ¬ S z) : MBox W' z a b f := (hk.block z h.lt hz).trans h
theorem MBox.below {W W' : World} {z : Nat} {a b : Value} {f : Bool} (h : MBox W z a b f) (hk : Below W.heap.size W W') : MBox W' z a b f := (hk.block z h.lt).trans h
theorem MBox.alloc {W : World} {z : Nat} {a b : Value} {f : Bool} (h : MBox W z a b f) (o : Obj) : MBox (W.alloc o) z a b f := h.keeps (Keeps.alloc (fun _ => False) W o) (fun h => h)
theorem MBox.set {W : World} {z : Nat} {a b : Value} {f : Bool} (h : MBox W z a b f) (a' b' : Value) (f' : Bool) : MBox (((W.setCell ⟨z, 0, none⟩ a').setCell ⟨z, 1, none⟩ b').setCell ⟨z, 2, none⟩ (.bool f')) z a' b' f' := by
  have h1 := heap_setCell_same W z 0 _ _ a' h
  have h2 := heap_setCell_same _ z 1 _ _ b' h1
  have h3 := heap_setCell_same _ z 2 _ _ (.bool f') h2
  unfold MBox
  rw [h3]
  rfl
theorem MBox.row {W : World} {z : Nat} {a b : Value} {f : Bool} (h : MBox W z a b f) {B : Nat} {E : TypeId} {s n : Nat} {v : Value} {xs : List Value} (hr : W.ownsRow B E s v n xs) (hE : E ≠ 46) {g : Nat} (hg : v.ownBlock = some g) : z ≠ g := by
  rintro rfl
  obtain ⟨c, fz, h1⟩ := Lib.ownsRow_kind hr z hg
  rw [show W.heap[z]? = _ from h] at h1
  simp at h1
  exact hE h1.2.1.symm

end Go.Proofs.Ytcledklajcdfiaa
