/-
  What an access of a word comes to, that is there: free, or loaded.
  Conditions: the word is there, and may be written.
-/
import Derived.Test.YtaljpggajpoalaaRows
import Derived.ProofKit
import Derived.OpenShut
import Derived.WalkKit
import Derived.Test.YtaljpggajpoalaaProg
import Derived.Shelf.Abstract
import Derived.OwnWalk
import Derived.WalkSpells
import Derived.Laws.OwnMore
import Derived.Deep.Onto
import Derived.Lib.OwnKind
import Derived.RangeFuncBox
import Derived.Deep.QuietTactic
import Derived.BigQuiet
import Derived.Lib.Hide
import Derived.Deep.RegionHeld3
import Derived.Laws.EntriesVeiled
import Derived.Deep.RegionWith
import Derived.Deep.RegionHeld
/-
  From a walk to a row: where a law returned true and what was in memory stays, the row's word holds; for any number of arguments.
  Conditions: the arguments' types can be read whole.
-/
namespace Go.Proofs.Ytaljpggajpoalaa
open Go.ChangeShapes Go.WideShapes Go.ChangeAt Go.RowKit

theorem own : ownKnob Try.prog.godebug = none := by kernel_rfl
theorem laidOut : laidOutB Try.prog = true := by kernel_rfl

theorem trodAll_stays {H : Type} {enc : TypeId × Value → H} {P : Program} (hl : laidOutB P = true) {W W' : World} (hb : Below W.heap.size W W') : ∀ {ts : List TypeId} {vs : List Value} {ds : List (DataW H)} {ps : List MemPlace},
    (ts.all fun t => P.readableRec t && decide (t < P.types.size)) = true → DataW.TrodAll enc P W 0 (fun _ => true) true ts vs ds ps → (∀ x ∈ ps, x.block < W.heap.size) → DataW.TrodAll enc P W' 0 (fun b => decide (b < W.heap.size)) true ts vs ds ps
  | [], [], [], _, _, h, _ => h
  | t :: ts, v :: vs, d :: ds, _, hr, ⟨p, q, h, hs, e⟩, hlt => by
    subst e
    simp only [List.all_cons, Bool.and_eq_true, decide_eq_true_eq] at hr
    exact ⟨p, q, Below.trod hl hr.1.1 hr.1.2 h hb (fun x hx => hlt x (List.mem_append_left _ hx)), trodAll_stays hl hb hr.2 hs (fun x hx => hlt x (List.mem_append_right _ hx)), rfl⟩

end Go.Proofs.Ytaljpggajpoalaa
/-
  What it is for a slice to read as numbers of one kind.
  Conditions: none.
-/
namespace Go.Proofs.Ytaljpggajpoalaa

/-- A slice that reads as these numbers of one kind. -/
def NumsAt (W : World) (k : IntKind) (v : Value) (ns : List Int) : Prop := ∃ p cap, v = .slice p ns.length cap ∧
  (ns ≠ [] → ∃ b off, p = some ⟨b, off, none⟩ ∧ ∀ i (h : i < ns.length), W.cell? ⟨b, off + i, none⟩ = some (.int k ns[i]))

end Go.Proofs.Ytaljpggajpoalaa
/-
  Memories as lists: how a memory's value reads, which blocks a call may write, and what such a call keeps.
  Conditions: none.
-/
namespace Go.Proofs.Ytaljpggajpoalaa
open Go.RowKit Go.Shelf

theorem ret_bool {a b : Bool} (h : a = b) : Ending.returned (.bool a) = .returned (.bool b) := by rw [h]
theorem ret_int {k : IntKind} {a b : Int} (h : a = b) : Ending.returned (.int k a) = .returned (.int k b) := by rw [h]
theorem below_cell {W W' : World} {p : Addr} {v : Value} (hb : Below W.heap.size W W') (h : W.cell? p = some v) : W'.cell? p = some v := (hb.cell (World.block_lt_of_cell? W _ h)).trans h
theorem below_then {B : Nat} {X Y Z : World} (h : Below B X Y) (hB : B ≤ Y.heap.size) (k : Below Y.heap.size Y Z) : Below B X Z := h.trans (k.mono hB)
theorem below_drewN {B : Nat} {X w : World} (h : Below B X w) (n : Nat) : Below B X (w.drewN n) := ⟨h.os, h.tape, h.output, h.size, h.block⟩
theorem addr_add_off (b off i : Nat) : (⟨b, off, none⟩ : Addr).add i = ⟨b, off + i, none⟩ := by unfold Addr.add; split <;> simp_all
theorem below_grown {W w1 w2 : World} {r : Option Nat} (h1 : Below W.heap.size W w1) (hg : w1.grownBy w2 r) (hr : ∀ k, r = some k → W.heap.size ≤ k) : Below W.heap.size W w2 := h1.grown hg h1.size hr
/-- A slice value of n elements, size cells each, that reads as these cells. -/
def ValsAt (W : World) (v : Value) (size n : Nat) (xs : List Value) : Prop := xs.length = n * size ∧ ∃ p cap, v = .slice p n cap ∧
  ((p = none ∧ n = 0 ∧ cap = 0) ∨ ∃ a : Addr, p = some a ∧ ∀ j u, xs[j]? = some u → W.cell? (a.add j) = some u)
/-- A slice value of new memory that reads as these cells. -/
def OwnsNew (B : Nat) (E : TypeId) (size n : Nat) (xs : List Value) (e : Ending) (w' : World) : Prop := ∃ v', e = .returned v' ∧ w'.ownsRow B E size v' n xs

/-- A slice that reads as these truth values. -/
def BoolsAt (W : World) (v : Value) (bs : List Bool) : Prop := ∃ p cap, v = .slice p bs.length cap ∧ (bs ≠ [] → ∃ b off, p = some ⟨b, off, none⟩ ∧ ∀ i (h : i < bs.length), W.cell? ⟨b, off + i, none⟩ = some (.bool bs[i]))

theorem nums_below {W W' : World} {k : IntKind} {v : Value} {ns : List Int} (h : NumsAt W k v ns) (hb : Below W.heap.size W W') : NumsAt W' k v ns := by
  obtain ⟨p, cap, rfl, hc⟩ := h
  refine ⟨p, cap, rfl, fun hne => ?_⟩
  obtain ⟨b, off, rfl, hcs⟩ := hc hne
  exact ⟨b, off, rfl, fun i hi => below_cell hb (hcs i hi)⟩
theorem bools_below {W W' : World} {v : Value} {bs : List Bool} (h : BoolsAt W v bs) (hb : Below W.heap.size W W') : BoolsAt W' v bs := by
  obtain ⟨p, cap, rfl, hc⟩ := h
  refine ⟨p, cap, rfl, fun hne => ?_⟩
  obtain ⟨b, off, rfl, hcs⟩ := hc hne
  exact ⟨b, off, rfl, fun i hi => below_cell hb (hcs i hi)⟩
theorem nums_of_owns {B : Nat} {E : TypeId} {W : World} {v : Value} {k : IntKind} {ns : List Int} {n : Nat} (hl : ns.length = n) (h : W.ownsRow B E 1 v n (ns.map (Value.int k))) : NumsAt W k v ns := by
  subst hl
  rcases h.2 with ⟨rfl, h0⟩ | ⟨g, cap, cur, rfl, _⟩
  · obtain rfl : ns = [] := List.eq_nil_of_length_eq_zero h0
    exact ⟨none, 0, rfl, fun h => absurd rfl h⟩
  · refine ⟨_, _, rfl, fun _ => ⟨g, 0, rfl, fun i hi => ?_⟩⟩
    have h1 := h.cellAt i (by omega)
    rw [List.getElem?_eq_getElem (by simpa using hi)] at h1
    simpa using h1
theorem bools_of_owns {B : Nat} {E : TypeId} {W : World} {v : Value} {bs : List Bool} {n : Nat} (hl : bs.length = n) (h : W.ownsRow B E 1 v n (bs.map Value.bool)) : BoolsAt W v bs := by
  subst hl
  rcases h.2 with ⟨rfl, h0⟩ | ⟨g, cap, cur, rfl, _⟩
  · obtain rfl : bs = [] := List.eq_nil_of_length_eq_zero h0
    exact ⟨none, 0, rfl, fun h => absurd rfl h⟩
  · refine ⟨_, _, rfl, fun _ => ⟨g, 0, rfl, fun i hi => ?_⟩⟩
    have h1 := h.cellAt i (by omega)
    rw [List.getElem?_eq_getElem (by simpa using hi)] at h1
    simpa using h1

/-- A world that is as another one was, but for what the blocks of S hold, and for new blocks. -/
structure Keeps (S : Nat → Prop) (w w' : World) : Prop where
  os : w'.os = w.os
  tape : w'.tape = w.tape
  output : w'.output = w.output
  size : w.heap.size ≤ w'.heap.size
  block : ∀ k, k < w.heap.size → ¬ S k → w'.heap[k]? = w.heap[k]?

theorem Keeps.refl (S : Nat → Prop) (w : World) : Keeps S w w := ⟨rfl, rfl, rfl, Nat.le_refl _, fun _ _ _ => rfl⟩
theorem Keeps.trans {S : Nat → Prop} {a b c : World} (h : Keeps S a b) (k : Keeps S b c) : Keeps S a c :=
  ⟨k.os.trans h.os, k.tape.trans h.tape, k.output.trans h.output, Nat.le_trans h.size k.size, fun i hi hs => (k.block i (Nat.lt_of_lt_of_le hi h.size) hs).trans (h.block i hi hs)⟩
theorem Keeps.sub {S T : Nat → Prop} {a b : World} (h : Keeps S a b) (hST : ∀ k, k < a.heap.size → S k → T k) : Keeps T a b :=
  ⟨h.os, h.tape, h.output, h.size, fun i hi hs => h.block i hi fun hS => hs (hST i hi hS)⟩
theorem Keeps.of_below {S : Nat → Prop} {a b : World} (h : Below a.heap.size a b) : Keeps S a b := ⟨h.os, h.tape, h.output, h.size, fun i hi _ => h.block i hi⟩
theorem Keeps.below {S : Nat → Prop} {a b : World} {B : Nat} (h : Keeps S a b) (hB : B ≤ a.heap.size) (hS : ∀ k, S k → B ≤ k) : Below B a b :=
  ⟨h.os, h.tape, h.output, h.size, fun i hi => h.block i (Nat.lt_of_lt_of_le hi hB) fun hs => absurd (hS i hs) (by omega)⟩
theorem Keeps.alloc (S : Nat → Prop) (w : World) (o : Obj) : Keeps S w (w.alloc o) := ⟨rfl, rfl, rfl, by simp, fun k hk _ => Below.heap_alloc _ _ _ hk⟩
theorem Keeps.setCell {S : Nat → Prop} (w : World) {p : Addr} (hp : S p.block) (u : Value) : Keeps S w (w.setCell p u) :=
  ⟨rfl, rfl, rfl, by simp [World.setCell], fun k _ hk => Below.heap_setCell _ _ _ _ fun e => hk (e ▸ hp)⟩
theorem Keeps.drewN {S : Nat → Prop} {a b : World} (h : Keeps S a b) (n : Nat) : Keeps S a (b.drewN n) := ⟨h.os, h.tape, h.output, h.size, h.block⟩
theorem Keeps.cell {S : Nat → Prop} {a b : World} (h : Keeps S a b) {p : Addr} {v : Value} (hc : a.cell? p = some v) (hp : ¬ S p.block) : b.cell? p = some v :=
  (World.cell?_of_block (w := a) (h.block p.block (World.block_lt_of_cell? a _ hc) hp)).trans hc
theorem Keeps.frozen {S : Nat → Prop} {a b : World} (h : Keeps S a b) {p : Addr} (hp : p.block < a.heap.size) (hS : ¬ S p.block) : b.frozen? p = a.frozen? p :=
  World.frozen?_of_block (w := a) (h.block p.block hp hS)
theorem Keeps.row {S : Nat → Prop} {a b : World} (h : Keeps S a b) {B : Nat} {E : TypeId} {size : Nat} {v : Value} {n : Nat} {xs : List Value} (hr : a.ownsRow B E size v n xs) (hv : ∀ g, v.ownBlock = some g → ¬ S g) : b.ownsRow B E size v n xs := by
  refine ⟨hr.1, ?_⟩
  rcases hr.2 with h' | ⟨g, cap, cur, rfl, h2, h3, h4⟩
  · exact .inl h'
  · exact .inr ⟨g, cap, cur, rfl, h2, (h.block g (Array.getElem?_eq_some_iff.1 h3).1 (hv g rfl)).trans h3, h4⟩
theorem owns_below {B : Nat} {E : TypeId} {size : Nat} {v : Value} {n : Nat} {xs : List Value} {X Y : World} (h : X.ownsRow B E size v n xs) (hb : Below X.heap.size X Y) : Y.ownsRow B E size v n xs :=
  (Keeps.of_below (S := fun _ => False) hb).row h fun _ _ h => h
/-- Rows of other kinds lie in other blocks. -/
theorem owns_ne {W : World} {B B' : Nat} {E E' : TypeId} {s s' n n' : Nat} {v v' : Value} {xs xs' : List Value} (h : W.ownsRow B E s v n xs) (h' : W.ownsRow B' E' s' v' n' xs') (hE : E ≠ E') {g g' : Nat} (hg : v.ownBlock = some g) (hg' : v'.ownBlock = some g') : g ≠ g' := by
  rintro rfl
  obtain ⟨c, f, h1⟩ := Lib.ownsRow_kind h g hg
  obtain ⟨c', f', h2⟩ := Lib.ownsRow_kind h' g hg'
  rw [h1] at h2
  simp at h2
  exact hE h2.2.1

/-- A memory in memory of its own: its words, and which are live. -/
def OwnsMem (W : World) (B : Nat) (v : Value) (ws : List Int) (ls : List Bool) (f : Bool) : Prop :=
  ∃ vw vl, v = .agg #[vw, vl, .bool f] ∧ W.ownsRow B 27 1 vw ws.length (ws.map (Value.int .u64)) ∧ W.ownsRow B 4 1 vl ls.length (ls.map Value.bool)
/-- A memory that reads so. -/
def MemAt (W : World) (v : Value) (ws : List Int) (ls : List Bool) (f : Bool) : Prop := ∃ vw vl, v = .agg #[vw, vl, .bool f] ∧ NumsAt W .u64 vw ws ∧ BoolsAt W vl ls
theorem OwnsMem.at {W : World} {B : Nat} {v : Value} {ws : List Int} {ls : List Bool} {f : Bool} (h : OwnsMem W B v ws ls f) : MemAt W v ws ls f := by
  obtain ⟨vw, vl, rfl, h1, h2⟩ := h
  exact ⟨vw, vl, rfl, nums_of_owns rfl h1, bools_of_owns rfl h2⟩
theorem OwnsMem.below {W W' : World} {B : Nat} {v : Value} {ws : List Int} {ls : List Bool} {f : Bool} (h : OwnsMem W B v ws ls f) (hb : Below W.heap.size W W') : OwnsMem W' B v ws ls f := by
  obtain ⟨vw, vl, rfl, h1, h2⟩ := h
  exact ⟨vw, vl, rfl, owns_below h1 hb, owns_below h2 hb⟩
theorem OwnsMem.mono {W : World} {B B' : Nat} {v : Value} {ws : List Int} {ls : List Bool} {f : Bool} (h : OwnsMem W B v ws ls f) (hB : B' ≤ B) : OwnsMem W B' v ws ls f := by
  obtain ⟨vw, vl, rfl, h1, h2⟩ := h
  exact ⟨vw, vl, rfl, h1.mono hB, h2.mono hB⟩
theorem MemAt.below {W W' : World} {v : Value} {ws : List Int} {ls : List Bool} {f : Bool} (h : MemAt W v ws ls f) (hb : Below W.heap.size W W') : MemAt W' v ws ls f := by
  obtain ⟨vw, vl, rfl, h1, h2⟩ := h
  exact ⟨vw, vl, rfl, nums_below h1 hb, bools_below h2 hb⟩
/-- The words are in the range of Go's words. -/
def WRange (ws : List Int) : Prop := ∀ x ∈ ws, 0 ≤ x ∧ x ≤ 18446744073709551615

def poison : Int := 18369900232523579118
/-- May such a word be, that is live, or free? -/
def mayB (l : Bool) (w : Int) : Bool := l || (w == 0 || w == poison)
/-- May a memory be? -/
def rightB (ws : List Int) (ls : List Bool) : Bool := decide (1 ≤ ws.length) && decide (ws.length ≤ 4096) && decide (ls.length = ws.length) && (ls.zip ws).all fun x => mayB x.1 x.2
theorem rightB_iff {ws : List Int} {ls : List Bool} : rightB ws ls = true ↔ 1 ≤ ws.length ∧ ws.length ≤ 4096 ∧ ls.length = ws.length ∧ ∀ i (h : i < ws.length) (h' : i < ls.length), mayB ls[i] ws[i] = true := by
  simp only [rightB, Bool.and_eq_true, decide_eq_true_eq, List.all_eq_true, and_assoc]
  refine and_congr_right fun _ => and_congr_right fun _ => and_congr_right fun hl => ⟨fun h i hi hi' => ?_, fun h x hx => ?_⟩
  · exact h (ls[i], ws[i]) (by rw [List.mem_iff_getElem]; exact ⟨i, by simp; omega, by simp⟩)
  · obtain ⟨i, hi, rfl⟩ := List.mem_iff_getElem.1 hx
    simp only [List.length_zip] at hi
    rw [List.getElem_zip]
    exact h i (by omega) (by omega)

/-- Block z is a variable that holds a memory. -/
def MBox (W : World) (z : Nat) (a b : Value) (f : Bool) : Prop := W.heap[z]? = some (.cells #[a, b, .bool f] 44 (0, 0))
theorem mbox_cells {W : World} {z : Nat} {a b : Value} {f : Bool} (h : MBox W z a b f) : (W.cell? ⟨z, 0, none⟩ = some a ∧ W.cell? ⟨z, 1, none⟩ = some b ∧ W.cell? ⟨z, 2, none⟩ = some (.bool f)) ∧
    W.frozen? ⟨z, 0, none⟩ = false ∧ W.frozen? ⟨z, 1, none⟩ = false ∧ W.frozen? ⟨z, 2, none⟩ = false := by
  have h' : W.heap[z]? = _ := h
  simp [World.cell?, World.frozen?, h']
theorem MBox.lt {W : World} {z : Nat} {a b : Value} {f : Bool} (h : MBox W z a b f) : z < W.heap.size := (Array.getElem?_eq_some_iff.1 h).1
theorem MBox.new (W : World) (a b : Value) (f : Bool) : MBox (W.alloc (.cells #[a, b, .bool f] 44)) W.heap.size a b f := World.alloc_heap_new W _
theorem MBox.keeps {S : Nat → Prop} {W W' : World} {z : Nat} {a b : Value} {f : Bool} (h : MBox W z a b f) (hk : Keeps S W W') (hz : ¬ S z) : MBox W' z a b f := (hk.block z h.lt hz).trans h
theorem MBox.below {W W' : World} {z : Nat} {a b : Value} {f : Bool} (h : MBox W z a b f) (hk : Below W.heap.size W W') : MBox W' z a b f := (hk.block z h.lt).trans h
theorem MBox.alloc {W : World} {z : Nat} {a b : Value} {f : Bool} (h : MBox W z a b f) (o : Obj) : MBox (W.alloc o) z a b f := h.keeps (Keeps.alloc (fun _ => False) W o) (fun h => h)
theorem MBox.set {W : World} {z : Nat} {a b : Value} {f : Bool} (h : MBox W z a b f) (a' b' : Value) (f' : Bool) : MBox (((W.setCell ⟨z, 0, none⟩ a').setCell ⟨z, 1, none⟩ b').setCell ⟨z, 2, none⟩ (.bool f')) z a' b' f' := by
  have h1 := heap_setCell_same W z 0 _ _ a' h
  have h2 := heap_setCell_same _ z 1 _ _ b' h1
  have h3 := heap_setCell_same _ z 2 _ _ (.bool f') h2
  unfold MBox
  rw [h3]
  rfl
theorem MBox.row {W : World} {z : Nat} {a b : Value} {f : Bool} (h : MBox W z a b f) {B : Nat} {E : TypeId} {s n : Nat} {v : Value} {xs : List Value} (hr : W.ownsRow B E s v n xs) (hE : E ≠ 44) {g : Nat} (hg : v.ownBlock = some g) : z ≠ g := by
  rintro rfl
  obtain ⟨c, fz, h1⟩ := Lib.ownsRow_kind hr z hg
  rw [show W.heap[z]? = _ from h] at h1
  simp at h1
  exact hE h1.2.1.symm

end Go.Proofs.Ytaljpggajpoalaa
/-
  slices.Clone at rows of words and of truth values: a slice of new memory that reads as it; what was in memory stays.
  Conditions: the slice has at most 2 to the power 40 elements.
-/
namespace Go.Proofs.Ytaljpggajpoalaa
open Go.RowKit Go.Shelf

theorem cloneW_info : (Try.prog.info? 27).map (fun i => (i.zero, i.size, i.bytes)) = some (some (.int .u64 0), 1, 8) := by kernel_rfl

set_option maxHeartbeats 2000000 in
theorem cloneW (v : Value) (n : Nat) (xs : List Value) (W : World) (hv : ValsAt W v 1 n xs) (h1 : ∀ u ∈ xs, u.oneCell' = true) (hn : n ≤ 1099511627776) :
    Calls Try.prog 11 #[v] W fun e w' => OwnsNew W.heap.size 27 1 n xs e w' ∧ Below W.heap.size W w' := by
  obtain ⟨hlen, p, cap, rfl, ⟨rfl, rfl, rfl⟩ | ⟨ad, rfl, hcells⟩⟩ := hv
  · obtain rfl : xs = [] := List.eq_nil_of_length_eq_zero (by omega)
    have hcmp := fun w => Lib.run_eql_slice_nil (P := Try.prog) w 24 27 none 0 0 0 0 Try.underlying24
    go_enter Try.func11, Try.ntmps11
    go_wp2
    go_ret
    exact ⟨⟨_, rfl, World.ownsRow_nil _ _ _ _⟩, Below.refl _ _⟩
  · have hcmp := fun w => Lib.run_eql_slice_nil (P := Try.prog) w 24 27 (some ad) n cap 0 0 Try.underlying24
    obtain ⟨i0, hi, hz0, hz1, hz2⟩ := info_parts cloneW_info
    have hown := World.ownsRow_lit (base := W.heap.size) (e := 27) (size := 1) W #[] 0 (Nat.le_refl _) (by decide) rfl
    have hnews : ∀ j u, xs[j]? = some u → (W.alloc (Obj.cells #[] 27)).cell? (ad.add j) = some u := fun j u hj => by
      have h0 := hcells j u hj
      rw [World.cell?_alloc_lt _ _ _ (World.block_lt_of_cell? W _ h0)]
      exact h0
    have HN := Lib.hid hnews
    have H1 := Lib.hid h1
    have HO := Lib.hid hown
    clear hnews h1 hown hcells
    go_enter Try.func11, Try.ntmps11
    go_wp2_with (at_builtin; refine wpList_append_own _ rfl _ _ 24 rfl W.heap.size 27 i0 (.int .u64 0) 1 8 Try.underlying24 hi hz0 hz1 hz2 rfl (by decide) _ _ _ rfl HO.out ad n cap xs rfl hlen HN.out H1.out (by unfold maxLen; omega) (by omega) (by simp) ?_; intro v' w1 hown' hgrow _)
    go_ret
    rw [Nat.zero_add, List.nil_append] at hown'
    exact ⟨⟨v', rfl, hown'⟩, below_grown ((Below.refl _ _).alloc (Nat.le_refl _) _) hgrow (fun k e => by cases e; exact Nat.le_refl _)⟩

theorem cloneB_info : (Try.prog.info? 4).map (fun i => (i.zero, i.size, i.bytes)) = some (some (.bool false), 1, 1) := by kernel_rfl

set_option maxHeartbeats 2000000 in
theorem cloneB (v : Value) (n : Nat) (xs : List Value) (W : World) (hv : ValsAt W v 1 n xs) (h1 : ∀ u ∈ xs, u.oneCell' = true) (hn : n ≤ 1099511627776) :
    Calls Try.prog 31 #[v] W fun e w' => OwnsNew W.heap.size 4 1 n xs e w' ∧ Below W.heap.size W w' := by
  obtain ⟨hlen, p, cap, rfl, ⟨rfl, rfl, rfl⟩ | ⟨ad, rfl, hcells⟩⟩ := hv
  · obtain rfl : xs = [] := List.eq_nil_of_length_eq_zero (by omega)
    have hcmp := fun w => Lib.run_eql_slice_nil (P := Try.prog) w 42 4 none 0 0 0 0 Try.underlying42
    go_enter Try.func31, Try.ntmps31
    go_wp2
    go_ret
    exact ⟨⟨_, rfl, World.ownsRow_nil _ _ _ _⟩, Below.refl _ _⟩
  · have hcmp := fun w => Lib.run_eql_slice_nil (P := Try.prog) w 42 4 (some ad) n cap 0 0 Try.underlying42
    obtain ⟨i0, hi, hz0, hz1, hz2⟩ := info_parts cloneB_info
    have hown := World.ownsRow_lit (base := W.heap.size) (e := 4) (size := 1) W #[] 0 (Nat.le_refl _) (by decide) rfl
    have hnews : ∀ j u, xs[j]? = some u → (W.alloc (Obj.cells #[] 4)).cell? (ad.add j) = some u := fun j u hj => by
      have h0 := hcells j u hj
      rw [World.cell?_alloc_lt _ _ _ (World.block_lt_of_cell? W _ h0)]
      exact h0
    have HN := Lib.hid hnews
    have H1 := Lib.hid h1
    have HO := Lib.hid hown
    clear hnews h1 hown hcells
    go_enter Try.func31, Try.ntmps31
    go_wp2_with (at_builtin; refine wpList_append_own _ rfl _ _ 42 rfl W.heap.size 4 i0 (.bool false) 1 1 Try.underlying42 hi hz0 hz1 hz2 rfl (by decide) _ _ _ rfl HO.out ad n cap xs rfl hlen HN.out H1.out (by unfold maxLen; omega) (by omega) (by simp) ?_; intro v' w1 hown' hgrow _)
    go_ret
    rw [Nat.zero_add, List.nil_append] at hown'
    exact ⟨⟨v', rfl, hown'⟩, below_grown ((Below.refl _ _).alloc (Nat.le_refl _) _) hgrow (fun k e => by cases e; exact Nat.le_refl _)⟩

end Go.Proofs.Ytaljpggajpoalaa
/-
  memory.Check: 0 of a memory that may be, else 120; what was in memory stays.
  Conditions: the memory reads as these words and truth values.
-/
namespace Go.Proofs.Ytaljpggajpoalaa
open Go.RowKit Go.Shelf

theorem mayB_live (w : Int) : mayB true w = true := rfl
theorem mayB_free (w : Int) : mayB false w = (w == 0 || w == poison) := rfl

set_option maxRecDepth 100000 in
theorem may_c (i : Nat) (w : Int) (l : Bool) (z b off n cap : Nat) (W : World) (hc : W.cell? ⟨z, 1, none⟩ = some (.slice (some ⟨b, off, none⟩) n cap)) (hi : i < n) (hl : W.cell? ⟨b, off + i, none⟩ = some (.bool l)) :
    Calls Try.prog 86 #[.int .i64 i, .int .u64 w, .pointer (some ⟨z, 0, none⟩)] W fun e w' => e = .returned (.bool (mayB l w)) ∧ w' = W := by
  cases l with
  | true =>
    go_enter Try.func86, Try.ntmps86
    go_wp2
    go_ret
    exact ⟨rfl, rfl⟩
  | false =>
    rcases Bool.eq_false_or_eq_true (w == 0) with h0 | h0
    · have hr : mayB false w = true := by rw [mayB_free, h0]; rfl
      have HR := Lib.hid hr
      clear hr
      go_enter Try.func86, Try.ntmps86
      go_wp2
      go_ret
      exact ⟨ret_bool HR.out.symm, rfl⟩
    · rcases Bool.eq_false_or_eq_true (w == 18369900232523579118) with hp | hp
      · have hr : mayB false w = true := by rw [mayB_free, h0, poison, hp]; rfl
        have HR := Lib.hid hr
        clear hr
        go_enter Try.func86, Try.ntmps86
        go_wp2
        go_ret
        exact ⟨ret_bool HR.out.symm, rfl⟩
      · have hr : mayB false w = false := by rw [mayB_free, h0, poison, hp]; rfl
        have HR := Lib.hid hr
        clear hr
        go_enter Try.func86, Try.ntmps86
        go_wp2
        go_ret
        exact ⟨ret_bool HR.out.symm, rfl⟩

/-- The first i words may be. -/
def MayTo (ls : List Bool) (ws : List Int) (i : Nat) : Prop := ((ls.zip ws).take i).all (fun x => mayB x.1 x.2) = true
def mayAll (ls : List Bool) (ws : List Int) : Bool := (ls.zip ws).all fun x => mayB x.1 x.2
theorem mayTo_step {ls : List Bool} {ws : List Int} {i : Nat} (h : MayTo ls ws i) (hi : i < ws.length) (hi' : i < ls.length) : (mayB ls[i] ws[i] = true → MayTo ls ws (i + 1)) ∧ (mayB ls[i] ws[i] = false → mayAll ls ws = false) := by
  have htk : (ls.zip ws).take (i + 1) = (ls.zip ws).take i ++ [(ls[i], ws[i])] := by
    rw [List.take_succ_eq_append_getElem (by simp; omega), List.getElem_zip]
  refine ⟨fun e => ?_, fun e => ?_⟩
  · unfold MayTo at h ⊢
    rw [htk, List.all_append, h]
    simp [e]
  · unfold mayAll
    rw [List.all_eq_false]
    refine ⟨(ls[i], ws[i]), ?_, by simp [e]⟩
    rw [List.mem_iff_getElem]
    exact ⟨i, by simp; omega, by simp⟩
theorem mayTo_end {ls : List Bool} {ws : List Int} (h : MayTo ls ws ws.length) (hl : ls.length = ws.length) : mayAll ls ws = true := by
  unfold MayTo at h
  rwa [List.take_of_length_le (by simp [hl])] at h

set_option maxRecDepth 100000 in
set_option maxHeartbeats 1000000 in
theorem everyW_c (bw ow cap z b off cap1 : Nat) (ws : List Int) (ls : List Bool) (W : World) (hlen : ls.length = ws.length) (hmax : ws.length ≤ 4096)
    (hw : ∀ i (h : i < ws.length), W.cell? ⟨bw, ow + i, none⟩ = some (.int .u64 ws[i]))
    (hc : W.cell? ⟨z, 1, none⟩ = some (.slice (some ⟨b, off, none⟩) ws.length cap1)) (hl : ∀ i (h : i < ls.length), W.cell? ⟨b, off + i, none⟩ = some (.bool ls[i])) :
    Calls Try.prog 87 #[.slice (some ⟨bw, ow, none⟩) ws.length cap, .func (.func 86) #[] #[.pointer (some ⟨z, 0, none⟩)]] W
      fun e w' => e = .returned (.bool (mayAll ls ws)) ∧ w' = W := by
  have HLEN := Lib.hid hlen
  have HL := Lib.hid hl
  have HW := Lib.hid hw
  clear hlen hl hw
  go_enter Try.func87, Try.ntmps87
  go_wp2
  go_loop [9] (fun iv => ∃ i : Nat, i ≤ ws.length ∧ iv = .int .i64 i ∧ MayTo ls ws i) (fun iv => ws.length - (intOf iv).toNat)
  case atStart => exact ⟨0, Nat.zero_le _, rfl, rfl⟩
  case round =>
    obtain ⟨i, hi, rfl, hm⟩ := hrel
    by_cases hlt : i < ws.length
    · have hlt' : i < ls.length := by rw [HLEN.out]; exact hlt
      have hstep := mayTo_step hm hlt hlt'
      have hx := HW.out i hlt
      have hy := HL.out i hlt'
      obtain ⟨x, hxe⟩ : ∃ x, x = ws[i] := ⟨_, rfl⟩
      obtain ⟨y, hye⟩ : ∃ y, y = ls[i] := ⟨_, rfl⟩
      rw [← hxe] at hx hstep
      rw [← hye] at hy hstep
      have HST := Lib.hid hstep
      clear hstep hxe hye hm hlt'
      go_wp2_with fail
      refine (may_c i x y z b off ws.length cap1 _ hc hlt hy).mono ?_
      rintro e w' ⟨rfl, rfl⟩
      rcases Bool.eq_false_or_eq_true (mayB y x) with hb | hb
      · rw [hb]
        go_wp2
        go_round
        case rel => exact ⟨i + 1, by omega, by go_num, HST.out.1 hb⟩
        case measure => simp [intOf]; omega
      · rw [hb]
        go_wp2
        go_ret
        exact ⟨ret_bool (HST.out.2 hb).symm, rfl⟩
    · obtain rfl : i = ws.length := by omega
      go_wp2
      go_ret
      exact ⟨ret_bool (mayTo_end hm HLEN.out).symm, rfl⟩

/-- What Check answers. -/
def chkM (ws : List Int) (ls : List Bool) : Int := if rightB ws ls then 0 else 120
theorem chkM_yes {ws : List Int} {ls : List Bool} (h : rightB ws ls = true) : chkM ws ls = 0 := by simp [chkM, h]
theorem chkM_no {ws : List Int} {ls : List Bool} (h : rightB ws ls = false) : chkM ws ls = 120 := by simp [chkM, h]
theorem rightB_all {ws : List Int} {ls : List Bool} (h1 : 1 ≤ ws.length) (h2 : ws.length ≤ 4096) (h3 : ls.length = ws.length) : rightB ws ls = mayAll ls ws := by
  simp [rightB, mayAll, h1, h2, h3]

set_option maxRecDepth 100000 in
set_option maxHeartbeats 1000000 in
theorem check_c (v : Value) (ws : List Int) (ls : List Bool) (f : Bool) (W : World) (hv : MemAt W v ws ls f) (hw : ws.length ≤ 9223372036854775807) :
    Calls Try.prog 73 #[v] W fun e w' => e = .returned (.int .i64 (chkM ws ls)) ∧ Below W.heap.size W w' := by
  obtain ⟨vw, vl, rfl, ⟨pw, cw, rfl, hcw⟩, pl, cl, rfl, hcl⟩ := hv
  by_cases h1 : ws.length < 1
  · have hr : chkM ws ls = 120 := chkM_no (by simp [rightB]; omega)
    have HR := Lib.hid hr
    clear hr hcw hcl
    go_enter Try.func73, Try.ntmps73
    go_wp2
    go_ret
    exact ⟨ret_int HR.out.symm, (Below.refl _ _).alloc (Nat.le_refl _) _⟩
  by_cases h2 : 4096 < ws.length
  · have hr : chkM ws ls = 120 := chkM_no (by simp [rightB]; omega)
    have HR := Lib.hid hr
    clear hr hcw hcl
    go_enter Try.func73, Try.ntmps73
    go_wp2
    go_ret
    exact ⟨ret_int HR.out.symm, (Below.refl _ _).alloc (Nat.le_refl _) _⟩
  by_cases h3 : ls.length = ws.length
  · obtain ⟨bw, ow, rfl, hcs⟩ := hcw (by intro e; rw [e] at h1; simp at h1)
    obtain ⟨bl, ol, rfl, hcs2⟩ := hcl (by intro e; rw [e] at h3; simp at h3; omega)
    have hne : ((ls.length : Int) != (ws.length : Int)) = false := by rw [bne_eq_false_iff_eq]; omega
    rw [h3] at hne ⊢
    have HR := Lib.hid (rightB_all (ls := ls) (ws := ws) (by omega) (by omega) h3)
    have H3 := Lib.hid h3
    have HC := Lib.hid hcs
    have HC2 := Lib.hid hcs2
    clear h3 hcs hcs2 hcw hcl
    go_enter Try.func73, Try.ntmps73
    go_wp2_with fail
    refine (everyW_c bw ow cw W.heap.size bl ol cl ws ls _ H3.out (by omega) (fun i h => ?_) (by simp) (fun i h => ?_)).mono ?_
    · have := HC.out i h
      rw [World.cell?_alloc_lt _ _ _ (World.block_lt_of_cell? W _ this)]; exact this
    · have := HC2.out i h
      rw [World.cell?_alloc_lt _ _ _ (World.block_lt_of_cell? W _ this)]; exact this
    rintro e w' ⟨rfl, rfl⟩
    rcases Bool.eq_false_or_eq_true (mayAll ls ws) with hb | hb
    · rw [hb]
      go_wp2
      go_ret
      exact ⟨ret_int (chkM_yes (HR.out.trans hb)).symm, (Below.refl _ _).alloc (Nat.le_refl _) _⟩
    · rw [hb]
      go_wp2
      go_ret
      exact ⟨ret_int (chkM_no (HR.out.trans hb)).symm, (Below.refl _ _).alloc (Nat.le_refl _) _⟩
  · have hr : chkM ws ls = 120 := chkM_no (by simp [rightB, h3])
    have HR := Lib.hid hr
    have hne : ((ls.length : Int) != (ws.length : Int)) = true := by rw [bne_iff_ne]; omega
    clear hr hcw hcl h3
    go_enter Try.func73, Try.ntmps73
    go_wp2
    go_ret
    exact ⟨ret_int HR.out.symm, (Below.refl _ _).alloc (Nat.le_refl _) _⟩

end Go.Proofs.Ytaljpggajpoalaa
/-
  memory.double: the memory in memory of its own; what was in memory stays.
  Conditions: the memory has one word at least, and at most 4096, and as many truth values.
-/
namespace Go.Proofs.Ytaljpggajpoalaa
open Go.RowKit Go.Shelf

theorem below_frozen {W W' : World} {p : Addr} {v : Value} (hb : Below W.heap.size W W') (h : W.cell? p = some v) (hf : W.frozen? p = false) : W'.frozen? p = false := (hb.frozen (World.block_lt_of_cell? W _ h)).trans hf
theorem nums_vals {W : World} {k : IntKind} {v : Value} {ns : List Int} (h : NumsAt W k v ns) (hne : ns ≠ []) : ValsAt W v 1 ns.length (ns.map (Value.int k)) := by
  obtain ⟨p, cap, rfl, hc⟩ := h
  refine ⟨by simp, p, cap, rfl, .inr ?_⟩
  obtain ⟨b, off, rfl, hcs⟩ := hc hne
  refine ⟨_, rfl, fun j u hj => ?_⟩
  rw [addr_add_off]
  rw [List.getElem?_eq_some_iff] at hj
  obtain ⟨h1, h2⟩ := hj
  simp only [List.length_map] at h1
  rw [hcs j h1, ← h2, List.getElem_map]
theorem bools_vals {W : World} {v : Value} {bs : List Bool} (h : BoolsAt W v bs) (hne : bs ≠ []) : ValsAt W v 1 bs.length (bs.map Value.bool) := by
  obtain ⟨p, cap, rfl, hc⟩ := h
  refine ⟨by simp, p, cap, rfl, .inr ?_⟩
  obtain ⟨b, off, rfl, hcs⟩ := hc hne
  refine ⟨_, rfl, fun j u hj => ?_⟩
  rw [addr_add_off]
  rw [List.getElem?_eq_some_iff] at hj
  obtain ⟨h1, h2⟩ := hj
  simp only [List.length_map] at h1
  rw [hcs j h1, ← h2, List.getElem_map]
/-- A slice of new memory, that is not empty. -/
def OwnsHere (B : Nat) (E : TypeId) (size n : Nat) (xs : List Value) (e : Ending) (w' : World) : Prop := ∃ g cap, e = .returned (.slice (some ⟨g, 0, none⟩) n cap) ∧ w'.ownsRow B E size (.slice (some ⟨g, 0, none⟩) n cap) n xs
theorem OwnsNew.here {B : Nat} {E : TypeId} {size n : Nat} {xs : List Value} {e : Ending} {w' : World} (h : OwnsNew B E size n xs e w') (hn : 0 < n) : OwnsHere B E size n xs e w' := by
  obtain ⟨v', rfl, ho⟩ := h
  rcases ho.2 with ⟨_, h0⟩ | ⟨g, cap, cur, rfl, _⟩
  · omega
  · exact ⟨g, cap, rfl, ho⟩
theorem cloneW_n (v : Value) (ws : List Int) (W : World) (hv : NumsAt W .u64 v ws) (hne : 0 < ws.length) (hn : ws.length ≤ 4096) :
    Calls Try.prog 11 #[v] W fun e w' => OwnsHere W.heap.size 27 1 ws.length (ws.map (Value.int .u64)) e w' ∧ Below W.heap.size W w' :=
  (cloneW v _ _ W (nums_vals hv (List.length_pos_iff.1 hne)) (fun u hu => by obtain ⟨x, _, rfl⟩ := List.mem_map.1 hu; rfl) (by omega)).mono fun _ _ h => ⟨h.1.here hne, h.2⟩
theorem cloneB_n (v : Value) (ls : List Bool) (W : World) (hv : BoolsAt W v ls) (hne : 0 < ls.length) (hn : ls.length ≤ 4096) :
    Calls Try.prog 31 #[v] W fun e w' => OwnsHere W.heap.size 4 1 ls.length (ls.map Value.bool) e w' ∧ Below W.heap.size W w' :=
  (cloneB v _ _ W (bools_vals hv (List.length_pos_iff.1 hne)) (fun u hu => by obtain ⟨x, _, rfl⟩ := List.mem_map.1 hu; rfl) (by omega)).mono fun _ _ h => ⟨h.1.here hne, h.2⟩

/-- What a call that answers a memory of its own hands over. -/
def GivesMem (B : Nat) (ws : List Int) (ls : List Bool) (f : Bool) (e : Ending) (w' : World) : Prop := ∃ v', e = .returned v' ∧ OwnsMem w' B v' ws ls f

set_option maxRecDepth 100000 in
set_option maxHeartbeats 2000000 in
theorem double_c (v : Value) (ws : List Int) (ls : List Bool) (f : Bool) (W : World) (hv : MemAt W v ws ls f) (h1 : 0 < ws.length) (h2 : 0 < ls.length) (h3 : ws.length ≤ 4096) (h4 : ls.length ≤ 4096) :
    Calls Try.prog 80 #[v] W fun e w' => GivesMem W.heap.size ws ls f e w' ∧ Below W.heap.size W w' := by
  obtain ⟨vw, vl, rfl, hvw, hvl⟩ := hv
  go_enter Try.func80, Try.ntmps80
  have hW2 : Below W.heap.size W ((W.alloc (.cells #[vw, vl, .bool f] 44)).alloc (.cells #[.slice none 0 0, .slice none 0 0, .bool false] 44)) :=
    ((Below.refl _ _).alloc (Nat.le_refl _) _).alloc (by simp) _
  have HVW := Lib.hid hvw
  have HVL := Lib.hid hvl
  clear hvw hvl
  go_wp2_with fail
  obtain ⟨wo, hwo⟩ : ∃ wo : World, wo = (W.alloc (.cells #[vw, vl, .bool f] 44)).alloc (.cells #[.slice none 0 0, .slice none 0 0, .bool false] 44) := ⟨_, rfl⟩
  have hd0 : wo.cell? ⟨W.heap.size, 0, none⟩ = some vw := by rw [hwo]; simp
  have hd1 : wo.cell? ⟨W.heap.size, 1, none⟩ = some vl := by rw [hwo]; simp
  have hd2 : wo.cell? ⟨W.heap.size, 2, none⟩ = some (.bool f) := by rw [hwo]; simp
  have he0 : wo.cell? ⟨W.heap.size + 1, 0, none⟩ = some (.slice none 0 0) := by rw [hwo]; simp
  have he1 : wo.cell? ⟨W.heap.size + 1, 1, none⟩ = some (.slice none 0 0) := by rw [hwo]; simp
  have he2 : wo.cell? ⟨W.heap.size + 1, 2, none⟩ = some (.bool false) := by rw [hwo]; simp
  have hf0 : wo.frozen? ⟨W.heap.size + 1, 0, none⟩ = false := by rw [hwo]; simp
  have hf1 : wo.frozen? ⟨W.heap.size + 1, 1, none⟩ = false := by rw [hwo]; simp
  have hf2 : wo.frozen? ⟨W.heap.size + 1, 2, none⟩ = false := by rw [hwo]; simp
  have hsz : W.heap.size + 1 < wo.heap.size := by rw [hwo]; simp
  rw [← hwo] at hW2 ⊢
  clear hwo
  replace hW2 := hW2.drew
  go_region_held3 (fun w' => w'.cell? ⟨W.heap.size, 0, none⟩ = some vw ∧ w'.cell? ⟨W.heap.size, 1, none⟩ = some vl ∧ w'.cell? ⟨W.heap.size, 2, none⟩ = some (.bool f))
    (first
      | exact ⟨hd0, hd1, hd2⟩
      | go_keep
      | (go_split_ands; exact ⟨below_cell hb3 (by assumption), below_cell hb3 (by assumption), below_cell hb3 (by assumption)⟩))
    (first
      | (go_at_call 11; refine (cloneW_n vw ws _ ?_ h1 h3).mono ?_; exact nums_below HVW.out hW2; rintro e w3 ⟨⟨g3, c3, rfl, hown3⟩, hb3⟩; replace hf0 := below_frozen hb3 he0 hf0; replace hf1 := below_frozen hb3 he1 hf1; replace hf2 := below_frozen hb3 he2 hf2; replace he0 := below_cell hb3 he0; replace he1 := below_cell hb3 he1; replace he2 := below_cell hb3 he2; replace hW2 := below_then hW2 hW2.size hb3)
      | (go_at_call 31; refine (cloneB_n vl ls _ ?_ h2 h4).mono ?_; exact bools_below HVL.out hW2; rintro e w3 ⟨⟨g3, c3, rfl, hown3⟩, hb3⟩; replace hf0 := below_frozen hb3 he0 hf0; replace hf1 := below_frozen hb3 he1 hf1; replace hf2 := below_frozen hb3 he2 hf2; replace he0 := below_cell hb3 he0; replace he1 := below_cell hb3 he1; replace he2 := below_cell hb3 he2; replace hW2 := below_then hW2 hW2.size hb3))
  rename_i wx hbx gx cx hownx _
  have hsx : W.heap.size + 1 < wx.heap.size := Nat.lt_of_lt_of_le hsz hbx.size
  have ho1 := (((ownsRow_setCell_below (ownsRow_setCell_below (ownsRow_setCell_below (owns_below hownx hb3) (a := ⟨W.heap.size + 1, 0, none⟩) hsz (.slice (some ⟨gx, 0, none⟩) ws.length cx)) (a := ⟨W.heap.size + 1, 1, none⟩) hsz (.slice (some ⟨g3, 0, none⟩) ls.length c3)) (a := ⟨W.heap.size + 1, 2, none⟩) hsz (.bool f)))).mono (base' := W.heap.size) (by have := hsz; simp; omega)
  have ho2 := (((ownsRow_setCell_below (ownsRow_setCell_below (ownsRow_setCell_below hown3 (a := ⟨W.heap.size + 1, 0, none⟩) hsx (.slice (some ⟨gx, 0, none⟩) ws.length cx)) (a := ⟨W.heap.size + 1, 1, none⟩) hsx (.slice (some ⟨g3, 0, none⟩) ls.length c3)) (a := ⟨W.heap.size + 1, 2, none⟩) hsx (.bool f)))).mono (base' := W.heap.size) (by omega)
  have hB := ((hW2.setCell (p := ⟨W.heap.size + 1, 0, none⟩) (Nat.le_succ _) (.slice (some ⟨gx, 0, none⟩) ws.length cx)).setCell (p := ⟨W.heap.size + 1, 1, none⟩) (Nat.le_succ _) (.slice (some ⟨g3, 0, none⟩) ls.length c3)).setCell (p := ⟨W.heap.size + 1, 2, none⟩) (Nat.le_succ _) (.bool f)
  clear hownx hown3
  go_wp2
  exact bodyPost_ret (v := .agg #[.slice (some ⟨gx, 0, none⟩) ws.length cx, .slice (some ⟨g3, 0, none⟩) ls.length c3, .bool f]) (by simp [results, Try.results80, go_sem, he0, he1, he2]) rfl ⟨⟨_, rfl, _, _, rfl, ho1, ho2⟩, hB⟩

end Go.Proofs.Ytaljpggajpoalaa
/-
  What an access is made of: which words are there, a part of a row, and what the three kinds do.
  Conditions: none but the ranges of Go's types; parts lie within their rows.
-/
namespace Go.Proofs.Ytaljpggajpoalaa
open Go.RowKit Go.Shelf

/-- Are so many words there, from one on? -/
def thereB (n : Nat) (a k : Int) : Bool := decide (1 ≤ k) && decide (0 ≤ a) && decide (a ≤ (n : Int) - k)

set_option maxRecDepth 100000 in
set_option maxHeartbeats 1000000 in
theorem there_c (p : Option Addr) (n cap : Nat) (vl : Value) (f : Bool) (a k : Int) (hk : k ≤ 9223372036854775807) (hn : n ≤ 9223372036854775807) (W : World) :
    Calls Try.prog 74 #[.agg #[.slice p n cap, vl, .bool f], .int .i64 a, .int .i64 k] W fun e w' => e = .returned (.bool (thereB n a k)) ∧ Below W.heap.size W w' := by
  by_cases h1 : 1 ≤ k
  · by_cases h2 : 0 ≤ a
    · by_cases h3 : a ≤ (n : Int) - k
      · have hr : thereB n a k = true := by simp [thereB, h1, h2, h3]
        have HR := Lib.hid hr
        clear hr
        go_enter Try.func74, Try.ntmps74
        go_wp2
        go_ret
        exact ⟨ret_bool HR.out.symm, (Below.refl _ _).alloc (Nat.le_refl _) _⟩
      · have hr : thereB n a k = false := by simp [thereB, h3]
        have HR := Lib.hid hr
        clear hr
        go_enter Try.func74, Try.ntmps74
        go_wp2
        go_ret
        exact ⟨ret_bool HR.out.symm, (Below.refl _ _).alloc (Nat.le_refl _) _⟩
    · have hr : thereB n a k = false := by simp [thereB, h2]
      have HR := Lib.hid hr
      clear hr
      go_enter Try.func74, Try.ntmps74
      go_wp2
      go_ret
      exact ⟨ret_bool HR.out.symm, (Below.refl _ _).alloc (Nat.le_refl _) _⟩
  · have hr : thereB n a k = false := by simp [thereB, h1]
    have HR := Lib.hid hr
    clear hr
    go_enter Try.func74, Try.ntmps74
    go_wp2
    go_ret
    exact ⟨ret_bool HR.out.symm, (Below.refl _ _).alloc (Nat.le_refl _) _⟩

set_option maxRecDepth 100000 in
set_option maxHeartbeats 1000000 in
theorem cutW_c (b off n cap a k : Nat) (hk : 1 ≤ k) (h : a + k ≤ cap) (hc : cap ≤ 9223372036854775807) (W : World) :
    Calls Try.prog 89 #[.slice (some ⟨b, off, none⟩) n cap, .int .i64 a, .int .i64 k] W fun e w' => e = .returned (.slice (some ⟨b, off + a, none⟩) k k) ∧ w' = W := by
  go_enter Try.func89, Try.ntmps89
  go_wp2
  go_ret
  rw [show a + k - a = k by omega]
  exact ⟨rfl, rfl⟩
set_option maxRecDepth 100000 in
set_option maxHeartbeats 1000000 in
theorem cutB_c (b off n cap a k : Nat) (hk : 1 ≤ k) (h : a + k ≤ cap) (hc : cap ≤ 9223372036854775807) (W : World) :
    Calls Try.prog 90 #[.slice (some ⟨b, off, none⟩) n cap, .int .i64 a, .int .i64 k] W fun e w' => e = .returned (.slice (some ⟨b, off + a, none⟩) k k) ∧ w' = W := by
  go_enter Try.func90, Try.ntmps90
  go_wp2
  go_ret
  rw [show a + k - a = k by omega]
  exact ⟨rfl, rfl⟩

set_option maxRecDepth 100000 in
theorem load_c (k a o n : Int) (v : Value) (W : World) : Calls Try.prog 94 #[.agg #[.int .i64 k, .int .i64 a, .int .u64 o, .int .u64 n], v] W fun e w' => e = .returned (.bool true) ∧ Below W.heap.size W w' := by
  go_enter Try.func94, Try.ntmps94
  go_wp2
  go_ret
  exact ⟨rfl, (Below.refl _ _).alloc (Nat.le_refl _) _⟩

/-- What a store leaves: of what was there, one cell is another one. -/
def Stores (p : Addr) (u : Value) (W w' : World) : Prop := Below W.heap.size (W.setCell p u) w'
theorem below_both {W W1 : World} (h : Below W.heap.size W W1) (p : Addr) (u : Value) : Stores p u W (W1.setCell p u) := by
  refine ⟨h.os, h.tape, h.output, by simp [World.setCell]; exact h.size, fun k hk => ?_⟩
  have := h.block k hk
  simp only [World.setCell, Array.getElem?_modify]
  split <;> rw [this]
theorem Stores.after {p : Addr} {u : Value} {W X Y : World} (h : Below W.heap.size W X) (k : Stores p u X Y) : Stores p u W Y :=
  (below_both h p u).trans (Below.mono k h.size)
theorem Stores.then {p : Addr} {u : Value} {W X Y : World} (h : Stores p u W X) (k : Below W.heap.size X Y) : Stores p u W Y := Below.trans h k
theorem Stores.size {p : Addr} {u : Value} {W X : World} (h : Stores p u W X) : W.heap.size ≤ X.heap.size := by
  have := Below.size h; simpa [World.setCell] using this
theorem Stores.keeps {p : Addr} {u : Value} {W X : World} (h : Stores p u W X) : Keeps (· = p.block) W X :=
  (Keeps.setCell W (S := (· = p.block)) rfl u).trans (Keeps.of_below (by have := h; unfold Stores at this; simpa [World.setCell] using this))
theorem Stores.cell {p : Addr} {u : Value} {W X : World} (h : Stores p u W X) {q : Addr} {v : Value} (hq : W.cell? q = some v) (hne : q.block ≠ p.block) : X.cell? q = some v := h.keeps.cell hq hne
theorem Stores.frozen {p : Addr} {u : Value} {W X : World} (h : Stores p u W X) {q : Addr} (hq : q.block < W.heap.size) (hne : q.block ≠ p.block) : X.frozen? q = W.frozen? q :=
  World.frozen?_of_block (h.keeps.block _ hq hne)

set_option maxRecDepth 100000 in
theorem store_c (k a o n : Int) (b off : Nat) (old : Value) (W : World) (hc : W.cell? ⟨b, off, none⟩ = some old) (hf : W.frozen? ⟨b, off, none⟩ = false) :
    Calls Try.prog 95 #[.agg #[.int .i64 k, .int .i64 a, .int .u64 o, .int .u64 n], .slice (some ⟨b, off, none⟩) 1 1] W fun e w' => e = .returned (.bool true) ∧ Stores ⟨b, off, none⟩ (.int .u64 n) W w' := by
  have hc1 : (W.alloc (.cells #[.int .i64 k, .int .i64 a, .int .u64 o, .int .u64 n] 133)).cell? ⟨b, off, none⟩ = some old := by
    rw [World.cell?_alloc_lt _ _ _ (World.block_lt_of_cell? W _ hc)]; exact hc
  have hf1 : (W.alloc (.cells #[.int .i64 k, .int .i64 a, .int .u64 o, .int .u64 n] 133)).frozen? ⟨b, off, none⟩ = false :=
    (((Below.refl W.heap.size W).alloc (Nat.le_refl _) _).frozen (World.block_lt_of_cell? W _ hc)).trans hf
  go_enter Try.func95, Try.ntmps95
  go_wp2
  go_ret
  exact ⟨rfl, below_both ((Below.refl _ _).alloc (Nat.le_refl _) _) _ _⟩

set_option maxHeartbeats 2000000 in
theorem deeds_c (W : World) : Calls Try.prog 91 #[] W fun e w' => e = .returned (.agg #[.nilFunc, .func (.func 94) #[] #[], .func (.func 95) #[] #[], .func (.func 96) #[] #[]]) ∧ Below W.heap.size W w' := by
  go_enter Try.func91, Try.ntmps91
  go_wp2
  exact bodyPost_ret (v := .agg #[.nilFunc, .func (.func 94) #[] #[], .func (.func 95) #[] #[], .func (.func 96) #[] #[]]) (by simp [results, Try.results91, go_sem]) rfl ⟨rfl, (Below.refl _ _).alloc (Nat.le_refl _) _⟩

end Go.Proofs.Ytaljpggajpoalaa
/-
  What a swap does, and what an access comes to.
  Conditions: the word is there, and may be written.
-/
namespace Go.Proofs.Ytaljpggajpoalaa
open Go.RowKit Go.Shelf

set_option maxRecDepth 100000 in
set_option maxHeartbeats 2000000 in
theorem swap_no (k a o n held : Int) (b off : Nat) (W : World) (hc : W.cell? ⟨b, off, none⟩ = some (.int .u64 held)) (hne : held ≠ o) :
    Calls Try.prog 96 #[.agg #[.int .i64 k, .int .i64 a, .int .u64 o, .int .u64 n], .slice (some ⟨b, off, none⟩) 1 1] W fun e w' => e = .returned (.bool false) ∧ Below W.heap.size W w' := by
  have hc1 : (W.alloc (.cells #[.int .i64 k, .int .i64 a, .int .u64 o, .int .u64 n] 133)).cell? ⟨b, off, none⟩ = some (.int .u64 held) := by
    rw [World.cell?_alloc_lt _ _ _ (World.block_lt_of_cell? W _ hc)]; exact hc
  have hd : (held == o) = false := by rw [beq_eq_false_iff_ne]; exact hne
  have hB : Below W.heap.size W (W.alloc (.cells #[.int .i64 k, .int .i64 a, .int .u64 o, .int .u64 n] 133)) := (Below.refl _ _).alloc (Nat.le_refl _) _
  clear hne hc
  go_enter Try.func96, Try.ntmps96
  go_wp2
  go_quiet (fail)
  go_wp2
  go_ret
  exact ⟨rfl, below_drewN hB _⟩

set_option maxRecDepth 100000 in
set_option maxHeartbeats 2000000 in
theorem swap_yes (k a o n : Int) (b off : Nat) (W : World) (hc : W.cell? ⟨b, off, none⟩ = some (.int .u64 o)) (hf : W.frozen? ⟨b, off, none⟩ = false) :
    Calls Try.prog 96 #[.agg #[.int .i64 k, .int .i64 a, .int .u64 o, .int .u64 n], .slice (some ⟨b, off, none⟩) 1 1] W fun e w' => e = .returned (.bool true) ∧ Stores ⟨b, off, none⟩ (.int .u64 n) W w' := by
  have hlt := World.block_lt_of_cell? W _ hc
  obtain ⟨wo, hwo⟩ : ∃ wo : World, wo = W.alloc (.cells #[.int .i64 k, .int .i64 a, .int .u64 o, .int .u64 n] 133) := ⟨_, rfl⟩
  have hc1 : wo.cell? ⟨b, off, none⟩ = some (.int .u64 o) := by
    rw [hwo, World.cell?_alloc_lt _ _ _ hlt]; exact hc
  have hB : Below W.heap.size W wo := by rw [hwo]; exact (Below.refl _ _).alloc (Nat.le_refl _) _
  have hf1 : wo.frozen? ⟨b, off, none⟩ = false := (hB.frozen hlt).trans hf
  have hp0 : wo.cell? ⟨W.heap.size, 0, none⟩ = some (.int .i64 k) := by rw [hwo]; simp
  have hp1 : wo.cell? ⟨W.heap.size, 1, none⟩ = some (.int .i64 a) := by rw [hwo]; simp
  have hp2 : wo.cell? ⟨W.heap.size, 2, none⟩ = some (.int .u64 o) := by rw [hwo]; simp
  have hp3 : wo.cell? ⟨W.heap.size, 3, none⟩ = some (.int .u64 n) := by rw [hwo]; simp
  have hd : (o == o) = true := by simp
  clear hc
  go_enter Try.func96, Try.ntmps96
  go_wp2_with fail
  rw [← hwo]
  clear hwo
  go_region_with (first
      | (go_at_call 95; refine (store_c k a o n b off (.int .u64 o) wo.drew hc1 hf1).mono ?_; rintro e w3 ⟨rfl, hs3⟩))
  all_goals go_wp2
  all_goals go_ret
  all_goals exact ⟨rfl, Stores.after hB.drew hs3⟩


/-- What an access comes to, as a value. -/
def gotV (x : Int) (d : Bool) : Value := .agg #[.int .u64 x, .bool d]

set_option maxRecDepth 100000 in
set_option maxHeartbeats 4000000 in
theorem on_out (k a o n : Int) (z : Nat) (pw : Option Addr) (nw cw : Nat) (pl : Option Addr) (nl cl : Nat) (f : Bool) (W : World) (hz0 : W.cell? ⟨z, 0, none⟩ = some (.slice pw nw cw)) (hz1 : W.cell? ⟨z, 1, none⟩ = some (.slice pl nl cl)) (hz2 : W.cell? ⟨z, 2, none⟩ = some (.bool f)) (hfz : W.frozen? ⟨z, 2, none⟩ = false)
    (hn : nw ≤ 4096) (hth : thereB nw a 1 = false) :
    Calls Try.prog 81 #[.agg #[.int .i64 k, .int .i64 a, .int .u64 o, .int .u64 n], .pointer (some ⟨z, 0, none⟩)] W fun e w' => e = .returned (.agg #[.int .u64 0, .bool false]) ∧ Stores ⟨z, 2, none⟩ (.bool true) W w' := by
  obtain ⟨wo, hwo⟩ : ∃ wo : World, wo = (W.alloc (.cells #[.int .i64 k, .int .i64 a, .int .u64 o, .int .u64 n] 133)).alloc (.cells #[.int .u64 0, .bool false] 120) := ⟨_, rfl⟩
  have hB : Below W.heap.size W wo := by rw [hwo]; exact ((Below.refl _ _).alloc (Nat.le_refl _) _).alloc (by simp) _
  have hsz : W.heap.size + 1 < wo.heap.size := by rw [hwo]; simp
  have hp0 : wo.cell? ⟨W.heap.size, 0, none⟩ = some (.int .i64 k) := by rw [hwo]; simp
  have hp1 : wo.cell? ⟨W.heap.size, 1, none⟩ = some (.int .i64 a) := by rw [hwo]; simp
  have hp2 : wo.cell? ⟨W.heap.size, 2, none⟩ = some (.int .u64 o) := by rw [hwo]; simp
  have hp3 : wo.cell? ⟨W.heap.size, 3, none⟩ = some (.int .u64 n) := by rw [hwo]; simp
  have hq0 : wo.cell? ⟨W.heap.size + 1, 0, none⟩ = some (.int .u64 0) := by rw [hwo]; simp
  have hq1 : wo.cell? ⟨W.heap.size + 1, 1, none⟩ = some (.bool false) := by rw [hwo]; simp
  have hg0 : wo.frozen? ⟨W.heap.size + 1, 0, none⟩ = false := by rw [hwo]; simp
  have hg1 : wo.frozen? ⟨W.heap.size + 1, 1, none⟩ = false := by rw [hwo]; simp
  have hzlt := World.block_lt_of_cell? W _ hz0
  have hfz' := below_frozen hB hz2 hfz
  have hz0' := below_cell hB hz0
  have hz1' := below_cell hB hz1
  have hz2' := below_cell hB hz2
  clear hz0 hz1 hz2 hfz
  have HTH : ∀ W' : World, Calls Try.prog 74 #[.agg #[.slice pw nw cw, .slice pl nl cl, .bool f], .int .i64 a, .int .i64 1] W' fun e w' => e = .returned (.bool false) ∧ Below W'.heap.size W' w' := fun W' => by
    have := there_c pw nw cw (.slice pl nl cl) f a 1 (by decide) (by omega) W'; rwa [hth] at this
  clear hth
  go_enter Try.func81, Try.ntmps81
  go_wp2_with fail
  rw [← hwo]
  clear hwo
  refine wp_region_held_drew (S := (fun w' => (w'.cell? ⟨z, 0, none⟩ = some (.slice pw nw cw) ∧ w'.cell? ⟨z, 1, none⟩ = some (.slice pl nl cl) ∧ w'.cell? ⟨z, 2, none⟩ = some (.bool f)) ∧ (w'.cell? ⟨W.heap.size, 0, none⟩ = some (.int .i64 k) ∧ w'.cell? ⟨W.heap.size, 1, none⟩ = some (.int .i64 a) ∧ w'.cell? ⟨W.heap.size, 2, none⟩ = some (.int .u64 o) ∧ w'.cell? ⟨W.heap.size, 3, none⟩ = some (.int .u64 n)))) (by kernel_rfl) ⟨⟨hz0', hz1', hz2'⟩, hp0, hp1, hp2, hp3⟩ (fun hHeld => ?_)
  refine wpAnyH_take (i := 0) (v := (.pointer (some ⟨z, 0, none⟩))) rfl (by kernel_rfl) (by kernel_rfl) (by kernel_rfl) (fun _ _ _ h => h) (Or.inl ⟨by rfl, ?_⟩) (by assumption) ?_
  · intro w hSw
    go_simp
  simp only [Act.put, List.getElem_toArray, List.getElem_cons_zero, List.setIfInBounds_toArray, List.set_cons_succ, List.set_cons_zero]
  refine wpAnyH_take (i := 1) (v := (.pointer (some ⟨z, 0, none⟩))) rfl (by kernel_rfl) (by kernel_rfl) (by kernel_rfl) (fun _ _ _ h => h) (Or.inl ⟨by rfl, ?_⟩) (by assumption) ?_
  · intro w hSw
    go_simp
  simp only [Act.put, List.getElem_toArray, List.getElem_cons_succ, List.getElem_cons_zero, List.setIfInBounds_toArray, List.set_cons_succ, List.set_cons_zero]
  refine wpAnyH_take (i := 2) (v := (.agg #[.slice pw nw cw, .slice pl nl cl, .bool f])) rfl (by kernel_rfl) (by kernel_rfl) (by kernel_rfl) (fun _ _ _ h => h) (Or.inl ⟨by rfl, ?_⟩) (by assumption) ?_
  · intro w hSw
    go_simp
  simp only [Act.put, List.getElem_toArray, List.getElem_cons_succ, List.getElem_cons_zero, List.setIfInBounds_toArray, List.set_cons_succ, List.set_cons_zero]
  refine wpAnyH_take (i := 3) (v := (.pointer (some ⟨W.heap.size, 0, none⟩))) rfl (by kernel_rfl) (by kernel_rfl) (by kernel_rfl) (fun _ _ _ h => h) (Or.inl ⟨by rfl, ?_⟩) (by assumption) ?_
  · intro w hSw
    go_simp
  simp only [Act.put, List.getElem_toArray, List.getElem_cons_succ, List.getElem_cons_zero, List.setIfInBounds_toArray, List.set_cons_succ, List.set_cons_zero]
  refine wpAnyH_take (i := 4) (v := (.pointer (some ⟨W.heap.size, 1, none⟩))) rfl (by kernel_rfl) (by kernel_rfl) (by kernel_rfl) (fun _ _ _ h => h) (Or.inl ⟨by rfl, ?_⟩) (by assumption) ?_
  · intro w hSw
    go_simp
  simp only [Act.put, List.getElem_toArray, List.getElem_cons_succ, List.getElem_cons_zero, List.setIfInBounds_toArray, List.set_cons_succ, List.set_cons_zero]
  refine wpAnyH_take (i := 5) (v := (.int .i64 a)) rfl (by kernel_rfl) (by kernel_rfl) (by kernel_rfl) (fun _ _ _ h => h) (Or.inl ⟨by rfl, ?_⟩) (by assumption) ?_
  · intro w hSw
    go_simp
  simp only [Act.put, List.getElem_toArray, List.getElem_cons_succ, List.getElem_cons_zero, List.setIfInBounds_toArray, List.set_cons_succ, List.set_cons_zero]
  refine wpAnyH_ready (rs := [6]) (by kernel_rfl) (by simp) ?_
  refine AllReadyH.cons rfl (fun K hK => ?_) AllReadyH.nil
  go_simp
  go_at_call 74
  refine (HTH _).mono ?_
  rintro e w3 ⟨rfl, hb3⟩
  refine hK.out _ _ ⟨⟨below_cell hb3 hz0', below_cell hb3 hz1', below_cell hb3 hz2'⟩, below_cell hb3 hp0, below_cell hb3 hp1, below_cell hb3 hp2, below_cell hb3 hp3⟩ (fun hHeld => ?_)
  clear hK K
  refine wpAnyH_take (i := 7) (v := (.bool true)) rfl (by kernel_rfl) (by kernel_rfl) (by kernel_rfl) (fun _ _ _ h => h) (Or.inl ⟨by rfl, ?_⟩) (by assumption) ?_
  · intro w hSw
    go_simp
  simp only [Act.put, List.getElem_toArray, List.getElem_cons_succ, List.getElem_cons_zero, List.setIfInBounds_toArray, List.set_cons_succ, List.set_cons_zero]
  refine wpAnyH_take (i := 8) (v := (.bool true)) rfl (by kernel_rfl) (by kernel_rfl) (by kernel_rfl) (fun _ _ _ h => h) (Or.inl ⟨by rfl, ?_⟩) (by assumption) ?_
  · intro w hSw
    go_simp
  simp only [Act.put, List.getElem_toArray, List.getElem_cons_succ, List.getElem_cons_zero, List.setIfInBounds_toArray, List.set_cons_succ, List.set_cons_zero]
  refine wpAnyH_take (i := 9) (v := undef) rfl (by kernel_rfl) (by kernel_rfl) (by kernel_rfl) (fun _ _ _ h => h) (Or.inr ⟨by rfl, rfl⟩) (by assumption) ?_
  simp only [Act.put, List.getElem_toArray, List.getElem_cons_succ, List.getElem_cons_zero, List.setIfInBounds_toArray, List.set_cons_succ, List.set_cons_zero]
  refine wpAnyH_take (i := 10) (v := undef) rfl (by kernel_rfl) (by kernel_rfl) (by kernel_rfl) (fun _ _ _ h => h) (Or.inr ⟨by rfl, rfl⟩) (by assumption) ?_
  simp only [Act.put, List.getElem_toArray, List.getElem_cons_succ, List.getElem_cons_zero, List.setIfInBounds_toArray, List.set_cons_succ, List.set_cons_zero]
  refine wpAnyH_take (i := 11) (v := undef) rfl (by kernel_rfl) (by kernel_rfl) (by kernel_rfl) (fun _ _ _ h => h) (Or.inr ⟨by rfl, rfl⟩) (by assumption) ?_
  simp only [Act.put, List.getElem_toArray, List.getElem_cons_succ, List.getElem_cons_zero, List.setIfInBounds_toArray, List.set_cons_succ, List.set_cons_zero]
  refine wpAnyH_take (i := 12) (v := undef) rfl (by kernel_rfl) (by kernel_rfl) (by kernel_rfl) (fun _ _ _ h => h) (Or.inr ⟨by rfl, rfl⟩) (by assumption) ?_
  simp only [Act.put, List.getElem_toArray, List.getElem_cons_succ, List.getElem_cons_zero, List.setIfInBounds_toArray, List.set_cons_succ, List.set_cons_zero]
  refine wpAnyH_take (i := 13) (v := undef) rfl (by kernel_rfl) (by kernel_rfl) (by kernel_rfl) (fun _ _ _ h => h) (Or.inr ⟨by rfl, rfl⟩) (by assumption) ?_
  simp only [Act.put, List.getElem_toArray, List.getElem_cons_succ, List.getElem_cons_zero, List.setIfInBounds_toArray, List.set_cons_succ, List.set_cons_zero]
  refine wpAnyH_take (i := 14) (v := undef) rfl (by kernel_rfl) (by kernel_rfl) (by kernel_rfl) (fun _ _ _ h => h) (Or.inr ⟨by rfl, rfl⟩) (by assumption) ?_
  simp only [Act.put, List.getElem_toArray, List.getElem_cons_succ, List.getElem_cons_zero, List.setIfInBounds_toArray, List.set_cons_succ, List.set_cons_zero]
  refine wpAnyH_take (i := 15) (v := undef) rfl (by kernel_rfl) (by kernel_rfl) (by kernel_rfl) (fun _ _ _ h => h) (Or.inr ⟨by rfl, rfl⟩) (by assumption) ?_
  simp only [Act.put, List.getElem_toArray, List.getElem_cons_succ, List.getElem_cons_zero, List.setIfInBounds_toArray, List.set_cons_succ, List.set_cons_zero]
  refine wpAnyH_take (i := 16) (v := undef) rfl (by kernel_rfl) (by kernel_rfl) (by kernel_rfl) (fun _ _ _ h => h) (Or.inr ⟨by rfl, rfl⟩) (by assumption) ?_
  simp only [Act.put, List.getElem_toArray, List.getElem_cons_succ, List.getElem_cons_zero, List.setIfInBounds_toArray, List.set_cons_succ, List.set_cons_zero]
  refine wpAnyH_take (i := 17) (v := undef) rfl (by kernel_rfl) (by kernel_rfl) (by kernel_rfl) (fun _ _ _ h => h) (Or.inr ⟨by rfl, rfl⟩) (by assumption) ?_
  simp only [Act.put, List.getElem_toArray, List.getElem_cons_succ, List.getElem_cons_zero, List.setIfInBounds_toArray, List.set_cons_succ, List.set_cons_zero]
  refine wpAnyH_take (i := 18) (v := undef) rfl (by kernel_rfl) (by kernel_rfl) (by kernel_rfl) (fun _ _ _ h => h) (Or.inr ⟨by rfl, rfl⟩) (by assumption) ?_
  simp only [Act.put, List.getElem_toArray, List.getElem_cons_succ, List.getElem_cons_zero, List.setIfInBounds_toArray, List.set_cons_succ, List.set_cons_zero]
  refine wpAnyH_take (i := 19) (v := (.bool true)) rfl (by kernel_rfl) (by kernel_rfl) (by kernel_rfl) (fun _ _ _ h => h) (Or.inl ⟨by rfl, ?_⟩) (by assumption) ?_
  · intro w hSw
    go_simp
  simp only [Act.put, List.getElem_toArray, List.getElem_cons_succ, List.getElem_cons_zero, List.setIfInBounds_toArray, List.set_cons_succ, List.set_cons_zero]
  refine wpAnyH_done (by kernel_rfl) ?_ _
  have hq0' := below_cell hb3 hq0
  have hq1' := below_cell hb3 hq1
  have hg0' := below_frozen hb3 hq0 hg0
  have hg1' := below_frozen hb3 hq1 hg1
  have hfz3 := below_frozen hb3 hz2' hfz'
  have hB3 := below_then hB.drew hB.size hb3
  obtain ⟨⟨_, _, hz3⟩, _⟩ := hHeld
  go_wp2
  have hS := ((below_both hB3 ⟨z, 2, none⟩ (.bool true)).setCell (p := ⟨W.heap.size + 1, 0, none⟩) (Nat.le_succ _) (.int .u64 0)).setCell (p := ⟨W.heap.size + 1, 1, none⟩) (Nat.le_succ _) (.bool false)
  exact bodyPost_ret (v := .agg #[.int .u64 0, .bool false]) (by simp [results, Try.results81, go_sem, hq0', hq1']) rfl ⟨rfl, hS⟩

end Go.Proofs.Ytaljpggajpoalaa
namespace Go.Proofs.Ytaljpggajpoalaa
open Go.RowKit Go.Shelf

theorem fn_info : (Try.prog.info? 146).map (fun i => (i.zero, i.size, i.bytes)) = some (some .nilFunc, 1, 8) := by kernel_rfl
theorem run_deeds (i : Nat) (v : Value) (hi : i < 4) (cs : Array Value) (hv : cs[i]? = some v) (w : World) : (Instr.index 147 (.agg cs) (.int .i64 i)).run Try.prog w = .ok v w := by
  obtain ⟨i0, hi0, _, hz1, _⟩ := info_parts fn_info
  have hin : 0 ≤ (i : Int) ∧ (i : Int) < (4 : Nat) := by omega
  simp [Instr.index, asIntOf, run_underlying Try.underlying147, part, isAgg, run_underlying Try.underlying146, sizeOf, typeInfo, hi0, hz1, hv]
  omega

set_option maxRecDepth 100000 in
set_option maxHeartbeats 4000000 in
theorem on_free (a : Nat) (k o n : Int) (z gw nw cw gl nl cl : Nat) (f : Bool) (held : Int) (W : World) (hz0 : W.cell? ⟨z, 0, none⟩ = some (.slice (some ⟨gw, 0, none⟩) nw cw)) (hz1 : W.cell? ⟨z, 1, none⟩ = some (.slice (some ⟨gl, 0, none⟩) nl cl)) (hz2 : W.cell? ⟨z, 2, none⟩ = some (.bool f)) (hfz : W.frozen? ⟨z, 2, none⟩ = false)
    (hw : W.cell? ⟨gw, a, none⟩ = some (.int .u64 held)) (hfw : W.frozen? ⟨gw, a, none⟩ = false) (han : a < nw) (hnl : nl = nw) (hnc : nw ≤ cw) (hcm : cw ≤ 9223372036854775807) (hn : nw ≤ 4096)
    (hl : W.cell? ⟨gl, a, none⟩ = some (.bool false)) :
    Calls Try.prog 81 #[.agg #[.int .i64 k, .int .i64 a, .int .u64 o, .int .u64 n], .pointer (some ⟨z, 0, none⟩)] W fun e w' => e = .returned (.agg #[.int .u64 0, .bool false]) ∧ Stores ⟨z, 2, none⟩ (.bool true) W w' := by
  obtain ⟨wo, hwo⟩ : ∃ wo : World, wo = (W.alloc (.cells #[.int .i64 k, .int .i64 a, .int .u64 o, .int .u64 n] 133)).alloc (.cells #[.int .u64 0, .bool false] 120) := ⟨_, rfl⟩
  have hB : Below W.heap.size W wo := by rw [hwo]; exact ((Below.refl _ _).alloc (Nat.le_refl _) _).alloc (by simp) _
  have hsz : W.heap.size + 1 < wo.heap.size := by rw [hwo]; simp
  have hp0 : wo.cell? ⟨W.heap.size, 0, none⟩ = some (.int .i64 k) := by rw [hwo]; simp
  have hp1 : wo.cell? ⟨W.heap.size, 1, none⟩ = some (.int .i64 a) := by rw [hwo]; simp
  have hp2 : wo.cell? ⟨W.heap.size, 2, none⟩ = some (.int .u64 o) := by rw [hwo]; simp
  have hp3 : wo.cell? ⟨W.heap.size, 3, none⟩ = some (.int .u64 n) := by rw [hwo]; simp
  have hq0 : wo.cell? ⟨W.heap.size + 1, 0, none⟩ = some (.int .u64 0) := by rw [hwo]; simp
  have hq1 : wo.cell? ⟨W.heap.size + 1, 1, none⟩ = some (.bool false) := by rw [hwo]; simp
  have hg0 : wo.frozen? ⟨W.heap.size + 1, 0, none⟩ = false := by rw [hwo]; simp
  have hg1 : wo.frozen? ⟨W.heap.size + 1, 1, none⟩ = false := by rw [hwo]; simp
  have hzlt := World.block_lt_of_cell? W _ hz0
  have hfz' := below_frozen hB hz2 hfz
  have hz0' := below_cell hB hz0
  have hz1' := below_cell hB hz1
  have hz2' := below_cell hB hz2
  have hl' := below_cell hB hl
  have hw' := below_cell hB hw
  have hfw' := below_frozen hB hw hfw
  have hgw := World.block_lt_of_cell? W _ hw
  simp only at hgw hzlt
  have hne1 : W.heap.size ≠ gw := by omega
  have hne2 : W.heap.size + 1 ≠ gw := by omega
  have hai : (a : Int) < nl := by omega
  have hai0 : (0 : Int) ≤ a := by omega
  clear hz0 hz1 hz2 hfz hl hw hfw
  have HTH : ∀ W' : World, Calls Try.prog 74 #[.agg #[.slice (some ⟨gw, 0, none⟩) nw cw, .slice (some ⟨gl, 0, none⟩) nl cl, .bool f], .int .i64 a, .int .i64 1] W' fun e w' => e = .returned (.bool true) ∧ Below W'.heap.size W' w' := fun W' => by
    have := there_c (some ⟨gw, 0, none⟩) nw cw (.slice (some ⟨gl, 0, none⟩) nl cl) f a 1 (by decide) (by omega) W'
    rwa [show thereB nw a 1 = true by simp [thereB]; omega] at this
  have HCUT : ∀ W' : World, Calls Try.prog 89 #[.slice (some ⟨gw, 0, none⟩) nw cw, .int .i64 a, .int .i64 1] W' fun e w' => e = .returned (.slice (some ⟨gw, a, none⟩) 1 1) ∧ w' = W' := fun W' => by
    simpa using cutW_c gw 0 nw cw a 1 (by omega) (by omega) hcm W'
  clear han hnl hnc hcm
  go_enter Try.func81, Try.ntmps81
  go_wp2_with fail
  rw [← hwo]
  clear hwo
  go_region_held3 (fun w' => (w'.cell? ⟨z, 0, none⟩ = some (.slice (some ⟨gw, 0, none⟩) nw cw) ∧ w'.cell? ⟨z, 1, none⟩ = some (.slice (some ⟨gl, 0, none⟩) nl cl) ∧ w'.cell? ⟨z, 2, none⟩ = some (.bool f)) ∧ (w'.cell? ⟨W.heap.size, 0, none⟩ = some (.int .i64 k) ∧ w'.cell? ⟨W.heap.size, 1, none⟩ = some (.int .i64 a) ∧ w'.cell? ⟨W.heap.size, 2, none⟩ = some (.int .u64 o) ∧ w'.cell? ⟨W.heap.size, 3, none⟩ = some (.int .u64 n)) ∧ w'.cell? ⟨gl, a, none⟩ = some (.bool false))
    (first
      | exact ⟨⟨hz0', hz1', hz2'⟩, ⟨hp0, hp1, hp2, hp3⟩, hl'⟩
      | go_keep
      | (go_split_ands; exact ⟨⟨below_cell hb3 (by assumption), below_cell hb3 (by assumption), below_cell hb3 (by assumption)⟩, ⟨below_cell hb3 (by assumption), below_cell hb3 (by assumption), below_cell hb3 (by assumption), below_cell hb3 (by assumption)⟩, below_cell hb3 (by assumption)⟩))
    (first
      | (go_at_call 74; refine (HTH _).mono ?_; rintro e w3 ⟨rfl, hb3⟩))
  have hq0' := below_cell hb3 hq0
  have hq1' := below_cell hb3 hq1
  have hg0' := below_frozen hb3 hq0 hg0
  have hg1' := below_frozen hb3 hq1 hg1
  have hfz3 := below_frozen hb3 hz2' hfz'
  have hw3 := below_cell hb3 hw'
  have hfw3 := below_frozen hb3 hw' hfw'
  have hB3 := below_then hB.drew hB.size hb3
  have hS3 : (fun w' => (w'.cell? ⟨z, 0, none⟩ = some (.slice (some ⟨gw, 0, none⟩) nw cw) ∧ w'.cell? ⟨z, 1, none⟩ = some (.slice (some ⟨gl, 0, none⟩) nl cl) ∧ w'.cell? ⟨z, 2, none⟩ = some (.bool f)) ∧ (w'.cell? ⟨W.heap.size, 0, none⟩ = some (.int .i64 k) ∧ w'.cell? ⟨W.heap.size, 1, none⟩ = some (.int .i64 a) ∧ w'.cell? ⟨W.heap.size, 2, none⟩ = some (.int .u64 o) ∧ w'.cell? ⟨W.heap.size, 3, none⟩ = some (.int .u64 n)) ∧ w'.cell? ⟨gl, a, none⟩ = some (.bool false)) w3 := ⟨⟨below_cell hb3 hz0', below_cell hb3 hz1', below_cell hb3 hz2'⟩, ⟨below_cell hb3 hp0, below_cell hb3 hp1, below_cell hb3 hp2, below_cell hb3 hp3⟩, below_cell hb3 hl'⟩
  obtain ⟨⟨hz0'', hz1'', hz2''⟩, ⟨hp0', hp1', hp2', hp3'⟩, _⟩ := hS3
  clear hb3 hq0 hq1 hg0 hg1 hfz' hw' hfw' hz0' hz1' hz2' hp0 hp1 hp2 hp3 hl'
  go_wp2
  have hS := ((below_both hB3 ⟨z, 2, none⟩ (.bool true)).setCell (p := ⟨W.heap.size + 1, 0, none⟩) (Nat.le_succ _) (.int .u64 0)).setCell (p := ⟨W.heap.size + 1, 1, none⟩) (Nat.le_succ _) (.bool false)
  exact bodyPost_ret (v := .agg #[.int .u64 0, .bool false]) (by simp [results, Try.results81, go_sem, hq0', hq1']) rfl ⟨rfl, hS⟩

set_option maxRecDepth 100000 in
set_option maxHeartbeats 4000000 in
theorem on_load (a : Nat) (o n : Int) (z gw nw cw gl nl cl : Nat) (f : Bool) (held : Int) (W : World) (hz0 : W.cell? ⟨z, 0, none⟩ = some (.slice (some ⟨gw, 0, none⟩) nw cw)) (hz1 : W.cell? ⟨z, 1, none⟩ = some (.slice (some ⟨gl, 0, none⟩) nl cl)) (hz2 : W.cell? ⟨z, 2, none⟩ = some (.bool f)) (hfz : W.frozen? ⟨z, 2, none⟩ = false)
    (hw : W.cell? ⟨gw, a, none⟩ = some (.int .u64 held)) (hfw : W.frozen? ⟨gw, a, none⟩ = false) (han : a < nw) (hnl : nl = nw) (hnc : nw ≤ cw) (hcm : cw ≤ 9223372036854775807) (hn : nw ≤ 4096)
    (hl : W.cell? ⟨gl, a, none⟩ = some (.bool true)) :
    Calls Try.prog 81 #[.agg #[.int .i64 1, .int .i64 a, .int .u64 o, .int .u64 n], .pointer (some ⟨z, 0, none⟩)] W fun e w' => e = .returned (.agg #[.int .u64 held, .bool true]) ∧ Below W.heap.size W w' := by
  obtain ⟨wo, hwo⟩ : ∃ wo : World, wo = (W.alloc (.cells #[.int .i64 1, .int .i64 a, .int .u64 o, .int .u64 n] 133)).alloc (.cells #[.int .u64 0, .bool false] 120) := ⟨_, rfl⟩
  have hB : Below W.heap.size W wo := by rw [hwo]; exact ((Below.refl _ _).alloc (Nat.le_refl _) _).alloc (by simp) _
  have hsz : W.heap.size + 1 < wo.heap.size := by rw [hwo]; simp
  have hp0 : wo.cell? ⟨W.heap.size, 0, none⟩ = some (.int .i64 1) := by rw [hwo]; simp
  have hp1 : wo.cell? ⟨W.heap.size, 1, none⟩ = some (.int .i64 a) := by rw [hwo]; simp
  have hp2 : wo.cell? ⟨W.heap.size, 2, none⟩ = some (.int .u64 o) := by rw [hwo]; simp
  have hp3 : wo.cell? ⟨W.heap.size, 3, none⟩ = some (.int .u64 n) := by rw [hwo]; simp
  have hq0 : wo.cell? ⟨W.heap.size + 1, 0, none⟩ = some (.int .u64 0) := by rw [hwo]; simp
  have hq1 : wo.cell? ⟨W.heap.size + 1, 1, none⟩ = some (.bool false) := by rw [hwo]; simp
  have hg0 : wo.frozen? ⟨W.heap.size + 1, 0, none⟩ = false := by rw [hwo]; simp
  have hg1 : wo.frozen? ⟨W.heap.size + 1, 1, none⟩ = false := by rw [hwo]; simp
  have hzlt := World.block_lt_of_cell? W _ hz0
  have hfz' := below_frozen hB hz2 hfz
  have hz0' := below_cell hB hz0
  have hz1' := below_cell hB hz1
  have hz2' := below_cell hB hz2
  have hl' := below_cell hB hl
  have hw' := below_cell hB hw
  have hfw' := below_frozen hB hw hfw
  have hgw := World.block_lt_of_cell? W _ hw
  simp only at hgw hzlt
  have hne1 : W.heap.size ≠ gw := by omega
  have hne2 : W.heap.size + 1 ≠ gw := by omega
  have hai : (a : Int) < nl := by omega
  have hai0 : (0 : Int) ≤ a := by omega
  clear hz0 hz1 hz2 hfz hl hw hfw
  have HTH : ∀ W' : World, Calls Try.prog 74 #[.agg #[.slice (some ⟨gw, 0, none⟩) nw cw, .slice (some ⟨gl, 0, none⟩) nl cl, .bool f], .int .i64 a, .int .i64 1] W' fun e w' => e = .returned (.bool true) ∧ Below W'.heap.size W' w' := fun W' => by
    have := there_c (some ⟨gw, 0, none⟩) nw cw (.slice (some ⟨gl, 0, none⟩) nl cl) f a 1 (by decide) (by omega) W'
    rwa [show thereB nw a 1 = true by simp [thereB]; omega] at this
  have HCUT : ∀ W' : World, Calls Try.prog 89 #[.slice (some ⟨gw, 0, none⟩) nw cw, .int .i64 a, .int .i64 1] W' fun e w' => e = .returned (.slice (some ⟨gw, a, none⟩) 1 1) ∧ w' = W' := fun W' => by
    simpa using cutW_c gw 0 nw cw a 1 (by omega) (by omega) hcm W'
  clear han hnl hnc hcm
  go_enter Try.func81, Try.ntmps81
  go_wp2_with fail
  rw [← hwo]
  clear hwo
  go_region_held3 (fun w' => (w'.cell? ⟨z, 0, none⟩ = some (.slice (some ⟨gw, 0, none⟩) nw cw) ∧ w'.cell? ⟨z, 1, none⟩ = some (.slice (some ⟨gl, 0, none⟩) nl cl) ∧ w'.cell? ⟨z, 2, none⟩ = some (.bool f)) ∧ (w'.cell? ⟨W.heap.size, 0, none⟩ = some (.int .i64 1) ∧ w'.cell? ⟨W.heap.size, 1, none⟩ = some (.int .i64 a) ∧ w'.cell? ⟨W.heap.size, 2, none⟩ = some (.int .u64 o) ∧ w'.cell? ⟨W.heap.size, 3, none⟩ = some (.int .u64 n)) ∧ w'.cell? ⟨gl, a, none⟩ = some (.bool true))
    (first
      | exact ⟨⟨hz0', hz1', hz2'⟩, ⟨hp0, hp1, hp2, hp3⟩, hl'⟩
      | go_keep
      | (go_split_ands; exact ⟨⟨below_cell hb3 (by assumption), below_cell hb3 (by assumption), below_cell hb3 (by assumption)⟩, ⟨below_cell hb3 (by assumption), below_cell hb3 (by assumption), below_cell hb3 (by assumption), below_cell hb3 (by assumption)⟩, below_cell hb3 (by assumption)⟩))
    (first
      | (go_at_call 74; refine (HTH _).mono ?_; rintro e w3 ⟨rfl, hb3⟩))
  have hq0' := below_cell hb3 hq0
  have hq1' := below_cell hb3 hq1
  have hg0' := below_frozen hb3 hq0 hg0
  have hg1' := below_frozen hb3 hq1 hg1
  have hfz3 := below_frozen hb3 hz2' hfz'
  have hw3 := below_cell hb3 hw'
  have hfw3 := below_frozen hb3 hw' hfw'
  have hB3 := below_then hB.drew hB.size hb3
  have hS3 : (fun w' => (w'.cell? ⟨z, 0, none⟩ = some (.slice (some ⟨gw, 0, none⟩) nw cw) ∧ w'.cell? ⟨z, 1, none⟩ = some (.slice (some ⟨gl, 0, none⟩) nl cl) ∧ w'.cell? ⟨z, 2, none⟩ = some (.bool f)) ∧ (w'.cell? ⟨W.heap.size, 0, none⟩ = some (.int .i64 1) ∧ w'.cell? ⟨W.heap.size, 1, none⟩ = some (.int .i64 a) ∧ w'.cell? ⟨W.heap.size, 2, none⟩ = some (.int .u64 o) ∧ w'.cell? ⟨W.heap.size, 3, none⟩ = some (.int .u64 n)) ∧ w'.cell? ⟨gl, a, none⟩ = some (.bool true)) w3 := ⟨⟨below_cell hb3 hz0', below_cell hb3 hz1', below_cell hb3 hz2'⟩, ⟨below_cell hb3 hp0, below_cell hb3 hp1, below_cell hb3 hp2, below_cell hb3 hp3⟩, below_cell hb3 hl'⟩
  obtain ⟨⟨hz0'', hz1'', hz2''⟩, ⟨hp0', hp1', hp2', hp3'⟩, _⟩ := hS3
  clear hb3 hq0 hq1 hg0 hg1 hfz' hw' hfw' hz0' hz1' hz2' hp0 hp1 hp2 hp3 hl'
  go_wp2_with fail
  go_quiet ((go_at_call 89; exact Calls.quiet_of_same (HCUT _)))
  replace hB3 := below_drewN hB3 nq
  replace hB3 := hB3.drew
  have hix : ∀ w, (Instr.index 147 (.agg #[.nilFunc, .func (.func 94) #[] #[], .func (.func 95) #[] #[], .func (.func 96) #[] #[]]) (.int .i64 1)).run Try.prog w = .ok (.func (.func 94) #[] #[]) w := fun w => run_deeds 1 _ (by decide) _ rfl w
  go_wp2_with fail
  go_region_held3 (fun w' => w'.cell? ⟨W.heap.size, 0, none⟩ = some (.int .i64 1) ∧ w'.cell? ⟨W.heap.size, 1, none⟩ = some (.int .i64 a) ∧ w'.cell? ⟨W.heap.size, 2, none⟩ = some (.int .u64 o) ∧ w'.cell? ⟨W.heap.size, 3, none⟩ = some (.int .u64 n))
    (first
      | exact ⟨hp0', hp1', hp2', hp3'⟩
      | go_keep
      | (go_split_ands; exact ⟨below_cell hb4 (by assumption), below_cell hb4 (by assumption), below_cell hb4 (by assumption), below_cell hb4 (by assumption)⟩)
      | (go_split_ands; exact ⟨below_cell hb5 (by assumption), below_cell hb5 (by assumption), below_cell hb5 (by assumption), below_cell hb5 (by assumption)⟩))
    (first
      | (go_at_call 91; refine (deeds_c _).mono ?_; rintro e w4 ⟨rfl, hb4⟩; replace hg0' := below_frozen hb4 hq0' hg0'; replace hg1' := below_frozen hb4 hq1' hg1'; replace hq0' := below_cell hb4 hq0'; replace hq1' := below_cell hb4 hq1'; replace hfw3 := below_frozen hb4 hw3 hfw3; replace hw3 := below_cell hb4 hw3; replace hB3 := below_then hB3 hB3.size hb4)
      | (go_at_call 94; refine (load_c 1 a o n _ _).mono ?_; rintro e w5 ⟨rfl, hb5⟩; replace hg0' := below_frozen hb5 hq0' hg0'; replace hg1' := below_frozen hb5 hq1' hg1'; replace hq0' := below_cell hb5 hq0'; replace hq1' := below_cell hb5 hq1'; replace hB3 := below_then hB3 hB3.size hb5))
  have hS := (hB3.setCell (p := ⟨W.heap.size + 1, 0, none⟩) (Nat.le_succ _) (.int .u64 held)).setCell (p := ⟨W.heap.size + 1, 1, none⟩) (Nat.le_succ _) (.bool true)
  go_wp2
  exact bodyPost_ret (v := .agg #[.int .u64 held, .bool true]) (by simp [results, Try.results81, go_sem, hq0', hq1']) rfl ⟨rfl, hS⟩

end Go.Proofs.Ytaljpggajpoalaa
