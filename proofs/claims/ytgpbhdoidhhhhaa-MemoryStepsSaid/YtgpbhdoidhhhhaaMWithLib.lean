/-
  What holds in the loop that makes a memory word by word: a variable, its two rows, and all else.
  Conditions: none.
-/
import Derived.Test.YtgpbhdoidhhhhaaMKit2
import Derived.Test.YtgpbhdoidhhhhaaHeld
namespace Go.Proofs.Ytgpbhdoidhhhhaa
open Go.RowKit Go.Shelf

theorem Keeps.of_grown {w w' : World} {r : Option Nat} (h : w.grownBy w' r) : Keeps (fun q => some q = r) w w' := ⟨h.os, h.tape, h.output, h.size, h.block⟩
/-- The variable z holds a, b and f; the rows vw and vl are newer than wo; all else of wo is as it was. -/
structure WInv (wo : World) (z : Nat) (a b : Value) (f : Bool) (nw : Nat) (vw : Value) (xs : List Value) (nl : Nat) (vl : Value) (ys : List Value) (w : World) : Prop where
  box : MBox w z a b f
  words : w.ownsRow wo.heap.size 42 1 vw nw xs
  lives : w.ownsRow wo.heap.size 4 1 vl nl ys
  lt : z < wo.heap.size
  keeps : Keeps (fun q => q = z) wo w

section
variable {wo w : World} {z : Nat} {a b : Value} {f : Bool} {nw : Nat} {vw : Value} {xs : List Value} {nl : Nat} {vl : Value} {ys : List Value}
theorem WInv.drew (h : WInv wo z a b f nw vw xs nl vl ys w) : WInv wo z a b f nw vw xs nl vl ys w.drew := ⟨h.box, h.words.drew, h.lives.drew, h.lt, h.keeps.drewN 1⟩
theorem WInv.alloc (h : WInv wo z a b f nw vw xs nl vl ys w) (o : Obj) : WInv wo z a b f nw vw xs nl vl ys (w.alloc o) :=
  ⟨h.box.alloc o, h.words.alloc o, h.lives.alloc o, h.lt, h.keeps.trans (Keeps.alloc _ w o)⟩
theorem WInv.base (h : WInv wo z a b f nw vw xs nl vl ys w) : wo.heap.size ≤ w.heap.size := h.keeps.size
theorem WInv.neW (h : WInv wo z a b f nw vw xs nl vl ys w) {k : Nat} (hk : k < wo.heap.size) : some k ≠ vw.ownBlock := fun e => by have := (h.words.lt k e.symm).1; omega
theorem WInv.neL (h : WInv wo z a b f nw vw xs nl vl ys w) {k : Nat} (hk : k < wo.heap.size) : some k ≠ vl.ownBlock := fun e => by have := (h.lives.lt k e.symm).1; omega
theorem WInv.newW (h : WInv wo z a b f nw vw xs nl vl ys w) {k : Nat} (hk : w.heap.size ≤ k) : some k ≠ vw.ownBlock := fun e => by have := (h.words.lt k e.symm).2; omega
theorem WInv.newL (h : WInv wo z a b f nw vw xs nl vl ys w) {k : Nat} (hk : w.heap.size ≤ k) : some k ≠ vl.ownBlock := fun e => by have := (h.lives.lt k e.symm).2; omega
theorem WInv.growW (h : WInv wo z a b f nw vw xs nl vl ys w) {w1 : World} {n1 : Nat} {v1 : Value} {xs1 : List Value} (hg : w.grownBy w1 vw.ownBlock) (ho : w1.ownsRow wo.heap.size 42 1 v1 n1 xs1) : WInv wo z a b f n1 v1 xs1 nl vl ys w1 :=
  have hk := Keeps.of_grown hg
  ⟨h.box.keeps hk (h.neW h.lt), ho, hk.row h.lives (fun g hg2 hs => owns_ne h.words h.lives (by decide) (hs : some g = vw.ownBlock).symm hg2 rfl), h.lt,
    ⟨hk.os.trans h.keeps.os, hk.tape.trans h.keeps.tape, hk.output.trans h.keeps.output, Nat.le_trans h.keeps.size hk.size, fun k hk1 hk2 => (hk.block k (Nat.lt_of_lt_of_le hk1 h.base) (h.neW hk1)).trans (h.keeps.block k hk1 hk2)⟩⟩
theorem WInv.growL (h : WInv wo z a b f nw vw xs nl vl ys w) {w1 : World} {n1 : Nat} {v1 : Value} {ys1 : List Value} (hg : w.grownBy w1 vl.ownBlock) (ho : w1.ownsRow wo.heap.size 4 1 v1 n1 ys1) : WInv wo z a b f nw vw xs n1 v1 ys1 w1 :=
  have hk := Keeps.of_grown hg
  ⟨h.box.keeps hk (h.neL h.lt), hk.row h.words (fun g hg2 hs => owns_ne h.lives h.words (by decide) (hs : some g = vl.ownBlock).symm hg2 rfl), ho, h.lt,
    ⟨hk.os.trans h.keeps.os, hk.tape.trans h.keeps.tape, hk.output.trans h.keeps.output, Nat.le_trans h.keeps.size hk.size, fun k hk1 hk2 => (hk.block k (Nat.lt_of_lt_of_le hk1 h.base) (h.neL hk1)).trans (h.keeps.block k hk1 hk2)⟩⟩
theorem WInv.store (h : WInv wo z a b f nw vw xs nl vl ys w) (a' b' : Value) : WInv wo z a' b' f nw vw xs nl vl ys ((w.setCell ⟨z, 0, none⟩ a').setCell ⟨z, 1, none⟩ b') := by
  have hk : Keeps (fun q => q = z) w ((w.setCell ⟨z, 0, none⟩ a').setCell ⟨z, 1, none⟩ b') := (Keeps.setCell w (S := fun q => q = z) (p := ⟨z, 0, none⟩) rfl _).trans (Keeps.setCell _ (S := fun q => q = z) (p := ⟨z, 1, none⟩) rfl _)
  refine ⟨?_, hk.row' h.words (fun q hq => by subst hq; exact h.lt), hk.row' h.lives (fun q hq => by subst hq; exact h.lt), h.lt, h.keeps.trans hk⟩
  have h1 := heap_setCell_same w z 0 _ _ a' h.box
  have h2 := heap_setCell_same _ z 1 _ _ b' h1
  unfold MBox
  rw [h2]
  rfl
end

theorem cell_alloc {w : World} {p : Addr} {v : Value} (h : w.cell? p = some v) (o : Obj) : (w.alloc o).cell? p = some v := by
  rw [World.cell?_alloc_lt _ _ _ (World.block_lt_of_cell? w _ h)]; exact h
theorem cell_grown {w w1 : World} {p : Addr} {v : Value} {r : Option Nat} (hg : w.grownBy w1 r) (h : w.cell? p = some v) (hne : some p.block ≠ r) : w1.cell? p = some v :=
  (hg.cell_far p (World.block_lt_of_cell? w _ h) hne).trans h
theorem heap_alloc {w : World} {k : Nat} {o : Obj} (h : w.heap[k]? = some o) (o' : Obj) : (w.alloc o').heap[k]? = some o := (Below.heap_alloc _ _ _ (Array.getElem?_eq_some_iff.1 h).1).trans h
theorem heap_grown {w w1 : World} {k : Nat} {o : Obj} {r : Option Nat} (hg : w.grownBy w1 r) (h : w.heap[k]? = some o) (hne : some k ≠ r) : w1.heap[k]? = some o := (hg.block k (Array.getElem?_eq_some_iff.1 h).1 hne).trans h
theorem take_map_snoc {α : Type} (g : α → Value) (l : List α) (i : Nat) (h : i < l.length) : (l.take i).map g ++ [g l[i]] = (l.take (i + 1)).map g := by
  rw [List.take_succ_eq_append_getElem h, List.map_append]; rfl

end Go.Proofs.Ytgpbhdoidhhhhaa
