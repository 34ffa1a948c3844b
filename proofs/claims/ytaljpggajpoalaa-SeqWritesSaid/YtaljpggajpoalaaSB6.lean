/-
  with, of the document's answers of layer 2: the memory in memory of its own, with one word holding something, and live, or free; what was in memory stays.
  Conditions: the memory has as many words as truth values, at most 4096.
-/
import Derived.Test.YtaljpggajpoalaaSB5
import Derived.Test.YtaljpggajpoalaaSB2
import Derived.Test.YtaljpggajpoalaaSB4
import Derived.Test.YtaljpggajpoalaaSB3
import Derived.Test.YtaljpggajpoalaaSB1
import Derived.RangeFuncBox
/-
  anew, of package seq: a memory of one's own.
  Conditions: the ranges of Go's types.
-/
namespace Go.Proofs.Ytaljpggajpoalaa
open Go.RowKit Go.Shelf
attribute [local go_sem] Oper.semAt_some

theorem run_nil (v : Value) (ws : List Int) (ls : List Bool) (f : Bool) (W : World) (hv : MemAt W v ws ls f) (hr : rightB ws ls = true) :
    Calls Try.prog 62 #[v, .slice none 0 0] W fun e w' => (∃ gw cw gl cl vg, e = .returned (.tuple #[.agg #[.slice (some ⟨gw, 0, none⟩) ws.length cw, .slice (some ⟨gl, 0, none⟩) ls.length cl, .bool f], vg, .int .i64 0]) ∧
      w'.ownsRow W.heap.size 27 1 (.slice (some ⟨gw, 0, none⟩) ws.length cw) ws.length (ws.map (Value.int .u64)) ∧ w'.ownsRow W.heap.size 4 1 (.slice (some ⟨gl, 0, none⟩) ls.length cl) ls.length (ls.map Value.bool)) ∧ Below W.heap.size W w' :=
  (run_yes v (.slice none 0 0) ws ls f [] W hv hr ⟨none, 0, rfl, fun h => absurd rfl h⟩ (Nat.zero_le _) rfl).mono fun e w' h => by
    obtain ⟨⟨gw, cw, gl, cl, vg, he, h1, h2, _⟩, hb⟩ := h
    exact ⟨⟨gw, cw, gl, cl, vg, he, h1, h2⟩, hb⟩

theorem two_boxes {w1 : World} {z : Nat} {c d : Value} {g : Bool} (hr : MBox w1 (z + 1) c d g) (a' b' : Value) (f' : Bool) :
    MBox ((((((w1.setCell ⟨z, 0, none⟩ a').setCell ⟨z, 1, none⟩ b').setCell ⟨z, 2, none⟩ (.bool f')).setCell ⟨z + 1, 0, none⟩ a').setCell ⟨z + 1, 1, none⟩ b').setCell ⟨z + 1, 2, none⟩ (.bool f')) (z + 1) a' b' f' ∧ Keeps (fun k => k = z ∨ k = z + 1) w1 ((((((w1.setCell ⟨z, 0, none⟩ a').setCell ⟨z, 1, none⟩ b').setCell ⟨z, 2, none⟩ (.bool f')).setCell ⟨z + 1, 0, none⟩ a').setCell ⟨z + 1, 1, none⟩ b').setCell ⟨z + 1, 2, none⟩ (.bool f')) := by
  have k1 : Keeps (fun k => k = z) w1 (((w1.setCell ⟨z, 0, none⟩ a').setCell ⟨z, 1, none⟩ b').setCell ⟨z, 2, none⟩ (.bool f')) :=
    ((Keeps.setCell w1 (S := (· = z)) (p := ⟨z, 0, none⟩) rfl _).trans (Keeps.setCell _ (S := (· = z)) (p := ⟨z, 1, none⟩) rfl _)).trans (Keeps.setCell _ (S := (· = z)) (p := ⟨z, 2, none⟩) rfl _)
  have k2 : Keeps (fun k => k = z ∨ k = z + 1) w1 ((((((w1.setCell ⟨z, 0, none⟩ a').setCell ⟨z, 1, none⟩ b').setCell ⟨z, 2, none⟩ (.bool f')).setCell ⟨z + 1, 0, none⟩ a').setCell ⟨z + 1, 1, none⟩ b').setCell ⟨z + 1, 2, none⟩ (.bool f')) :=
    (((((Keeps.setCell w1 (S := fun k => k = z ∨ k = z + 1) (p := ⟨z, 0, none⟩) (Or.inl rfl) _).trans (Keeps.setCell _ (p := ⟨z, 1, none⟩) (Or.inl rfl) _)).trans (Keeps.setCell _ (p := ⟨z, 2, none⟩) (Or.inl rfl) _)).trans (Keeps.setCell _ (p := ⟨z + 1, 0, none⟩) (Or.inr rfl) _)).trans (Keeps.setCell _ (p := ⟨z + 1, 1, none⟩) (Or.inr rfl) _)).trans (Keeps.setCell _ (p := ⟨z + 1, 2, none⟩) (Or.inr rfl) _)
  refine ⟨MBox.set (a := c) (b := d) (f := g) ?_ a' b' f', k2⟩
  exact (k1.block (z + 1) hr.lt (by simp)).trans hr
set_option maxRecDepth 100000 in
set_option maxHeartbeats 8000000 in
theorem anew_bad (v : Value) (ws : List Int) (ls : List Bool) (f : Bool) (W : World) (hv : MemAt W v ws ls f) (hw : ws.length ≤ 9223372036854775807) (hr : rightB ws ls = false) :
    Calls Try.prog 45 #[v] W fun e w' => e = .returned (.tuple #[memZ, .int .i64 120]) ∧ Below W.heap.size W w' := by
  have hm := hv
  obtain ⟨vw, vl, rfl, ⟨pw, cw, rfl, hcw⟩, pl, cl, rfl, hcl⟩ := hv
  have HRUN := Lib.hid (fun (Z : World) (hb : Below W.heap.size W Z) => run_bad _ (.slice none 0 0) ws ls f Z (hm.below hb) hw hr ⟨none, 0, 0, rfl⟩)
  clear hm hcw hcl hw hr
  obtain ⟨w0, hw0⟩ : ∃ X : World, X = (W.alloc (.cells #[.slice pw ws.length cw, .slice pl ls.length cl, .bool f] 44)).alloc (.cells #[.slice none 0 0, .slice none 0 0, .bool false] 44) := ⟨_, rfl⟩
  have HZ0 := Lib.hid (show MBox w0 W.heap.size (.slice pw ws.length cw) (.slice pl ls.length cl) f by rw [hw0]; exact (MBox.new W _ _ f).below ((Below.refl _ _).alloc (Nat.le_refl _) _))
  have HR0 := Lib.hid (show MBox w0 (W.heap.size + 1) (.slice none 0 0) (.slice none 0 0) false by rw [hw0]; have e := MBox.new (W.alloc (.cells #[.slice pw ws.length cw, .slice pl ls.length cl, .bool f] 44)) (.slice none 0 0) (.slice none 0 0) false; rw [World.size_alloc] at e; exact e)
  have HB0 := Lib.hid (show Below W.heap.size W w0 by rw [hw0]; exact below2 _ _ _)
  go_enter Try.func45, Try.ntmps45
  go_wp2_with fail
  rw [← hw0]
  clear hw0
  refine (HRUN.out _ HB0.out).mono ?_
  rintro e w1 ⟨rfl, hb1⟩
  have HZ1 := Lib.hid (HZ0.out.below hb1)
  have HR1 := Lib.hid (HR0.out.below hb1)
  have HB1 := Lib.hid (below_then HB0.out HB0.out.size hb1)
  clear hb1 HRUN HZ0 HR0
  obtain ⟨⟨hd0, hd1, hd2⟩, he0, he1, he2⟩ := mbox_cells HZ1.out
  obtain ⟨⟨hr0, hr1, hr2⟩, hs0, hs1, hs2⟩ := mbox_cells HR1.out
  have HP := Lib.hid (two_boxes HR1.out (.slice none 0 0) (.slice none 0 0) false)
  unfold memZ
  go_wp2
  clear hd0 hd1 hd2 he0 he1 he2 hr0 hr1 hr2 hs0 hs1 hs2
  revert HP
  generalize World.setCell _ ⟨W.heap.size + 1, 2, none⟩ _ = w3
  intro HP
  obtain ⟨⟨hr0, hr1, hr2⟩, -, -, -⟩ := mbox_cells HP.out.1
  have HK := Lib.hid (HP.out.2.below HB1.out.size (fun q hq => by rcases hq with rfl | rfl <;> omega))
  exact bodyPost_ret (v := .tuple #[memZ, .int .i64 120]) (by simp [results, Try.results45, go_sem, hr0, hr1, hr2, memZ]) rfl ⟨rfl, HB1.out.trans HK.out⟩
set_option maxRecDepth 100000 in
set_option maxHeartbeats 8000000 in
theorem anew_yes (v : Value) (ws : List Int) (ls : List Bool) (f : Bool) (W : World) (hv : MemAt W v ws ls f) (hr : rightB ws ls = true) :
    Calls Try.prog 45 #[v] W fun e w' => (∃ gw cw gl cl, e = .returned (.tuple #[.agg #[.slice (some ⟨gw, 0, none⟩) ws.length cw, .slice (some ⟨gl, 0, none⟩) ls.length cl, .bool f], .int .i64 0]) ∧
      w'.ownsRow W.heap.size 27 1 (.slice (some ⟨gw, 0, none⟩) ws.length cw) ws.length (ws.map (Value.int .u64)) ∧ w'.ownsRow W.heap.size 4 1 (.slice (some ⟨gl, 0, none⟩) ls.length cl) ls.length (ls.map Value.bool)) ∧ Below W.heap.size W w' := by
  have hm := hv
  obtain ⟨vw, vl, rfl, ⟨pw, cw, rfl, hcw⟩, pl, cl, rfl, hcl⟩ := hv
  have HRUN := Lib.hid (fun (Z : World) (hb : Below W.heap.size W Z) => run_nil _ ws ls f Z (hm.below hb) hr)
  clear hm hcw hcl hr
  obtain ⟨w0, hw0⟩ : ∃ X : World, X = (W.alloc (.cells #[.slice pw ws.length cw, .slice pl ls.length cl, .bool f] 44)).alloc (.cells #[.slice none 0 0, .slice none 0 0, .bool false] 44) := ⟨_, rfl⟩
  have HZ0 := Lib.hid (show MBox w0 W.heap.size (.slice pw ws.length cw) (.slice pl ls.length cl) f by rw [hw0]; exact (MBox.new W _ _ f).below ((Below.refl _ _).alloc (Nat.le_refl _) _))
  have HR0 := Lib.hid (show MBox w0 (W.heap.size + 1) (.slice none 0 0) (.slice none 0 0) false by rw [hw0]; have e := MBox.new (W.alloc (.cells #[.slice pw ws.length cw, .slice pl ls.length cl, .bool f] 44)) (.slice none 0 0) (.slice none 0 0) false; rw [World.size_alloc] at e; exact e)
  have HB0 := Lib.hid (show Below W.heap.size W w0 by rw [hw0]; exact below2 _ _ _)
  go_enter Try.func45, Try.ntmps45
  go_wp2_with fail
  rw [← hw0]
  clear hw0
  refine (HRUN.out _ HB0.out).mono ?_
  rintro e w1 ⟨⟨gw, cx, gl, cy, vg, rfl, how, hol⟩, hb1⟩
  have HZ1 := Lib.hid (HZ0.out.below hb1)
  have HR1 := Lib.hid (HR0.out.below hb1)
  have HB1 := Lib.hid (below_then HB0.out HB0.out.size hb1)
  have hlt : W.heap.size + 1 < w0.heap.size := HR0.out.lt
  have HOW := Lib.hid (fun (X : World) (hk : Keeps (fun k => k = W.heap.size ∨ k = W.heap.size + 1) w1 X) => (hk.row how (fun g hg h => by have := (how.lt g hg).1; omega)).mono (Nat.le_of_lt (Nat.lt_of_succ_lt hlt)))
  have HOL := Lib.hid (fun (X : World) (hk : Keeps (fun k => k = W.heap.size ∨ k = W.heap.size + 1) w1 X) => (hk.row hol (fun g hg h => by have := (hol.lt g hg).1; omega)).mono (Nat.le_of_lt (Nat.lt_of_succ_lt hlt)))
  clear hlt how hol
  clear hb1 HRUN HZ0 HR0
  obtain ⟨⟨hd0, hd1, hd2⟩, he0, he1, he2⟩ := mbox_cells HZ1.out
  obtain ⟨⟨hr0, hr1, hr2⟩, hs0, hs1, hs2⟩ := mbox_cells HR1.out
  have HP := Lib.hid (two_boxes HR1.out (.slice (some ⟨gw, 0, none⟩) ws.length cx) (.slice (some ⟨gl, 0, none⟩) ls.length cy) f)
  skip
  go_wp2
  clear hd0 hd1 hd2 he0 he1 he2 hr0 hr1 hr2 hs0 hs1 hs2
  revert HP
  generalize World.setCell _ ⟨W.heap.size + 1, 2, none⟩ _ = w3
  intro HP
  obtain ⟨⟨hr0, hr1, hr2⟩, -, -, -⟩ := mbox_cells HP.out.1
  have HK := Lib.hid (HP.out.2.below HB1.out.size (fun q hq => by rcases hq with rfl | rfl <;> omega))
  exact bodyPost_ret (v := .tuple #[.agg #[.slice (some ⟨gw, 0, none⟩) ws.length cx, .slice (some ⟨gl, 0, none⟩) ls.length cy, .bool f], .int .i64 0]) (by simp [results, Try.results45, go_sem, hr0, hr1, hr2]) rfl ⟨⟨gw, cx, gl, cy, rfl, HOW.out w3 HP.out.2, HOL.out w3 HP.out.2⟩, HB1.out.trans HK.out⟩

end Go.Proofs.Ytaljpggajpoalaa
/-
  What holds in the loop that makes a memory word by word: a variable, its two rows, and all else.
  Conditions: none.
-/
namespace Go.Proofs.Ytaljpggajpoalaa
open Go.RowKit Go.Shelf

theorem Keeps.of_grown {w w' : World} {r : Option Nat} (h : w.grownBy w' r) : Keeps (fun q => some q = r) w w' := ⟨h.os, h.tape, h.output, h.size, h.block⟩
/-- The variable z holds a, b and f; the rows vw and vl are newer than wo; all else of wo is as it was. -/
structure WInv (wo : World) (z : Nat) (a b : Value) (f : Bool) (nw : Nat) (vw : Value) (xs : List Value) (nl : Nat) (vl : Value) (ys : List Value) (w : World) : Prop where
  box : MBox w z a b f
  words : w.ownsRow wo.heap.size 27 1 vw nw xs
  lives : w.ownsRow wo.heap.size 4 1 vl nl ys
  lt : z < wo.heap.size
  keeps : Keeps (fun q => q = z) wo w

section
variable {wo w : World} {z : Nat} {a b : Value} {f : Bool} {nw : Nat} {vw : Value} {xs : List Value} {nl : Nat} {vl : Value} {ys : List Value}
theorem WInv.drew (h : WInv wo z a b f nw vw xs nl vl ys w) : WInv wo z a b f nw vw xs nl vl ys w.drew := ⟨h.box, h.words.drew, h.lives.drew, h.lt, h.keeps.drewN 1⟩
theorem WInv.alloc (h : WInv wo z a b f nw vw xs nl vl ys w) (o : Obj) : WInv wo z a b f nw vw xs nl vl ys (w.alloc o) :=
  ⟨h.box.alloc o, h.words.alloc o, h.lives.alloc o, h.lt, h.keeps.trans (Keeps.alloc _ w o)⟩
theorem WInv.base (h : WInv wo z a b f nw vw xs nl vl ys w) : wo.heap.size ≤ w.heap.size := h.keeps.size
theorem WInv.neW (h : WInv wo z a b f nw vw xs nl vl ys w) {k : Nat} (hk : k < wo.heap.size) : some k ≠ vw.ownBlock := fun e => by have := (h.words.lt k e.symm).1; omega
theorem WInv.neL (h : WInv wo z a b f nw vw xs nl vl ys w) {k : Nat} (hk : k < wo.heap.size) : some k ≠ vl.ownBlock := fun e => by have := (h.lives.lt k e.symm).1; omega
theorem WInv.newW (h : WInv wo z a b f nw vw xs nl vl ys w) {k : Nat} (hk : w.heap.size ≤ k) : some k ≠ vw.ownBlock := fun e => by have := (h.words.lt k e.symm).2; omega
theorem WInv.newL (h : WInv wo z a b f nw vw xs nl vl ys w) {k : Nat} (hk : w.heap.size ≤ k) : some k ≠ vl.ownBlock := fun e => by have := (h.lives.lt k e.symm).2; omega
theorem WInv.growW (h : WInv wo z a b f nw vw xs nl vl ys w) {w1 : World} {n1 : Nat} {v1 : Value} {xs1 : List Value} (hg : w.grownBy w1 vw.ownBlock) (ho : w1.ownsRow wo.heap.size 27 1 v1 n1 xs1) : WInv wo z a b f n1 v1 xs1 nl vl ys w1 :=
  have hk := Keeps.of_grown hg
  ⟨h.box.keeps hk (h.neW h.lt), ho, hk.row h.lives (fun g hg2 hs => owns_ne h.words h.lives (by decide) (hs : some g = vw.ownBlock).symm hg2 rfl), h.lt,
    ⟨hk.os.trans h.keeps.os, hk.tape.trans h.keeps.tape, hk.output.trans h.keeps.output, Nat.le_trans h.keeps.size hk.size, fun k hk1 hk2 => (hk.block k (Nat.lt_of_lt_of_le hk1 h.base) (h.neW hk1)).trans (h.keeps.block k hk1 hk2)⟩⟩
theorem WInv.growL (h : WInv wo z a b f nw vw xs nl vl ys w) {w1 : World} {n1 : Nat} {v1 : Value} {ys1 : List Value} (hg : w.grownBy w1 vl.ownBlock) (ho : w1.ownsRow wo.heap.size 4 1 v1 n1 ys1) : WInv wo z a b f nw vw xs n1 v1 ys1 w1 :=
  have hk := Keeps.of_grown hg
  ⟨h.box.keeps hk (h.neL h.lt), hk.row h.words (fun g hg2 hs => owns_ne h.lives h.words (by decide) (hs : some g = vl.ownBlock).symm hg2 rfl), ho, h.lt,
    ⟨hk.os.trans h.keeps.os, hk.tape.trans h.keeps.tape, hk.output.trans h.keeps.output, Nat.le_trans h.keeps.size hk.size, fun k hk1 hk2 => (hk.block k (Nat.lt_of_lt_of_le hk1 h.base) (h.neL hk1)).trans (h.keeps.block k hk1 hk2)⟩⟩
theorem WInv.store (h : WInv wo z a b f nw vw xs nl vl ys w) (a' b' : Value) : WInv wo z a' b' f nw vw xs nl vl ys ((w.setCell ⟨z, 0, none⟩ a').setCell ⟨z, 1, none⟩ b') := by
  have hk : Keeps (fun q => q = z) w ((w.setCell ⟨z, 0, none⟩ a').setCell ⟨z, 1, none⟩ b') := (Keeps.setCell w (S := fun q => q = z) (p := ⟨z, 0, none⟩) rfl _).trans (Keeps.setCell _ (S := fun q => q = z) (p := ⟨z, 1, none⟩) rfl _)
  refine ⟨?_, hk.row' h.words (fun q hq => by subst hq; exact h.lt), hk.row' h.lives (fun q hq => by subst hq; exact h.lt), h.lt, h.keeps.trans hk⟩
  have h1 := heap_setCell_same w z 0 _ _ a' h.box
  have h2 := heap_setCell_same _ z 1 _ _ b' h1
  unfold MBox
  rw [h2]
  rfl
end

theorem cell_alloc {w : World} {p : Addr} {v : Value} (h : w.cell? p = some v) (o : Obj) : (w.alloc o).cell? p = some v := by
  rw [World.cell?_alloc_lt _ _ _ (World.block_lt_of_cell? w _ h)]; exact h
theorem cell_grown {w w1 : World} {p : Addr} {v : Value} {r : Option Nat} (hg : w.grownBy w1 r) (h : w.cell? p = some v) (hne : some p.block ≠ r) : w1.cell? p = some v :=
  (hg.cell_far p (World.block_lt_of_cell? w _ h) hne).trans h
theorem heap_alloc {w : World} {k : Nat} {o : Obj} (h : w.heap[k]? = some o) (o' : Obj) : (w.alloc o').heap[k]? = some o := (Below.heap_alloc _ _ _ (Array.getElem?_eq_some_iff.1 h).1).trans h
theorem heap_grown {w w1 : World} {k : Nat} {o : Obj} {r : Option Nat} (hg : w.grownBy w1 r) (h : w.heap[k]? = some o) (hne : some k ≠ r) : w1.heap[k]? = some o := (hg.block k (Array.getElem?_eq_some_iff.1 h).1 hne).trans h
theorem take_map_snoc {α : Type} (g : α → Value) (l : List α) (i : Nat) (h : i < l.length) : (l.take i).map g ++ [g l[i]] = (l.take (i + 1)).map g := by
  rw [List.take_succ_eq_append_getElem h, List.map_append]; rfl

end Go.Proofs.Ytaljpggajpoalaa
/-
  memory.Free: an error, or the memory in memory of its own with some words free; what was in memory stays.
  Conditions: the memory reads as these lists.
-/
namespace Go.Proofs.Ytaljpggajpoalaa
open Go.RowKit Go.Shelf

/-- What such a call hands over. -/
def FreeOk (B : Nat) (ws : List Int) (ls : List Bool) (f : Bool) (e : Ending) (w' : World) : Prop :=
  ∃ v', e = .returned (.tuple #[v', .int .i64 0]) ∧ OwnsMem w' B v' ws ls f

end Go.Proofs.Ytaljpggajpoalaa
/-
  slices.Collect of the iterator over live rows: the rows, in new memory; what was in memory stays.
  Conditions: the truth values read as this list.
-/
namespace Go.Proofs.Ytaljpggajpoalaa
open Go.RowKit Go.Shelf
attribute [local go_sem] Oper.semAt_some

/-- The rows as pairs of numbers. -/
def rowsI (l : List (Nat × Nat)) : List (Int × Int) := l.map fun s => ((s.1 : Int), (s.2 : Int))
theorem flatP_snoc (l : List (Int × Int)) (s : Int × Int) : flatP (l ++ [s]) = flatP l ++ [.int .i64 s.1, .int .i64 s.2] := by
  induction l with
  | nil => rfl
  | cons x t ih => simp only [List.cons_append, flatP, ih]
theorem pair_info : (Try.prog.info? 23).map (fun i => (i.zero, i.size, i.bytes)) = some (some (.agg #[.int .i64 0, .int .i64 0]), 2, 16) := by kernel_rfl

end Go.Proofs.Ytaljpggajpoalaa
/-
  What Live, Free, and Live again come to, in numbers; and their contracts as variables hold what they answer.
  Conditions: none.
-/
namespace Go.Proofs.Ytaljpggajpoalaa
open Go.RowKit Go.Shelf

theorem fill_fill {α : Type} (l : List α) (x : Nat) (u v : α) (k : Nat) : fill (fill l x u k) x v k = fill l x v k := by
  refine List.ext_getElem (by simp [fill_length]) fun i h1 h2 => ?_
  have hl : i < l.length := by simpa [fill_length] using h2
  rw [fill_get _ _ _ _ _ (by rw [fill_length]; exact hl), fill_get _ _ _ _ _ hl, fill_get _ _ _ _ _ hl]
  split <;> rfl
theorem right_fill {ws : List Int} {ls : List Bool} (h : rightB ws ls = true) (x k : Nat) (d : Bool) (u : Int) (hm : mayB d u = true) : rightB (fill ws x u k) (fill ls x d k) = true := by
  obtain ⟨h1, h2, h3, h4⟩ := rightB_iff.1 h
  refine rightB_iff.2 ⟨by rw [fill_length]; exact h1, by rw [fill_length]; exact h2, by rw [fill_length, fill_length]; exact h3, fun i hi hi' => ?_⟩
  rw [fill_length] at hi hi'
  rw [fill_get _ _ _ _ _ hi, fill_get _ _ _ _ _ hi']
  split
  · exact hm
  · exact h4 i hi hi'
theorem cnt_fill_true (ls : List Bool) (x k : Nat) (h : x + k ≤ ls.length) : cnt x (x + k) 0 (fill ls x true k) = k := by
  have := (cnt_full_iff x (x + k) (fill ls x true k) 0 (Nat.zero_le _) (by rw [fill_length]; omega) (by omega)).2 (fun i hi h1 h2 => by
    rw [fill_length] at hi
    rw [fill_get _ _ _ _ _ hi, if_pos (by omega)])
  omega
theorem cnt_fill_false (ls : List Bool) (x k : Nat) : cnt x (x + k) 0 (fill ls x false k) = 0 :=
  (cnt_zero_iff x (x + k) _ 0).2 fun i hi h1 h2 => by
    rw [fill_length] at hi
    rw [fill_get _ _ _ _ _ hi, if_pos (by omega)]
/-- How many are live. -/
def trues : List Bool → Nat
  | [] => 0
  | b :: t => (if b = true then 1 else 0) + trues t
theorem trues_snoc (l : List Bool) (b : Bool) : trues (l ++ [b]) = trues l + (if b = true then 1 else 0) := by
  induction l with
  | nil => simp [trues]
  | cons c t ih => simp only [List.cons_append, trues, ih]; omega
theorem trues_le (l : List Bool) : trues l ≤ l.length := by
  induction l with
  | nil => simp [trues]
  | cons c t ih => simp only [trues, List.length_cons]; split <;> omega
/-- How many places rows have together. -/
def sumRows (l : List (Nat × Nat)) : Nat := (l.map (·.2)).sum
theorem sumRows_snoc (l : List (Nat × Nat)) (s : Nat × Nat) : sumRows (l ++ [s]) = sumRows l + s.2 := by simp [sumRows]
theorem sum_spansP (l : List Bool) (a n : Nat) : sumRows (spansP a n l) = n + trues l := by
  induction l generalizing a n with
  | nil =>
    by_cases h : n = 0
    · subst h; simp [spansP, oneRow_zero, sumRows, trues]
    · simp [spansP, oneRow_pos a h, sumRows, trues]
  | cons b t ih =>
    cases b with
    | true => simp only [spansP, trues]; rw [ih]; simp; omega
    | false =>
      have h1 := ih (a + n + 1) 0
      simp only [sumRows] at h1
      by_cases h : n = 0
      · subst h; simp [spansP, oneRow_zero, sumRows, trues] at h1 ⊢; omega
      · simp [spansP, oneRow_pos a h, sumRows, trues] at h1 ⊢; omega
theorem sum_spansL (l : List Bool) : sumRows (spansL l) = trues l := by simpa [spansL] using sum_spansP l 0 0
theorem sumRows_take_le (l : List (Nat × Nat)) (i : Nat) : sumRows (l.take i) ≤ sumRows l := by
  have : sumRows l = sumRows (l.take i) + sumRows (l.drop i) := by
    have h : sumRows (l.take i ++ l.drop i) = sumRows (l.take i) + sumRows (l.drop i) := by simp only [sumRows, List.map_append, List.sum_append]
    rw [List.take_append_drop] at h
    exact h
  omega
theorem spansL_pos (l : List Bool) : ∀ s ∈ spansL l, 1 ≤ s.2 ∧ s.2 ≤ l.length := fun s hs => by
  have := spansP_ge l 0 0 s hs
  omega

theorem cap_mk {x : Value} {q : Option Addr} {n c : Nat} {b : Value} (h : n ≤ c) : ∀ (x' y' : Value) (p : Option Addr) (n' c' : Nat), Value.agg #[x, .slice q n c, b] = .agg #[x', .slice p n' c', y'] → n' ≤ c' := by
  intro x' y' p n' c' e
  injection e with e
  injection e with e
  injection e with _ e
  injection e with e _
  injection e with _ e1 e2
  subst e1
  subst e2
  exact h
/-- What Live and Free answer, put into a variable. -/
theorem live_put {B : Nat} {ws us : List Int} {ls ms : List Bool} {f : Bool} {e : Ending} {w' : World} (h : LiveOk B us ms f e w') (h1 : us = ws) (h2 : ms = ls) :
    ∃ p0 c0 p1 c1, e = .returned (.tuple #[.agg #[.slice p0 ws.length c0, .slice p1 ls.length c1, .bool f], .int .i64 0]) ∧ ls.length ≤ c1 ∧
    ∃ w3, w3 = putM w' (.slice p0 ws.length c0) (.slice p1 ls.length c1) f ∧ MVar w3 w'.heap.size (.slice p0 ws.length c0) (.slice p1 ls.length c1) ws ls f ∧ Below w'.heap.size w' w3 := by
  subst h1
  subst h2
  obtain ⟨v, rfl, vw, vl, rfl, h0, h1⟩ := h
  obtain ⟨p0, c0, rfl⟩ := owns_slice h0
  obtain ⟨p1, c1, rfl⟩ := owns_slice h1
  exact ⟨_, _, _, _, rfl, (own_cap h1).1, _, rfl, putM_var f (nums_of_owns rfl h0) (bools_of_owns rfl h1), putM_below _ _ _ _⟩
theorem thereB_fill (ws : List Int) (x k : Nat) (u a m : Int) : thereB (fill ws x u k).length a m = thereB ws.length a m := by rw [fill_length]
theorem turn_cases (us : List Int) (ms : List Bool) (a k : Int) : (∃ c c' : Int, (c != 0) = true ∧ (c' == 0) = false ∧ ((rightB us ms = false ∧ c = 120) ∨ (rightB us ms = true ∧ thereB us.length a k = false ∧ c = 2) ∨ (rightB us ms = true ∧ thereB us.length a k = true ∧ cnt a.toNat (a.toNat + k.toNat) 0 ms ≠ 0 ∧ c = 5)) ∧ ((rightB us ms = false ∧ c' = 120) ∨ (rightB us ms = true ∧ thereB us.length a k = false ∧ c' = 2) ∨ (rightB us ms = true ∧ thereB us.length a k = true ∧ cnt a.toNat (a.toNat + k.toNat) 0 ms < k.toNat ∧ c' = 4))) ∨
    (rightB us ms = true ∧ thereB us.length a k = true ∧ cnt a.toNat (a.toNat + k.toNat) 0 ms ≠ 0 ∧ cnt a.toNat (a.toNat + k.toNat) 0 ms = k.toNat) ∨ (rightB us ms = true ∧ thereB us.length a k = true ∧ cnt a.toNat (a.toNat + k.toNat) 0 ms = 0) := by
  cases hr : rightB us ms with
  | false => exact .inl ⟨120, 120, by decide, by decide, .inl ⟨rfl, rfl⟩, .inl ⟨rfl, rfl⟩⟩
  | true =>
    cases ht : thereB us.length a k with
    | false => exact .inl ⟨2, 2, by decide, by decide, .inr (.inl ⟨rfl, rfl, rfl⟩), .inr (.inl ⟨rfl, rfl, rfl⟩)⟩
    | true =>
      have hle := cnt_le a.toNat (a.toNat + k.toNat) ms 0
      have ha := (thereB_iff.1 ht).2.1
      by_cases h0 : cnt a.toNat (a.toNat + k.toNat) 0 ms = 0
      · exact .inr (.inr ⟨rfl, rfl, h0⟩)
      · by_cases h1 : cnt a.toNat (a.toNat + k.toNat) 0 ms = k.toNat
        · exact .inr (.inl ⟨rfl, rfl, h0, h1⟩)
        · exact .inl ⟨5, 4, by decide, by decide, .inr (.inr ⟨rfl, rfl, h0, rfl⟩), .inr (.inr ⟨rfl, rfl, by omega, rfl⟩)⟩
theorem bools_cells {w : World} {q : Option Addr} {n d : Nat} {ns : List Bool} (h : BoolsAt w (.slice q n d) ns) (hn : 0 < ns.length) : ∃ b off, q = some ⟨b, off, none⟩ ∧ ∀ i (hi : i < ns.length), w.cell? ⟨b, off + i, none⟩ = some (.bool ns[i]) := by
  obtain ⟨p, c, e, hc⟩ := h
  injection e with e1 _ _
  subst e1
  exact hc (List.length_pos_iff.1 hn)
/-- A variable that says nothing. -/
theorem putM_nil (w : World) : MVar (putM w (.slice none 0 0) (.slice none 0 0) false) w.heap.size (.slice none 0 0) (.slice none 0 0) [] [] false :=
  putM_var false ⟨none, 0, rfl, fun h => absurd rfl h⟩ ⟨none, 0, rfl, fun h => absurd rfl h⟩

end Go.Proofs.Ytaljpggajpoalaa
/-
  The document's answers of layer 2 that only look: Right, Same, In, All, Kind.
  Conditions: the memory reads as these lists, of at most 4096 words.
-/
namespace Go.Proofs.Ytaljpggajpoalaa
open Go.RowKit Go.Shelf

set_option maxRecDepth 100000 in
set_option maxHeartbeats 2000000 in
theorem refRight_c (v : Value) (ws : List Int) (ls : List Bool) (f : Bool) (W : World) (hv : MemAt W v ws ls f) (hn : ws.length ≤ 4096) :
    Calls Try.prog 23 #[v] W fun e w' => e = .returned (.bool (rightB ws ls)) ∧ Below W.heap.size W w' := by
  obtain ⟨vw, vl, rfl, ⟨p0, c0, rfl, hw0⟩, q0, d0, rfl, hl0⟩ := hv
  have hB : Below W.heap.size W (W.alloc (.cells #[.slice p0 ws.length c0, .slice q0 ls.length d0, .bool f] 44)) := (Below.refl _ _).alloc (Nat.le_refl _) _
  have HB := Lib.hid hB
  have HW := Lib.hid hw0
  have HL := Lib.hid hl0
  clear hB hw0 hl0
  by_cases h1 : ws.length < 1
  · have HR := Lib.hid (show rightB ws ls = false by simp [rightB]; omega)
    go_enter Try.func23, Try.ntmps23
    go_wp2
    go_ret
    exact ⟨ret_bool HR.out.symm, HB.out⟩
  · by_cases h2 : ls.length = ws.length
    · have HH2 := Lib.hid h2
      have hne : ((ls.length : Int) != (ws.length : Int)) = false := by rw [h2]; simp
      clear h2
      go_enter Try.func23, Try.ntmps23
      go_wp2
      obtain ⟨b0, o0, rfl, hc0⟩ := HW.out (by intro e; rw [e] at h1; simp at h1)
      obtain ⟨b1, o1, rfl, hc1⟩ := HL.out (by intro e; have := HH2.out; rw [e] at this; simp at this; omega)
      have hcs0 : ∀ i (h : i < ws.length), (W.alloc (.cells #[.slice (some ⟨b0, o0, none⟩) ws.length c0, .slice (some ⟨b1, o1, none⟩) ls.length d0, .bool f] 44)).cell? ⟨b0, o0 + i, none⟩ = some (.int .u64 ws[i]) := fun i h => below_cell HB.out (hc0 i h)
      have hcs1 : ∀ i (h : i < ls.length), (W.alloc (.cells #[.slice (some ⟨b0, o0, none⟩) ws.length c0, .slice (some ⟨b1, o1, none⟩) ls.length d0, .bool f] 44)).cell? ⟨b1, o1 + i, none⟩ = some (.bool ls[i]) := fun i h => below_cell HB.out (hc1 i h)
      have HC0 := Lib.hid hcs0
      have HC1 := Lib.hid hcs1
      clear hc0 hc1 hcs0 hcs1 HW HL hne
      go_loop [27] (fun iv => ∃ i : Nat, i ≤ ws.length ∧ iv = .int .i64 i ∧ MayTo ls ws i) (fun iv => ws.length - (intOf iv).toNat)
      case atStart => exact ⟨0, Nat.zero_le _, rfl, rfl⟩
      case round =>
        obtain ⟨i, hi, rfl, hmt⟩ := hrel
        by_cases hlt : i < ws.length
        · have hlt' : i < ls.length := by have := HH2.out; omega
          have hlt1 : (i : Int) < (ls.length : Int) := by omega
          have hx := HC0.out i hlt
          have hz := HC1.out i hlt'
          have HS := Lib.hid (mayTo_step hmt hlt hlt')
          clear hmt
          obtain ⟨x, hxe⟩ : ∃ x, x = ws[i] := ⟨_, rfl⟩
          obtain ⟨b, hbe⟩ : ∃ b, b = ls[i] := ⟨_, rfl⟩
          rw [← hxe, ← hbe] at HS
          rw [← hxe] at hx
          rw [← hbe] at hz
          clear hxe hbe
          have HM : Hid (∀ c, mayB b x = c → (c = true → MayTo ls ws (i + 1)) ∧ (c = false → mayAll ls ws = false)) := Lib.hid (fun c h => by subst h; exact HS.out)
          clear HS
          cases b with
          | true =>
            go_wp2
            go_round
            case rel => exact ⟨i + 1, by omega, by go_num, (HM.out true rfl).1 rfl⟩
            case measure => simp [intOf]; omega
          | false =>
            by_cases hx0 : x = 0
            · subst hx0
              go_wp2
              go_round
              case rel => exact ⟨i + 1, by omega, by go_num, (HM.out true rfl).1 rfl⟩
              case measure => simp [intOf]; omega
            · by_cases hxp : x = 18369900232523579118
              · subst hxp
                go_wp2
                go_round
                case rel => exact ⟨i + 1, by omega, by go_num, (HM.out true rfl).1 rfl⟩
                case measure => simp [intOf]; omega
              · have hx0' : (x != 0) = true := by simpa using hx0
                have hxp' : (x != 18369900232523579118) = true := by simpa using hxp
                have HMF := Lib.hid ((HM.out false (by rw [mayB_free]; simp [poison, hx0, hxp])).2 rfl)
                go_wp2
                go_ret
                exact ⟨ret_bool (by rw [rightB_all (by omega) (by omega) HH2.out, HMF.out]), HB.out⟩
        · have hii : i = ws.length := by omega
          have HE := Lib.hid (mayTo_end (hii ▸ hmt) HH2.out)
          clear hmt hii
          go_wp2
          go_ret
          exact ⟨ret_bool (by rw [rightB_all (by omega) (by omega) HH2.out, HE.out]), HB.out⟩
    · have HR := Lib.hid (show rightB ws ls = false by simp [rightB]; omega)
      have hne : ((ls.length : Int) != (ws.length : Int)) = true := by simp; omega
      go_enter Try.func23, Try.ntmps23
      go_wp2
      go_ret
      exact ⟨ret_bool HR.out.symm, HB.out⟩

set_option maxRecDepth 100000 in
set_option maxHeartbeats 2000000 in
theorem refSame_t (v0 v1 : Value) (ws : List Int) (ls : List Bool) (f : Bool) (W : World) (h0 : MemAt W v0 ws ls f) (h1 : MemAt W v1 ws ls f) (hn : ws.length ≤ 4096) (hm : ls.length ≤ 4096) :
    Calls Try.prog 25 #[v0, v1] W fun e w' => e = .returned (.bool true) ∧ Below W.heap.size W w' := by
  obtain ⟨vw, vl, rfl, ⟨p0, c0, rfl, hw0⟩, q0, d0, rfl, hl0⟩ := h0
  obtain ⟨uw, ul, rfl, ⟨p1, c1, rfl, hw1⟩, q1, d1, rfl, hl1⟩ := h1
  obtain ⟨wo, hwo⟩ : ∃ wo : World, wo = (W.alloc (.cells #[.slice p0 ws.length c0, .slice q0 ls.length d0, .bool f] 44)).alloc (.cells #[.slice p1 ws.length c1, .slice q1 ls.length d1, .bool f] 44) := ⟨_, rfl⟩
  have hB : Below W.heap.size W wo := by rw [hwo]; exact ((Below.refl _ _).alloc (Nat.le_refl _) _).alloc (by simp) _
  have HB := Lib.hid hB
  have HW0 := Lib.hid (nums_below (show NumsAt W .u64 (.slice p0 ws.length c0) ws from ⟨_, _, rfl, hw0⟩) hB)
  have HW1 := Lib.hid (nums_below (show NumsAt W .u64 (.slice p1 ws.length c1) ws from ⟨_, _, rfl, hw1⟩) hB)
  have HL0 := Lib.hid (bools_below (show BoolsAt W (.slice q0 ls.length d0) ls from ⟨_, _, rfl, hl0⟩) hB)
  have HL1 := Lib.hid (bools_below (show BoolsAt W (.slice q1 ls.length d1) ls from ⟨_, _, rfl, hl1⟩) hB)
  have hz0 : MBox wo W.heap.size (.slice p0 ws.length c0) (.slice q0 ls.length d0) f := by rw [hwo]; exact (MBox.new _ _ _ _).alloc _
  have hz1 : MBox wo (W.heap.size + 1) (.slice p1 ws.length c1) (.slice q1 ls.length d1) f := by
    have := MBox.new (W.alloc (.cells #[.slice p0 ws.length c0, .slice q0 ls.length d0, .bool f] 44)) (.slice p1 ws.length c1) (.slice q1 ls.length d1) f
    rw [World.size_alloc] at this
    rw [hwo]; exact this
  obtain ⟨⟨ha0, ha1, ha2⟩, _⟩ := mbox_cells hz0
  obtain ⟨⟨hb0, hb1, hb2⟩, _⟩ := mbox_cells hz1
  have hf : (f != f) = false := by cases f <;> rfl
  have hw2 : ((ws.length : Int) != (ws.length : Int)) = false := by simp
  have hl2 : ((ls.length : Int) != (ls.length : Int)) = false := by simp
  clear hB hw0 hw1 hl0 hl1 hz0 hz1
  have HWO := Lib.hid hwo
  rw [hwo] at ha0 ha1 ha2 hb0 hb1 hb2
  clear hwo
  go_enter Try.func25, Try.ntmps25
  go_wp2
  rw [← HWO.out]
  rw [← HWO.out] at ha0 ha1 ha2 hb0 hb1 hb2
  clear hf hw2 hl2
  go_loop [35] (fun iv => ∃ i : Nat, i ≤ ws.length ∧ iv = .int .i64 i) (fun iv => ws.length - (intOf iv).toNat)
  case atStart => exact ⟨0, Nat.zero_le _, rfl⟩
  case round =>
    obtain ⟨i, hi, rfl⟩ := hrel
    by_cases hlt : i < ws.length
    · obtain ⟨x0, y0, rfl, hc0⟩ := nums_cells HW0.out (by omega)
      obtain ⟨x1, y1, rfl, hc1⟩ := nums_cells HW1.out (by omega)
      have hx := hc0 i hlt
      have hz := hc1 i hlt
      obtain ⟨x, hxe⟩ : ∃ x, x = ws[i] := ⟨_, rfl⟩
      rw [← hxe] at hx hz
      have hxx : (x != x) = false := by simp
      clear hc0 hc1 hxe
      go_wp2
      go_round
      case rel => exact ⟨i + 1, by omega, by go_num⟩
      case measure => simp [intOf]; omega
    · go_wp2
      go_loop [51] (fun iv => ∃ j : Nat, j ≤ ls.length ∧ iv = .int .i64 j) (fun iv => ls.length - (intOf iv).toNat)
      case atStart => exact ⟨0, Nat.zero_le _, rfl⟩
      case round =>
        obtain ⟨j, hj, rfl⟩ := hrel
        by_cases hlt : j < ls.length
        · obtain ⟨x0, y0, rfl, hc0⟩ := bools_cells HL0.out (by omega)
          obtain ⟨x1, y1, rfl, hc1⟩ := bools_cells HL1.out (by omega)
          have hx := hc0 j hlt
          have hz := hc1 j hlt
          obtain ⟨x, hxe⟩ : ∃ x, x = ls[j] := ⟨_, rfl⟩
          rw [← hxe] at hx hz
          have hxx : (x != x) = false := by simp
          clear hc0 hc1 hxe
          go_wp2
          go_round
          case rel => exact ⟨j + 1, by omega, by go_num⟩
          case measure => simp [intOf]; omega
        · go_wp2
          go_ret
          exact ⟨rfl, HB.out⟩

theorem all_next {p : Nat → Prop} {i : Nat} (h : ∀ m, m < i → p m) (hi : p i) : ∀ m, m < i + 1 → p m := fun m hm => by
  rcases Nat.lt_or_ge m i with h' | h'
  · exact h m h'
  · obtain rfl : m = i := by omega
    exact hi
/-- Are so many words, from one on, all live, or all free? -/
def allB (ls : List Bool) (x k : Nat) (d : Bool) : Bool := (List.range k).all fun i => ls.getD (x + i) false == d
theorem allB_true {ls : List Bool} {x k : Nat} {d : Bool} : allB ls x k d = true ↔ ∀ i, i < k → ls.getD (x + i) false = d := by simp [allB]

end Go.Proofs.Ytaljpggajpoalaa
namespace Go.Proofs.Ytaljpggajpoalaa
open Go.RowKit Go.Shelf

theorem appW_info : (Try.prog.info? 27).map (fun i => (i.zero, i.size, i.bytes)) = some (some (.int .u64 0), 1, 8) := by kernel_rfl
theorem appB_info : (Try.prog.info? 4).map (fun i => (i.zero, i.size, i.bytes)) = some (some (.bool false), 1, 1) := by kernel_rfl

set_option maxRecDepth 100000 in
set_option maxHeartbeats 4000000 in
theorem with_c (v : Value) (ws : List Int) (ls : List Bool) (f : Bool) (x : Nat) (u : Int) (d : Bool) (W : World) (hv : MemAt W v ws ls f) (hlen : ls.length = ws.length) (hn : ws.length ≤ 4096) :
    Calls Try.prog 84 #[v, .int .i64 (x : Int), .int .u64 u, .bool d] W fun e w' => GivesMem W.heap.size (ws.set x u) (ls.set x d) f e w' ∧ Below W.heap.size W w' := by
  have hm := hv
  obtain ⟨vw0, vl0, rfl, ⟨p0, c0, rfl, hw0⟩, q0, d0, rfl, hl0⟩ := hv
  obtain ⟨iw, hiw, hzw0, hzw1, hzw2⟩ := info_parts appW_info
  obtain ⟨il, hil, hzl0, hzl1, hzl2⟩ := info_parts appB_info
  obtain ⟨z, hz⟩ : ∃ z, z = W.heap.size + 1 + 1 := ⟨_, rfl⟩
  obtain ⟨wo, hwo⟩ : ∃ wo : World, wo = ((W.alloc (.cells #[.slice p0 ws.length c0, .slice q0 ls.length d0, .bool f] 44)).alloc (.cells #[.slice none 0 0, .slice none 0 0, .bool false] 44)).alloc (.cells #[.slice none 0 0, .slice none 0 0, .bool f] 44) := ⟨_, rfl⟩
  have hB : Below W.heap.size W wo := by rw [hwo]; exact (((Below.refl _ _).alloc (Nat.le_refl _) _).alloc (by simp) _).alloc (by simp; omega) _
  have HB := Lib.hid hB
  have HMB := Lib.hid (show MBox wo W.heap.size (.slice p0 ws.length c0) (.slice q0 ls.length d0) f by rw [hwo]; exact ((MBox.new _ _ _ _).alloc _).alloc _)
  have HRB := Lib.hid (show MBox wo (W.heap.size + 1) (.slice none 0 0) (.slice none 0 0) false by
    have := MBox.new (W.alloc (.cells #[.slice p0 ws.length c0, .slice q0 ls.length d0, .bool f] 44)) (.slice none 0 0) (.slice none 0 0) false
    rw [World.size_alloc] at this
    rw [hwo]; exact this.alloc _)
  have hZB : MBox wo z (.slice none 0 0) (.slice none 0 0) f := by
    have := MBox.new ((W.alloc (.cells #[.slice p0 ws.length c0, .slice q0 ls.length d0, .bool f] 44)).alloc (.cells #[.slice none 0 0, .slice none 0 0, .bool false] 44)) (.slice none 0 0) (.slice none 0 0) f
    rw [World.size_alloc, World.size_alloc] at this
    rw [hwo, hz]; exact this
  have HINV := Lib.hid (show WInv wo z (.slice none 0 0) (.slice none 0 0) f 0 (.slice none 0 0) [] 0 (.slice none 0 0) [] wo from ⟨hZB, World.ownsRow_nil _ _ _ _, World.ownsRow_nil _ _ _ _, hZB.lt, Keeps.refl _ _⟩)
  have HHZ := Lib.hid (show W.heap.size + 2 = z by rw [hz])
  have HLEN := Lib.hid hlen
  have HWC := Lib.hid (show NumsAt W .u64 (.slice p0 ws.length c0) ws from ⟨_, _, rfl, hw0⟩)
  have HLC := Lib.hid (show BoolsAt W (.slice q0 ls.length d0) ls from ⟨_, _, rfl, hl0⟩)
  have HBND := Lib.hid (show ∀ i, (h : i < ws.length) → (ws.set x u)[i]'(by simpa using h) = if x = i then u else ws[i] from fun i h => by rw [List.getElem_set])
  have HBNL := Lib.hid (show ∀ i, (h : i < ls.length) → (ls.set x d)[i]'(by simpa using h) = if x = i then d else ls[i] from fun i h => by rw [List.getElem_set])
  clear hm hlen hB hZB hw0 hl0
  go_enter Try.func84, Try.ntmps84
  go_wp2
  rw [← hwo]
  clear hwo
  rw [← hz]
  clear hz
  go_loopw [17] (fun iv wr => ∃ i : Nat, ∃ vw vl : Value, i ≤ ws.length ∧ iv = .int .i64 i ∧ WInv wo z vw vl f i vw (((ws.set x u).take i).map (Value.int .u64)) i vl (((ls.set x d).take i).map Value.bool) wr) (fun iv _ => ws.length - (intOf iv).toNat)
  case atStart => exact ⟨0, _, _, Nat.zero_le _, rfl, HINV.out⟩
  case round =>
    obtain ⟨i, vw, vl, hi, rfl, hinv⟩ := hrel
    have HR := Lib.hid hinv
    clear hinv HINV
    by_cases hlt : i < ws.length
    · have HSW := Lib.hid (take_map_snoc (Value.int .u64) (ws.set x u) i (by simpa using hlt))
      have HSL := Lib.hid (take_map_snoc Value.bool (ls.set x d) i (by have := HLEN.out; simp; omega))
      have HVW := Lib.hid (HBND.out i hlt)
      have HVL := Lib.hid (HBNL.out i (by have := HLEN.out; omega))
      by_cases hix : i = x
      · have HVW' := Lib.hid (HVW.out.trans (if_pos hix.symm))
        have HVL' := Lib.hid (HVL.out.trans (if_pos hix.symm))
        have hd : ((i : Int) == (x : Int)) = true := by simp [hix]
        clear hix HVW HVL
        go_wp2
        refine wpTwo_begin (T := fun w' => Keeps (fun q => q = z) wo w') (S := fun w' => w'.cell? ⟨z, 0, none⟩ = some vw ∧ w'.cell? ⟨z, 1, none⟩ = some vl) (late := fun j => [10, 11, 12, 13].contains j) (by kernel_rfl) ?_
        obtain ⟨X0, hX0⟩ : ∃ X : World, X = wr.drew := ⟨_, rfl⟩
        rw [← hX0]
        have HI := Lib.hid (show WInv wo z vw vl f i vw _ i vl _ X0 by rw [hX0]; exact HR.out.drew)
        clear hX0 HR
        refine wpTwo_takeT (i := 0) (v := (.pointer (some ⟨z, 0, none⟩))) rfl (by kernel_rfl) (by kernel_rfl) (by kernel_rfl) (fun _ _ _ h => h) ⟨by rfl, ?_⟩ HI.out.keeps ?_
        · intro w _
          go_simp
        (try simp only [Act.put, List.getElem_toArray, List.getElem_cons_zero, List.setIfInBounds_toArray, List.set_cons_succ, List.set_cons_zero])
        refine wpTwo_takeS (i := 1) (v := vw) (waits_all (by kernel_rfl)) rfl (by kernel_rfl) (by kernel_rfl) (by kernel_rfl) (fun _ _ _ h => h) ⟨by rfl, ?_⟩ ⟨HI.out.keeps, (mbox_cells HI.out.box).1.1, (mbox_cells HI.out.box).1.2.1⟩ ?_
        · rintro w ⟨-, hS0, hS1⟩
          go_simp
        (try simp only [Act.put, List.getElem_toArray, List.getElem_cons_succ, List.getElem_cons_zero, List.setIfInBounds_toArray, List.set_cons_succ, List.set_cons_zero])
        refine wpTwo_takeT (i := 2) (v := (.int .u64 u)) rfl (by kernel_rfl) (by kernel_rfl) (by kernel_rfl) (fun _ _ _ h => h) ⟨by rfl, ?_⟩ HI.out.keeps ?_
        · intro w _
          go_simp
        (try simp only [Act.put, List.getElem_toArray, List.getElem_cons_succ, List.getElem_cons_zero, List.setIfInBounds_toArray, List.set_cons_succ, List.set_cons_zero])
        refine wpTwo_takeT (i := 5) (v := (.pointer (some ⟨z, 1, none⟩))) rfl (by kernel_rfl) (by kernel_rfl) (by kernel_rfl) (fun _ _ _ h => h) ⟨by rfl, ?_⟩ HI.out.keeps ?_
        · intro w _
          go_simp
        (try simp only [Act.put, List.getElem_toArray, List.getElem_cons_succ, List.getElem_cons_zero, List.setIfInBounds_toArray, List.set_cons_succ, List.set_cons_zero])
        refine wpTwo_takeS (i := 6) (v := vl) (waits_all (by kernel_rfl)) rfl (by kernel_rfl) (by kernel_rfl) (by kernel_rfl) (fun _ _ _ h => h) ⟨by rfl, ?_⟩ ⟨HI.out.keeps, (mbox_cells HI.out.box).1.1, (mbox_cells HI.out.box).1.2.1⟩ ?_
        · rintro w ⟨-, hS0, hS1⟩
          go_simp
        (try simp only [Act.put, List.getElem_toArray, List.getElem_cons_succ, List.getElem_cons_zero, List.setIfInBounds_toArray, List.set_cons_succ, List.set_cons_zero])
        refine wpTwo_takeT (i := 7) (v := (.bool d)) rfl (by kernel_rfl) (by kernel_rfl) (by kernel_rfl) (fun _ _ _ h => h) ⟨by rfl, ?_⟩ HI.out.keeps ?_
        · intro w _
          go_simp
        (try simp only [Act.put, List.getElem_toArray, List.getElem_cons_succ, List.getElem_cons_zero, List.setIfInBounds_toArray, List.set_cons_succ, List.set_cons_zero])
        refine wpTwo_ready (rs := [3, 8]) (by kernel_rfl) (by simp) ?_
        refine (AllTwo.cons rfl (fun K hK => ?_) (AllTwo.cons rfl (fun K hK => ?_) AllTwo.nil))
        · go_simp
          obtain ⟨X1, hX1⟩ : ∃ X : World, X = X0.alloc (.cells #[.int .u64 u] 27) := ⟨_, rfl⟩
          rw [← hX1]
          have HI' := Lib.hid (show WInv wo z vw vl f i vw _ i vl _ X1 by rw [hX1]; exact HI.out.alloc _)
          refine hK.out _ _ ⟨HI'.out.keeps, fun _ _ => ⟨(mbox_cells HI'.out.box).1.1, (mbox_cells HI'.out.box).1.2.1⟩⟩ ?_
          clear hK K
          (try simp only [Act.put, List.getElem_toArray, List.getElem_cons_succ, List.getElem_cons_zero, List.setIfInBounds_toArray, List.set_cons_succ, List.set_cons_zero])
          have HNW := Lib.hid (show X1.heap[X0.heap.size]? = some (.cells #[.int .u64 u] 27 (0, 0)) by rw [hX1]; exact World.alloc_heap_new _ _)
          have HNWN := Lib.hid (show some X0.heap.size ≠ Value.ownBlock vl from HI.out.newL (Nat.le_refl _))
          clear hX1 HI
          have HI := HI'
          clear HI'
          refine wpTwo_ready (rs := [4, 8]) (by kernel_rfl) (by simp) ?_
          refine (AllTwo.cons rfl (fun K hK => ?_) (AllTwo.cons rfl (fun K hK => ?_) AllTwo.nil))
          · refine step_append_lies _ (by rfl) _ _ _ (by rfl) wo.heap.size 27 iw (.int .u64 0) 1 8 Try.underlying24 hiw hzw0 hzw1 hzw2 rfl (by decide) vw i _ (by rfl) HI.out.words ⟨X0.heap.size, 0, none⟩ 1 1 [.int .u64 u] (by rfl) (by rfl) (World.news_of_block HNW.out) (by simp [Value.oneCell']) (by decide) (by unfold maxLen; omega) (by omega) HI.out.base _ rfl ?_
            intro gw capw X2 hown hgrow hat hlt
            have HI' := Lib.hid (HI.out.growW hgrow hown)
            refine hK.out _ _ ⟨HI'.out.keeps, fun _ _ => ⟨(mbox_cells HI'.out.box).1.1, (mbox_cells HI'.out.box).1.2.1⟩⟩ ?_
            clear hK K
            (try simp only [Act.put, List.getElem_toArray, List.getElem_cons_succ, List.getElem_cons_zero, List.setIfInBounds_toArray, List.set_cons_succ, List.set_cons_zero])
            clear hown hgrow hat hlt HI
            have HI := HI'
            clear HI'
            refine wpTwo_takeT (i := 10) (v := (.pointer (some ⟨z, 0, none⟩))) rfl (by kernel_rfl) (by kernel_rfl) (by kernel_rfl) (fun _ _ _ h => h) ⟨by rfl, ?_⟩ HI.out.keeps ?_
            · intro w _
              go_simp
            (try simp only [Act.put, List.getElem_toArray, List.getElem_cons_succ, List.getElem_cons_zero, List.setIfInBounds_toArray, List.set_cons_succ, List.set_cons_zero])
            refine wpTwo_ready (rs := [8]) (by kernel_rfl) (by simp) ?_
            refine (AllTwo.cons rfl (fun K hK => ?_) AllTwo.nil)
            go_simp
            obtain ⟨X3, hX3⟩ : ∃ X : World, X = X2.alloc (.cells #[.bool d] 4) := ⟨_, rfl⟩
            rw [← hX3]
            have HI' := Lib.hid (show WInv wo z vw vl f (i + 1) (.slice (some ⟨gw, 0, none⟩) (i + 1) capw) _ i vl _ X3 by rw [hX3]; exact HI.out.alloc _)
            refine hK.out _ _ ⟨HI'.out.keeps, fun _ _ => ⟨(mbox_cells HI'.out.box).1.1, (mbox_cells HI'.out.box).1.2.1⟩⟩ ?_
            clear hK K
            (try simp only [Act.put, List.getElem_toArray, List.getElem_cons_succ, List.getElem_cons_zero, List.setIfInBounds_toArray, List.set_cons_succ, List.set_cons_zero])
            have HNL := Lib.hid (show X3.heap[X2.heap.size]? = some (.cells #[.bool d] 4 (0, 0)) by rw [hX3]; exact World.alloc_heap_new _ _)
            have HNLN := Lib.hid (show some X2.heap.size ≠ Value.ownBlock (.slice (some ⟨gw, 0, none⟩) (i + 1) capw) from HI.out.newW (Nat.le_refl _))
            clear hX3 HI
            have HI := HI'
            clear HI'
            refine wpTwo_ready (rs := [9]) (by kernel_rfl) (by simp) ?_
            refine (AllTwo.cons rfl (fun K hK => ?_) AllTwo.nil)
            refine step_append_lies _ (by rfl) _ _ _ (by rfl) wo.heap.size 4 il (.bool false) 1 1 Try.underlying42 hil hzl0 hzl1 hzl2 rfl (by decide) vl i _ (by rfl) HI.out.lives ⟨X2.heap.size, 0, none⟩ 1 1 [.bool d] (by rfl) (by rfl) (World.news_of_block HNL.out) (by simp [Value.oneCell']) (by decide) (by unfold maxLen; omega) (by omega) HI.out.base _ rfl ?_
            intro gl capl X4 hown hgrow hat hlt
            have HI' := Lib.hid (HI.out.growL hgrow hown)
            refine hK.out _ _ ⟨HI'.out.keeps, fun _ _ => ⟨(mbox_cells HI'.out.box).1.1, (mbox_cells HI'.out.box).1.2.1⟩⟩ ?_
            clear hK K
            (try simp only [Act.put, List.getElem_toArray, List.getElem_cons_succ, List.getElem_cons_zero, List.setIfInBounds_toArray, List.set_cons_succ, List.set_cons_zero])
            clear hown hgrow hat hlt HI
            have HI := HI'
            clear HI'
            refine wpTwo_ready (rs := [11]) (by kernel_rfl) (by simp) ?_
            refine (AllTwo.cons rfl (fun K hK => ?_) AllTwo.nil)
            obtain ⟨⟨hz0, hz1, _⟩, hf0, hf1, _⟩ := mbox_cells HI.out.box
            go_simp
            refine hK.out _ _ ⟨HI.out.keeps.trans (Keeps.setCell _ (S := fun q => q = z) (p := ⟨z, 0, none⟩) rfl _), fun h _ => absurd h (by decide)⟩ ?_
            clear hK K
            (try simp only [Act.put, List.getElem_toArray, List.getElem_cons_succ, List.getElem_cons_zero, List.setIfInBounds_toArray, List.set_cons_succ, List.set_cons_zero])
            refine wpTwo_ready (rs := [12]) (by kernel_rfl) (by simp) ?_
            refine (AllTwo.cons rfl (fun K hK => ?_) AllTwo.nil)
            go_simp
            refine hK.out _ _ ⟨HI.out.keeps.trans (Keeps.setCell _ (S := fun q => q = z) (p := ⟨z, 0, none⟩) rfl _), fun h _ => absurd h (by decide)⟩ ?_
            clear hK K
            (try simp only [Act.put, List.getElem_toArray, List.getElem_cons_succ, List.getElem_cons_zero, List.setIfInBounds_toArray, List.set_cons_succ, List.set_cons_zero])
            refine wpTwo_ready (rs := [13]) (by kernel_rfl) (by simp) ?_
            refine (AllTwo.cons rfl (fun K hK => ?_) AllTwo.nil)
            go_simp
            refine hK.out _ _ ⟨(HI.out.keeps.trans (Keeps.setCell _ (S := fun q => q = z) (p := ⟨z, 0, none⟩) rfl _)).trans (Keeps.setCell _ (S := fun q => q = z) (p := ⟨z, 1, none⟩) rfl _), fun h _ => absurd h (by decide)⟩ ?_
            clear hK K
            (try simp only [Act.put, List.getElem_toArray, List.getElem_cons_succ, List.getElem_cons_zero, List.setIfInBounds_toArray, List.set_cons_succ, List.set_cons_zero])
            refine wpTwo_end (by kernel_rfl) ?_ _
            have HE := Lib.hid (HI.out.store (.slice (some ⟨gw, 0, none⟩) (i + 1) capw) (.slice (some ⟨gl, 0, none⟩) (i + 1) capl))
            clear hz0 hz1 hf0 hf1 HI
            go_wp2
            go_roundw
            case rel => exact ⟨i + 1, _, _, by omega, by go_num, by rw [← HSW.out, ← HSL.out, HVW'.out, HVL'.out]; exact HE.out⟩
            case measure => simp [intOf]; omega
          · go_simp
            obtain ⟨X2, hX2⟩ : ∃ X : World, X = X1.alloc (.cells #[.bool d] 4) := ⟨_, rfl⟩
            rw [← hX2]
            have HI' := Lib.hid (show WInv wo z vw vl f i vw _ i vl _ X2 by rw [hX2]; exact HI.out.alloc _)
            refine hK.out _ _ ⟨HI'.out.keeps, fun _ _ => ⟨(mbox_cells HI'.out.box).1.1, (mbox_cells HI'.out.box).1.2.1⟩⟩ ?_
            clear hK K
            (try simp only [Act.put, List.getElem_toArray, List.getElem_cons_succ, List.getElem_cons_zero, List.setIfInBounds_toArray, List.set_cons_succ, List.set_cons_zero])
            have HNL := Lib.hid (show X2.heap[X1.heap.size]? = some (.cells #[.bool d] 4 (0, 0)) by rw [hX2]; exact World.alloc_heap_new _ _)
            have HNLN := Lib.hid (show some X1.heap.size ≠ Value.ownBlock vw from HI.out.newW (Nat.le_refl _))
            have HNW' := Lib.hid (show X2.heap[X0.heap.size]? = some _ by rw [hX2]; exact heap_alloc HNW.out _)
            clear HNW
            have HNW := HNW'
            clear HNW'
            clear hX2 HI
            have HI := HI'
            clear HI'
            refine wpTwo_ready (rs := [4]) (by kernel_rfl) (by simp) ?_
            refine (AllTwo.cons rfl (fun K hK => ?_) AllTwo.nil)
            refine step_append_lies _ (by rfl) _ _ _ (by rfl) wo.heap.size 27 iw (.int .u64 0) 1 8 Try.underlying24 hiw hzw0 hzw1 hzw2 rfl (by decide) vw i _ (by rfl) HI.out.words ⟨X0.heap.size, 0, none⟩ 1 1 [.int .u64 u] (by rfl) (by rfl) (World.news_of_block HNW.out) (by simp [Value.oneCell']) (by decide) (by unfold maxLen; omega) (by omega) HI.out.base _ rfl ?_
            intro gw capw X3 hown hgrow hat hlt
            have HI' := Lib.hid (HI.out.growW hgrow hown)
            refine hK.out _ _ ⟨HI'.out.keeps, fun _ _ => ⟨(mbox_cells HI'.out.box).1.1, (mbox_cells HI'.out.box).1.2.1⟩⟩ ?_
            clear hK K
            (try simp only [Act.put, List.getElem_toArray, List.getElem_cons_succ, List.getElem_cons_zero, List.setIfInBounds_toArray, List.set_cons_succ, List.set_cons_zero])
            have HNL' := Lib.hid (heap_grown hgrow HNL.out HNLN.out)
            clear HNL
            have HNL := HNL'
            clear HNL'
            clear hown hgrow hat hlt HI
            have HI := HI'
            clear HI'
            refine wpTwo_takeT (i := 10) (v := (.pointer (some ⟨z, 0, none⟩))) rfl (by kernel_rfl) (by kernel_rfl) (by kernel_rfl) (fun _ _ _ h => h) ⟨by rfl, ?_⟩ HI.out.keeps ?_
            · intro w _
              go_simp
            (try simp only [Act.put, List.getElem_toArray, List.getElem_cons_succ, List.getElem_cons_zero, List.setIfInBounds_toArray, List.set_cons_succ, List.set_cons_zero])
            refine wpTwo_ready (rs := [9]) (by kernel_rfl) (by simp) ?_
            refine (AllTwo.cons rfl (fun K hK => ?_) AllTwo.nil)
            refine step_append_lies _ (by rfl) _ _ _ (by rfl) wo.heap.size 4 il (.bool false) 1 1 Try.underlying42 hil hzl0 hzl1 hzl2 rfl (by decide) vl i _ (by rfl) HI.out.lives ⟨X1.heap.size, 0, none⟩ 1 1 [.bool d] (by rfl) (by rfl) (World.news_of_block HNL.out) (by simp [Value.oneCell']) (by decide) (by unfold maxLen; omega) (by omega) HI.out.base _ rfl ?_
            intro gl capl X4 hown hgrow hat hlt
            have HI' := Lib.hid (HI.out.growL hgrow hown)
            refine hK.out _ _ ⟨HI'.out.keeps, fun _ _ => ⟨(mbox_cells HI'.out.box).1.1, (mbox_cells HI'.out.box).1.2.1⟩⟩ ?_
            clear hK K
            (try simp only [Act.put, List.getElem_toArray, List.getElem_cons_succ, List.getElem_cons_zero, List.setIfInBounds_toArray, List.set_cons_succ, List.set_cons_zero])
            clear hown hgrow hat hlt HI
            have HI := HI'
            clear HI'
            refine wpTwo_ready (rs := [11]) (by kernel_rfl) (by simp) ?_
            refine (AllTwo.cons rfl (fun K hK => ?_) AllTwo.nil)
            obtain ⟨⟨hz0, hz1, _⟩, hf0, hf1, _⟩ := mbox_cells HI.out.box
            go_simp
            refine hK.out _ _ ⟨HI.out.keeps.trans (Keeps.setCell _ (S := fun q => q = z) (p := ⟨z, 0, none⟩) rfl _), fun h _ => absurd h (by decide)⟩ ?_
            clear hK K
            (try simp only [Act.put, List.getElem_toArray, List.getElem_cons_succ, List.getElem_cons_zero, List.setIfInBounds_toArray, List.set_cons_succ, List.set_cons_zero])
            refine wpTwo_ready (rs := [12]) (by kernel_rfl) (by simp) ?_
            refine (AllTwo.cons rfl (fun K hK => ?_) AllTwo.nil)
            go_simp
            refine hK.out _ _ ⟨HI.out.keeps.trans (Keeps.setCell _ (S := fun q => q = z) (p := ⟨z, 0, none⟩) rfl _), fun h _ => absurd h (by decide)⟩ ?_
            clear hK K
            (try simp only [Act.put, List.getElem_toArray, List.getElem_cons_succ, List.getElem_cons_zero, List.setIfInBounds_toArray, List.set_cons_succ, List.set_cons_zero])
            refine wpTwo_ready (rs := [13]) (by kernel_rfl) (by simp) ?_
            refine (AllTwo.cons rfl (fun K hK => ?_) AllTwo.nil)
            go_simp
            refine hK.out _ _ ⟨(HI.out.keeps.trans (Keeps.setCell _ (S := fun q => q = z) (p := ⟨z, 0, none⟩) rfl _)).trans (Keeps.setCell _ (S := fun q => q = z) (p := ⟨z, 1, none⟩) rfl _), fun h _ => absurd h (by decide)⟩ ?_
            clear hK K
            (try simp only [Act.put, List.getElem_toArray, List.getElem_cons_succ, List.getElem_cons_zero, List.setIfInBounds_toArray, List.set_cons_succ, List.set_cons_zero])
            refine wpTwo_end (by kernel_rfl) ?_ _
            have HE := Lib.hid (HI.out.store (.slice (some ⟨gw, 0, none⟩) (i + 1) capw) (.slice (some ⟨gl, 0, none⟩) (i + 1) capl))
            clear hz0 hz1 hf0 hf1 HI
            go_wp2
            go_roundw
            case rel => exact ⟨i + 1, _, _, by omega, by go_num, by rw [← HSW.out, ← HSL.out, HVW'.out, HVL'.out]; exact HE.out⟩
            case measure => simp [intOf]; omega
        · go_simp
          obtain ⟨X1, hX1⟩ : ∃ X : World, X = X0.alloc (.cells #[.bool d] 4) := ⟨_, rfl⟩
          rw [← hX1]
          have HI' := Lib.hid (show WInv wo z vw vl f i vw _ i vl _ X1 by rw [hX1]; exact HI.out.alloc _)
          refine hK.out _ _ ⟨HI'.out.keeps, fun _ _ => ⟨(mbox_cells HI'.out.box).1.1, (mbox_cells HI'.out.box).1.2.1⟩⟩ ?_
          clear hK K
          (try simp only [Act.put, List.getElem_toArray, List.getElem_cons_succ, List.getElem_cons_zero, List.setIfInBounds_toArray, List.set_cons_succ, List.set_cons_zero])
          have HNL := Lib.hid (show X1.heap[X0.heap.size]? = some (.cells #[.bool d] 4 (0, 0)) by rw [hX1]; exact World.alloc_heap_new _ _)
          have HNLN := Lib.hid (show some X0.heap.size ≠ Value.ownBlock vw from HI.out.newW (Nat.le_refl _))
          clear hX1 HI
          have HI := HI'
          clear HI'
          refine wpTwo_ready (rs := [3]) (by kernel_rfl) (by simp) ?_
          refine (AllTwo.cons rfl (fun K hK => ?_) AllTwo.nil)
          go_simp
          obtain ⟨X2, hX2⟩ : ∃ X : World, X = X1.alloc (.cells #[.int .u64 u] 27) := ⟨_, rfl⟩
          rw [← hX2]
          have HI' := Lib.hid (show WInv wo z vw vl f i vw _ i vl _ X2 by rw [hX2]; exact HI.out.alloc _)
          refine hK.out _ _ ⟨HI'.out.keeps, fun _ _ => ⟨(mbox_cells HI'.out.box).1.1, (mbox_cells HI'.out.box).1.2.1⟩⟩ ?_
          clear hK K
          (try simp only [Act.put, List.getElem_toArray, List.getElem_cons_succ, List.getElem_cons_zero, List.setIfInBounds_toArray, List.set_cons_succ, List.set_cons_zero])
          have HNW := Lib.hid (show X2.heap[X1.heap.size]? = some (.cells #[.int .u64 u] 27 (0, 0)) by rw [hX2]; exact World.alloc_heap_new _ _)
          have HNWN := Lib.hid (show some X1.heap.size ≠ Value.ownBlock vl from HI.out.newL (Nat.le_refl _))
          have HNL' := Lib.hid (show X2.heap[X0.heap.size]? = some _ by rw [hX2]; exact heap_alloc HNL.out _)
          clear HNL
          have HNL := HNL'
          clear HNL'
          clear hX2 HI
          have HI := HI'
          clear HI'
          refine wpTwo_ready (rs := [4]) (by kernel_rfl) (by simp) ?_
          refine (AllTwo.cons rfl (fun K hK => ?_) AllTwo.nil)
          refine step_append_lies _ (by rfl) _ _ _ (by rfl) wo.heap.size 27 iw (.int .u64 0) 1 8 Try.underlying24 hiw hzw0 hzw1 hzw2 rfl (by decide) vw i _ (by rfl) HI.out.words ⟨X1.heap.size, 0, none⟩ 1 1 [.int .u64 u] (by rfl) (by rfl) (World.news_of_block HNW.out) (by simp [Value.oneCell']) (by decide) (by unfold maxLen; omega) (by omega) HI.out.base _ rfl ?_
          intro gw capw X3 hown hgrow hat hlt
          have HI' := Lib.hid (HI.out.growW hgrow hown)
          refine hK.out _ _ ⟨HI'.out.keeps, fun _ _ => ⟨(mbox_cells HI'.out.box).1.1, (mbox_cells HI'.out.box).1.2.1⟩⟩ ?_
          clear hK K
          (try simp only [Act.put, List.getElem_toArray, List.getElem_cons_succ, List.getElem_cons_zero, List.setIfInBounds_toArray, List.set_cons_succ, List.set_cons_zero])
          have HNL' := Lib.hid (heap_grown hgrow HNL.out HNLN.out)
          clear HNL
          have HNL := HNL'
          clear HNL'
          clear hown hgrow hat hlt HI
          have HI := HI'
          clear HI'
          refine wpTwo_takeT (i := 10) (v := (.pointer (some ⟨z, 0, none⟩))) rfl (by kernel_rfl) (by kernel_rfl) (by kernel_rfl) (fun _ _ _ h => h) ⟨by rfl, ?_⟩ HI.out.keeps ?_
          · intro w _
            go_simp
          (try simp only [Act.put, List.getElem_toArray, List.getElem_cons_succ, List.getElem_cons_zero, List.setIfInBounds_toArray, List.set_cons_succ, List.set_cons_zero])
          refine wpTwo_ready (rs := [9]) (by kernel_rfl) (by simp) ?_
          refine (AllTwo.cons rfl (fun K hK => ?_) AllTwo.nil)
          refine step_append_lies _ (by rfl) _ _ _ (by rfl) wo.heap.size 4 il (.bool false) 1 1 Try.underlying42 hil hzl0 hzl1 hzl2 rfl (by decide) vl i _ (by rfl) HI.out.lives ⟨X0.heap.size, 0, none⟩ 1 1 [.bool d] (by rfl) (by rfl) (World.news_of_block HNL.out) (by simp [Value.oneCell']) (by decide) (by unfold maxLen; omega) (by omega) HI.out.base _ rfl ?_
          intro gl capl X4 hown hgrow hat hlt
          have HI' := Lib.hid (HI.out.growL hgrow hown)
          refine hK.out _ _ ⟨HI'.out.keeps, fun _ _ => ⟨(mbox_cells HI'.out.box).1.1, (mbox_cells HI'.out.box).1.2.1⟩⟩ ?_
          clear hK K
          (try simp only [Act.put, List.getElem_toArray, List.getElem_cons_succ, List.getElem_cons_zero, List.setIfInBounds_toArray, List.set_cons_succ, List.set_cons_zero])
          clear hown hgrow hat hlt HI
          have HI := HI'
          clear HI'
          refine wpTwo_ready (rs := [11]) (by kernel_rfl) (by simp) ?_
          refine (AllTwo.cons rfl (fun K hK => ?_) AllTwo.nil)
          obtain ⟨⟨hz0, hz1, _⟩, hf0, hf1, _⟩ := mbox_cells HI.out.box
          go_simp
          refine hK.out _ _ ⟨HI.out.keeps.trans (Keeps.setCell _ (S := fun q => q = z) (p := ⟨z, 0, none⟩) rfl _), fun h _ => absurd h (by decide)⟩ ?_
          clear hK K
          (try simp only [Act.put, List.getElem_toArray, List.getElem_cons_succ, List.getElem_cons_zero, List.setIfInBounds_toArray, List.set_cons_succ, List.set_cons_zero])
          refine wpTwo_ready (rs := [12]) (by kernel_rfl) (by simp) ?_
          refine (AllTwo.cons rfl (fun K hK => ?_) AllTwo.nil)
          go_simp
          refine hK.out _ _ ⟨HI.out.keeps.trans (Keeps.setCell _ (S := fun q => q = z) (p := ⟨z, 0, none⟩) rfl _), fun h _ => absurd h (by decide)⟩ ?_
          clear hK K
          (try simp only [Act.put, List.getElem_toArray, List.getElem_cons_succ, List.getElem_cons_zero, List.setIfInBounds_toArray, List.set_cons_succ, List.set_cons_zero])
          refine wpTwo_ready (rs := [13]) (by kernel_rfl) (by simp) ?_
          refine (AllTwo.cons rfl (fun K hK => ?_) AllTwo.nil)
          go_simp
          refine hK.out _ _ ⟨(HI.out.keeps.trans (Keeps.setCell _ (S := fun q => q = z) (p := ⟨z, 0, none⟩) rfl _)).trans (Keeps.setCell _ (S := fun q => q = z) (p := ⟨z, 1, none⟩) rfl _), fun h _ => absurd h (by decide)⟩ ?_
          clear hK K
          (try simp only [Act.put, List.getElem_toArray, List.getElem_cons_succ, List.getElem_cons_zero, List.setIfInBounds_toArray, List.set_cons_succ, List.set_cons_zero])
          refine wpTwo_end (by kernel_rfl) ?_ _
          have HE := Lib.hid (HI.out.store (.slice (some ⟨gw, 0, none⟩) (i + 1) capw) (.slice (some ⟨gl, 0, none⟩) (i + 1) capl))
          clear hz0 hz1 hf0 hf1 HI
          go_wp2
          go_roundw
          case rel => exact ⟨i + 1, _, _, by omega, by go_num, by rw [← HSW.out, ← HSL.out, HVW'.out, HVL'.out]; exact HE.out⟩
          case measure => simp [intOf]; omega
      · have HVW' := Lib.hid (HVW.out.trans (if_neg fun e => hix e.symm))
        have HVL' := Lib.hid (HVL.out.trans (if_neg fun e => hix e.symm))
        have hd : ((i : Int) == (x : Int)) = false := by simp; omega
        obtain ⟨bw, ow, rfl, hcw⟩ := nums_cells HWC.out (by omega)
        obtain ⟨bl, ol, rfl, hcl⟩ := bools_cells HLC.out (by have := HLEN.out; omega)
        obtain ⟨t, ht⟩ : ∃ t, t = ws[i] := ⟨_, rfl⟩
        obtain ⟨b, hb⟩ : ∃ b, b = ls[i]'(by have := HLEN.out; omega) := ⟨_, rfl⟩
        rw [← ht] at HVW'
        rw [← hb] at HVL'
        have hcw1 := hcw i hlt
        have hcl1 := hcl i (by have := HLEN.out; omega)
        rw [← ht] at hcw1
        rw [← hb] at hcl1
        have HLW := Lib.hid (below_cell HB.out hcw1)
        have HLL := Lib.hid (below_cell HB.out hcl1)
        have HLWn := Lib.hid (show ¬ (bw = z) by have h1 := World.block_lt_of_cell? W _ hcw1; have h2 := HHZ.out; simp only at h1; omega)
        have HLLn := Lib.hid (show ¬ (bl = z) by have h1 := World.block_lt_of_cell? W _ hcl1; have h2 := HHZ.out; simp only at h1; omega)
        have HM0 := Lib.hid (mbox_cells HMB.out).1.1
        have HM1 := Lib.hid (mbox_cells HMB.out).1.2.1
        have HM0n := Lib.hid (show ¬ (W.heap.size = z) by have h2 := HHZ.out; omega)
        have HM1n := HM0n
        clear hcw1 hcl1
        have hi0 : (i : Int) < (ls.length : Int) := by have := HLEN.out; omega
        clear hix HVW HVL hcw hcl ht hb
        go_wp2
        refine wpTwo_begin (T := fun w' => Keeps (fun q => q = z) wo w') (S := fun w' => w'.cell? ⟨z, 0, none⟩ = some vw ∧ w'.cell? ⟨z, 1, none⟩ = some vl) (late := fun j => [18, 19, 20, 21].contains j) (by kernel_rfl) ?_
        obtain ⟨X0, hX0⟩ : ∃ X : World, X = wr.drew := ⟨_, rfl⟩
        rw [← hX0]
        have HI := Lib.hid (show WInv wo z vw vl f i vw _ i vl _ X0 by rw [hX0]; exact HR.out.drew)
        clear hX0 HR
        refine wpTwo_takeT (i := 0) (v := (.pointer (some ⟨z, 0, none⟩))) rfl (by kernel_rfl) (by kernel_rfl) (by kernel_rfl) (fun _ _ _ h => h) ⟨by rfl, ?_⟩ HI.out.keeps ?_
        · intro w _
          go_simp
        (try simp only [Act.put, List.getElem_toArray, List.getElem_cons_zero, List.setIfInBounds_toArray, List.set_cons_succ, List.set_cons_zero])
        refine wpTwo_takeS (i := 1) (v := vw) (waits_all (by kernel_rfl)) rfl (by kernel_rfl) (by kernel_rfl) (by kernel_rfl) (fun _ _ _ h => h) ⟨by rfl, ?_⟩ ⟨HI.out.keeps, (mbox_cells HI.out.box).1.1, (mbox_cells HI.out.box).1.2.1⟩ ?_
        · rintro w ⟨-, hS0, hS1⟩
          go_simp
        (try simp only [Act.put, List.getElem_toArray, List.getElem_cons_succ, List.getElem_cons_zero, List.setIfInBounds_toArray, List.set_cons_succ, List.set_cons_zero])
        refine wpTwo_takeT (i := 2) (v := (.pointer (some ⟨W.heap.size, 0, none⟩))) rfl (by kernel_rfl) (by kernel_rfl) (by kernel_rfl) (fun _ _ _ h => h) ⟨by rfl, ?_⟩ HI.out.keeps ?_
        · intro w _
          go_simp
        (try simp only [Act.put, List.getElem_toArray, List.getElem_cons_succ, List.getElem_cons_zero, List.setIfInBounds_toArray, List.set_cons_succ, List.set_cons_zero])
        refine wpTwo_takeT (i := 3) (v := (.slice (some ⟨bw, ow, none⟩) ws.length c0)) rfl (by kernel_rfl) (by kernel_rfl) (by kernel_rfl) (fun _ _ _ h => h) ⟨by rfl, ?_⟩ HI.out.keeps ?_
        · intro w hTw
          have hload := Keeps.cell hTw HM0.out (by have := HM0n.out; exact this)
          clear hTw
          go_simp
        (try simp only [Act.put, List.getElem_toArray, List.getElem_cons_succ, List.getElem_cons_zero, List.setIfInBounds_toArray, List.set_cons_succ, List.set_cons_zero])
        refine wpTwo_takeT (i := 4) (v := (.int .i64 (i : Int))) rfl (by kernel_rfl) (by kernel_rfl) (by kernel_rfl) (fun _ _ _ h => h) ⟨by rfl, ?_⟩ HI.out.keeps ?_
        · intro w _
          go_simp
        (try simp only [Act.put, List.getElem_toArray, List.getElem_cons_succ, List.getElem_cons_zero, List.setIfInBounds_toArray, List.set_cons_succ, List.set_cons_zero])
        refine wpTwo_takeT (i := 5) (v := (.pointer (some ⟨bw, ow + i, none⟩))) rfl (by kernel_rfl) (by kernel_rfl) (by kernel_rfl) (fun _ _ _ h => h) ⟨by rfl, ?_⟩ HI.out.keeps ?_
        · intro w _
          go_simp
        (try simp only [Act.put, List.getElem_toArray, List.getElem_cons_succ, List.getElem_cons_zero, List.setIfInBounds_toArray, List.set_cons_succ, List.set_cons_zero])
        refine wpTwo_takeT (i := 6) (v := (.int .u64 t)) rfl (by kernel_rfl) (by kernel_rfl) (by kernel_rfl) (fun _ _ _ h => h) ⟨by rfl, ?_⟩ HI.out.keeps ?_
        · intro w hTw
          have hload := Keeps.cell hTw HLW.out (by have := HLWn.out; exact this)
          clear hTw
          go_simp
        (try simp only [Act.put, List.getElem_toArray, List.getElem_cons_succ, List.getElem_cons_zero, List.setIfInBounds_toArray, List.set_cons_succ, List.set_cons_zero])
        refine wpTwo_takeT (i := 9) (v := (.pointer (some ⟨z, 1, none⟩))) rfl (by kernel_rfl) (by kernel_rfl) (by kernel_rfl) (fun _ _ _ h => h) ⟨by rfl, ?_⟩ HI.out.keeps ?_
        · intro w _
          go_simp
        (try simp only [Act.put, List.getElem_toArray, List.getElem_cons_succ, List.getElem_cons_zero, List.setIfInBounds_toArray, List.set_cons_succ, List.set_cons_zero])
        refine wpTwo_takeS (i := 10) (v := vl) (waits_all (by kernel_rfl)) rfl (by kernel_rfl) (by kernel_rfl) (by kernel_rfl) (fun _ _ _ h => h) ⟨by rfl, ?_⟩ ⟨HI.out.keeps, (mbox_cells HI.out.box).1.1, (mbox_cells HI.out.box).1.2.1⟩ ?_
        · rintro w ⟨-, hS0, hS1⟩
          go_simp
        (try simp only [Act.put, List.getElem_toArray, List.getElem_cons_succ, List.getElem_cons_zero, List.setIfInBounds_toArray, List.set_cons_succ, List.set_cons_zero])
        refine wpTwo_takeT (i := 11) (v := (.pointer (some ⟨W.heap.size, 1, none⟩))) rfl (by kernel_rfl) (by kernel_rfl) (by kernel_rfl) (fun _ _ _ h => h) ⟨by rfl, ?_⟩ HI.out.keeps ?_
        · intro w _
          go_simp
        (try simp only [Act.put, List.getElem_toArray, List.getElem_cons_succ, List.getElem_cons_zero, List.setIfInBounds_toArray, List.set_cons_succ, List.set_cons_zero])
        refine wpTwo_takeT (i := 12) (v := (.slice (some ⟨bl, ol, none⟩) ls.length d0)) rfl (by kernel_rfl) (by kernel_rfl) (by kernel_rfl) (fun _ _ _ h => h) ⟨by rfl, ?_⟩ HI.out.keeps ?_
        · intro w hTw
          have hload := Keeps.cell hTw HM1.out (by have := HM1n.out; exact this)
          clear hTw
          go_simp
        (try simp only [Act.put, List.getElem_toArray, List.getElem_cons_succ, List.getElem_cons_zero, List.setIfInBounds_toArray, List.set_cons_succ, List.set_cons_zero])
        refine wpTwo_takeT (i := 13) (v := (.int .i64 (i : Int))) rfl (by kernel_rfl) (by kernel_rfl) (by kernel_rfl) (fun _ _ _ h => h) ⟨by rfl, ?_⟩ HI.out.keeps ?_
        · intro w _
          go_simp
        (try simp only [Act.put, List.getElem_toArray, List.getElem_cons_succ, List.getElem_cons_zero, List.setIfInBounds_toArray, List.set_cons_succ, List.set_cons_zero])
        refine wpTwo_takeT (i := 14) (v := (.pointer (some ⟨bl, ol + i, none⟩))) rfl (by kernel_rfl) (by kernel_rfl) (by kernel_rfl) (fun _ _ _ h => h) ⟨by rfl, ?_⟩ HI.out.keeps ?_
        · intro w _
          go_simp
        (try simp only [Act.put, List.getElem_toArray, List.getElem_cons_succ, List.getElem_cons_zero, List.setIfInBounds_toArray, List.set_cons_succ, List.set_cons_zero])
        refine wpTwo_takeT (i := 15) (v := (.bool b)) rfl (by kernel_rfl) (by kernel_rfl) (by kernel_rfl) (fun _ _ _ h => h) ⟨by rfl, ?_⟩ HI.out.keeps ?_
        · intro w hTw
          have hload := Keeps.cell hTw HLL.out (by have := HLLn.out; exact this)
          clear hTw
          go_simp
        (try simp only [Act.put, List.getElem_toArray, List.getElem_cons_succ, List.getElem_cons_zero, List.setIfInBounds_toArray, List.set_cons_succ, List.set_cons_zero])
        refine wpTwo_ready (rs := [7, 16]) (by kernel_rfl) (by simp) ?_
        refine (AllTwo.cons rfl (fun K hK => ?_) (AllTwo.cons rfl (fun K hK => ?_) AllTwo.nil))
        · go_simp
          obtain ⟨X1, hX1⟩ : ∃ X : World, X = X0.alloc (.cells #[.int .u64 t] 27) := ⟨_, rfl⟩
          rw [← hX1]
          have HI' := Lib.hid (show WInv wo z vw vl f i vw _ i vl _ X1 by rw [hX1]; exact HI.out.alloc _)
          refine hK.out _ _ ⟨HI'.out.keeps, fun _ _ => ⟨(mbox_cells HI'.out.box).1.1, (mbox_cells HI'.out.box).1.2.1⟩⟩ ?_
          clear hK K
          (try simp only [Act.put, List.getElem_toArray, List.getElem_cons_succ, List.getElem_cons_zero, List.setIfInBounds_toArray, List.set_cons_succ, List.set_cons_zero])
          have HNW := Lib.hid (show X1.heap[X0.heap.size]? = some (.cells #[.int .u64 t] 27 (0, 0)) by rw [hX1]; exact World.alloc_heap_new _ _)
          have HNWN := Lib.hid (show some X0.heap.size ≠ Value.ownBlock vl from HI.out.newL (Nat.le_refl _))
          clear hX1 HI
          have HI := HI'
          clear HI'
          refine wpTwo_ready (rs := [8, 16]) (by kernel_rfl) (by simp) ?_
          refine (AllTwo.cons rfl (fun K hK => ?_) (AllTwo.cons rfl (fun K hK => ?_) AllTwo.nil))
          · refine step_append_lies _ (by rfl) _ _ _ (by rfl) wo.heap.size 27 iw (.int .u64 0) 1 8 Try.underlying24 hiw hzw0 hzw1 hzw2 rfl (by decide) vw i _ (by rfl) HI.out.words ⟨X0.heap.size, 0, none⟩ 1 1 [.int .u64 t] (by rfl) (by rfl) (World.news_of_block HNW.out) (by simp [Value.oneCell']) (by decide) (by unfold maxLen; omega) (by omega) HI.out.base _ rfl ?_
            intro gw capw X2 hown hgrow hat hlt
            have HI' := Lib.hid (HI.out.growW hgrow hown)
            refine hK.out _ _ ⟨HI'.out.keeps, fun _ _ => ⟨(mbox_cells HI'.out.box).1.1, (mbox_cells HI'.out.box).1.2.1⟩⟩ ?_
            clear hK K
            (try simp only [Act.put, List.getElem_toArray, List.getElem_cons_succ, List.getElem_cons_zero, List.setIfInBounds_toArray, List.set_cons_succ, List.set_cons_zero])
            clear hown hgrow hat hlt HI
            have HI := HI'
            clear HI'
            refine wpTwo_takeT (i := 18) (v := (.pointer (some ⟨z, 0, none⟩))) rfl (by kernel_rfl) (by kernel_rfl) (by kernel_rfl) (fun _ _ _ h => h) ⟨by rfl, ?_⟩ HI.out.keeps ?_
            · intro w _
              go_simp
            (try simp only [Act.put, List.getElem_toArray, List.getElem_cons_succ, List.getElem_cons_zero, List.setIfInBounds_toArray, List.set_cons_succ, List.set_cons_zero])
            refine wpTwo_ready (rs := [16]) (by kernel_rfl) (by simp) ?_
            refine (AllTwo.cons rfl (fun K hK => ?_) AllTwo.nil)
            go_simp
            obtain ⟨X3, hX3⟩ : ∃ X : World, X = X2.alloc (.cells #[.bool b] 4) := ⟨_, rfl⟩
            rw [← hX3]
            have HI' := Lib.hid (show WInv wo z vw vl f (i + 1) (.slice (some ⟨gw, 0, none⟩) (i + 1) capw) _ i vl _ X3 by rw [hX3]; exact HI.out.alloc _)
            refine hK.out _ _ ⟨HI'.out.keeps, fun _ _ => ⟨(mbox_cells HI'.out.box).1.1, (mbox_cells HI'.out.box).1.2.1⟩⟩ ?_
            clear hK K
            (try simp only [Act.put, List.getElem_toArray, List.getElem_cons_succ, List.getElem_cons_zero, List.setIfInBounds_toArray, List.set_cons_succ, List.set_cons_zero])
            have HNL := Lib.hid (show X3.heap[X2.heap.size]? = some (.cells #[.bool b] 4 (0, 0)) by rw [hX3]; exact World.alloc_heap_new _ _)
            have HNLN := Lib.hid (show some X2.heap.size ≠ Value.ownBlock (.slice (some ⟨gw, 0, none⟩) (i + 1) capw) from HI.out.newW (Nat.le_refl _))
            clear hX3 HI
            have HI := HI'
            clear HI'
            refine wpTwo_ready (rs := [17]) (by kernel_rfl) (by simp) ?_
            refine (AllTwo.cons rfl (fun K hK => ?_) AllTwo.nil)
            refine step_append_lies _ (by rfl) _ _ _ (by rfl) wo.heap.size 4 il (.bool false) 1 1 Try.underlying42 hil hzl0 hzl1 hzl2 rfl (by decide) vl i _ (by rfl) HI.out.lives ⟨X2.heap.size, 0, none⟩ 1 1 [.bool b] (by rfl) (by rfl) (World.news_of_block HNL.out) (by simp [Value.oneCell']) (by decide) (by unfold maxLen; omega) (by omega) HI.out.base _ rfl ?_
            intro gl capl X4 hown hgrow hat hlt
            have HI' := Lib.hid (HI.out.growL hgrow hown)
            refine hK.out _ _ ⟨HI'.out.keeps, fun _ _ => ⟨(mbox_cells HI'.out.box).1.1, (mbox_cells HI'.out.box).1.2.1⟩⟩ ?_
            clear hK K
            (try simp only [Act.put, List.getElem_toArray, List.getElem_cons_succ, List.getElem_cons_zero, List.setIfInBounds_toArray, List.set_cons_succ, List.set_cons_zero])
            clear hown hgrow hat hlt HI
            have HI := HI'
            clear HI'
            refine wpTwo_ready (rs := [19]) (by kernel_rfl) (by simp) ?_
            refine (AllTwo.cons rfl (fun K hK => ?_) AllTwo.nil)
            obtain ⟨⟨hz0, hz1, _⟩, hf0, hf1, _⟩ := mbox_cells HI.out.box
            go_simp
            refine hK.out _ _ ⟨HI.out.keeps.trans (Keeps.setCell _ (S := fun q => q = z) (p := ⟨z, 0, none⟩) rfl _), fun h _ => absurd h (by decide)⟩ ?_
            clear hK K
            (try simp only [Act.put, List.getElem_toArray, List.getElem_cons_succ, List.getElem_cons_zero, List.setIfInBounds_toArray, List.set_cons_succ, List.set_cons_zero])
            refine wpTwo_ready (rs := [20]) (by kernel_rfl) (by simp) ?_
            refine (AllTwo.cons rfl (fun K hK => ?_) AllTwo.nil)
            go_simp
            refine hK.out _ _ ⟨HI.out.keeps.trans (Keeps.setCell _ (S := fun q => q = z) (p := ⟨z, 0, none⟩) rfl _), fun h _ => absurd h (by decide)⟩ ?_
            clear hK K
            (try simp only [Act.put, List.getElem_toArray, List.getElem_cons_succ, List.getElem_cons_zero, List.setIfInBounds_toArray, List.set_cons_succ, List.set_cons_zero])
            refine wpTwo_ready (rs := [21]) (by kernel_rfl) (by simp) ?_
            refine (AllTwo.cons rfl (fun K hK => ?_) AllTwo.nil)
            go_simp
            refine hK.out _ _ ⟨(HI.out.keeps.trans (Keeps.setCell _ (S := fun q => q = z) (p := ⟨z, 0, none⟩) rfl _)).trans (Keeps.setCell _ (S := fun q => q = z) (p := ⟨z, 1, none⟩) rfl _), fun h _ => absurd h (by decide)⟩ ?_
            clear hK K
            (try simp only [Act.put, List.getElem_toArray, List.getElem_cons_succ, List.getElem_cons_zero, List.setIfInBounds_toArray, List.set_cons_succ, List.set_cons_zero])
            refine wpTwo_end (by kernel_rfl) ?_ _
            have HE := Lib.hid (HI.out.store (.slice (some ⟨gw, 0, none⟩) (i + 1) capw) (.slice (some ⟨gl, 0, none⟩) (i + 1) capl))
            clear hz0 hz1 hf0 hf1 HI
            go_wp2
            go_roundw
            case rel => exact ⟨i + 1, _, _, by omega, by go_num, by rw [← HSW.out, ← HSL.out, HVW'.out, HVL'.out]; exact HE.out⟩
            case measure => simp [intOf]; omega
          · go_simp
            obtain ⟨X2, hX2⟩ : ∃ X : World, X = X1.alloc (.cells #[.bool b] 4) := ⟨_, rfl⟩
            rw [← hX2]
            have HI' := Lib.hid (show WInv wo z vw vl f i vw _ i vl _ X2 by rw [hX2]; exact HI.out.alloc _)
            refine hK.out _ _ ⟨HI'.out.keeps, fun _ _ => ⟨(mbox_cells HI'.out.box).1.1, (mbox_cells HI'.out.box).1.2.1⟩⟩ ?_
            clear hK K
            (try simp only [Act.put, List.getElem_toArray, List.getElem_cons_succ, List.getElem_cons_zero, List.setIfInBounds_toArray, List.set_cons_succ, List.set_cons_zero])
            have HNL := Lib.hid (show X2.heap[X1.heap.size]? = some (.cells #[.bool b] 4 (0, 0)) by rw [hX2]; exact World.alloc_heap_new _ _)
            have HNLN := Lib.hid (show some X1.heap.size ≠ Value.ownBlock vw from HI.out.newW (Nat.le_refl _))
            have HNW' := Lib.hid (show X2.heap[X0.heap.size]? = some _ by rw [hX2]; exact heap_alloc HNW.out _)
            clear HNW
            have HNW := HNW'
            clear HNW'
            clear hX2 HI
            have HI := HI'
            clear HI'
            refine wpTwo_ready (rs := [8]) (by kernel_rfl) (by simp) ?_
            refine (AllTwo.cons rfl (fun K hK => ?_) AllTwo.nil)
            refine step_append_lies _ (by rfl) _ _ _ (by rfl) wo.heap.size 27 iw (.int .u64 0) 1 8 Try.underlying24 hiw hzw0 hzw1 hzw2 rfl (by decide) vw i _ (by rfl) HI.out.words ⟨X0.heap.size, 0, none⟩ 1 1 [.int .u64 t] (by rfl) (by rfl) (World.news_of_block HNW.out) (by simp [Value.oneCell']) (by decide) (by unfold maxLen; omega) (by omega) HI.out.base _ rfl ?_
            intro gw capw X3 hown hgrow hat hlt
            have HI' := Lib.hid (HI.out.growW hgrow hown)
            refine hK.out _ _ ⟨HI'.out.keeps, fun _ _ => ⟨(mbox_cells HI'.out.box).1.1, (mbox_cells HI'.out.box).1.2.1⟩⟩ ?_
            clear hK K
            (try simp only [Act.put, List.getElem_toArray, List.getElem_cons_succ, List.getElem_cons_zero, List.setIfInBounds_toArray, List.set_cons_succ, List.set_cons_zero])
            have HNL' := Lib.hid (heap_grown hgrow HNL.out HNLN.out)
            clear HNL
            have HNL := HNL'
            clear HNL'
            clear hown hgrow hat hlt HI
            have HI := HI'
            clear HI'
            refine wpTwo_takeT (i := 18) (v := (.pointer (some ⟨z, 0, none⟩))) rfl (by kernel_rfl) (by kernel_rfl) (by kernel_rfl) (fun _ _ _ h => h) ⟨by rfl, ?_⟩ HI.out.keeps ?_
            · intro w _
              go_simp
            (try simp only [Act.put, List.getElem_toArray, List.getElem_cons_succ, List.getElem_cons_zero, List.setIfInBounds_toArray, List.set_cons_succ, List.set_cons_zero])
            refine wpTwo_ready (rs := [17]) (by kernel_rfl) (by simp) ?_
            refine (AllTwo.cons rfl (fun K hK => ?_) AllTwo.nil)
            refine step_append_lies _ (by rfl) _ _ _ (by rfl) wo.heap.size 4 il (.bool false) 1 1 Try.underlying42 hil hzl0 hzl1 hzl2 rfl (by decide) vl i _ (by rfl) HI.out.lives ⟨X1.heap.size, 0, none⟩ 1 1 [.bool b] (by rfl) (by rfl) (World.news_of_block HNL.out) (by simp [Value.oneCell']) (by decide) (by unfold maxLen; omega) (by omega) HI.out.base _ rfl ?_
            intro gl capl X4 hown hgrow hat hlt
            have HI' := Lib.hid (HI.out.growL hgrow hown)
            refine hK.out _ _ ⟨HI'.out.keeps, fun _ _ => ⟨(mbox_cells HI'.out.box).1.1, (mbox_cells HI'.out.box).1.2.1⟩⟩ ?_
            clear hK K
            (try simp only [Act.put, List.getElem_toArray, List.getElem_cons_succ, List.getElem_cons_zero, List.setIfInBounds_toArray, List.set_cons_succ, List.set_cons_zero])
            clear hown hgrow hat hlt HI
            have HI := HI'
            clear HI'
            refine wpTwo_ready (rs := [19]) (by kernel_rfl) (by simp) ?_
            refine (AllTwo.cons rfl (fun K hK => ?_) AllTwo.nil)
            obtain ⟨⟨hz0, hz1, _⟩, hf0, hf1, _⟩ := mbox_cells HI.out.box
            go_simp
            refine hK.out _ _ ⟨HI.out.keeps.trans (Keeps.setCell _ (S := fun q => q = z) (p := ⟨z, 0, none⟩) rfl _), fun h _ => absurd h (by decide)⟩ ?_
            clear hK K
            (try simp only [Act.put, List.getElem_toArray, List.getElem_cons_succ, List.getElem_cons_zero, List.setIfInBounds_toArray, List.set_cons_succ, List.set_cons_zero])
            refine wpTwo_ready (rs := [20]) (by kernel_rfl) (by simp) ?_
            refine (AllTwo.cons rfl (fun K hK => ?_) AllTwo.nil)
            go_simp
            refine hK.out _ _ ⟨HI.out.keeps.trans (Keeps.setCell _ (S := fun q => q = z) (p := ⟨z, 0, none⟩) rfl _), fun h _ => absurd h (by decide)⟩ ?_
            clear hK K
            (try simp only [Act.put, List.getElem_toArray, List.getElem_cons_succ, List.getElem_cons_zero, List.setIfInBounds_toArray, List.set_cons_succ, List.set_cons_zero])
            refine wpTwo_ready (rs := [21]) (by kernel_rfl) (by simp) ?_
            refine (AllTwo.cons rfl (fun K hK => ?_) AllTwo.nil)
            go_simp
            refine hK.out _ _ ⟨(HI.out.keeps.trans (Keeps.setCell _ (S := fun q => q = z) (p := ⟨z, 0, none⟩) rfl _)).trans (Keeps.setCell _ (S := fun q => q = z) (p := ⟨z, 1, none⟩) rfl _), fun h _ => absurd h (by decide)⟩ ?_
            clear hK K
            (try simp only [Act.put, List.getElem_toArray, List.getElem_cons_succ, List.getElem_cons_zero, List.setIfInBounds_toArray, List.set_cons_succ, List.set_cons_zero])
            refine wpTwo_end (by kernel_rfl) ?_ _
            have HE := Lib.hid (HI.out.store (.slice (some ⟨gw, 0, none⟩) (i + 1) capw) (.slice (some ⟨gl, 0, none⟩) (i + 1) capl))
            clear hz0 hz1 hf0 hf1 HI
            go_wp2
            go_roundw
            case rel => exact ⟨i + 1, _, _, by omega, by go_num, by rw [← HSW.out, ← HSL.out, HVW'.out, HVL'.out]; exact HE.out⟩
            case measure => simp [intOf]; omega
        · go_simp
          obtain ⟨X1, hX1⟩ : ∃ X : World, X = X0.alloc (.cells #[.bool b] 4) := ⟨_, rfl⟩
          rw [← hX1]
          have HI' := Lib.hid (show WInv wo z vw vl f i vw _ i vl _ X1 by rw [hX1]; exact HI.out.alloc _)
          refine hK.out _ _ ⟨HI'.out.keeps, fun _ _ => ⟨(mbox_cells HI'.out.box).1.1, (mbox_cells HI'.out.box).1.2.1⟩⟩ ?_
          clear hK K
          (try simp only [Act.put, List.getElem_toArray, List.getElem_cons_succ, List.getElem_cons_zero, List.setIfInBounds_toArray, List.set_cons_succ, List.set_cons_zero])
          have HNL := Lib.hid (show X1.heap[X0.heap.size]? = some (.cells #[.bool b] 4 (0, 0)) by rw [hX1]; exact World.alloc_heap_new _ _)
          have HNLN := Lib.hid (show some X0.heap.size ≠ Value.ownBlock vw from HI.out.newW (Nat.le_refl _))
          clear hX1 HI
          have HI := HI'
          clear HI'
          refine wpTwo_ready (rs := [7]) (by kernel_rfl) (by simp) ?_
          refine (AllTwo.cons rfl (fun K hK => ?_) AllTwo.nil)
          go_simp
          obtain ⟨X2, hX2⟩ : ∃ X : World, X = X1.alloc (.cells #[.int .u64 t] 27) := ⟨_, rfl⟩
          rw [← hX2]
          have HI' := Lib.hid (show WInv wo z vw vl f i vw _ i vl _ X2 by rw [hX2]; exact HI.out.alloc _)
          refine hK.out _ _ ⟨HI'.out.keeps, fun _ _ => ⟨(mbox_cells HI'.out.box).1.1, (mbox_cells HI'.out.box).1.2.1⟩⟩ ?_
          clear hK K
          (try simp only [Act.put, List.getElem_toArray, List.getElem_cons_succ, List.getElem_cons_zero, List.setIfInBounds_toArray, List.set_cons_succ, List.set_cons_zero])
          have HNW := Lib.hid (show X2.heap[X1.heap.size]? = some (.cells #[.int .u64 t] 27 (0, 0)) by rw [hX2]; exact World.alloc_heap_new _ _)
          have HNWN := Lib.hid (show some X1.heap.size ≠ Value.ownBlock vl from HI.out.newL (Nat.le_refl _))
          have HNL' := Lib.hid (show X2.heap[X0.heap.size]? = some _ by rw [hX2]; exact heap_alloc HNL.out _)
          clear HNL
          have HNL := HNL'
          clear HNL'
          clear hX2 HI
          have HI := HI'
          clear HI'
          refine wpTwo_ready (rs := [8]) (by kernel_rfl) (by simp) ?_
          refine (AllTwo.cons rfl (fun K hK => ?_) AllTwo.nil)
          refine step_append_lies _ (by rfl) _ _ _ (by rfl) wo.heap.size 27 iw (.int .u64 0) 1 8 Try.underlying24 hiw hzw0 hzw1 hzw2 rfl (by decide) vw i _ (by rfl) HI.out.words ⟨X1.heap.size, 0, none⟩ 1 1 [.int .u64 t] (by rfl) (by rfl) (World.news_of_block HNW.out) (by simp [Value.oneCell']) (by decide) (by unfold maxLen; omega) (by omega) HI.out.base _ rfl ?_
          intro gw capw X3 hown hgrow hat hlt
          have HI' := Lib.hid (HI.out.growW hgrow hown)
          refine hK.out _ _ ⟨HI'.out.keeps, fun _ _ => ⟨(mbox_cells HI'.out.box).1.1, (mbox_cells HI'.out.box).1.2.1⟩⟩ ?_
          clear hK K
          (try simp only [Act.put, List.getElem_toArray, List.getElem_cons_succ, List.getElem_cons_zero, List.setIfInBounds_toArray, List.set_cons_succ, List.set_cons_zero])
          have HNL' := Lib.hid (heap_grown hgrow HNL.out HNLN.out)
          clear HNL
          have HNL := HNL'
          clear HNL'
          clear hown hgrow hat hlt HI
          have HI := HI'
          clear HI'
          refine wpTwo_takeT (i := 18) (v := (.pointer (some ⟨z, 0, none⟩))) rfl (by kernel_rfl) (by kernel_rfl) (by kernel_rfl) (fun _ _ _ h => h) ⟨by rfl, ?_⟩ HI.out.keeps ?_
          · intro w _
            go_simp
          (try simp only [Act.put, List.getElem_toArray, List.getElem_cons_succ, List.getElem_cons_zero, List.setIfInBounds_toArray, List.set_cons_succ, List.set_cons_zero])
          refine wpTwo_ready (rs := [17]) (by kernel_rfl) (by simp) ?_
          refine (AllTwo.cons rfl (fun K hK => ?_) AllTwo.nil)
          refine step_append_lies _ (by rfl) _ _ _ (by rfl) wo.heap.size 4 il (.bool false) 1 1 Try.underlying42 hil hzl0 hzl1 hzl2 rfl (by decide) vl i _ (by rfl) HI.out.lives ⟨X0.heap.size, 0, none⟩ 1 1 [.bool b] (by rfl) (by rfl) (World.news_of_block HNL.out) (by simp [Value.oneCell']) (by decide) (by unfold maxLen; omega) (by omega) HI.out.base _ rfl ?_
          intro gl capl X4 hown hgrow hat hlt
          have HI' := Lib.hid (HI.out.growL hgrow hown)
          refine hK.out _ _ ⟨HI'.out.keeps, fun _ _ => ⟨(mbox_cells HI'.out.box).1.1, (mbox_cells HI'.out.box).1.2.1⟩⟩ ?_
          clear hK K
          (try simp only [Act.put, List.getElem_toArray, List.getElem_cons_succ, List.getElem_cons_zero, List.setIfInBounds_toArray, List.set_cons_succ, List.set_cons_zero])
          clear hown hgrow hat hlt HI
          have HI := HI'
          clear HI'
          refine wpTwo_ready (rs := [19]) (by kernel_rfl) (by simp) ?_
          refine (AllTwo.cons rfl (fun K hK => ?_) AllTwo.nil)
          obtain ⟨⟨hz0, hz1, _⟩, hf0, hf1, _⟩ := mbox_cells HI.out.box
          go_simp
          refine hK.out _ _ ⟨HI.out.keeps.trans (Keeps.setCell _ (S := fun q => q = z) (p := ⟨z, 0, none⟩) rfl _), fun h _ => absurd h (by decide)⟩ ?_
          clear hK K
          (try simp only [Act.put, List.getElem_toArray, List.getElem_cons_succ, List.getElem_cons_zero, List.setIfInBounds_toArray, List.set_cons_succ, List.set_cons_zero])
          refine wpTwo_ready (rs := [20]) (by kernel_rfl) (by simp) ?_
          refine (AllTwo.cons rfl (fun K hK => ?_) AllTwo.nil)
          go_simp
          refine hK.out _ _ ⟨HI.out.keeps.trans (Keeps.setCell _ (S := fun q => q = z) (p := ⟨z, 0, none⟩) rfl _), fun h _ => absurd h (by decide)⟩ ?_
          clear hK K
          (try simp only [Act.put, List.getElem_toArray, List.getElem_cons_succ, List.getElem_cons_zero, List.setIfInBounds_toArray, List.set_cons_succ, List.set_cons_zero])
          refine wpTwo_ready (rs := [21]) (by kernel_rfl) (by simp) ?_
          refine (AllTwo.cons rfl (fun K hK => ?_) AllTwo.nil)
          go_simp
          refine hK.out _ _ ⟨(HI.out.keeps.trans (Keeps.setCell _ (S := fun q => q = z) (p := ⟨z, 0, none⟩) rfl _)).trans (Keeps.setCell _ (S := fun q => q = z) (p := ⟨z, 1, none⟩) rfl _), fun h _ => absurd h (by decide)⟩ ?_
          clear hK K
          (try simp only [Act.put, List.getElem_toArray, List.getElem_cons_succ, List.getElem_cons_zero, List.setIfInBounds_toArray, List.set_cons_succ, List.set_cons_zero])
          refine wpTwo_end (by kernel_rfl) ?_ _
          have HE := Lib.hid (HI.out.store (.slice (some ⟨gw, 0, none⟩) (i + 1) capw) (.slice (some ⟨gl, 0, none⟩) (i + 1) capl))
          clear hz0 hz1 hf0 hf1 HI
          go_wp2
          go_roundw
          case rel => exact ⟨i + 1, _, _, by omega, by go_num, by rw [← HSW.out, ← HSL.out, HVW'.out, HVL'.out]; exact HE.out⟩
          case measure => simp [intOf]; omega
    · have hii : i = ws.length := by omega
      have hw := HR.out.words
      have hl := HR.out.lives
      rw [List.take_of_length_le (by simp; omega)] at hw
      rw [List.take_of_length_le (by have := HLEN.out; simp; omega)] at hl
      obtain ⟨pw, cw, rfl⟩ := owns_slice hw
      obtain ⟨pl, cl, rfl⟩ := owns_slice hl
      have h2z := HHZ.out
      have hzl := HR.out.lt
      obtain ⟨⟨hz0, hz1, hz2⟩, _⟩ := mbox_cells HR.out.box
      obtain ⟨⟨hr0, hr1, hr2⟩, hs0, hs1, hs2⟩ := mbox_cells (HRB.out.keeps HR.out.keeps (fun h => absurd (show W.heap.size + 1 = z from h) (by omega)))
      have hk : Keeps (fun q => q = W.heap.size + 1) wr (((wr.setCell ⟨W.heap.size + 1, 0, none⟩ (.slice pw i cw)).setCell ⟨W.heap.size + 1, 1, none⟩ (.slice pl i cl)).setCell ⟨W.heap.size + 1, 2, none⟩ (.bool f)) :=
        ((Keeps.setCell wr (S := fun q => q = W.heap.size + 1) (p := ⟨W.heap.size + 1, 0, none⟩) rfl _).trans (Keeps.setCell _ (S := fun q => q = W.heap.size + 1) (p := ⟨W.heap.size + 1, 1, none⟩) rfl _)).trans (Keeps.setCell _ (S := fun q => q = W.heap.size + 1) (p := ⟨W.heap.size + 1, 2, none⟩) rfl _)
      have hBr : Below W.heap.size W wr := HB.out.trans (HR.out.keeps.below HB.out.size (fun q hq => by subst hq; omega))
      have ho1 := (hk.row' hw (fun q hq => by subst hq; omega)).mono (base' := W.heap.size) HB.out.size
      have ho2 := (hk.row' hl (fun q hq => by subst hq; omega)).mono (base' := W.heap.size) HB.out.size
      have HG := Lib.hid (own_gives (f := f) (show (ws.set x u).length = i by simp; omega) (show (ls.set x d).length = i by have := HLEN.out; simp; omega) ho1 ho2)
      have HBE := Lib.hid (hBr.trans (hk.below hBr.size (fun q hq => by subst hq; omega)))
      clear hii hw hl hk hBr ho1 ho2 h2z
      go_wp2
      exact bodyPost_ret (v := .agg #[.slice pw i cw, .slice pl i cl, .bool f]) (by simp [results, Try.results84, go_sem, hr0, hr1, hr2]) rfl ⟨HG.out, HBE.out⟩

end Go.Proofs.Ytaljpggajpoalaa
