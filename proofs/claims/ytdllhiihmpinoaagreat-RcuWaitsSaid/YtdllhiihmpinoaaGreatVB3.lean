/-
  Package grace: what Ask, Begin, Report and Pick have a turn do.
  Conditions: the ranges of Go's types.
-/
import Derived.Test.YtdllhiihmpinoaaGreatVB2
import Derived.Maps.AppendAt
import Derived.RegionTactic
import Derived.Deep.QuietTactic
import Derived.BigQuiet
import Derived.Laws.CopyOwn
import Derived.Defers
import Derived.Recover
import Derived.Laws.Pointers
/-
  Package grace: what a turn holds; at, order.
  Conditions: the ranges of Go's types.
-/
namespace Go.Proofs.YtdllhiihmpinoaaGreat
set_option maxRecDepth 100000
open Go.RowKit Go.Shelf
attribute [local go_sem] Oper.semAt_some

/-- What box a turn lies in. -/
def TBox (W : World) (z : Nat) (now : Int) (u v : Value) (d a : Int) (on : Bool) (nv lv : Value) : Prop := W.heap[z]? = some (.cells #[.int .i64 now, u, v, .int .i64 d, .int .i64 a, .bool on, nv, lv] 159 (0, 0))
theorem TBox.cells {W : World} {z : Nat} {now : Int} {u v : Value} {d a : Int} {on : Bool} {nv lv : Value} (h : TBox W z now u v d a on nv lv) : W.cell? ⟨z, 0, none⟩ = some (.int .i64 now) ∧ W.cell? ⟨z, 1, none⟩ = some u ∧ W.cell? ⟨z, 2, none⟩ = some v ∧ W.cell? ⟨z, 3, none⟩ = some (.int .i64 d) ∧ W.cell? ⟨z, 4, none⟩ = some (.int .i64 a) ∧ W.cell? ⟨z, 5, none⟩ = some (.bool on) ∧ W.cell? ⟨z, 6, none⟩ = some nv ∧ W.cell? ⟨z, 7, none⟩ = some lv := by
  have h' : W.heap[z]? = _ := h
  simp [World.cell?, h']
theorem TBox.marks {W : World} {z : Nat} {now : Int} {u v : Value} {d a : Int} {on : Bool} {nv lv : Value} (h : TBox W z now u v d a on nv lv) (i : Nat) : W.frozen? ⟨z, i, none⟩ = false := by
  have h' : W.heap[z]? = _ := h
  simp [World.frozen?, h']
theorem TBox.lt {W : World} {z : Nat} {now : Int} {u v : Value} {d a : Int} {on : Bool} {nv lv : Value} (h : TBox W z now u v d a on nv lv) : z < W.heap.size := (Array.getElem?_eq_some_iff.1 h).1
theorem TBox.below {W W' : World} {z : Nat} {now : Int} {u v : Value} {d a : Int} {on : Bool} {nv lv : Value} (h : TBox W z now u v d a on nv lv) (hb : Below W.heap.size W W') : TBox W' z now u v d a on nv lv := (hb.block z h.lt).trans h
theorem TBox.keeps {S : Nat → Prop} {W W' : World} {z : Nat} {now : Int} {u v : Value} {d a : Int} {on : Bool} {nv lv : Value} (h : TBox W z now u v d a on nv lv) (hk : Keeps S W W') (hz : ¬ S z) : TBox W' z now u v d a on nv lv := (hk.block z h.lt hz).trans h
theorem TBox.new (W : World) (now : Int) (u v : Value) (d a : Int) (on : Bool) (nv lv : Value) : TBox (W.alloc (.cells #[.int .i64 now, u, v, .int .i64 d, .int .i64 a, .bool on, nv, lv] 159)) W.heap.size now u v d a on nv lv := World.alloc_heap_new W _
theorem TBox.set3 {W : World} {z : Nat} {now : Int} {u v : Value} {d a : Int} {on : Bool} {nv lv : Value} (h : TBox W z now u v d a on nv lv) (x : Int) : TBox (W.setCell ⟨z, 3, none⟩ (.int .i64 x)) z now u v x a on nv lv := by
  unfold TBox; rw [heap_setCell_same W z 3 _ _ _ h]; rfl
theorem TBox.set4 {W : World} {z : Nat} {now : Int} {u v : Value} {d a : Int} {on : Bool} {nv lv : Value} (h : TBox W z now u v d a on nv lv) (x : Int) : TBox (W.setCell ⟨z, 4, none⟩ (.int .i64 x)) z now u v d x on nv lv := by
  unfold TBox; rw [heap_setCell_same W z 4 _ _ _ h]; rfl
theorem TBox.set5 {W : World} {z : Nat} {now : Int} {u v : Value} {d a : Int} {on : Bool} {nv lv : Value} (h : TBox W z now u v d a on nv lv) (x : Bool) : TBox (W.setCell ⟨z, 5, none⟩ (.bool x)) z now u v d a x nv lv := by
  unfold TBox; rw [heap_setCell_same W z 5 _ _ _ h]; rfl
theorem TBox.set7 {W : World} {z : Nat} {now : Int} {u v : Value} {d a : Int} {on : Bool} {nv lv : Value} (h : TBox W z now u v d a on nv lv) (x : Value) : TBox (W.setCell ⟨z, 7, none⟩ x) z now u v d a on nv x := by
  unfold TBox; rw [heap_setCell_same W z 7 _ _ _ h]; rfl
theorem TBox.putG {W : World} {z : Nat} {now : Int} {u v : Value} {d0 a0 : Int} {on0 : Bool} {nv0 lv : Value} (h : TBox W z now u v d0 a0 on0 nv0 lv) (d a : Int) (on : Bool) (nv : Value) : TBox ((((W.setCell ⟨z, 3, none⟩ (.int .i64 d)).setCell ⟨z, 4, none⟩ (.int .i64 a)).setCell ⟨z, 5, none⟩ (.bool on)).setCell ⟨z, 6, none⟩ nv) z now u v d a on nv lv := by
  have h3 := ((h.set3 d).set4 a).set5 on
  unfold TBox; rw [heap_setCell_same _ z 6 _ _ _ h3]; rfl
theorem TBox.putR {W : World} {z : Nat} {now0 : Int} {u0 v0 : Value} {d a : Int} {on : Bool} {nv lv : Value} (h : TBox W z now0 u0 v0 d a on nv lv) (now : Int) (u v : Value) : TBox (((W.setCell ⟨z, 0, none⟩ (.int .i64 now)).setCell ⟨z, 1, none⟩ u).setCell ⟨z, 2, none⟩ v) z now u v d a on nv lv := by
  have h0 := heap_setCell_same W z 0 _ _ (.int .i64 now) h
  have h1 := heap_setCell_same _ z 1 _ _ u h0
  have h2 := heap_setCell_same _ z 2 _ _ v h1
  unfold TBox; rw [h2]; rfl
theorem setK (W : World) (z i : Nat) (x : Value) : Keeps (fun k => k = z) W (W.setCell ⟨z, i, none⟩ x) := Keeps.setCell W (S := (· = z)) (p := ⟨z, i, none⟩) rfl _

/-- A turn in memory: its grace with its needs in a block of their own, and its numbers. -/
structure TuAt (W : World) (z B : Nat) (now : Int) (u v : Value) (g : GrS) (n nb : Nat) (lv : Value) (ls : List Int) : Prop where
  box : TBox W z now u v g.done g.asked g.on (.slice (some ⟨nb, 0, none⟩) n n) lv
  len : g.nd.length = n
  needs : BBlock W nb g.nd
  nums : W.ownsRow B 3 1 lv ls.length (ls.map (Value.int .i64))
theorem TBox.ne_bools {W : World} {z nb : Nat} {now : Int} {u v : Value} {d a : Int} {on : Bool} {nv lv : Value} {bs : List Bool} (h : TBox W z now u v d a on nv lv) (k : BBlock W nb bs) : z ≠ nb := fun e => by
  have h1 : W.heap[z]? = _ := h
  have h2 : W.heap[nb]? = _ := k
  rw [← e, h1] at h2; injection h2 with h2; injection h2 with _ h2 _; revert h2; decide
theorem TBox.ne_row {W : World} {z B n : Nat} {now : Int} {u v : Value} {d a : Int} {on : Bool} {nv lv x : Value} {xs : List Value} (h : TBox W z now u v d a on nv lv) (k : W.ownsRow B 3 1 x n xs) : ∀ g, x.ownBlock = some g → g ≠ z := fun g hg e => by
  obtain ⟨c, f, h1⟩ := Lib.ownsRow_kind k g hg
  have h2 : W.heap[z]? = _ := h
  rw [e, h2] at h1; injection h1 with h1; injection h1 with _ h1 _; revert h1; decide
theorem BBlock.ne_row {W : World} {nb B n : Nat} {x : Value} {bs : List Bool} {xs : List Value} (h : BBlock W nb bs) (k : W.ownsRow B 3 1 x n xs) : ∀ g, x.ownBlock = some g → g ≠ nb := fun g hg e => by
  obtain ⟨c, f, h1⟩ := Lib.ownsRow_kind k g hg
  have h2 : W.heap[nb]? = _ := h
  rw [e, h2] at h1; injection h1 with h1; injection h1 with _ h1 _; revert h1; decide
theorem TuAt.keeps {S : Nat → Prop} {W W' : World} {z B : Nat} {now : Int} {u v : Value} {g : GrS} {n nb : Nat} {lv : Value} {ls : List Int} (k : TuAt W z B now u v g n nb lv ls) (hk : Keeps S W W') (hz : ¬ S z) (hn : ¬ S nb) (hl : ∀ q, lv.ownBlock = some q → ¬ S q) : TuAt W' z B now u v g n nb lv ls :=
  ⟨k.box.keeps hk hz, k.len, k.needs.keeps hk hn, hk.row k.nums hl⟩
theorem TuAt.below {W W' : World} {z B : Nat} {now : Int} {u v : Value} {g : GrS} {n nb : Nat} {lv : Value} {ls : List Int} (k : TuAt W z B now u v g n nb lv ls) (hb : Below W.heap.size W W') : TuAt W' z B now u v g n nb lv ls :=
  k.keeps (Keeps.of_below (S := fun _ => False) hb) id id (fun _ _ => id)
theorem TuAt.alike {W W' : World} {z B : Nat} {now : Int} {u v : Value} {g : GrS} {n nb : Nat} {lv : Value} {ls : List Int} (k : TuAt W z B now u v g n nb lv ls) (hb : Below W.heap.size W W') : TuAt W' z B now u v g n nb lv ls := k.below hb
theorem TuAt.set3 {W : World} {z B : Nat} {now : Int} {u v : Value} {g : GrS} {n nb : Nat} {lv : Value} {ls : List Int} (k : TuAt W z B now u v g n nb lv ls) (x : Int) : TuAt (W.setCell ⟨z, 3, none⟩ (.int .i64 x)) z B now u v { g with done := x } n nb lv ls :=
  ⟨k.box.set3 x, k.len, k.needs.keeps (setK W z 3 _) (fun e => k.box.ne_bools k.needs e.symm), (setK W z 3 _).row k.nums (fun q hq e => k.box.ne_row k.nums q hq e)⟩
theorem TuAt.set4 {W : World} {z B : Nat} {now : Int} {u v : Value} {g : GrS} {n nb : Nat} {lv : Value} {ls : List Int} (k : TuAt W z B now u v g n nb lv ls) (x : Int) : TuAt (W.setCell ⟨z, 4, none⟩ (.int .i64 x)) z B now u v { g with asked := x } n nb lv ls :=
  ⟨k.box.set4 x, k.len, k.needs.keeps (setK W z 4 _) (fun e => k.box.ne_bools k.needs e.symm), (setK W z 4 _).row k.nums (fun q hq e => k.box.ne_row k.nums q hq e)⟩
theorem TuAt.set5 {W : World} {z B : Nat} {now : Int} {u v : Value} {g : GrS} {n nb : Nat} {lv : Value} {ls : List Int} (k : TuAt W z B now u v g n nb lv ls) (x : Bool) : TuAt (W.setCell ⟨z, 5, none⟩ (.bool x)) z B now u v { g with on := x } n nb lv ls :=
  ⟨k.box.set5 x, k.len, k.needs.keeps (setK W z 5 _) (fun e => k.box.ne_bools k.needs e.symm), (setK W z 5 _).row k.nums (fun q hq e => k.box.ne_row k.nums q hq e)⟩
theorem TuAt.setNeed {W : World} {z B : Nat} {now : Int} {u v : Value} {g : GrS} {n nb : Nat} {lv : Value} {ls : List Int} (k : TuAt W z B now u v g n nb lv ls) (i : Nat) (x : Bool) : TuAt (W.setCell ⟨nb, i, none⟩ (.bool x)) z B now u v { g with nd := g.nd.set i x } n nb lv ls :=
  ⟨k.box.keeps (setK W nb i _) (k.box.ne_bools k.needs), by simp only [List.length_set]; exact k.len, k.needs.set i x, (setK W nb i _).row k.nums (fun q hq e => k.needs.ne_row k.nums q hq e)⟩

/-- The number of the period that would be asked for. -/
def nextG (g : GrS) : Int := if g.on = true then g.done + 1 + 1 else g.done + 1

set_option maxHeartbeats 4000000 in
theorem gat_ok (z : Nat) (now : Int) (u v : Value) (d a : Int) (on : Bool) (p : Option Addr) (n cc : Nat) (lv : Value) (c : Int) (W : World) (k : TBox W z now u v d a on (.slice p n cc) lv) (h : hasB n c = true) :
    Calls Tryz.prog 162 #[.pointer (some ⟨z, 0, none⟩), .int .i64 c] W fun e w' => e = .returned (.tuple #[]) ∧ Below W.heap.size W w' := by
  obtain ⟨d0, d1, d2, d3, d4, d5, d6, d7⟩ := k.cells
  have HC := Lib.hid (ghas_c d a c on p n cc W)
  rw [h] at HC
  clear h k
  go_enter Tryz.func162, Tryz.ntmps162
  go_wp2_with fail
  (with_reducible refine HC.out.mono ?_)
  rintro e w1 ⟨rfl, hb1⟩
  have HB := Lib.hid hb1
  clear hb1
  go_wp2
  go_end0
  exact ⟨rfl, HB.out⟩
set_option maxHeartbeats 4000000 in
theorem gat_no (z : Nat) (now : Int) (u v : Value) (d a : Int) (on : Bool) (p : Option Addr) (n cc : Nat) (lv : Value) (c : Int) (W : World) (k : TBox W z now u v d a on (.slice p n cc) lv) (h : hasB n c = false) :
    Calls Tryz.prog 162 #[.pointer (some ⟨z, 0, none⟩), .int .i64 c] W fun e w' => e = woe 2 ∧ Below W.heap.size W w' := by
  obtain ⟨d0, d1, d2, d3, d4, d5, d6, d7⟩ := k.cells
  have HC := Lib.hid (ghas_c d a c on p n cc W)
  rw [h] at HC
  clear h k
  go_enter Tryz.func162, Tryz.ntmps162
  go_wp2_with fail
  (with_reducible refine HC.out.mono ?_)
  rintro e w1 ⟨rfl, hb1⟩
  have HB := Lib.hid hb1
  clear hb1
  go_wp2
  exact ⟨rfl, rfl, HB.out⟩

set_option maxHeartbeats 4000000 in
theorem gorder_no (z B : Nat) (now : Int) (u v : Value) (g : GrS) (n nb : Nat) (lv : Value) (ls : List Int) (W : World) (k : TuAt W z B now u v g n nb lv ls) (h0 : 0 ≤ g.done) (h2 : g.done ≤ 2147483645) (h1 : 2147483645 < nextG g) :
    Calls Tryz.prog 161 #[.pointer (some ⟨z, 0, none⟩)] W fun e w' => e = woe 6 ∧ w' = W := by
  obtain ⟨d, a, on, nd⟩ := g
  obtain ⟨d0, d1, d2, d3, d4, d5, d6, d7⟩ := k.box.cells
  unfold nextG at h1
  simp only at h0 h1 h2 d3 d4 d5
  clear k
  cases on with
  | true =>
    simp only [if_true] at h1
    go_enter Tryz.func161, Tryz.ntmps161
    go_wp2
    exact ⟨rfl, rfl, rfl⟩
  | false =>
    simp only [Bool.false_eq_true, if_false] at h1
    go_enter Tryz.func161, Tryz.ntmps161
    go_wp2
    exact ⟨rfl, rfl, rfl⟩

/-- What order leaves. -/
def OrdQ (z B : Nat) (now : Int) (u v : Value) (g : GrS) (n nb : Nat) (lv : Value) (ls : List Int) (W w' : World) : Prop :=
  ∃ lv', TuAt w' z B now u v { g with asked := nextG g } n nb lv' (ls ++ [nextG g]) ∧ Keeps (fun k => k = z ∨ some k = lv.ownBlock) W w' ∧ (∀ q, lv'.ownBlock = some q → lv.ownBlock = some q ∨ W.heap.size ≤ q) ∧ B ≤ w'.heap.size
theorem ord_fin (z B : Nat) (now : Int) (u v : Value) (d a : Int) (on : Bool) (nd : List Bool) (n nb : Nat) (pl : Option Addr) (cl : Nat) (ls : List Int) (W w1 w2 : World) (x : Int) (hx : nextG ⟨d, a, on, nd⟩ = x) (o : Obj) (q : Option Addr) (r : Nat)
    (k : TuAt w1 z B now u v ⟨d, x, on, nd⟩ n nb (.slice pl ls.length cl) ls) (hk : Keeps (fun k => k = z) W w1) (hB : B ≤ w1.heap.size) (hown : w2.ownsRow B 3 1 (.slice q (ls.length + 1) r) (ls.length + 1) (ls.map (Value.int .i64) ++ [.int .i64 x])) (hg : (w1.alloc o).grownBy w2 (Value.slice pl ls.length cl).ownBlock)
    (hb : (Value.slice q (ls.length + 1) r).ownBlock = (Value.slice pl ls.length cl).ownBlock ∨ (Value.slice q (ls.length + 1) r).ownBlock = some (w1.alloc o).heap.size) :
    TBox w2 z now u v d x on (.slice (some ⟨nb, 0, none⟩) n n) (.slice pl ls.length cl) ∧ OrdQ z B now u v ⟨d, a, on, nd⟩ n nb (.slice pl ls.length cl) ls W (w2.setCell ⟨z, 7, none⟩ (.slice q (ls.length + 1) r)) := by
  have hk2 : Keeps (fun k => some k = (Value.slice pl ls.length cl).ownBlock) w1 w2 := (Keeps.alloc _ w1 o).trans ⟨hg.os, hg.tape, hg.output, hg.size, fun k hk hn => hg.block k hk hn⟩
  have hbox := k.box.keeps hk2 (fun e => k.box.ne_row k.nums z e.symm rfl)
  have hnd := k.needs.keeps hk2 (fun e => k.needs.ne_row k.nums nb e.symm rfl)
  refine ⟨hbox, .slice q (ls.length + 1) r, ⟨?_, k.len, ?_, ?_⟩, ?_, ?_, Nat.le_trans hB (Nat.le_trans hk2.size (setK w2 z 7 _).size)⟩
  · rw [hx]; exact hbox.set7 _
  · exact hnd.keeps (setK w2 z 7 _) (fun e => hbox.ne_bools hnd e.symm)
  · rw [hx]
    have := (setK w2 z 7 (.slice q (ls.length + 1) r)).row hown (fun g hg e => hbox.ne_row hown g hg e)
    simpa using this
  · exact ((hk.sub (fun _ _ h => .inl h)).trans (hk2.sub (fun _ _ h => .inr h))).trans ((setK w2 z 7 _).sub (fun _ _ h => .inl h))
  · intro g hg
    rcases hb with h | h
    · exact .inl (h.symm.trans hg)
    · rw [h] at hg
      injection hg with hg
      refine .inr ?_
      have := hk.size
      rw [← hg, World.size_alloc]
      omega

set_option maxHeartbeats 8000000 in
theorem gorder_ok (z B : Nat) (now : Int) (u v : Value) (g : GrS) (n nb : Nat) (lv : Value) (ls : List Int) (W : World) (k : TuAt W z B now u v g n nb lv ls) (h0 : 0 ≤ g.done) (h1 : nextG g ≤ 2147483645) (hB : B ≤ W.heap.size) (hl : ls.length ≤ 1000000) :
    Calls Tryz.prog 161 #[.pointer (some ⟨z, 0, none⟩)] W fun e w' => e = .returned (.tuple #[]) ∧ OrdQ z B now u v g n nb lv ls W w' := by
  obtain ⟨d, a, on, nd⟩ := g
  obtain ⟨i0, hi, hz0, hz1, hz2⟩ := info_parts cloneI_info
  have HI0 := Lib.hid (And.intro hi (And.intro hz0 (And.intro hz1 hz2)))
  obtain ⟨pl, cl, rfl⟩ := owns_slice k.nums
  obtain ⟨d0, d1, d2, d3, d4, d5, d6, d7⟩ := k.box.cells
  have m4 := k.box.marks 4
  simp only at h0 d3 d4 d5
  have HX := Lib.hid h1
  unfold nextG at h1
  clear hi hz0 hz1 hz2
  cases on with
  | true =>
    simp only [if_true] at h1
    have HNX := Lib.hid (show nextG ⟨d, a, true, nd⟩ = (d + 1 + 1) from rfl)
    have K1 := Lib.hid (k.set4 (d + 1 + 1))
    have HK1 := Lib.hid (setK W z 4 (.int .i64 (d + 1 + 1)))
    obtain ⟨w1, hw1⟩ : ∃ Y : World, Y = W.setCell ⟨z, 4, none⟩ (.int .i64 (d + 1 + 1)) := ⟨_, rfl⟩
    rw [← hw1] at K1 HK1
    have HW1 := Lib.hid hw1
    have HL := Lib.hid (show ls.length ≤ 1000000 ∧ B ≤ w1.heap.size from ⟨hl, Nat.le_trans hB HK1.out.size⟩)
    clear hw1 k hl hB
    go_enter Tryz.func161, Tryz.ntmps161
    go_upto_region 6 with fail
    rw [← HW1.out]
    clear d0 d1 d2 d3 d4 d5 d6 d7 m4
    obtain ⟨d0, d1, d2, d3, d4, d5, d6, d7⟩ := K1.out.box.cells
    simp only at d3 d4 d5
    go_wp2_with (at_builtin; refine wpList_append_own_at _ rfl _ _ 22 rfl B 3 i0 (.int .i64 0) 1 8 Tryz.underlying22 HI0.out.1 HI0.out.2.1 HI0.out.2.2.1 HI0.out.2.2.2 rfl (by decide) (.slice pl ls.length cl) ls.length (ls.map (Value.int .i64)) rfl (K1.out.nums.alloc _) ⟨w1.heap.size, 0, none⟩ 1 1 [.int .i64 (d + 1 + 1)] rfl rfl (cell_one_new _ _ _) (fun y hy => by rw [List.mem_singleton.1 hy]; rfl) (by have := HL.out.1; unfold maxLen; omega) (by have := HL.out.1; omega) (by have := HL.out.2; rw [World.size_alloc]; omega) ?_; intro v' w2 hown' hgrow _ hblk; obtain ⟨q, r, rfl⟩ := owns_slice hown'; have HF := Lib.hid (ord_fin z B now u v d a true nd n nb pl cl ls W w1 w2 (d + 1 + 1) HNX.out _ q r K1.out HK1.out HL.out.2 hown' hgrow hblk); have e7 := HF.out.1.cells.2.2.2.2.2.2.2; have m7 := HF.out.1.marks 7; clear hown' hgrow hblk d0 d1 d2 d3 d4 d5 d6 d7)
    go_end0
    exact ⟨rfl, HF.out.2⟩
  | false =>
    simp only [Bool.false_eq_true, if_false] at h1
    have HNX := Lib.hid (show nextG ⟨d, a, false, nd⟩ = (d + 1) from rfl)
    have K1 := Lib.hid (k.set4 (d + 1))
    have HK1 := Lib.hid (setK W z 4 (.int .i64 (d + 1)))
    obtain ⟨w1, hw1⟩ : ∃ Y : World, Y = W.setCell ⟨z, 4, none⟩ (.int .i64 (d + 1)) := ⟨_, rfl⟩
    rw [← hw1] at K1 HK1
    have HW1 := Lib.hid hw1
    have HL := Lib.hid (show ls.length ≤ 1000000 ∧ B ≤ w1.heap.size from ⟨hl, Nat.le_trans hB HK1.out.size⟩)
    clear hw1 k hl hB
    go_enter Tryz.func161, Tryz.ntmps161
    go_upto_region 6 with fail
    rw [← HW1.out]
    clear d0 d1 d2 d3 d4 d5 d6 d7 m4
    obtain ⟨d0, d1, d2, d3, d4, d5, d6, d7⟩ := K1.out.box.cells
    simp only at d3 d4 d5
    go_wp2_with (at_builtin; refine wpList_append_own_at _ rfl _ _ 22 rfl B 3 i0 (.int .i64 0) 1 8 Tryz.underlying22 HI0.out.1 HI0.out.2.1 HI0.out.2.2.1 HI0.out.2.2.2 rfl (by decide) (.slice pl ls.length cl) ls.length (ls.map (Value.int .i64)) rfl (K1.out.nums.alloc _) ⟨w1.heap.size, 0, none⟩ 1 1 [.int .i64 (d + 1)] rfl rfl (cell_one_new _ _ _) (fun y hy => by rw [List.mem_singleton.1 hy]; rfl) (by have := HL.out.1; unfold maxLen; omega) (by have := HL.out.1; omega) (by have := HL.out.2; rw [World.size_alloc]; omega) ?_; intro v' w2 hown' hgrow _ hblk; obtain ⟨q, r, rfl⟩ := owns_slice hown'; have HF := Lib.hid (ord_fin z B now u v d a false nd n nb pl cl ls W w1 w2 (d + 1) HNX.out _ q r K1.out HK1.out HL.out.2 hown' hgrow hblk); have e7 := HF.out.1.cells.2.2.2.2.2.2.2; have m7 := HF.out.1.marks 7; clear hown' hgrow hblk d0 d1 d2 d3 d4 d5 d6 d7)
    go_end0
    exact ⟨rfl, HF.out.2⟩

end Go.Proofs.YtdllhiihmpinoaaGreat
/-
  Package grace: whether all that are needed are one CPU.
  Conditions: the ranges of Go's types.
-/
namespace Go.Proofs.YtdllhiihmpinoaaGreat
set_option maxRecDepth 100000
open Go.RowKit Go.Shelf
attribute [local go_sem] Oper.semAt_some

theorem results_cell1 {fn : Func} {a : Tmp} {t : TypeId} (h : fn.results = #[.cell a t]) (tmps : Array Value) (P : Program) (w : World) {p : Addr} {x : Value} (ha : tmps.getD a undef = .pointer (some p)) (hx : (loadVar t p).run P w = .ok x w) : (results fn tmps).run P w = .ok x w := by
  unfold results
  rw [h]
  simp only [Array.mapM_eq_foldlM, List.foldlM_toArray, List.foldlM_cons, List.foldlM_nil, ha, asAddr, run_fmap, Sem.run_bind, Sem.run_pure, Result.andThen_ok, hx]
  rfl
theorem bool_load {W : World} {z : Nat} {x : Bool} (h : Boxed W z 4 (.bool x)) : (loadVar 4 ⟨z, 0, none⟩).run Tryz.prog W = .ok (.bool x) W := by
  have := h.cell
  simp [go_sem, this]
theorem boxed_under {W W' : World} {B : Nat} {t : TypeId} {v : Value} (h : Boxed W B t v) (hb : Below W.heap.size W W') : Boxed W' B t v := (hb.block B h.lt).trans h

theorem rep1_c (x c : Int) (b : Nat) (W : World) (hb : W.cell? ⟨b, 0, none⟩ = some (.int .i64 c)) :
    Calls Tryz.prog 170 #[.int .i64 x, .pointer (some ⟨b, 0, none⟩)] W fun e w' => e = .returned (.bool (x == c)) ∧ w' = W := by
  go_enter Tryz.func170, Tryz.ntmps170
  go_wp2
  go_ret
  exact ⟨rfl, rfl⟩

/-- The closure that report hands to all. -/
def repV (cb : Nat) : Value := .func (.func 170) #[] #[.pointer (some ⟨cb, 0, none⟩)]
/-- Between two rounds. -/
def AI (W : World) (cb : Nat) (c : Int) (pre : List Int) (W' : World) : Prop :=
  Boxed W' W.heap.size 129 (repV cb) ∧ Boxed W' (W.heap.size + 1) 4 (.bool false) ∧ Boxed W' cb 3 (.int .i64 c) ∧ Below W.heap.size W W' ∧ (pre.all (· == c)) = true
def AX (W : World) (c : Int) (cc : Code) (pre : List Int) (W' : World) : Prop :=
  cc = .ret ∧ Boxed W' (W.heap.size + 1) 4 (.bool false) ∧ Below W.heap.size W W' ∧ (pre.all (· == c)) = false
theorem ai_own (W : World) (cb : Nat) (c : Int) (z : Nat) (hz : W.heap.size + 2 ≤ z) : OwnFrom z (AI W cb c) := by
  rintro s X Y row ⟨h1, h2, h3, h4, h5⟩ hg hr
  have hr' := fun r e => (hr r e).2
  exact ⟨heap_own h1 hg hr', heap_own h2 hg hr', heap_own h3 hg hr', h4.grown hg h4.size (fun k e => by have := (hr k e).1; omega), h5⟩
theorem ax_own (W : World) (c : Int) (z : Nat) (hz : W.heap.size + 2 ≤ z) (cc : Code) : OwnFrom z (AX W c cc) := by
  rintro s X Y row ⟨h1, h2, h3, h4⟩ hg hr
  have hr' := fun r e => (hr r e).2
  exact ⟨h1, heap_own h2 hg hr', h3.grown hg h3.size (fun k e => by have := (hr k e).1; omega), h4⟩

set_option maxHeartbeats 8000000 in
theorem all_c (lb cb : Nat) (d a : Int) (on : Bool) (p : Option Addr) (k : Nat) (nd : List Bool) (c : Int) (W : World) (hmax : nd.length ≤ 4611686018427387904) (hg : GBox W lb d a on (.slice p nd.length k)) (hl : BoolOut (fun _ => False) W p nd) (hcb : Boxed W cb 3 (.int .i64 c)) :
    Calls Tryz.prog 169 #[.func (.func 167) #[] #[.pointer (some ⟨lb, 0, none⟩)], .func (.func 170) #[] #[.pointer (some ⟨cb, 0, none⟩)]] W fun e w' => e = .returned (.bool ((trN nd nd.length).all (· == c))) ∧ Below W.heap.size W w' := by
  obtain ⟨w0, hw0⟩ : ∃ X : World, X = (W.alloc (.cells #[repV cb] 129)).alloc (.cells #[.bool false] 4) := ⟨_, rfl⟩
  have hb0 : Below W.heap.size W w0 := by rw [hw0]; exact below2 _ _ _
  have HF := Lib.hid (show Boxed w0 W.heap.size 129 (repV cb) ∧ Boxed w0 (W.heap.size + 1) 4 (.bool false) ∧ w0.heap.size = W.heap.size + 2 by
    rw [hw0]
    refine ⟨(Boxed.new W _ (repV cb)).alloc _, ?_, by simp⟩
    have := Boxed.new (W.alloc (.cells #[repV cb] 129)) 4 (.bool false)
    rwa [World.size_alloc] at this)
  have HG := Lib.hid (show GBox w0 lb d a on (.slice p nd.length k) ∧ BoolOut (fun _ => False) w0 p nd ∧ AI W cb c [] w0 from ⟨hg.below hb0, hl.below hb0, HF.out.1, HF.out.2.1, boxed_under hcb hb0, hb0, rfl⟩)
  clear hg hl hcb hb0
  unfold repV at hw0
  refine (callsIn_wide (n := 9)).1 ?_
  refine callsIn_of_wp_marks Tryz.func169 rfl trivial ?_ rfl
  simp only [Tryz.ntmps169, List.size_toArray, List.length_cons, List.length_nil, Nat.reduceAdd, Nat.reduceSub, Array.replicate_succ, Array.replicate_zero, List.push_toArray, List.append_toArray, List.nil_append, List.cons_append]
  gi_wp2
  rw [← hw0]
  clear hw0
  have hAI := ai_own W cb c w0.heap.size (by have := HF.out.2.2; omega)
  refine wpIn_rangeDeep rfl (by omega) (gf := 167) (lb := #[.pointer (some ⟨lb, 0, none⟩)]) rfl trivial (enters_of Tryz.func167 (by kernel_rfl) rfl)
    (needed_stops 8 (by omega) (fun _ => False) lb d a on p k nd w0 hmax HG.out.1 HG.out.2.1) (fun h k => h.trans k) (fun W l o o' _ => KeepsCells.turn _ W l o o') (Below.refl _ _) (fun _ => rfl)
    (AI W cb c) (AX W c) hAI (ax_own W c _ (by have := HF.out.2.2; omega)) HG.out.2.2
    (fun x a' _ => a' = { tmps := #[.func (.func 167) #[] #[.pointer (some ⟨lb, 0, none⟩)], .func (.func 170) #[] #[.pointer (some ⟨cb, 0, none⟩)], undef, .pointer (some ⟨W.heap.size, 0, none⟩), .pointer (some ⟨W.heap.size + 1, 0, none⟩), .int .i64 x, .func (.func 167) #[] #[.pointer (some ⟨lb, 0, none⟩)], .int .i64 x, undef, undef, undef, undef], defers := [] })
    ?hAx ?assign ?body ?done ?stop
  case hAx => exact fun x a' => ownFrom_pure _ _
  case assign =>
    rintro l' pre x X K hi hK
    gi_wp2
    exact hK _ _ (KeepsFrom.refl _ _) (KeepsCells.refl _ _) hi rfl
  case body =>
    rintro l' pre x a' X hl' _ hI rfl hlen -
    obtain ⟨hi1, hi2, hi3, hi4, hi5⟩ := hI
    have e1 := hi1.cell
    unfold repV at e1
    have f2 := hi2.frozen
    have e2 := hi2.cell
    have HC := Lib.hid (rep1_c x c cb X hi3.cell)
    have HEQ := Lib.hid (show (pre ++ [x]).all (· == c) = (x == c) by rw [List.all_append, hi5]; simp)
    have HI := Lib.hid (And.intro hi1 (And.intro hi2 (And.intro hi3 hi4)))
    clear hi1 hi2 hi3 hi4 hi5 hlen hAI HG
    cases hx : (x == c) with
    | true =>
      rw [hx] at HC HEQ
      gi_wp2_with fail
      refine ⟨trivial, ((callsIn_wide.2 HC.out).inRound l').mono ?_⟩
      rintro e X2 ⟨rfl, rfl⟩
      gi_wp2
      exact ⟨KeepsFrom.refl _ _, KeepsCells.refl _ _, HI.out.1, HI.out.2.1, HI.out.2.2.1, HI.out.2.2.2, HEQ.out⟩
    | false =>
      rw [hx] at HC HEQ
      gi_wp2_with fail
      refine ⟨trivial, ((callsIn_wide.2 HC.out).inRound l').mono ?_⟩
      rintro e X2 ⟨rfl, rfl⟩
      gi_wp2
      exact ⟨(KeepsOthers.setCell _ _ _).from _, rfl, HI.out.2.1.set _, HI.out.2.2.2.setCell (p := ⟨W.heap.size + 1, 0, none⟩) (by show W.heap.size ≤ W.heap.size + 1; omega) _, HEQ.out⟩
  case done =>
    rintro D xs X hD rfl ⟨h1, h2, h3, h4, h5⟩ hK
    have e2 := h2.cell
    have f2 := h2.frozen
    have HX := Lib.hid (show Boxed (X.setCell ⟨W.heap.size + 1, 0, none⟩ (.bool true)) (W.heap.size + 1) 4 (.bool true) ∧ Below W.heap.size W (X.setCell ⟨W.heap.size + 1, 0, none⟩ (.bool true)) from ⟨h2.set _, h4.setCell (p := ⟨W.heap.size + 1, 0, none⟩) (by show W.heap.size ≤ W.heap.size + 1; omega) _⟩)
    have HK := Lib.hid (show (X.setCell ⟨W.heap.size + 1, 0, none⟩ (.bool true)).heap[D]? = some (.deferred (some [])) from ((setK X (W.heap.size + 1) 0 (.bool true)).block D (Array.getElem?_eq_some_iff.1 hK).1 (by have := HF.out.2.2; omega)).trans hK)
    have HW := Lib.hid hD
    have H5 := Lib.hid h5
    have HSZ := Lib.hid (show W.heap.size + 2 ≤ w0.heap.size by have := HF.out.2.2; omega)
    clear h1 h2 h3 h4 h5 hAI HG hD hK
    gi_wp2
    refine leaves_marks (B := W.heap.size + 2) [D] _ ((Marks.nil _ _).cons (Nat.le_trans HSZ.out HW.out) (by simp) HK.out) fun X' hX' => ⟨_, results_cell1 rfl _ _ _ rfl (bool_load ((hX'.block (W.heap.size + 1) (by omega)).trans HX.out.1)), ?_, HX.out.2.trans (hX'.mono (by omega))⟩
    rw [H5.out]
  case stop =>
    rintro D cc pre X hD ⟨j, hj, hpre⟩ ⟨rfl, h2, h3, h4⟩ hK
    have HR := Lib.hid (show (trN nd nd.length).all (· == c) = false by
      obtain ⟨m, hm⟩ := trN_pre nd j (nd.length - j)
      rw [show j + (nd.length - j) = nd.length by omega] at hm
      rw [hm, List.all_append, ← hpre, h4, Bool.false_and])
    have HX := Lib.hid (And.intro h2 h3)
    have HW := Lib.hid (And.intro hD hK)
    have HSZ := Lib.hid (show W.heap.size + 2 ≤ w0.heap.size by have := HF.out.2.2; omega)
    clear h2 h3 h4 hAI HG hD hK hpre hj
    gi_wp2
    refine leaves_marks (B := W.heap.size + 2) [D] _ ((Marks.nil _ _).cons (Nat.le_trans HSZ.out HW.out.1) (by simp) HW.out.2) fun X' hX' => ⟨_, results_cell1 rfl _ _ _ rfl (bool_load ((hX'.block (W.heap.size + 1) (by omega)).trans HX.out.1)), ?_, HX.out.2.trans (hX'.mono (by omega))⟩
    rw [HR.out]

end Go.Proofs.YtdllhiihmpinoaaGreat
/-
  Package grace: begin, report, picked.
  Conditions: the ranges of Go's types.
-/
namespace Go.Proofs.YtdllhiihmpinoaaGreat
set_option maxRecDepth 100000
open Go.RowKit Go.Shelf
attribute [local go_sem] Oper.semAt_some

def beginE (g : GrS) : Int := if g.on = true then 5 else if g.asked = g.done then 4 else 0
def beginG (g : GrS) : GrS := ⟨g.done, g.asked, true, List.replicate g.nd.length true⟩

theorem rep_set (l : List Bool) (i : Nat) (h : i < l.length) : (List.replicate i true ++ l.drop i).set i true = List.replicate (i + 1) true ++ l.drop (i + 1) := by
  rw [List.set_append_right _ _ (by simp), List.length_replicate, Nat.sub_self, List.drop_eq_getElem_cons h, List.set_cons_zero, List.replicate_succ', List.append_assoc]
  rfl

set_option maxHeartbeats 4000000 in
theorem gbegin_no (z B : Nat) (now : Int) (u v : Value) (g : GrS) (n nb : Nat) (lv : Value) (ls : List Int) (W : World) (k : TuAt W z B now u v g n nb lv ls) (h : beginE g ≠ 0) :
    Calls Tryz.prog 164 #[.pointer (some ⟨z, 0, none⟩)] W fun e w' => e = woe (beginE g) ∧ Below W.heap.size W w' := by
  obtain ⟨d, a, on, nd⟩ := g
  obtain ⟨d0, d1, d2, d3, d4, d5, d6, d7⟩ := k.box.cells
  unfold beginE at h ⊢
  simp only at h d3 d4 d5 ⊢
  clear k
  cases on with
  | true =>
    simp only [if_true]
    clear h
    go_enter Tryz.func164, Tryz.ntmps164
    go_wp2
    exact ⟨rfl, rfl, Below.refl _ _⟩
  | false =>
    simp only [Bool.false_eq_true, if_false] at h ⊢
    by_cases e : a = d
    · have hq : (a == d) = true := by rw [beq_iff_eq]; exact e
      rw [if_pos e]
      clear h e
      go_enter Tryz.func164, Tryz.ntmps164
      go_wp2
      go_quiet (fail)
      go_wp2
      exact ⟨rfl, rfl, below_drewN (Below.refl _ _) _⟩
    · rw [if_neg e] at h
      exact absurd rfl h

set_option maxHeartbeats 8000000 in
theorem gbegin_ok (z B : Nat) (now : Int) (u v : Value) (g : GrS) (n nb : Nat) (lv : Value) (ls : List Int) (W : World) (k : TuAt W z B now u v g n nb lv ls) (h : beginE g = 0) (hn : n ≤ 8) :
    Calls Tryz.prog 164 #[.pointer (some ⟨z, 0, none⟩)] W fun e w' => e = .returned (.tuple #[]) ∧ TuAt w' z B now u v (beginG g) n nb lv ls ∧ Keeps (fun k => k = z ∨ k = nb) W w' := by
  obtain ⟨d, a, on, nd⟩ := g
  obtain ⟨d0, d1, d2, d3, d4, d5, d6, d7⟩ := k.box.cells
  have m5 := k.box.marks 5
  unfold beginE at h
  simp only at h d3 d4 d5
  cases on with
  | true => simp at h
  | false =>
    simp only [Bool.false_eq_true, if_false] at h
    have e : ¬ a = d := fun e => by rw [if_pos e] at h; cases h
    have hq : (a == d) = false := by rw [beq_eq_false_iff_ne]; exact e
    have hlen := k.len
    simp only at hlen
    have HLEN := Lib.hid hlen
    have HK := Lib.hid k
    clear h e k hlen
    go_enter Tryz.func164, Tryz.ntmps164
    go_wp2
    go_quiet (fail)
    have HI0 := Lib.hid (show TuAt ((W.setCell ⟨z, 5, none⟩ (.bool true)).drewN nq) z B now u v ⟨d, a, true, List.replicate 0 true ++ nd.drop 0⟩ n nb lv ls ∧ Keeps (fun k => k = z ∨ k = nb) W ((W.setCell ⟨z, 5, none⟩ (.bool true)).drewN nq) from
      ⟨(HK.out.set5 true).keeps (S := fun _ => False) ((Keeps.refl _ _).drewN nq) id id (fun _ _ => id), ((setK W z 5 (.bool true)).sub (fun _ _ h => .inl h)).drewN nq⟩)
    clear HK d0 d1 d2 d3 d4 d7 hq
    go_wp2
    go_loopw [33] (fun iv wr => ∃ i : Nat, i ≤ n ∧ iv = .int .i64 (i : Int) ∧ Hid (TuAt wr z B now u v ⟨d, a, true, List.replicate i true ++ nd.drop i⟩ n nb lv ls ∧ Keeps (fun k => k = z ∨ k = nb) W wr)) (fun iv _ => n - (intOf iv).toNat)
    case atStart => exact ⟨0, Nat.zero_le _, rfl, HI0⟩
    case round =>
      clear HI0 d5 d6 m5
      obtain ⟨i, hi, rfl, HI⟩ := hrel
      by_cases hlt : i < n
      · have k := HI.out.1
        have e6 := k.box.cells.2.2.2.2.2.2.1
        have hil : i < (List.replicate i true ++ nd.drop i).length := by rw [k.len]; exact hlt
        have fi := k.needs.free i
        obtain ⟨x, ci⟩ : ∃ x : Bool, wr.cell? ⟨nb, i, none⟩ = some (.bool x) := ⟨_, k.needs.cell i hil⟩
        have HN := Lib.hid (show TuAt (wr.setCell ⟨nb, i, none⟩ (.bool true)) z B now u v ⟨d, a, true, List.replicate (i + 1) true ++ nd.drop (i + 1)⟩ n nb lv ls ∧ Keeps (fun k => k = z ∨ k = nb) W (wr.setCell ⟨nb, i, none⟩ (.bool true)) by
          have h1 := k.setNeed i true
          simp only at h1
          rw [rep_set nd i (by rw [HLEN.out]; exact hlt)] at h1
          exact ⟨h1, HI.out.2.trans ((setK wr nb i (.bool true)).sub (fun _ _ h => .inr h))⟩)
        have hi0 : (0 : Int) ≤ (i : Int) := by omega
        have hin : (i : Int) < (n : Int) := by omega
        clear k HI hil
        go_wp2
        go_roundw
        case rel => exact ⟨i + 1, by omega, by go_num, HN⟩
        case measure => simp [intOf]; omega
      · obtain rfl : i = n := by omega
        clear hlt hi
        go_wp2
        go_end0
        refine ⟨rfl, ?_, HI.out.2⟩
        have h1 := HI.out.1
        unfold beginG
        simp only
        rw [List.drop_eq_nil_of_le (by rw [HLEN.out]; exact Nat.le_refl _), List.append_nil] at h1
        rw [HLEN.out]
        exact h1

end Go.Proofs.YtdllhiihmpinoaaGreat
/-
  Package grace: report, picked.
  Conditions: the ranges of Go's types.
-/
namespace Go.Proofs.YtdllhiihmpinoaaGreat
set_option maxRecDepth 100000
open Go.RowKit Go.Shelf
attribute [local go_sem] Oper.semAt_some

/-- Is nobody needed but this one? -/
def lastB (nd : List Bool) (i : Nat) : Bool := (trN nd nd.length).all (· == (i : Int))
def reportE (g : GrS) (c : Int) : Int := if hasB g.nd.length c = false then 2 else if g.on = true then 0 else 4
def reportG (g : GrS) (i : Nat) : GrS := if lastB g.nd i = true then ⟨g.done + 1, g.asked, false, g.nd.set i false⟩ else ⟨g.done, g.asked, g.on, g.nd.set i false⟩
def pickE (g : GrS) (c : Int) : Int := if hasB g.nd.length c = false then 2 else 0
def pickG (g : GrS) (i : Nat) (q : Bool) : GrS := if g.on = true then (if q = true then reportG g i else g) else if g.done < g.asked then beginG g else g

set_option maxHeartbeats 4000000 in
theorem greport_no (z B : Nat) (now : Int) (u v : Value) (g : GrS) (n nb : Nat) (lv : Value) (ls : List Int) (c : Int) (W : World) (k : TuAt W z B now u v g n nb lv ls) (h : reportE g c ≠ 0) :
    Calls Tryz.prog 163 #[.pointer (some ⟨z, 0, none⟩), .int .i64 c] W fun e w' => e = woe (reportE g c) ∧ Below W.heap.size W w' := by
  obtain ⟨w1, hw1⟩ : ∃ X : World, X = W.alloc (.cells #[.int .i64 c] 3) := ⟨_, rfl⟩
  have hb1 : Below W.heap.size W w1 := by rw [hw1]; exact below1 _ _
  have HB := Lib.hid hb1
  have k1 := k.below hb1
  have hbx : Boxed w1 W.heap.size 3 (.int .i64 c) := by rw [hw1]; exact Boxed.new _ _ _
  have e0 := hbx.cell
  rw [hw1] at e0
  unfold reportE at h ⊢
  rw [k.len] at h ⊢
  cases hh : hasB n c with
  | false =>
    rw [if_pos rfl]
    have HC := Lib.hid (gat_no z now u v g.done g.asked g.on _ n n lv c w1 k1.box hh)
    clear h k k1 hb1 hh hbx
    go_enter Tryz.func163, Tryz.ntmps163
    go_wp2_with fail
    rw [← hw1]
    (with_reducible refine HC.out.mono ?_)
    rintro e w2 ⟨rfl, hb2⟩
    exact ⟨rfl, rfl, below_then HB.out HB.out.size hb2⟩
  | true =>
    rw [hh] at h
    rw [if_neg (by simp)] at h ⊢
    cases ho : g.on with
    | true => rw [ho] at h; exact absurd rfl h
    | false =>
      rw [if_neg (by simp)]
      have HC := Lib.hid (gat_ok z now u v g.done g.asked g.on _ n n lv c w1 k1.box hh)
      have HK1 := Lib.hid k1
      clear h k k1 hb1 hh hbx
      go_enter Tryz.func163, Tryz.ntmps163
      go_wp2_with fail
      rw [← hw1]
      (with_reducible refine HC.out.mono ?_)
      rintro e w2 ⟨rfl, hb2⟩
      have e5 := (HK1.out.below hb2).box.cells.2.2.2.2.2.1
      simp only [ho] at e5
      have HB2 := Lib.hid (below_then HB.out HB.out.size hb2)
      clear hb2 ho
      go_wp2
      exact ⟨rfl, rfl, HB2.out⟩

set_option maxHeartbeats 16000000 in
theorem greport_ok (z B : Nat) (now : Int) (u v : Value) (g : GrS) (n nb : Nat) (lv : Value) (ls : List Int) (i : Nat) (W : World) (k : TuAt W z B now u v g n nb lv ls) (ho : g.on = true) (hi : i < n) (hn : n ≤ 8) (h0 : 0 ≤ g.done) (h1 : g.done ≤ 2147483645) :
    Calls Tryz.prog 163 #[.pointer (some ⟨z, 0, none⟩), .int .i64 (i : Int)] W fun e w' => e = .returned (.tuple #[]) ∧ TuAt w' z B now u v (reportG g i) n nb lv ls ∧ Keeps (fun k => k = z ∨ k = nb) W w' := by
  obtain ⟨d, a, on, nd⟩ := g
  simp only at ho h0 h1
  subst ho
  obtain ⟨w1, hw1⟩ : ∃ X : World, X = W.alloc (.cells #[.int .i64 (i : Int)] 3) := ⟨_, rfl⟩
  have hb1 : Below W.heap.size W w1 := by rw [hw1]; exact below1 _ _
  have k1 := k.below hb1
  have hlen := k.len
  simp only at hlen
  have HLEN := Lib.hid hlen
  have hz : z < W.heap.size := k.box.lt
  have hnb : nb < W.heap.size := k.needs.lt
  have HZ := Lib.hid (And.intro hz hnb)
  have hbx : Boxed w1 W.heap.size 3 (.int .i64 (i : Int)) := by rw [hw1]; exact Boxed.new _ _ _
  have e0 := hbx.cell
  rw [hw1] at e0
  have HC := Lib.hid (gat_ok z now u v d a true _ n n lv (i : Int) w1 k1.box (by unfold hasB; simp; omega))
  have HK1 := Lib.hid (show TuAt w1 z B now u v ⟨d, a, true, nd⟩ n nb lv ls ∧ Boxed w1 W.heap.size 3 (.int .i64 (i : Int)) ∧ Below W.heap.size W w1 from ⟨k1, hbx, hb1⟩)
  clear k k1 hb1 hbx hlen hz hnb
  go_enter Tryz.func163, Tryz.ntmps163
  go_wp2_with fail
  rw [← hw1]
  (with_reducible refine HC.out.mono ?_)
  rintro e w2 ⟨rfl, hb2⟩
  have HK2 := Lib.hid (show TuAt w2 z B now u v ⟨d, a, true, nd⟩ n nb lv ls ∧ Boxed w2 W.heap.size 3 (.int .i64 (i : Int)) ∧ Below W.heap.size W w2 from ⟨HK1.out.1.below hb2, boxed_under HK1.out.2.1 hb2, below_then HK1.out.2.2 HK1.out.2.2.size hb2⟩)
  obtain ⟨d0, d1, d2, d3, d4, d5, d6, d7⟩ := HK2.out.1.box.cells
  simp only at d3 d4 d5
  clear hb2 HK1 HC e0 hw1
  go_wp2_with fail
  (with_reducible refine (needed_c d a true (.slice (some ⟨nb, 0, none⟩) n n) w2).mono ?_)
  rintro e w3 ⟨rfl, hw3⟩
  have hb3 : Below w2.heap.size w2 w3 := by rw [hw3]; exact below1 _ _
  have HK3 := Lib.hid (show TuAt w3 z B now u v ⟨d, a, true, nd⟩ n nb lv ls ∧ Boxed w3 W.heap.size 3 (.int .i64 (i : Int)) ∧ Below W.heap.size W w3 from ⟨HK2.out.1.below hb3, boxed_under HK2.out.2.1 hb3, below_then HK2.out.2.2 HK2.out.2.2.size hb3⟩)
  have HA := Lib.hid (all_c w2.heap.size W.heap.size d a true (some ⟨nb, 0, none⟩) n nd (i : Int) w3 (by rw [HLEN.out]; omega) (by rw [HLEN.out, hw3]; exact GBox.new _ _ _ _ _) (fun _ => ⟨nb, 0, rfl, fun h => h, fun j hj => by rw [Nat.zero_add]; exact HK3.out.1.needs.cell j hj⟩) HK3.out.2.1)
  clear hw3 hb3 HK2 d0 d1 d2 d3 d4 d5 d6 d7
  go_wp2_with fail
  (with_reducible refine HA.out.mono ?_)
  rintro e w4 ⟨rfl, hb4⟩
  have HK4 := Lib.hid (show TuAt w4 z B now u v ⟨d, a, true, nd⟩ n nb lv ls ∧ Boxed w4 W.heap.size 3 (.int .i64 (i : Int)) ∧ Below W.heap.size W w4 from ⟨HK3.out.1.below hb4, boxed_under HK3.out.2.1 hb4, below_then HK3.out.2.2 HK3.out.2.2.size hb4⟩)
  obtain ⟨lb, hlb⟩ : ∃ x, x = (trN nd nd.length).all (· == (i : Int)) := ⟨_, rfl⟩
  have HLB := Lib.hid (show lastB nd i = lb by rw [hlb]; rfl)
  rw [← hlb]
  have d6 := HK4.out.1.box.cells.2.2.2.2.2.2.1
  have e1 := HK4.out.2.1.cell
  obtain ⟨x, ci⟩ : ∃ x : Bool, w4.cell? ⟨nb, i, none⟩ = some (.bool x) := ⟨_, HK4.out.1.needs.cell i (by simp only; rw [HLEN.out]; exact hi)⟩
  have fi := HK4.out.1.needs.free i
  have hi0 : (0 : Int) ≤ (i : Int) := by omega
  have hin : (i : Int) < (n : Int) := by omega
  clear hb4 hlb HK3 HA
  go_wp2_with fail
  go_region
  have HK5 := Lib.hid (show TuAt (w4.setCell ⟨nb, i, none⟩ (.bool false)).drew z B now u v ⟨d, a, true, nd.set i false⟩ n nb lv ls ∧ Keeps (fun k => k = z ∨ k = nb) W (w4.setCell ⟨nb, i, none⟩ (.bool false)).drew from
    ⟨(HK4.out.1.setNeed i false).keeps (S := fun _ => False) ((Keeps.refl _ _).drewN 1) id id (fun _ _ => id), (((Keeps.of_below HK4.out.2.2).trans ((setK w4 nb i (.bool false)).sub (fun _ _ h => .inr h))).drewN 1)⟩)
  obtain ⟨w5, hw5⟩ : ∃ X : World, X = (w4.setCell ⟨nb, i, none⟩ (.bool false)).drew := ⟨_, rfl⟩
  rw [← hw5] at HK5
  rw [← hw5]
  clear hw5 HK4 d6 e1 ci fi
  cases lb with
  | false =>
    go_wp2
    go_end0
    refine ⟨rfl, ?_, HK5.out.2⟩
    unfold reportG
    simp only
    rw [HLB.out, if_neg Bool.false_ne_true]
    exact HK5.out.1
  | true =>
    obtain ⟨d0, d1, d2, d3, d4, d5, d6, d7⟩ := HK5.out.1.box.cells
    simp only at d3 d4 d5
    have m3 := HK5.out.1.box.marks 3
    have m5 := HK5.out.1.box.marks 5
    have HK6 := Lib.hid (show TuAt ((w5.setCell ⟨z, 3, none⟩ (.int .i64 (d + 1))).setCell ⟨z, 5, none⟩ (.bool false)) z B now u v ⟨d + 1, a, false, nd.set i false⟩ n nb lv ls ∧ Keeps (fun k => k = z ∨ k = nb) W ((w5.setCell ⟨z, 3, none⟩ (.int .i64 (d + 1))).setCell ⟨z, 5, none⟩ (.bool false)) from
      ⟨(HK5.out.1.set3 (d + 1)).set5 false, (HK5.out.2.trans ((setK w5 z 3 (.int .i64 (d + 1))).sub (fun _ _ h => .inl h))).trans ((setK _ z 5 (.bool false)).sub (fun _ _ h => .inl h))⟩)
    clear HK5
    go_wp2
    go_end0
    refine ⟨rfl, ?_, HK6.out.2⟩
    unfold reportG
    simp only
    rw [HLB.out, if_pos rfl]
    exact HK6.out.1


set_option maxHeartbeats 4000000 in
theorem gpicked_no (z B : Nat) (now : Int) (u v : Value) (g : GrS) (n nb : Nat) (lv : Value) (ls : List Int) (c : Int) (q : Bool) (W : World) (k : TuAt W z B now u v g n nb lv ls) (h : hasB n c = false) :
    Calls Tryz.prog 147 #[.pointer (some ⟨z, 0, none⟩), .int .i64 c, .bool q] W fun e w' => e = woe 2 ∧ Below W.heap.size W w' := by
  have HC := Lib.hid (gat_no z now u v g.done g.asked g.on _ n n lv c W k.box h)
  clear h k
  go_enter Tryz.func147, Tryz.ntmps147
  go_wp2_with fail
  (with_reducible refine HC.out.mono ?_)
  rintro e w2 ⟨rfl, hb2⟩
  exact ⟨rfl, rfl, hb2⟩

set_option maxHeartbeats 16000000 in
theorem gpicked_ok (z B : Nat) (now : Int) (u v : Value) (g : GrS) (n nb : Nat) (lv : Value) (ls : List Int) (i : Nat) (q : Bool) (W : World) (k : TuAt W z B now u v g n nb lv ls) (hi : i < n) (hn : n ≤ 8) (h0 : 0 ≤ g.done) (h1 : g.done ≤ 2147483645) (h2 : g.done ≤ g.asked) :
    Calls Tryz.prog 147 #[.pointer (some ⟨z, 0, none⟩), .int .i64 (i : Int), .bool q] W fun e w' => e = .returned (.tuple #[]) ∧ TuAt w' z B now u v (pickG g i q) n nb lv ls ∧ Keeps (fun k => k = z ∨ k = nb) W w' := by
  have HC := Lib.hid (gat_ok z now u v g.done g.asked g.on _ n n lv (i : Int) W k.box (by unfold hasB; simp; omega))
  have HK := Lib.hid k
  obtain ⟨d, a, on, nd⟩ := g
  simp only at h0 h1 h2 HC
  clear k
  cases on with
  | true =>
    cases q with
    | true =>
      have HR := Lib.hid (fun (Z : World) (k : TuAt Z z B now u v ⟨d, a, true, nd⟩ n nb lv ls) => greport_ok z B now u v ⟨d, a, true, nd⟩ n nb lv ls i Z k rfl hi hn h0 h1)
      go_enter Tryz.func147, Tryz.ntmps147
      go_wp2_with fail
      (with_reducible refine HC.out.mono ?_)
      rintro e w2 ⟨rfl, hb2⟩
      have HK2 := Lib.hid (HK.out.below hb2)
      have d5 := HK2.out.box.cells.2.2.2.2.2.1
      simp only at d5
      have HB2 := Lib.hid hb2
      clear hb2 HK
      go_wp2_with fail
      (with_reducible refine (HR.out w2 HK2.out).mono ?_)
      rintro e w3 ⟨rfl, hk3, hkk⟩
      have HF := Lib.hid (And.intro hk3 ((Keeps.of_below HB2.out).trans hkk))
      clear hk3 hkk HK2 HB2 d5
      go_wp2
      go_end0
      exact ⟨rfl, HF.out⟩
    | false =>
      go_enter Tryz.func147, Tryz.ntmps147
      go_wp2_with fail
      (with_reducible refine HC.out.mono ?_)
      rintro e w2 ⟨rfl, hb2⟩
      have HK2 := Lib.hid (HK.out.below hb2)
      have d5 := HK2.out.box.cells.2.2.2.2.2.1
      simp only at d5
      have HB2 := Lib.hid hb2
      clear hb2 HK
      go_wp2
      go_quiet (fail)
      go_wp2
      go_end0
      exact ⟨rfl, HK2.out.keeps (S := fun _ => False) ((Keeps.refl _ _).drewN _) id id (fun _ _ => id), (Keeps.of_below HB2.out).drewN _⟩
  | false =>
    by_cases hlt : d < a
    · have hdec : decide (d < a) = true := decide_eq_true hlt
      have HR := Lib.hid (fun (Z : World) (k : TuAt Z z B now u v ⟨d, a, false, nd⟩ n nb lv ls) => gbegin_ok z B now u v ⟨d, a, false, nd⟩ n nb lv ls Z k (by unfold beginE; simp; omega) hn)
      go_enter Tryz.func147, Tryz.ntmps147
      go_wp2_with fail
      (with_reducible refine HC.out.mono ?_)
      rintro e w2 ⟨rfl, hb2⟩
      have HK2 := Lib.hid (HK.out.below hb2)
      obtain ⟨d0, d1, d2, d3, d4, d5, d6, d7⟩ := HK2.out.box.cells
      simp only at d3 d4 d5
      have HB2 := Lib.hid hb2
      clear hb2 HK
      go_wp2
      go_quiet (fail)
      go_wp2_with fail
      (with_reducible refine (HR.out _ (HK2.out.keeps (S := fun _ => False) ((Keeps.refl _ _).drewN _) id id (fun _ _ => id))).mono ?_)
      rintro e w3 ⟨rfl, hk3, hkk⟩
      have HF := Lib.hid (show TuAt w3 z B now u v (beginG ⟨d, a, false, nd⟩) n nb lv ls ∧ Keeps (fun k => k = z ∨ k = nb) W w3 from ⟨hk3, ((Keeps.of_below HB2.out).drewN _).trans hkk⟩)
      have HP := Lib.hid (show pickG ⟨d, a, false, nd⟩ i q = beginG ⟨d, a, false, nd⟩ by unfold pickG; rw [if_neg (by simp), if_pos hlt])
      clear hk3 hkk HK2 HB2 hlt hdec d0 d1 d2 d3 d4 d5 d6 d7
      go_wp2
      go_end0
      exact ⟨rfl, by rw [HP.out]; exact HF.out.1, HF.out.2⟩
    · have hdec : decide (d < a) = false := decide_eq_false hlt
      go_enter Tryz.func147, Tryz.ntmps147
      go_wp2_with fail
      (with_reducible refine HC.out.mono ?_)
      rintro e w2 ⟨rfl, hb2⟩
      have HK2 := Lib.hid (HK.out.below hb2)
      obtain ⟨d0, d1, d2, d3, d4, d5, d6, d7⟩ := HK2.out.box.cells
      simp only at d3 d4 d5
      have HB2 := Lib.hid hb2
      have HP := Lib.hid (show pickG ⟨d, a, false, nd⟩ i q = ⟨d, a, false, nd⟩ by unfold pickG; rw [if_neg (by simp), if_neg (by simp only; omega)])
      clear hb2 HK
      go_wp2
      go_quiet (fail)
      go_wp2
      go_end0
      exact ⟨rfl, by rw [HP.out]; exact HK2.out.keeps (S := fun _ => False) ((Keeps.refl _ _).drewN _) id id (fun _ _ => id), (Keeps.of_below HB2.out).drewN _⟩

end Go.Proofs.YtdllhiihmpinoaaGreat
/-
  Package grace: hold.
  Conditions: the ranges of Go's types.
-/
namespace Go.Proofs.YtdllhiihmpinoaaGreat
set_option maxRecDepth 100000
open Go.RowKit Go.Shelf
attribute [local go_sem] Oper.semAt_some

set_option maxHeartbeats 4000000 in
theorem ghold_no (z : Nat) (g : GrS) (v : Value) (W : World) (hn : BoolsAt W v g.nd) (h1 : g.nd.length ≤ 9223372036854775807) (hm : mayG g = false) :
    Calls Tryz.prog 116 #[.pointer (some ⟨z, 0, none⟩), .agg #[.int .i64 g.done, .int .i64 g.asked, .bool g.on, v]] W fun e w' => e = woe 220 ∧ Below W.heap.size W w' := by
  obtain ⟨w0, hw0⟩ : ∃ X : World, X = W.alloc (.cells #[.int .i64 g.done, .int .i64 g.asked, .bool g.on, v] 27) := ⟨_, rfl⟩
  have hb0 : Below W.heap.size W w0 := by rw [hw0]; exact below1 _ _
  have HB := Lib.hid hb0
  have HC := Lib.hid (gcheck_c g v w0 (bools_below hn hb0) h1)
  rw [hm, if_neg Bool.false_ne_true] at HC
  have hbx : GBox w0 W.heap.size g.done g.asked g.on v := by rw [hw0]; exact GBox.new _ _ _ _ _
  obtain ⟨d0, d1, d2, d3⟩ := hbx.cells
  obtain ⟨p, c, rfl, -⟩ := hn
  clear hb0 h1 hbx hm
  go_enter Tryz.func116, Tryz.ntmps116
  go_wp2_with fail
  rw [← hw0]
  clear hw0
  (with_reducible refine HC.out.mono ?_)
  rintro e w1 ⟨rfl, hb1⟩
  have HB1 := Lib.hid (below_then HB.out HB.out.size hb1)
  clear hb1
  go_wp2_with fail
  (with_reducible refine (must_no 220 (by decide) w1).mono ?_)
  rintro e w2 ⟨rfl, rfl⟩
  exact ⟨rfl, rfl, HB1.out⟩

set_option maxHeartbeats 8000000 in
theorem ghold_ok (z B : Nat) (now : Int) (u0 v0 : Value) (dd0 a0 : Int) (on0 : Bool) (nv0 lv : Value) (ls : List Int) (g : GrS) (v : Value) (W : World) (hn : BoolsAt W v g.nd) (h1 : g.nd.length ≤ 8) (hm : mayG g = true)
    (kb : TBox W z now u0 v0 dd0 a0 on0 nv0 lv) (hr : W.ownsRow B 3 1 lv ls.length (ls.map (Value.int .i64))) :
    Calls Tryz.prog 116 #[.pointer (some ⟨z, 0, none⟩), .agg #[.int .i64 g.done, .int .i64 g.asked, .bool g.on, v]] W fun e w' => e = .returned (.tuple #[]) ∧ ∃ nb, TuAt w' z B now u0 v0 g g.nd.length nb lv ls ∧ Keeps (fun k => k = z) W w' ∧ W.heap.size ≤ nb := by
  obtain ⟨d, a, on, nd⟩ := g
  obtain ⟨n, hnl⟩ : ∃ n, n = nd.length := ⟨_, rfl⟩
  simp only at hn h1 ⊢
  rw [← hnl] at h1 ⊢
  obtain ⟨w0, hw0⟩ : ∃ X : World, X = W.alloc (.cells #[.int .i64 d, .int .i64 a, .bool on, v] 27) := ⟨_, rfl⟩
  have hb0 : Below W.heap.size W w0 := by rw [hw0]; exact below1 _ _
  have HB := Lib.hid hb0
  have HC := Lib.hid (gcheck_c ⟨d, a, on, nd⟩ v w0 (bools_below hn hb0) (by simp only; omega))
  rw [hm, if_pos rfl] at HC
  have HBX := Lib.hid (show GBox w0 W.heap.size d a on v by rw [hw0]; exact GBox.new _ _ _ _ _)
  have HS := Lib.hid (show W.heap.size < w0.heap.size ∧ z < W.heap.size from ⟨HBX.out.lt, kb.lt⟩)
  have HKB := Lib.hid (And.intro kb hr)
  obtain ⟨d0, d1, d2, d3⟩ := HBX.out.cells
  have HBO := Lib.hid hn
  obtain ⟨p, c, rfl, hpc⟩ := hn
  rw [← hnl] at HBX d3 hw0 HC ⊢
  have HN := Lib.hid hnl
  have hmk := run_makeB n (by omega)
  clear hb0 hm hnl kb hr
  go_enter Tryz.func116, Tryz.ntmps116
  go_wp2_with fail
  rw [← hw0]
  clear hw0
  (with_reducible refine HC.out.mono ?_)
  rintro e w1 ⟨rfl, hb1⟩
  have HB1 := Lib.hid (below_then HB.out HB.out.size hb1)
  have HBX1 := Lib.hid (HBX.out.below hb1)
  have HS1 := Lib.hid (show W.heap.size < w1.heap.size from Nat.lt_of_lt_of_le HS.out.1 hb1.size)
  clear hb1 d0 d1 d2 d3
  go_wp2_with fail
  (with_reducible refine (must_ok w1).mono ?_)
  rintro e w1 ⟨rfl, rfl⟩
  obtain ⟨d0, d1, d2, d3⟩ := HBX1.out.cells
  obtain ⟨w2, hw2⟩ : ∃ w : World, w = w1.alloc (.cells (Array.replicate n (Value.bool false)) 4) := ⟨_, rfl⟩
  obtain ⟨nb, hnb⟩ : ∃ nb, nb = w1.heap.size := ⟨_, rfl⟩
  have hb2 : Below nb w1 w2 := by rw [hw2, hnb]; exact (Below.refl _ _).alloc (Nat.le_refl _) _
  have hg2 : w2.heap[nb]? = some (.cells (List.replicate n (Value.bool false)).toArray 4 (0, 0)) := by rw [hw2, hnb, List.toArray_replicate]; exact World.alloc_heap_new _ _
  have hb2' : Below w1.heap.size w1 w2 := by rw [← hnb]; exact hb2
  have HBX2 := Lib.hid (HBX1.out.below hb2')
  have HSR := Lib.hid (show 0 < (nd.map Value.bool).length → ∃ ad, p = some ad ∧ ∀ j u, (nd.map Value.bool)[j]? = some u → w2.cell? (ad.add j) = some u from fun hpos => by
    obtain ⟨b, off, rfl, hcs⟩ := hpc (by rintro rfl; simp at hpos)
    refine ⟨_, rfl, fun j u hj => ?_⟩
    obtain ⟨hj1, rfl⟩ := List.getElem?_eq_some_iff.1 hj
    rw [List.length_map] at hj1
    rw [addr_add_off, List.getElem_map]
    exact below_cell hb2' (below_cell (HB1.out.mono (Nat.le_refl _)) (hcs j hj1)))
  have HLN := Lib.hid (show (nd.map Value.bool).length = Nat.min n n by rw [List.length_map, ← HN.out]; exact (Nat.min_self n).symm)
  have HFT := Lib.hid (show 0 + (nd.map Value.bool).length ≤ (List.replicate n (Value.bool false)).length by rw [List.length_map, List.length_replicate, ← HN.out]; omega)
  have HOC := Lib.hid (show ∀ u ∈ nd.map Value.bool, u.oneCell' = true from fun u hu => by obtain ⟨x, _, rfl⟩ := List.mem_map.1 hu; rfl)
  have HG2 := Lib.hid hg2
  have HB2 := Lib.hid (And.intro hb2 (below_then HB1.out HB1.out.size hb2'))
  have HW2 := Lib.hid (And.intro hw2 hnb)
  have HZ2 := Lib.hid (show W.heap.size < nb by rw [hnb]; exact HS1.out)
  clear hb2 hb2' hg2 hw2 hnb hpc
  go_upto_region 3 with fail
  rw [← HW2.out.1, ← HW2.out.2]
  clear hmk d0 d1 d2 d3
  obtain ⟨d0, d1, d2, d3⟩ := HBX2.out.cells
  go_upto_region 4 with (with_reducible refine wpList_copy_splice (o := ⟨some 15, _, _, _, _, _⟩) rfl (.tmp 12) (.tmp 14) 25 25 rfl 4 Tryz.underlying25 (by kernel_rfl) (some ⟨nb, 0, none⟩) p n n n c rfl rfl nb 0 (List.replicate n (Value.bool false)) 4 HG2.out (nd.map Value.bool) HLN.out (fun hpos => ⟨rfl, HSR.out hpos⟩) HFT.out HOC.out nb w1 HB2.out.1 (Nat.le_refl _) ?_; intro w3 HG3 hB3)
  have hsp : splice (List.replicate n (Value.bool false)) 0 (nd.map Value.bool) = nd.map Value.bool := by
    unfold splice
    rw [List.take_zero, List.nil_append, List.drop_eq_nil_of_le (by rw [List.length_replicate, List.length_map, ← HN.out]; omega), List.append_nil]
  rw [hsp] at HG3
  have hK3 : Below W.heap.size W w3 := HB1.out.trans (hB3.mono (Nat.le_of_lt HZ2.out))
  have hbx3 : GBox w3 W.heap.size d a on (.slice p n c) := (hB3.block W.heap.size HZ2.out).trans HBX1.out
  have hnb3 : BBlock w3 nb nd := HG3.out
  have htb3 := HKB.out.1.below hK3
  have hrw3 := owns_below HKB.out.2 hK3
  have hzS := HS.out.2
  clear HBX2 d0 d1 d2 d3 HSR HLN HFT HOC HG2 HG3 hB3 hsp HC HBX
  obtain ⟨d0, d1, d2, d3⟩ := hbx3.cells
  have m3 := hbx3.marks 3
  have hk4 := setK w3 W.heap.size 3 (.slice (some ⟨nb, 0, none⟩) n n)
  have hbx4 : GBox (w3.setCell ⟨W.heap.size, 3, none⟩ (.slice (some ⟨nb, 0, none⟩) n n)) W.heap.size d a on (.slice (some ⟨nb, 0, none⟩) n n) := by
    unfold GBox; rw [heap_setCell_same w3 W.heap.size 3 _ _ _ hbx3]; rfl
  have htb4 := htb3.keeps hk4 (by omega)
  have hnb4 := hnb3.keeps hk4 (by have := HZ2.out; omega)
  have hrw4 := hk4.row hrw3 (fun q hq e => by
    have h1 := (HKB.out.2.lt q hq).2
    omega)
  obtain ⟨w4, hw4⟩ : ∃ X : World, X = w3.setCell ⟨W.heap.size, 3, none⟩ (.slice (some ⟨nb, 0, none⟩) n n) := ⟨_, rfl⟩
  rw [← hw4] at hbx4 htb4 hnb4 hrw4 hk4
  have HF := Lib.hid (show GBox w4 W.heap.size d a on (.slice (some ⟨nb, 0, none⟩) n n) ∧ TBox w4 z now u0 v0 dd0 a0 on0 nv0 lv ∧ BBlock w4 nb nd ∧ w4.ownsRow B 3 1 lv ls.length (ls.map (Value.int .i64)) ∧ Below W.heap.size W w4 from ⟨hbx4, htb4, hnb4, hrw4, hK3.trans (hk4.below hK3.size (fun k e => by omega))⟩)
  have HW4 := Lib.hid hw4
  clear hbx3 hnb3 htb3 hrw3 hk4 hbx4 htb4 hnb4 hrw4 hw4 hK3 hzS
  simp only [Act.put, goInt]
  go_upto_region 5 with fail
  rw [← HW4.out]
  clear d0 d1 d2 d3 m3
  obtain ⟨d0, d1, d2, d3⟩ := HF.out.1.cells
  obtain ⟨c0, c1, c2, c3, c4, c5, c6, c7⟩ := HF.out.2.1.cells
  have m3 := HF.out.2.1.marks 3
  have m4 := HF.out.2.1.marks 4
  have m5 := HF.out.2.1.marks 5
  have m6 := HF.out.2.1.marks 6
  have HT := Lib.hid (HF.out.2.1.putG d a on (.slice (some ⟨nb, 0, none⟩) n n))
  have HK := Lib.hid (show Keeps (fun k => k = z) w4 ((((w4.setCell ⟨z, 3, none⟩ (.int .i64 d)).setCell ⟨z, 4, none⟩ (.int .i64 a)).setCell ⟨z, 5, none⟩ (.bool on)).setCell ⟨z, 6, none⟩ (.slice (some ⟨nb, 0, none⟩) n n)) from (((setK _ z 3 _).trans (setK _ z 4 _)).trans (setK _ z 5 _)).trans (setK _ z 6 _))
  go_wp2
  go_end0
  refine ⟨rfl, nb, ⟨HT.out, HN.out.symm, HF.out.2.2.1.keeps HK.out (fun e => HF.out.2.1.ne_bools HF.out.2.2.1 e.symm), HK.out.row HF.out.2.2.2.1 (fun q hq e => HF.out.2.1.ne_row HF.out.2.2.2.1 q hq e)⟩, (Keeps.of_below HF.out.2.2.2.2).trans HK.out, Nat.le_of_lt HZ2.out⟩

end Go.Proofs.YtdllhiihmpinoaaGreat
/-
  Package grace: tried: a turn behind what it does, or the error with which it was left.
  Conditions: as each has them.
-/
namespace Go.Proofs.YtdllhiihmpinoaaGreat
set_option maxRecDepth 100000
open Go.RowKit Go.Shelf
attribute [local go_sem] Oper.semAt_some

set_option maxHeartbeats 4000000 in
theorem tried1_pan (z : Nat) (x y : Int) (older : List PanicEntry) (now : Int) (u v : Value) (d a : Int) (on : Bool) (nv lv : Value) (w : World) (kb : TBox w z now u v d a on nv lv) (he : Boxed w (z + 1) 39 (.int .i64 y)) :
    CallsD Tryz.prog 136 #[.pointer (some ⟨z, 0, none⟩), .pointer (some ⟨z + 1, 0, none⟩)] (.panicking ({ v := .iface 39 (.int .i64 x), recovered := false } :: older)) w fun e u' w' =>
      e = .returned (.tuple #[]) ∧ u' = .panicking ({ v := .iface 39 (.int .i64 x), recovered := true } :: older) ∧ TBox w' z 0 (.slice none 0 0) (.slice none 0 0) 0 0 false (.slice none 0 0) (.slice none 0 0) ∧ Boxed w' (z + 1) 39 (.int .i64 x) ∧ Keeps (fun k => k = z ∨ k = z + 1) w w' := by
  refine callsD_of_wpS Tryz.func136 rfl fun c₀ cs hu => ?_
  apply wpS_seq
  apply wpS_region
  simp [wpOpsS, go_sem, recoverD, hu, Tryz.ntmps136, Exit.thenS]
  refine wpS_of_wp ?_
  have hne : ∀ w, (binOp .neq 20 (.iface 39 (.int .i64 x)) .nilIface).run Tryz.prog w = .ok (.bool true) w := fun w => by kernel_rfl
  have hta : ∀ w, (Instr.typeAssert (.iface 39 (.int .i64 x)) 20 39 false).run Tryz.prog w = .ok (.int .i64 x) w := fun w => by kernel_rfl
  have hbl : ∀ w, (Instr.build 159 #[]).run Tryz.prog w = .ok (.agg #[.int .i64 0, .slice none 0 0, .slice none 0 0, .int .i64 0, .int .i64 0, .bool false, .slice none 0 0, .slice none 0 0]) w := fun w => by kernel_rfl
  obtain ⟨d0, d1, d2, d3, d4, d5, d6, d7⟩ := kb.cells
  have e0 := he.cell
  have m0 := kb.marks 0
  have m1 := kb.marks 1
  have m2 := kb.marks 2
  have m3 := kb.marks 3
  have m4 := kb.marks 4
  have m5 := kb.marks 5
  have m6 := kb.marks 6
  have m7 := kb.marks 7
  have f0 := he.frozen
  change Code.wp _ _ _ { tmps := #[.pointer (some ⟨z, 0, none⟩), .pointer (some ⟨z + 1, 0, none⟩), .iface 39 (.int .i64 x), .iface 39 (.int .i64 x), undef, undef, undef, undef, undef], defers := [] } w
  have hT := ((kb.putR 0 (.slice none 0 0) (.slice none 0 0)).putG 0 0 false (.slice none 0 0)).set7 (.slice none 0 0)
  have hK : Keeps (fun k => k = z) w ((((((((w.setCell ⟨z, 0, none⟩ (.int .i64 0)).setCell ⟨z, 1, none⟩ (.slice none 0 0)).setCell ⟨z, 2, none⟩ (.slice none 0 0)).setCell ⟨z, 3, none⟩ (.int .i64 0)).setCell ⟨z, 4, none⟩ (.int .i64 0)).setCell ⟨z, 5, none⟩ (.bool false)).setCell ⟨z, 6, none⟩ (.slice none 0 0)).setCell ⟨z, 7, none⟩ (.slice none 0 0)) :=
    (((((((setK w z 0 _).trans (setK _ z 1 _)).trans (setK _ z 2 _)).trans (setK _ z 3 _)).trans (setK _ z 4 _)).trans (setK _ z 5 _)).trans (setK _ z 6 _)).trans (setK _ z 7 _)
  obtain ⟨w1, hw1⟩ : ∃ X : World, X = ((((((((w.setCell ⟨z, 0, none⟩ (.int .i64 0)).setCell ⟨z, 1, none⟩ (.slice none 0 0)).setCell ⟨z, 2, none⟩ (.slice none 0 0)).setCell ⟨z, 3, none⟩ (.int .i64 0)).setCell ⟨z, 4, none⟩ (.int .i64 0)).setCell ⟨z, 5, none⟩ (.bool false)).setCell ⟨z, 6, none⟩ (.slice none 0 0)).setCell ⟨z, 7, none⟩ (.slice none 0 0)) := ⟨_, rfl⟩
  rw [← hw1] at hT hK
  have hE : Boxed w1 (z + 1) 39 (.int .i64 y) := (hK.block (z + 1) he.lt (by omega)).trans he
  have HF := Lib.hid (show TBox (w1.setCell ⟨z + 1, 0, none⟩ (.int .i64 x)) z 0 (.slice none 0 0) (.slice none 0 0) 0 0 false (.slice none 0 0) (.slice none 0 0) ∧ Boxed (w1.setCell ⟨z + 1, 0, none⟩ (.int .i64 x)) (z + 1) 39 (.int .i64 x) ∧ Keeps (fun k => k = z ∨ k = z + 1) w (w1.setCell ⟨z + 1, 0, none⟩ (.int .i64 x)) from
    ⟨hT.keeps (setK w1 (z + 1) 0 (.int .i64 x)) (by omega), hE.set _, (hK.sub (fun _ _ h => .inl h)).trans ((setK w1 (z + 1) 0 (.int .i64 x)).sub (fun _ _ h => .inr h))⟩)
  have HW1 := Lib.hid hw1
  clear hT hK hE hw1 kb he
  go_wp2
  go_region
  rw [← HW1.out]
  refine ⟨rfl, _, rfl, .tuple #[], results_none rfl _ _ _, rfl, rfl, ?_⟩
  exact ⟨HF.out.1.keeps (S := fun _ => False) ((Keeps.refl _ _).drewN 1) id, HF.out.2.1, HF.out.2.2.drewN 1⟩

set_option maxHeartbeats 4000000 in
theorem tried1_ret (z : Nat) (w : World) :
    CallsD Tryz.prog 136 #[.pointer (some ⟨z, 0, none⟩), .pointer (some ⟨z + 1, 0, none⟩)] .returning w fun e u' w' => e = .returned (.tuple #[]) ∧ u' = .returning ∧ w' = w := by
  refine callsD_of_wpS Tryz.func136 rfl fun c₀ cs hu => ?_
  apply wpS_seq
  apply wpS_region
  simp [wpOpsS, go_sem, recoverD, hu, Tryz.ntmps136, Exit.thenS]
  refine wpS_of_wp ?_
  have hne : ∀ w, (binOp .neq 20 .nilIface .nilIface).run Tryz.prog w = .ok (.bool false) w := fun w => by kernel_rfl
  change Code.wp _ _ _ { tmps := #[.pointer (some ⟨z, 0, none⟩), .pointer (some ⟨z + 1, 0, none⟩), .nilIface, .nilIface, undef, undef, undef, undef, undef], defers := [] } w
  go_wp2
  refine ⟨rfl, _, ?_, .tuple #[], results_none rfl _ _ _, rfl, rfl, rfl⟩
  rw [← hu]

/-- The worlds with which tried begins. -/
def wT (W : World) : World := (W.alloc (.cells #[.int .i64 0, .slice none 0 0, .slice none 0 0, .int .i64 0, .int .i64 0, .bool false, .slice none 0 0, .slice none 0 0] 159)).alloc (.cells #[.int .i64 0] 39)
theorem wT_facts (W : World) : TBox (wT W) W.heap.size 0 (.slice none 0 0) (.slice none 0 0) 0 0 false (.slice none 0 0) (.slice none 0 0) ∧ Boxed (wT W) (W.heap.size + 1) 39 (.int .i64 0) ∧ Below W.heap.size W (wT W) ∧ (wT W).heap.size = W.heap.size + 2 := by
  refine ⟨(TBox.new W _ _ _ _ _ _ _ _).below (below1 _ _), ?_, below2 _ _ _, by unfold wT; simp⟩
  have := Boxed.new (W.alloc (.cells #[.int .i64 0, .slice none 0 0, .slice none 0 0, .int .i64 0, .int .i64 0, .bool false, .slice none 0 0, .slice none 0 0] 159)) 39 (.int .i64 0)
  rwa [World.size_alloc] at this
theorem turn_info : (Tryz.prog.info? 159).map (·.size) = some 8 := by kernel_rfl
theorem turn_load {W : World} {z : Nat} {now : Int} {u v : Value} {d a : Int} {on : Bool} {nv lv : Value} (h : TBox W z now u v d a on nv lv) : (loadVar 159 ⟨z, 0, none⟩).run Tryz.prog W = .ok (.agg #[.int .i64 now, u, v, .int .i64 d, .int .i64 a, .bool on, nv, lv]) W := by
  obtain ⟨h0, h1, h2, h3, h4, h5, h6, h7⟩ := h.cells
  refine run_loadVar_mid W z 0 159 [.int .i64 now, u, v, .int .i64 d, .int .i64 a, .bool on, nv, lv] _ (fun j u hj => ?_) Tryz.underlying159 rfl turn_info
  rw [Nat.zero_add]
  match j, hj with
  | 0, hj => cases hj; exact h0
  | 1, hj => cases hj; exact h1
  | 2, hj => cases hj; exact h2
  | 3, hj => cases hj; exact h3
  | 4, hj => cases hj; exact h4
  | 5, hj => cases hj; exact h5
  | 6, hj => cases hj; exact h6
  | 7, hj => cases hj; exact h7
  | (k + 8), hj => simp at hj
theorem errno_load {W : World} {z : Nat} {x : Int} (h : Boxed W z 39 (.int .i64 x)) : (loadVar 39 ⟨z, 0, none⟩).run Tryz.prog W = .ok (.int .i64 x) W := by
  have := h.cell
  simp [go_sem, this]
/-- Two results out of cells. -/
theorem results_cell2 {fn : Func} {a b : Tmp} {t u : TypeId} (h : fn.results = #[.cell a t, .cell b u]) (tmps : Array Value) (P : Program) (w : World) {p q : Addr} {x y : Value} (ha : tmps.getD a undef = .pointer (some p)) (hb : tmps.getD b undef = .pointer (some q))
    (hx : (loadVar t p).run P w = .ok x w) (hy : (loadVar u q).run P w = .ok y w) : (results fn tmps).run P w = .ok (.tuple #[x, y]) w := by
  unfold results
  rw [h]
  simp only [Array.mapM_eq_foldlM, List.foldlM_toArray, List.foldlM_cons, List.foldlM_nil, ha, hb, asAddr, run_fmap, Sem.run_bind, Sem.run_pure, Result.andThen_ok, hx, hy]
  rfl
/-- Is it a slice? -/
def IsSl (v : Value) : Prop := ∃ p n c, v = .slice p n c
/-- An empty turn. -/
def zeroT : Value := .agg #[.int .i64 0, .slice none 0 0, .slice none 0 0, .int .i64 0, .int .i64 0, .bool false, .slice none 0 0, .slice none 0 0]

set_option maxHeartbeats 8000000 in
theorem tried_K (K : Nat) (caps : Array Value) (W : World) (hcf : ∀ (args : Array Value) (w : World), (callFunc K args).run Tryz.prog w = .ok (.enter K args) w) (R : Value → Int → World → Prop)
    (hdo : Calls Tryz.prog K (#[.pointer (some ⟨W.heap.size, 0, none⟩)] ++ caps) (wT W) fun e w' => Below W.heap.size W w' ∧ ∃ now u v d a on nv lv, TBox w' W.heap.size now u v d a on nv lv ∧ (IsSl u ∧ IsSl v ∧ IsSl nv ∧ IsSl lv) ∧ Boxed w' (W.heap.size + 1) 39 (.int .i64 0) ∧
      ((∃ x, e = woe x ∧ ∀ X, Keeps (fun k => k = W.heap.size ∨ k = W.heap.size + 1) w' X → R zeroT x X) ∨
       (e = .returned (.tuple #[]) ∧ ∀ X, Keeps (fun k => k = W.heap.size ∨ k = W.heap.size + 1) w' X → R (.agg #[.int .i64 now, u, v, .int .i64 d, .int .i64 a, .bool on, nv, lv]) 0 X))) :
    Calls Tryz.prog 113 #[.func (.func K) #[] caps] W fun e w' => (∃ t x, e = .returned (.tuple #[t, .int .i64 x]) ∧ R t x w') ∧ Below W.heap.size W w' := by
  have hmf : ∀ (fn : Fn) (first cap : Array Value) (w : World), (Instr.makeFunc fn first cap).run Tryz.prog w = .ok (.func fn first cap) w := fun _ _ _ _ => rfl
  have HF := Lib.hid (wT_facts W)
  obtain ⟨w0, hw0⟩ : ∃ X, X = wT W := ⟨_, rfl⟩
  rw [← hw0] at HF hdo
  have HD := Lib.hid hdo
  clear hdo
  unfold wT at hw0
  go_enter_defers Tryz.func113, Tryz.ntmps113
  go_wp2_with fail
  rw [← hw0]
  clear hw0
  (with_reducible refine HD.out.mono ?_)
  rintro e w1 ⟨hb, now, u, v, d, a, on, nv, lv, kb, hsl, he, ⟨x, rfl, hR⟩ | ⟨rfl, hR⟩⟩
  · unfold woe
    refine leaves_cons (f := 136) (args := #[.pointer (some ⟨W.heap.size, 0, none⟩), .pointer (some ⟨W.heap.size + 1, 0, none⟩)]) (by simp) (by simp [go_sem]) ?_
    refine (tried1_pan W.heap.size x 0 [] now u v d a on nv lv w1 kb he).mono ?_
    rintro e u' w2 ⟨rfl, rfl, ht, he2, hk⟩
    have hr := results_cell2 (fn := Tryz.f113) rfl #[Value.func (Fn.func K) #[] caps, undef, Value.pointer (some { block := W.heap.size, off := 0 }), Value.pointer (some { block := W.heap.size + 1, off := 0 }), Value.func (Fn.func 136) #[] #[Value.pointer (some { block := W.heap.size, off := 0 }), Value.pointer (some { block := W.heap.size + 1, off := 0 })], Value.func (Fn.func K) #[] caps, undef, undef] Tryz.prog w2 rfl rfl (turn_load ht) (errno_load he2)
    simp [Leaves, settle, hr]
    exact ⟨⟨_, _, ⟨rfl, rfl⟩, hR w2 hk⟩, hb.trans (hk.below hb.size (fun k e => by omega))⟩
  · have HR := Lib.hid hR
    have HB := Lib.hid hb
    obtain ⟨d0, d1, d2, d3, d4, d5, d6, d7⟩ := kb.cells
    have m0 := kb.marks 0
    have m1 := kb.marks 1
    have m2 := kb.marks 2
    have m3 := kb.marks 3
    have m4 := kb.marks 4
    have m5 := kb.marks 5
    have m6 := kb.marks 6
    have m7 := kb.marks 7
    have e0 := he.cell
    have f0 := he.frozen
    have HKB := Lib.hid (And.intro kb he)
    have HS := Lib.hid (show TBox ((((((((w1.setCell ⟨W.heap.size, 0, none⟩ (.int .i64 now)).setCell ⟨W.heap.size, 1, none⟩ u).setCell ⟨W.heap.size, 2, none⟩ v).setCell ⟨W.heap.size, 3, none⟩ (.int .i64 d)).setCell ⟨W.heap.size, 4, none⟩ (.int .i64 a)).setCell ⟨W.heap.size, 5, none⟩ (.bool on)).setCell ⟨W.heap.size, 6, none⟩ nv).setCell ⟨W.heap.size, 7, none⟩ lv) W.heap.size now u v d a on nv lv ∧ Keeps (fun k => k = W.heap.size) w1 ((((((((w1.setCell ⟨W.heap.size, 0, none⟩ (.int .i64 now)).setCell ⟨W.heap.size, 1, none⟩ u).setCell ⟨W.heap.size, 2, none⟩ v).setCell ⟨W.heap.size, 3, none⟩ (.int .i64 d)).setCell ⟨W.heap.size, 4, none⟩ (.int .i64 a)).setCell ⟨W.heap.size, 5, none⟩ (.bool on)).setCell ⟨W.heap.size, 6, none⟩ nv).setCell ⟨W.heap.size, 7, none⟩ lv) from
      ⟨((kb.putR now u v).putG d a on nv).set7 lv, (((((((setK w1 W.heap.size 0 _).trans (setK _ W.heap.size 1 _)).trans (setK _ W.heap.size 2 _)).trans (setK _ W.heap.size 3 _)).trans (setK _ W.heap.size 4 _)).trans (setK _ W.heap.size 5 _)).trans (setK _ W.heap.size 6 _)).trans (setK _ W.heap.size 7 _)⟩)
    clear hR hb kb he
    obtain ⟨⟨pu, nu, cu, rfl⟩, ⟨pv, nv', cv, rfl⟩, ⟨pn, nn, cn, rfl⟩, ⟨pl, nl, cl, rfl⟩⟩ := hsl
    obtain ⟨w2, hw2⟩ : ∃ X : World, X = ((((((((w1.setCell ⟨W.heap.size, 0, none⟩ (.int .i64 now)).setCell ⟨W.heap.size, 1, none⟩ (.slice pu nu cu)).setCell ⟨W.heap.size, 2, none⟩ (.slice pv nv' cv)).setCell ⟨W.heap.size, 3, none⟩ (.int .i64 d)).setCell ⟨W.heap.size, 4, none⟩ (.int .i64 a)).setCell ⟨W.heap.size, 5, none⟩ (.bool on)).setCell ⟨W.heap.size, 6, none⟩ (.slice pn nn cn)).setCell ⟨W.heap.size, 7, none⟩ (.slice pl nl cl)) := ⟨_, rfl⟩
    rw [← hw2] at HS
    have hE : Boxed w2 (W.heap.size + 1) 39 (.int .i64 0) := (HS.out.2.block _ HKB.out.2.lt (by omega)).trans HKB.out.2
    have HT := Lib.hid (show TBox (w2.setCell ⟨W.heap.size + 1, 0, none⟩ (.int .i64 0)) W.heap.size now (.slice pu nu cu) (.slice pv nv' cv) d a on (.slice pn nn cn) (.slice pl nl cl) ∧ Boxed (w2.setCell ⟨W.heap.size + 1, 0, none⟩ (.int .i64 0)) (W.heap.size + 1) 39 (.int .i64 0) ∧ Keeps (fun k => k = W.heap.size ∨ k = W.heap.size + 1) w1 (w2.setCell ⟨W.heap.size + 1, 0, none⟩ (.int .i64 0)) from
      ⟨HS.out.1.keeps (setK w2 (W.heap.size + 1) 0 (.int .i64 0)) (by omega), hE.set _, (HS.out.2.sub (fun _ _ h => .inl h)).trans ((setK w2 (W.heap.size + 1) 0 (.int .i64 0)).sub (fun _ _ h => .inr h))⟩)
    rw [hw2] at HT
    have HW2 := Lib.hid hw2
    clear hE hw2
    go_wp2
    rw [← HW2.out]
    rw [← HW2.out] at HT
    refine leaves_cons (f := 136) (args := #[.pointer (some ⟨W.heap.size, 0, none⟩), .pointer (some ⟨W.heap.size + 1, 0, none⟩)]) (by simp) (by simp [go_sem]) ?_
    refine (tried1_ret W.heap.size _).mono ?_
    rintro e u' w3 ⟨rfl, rfl, rfl⟩
    have hr := results_cell2 (fn := Tryz.f113) rfl #[Value.func (Fn.func K) #[] caps, undef, Value.pointer (some { block := W.heap.size, off := 0 }), Value.pointer (some { block := W.heap.size + 1, off := 0 }), Value.func (Fn.func 136) #[] #[Value.pointer (some { block := W.heap.size, off := 0 }), Value.pointer (some { block := W.heap.size + 1, off := 0 })], Value.func (Fn.func K) #[] caps, Value.tuple #[], .agg #[.int .i64 now, .slice pu nu cu, .slice pv nv' cv, .int .i64 d, .int .i64 a, .bool on, .slice pn nn cn, .slice pl nl cl]] Tryz.prog _ rfl rfl (turn_load HT.out.1) (errno_load HT.out.2.1)
    simp [Leaves, settle, hr]
    exact ⟨⟨_, _, ⟨rfl, rfl⟩, HR.out _ HT.out.2.2⟩, HB.out.trans (HT.out.2.2.below HB.out.size (fun k e => by omega))⟩

end Go.Proofs.YtdllhiihmpinoaaGreat
/-
  Package reader: which readers may be, place by place; and that a step leaves readers that may be.
  Conditions: none.
-/
namespace Go.Proofs.YtdllhiihmpinoaaGreat

def nN (s : RdS) (i : Nat) : Int := s.ns.getD i 0
def oO (s : RdS) (i : Nat) : Int := s.os.getD i 0
structure Good (s : RdS) : Prop where
  l1 : 1 ≤ s.ns.length
  l8 : s.ns.length ≤ 8
  lo : s.os.length = s.ns.length
  n0 : 0 ≤ s.now
  n1 : s.now ≤ 2147483647
  each : ∀ i, i < s.ns.length → (nN s i = 0 ∧ oO s i = 0) ∨ (1 ≤ nN s i ∧ nN s i ≤ 8 ∧ 1 ≤ oO s i ∧ oO s i ≤ s.now)
  apart : ∀ i j, i < j → j < s.ns.length → oO s i ≠ 0 → oO s i ≠ oO s j

theorem getD_lt {l : List Int} {i : Nat} (h : i < l.length) : l.getD i 0 = l[i] := by rw [List.getD_eq_getElem?_getD, List.getElem?_eq_getElem h]; rfl
theorem getD_set (l : List Int) (k : Nat) (x : Int) (i : Nat) : (l.set k x).getD i 0 = if i = k ∧ k < l.length then x else l.getD i 0 := by
  rw [List.getD_eq_getElem?_getD, List.getD_eq_getElem?_getD, List.getElem?_set]
  by_cases h : k = i
  · subst h
    by_cases h2 : k < l.length
    · simp [h2]
    · simp [h2]
  · rw [if_neg h, if_neg (fun e => h e.1.symm)]
theorem zip_at (s : RdS) (hl : s.os.length = s.ns.length) (i : Nat) (h : i < (s.ns.zip s.os).length) : (s.ns.zip s.os)[i] = (nN s i, oO s i) := by
  have h1 : i < s.ns.length := by simp at h; omega
  rw [List.getElem_zip]
  unfold nN oO
  rw [getD_lt h1, getD_lt (by omega)]
theorem secB_iff (a p : Int) : secB a p = true ↔ ¬ (a = 0 ∧ p = 0) := by unfold secB; rw [Bool.not_eq_true', decide_eq_false_iff_not]
theorem okS_iff (now : Int) (l : List (Int × Int)) : okS now (secs l) = true ↔ (∀ x ∈ l, x = (0, 0) ∨ (1 ≤ x.1 ∧ x.1 ≤ 8 ∧ 1 ≤ x.2 ∧ x.2 ≤ now)) ∧ ∀ i j (hi : i < l.length) (hj : j < l.length), i < j → l[i] ≠ (0, 0) → l[j] ≠ (0, 0) → l[i].2 ≠ l[j].2 := by
  unfold okS secs
  rw [Bool.and_eq_true, List.all_filter, List.all_eq_true, decide_eq_true_eq, List.Nodup, List.pairwise_map, List.pairwise_filter, List.pairwise_iff_getElem]
  have e : ∀ x : Int × Int, x = (0, 0) ↔ x.1 = 0 ∧ x.2 = 0 := fun ⟨a, b⟩ => by simp
  constructor
  · rintro ⟨h1, h2⟩
    refine ⟨fun x hx => ?_, fun i j hi hj hij hx hy => h2 i j hi hj hij ((secB_iff _ _).2 (fun h => hx ((e _).2 h))) ((secB_iff _ _).2 (fun h => hy ((e _).2 h)))⟩
    have := h1 x hx
    by_cases hz : x = (0, 0)
    · exact .inl hz
    · rw [show secB x.1 x.2 = true from (secB_iff _ _).2 (fun h => hz ((e _).2 h))] at this
      simp only [okOne, Bool.not_true, Bool.false_or, Bool.and_eq_true, decide_eq_true_eq] at this
      exact .inr (by omega)
  · rintro ⟨h1, h2⟩
    refine ⟨fun x hx => ?_, fun i j hi hj hij hx hy => h2 i j hi hj hij (fun h => (secB_iff _ _).1 hx ((e _).1 h)) (fun h => (secB_iff _ _).1 hy ((e _).1 h))⟩
    rcases h1 x hx with rfl | h
    · simp [secB]
    · simp only [okOne, Bool.or_eq_true, Bool.and_eq_true, decide_eq_true_eq]
      exact .inr (by omega)
theorem good_iff (s : RdS) : mayB s.now s.ns s.os = true ↔ Good s := by
  unfold mayB mayCpus
  simp only [Bool.and_eq_true, decide_eq_true_eq]
  constructor
  · rintro ⟨h1, h2, h3, h4, h5⟩
    obtain ⟨h6, h7⟩ := (okS_iff _ _).1 h5
    have hz : (s.ns.zip s.os).length = s.ns.length := by simp; omega
    refine ⟨by omega, by omega, h2, h3, h4, fun i hi => ?_, fun i j hij hj h0 he => ?_⟩
    · have := h6 (s.ns.zip s.os)[i] (List.getElem_mem _)
      rw [zip_at s h2] at this
      simpa using this
    · have hj' := h6 (s.ns.zip s.os)[j] (List.getElem_mem _)
      have := h7 i j (by omega) (by omega) hij
      rw [zip_at s h2, zip_at s h2] at this
      refine this (fun e => h0 (congrArg Prod.snd e)) (fun e => ?_) he
      have := congrArg Prod.snd e
      simp only at this
      exact h0 (he.trans this)
  · intro g
    have hz : (s.ns.zip s.os).length = s.ns.length := by have := g.lo; simp; omega
    refine ⟨⟨by have := g.l1; omega, by have := g.l8; omega⟩, g.lo, g.n0, g.n1, (okS_iff _ _).2 ⟨fun x hx => ?_, fun i j hi hj hij hx hy => ?_⟩⟩
    · obtain ⟨i, hi, rfl⟩ := List.getElem_of_mem hx
      rw [zip_at s g.lo]
      simpa using g.each i (by omega)
    · rw [zip_at s g.lo] at hx hy ⊢
      rw [zip_at s g.lo]
      have h1 := g.each i (by omega)
      have : oO s i ≠ 0 := fun e => by
        rcases h1 with ⟨ha, hb⟩ | h
        · exact hx (by rw [ha, hb])
        · omega
      exact g.apart i j hij (by omega) this
theorem Good.range {s : RdS} (g : Good s) : ∀ x ∈ s.ns, 0 ≤ x ∧ x ≤ 8 := fun x hx => by
  obtain ⟨i, hi, rfl⟩ := List.getElem_of_mem hx
  have := g.each i hi
  unfold nN at this
  rw [getD_lt hi] at this
  omega
theorem Good.rangeO {s : RdS} (g : Good s) : ∀ x ∈ s.os, I64 x := fun x hx => by
  obtain ⟨i, hi, rfl⟩ := List.getElem_of_mem hx
  have := g.each i (by have := g.lo; omega)
  unfold oO at this
  rw [getD_lt hi] at this
  have := g.n1
  unfold I64
  omega
theorem has_iff (k : Nat) (c : Int) : hasB k c = true ↔ ∃ i : Nat, c = (i : Int) ∧ i < k := by
  unfold hasB
  simp only [Bool.and_eq_true, decide_eq_true_eq]
  exact ⟨fun h => ⟨c.toNat, by omega, by omega⟩, fun ⟨i, h1, h2⟩ => by omega⟩
/-- What a step without an error is of. -/
theorem stepE_zero {s : RdS} {c : Int} {en : Bool} (h : stepE s c en = 0) : ∃ i : Nat, c = (i : Int) ∧ i < s.ns.length ∧ s.now ≠ 2147483647 ∧ (en = true → nN s i ≠ 8) ∧ (en = false → nN s i ≠ 0) := by
  unfold stepE at h
  split at h
  · cases h
  rename_i h1
  split at h
  · cases h
  rename_i h2
  split at h
  · cases h
  rename_i h3
  obtain ⟨i, rfl, hi⟩ := (has_iff _ _).1 (by simpa using h1)
  rw [Int.toNat_natCast] at h2 h3
  exact ⟨i, rfl, hi, fun e => h2 (.inl e), fun e e2 => h2 (.inr ⟨e, e2⟩), fun e e2 => h3 ⟨e, e2⟩⟩
theorem stepS_now (s : RdS) (c : Int) (en : Bool) : (stepS s c en).now = s.now + 1 := by unfold stepS; split <;> rfl
theorem stepS_len (s : RdS) (c : Int) (en : Bool) : (stepS s c en).ns.length = s.ns.length ∧ (stepS s c en).os.length = s.os.length := by
  unfold stepS
  split <;> simp only [List.length_set] <;> split <;> simp
theorem stepS_n (s : RdS) (i : Nat) (en : Bool) (hi : i < s.ns.length) (j : Nat) : nN (stepS s i en) j = if j = i then (if en = true then nN s i + 1 else nN s i - 1) else nN s j := by
  unfold stepS nN
  cases en
  · simp only [Bool.false_eq_true, if_false, Int.toNat_natCast]
    rw [getD_set]
    by_cases h : j = i
    · rw [if_pos ⟨h, hi⟩, if_pos h]
    · rw [if_neg (fun e => h e.1), if_neg h]
  · simp only [if_true, Int.toNat_natCast]
    rw [getD_set]
    by_cases h : j = i
    · rw [if_pos ⟨h, hi⟩, if_pos h]
    · rw [if_neg (fun e => h e.1), if_neg h]
theorem stepS_o (s : RdS) (i : Nat) (en : Bool) (hi : i < s.os.length) (j : Nat) : oO (stepS s i en) j = if j = i then (if en = true then (if nN s i = 0 then s.now + 1 else oO s i) else (if nN s i = 1 then 0 else oO s i)) else oO s j := by
  unfold stepS oO nN
  cases en
  · simp only [Bool.false_eq_true, if_false, Int.toNat_natCast]
    by_cases h1 : s.ns.getD i 0 = 1
    · rw [if_pos h1, if_pos h1, getD_set]
      by_cases h : j = i
      · rw [if_pos ⟨h, hi⟩, if_pos h]
      · rw [if_neg (fun e => h e.1), if_neg h]
    · rw [if_neg h1, if_neg h1]
      by_cases h : j = i
      · rw [if_pos h, h]
      · rw [if_neg h]
  · simp only [if_true, Int.toNat_natCast]
    by_cases h1 : s.ns.getD i 0 = 0
    · rw [if_pos h1, if_pos h1, getD_set]
      by_cases h : j = i
      · rw [if_pos ⟨h, hi⟩, if_pos h]
      · rw [if_neg (fun e => h e.1), if_neg h]
    · rw [if_neg h1, if_neg h1]
      by_cases h : j = i
      · rw [if_pos h, h]
      · rw [if_neg h]
theorem Good.step {s : RdS} {c : Int} {en : Bool} (g : Good s) (h : stepE s c en = 0) : Good (stepS s c en) := by
  obtain ⟨i, rfl, hi, hnow, h8, h0⟩ := stepE_zero h
  have hio : i < s.os.length := by have := g.lo; omega
  have hl := stepS_len s i en
  have hi1 := g.each i hi
  have hn1 := g.n1
  have hn0 := g.n0
  refine ⟨by rw [hl.1]; exact g.l1, by rw [hl.1]; exact g.l8, by rw [hl.1, hl.2]; exact g.lo, by rw [stepS_now]; omega, by rw [stepS_now]; omega, fun j hj => ?_, fun j k hjk hk => ?_⟩
  · rw [hl.1] at hj
    have hj1 := g.each j hj
    rw [stepS_n s i en hi, stepS_o s i en hio, stepS_now]
    by_cases e : j = i
    · subst e
      rw [if_pos rfl, if_pos rfl]
      cases en
      · have := h0 rfl
        simp only [Bool.false_eq_true, if_false]
        split <;> omega
      · have := h8 rfl
        simp only [if_true]
        split <;> omega
    · rw [if_neg e, if_neg e]
      omega
  · rw [hl.1] at hk
    rw [stepS_o s i en hio, stepS_o s i en hio]
    have hj1 := g.each j (by omega)
    have hk1 := g.each k hk
    have ha := g.apart j k hjk hk
    by_cases e : j = i
    · subst e
      rw [if_pos (rfl : j = j), if_neg (show ¬ k = j by omega)]
      cases en
      · simp only [Bool.false_eq_true, if_false]
        split
        · exact fun h => absurd rfl h
        · exact ha
      · simp only [if_true]
        split
        · intro _; omega
        · exact ha
    · rw [if_neg e]
      by_cases e2 : k = i
      · subst e2
        rw [if_pos (rfl : k = k)]
        cases en
        · simp only [Bool.false_eq_true, if_false]
          split
          · exact fun h => h
          · exact ha
        · simp only [if_true]
          split
          · intro _; omega
          · exact ha
      · rw [if_neg e2]
        exact ha
theorem Good.run {s : RdS} (g : Good s) : ∀ (l : List (Int × Bool)), okTo s l → Good (runS s l)
  | l, h => by
    induction l generalizing s with
    | nil => exact g
    | cons x l ih =>
      simp only [okTo] at h
      exact ih (g.step h.1) h.2

end Go.Proofs.YtdllhiihmpinoaaGreat
namespace Go.Proofs.YtdllhiihmpinoaaGreat
set_option maxRecDepth 100000
open Go.RowKit Go.Shelf
attribute [local go_sem] Oper.semAt_some

theorem mayG_facts {g : GrS} (h : mayG g = true) : 1 ≤ g.nd.length ∧ g.nd.length ≤ 8 ∧ 0 ≤ g.done ∧ g.done ≤ g.asked ∧ g.asked ≤ 2147483645 := by
  unfold mayG numsG mayCpus at h
  simp only [Bool.and_eq_true, decide_eq_true_eq] at h
  omega
/-- The error, where a grace that may not be comes first. -/
def errG (g : GrS) (e : Int) : Int := if mayG g = true then e else 220
def askE (g : GrS) : Int := if 2147483645 < nextG g then 6 else 0
def askG (g : GrS) : GrS := { g with asked := nextG g }
/-- A turn lies there. -/
def TAny (w : World) (z : Nat) : Prop := ∃ now u v d a on nv lv, TBox w z now u v d a on nv lv ∧ IsSl u ∧ IsSl v ∧ IsSl nv ∧ IsSl lv
theorem TAny.keeps {S : Nat → Prop} {w w' : World} {z : Nat} (h : TAny w z) (hk : Keeps S w w') (hz : ¬ S z) : TAny w' z := by
  obtain ⟨now, u, v, d, a, on, nv, lv, h1, h2⟩ := h
  exact ⟨now, u, v, d, a, on, nv, lv, h1.keeps hk hz, h2⟩
def nilV : Value := .slice none 0 0
theorem nil_sl : IsSl nilV := ⟨_, _, _, rfl⟩
theorem owns_sl {B : Nat} {E : TypeId} {W : World} {v : Value} {s n : Nat} {xs : List Value} (h : W.ownsRow B E s v n xs) : IsSl v := by
  obtain ⟨p, c, rfl⟩ := owns_slice h
  exact ⟨_, _, _, rfl⟩
theorem TuAt.any {W : World} {z B : Nat} {now : Int} {u v : Value} {g : GrS} {n nb : Nat} {lv : Value} {ls : List Int} (k : TuAt W z B now u v g n nb lv ls) (hu : IsSl u) (hv : IsSl v) : TAny W z := ⟨_, _, _, _, _, _, _, _, k.box, hu, hv, ⟨_, _, _, rfl⟩, owns_sl k.nums⟩
/-- What a turn leaves, or with which error it was left. -/
def DoQ (z B : Nat) (E : Int) (g' : GrS) (ls : List Int) (e : Ending) (W w' : World) : Prop :=
  Keeps (fun k => k = z) W w' ∧ ((E ≠ 0 ∧ e = woe E ∧ TAny w' z) ∨ (E = 0 ∧ e = .returned (.tuple #[]) ∧ ∃ nb lv, TuAt w' z z 0 nilV nilV g' g'.nd.length nb lv ls ∧ B ≤ nb))
theorem keepsB {z : Nat} {W w' : World} (h : Below W.heap.size W w') : Keeps (fun k => k = z) W w' := Keeps.of_below h
theorem askG_len (g : GrS) : (askG g).nd.length = g.nd.length := rfl
theorem beginG_len (g : GrS) : (beginG g).nd.length = g.nd.length := by unfold beginG; simp
theorem reportG_len (g : GrS) (i : Nat) : (reportG g i).nd.length = g.nd.length := by unfold reportG; split <;> simp
theorem pickG_len (g : GrS) (i : Nat) (q : Bool) : (pickG g i q).nd.length = g.nd.length := by
  unfold pickG
  split
  · split
    · exact reportG_len g i
    · rfl
  · split
    · exact beginG_len g
    · rfl
/-- Keeps at z alone, out of what order keeps. -/
theorem keeps_z {z nb : Nat} {W w1 w' : World} (h : Keeps (fun k => k = z) W w1) (hn : W.heap.size ≤ nb) (k : Keeps (fun k => k = z ∨ k = nb) w1 w') : Keeps (fun k => k = z) W w' :=
  ⟨k.os.trans h.os, k.tape.trans h.tape, k.output.trans h.output, Nat.le_trans h.size k.size, fun i hi hz => (k.block i (Nat.lt_of_lt_of_le hi h.size) (by intro e; rcases e with e | e; exact hz e; omega)).trans (h.block i hi hz)⟩

set_option maxHeartbeats 8000000 in
theorem ask1_c (z gb : Nat) (g : GrS) (v : Value)  (W : World) (kb : TBox W z 0 nilV nilV 0 0 false nilV nilV) (hg : GBox W gb g.done g.asked g.on v) (hv : BoolsAt W v g.nd) (hl : g.nd.length ≤ 9223372036854775807)  :
    Calls Tryz.prog 160 #[.pointer (some ⟨z, 0, none⟩), .pointer (some ⟨gb, 0, none⟩)] W fun e w' => DoQ z W.heap.size (errG g (askE g)) (askG g) [nextG g] e W w' := by
  have HKB := Lib.hid kb
  have HV := Lib.hid hv
  obtain ⟨d0, d1, d2, d3⟩ := hg.cells
  cases hm : mayG g with
  | false =>
    have HC := Lib.hid (ghold_no z g v W hv hl hm)
    have HE := Lib.hid (show ∀ e, errG g e = 220 from fun e => by unfold errG; rw [hm]; rfl)
    obtain ⟨p, pc, rfl, -⟩ := hv
    clear kb hg hl hm
    go_enter Tryz.func160, Tryz.ntmps160
    go_wp2_with fail
    (with_reducible refine HC.out.mono ?_)
    rintro e w1 ⟨rfl, hb1⟩
    refine ⟨rfl, keepsB hb1, .inl ⟨by rw [HE.out]; decide, by rw [HE.out]; rfl, ?_⟩⟩
    exact TAny.keeps ⟨_, _, _, _, _, _, _, _, HKB.out, nil_sl, nil_sl, nil_sl, nil_sl⟩ (keepsB (z := z + 1) hb1) (by omega)
  | true =>
    have hf := mayG_facts hm
    have HC := Lib.hid (ghold_ok z z 0 nilV nilV 0 0 false nilV nilV [] g v W hv hf.2.1 hm kb (World.ownsRow_nil _ _ _ _))
    have HE := Lib.hid (show ∀ e, errG g e = e from fun e => by unfold errG; rw [if_pos hm])
    have HF := Lib.hid hf
    have HZ := Lib.hid (show z < W.heap.size from kb.lt)
    obtain ⟨p, pc, rfl, -⟩ := hv
    clear kb hg hl hm
    go_enter Tryz.func160, Tryz.ntmps160
    go_wp2_with fail
    (with_reducible refine HC.out.mono ?_)
    rintro e w1 ⟨rfl, nb, k1, hk1, hnb⟩
    have HK1 := Lib.hid (And.intro k1 (And.intro hk1 hnb))
    clear k1 hnb d0 d1 d2 d3 HC hf
    clear hk1
    by_cases hx : 2147483645 < nextG g
    · have HX := Lib.hid (show askE g = 6 by unfold askE; rw [if_pos hx])
      have HC2 := Lib.hid (gorder_no z z 0 nilV nilV g g.nd.length nb nilV [] w1 HK1.out.1 HF.out.2.2.1 (by have := HF.out; omega) hx)
      clear hx
      go_wp2_with fail
      (with_reducible refine HC2.out.mono ?_)
      rintro e w2 ⟨rfl, hw2⟩
      rw [hw2]
      exact ⟨rfl, HK1.out.2.1, .inl ⟨by rw [HE.out, HX.out]; decide, by rw [HE.out, HX.out]; rfl, HK1.out.1.any nil_sl nil_sl⟩⟩
    · have HX := Lib.hid (show askE g = 0 by unfold askE; rw [if_neg hx])
      have HC2 := Lib.hid (gorder_ok z z 0 nilV nilV g g.nd.length nb nilV [] w1 HK1.out.1 HF.out.2.2.1 (by omega) (by have := HK1.out.2.1.size; have := HZ.out; omega) (by simp))
      clear hx
      go_wp2_with fail
      (with_reducible refine HC2.out.mono ?_)
      rintro e w2 ⟨rfl, lv2, k2, hk2, -, -⟩
      have HR := Lib.hid (show DoQ z W.heap.size (errG g (askE g)) (askG g) [nextG g] (.returned (.tuple #[])) W w2 from ⟨keeps_z HK1.out.2.1 HK1.out.2.2 (hk2.sub (fun k _ h => h.elim .inl (fun h => by cases h))), .inr ⟨by rw [HE.out, HX.out], rfl, nb, lv2, k2, HK1.out.2.2⟩⟩)
      clear k2 hk2
      go_wp2
      go_end0
      exact HR.out

set_option maxHeartbeats 8000000 in
theorem pickc_c (z gb : Nat) (g : GrS) (v : Value) (cb qb : Nat) (c : Int) (q : Bool) (W : World) (kb : TBox W z 0 nilV nilV 0 0 false nilV nilV) (hg : GBox W gb g.done g.asked g.on v) (hv : BoolsAt W v g.nd) (hl : g.nd.length ≤ 9223372036854775807) (hcb : Boxed W cb 3 (.int .i64 c)) (hcz : ¬ cb = z) (hqb : Boxed W qb 4 (.bool q)) (hqz : ¬ qb = z) :
    Calls Tryz.prog 146 #[.pointer (some ⟨z, 0, none⟩), .pointer (some ⟨gb, 0, none⟩), .pointer (some ⟨cb, 0, none⟩), .pointer (some ⟨qb, 0, none⟩)] W fun e w' => DoQ z W.heap.size (errG g (pickE g c)) (pickG g c.toNat q) [] e W w' := by
  have HKB := Lib.hid kb
  have HV := Lib.hid hv
  obtain ⟨d0, d1, d2, d3⟩ := hg.cells
  cases hm : mayG g with
  | false =>
    have HC := Lib.hid (ghold_no z g v W hv hl hm)
    have HE := Lib.hid (show ∀ e, errG g e = 220 from fun e => by unfold errG; rw [hm]; rfl)
    obtain ⟨p, pc, rfl, -⟩ := hv
    clear kb hg hl hm
    go_enter Tryz.func146, Tryz.ntmps146
    go_wp2_with fail
    (with_reducible refine HC.out.mono ?_)
    rintro e w1 ⟨rfl, hb1⟩
    refine ⟨rfl, keepsB hb1, .inl ⟨by rw [HE.out]; decide, by rw [HE.out]; rfl, ?_⟩⟩
    exact TAny.keeps ⟨_, _, _, _, _, _, _, _, HKB.out, nil_sl, nil_sl, nil_sl, nil_sl⟩ (keepsB (z := z + 1) hb1) (by omega)
  | true =>
    have hf := mayG_facts hm
    have HC := Lib.hid (ghold_ok z z 0 nilV nilV 0 0 false nilV nilV [] g v W hv hf.2.1 hm kb (World.ownsRow_nil _ _ _ _))
    have HE := Lib.hid (show ∀ e, errG g e = e from fun e => by unfold errG; rw [if_pos hm])
    have HF := Lib.hid hf
    have HZ := Lib.hid (show z < W.heap.size from kb.lt)
    obtain ⟨p, pc, rfl, -⟩ := hv
    clear kb hg hl hm
    go_enter Tryz.func146, Tryz.ntmps146
    go_wp2_with fail
    (with_reducible refine HC.out.mono ?_)
    rintro e w1 ⟨rfl, nb, k1, hk1, hnb⟩
    have HK1 := Lib.hid (And.intro k1 (And.intro hk1 hnb))
    clear k1 hnb d0 d1 d2 d3 HC hf
    have hc1 : Boxed w1 cb 3 (.int .i64 c) := (hk1.block cb hcb.lt hcz).trans hcb
    have hq1 : Boxed w1 qb 4 (.bool q) := (hk1.block qb hqb.lt hqz).trans hqb
    have e0 := hc1.cell
    have e1 := hq1.cell
    clear hk1 hc1 hcb hq1 hqb
    cases hh : hasB g.nd.length c with
    | true =>
      obtain ⟨i, hic, hi⟩ := (has_iff _ _).1 hh
      subst hic
      have HC2 := Lib.hid (gpicked_ok z z 0 nilV nilV g g.nd.length nb nilV [] i q w1 HK1.out.1 hi HF.out.2.1 HF.out.2.2.1 (by have := HF.out; omega) HF.out.2.2.2.1)
      have HX := Lib.hid (show pickE g (i : Int) = 0 by unfold pickE; rw [hh, if_neg (by simp)])
      clear hh hi
      go_wp2_with fail
      (with_reducible refine HC2.out.mono ?_)
      rintro e w2 ⟨rfl, k2, hk2⟩
      have HR := Lib.hid (show DoQ z W.heap.size (errG g (pickE g (i : Int))) (pickG g ((i : Int)).toNat q) [] (.returned (.tuple #[])) W w2 from ⟨keeps_z HK1.out.2.1 HK1.out.2.2 hk2, .inr ⟨by rw [HE.out, HX.out], rfl, nb, nilV, by rw [Int.toNat_natCast, pickG_len]; exact k2, HK1.out.2.2⟩⟩)
      clear k2 hk2
      go_wp2
      go_end0
      exact HR.out
    | false =>
      have HC2 := Lib.hid (gpicked_no z z 0 nilV nilV g g.nd.length nb nilV [] c q w1 HK1.out.1 hh)
      have HX := Lib.hid (show pickE g c = 2 by unfold pickE; rw [hh, if_pos rfl])
      clear hh
      go_wp2_with fail
      (with_reducible refine HC2.out.mono ?_)
      rintro e w2 ⟨rfl, hb2⟩
      exact ⟨rfl, HK1.out.2.1.trans (keepsB hb2), .inl ⟨by rw [HE.out, HX.out]; decide, by rw [HE.out, HX.out]; rfl, (HK1.out.1.below hb2).any nil_sl nil_sl⟩⟩

end Go.Proofs.YtdllhiihmpinoaaGreat
