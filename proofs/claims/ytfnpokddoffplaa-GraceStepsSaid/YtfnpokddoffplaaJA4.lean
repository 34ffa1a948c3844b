/-
  Package grace: which graces may be.
  Conditions: the ranges of Go's types.
-/
import Derived.Test.YtfnpokddoffplaaJA3
import Derived.Test.YtfnpokddoffplaaJA1
import Derived.Lib.SmallJoins
import Derived.Laws.IdiomArrays
import Derived.Deep.Grids
import Derived.Test.YtfnpokddoffplaaJA2
/-
  Package reader: Enter and Leave.
  Conditions: the ranges of Go's types.
-/
namespace Go.Proofs.Ytfnpokddoffplaa
set_option maxRecDepth 100000
open Go.RowKit Go.Shelf
attribute [local go_sem] Oper.semAt_some

/-- What a step comes to: the readers that it answers, and the error. -/
def StepQ (B : Nat) (s : RdS) (c : Int) (en : Bool) (nw : Int) (p1 : Option Addr) (n1 c1 : Nat) (p2 : Option Addr) (n2 c2 : Nat) (err : Int) (w : World) : Prop :=
  ((mayB s.now s.ns s.os = false ∧ err = 210 ∨ Good s ∧ stepE s c en ≠ 0 ∧ err = stepE s c en) ∧ nw = 0 ∧ (p1 = none ∧ n1 = 0 ∧ c1 = 0) ∧ (p2 = none ∧ n2 = 0 ∧ c2 = 0)) ∨
  (Good s ∧ stepE s c en = 0 ∧ err = 0 ∧ nw = (stepS s c en).now ∧ ∃ g h : Nat, B ≤ g ∧ B ≤ h ∧ g ≠ h ∧ (p1 = some ⟨g, 0, none⟩ ∧ n1 = (stepS s c en).ns.length ∧ c1 = (stepS s c en).ns.length) ∧ (p2 = some ⟨h, 0, none⟩ ∧ n2 = (stepS s c en).os.length ∧ c2 = (stepS s c en).os.length) ∧ IBlock w g (stepS s c en).ns ∧ IBlock w h (stepS s c en).os)
theorem StepQ.keeps {B : Nat} {s : RdS} {c : Int} {en : Bool} {nw : Int} {p1 : Option Addr} {n1 c1 : Nat} {p2 : Option Addr} {n2 c2 : Nat} {err : Int} {w w' : World} {S : Nat → Prop} (h : StepQ B s c en nw p1 n1 c1 p2 n2 c2 err w) (hk : Keeps S w w') (hS : ∀ k, S k → k < B) : StepQ B s c en nw p1 n1 c1 p2 n2 c2 err w' := by
  rcases h with h | ⟨h1, h2, h3, h4, g, hh, h5, h6, h7, h8, h9, h10, h11⟩
  · exact .inl h
  · exact .inr ⟨h1, h2, h3, h4, g, hh, h5, h6, h7, h8, h9, h10.keeps hk (fun e => by have := hS _ e; omega), h11.keeps hk (fun e => by have := hS _ e; omega)⟩
/-- Run at one reading. -/
theorem run_one (s : RdS) (u v lv : Value) (c : Int) (en : Bool) (W : World) (hn : NumsAt W .i64 u s.ns) (ho : NumsAt W .i64 v s.os) (h1 : s.ns.length ≤ 9223372036854775807) (h2 : s.os.length ≤ 9223372036854775807) (hr : ∀ x ∈ s.os, I64 x) (hlv : RgsAt W lv [(c, en)]) :
    Calls Try.prog 67 #[.agg #[.int .i64 s.now, u, v], lv] W fun e w' => (∃ nw p1 n1 c1 p2 n2 c2 k err, e = .returned (.tuple #[.agg #[.int .i64 nw, .slice p1 n1 c1, .slice p2 n2 c2], .int .i64 k, .int .i64 err]) ∧ StepQ W.heap.size s c en nw p1 n1 c1 p2 n2 c2 err w') ∧ Below W.heap.size W w' := by
  cases hm : mayB s.now s.ns s.os with
  | false =>
    refine (run_no s.now u v lv s.ns s.os W hn ho h1 h2 hr hm).mono ?_
    rintro e w' ⟨rfl, hb⟩
    exact ⟨⟨0, none, 0, 0, none, 0, 0, 0, 210, rfl, .inl ⟨.inl ⟨hm, rfl⟩, rfl, ⟨rfl, rfl, rfl⟩, ⟨rfl, rfl, rfl⟩⟩⟩, hb⟩
  | true =>
    have g := (good_iff s).1 hm
    refine (run_yes s u v lv [(c, en)] W hn ho hlv (by simp) g).mono ?_
    rintro e w' ⟨h | h, hb⟩
    · obtain ⟨i, hi, h3, h4, rfl⟩ := h
      obtain rfl : i = 0 := by simp at hi; omega
      exact ⟨⟨0, none, 0, 0, none, 0, 0, _, _, rfl, .inl ⟨.inr ⟨g, h4, rfl⟩, rfl, ⟨rfl, rfl, rfl⟩, ⟨rfl, rfl, rfl⟩⟩⟩, hb⟩
    · obtain ⟨h3, gg, hh, h4, h5, h6, rfl, h7, h8⟩ := h
      exact ⟨⟨_, _, _, _, _, _, _, _, _, rfl, .inr ⟨g, h3.1, rfl, rfl, gg, hh, h4, h5, h6, ⟨rfl, rfl, rfl⟩, ⟨rfl, rfl, rfl⟩, h7, h8⟩⟩, hb⟩

set_option maxHeartbeats 4000000 in
theorem Enter_c (s : RdS) (u v : Value) (c : Int) (W : World) (hn : NumsAt W .i64 u s.ns) (ho : NumsAt W .i64 v s.os) (h1 : s.ns.length ≤ 9223372036854775807) (h2 : s.os.length ≤ 9223372036854775807) (hr : ∀ x ∈ s.os, I64 x) :
    Calls Try.prog 86 #[.agg #[.int .i64 s.now, u, v], .int .i64 c] W fun e w' => (∃ nw p1 n1 c1 p2 n2 c2 err, e = .returned (.tuple #[.agg #[.int .i64 nw, .slice p1 n1 c1, .slice p2 n2 c2], .int .i64 err]) ∧ StepQ (W.heap.size + 2) s c true nw p1 n1 c1 p2 n2 c2 err w') ∧ Below W.heap.size W w' := by
  have HF := Lib.hid (wR_facts W s.now u v)
  obtain ⟨w0, hw0⟩ : ∃ X, X = wR W s.now u v := ⟨_, rfl⟩
  rw [← hw0] at HF
  unfold wR at hw0
  obtain ⟨w1, hw1⟩ : ∃ X : World, X = w0.alloc (.cells #[.int .i64 c, .bool true] 102) := ⟨_, rfl⟩
  have hb1 : Below w0.heap.size w0 w1 := by rw [hw1]; exact below1 _ _
  have hz1 : w1.heap.size = W.heap.size + 3 := by rw [hw1, World.size_alloc, HF.out.2.2.2]
  have hlv : RgsAt w1 (.slice (some ⟨W.heap.size + 2, 0, none⟩) 1 1) [(c, true)] := ⟨_, _, rfl, fun _ => ⟨_, _, rfl, fun i hi => by
    obtain rfl : i = 0 := by simp at hi; omega
    have h : w1.heap[W.heap.size + 2]? = some (.cells #[.int .i64 c, .bool true] 102 (0, 0)) := by rw [hw1, ← HF.out.2.2.2]; exact World.alloc_heap_new _ _
    simp [World.cell?, h]⟩⟩
  have HC := Lib.hid (run_one s u v _ c true w1 (nums_below (nums_below hn HF.out.2.2.1) hb1) (nums_below (nums_below ho HF.out.2.2.1) hb1) h1 h2 hr hlv)
  have HF1 := Lib.hid (show RBox w1 W.heap.size s.now u v ∧ RBox w1 (W.heap.size + 1) 0 (.slice none 0 0) (.slice none 0 0) ∧ Below W.heap.size W w1 ∧ w1.heap.size = W.heap.size + 3 from ⟨HF.out.1.below hb1, HF.out.2.1.below hb1, below_then HF.out.2.2.1 HF.out.2.2.1.size hb1, hz1⟩)
  obtain ⟨d0, d1, d2⟩ := HF.out.1.cells
  obtain ⟨p, cp, rfl, -⟩ := hn
  obtain ⟨q, cq, rfl, -⟩ := ho
  have hz0 := HF.out.2.2.2
  have HW1 := Lib.hid hw1
  clear hr h1 h2 hlv hb1 hz1 hw1 HF
  go_enter Try.func86, Try.ntmps86
  go_wp2_with fail
  rw [← hw0]
  rw [← HW1.out]
  clear hw0 hz0
  (with_reducible refine HC.out.mono ?_)
  rintro e w2 ⟨⟨nw, p1, n1, c1, p2, n2, c2, k, err, rfl, hQ⟩, hb2⟩
  have hR2 := HF1.out.1.below hb2
  have hZ2 := HF1.out.2.1.below hb2
  have hB2 := below_then HF1.out.2.2.1 HF1.out.2.2.1.size hb2
  have hR3 := hR2.put nw (.slice p1 n1 c1) (.slice p2 n2 c2)
  have hk3 := RBox.putK w2 W.heap.size nw (.slice p1 n1 c1) (.slice p2 n2 c2)
  obtain ⟨w3, hw3⟩ : ∃ X : World, X = (((w2.setCell ⟨W.heap.size, 0, none⟩ (.int .i64 nw)).setCell ⟨W.heap.size, 1, none⟩ (.slice p1 n1 c1)).setCell ⟨W.heap.size, 2, none⟩ (.slice p2 n2 c2)) := ⟨_, rfl⟩
  rw [← hw3] at hR3 hk3
  have hZ3 := hZ2.keeps hk3 (by omega)
  have HB3 := Lib.hid (hB2.trans (hk3.below hB2.size (fun j e => by omega)))
  have HQ3 := Lib.hid ((hQ.keeps hk3 (fun j e => by have := HF1.out.2.2.2; omega)))
  obtain ⟨f0, f1, f2⟩ := hR2.cells
  have l0 := hR2.marks 0
  have l1 := hR2.marks 1
  have l2 := hR2.marks 2
  have HR3 := Lib.hid hR3
  have HZ3 := Lib.hid hZ3
  have HW3 := Lib.hid hw3
  clear hQ hb2 hR2 hZ2 hB2 hR3 hk3 hw3 hZ3 HC d0 d1 d2
  go_upto_region 2 with fail
  rw [← HW3.out]
  clear f0 f1 f2 l0 l1 l2 HW3
  obtain ⟨f0, f1, f2⟩ := HR3.out.cells
  obtain ⟨g0, g1, g2⟩ := HZ3.out.cells
  have m0 := HZ3.out.marks 0
  have m1 := HZ3.out.marks 1
  have m2 := HZ3.out.marks 2
  have HP := Lib.hid (HZ3.out.put nw (.slice p1 n1 c1) (.slice p2 n2 c2))
  have HK := Lib.hid (RBox.putK w3 (W.heap.size + 1) nw (.slice p1 n1 c1) (.slice p2 n2 c2))
  obtain ⟨w4, hw4⟩ : ∃ X : World, X = (((w3.setCell ⟨W.heap.size + 1, 0, none⟩ (.int .i64 nw)).setCell ⟨W.heap.size + 1, 1, none⟩ (.slice p1 n1 c1)).setCell ⟨W.heap.size + 1, 2, none⟩ (.slice p2 n2 c2)) := ⟨_, rfl⟩
  rw [← hw4] at HP HK
  have HW4 := Lib.hid hw4
  clear hw4
  go_wp2
  rw [← HW4.out]
  refine bodyPost_ret (v := .tuple #[.agg #[.int .i64 nw, .slice p1 n1 c1, .slice p2 n2 c2], .int .i64 err]) (HP.out.result2 rfl _ rfl rfl) rfl ⟨⟨_, _, _, _, _, _, _, _, rfl, ?_⟩, HB3.out.trans (HK.out.below HB3.out.size (fun j e => by omega))⟩
  rcases HQ3.out.keeps HK.out (fun j e => by have := HF1.out.2.2.2; omega) with h | ⟨h1, h2, h3, h4, g, hh, h5, h6, h7⟩
  · exact .inl h
  · exact .inr ⟨h1, h2, h3, h4, g, hh, by have := HF1.out.2.2.2; omega, by have := HF1.out.2.2.2; omega, h7⟩

set_option maxHeartbeats 4000000 in
theorem Leave_c (s : RdS) (u v : Value) (c : Int) (W : World) (hn : NumsAt W .i64 u s.ns) (ho : NumsAt W .i64 v s.os) (h1 : s.ns.length ≤ 9223372036854775807) (h2 : s.os.length ≤ 9223372036854775807) (hr : ∀ x ∈ s.os, I64 x) :
    Calls Try.prog 87 #[.agg #[.int .i64 s.now, u, v], .int .i64 c] W fun e w' => (∃ nw p1 n1 c1 p2 n2 c2 err, e = .returned (.tuple #[.agg #[.int .i64 nw, .slice p1 n1 c1, .slice p2 n2 c2], .int .i64 err]) ∧ StepQ (W.heap.size + 2) s c false nw p1 n1 c1 p2 n2 c2 err w') ∧ Below W.heap.size W w' := by
  have HF := Lib.hid (wR_facts W s.now u v)
  obtain ⟨w0, hw0⟩ : ∃ X, X = wR W s.now u v := ⟨_, rfl⟩
  rw [← hw0] at HF
  unfold wR at hw0
  obtain ⟨w1, hw1⟩ : ∃ X : World, X = w0.alloc (.cells #[.int .i64 c, .bool false] 102) := ⟨_, rfl⟩
  have hb1 : Below w0.heap.size w0 w1 := by rw [hw1]; exact below1 _ _
  have hz1 : w1.heap.size = W.heap.size + 3 := by rw [hw1, World.size_alloc, HF.out.2.2.2]
  have hlv : RgsAt w1 (.slice (some ⟨W.heap.size + 2, 0, none⟩) 1 1) [(c, false)] := ⟨_, _, rfl, fun _ => ⟨_, _, rfl, fun i hi => by
    obtain rfl : i = 0 := by simp at hi; omega
    have h : w1.heap[W.heap.size + 2]? = some (.cells #[.int .i64 c, .bool false] 102 (0, 0)) := by rw [hw1, ← HF.out.2.2.2]; exact World.alloc_heap_new _ _
    simp [World.cell?, h]⟩⟩
  have HC := Lib.hid (run_one s u v _ c false w1 (nums_below (nums_below hn HF.out.2.2.1) hb1) (nums_below (nums_below ho HF.out.2.2.1) hb1) h1 h2 hr hlv)
  have HF1 := Lib.hid (show RBox w1 W.heap.size s.now u v ∧ RBox w1 (W.heap.size + 1) 0 (.slice none 0 0) (.slice none 0 0) ∧ Below W.heap.size W w1 ∧ w1.heap.size = W.heap.size + 3 from ⟨HF.out.1.below hb1, HF.out.2.1.below hb1, below_then HF.out.2.2.1 HF.out.2.2.1.size hb1, hz1⟩)
  obtain ⟨d0, d1, d2⟩ := HF.out.1.cells
  obtain ⟨p, cp, rfl, -⟩ := hn
  obtain ⟨q, cq, rfl, -⟩ := ho
  have hz0 := HF.out.2.2.2
  have HW1 := Lib.hid hw1
  clear hr h1 h2 hlv hb1 hz1 hw1 HF
  go_enter Try.func87, Try.ntmps87
  go_wp2_with fail
  rw [← hw0]
  rw [← HW1.out]
  clear hw0 hz0
  (with_reducible refine HC.out.mono ?_)
  rintro e w2 ⟨⟨nw, p1, n1, c1, p2, n2, c2, k, err, rfl, hQ⟩, hb2⟩
  have hR2 := HF1.out.1.below hb2
  have hZ2 := HF1.out.2.1.below hb2
  have hB2 := below_then HF1.out.2.2.1 HF1.out.2.2.1.size hb2
  have hR3 := hR2.put nw (.slice p1 n1 c1) (.slice p2 n2 c2)
  have hk3 := RBox.putK w2 W.heap.size nw (.slice p1 n1 c1) (.slice p2 n2 c2)
  obtain ⟨w3, hw3⟩ : ∃ X : World, X = (((w2.setCell ⟨W.heap.size, 0, none⟩ (.int .i64 nw)).setCell ⟨W.heap.size, 1, none⟩ (.slice p1 n1 c1)).setCell ⟨W.heap.size, 2, none⟩ (.slice p2 n2 c2)) := ⟨_, rfl⟩
  rw [← hw3] at hR3 hk3
  have hZ3 := hZ2.keeps hk3 (by omega)
  have HB3 := Lib.hid (hB2.trans (hk3.below hB2.size (fun j e => by omega)))
  have HQ3 := Lib.hid ((hQ.keeps hk3 (fun j e => by have := HF1.out.2.2.2; omega)))
  obtain ⟨f0, f1, f2⟩ := hR2.cells
  have l0 := hR2.marks 0
  have l1 := hR2.marks 1
  have l2 := hR2.marks 2
  have HR3 := Lib.hid hR3
  have HZ3 := Lib.hid hZ3
  have HW3 := Lib.hid hw3
  clear hQ hb2 hR2 hZ2 hB2 hR3 hk3 hw3 hZ3 HC d0 d1 d2
  go_upto_region 2 with fail
  rw [← HW3.out]
  clear f0 f1 f2 l0 l1 l2 HW3
  obtain ⟨f0, f1, f2⟩ := HR3.out.cells
  obtain ⟨g0, g1, g2⟩ := HZ3.out.cells
  have m0 := HZ3.out.marks 0
  have m1 := HZ3.out.marks 1
  have m2 := HZ3.out.marks 2
  have HP := Lib.hid (HZ3.out.put nw (.slice p1 n1 c1) (.slice p2 n2 c2))
  have HK := Lib.hid (RBox.putK w3 (W.heap.size + 1) nw (.slice p1 n1 c1) (.slice p2 n2 c2))
  obtain ⟨w4, hw4⟩ : ∃ X : World, X = (((w3.setCell ⟨W.heap.size + 1, 0, none⟩ (.int .i64 nw)).setCell ⟨W.heap.size + 1, 1, none⟩ (.slice p1 n1 c1)).setCell ⟨W.heap.size + 1, 2, none⟩ (.slice p2 n2 c2)) := ⟨_, rfl⟩
  rw [← hw4] at HP HK
  have HW4 := Lib.hid hw4
  clear hw4
  go_wp2
  rw [← HW4.out]
  refine bodyPost_ret (v := .tuple #[.agg #[.int .i64 nw, .slice p1 n1 c1, .slice p2 n2 c2], .int .i64 err]) (HP.out.result2 rfl _ rfl rfl) rfl ⟨⟨_, _, _, _, _, _, _, _, rfl, ?_⟩, HB3.out.trans (HK.out.below HB3.out.size (fun j e => by omega))⟩
  rcases HQ3.out.keeps HK.out (fun j e => by have := HF1.out.2.2.2; omega) with h | ⟨h1, h2, h3, h4, g, hh, h5, h6, h7⟩
  · exact .inl h
  · exact .inr ⟨h1, h2, h3, h4, g, hh, by have := HF1.out.2.2.2; omega, by have := HF1.out.2.2.2; omega, h7⟩

end Go.Proofs.Ytfnpokddoffplaa
/-
  Package reader: Check, Same, Quiet, Passed.
  Conditions: the ranges of Go's types.
-/
namespace Go.Proofs.Ytfnpokddoffplaa
set_option maxRecDepth 100000
open Go.RowKit Go.Shelf
attribute [local go_sem] Oper.semAt_some

def sameB (s t : RdS) : Bool := decide (s.now = t.now) && (decide (s.ns = t.ns) && decide (s.os = t.os))
/-- Two boxes. -/
def wS (W : World) (now : Int) (u v : Value) (now' : Int) (u' v' : Value) : World := (W.alloc (.cells #[.int .i64 now, u, v] 45)).alloc (.cells #[.int .i64 now', u', v'] 45)
theorem wS_facts (W : World) (now : Int) (u v : Value) (now' : Int) (u' v' : Value) : RBox (wS W now u v now' u' v') W.heap.size now u v ∧ RBox (wS W now u v now' u' v') (W.heap.size + 1) now' u' v' ∧ Below W.heap.size W (wS W now u v now' u' v') := by
  refine ⟨(RBox.new W now u v).below (below1 _ _), ?_, below2 _ _ _⟩
  have := RBox.new (W.alloc (.cells #[.int .i64 now, u, v] 45)) now' u' v'
  rwa [World.size_alloc] at this

/-- Is the CPU there, and quiet? -/
def quietB (s : RdS) (c : Int) : Bool := mayB s.now s.ns s.os && (hasB s.ns.length c && decide (s.ns.getD c.toNat 0 = 0))
set_option maxHeartbeats 4000000 in
theorem quiet_c (s : RdS) (u v : Value) (c : Int) (W : World) (hn : NumsAt W .i64 u s.ns) (ho : NumsAt W .i64 v s.os) (h1 : s.ns.length ≤ 9223372036854775807) (h2 : s.os.length ≤ 9223372036854775807) (hr : ∀ x ∈ s.os, I64 x) :
    Calls Try.prog 88 #[.agg #[.int .i64 s.now, u, v], .int .i64 c] W fun e w' => e = .returned (.bool (quietB s c)) ∧ Below W.heap.size W w' := by
  obtain ⟨w0, hw0⟩ : ∃ X : World, X = W.alloc (.cells #[.int .i64 s.now, u, v] 45) := ⟨_, rfl⟩
  have hb0 : Below W.heap.size W w0 := by rw [hw0]; exact below1 _ _
  have HB := Lib.hid hb0
  have HC := Lib.hid (may_c s.now u v s.ns s.os w0 (nums_below hn hb0) (nums_below ho hb0) h1 h2 hr)
  have hbx : RBox w0 W.heap.size s.now u v := by rw [hw0]; exact RBox.new _ _ _ _
  have HBX := Lib.hid hbx
  obtain ⟨d0, d1, d2⟩ := hbx.cells
  have HN := Lib.hid (nums_below hn hb0)
  obtain ⟨p, cp, rfl, -⟩ := hn
  obtain ⟨p2, cp2, rfl, -⟩ := ho
  have HH := Lib.hid (fun Z => has_c s.now c p s.ns.length cp (.slice p2 s.os.length cp2) Z)
  clear hb0 hr h1 h2 hbx
  unfold quietB
  cases hm : mayB s.now s.ns s.os with
  | false =>
    rw [hm] at HC
    rw [Bool.false_and]
    clear hm HH
    go_enter Try.func88, Try.ntmps88
    go_wp2_with fail
    rw [← hw0]
    clear hw0
    (with_reducible refine HC.out.mono ?_)
    rintro e w1 ⟨rfl, hb1⟩
    have HB1 := Lib.hid (below_then HB.out HB.out.size hb1)
    clear hb1
    go_wp2
    go_ret
    exact ⟨rfl, HB1.out⟩
  | true =>
    rw [hm] at HC
    rw [Bool.true_and]
    clear hm
    cases hh : hasB s.ns.length c with
    | false =>
      rw [hh] at HH
      rw [Bool.false_and]
      clear hh
      go_enter Try.func88, Try.ntmps88
      go_wp2_with fail
      rw [← hw0]
      clear hw0
      (with_reducible refine HC.out.mono ?_)
      rintro e w1 ⟨rfl, hb1⟩
      have HB1 := Lib.hid (below_then HB.out HB.out.size hb1)
      obtain ⟨d0, d1, d2⟩ := (HBX.out.below hb1).cells
      clear hb1
      go_wp2_with fail
      (with_reducible refine (HH.out _).mono ?_)
      rintro e w2 ⟨rfl, hb2⟩
      have HB2 := Lib.hid (below_then HB1.out HB1.out.size hb2)
      clear hb2
      go_wp2
      go_ret
      exact ⟨rfl, HB2.out⟩
    | true =>
      obtain ⟨i, rfl, hi⟩ := (has_iff _ _).1 hh
      rw [hh] at HH
      rw [Bool.true_and, Int.toNat_natCast, getD_lt hi]
      clear hh
      obtain ⟨n, hn⟩ : ∃ n, n = s.ns[i] := ⟨_, rfl⟩
      rw [← hn]
      have HX := Lib.hid (show ∃ b off, p = some ⟨b, off, none⟩ ∧ w0.cell? ⟨b, off + i, none⟩ = some (.int .i64 n) by
        obtain ⟨q, cc, e, hcs⟩ := HN.out
        injection e with e1 e2 e3
        subst e1
        obtain ⟨b, off, e, hc⟩ := hcs (by intro e; rw [e] at hi; simp at hi)
        exact ⟨b, off, e, by rw [hn]; exact hc i hi⟩)
      obtain ⟨b, off, rfl, hx⟩ := HX.out
      have hi0 : (0 : Int) ≤ (i : Int) := by omega
      have hil : (i : Int) < (s.ns.length : Int) := by omega
      clear hn HX
      by_cases hz : n = 0
      · have hq : (n == 0) = true := by rw [hz]; rfl
        rw [decide_eq_true hz]
        clear hz
        go_enter Try.func88, Try.ntmps88
        go_wp2_with fail
        rw [← hw0]
        clear hw0
        (with_reducible refine HC.out.mono ?_)
        rintro e w1 ⟨rfl, hb1⟩
        have HB1 := Lib.hid (below_then HB.out HB.out.size hb1)
        have HBX1 := Lib.hid (HBX.out.below hb1)
        obtain ⟨d0, d1, d2⟩ := HBX1.out.cells
        have hx1 := below_cell hb1 hx
        clear hb1 hx
        go_wp2_with fail
        (with_reducible refine (HH.out _).mono ?_)
        rintro e w2 ⟨rfl, hb2⟩
        have HB2 := Lib.hid (below_then HB1.out HB1.out.size hb2)
        obtain ⟨d0, d1, d2⟩ := (HBX1.out.below hb2).cells
        have hx2 := below_cell hb2 hx1
        clear hb2 hx1
        go_wp2
        go_ret
        exact ⟨rfl, HB2.out⟩
      · have hq : (n == 0) = false := by rw [beq_eq_false_iff_ne]; exact hz
        rw [decide_eq_false hz]
        clear hz
        go_enter Try.func88, Try.ntmps88
        go_wp2_with fail
        rw [← hw0]
        clear hw0
        (with_reducible refine HC.out.mono ?_)
        rintro e w1 ⟨rfl, hb1⟩
        have HB1 := Lib.hid (below_then HB.out HB.out.size hb1)
        have HBX1 := Lib.hid (HBX.out.below hb1)
        obtain ⟨d0, d1, d2⟩ := HBX1.out.cells
        have hx1 := below_cell hb1 hx
        clear hb1 hx
        go_wp2_with fail
        (with_reducible refine (HH.out _).mono ?_)
        rintro e w2 ⟨rfl, hb2⟩
        have HB2 := Lib.hid (below_then HB1.out HB1.out.size hb2)
        obtain ⟨d0, d1, d2⟩ := (HBX1.out.below hb2).cells
        have hx2 := below_cell hb2 hx1
        clear hb2 hx1
        go_wp2
        go_ret
        exact ⟨rfl, HB2.out⟩

end Go.Proofs.Ytfnpokddoffplaa
/-
  own, of the statements of layer 11: readers with the first nine of their CPUs, in memory of their own.
  Conditions: the readers are ones that came in.
-/
namespace Go.Proofs.Ytfnpokddoffplaa
set_option maxRecDepth 100000
open Go.RowKit Go.Shelf
attribute [local go_sem] Oper.semAt_some

/-- A slice that came in: nil, or at an address. -/
def ArgR (W : World) (v : Value) (xs : List Value) : Prop := ∃ p n c, v = .slice p n c ∧ n = xs.length ∧ ((p = none ∧ n = 0 ∧ c = 0) ∨ ∃ a : Addr, p = some a ∧ n ≤ c ∧ ∀ j u, xs[j]? = some u → W.cell? (a.add j) = some u)
theorem ArgR.below {w w' : World} {v : Value} {xs : List Value} (h : ArgR w v xs) (hb : Below w.heap.size w w') : ArgR w' v xs := by
  obtain ⟨p, n, c, rfl, hn, h⟩ := h
  refine ⟨p, n, c, rfl, hn, ?_⟩
  rcases h with h | ⟨a, rfl, hc, hcs⟩
  · exact .inl h
  · exact .inr ⟨a, rfl, hc, fun j u hj => below_cell hb (hcs j u hj)⟩
theorem vals_cut {W : World} {p : Option Addr} {n c : Nat} {xs : List Value} (hn : n = xs.length) (h : (p = none ∧ n = 0 ∧ c = 0) ∨ ∃ a : Addr, p = some a ∧ n ≤ c ∧ ∀ j u, xs[j]? = some u → W.cell? (a.add j) = some u) :
    ValsAt W (.slice p (min n 9) c) 1 (min n 9) (xs.take 9) := by
  refine ⟨by rw [List.length_take, hn]; omega, p, c, rfl, ?_⟩
  rcases h with ⟨rfl, rfl, rfl⟩ | ⟨a, rfl, _, hcs⟩
  · exact .inl ⟨rfl, rfl, rfl⟩
  · refine .inr ⟨a, rfl, fun j u hj => hcs j u ?_⟩
    rw [List.getElem?_take] at hj
    split at hj
    · exact hj
    · cases hj
theorem run_cut9 (p : Option Addr) (n c k : Nat) (h : k ≤ c) (wx : World) :
    (Instr.slice 25 (.slice p n c) none (some (.int .i64 (k : Int))) none).run Try.prog wx = .ok (.slice p k c) wx := by
  rw [run_slice_h wx 25 p n c Try.underlying25 .i64 (k : Int) (by omega) (by omega)]
  have hE : (sizeOf (Try.prog.elem 25)).run Try.prog wx = .ok 1 wx := by go_simp
  rw [hE]
  have : Option.map (fun x : Addr => x.add 0) p = p := by cases p <;> simp [Addr.add_zero']
  simp [sliced, Result.andThen, this]
theorem run_min9 (n k : Nat) (hk : k = min n 9) (wx : World) : (Builtin.min_ #[3, 3] 3 #[.int .i64 (n : Int), .int .i64 9]).run Try.prog wx = .ok (.int .i64 (k : Int)) wx := by
  have : (if (9 : Int) < (n : Int) then (9 : Int) else n) = (k : Int) := by rw [hk]; split <;> omega
  simp [Builtin.min_, Builtin.min2, this]
/-- Readers that lie in new memory. -/
def OwnR (B : Nat) (s : RdS) (u v : Value) (w : World) : Prop := w.ownsRow B 3 1 u s.ns.length (s.ns.map (Value.int .i64)) ∧ w.ownsRow B 3 1 v s.os.length (s.os.map (Value.int .i64))
theorem OwnR.below {B : Nat} {s : RdS} {u v : Value} {w w' : World} (h : OwnR B s u v w) (hb : Below w.heap.size w w') : OwnR B s u v w' := ⟨owns_below h.1 hb, owns_below h.2 hb⟩
theorem OwnR.nums {B : Nat} {s : RdS} {u v : Value} {w : World} (h : OwnR B s u v w) : NumsAt w .i64 u s.ns ∧ NumsAt w .i64 v s.os := ⟨nums_of_owns rfl h.1, nums_of_owns rfl h.2⟩
def GivesR (B : Nat) (s : RdS) (e : Ending) (w' : World) : Prop := ∃ p0 c0 p1 c1, e = .returned (.agg #[.int .i64 s.now, .slice p0 s.ns.length c0, .slice p1 s.os.length c1]) ∧ OwnR B s (.slice p0 s.ns.length c0) (.slice p1 s.os.length c1) w'

end Go.Proofs.Ytfnpokddoffplaa
/-
  Opening arguments of layer 11: readers.
  Conditions: none.
-/
namespace Go.Proofs.Ytfnpokddoffplaa
open Go.ChangeShapes Go.WideShapes Go.ChangeAt Go.RowKit Go.Deep Go.Joins

theorem ints_argr {H : Type} {enc : TypeId × Value → H} {P : Program} {W : World} {t e : TypeId} {n : Nat} {v : Value} {y : DataW H × List MemPlace} (ht : P.underlying t = some (.slice e)) (he : P.underlying e = some (.int .i64)) (hc : P.cellsOf e = 1)
    (hf : DataW.trod enc P W 0 (fun _ => true) true n t [v] = some y) :
    ∃ ns : List Int, ArgR W v (ns.map (Value.int .i64)) ∧ ns.length ≤ 9223372036854775807 ∧ ∀ x ∈ ns, I64 x := by
  rcases open_ints ht he hc hf with ⟨hcs, _⟩ | ⟨a, len', cap', zs, hcs, _, hl, hm, hz, _, hcell, hwz⟩
  · simp only [List.cons.injEq, and_true] at hcs
    subst hcs
    exact ⟨[], ⟨_, _, _, rfl, rfl, .inl ⟨rfl, rfl, rfl⟩⟩, by decide, fun x hx => by cases hx⟩
  · simp only [List.cons.injEq, and_true] at hcs
    subst hcs
    simp only [if_true] at hz
    have hlen : (zs.take len').length = len' := List.length_take_of_le (by omega)
    refine ⟨zs.take len', ⟨_, _, _, rfl, by rw [List.length_map, hlen], .inr ⟨a, rfl, hl, fun j u hj => ?_⟩⟩, by rw [hlen]; unfold maxLen at hm; omega, fun x hx => by
      have := hwz x (List.mem_of_mem_take hx)
      simpa [Lit.wf, IntKind.min, IntKind.max, IntKind.signed, IntKind.bits, I64] using this⟩
    obtain ⟨hj1, rfl⟩ := List.getElem?_eq_some_iff.1 hj
    have hj2 : j < len' := by
      have := hj1
      rw [List.length_map, hlen] at this
      exact this
    have h1 := hcell j (by omega)
    rw [List.getD_eq_getElem?_getD, List.getElem?_eq_getElem (by omega)] at h1
    simpa using h1
set_option maxRecDepth 100000 in
theorem readers_open {H : Type} {enc : TypeId × Value → H} {W : World} {base : Nat} {v : Value} {d : DataW H} {ps : List MemPlace}
    (hval : Value.okWide Try.prog W .any base 45 v) (h : DataW.Trod enc Try.prog W 0 (fun _ => true) true 45 v d ps) :
    ∃ (now : Int) (u1 u2 : Value) (xs ys : List Int), v = .agg #[.int .i64 now, u1, u2] ∧ ArgR W u1 (xs.map (Value.int .i64)) ∧ ArgR W u2 (ys.map (Value.int .i64)) ∧ xs.length ≤ 9223372036854775807 ∧ ys.length ≤ 9223372036854775807 ∧ (∀ y ∈ ys, I64 y) ∧ I64 now := by
  obtain ⟨v0, v1, v2, y0, y1, y2, n, rfl, _, _, h0, h1, h2⟩ := open_agg3 Try.underlying45 (by kernel_rfl) (by kernel_rfl) hval h
  obtain ⟨b, hb, _, wb⟩ := DataW.trod_int (t := 3) Try.underlying3 h0
  simp only [List.cons.injEq, and_true] at hb
  subst hb
  obtain ⟨xs, hx, lx, -⟩ := ints_argr (t := 25) Try.underlying25 Try.underlying3 (by kernel_rfl) h1
  obtain ⟨ys, hy, ly, ry⟩ := ints_argr (t := 25) Try.underlying25 Try.underlying3 (by kernel_rfl) h2
  exact ⟨b, v1, v2, xs, ys, rfl, hx, hy, lx, ly, ry, by simpa [Lit.wf, IntKind.min, IntKind.max, IntKind.signed, IntKind.bits, I64] using wb⟩
end Go.Proofs.Ytfnpokddoffplaa
/-
  Opening arguments of layer 11: a row of readings.
  Conditions: none.
-/
namespace Go.Proofs.Ytfnpokddoffplaa
open Go.ChangeShapes Go.WideShapes Go.ChangeAt Go.RowKit Go.Deep Go.Joins

theorem choose_lt' {α : Type} [Inhabited α] {P : Nat → α → Prop} {n : Nat} (h : ∀ i, i < n → ∃ x, P i x) : ∃ F : Nat → α, ∀ i, i < n → P i (F i) := by
  classical
  refine ⟨fun i => if hi : i < n then (h i hi).choose else default, fun i hi => ?_⟩
  simp only [hi, dif_pos]
  exact (h i hi).choose_spec
theorem spot_none {W : World} {b off : Nat} {sp : Option Nat} {u : Value} (h : W.cell? ⟨b, off, sp⟩ = some u) : sp = none := by
  cases sp with
  | none => rfl
  | some x =>
    simp only [World.cell?] at h
    split at h <;> simp at h

set_option maxRecDepth 100000 in
theorem readings_open {H : Type} {enc : TypeId × Value → H} {W : World} {base : Nat} {v : Value} {d : DataW H} {ps : List MemPlace}
    (hval : Value.okWide Try.prog W .any base 108 v) (h : DataW.Trod enc Try.prog W 0 (fun _ => true) true 108 v d ps) :
    ∃ bs : List (Int × Bool), RgsAt W v bs ∧ bs.length ≤ 9223372036854775807 ∧ ∀ p n c, v = .slice p n c → n ≤ c ∧ (p = none → c = 0) := by
  obtain ⟨a0, len, cap, rfl⟩ := okWide_slice Try.underlying108 hval
  obtain ⟨fuel, hf⟩ := h
  have hce : Try.prog.cellsOf 102 = 2 := by kernel_rfl
  have hcu : Try.prog.cellsOf 3 = 1 := by kernel_rfl
  have hcb : Try.prog.cellsOf 4 = 1 := by kernel_rfl
  rcases open_slice Try.underlying108 hf with ⟨hcs, _⟩ | ⟨a, len', cap', m, n, D, Pl, hcs, _, hl, hm, hmm, _, hall⟩
  · simp [Value.cells] at hcs
    obtain ⟨rfl, rfl, rfl⟩ := hcs
    exact ⟨[], ⟨_, _, rfl, fun h => absurd rfl h⟩, by decide, fun p n c e => by cases e; exact ⟨Nat.le_refl _, fun _ => rfl⟩⟩
  · simp [Value.cells] at hcs
    obtain ⟨rfl, rfl, rfl⟩ := hcs
    simp only [if_true] at hmm
    have hone : ∀ i, i < len → ∃ g : Int × Bool, W.cell? (a.add (i * 2)) = some (.int .i64 g.1) ∧ W.cell? (a.add (i * 2 + 1)) = some (.bool g.2) := by
      intro i hi
      obtain ⟨cs', hc, ht⟩ := hall i (by omega)
      rw [hce] at hc
      obtain ⟨_, hcl, hat⟩ := World.cells?_some hc
      obtain ⟨xs, k, _, _, _, hlx, hx⟩ := DataW.trod_struct Try.underlying102 ht
      have hlx : xs.length = 2 := hlx
      match cs', hcl with
      | [c0, c1], _ =>
        have h0 : DataW.trod enc Try.prog W 0 (fun _ => true) true k 3 (([c0, c1].drop 0).take (Try.prog.cellsOf 3)) = xs[0]? := hx 0 _ rfl
        have h1 : DataW.trod enc Try.prog W 0 (fun _ => true) true k 4 (([c0, c1].drop 1).take (Try.prog.cellsOf 4)) = xs[1]? := hx 1 _ rfl
        rw [hcu] at h0
        rw [hcb] at h1
        simp only [List.drop_zero, List.take_succ_cons, List.take_zero, List.drop_succ_cons] at h0 h1
        rw [List.getElem?_eq_getElem (by omega)] at h0 h1
        have e0 := hat 0 (by decide)
        have e1 := hat 1 (by decide)
        rw [Go.Deep.add_add] at e0 e1
        obtain ⟨x0, y0, _, w0⟩ := DataW.trod_int (t := 3) Try.underlying3 h0
        obtain ⟨x1, y1, _⟩ := DataW.trod_bool (t := 4) Try.underlying4 h1
        simp only [List.cons.injEq, and_true] at y0 y1
        subst y0 y1
        exact ⟨(x0, x1), by simpa using e0, by simpa using e1⟩
    obtain ⟨F, hF⟩ := choose_lt' hone
    have hlen : ((List.range len).map F).length = len := by simp
    refine ⟨(List.range len).map F, ⟨_, _, by rw [hlen], fun hne => ?_⟩, by rw [hlen]; unfold maxLen at hm; omega, fun p n c e => by cases e; exact ⟨hl, fun h => by cases h⟩⟩
    have hpos : 0 < len := by
      rcases Nat.eq_zero_or_pos len with e | e
      · subst e; exact absurd rfl hne
      · exact e
    obtain ⟨b, off, sp⟩ := a
    have h0 := (hF 0 hpos).1
    rw [Nat.zero_mul, Addr.add_zero'] at h0
    obtain rfl := spot_none h0
    refine ⟨b, off, rfl, fun i hi => ?_⟩
    rw [hlen] at hi
    have hg := hF i hi
    rw [addr_add_off, addr_add_off] at hg
    simp only [List.getElem_map, List.getElem_range]
    exact ⟨hg.1, by rw [Nat.add_assoc]; exact hg.2⟩


end Go.Proofs.Ytfnpokddoffplaa
/-
  Package grace: graces, their boxes, and rows of truth values; which CPUs there are; who is needed.
  Conditions: none.
-/
namespace Go.Proofs.Ytfnpokddoffplaa
set_option maxRecDepth 100000
open Go.RowKit Go.Shelf
attribute [local go_sem] Oper.semAt_some

/-- A grace. -/
structure GrS where
  done : Int
  asked : Int
  on : Bool
  nd : List Bool

/-- A slice of truth values. -/
def BoolsAt (W : World) (v : Value) (bs : List Bool) : Prop := ∃ p cap, v = .slice p bs.length cap ∧ (bs ≠ [] → ∃ b off, p = some ⟨b, off, none⟩ ∧ ∀ i (h : i < bs.length), W.cell? ⟨b, off + i, none⟩ = some (.bool bs[i]))
theorem bools_below {W W' : World} {v : Value} {bs : List Bool} (h : BoolsAt W v bs) (hb : Below W.heap.size W W') : BoolsAt W' v bs := by
  obtain ⟨p, cap, rfl, hc⟩ := h
  refine ⟨p, cap, rfl, fun hne => ?_⟩
  obtain ⟨b, off, rfl, hcs⟩ := hc hne
  exact ⟨b, off, rfl, fun i hi => below_cell hb (hcs i hi)⟩
theorem bools_of_owns {B : Nat} {E : TypeId} {W : World} {v : Value} {bs : List Bool} {n : Nat} (hl : bs.length = n) (h : W.ownsRow B E 1 v n (bs.map Value.bool)) : BoolsAt W v bs := by
  subst hl
  rcases h.2 with ⟨rfl, h0⟩ | ⟨g, cap, cur, rfl, _⟩
  · obtain rfl : bs = [] := List.eq_nil_of_length_eq_zero h0
    exact ⟨none, 0, rfl, fun h => absurd rfl h⟩
  · refine ⟨_, _, rfl, fun _ => ⟨g, 0, rfl, fun i hi => ?_⟩⟩
    have h1 := h.cellAt i (by omega)
    rw [List.getElem?_eq_getElem (by simpa using hi)] at h1
    simpa using h1
/-- A block that holds these truth values. -/
def BBlock (W : World) (g : Nat) (bs : List Bool) : Prop := W.heap[g]? = some (.cells (bs.map Value.bool).toArray 4 (0, 0))
theorem BBlock.lt {W : World} {g : Nat} {bs : List Bool} (h : BBlock W g bs) : g < W.heap.size := (Array.getElem?_eq_some_iff.1 h).1
theorem BBlock.below {W W' : World} {g : Nat} {bs : List Bool} (h : BBlock W g bs) (hb : Below W.heap.size W W') : BBlock W' g bs := (hb.block g h.lt).trans h
theorem BBlock.keeps {S : Nat → Prop} {W W' : World} {g : Nat} {bs : List Bool} (h : BBlock W g bs) (hk : Keeps S W W') (hS : ¬ S g) : BBlock W' g bs := (hk.block g h.lt hS).trans h
theorem BBlock.cell {W : World} {g : Nat} {bs : List Bool} (h : BBlock W g bs) (i : Nat) (hi : i < bs.length) : W.cell? ⟨g, i, none⟩ = some (.bool bs[i]) := by
  have h' : W.heap[g]? = _ := h
  simp [World.cell?, h', hi]
theorem BBlock.free {W : World} {g : Nat} {bs : List Bool} (h : BBlock W g bs) (i : Nat) : W.frozen? ⟨g, i, none⟩ = false := by
  have h' : W.heap[g]? = _ := h
  simp [World.frozen?, h']
theorem BBlock.set {W : World} {g : Nat} {bs : List Bool} (h : BBlock W g bs) (i : Nat) (x : Bool) : BBlock (W.setCell ⟨g, i, none⟩ (.bool x)) g (bs.set i x) := by
  unfold BBlock
  rw [heap_setCell_same W g i _ _ (.bool x) h]
  simp [List.map_set]
theorem BBlock.bools {W : World} {g : Nat} {bs : List Bool} (h : BBlock W g bs) : BoolsAt W (.slice (some ⟨g, 0, none⟩) bs.length bs.length) bs :=
  ⟨_, _, rfl, fun _ => ⟨g, 0, rfl, fun i hi => by rw [Nat.zero_add]; exact h.cell i hi⟩⟩
theorem BBlock.owns {W : World} {B g : Nat} {bs : List Bool} (h : BBlock W g bs) (hB : B ≤ g) (hl : bs.length ≤ 1099511627776) : W.ownsRow B 4 1 (.slice (some ⟨g, 0, none⟩) bs.length bs.length) bs.length (bs.map Value.bool) :=
  ⟨by rw [List.length_map]; omega, .inr ⟨g, bs.length, _, rfl, hB, h, Nat.le_refl _, by unfold maxLen; omega, by rw [List.size_toArray, List.length_map]; omega, by rw [List.toList_toArray]; exact List.take_of_length_le (by rw [List.length_map]; omega)⟩⟩

/-- A row of truth values lies there, outside of S. -/
def BoolOut (S : Nat → Prop) (W : World) (p : Option Addr) (bs : List Bool) : Prop := bs ≠ [] → ∃ b off, p = some ⟨b, off, none⟩ ∧ ¬ S b ∧ ∀ i (h : i < bs.length), W.cell? ⟨b, off + i, none⟩ = some (.bool bs[i])
theorem BoolOut.keeps {S : Nat → Prop} {W W' : World} {p : Option Addr} {bs : List Bool} (h : BoolOut S W p bs) (hk : KeepsCells S W W') : BoolOut S W' p bs := fun hne => by
  obtain ⟨b, off, e, hS, hc⟩ := h hne
  exact ⟨b, off, e, hS, fun i hi => hk _ _ _ hS (hc i hi)⟩
theorem BoolOut.below {S : Nat → Prop} {W W' : World} {p : Option Addr} {bs : List Bool} (h : BoolOut S W p bs) (hb : Below W.heap.size W W') : BoolOut S W' p bs := fun hne => by
  obtain ⟨b, off, e, hS, hc⟩ := h hne
  exact ⟨b, off, e, hS, fun i hi => below_cell hb (hc i hi)⟩

/-- What box a grace lies in. -/
def GBox (W : World) (z : Nat) (d a : Int) (on : Bool) (v : Value) : Prop := W.heap[z]? = some (.cells #[.int .i64 d, .int .i64 a, .bool on, v] 24 (0, 0))
theorem GBox.cells {W : World} {z : Nat} {d a : Int} {on : Bool} {v : Value} (h : GBox W z d a on v) : W.cell? ⟨z, 0, none⟩ = some (.int .i64 d) ∧ W.cell? ⟨z, 1, none⟩ = some (.int .i64 a) ∧ W.cell? ⟨z, 2, none⟩ = some (.bool on) ∧ W.cell? ⟨z, 3, none⟩ = some v := by
  have h' : W.heap[z]? = _ := h
  simp [World.cell?, h']
theorem GBox.marks {W : World} {z : Nat} {d a : Int} {on : Bool} {v : Value} (h : GBox W z d a on v) (i : Nat) : W.frozen? ⟨z, i, none⟩ = false := by
  have h' : W.heap[z]? = _ := h
  simp [World.frozen?, h']
theorem GBox.lt {W : World} {z : Nat} {d a : Int} {on : Bool} {v : Value} (h : GBox W z d a on v) : z < W.heap.size := (Array.getElem?_eq_some_iff.1 h).1
theorem GBox.below {W W' : World} {z : Nat} {d a : Int} {on : Bool} {v : Value} (h : GBox W z d a on v) (hb : Below W.heap.size W W') : GBox W' z d a on v := (hb.block z h.lt).trans h
theorem GBox.keeps {S : Nat → Prop} {W W' : World} {z : Nat} {d a : Int} {on : Bool} {v : Value} (h : GBox W z d a on v) (hk : Keeps S W W') (hz : ¬ S z) : GBox W' z d a on v := (hk.block z h.lt hz).trans h
theorem GBox.new (W : World) (d a : Int) (on : Bool) (v : Value) : GBox (W.alloc (.cells #[.int .i64 d, .int .i64 a, .bool on, v] 24)) W.heap.size d a on v := World.alloc_heap_new W _
theorem GBox.put {W : World} {z : Nat} {d0 a0 : Int} {on0 : Bool} {v0 : Value} (h : GBox W z d0 a0 on0 v0) (d a : Int) (on : Bool) (v : Value) : GBox ((((W.setCell ⟨z, 0, none⟩ (.int .i64 d)).setCell ⟨z, 1, none⟩ (.int .i64 a)).setCell ⟨z, 2, none⟩ (.bool on)).setCell ⟨z, 3, none⟩ v) z d a on v := by
  have h0 := heap_setCell_same W z 0 _ _ (.int .i64 d) h
  have h1 := heap_setCell_same _ z 1 _ _ (.int .i64 a) h0
  have h2 := heap_setCell_same _ z 2 _ _ (.bool on) h1
  have h3 := heap_setCell_same _ z 3 _ _ v h2
  unfold GBox
  rw [h3]
  rfl
theorem GBox.putK (W : World) (z : Nat) (d a : Int) (on : Bool) (v : Value) : Keeps (fun k => k = z) W ((((W.setCell ⟨z, 0, none⟩ (.int .i64 d)).setCell ⟨z, 1, none⟩ (.int .i64 a)).setCell ⟨z, 2, none⟩ (.bool on)).setCell ⟨z, 3, none⟩ v) :=
  (((Keeps.setCell W (S := (· = z)) (p := ⟨z, 0, none⟩) rfl _).trans (Keeps.setCell _ (S := (· = z)) (p := ⟨z, 1, none⟩) rfl _)).trans (Keeps.setCell _ (S := (· = z)) (p := ⟨z, 2, none⟩) rfl _)).trans (Keeps.setCell _ (S := (· = z)) (p := ⟨z, 3, none⟩) rfl _)
theorem grace_info : (Try.prog.info? 24).map (·.size) = some 4 := by kernel_rfl
theorem grace_load {W : World} {z : Nat} {d a : Int} {on : Bool} {v : Value} (h : GBox W z d a on v) : (loadVar 24 ⟨z, 0, none⟩).run Try.prog W = .ok (.agg #[.int .i64 d, .int .i64 a, .bool on, v]) W := by
  obtain ⟨h0, h1, h2, h3⟩ := h.cells
  refine run_loadVar_mid W z 0 24 [.int .i64 d, .int .i64 a, .bool on, v] _ (fun j u hj => ?_) Try.underlying24 rfl grace_info
  rw [Nat.zero_add]
  match j, hj with
  | 0, hj => cases hj; exact h0
  | 1, hj => cases hj; exact h1
  | 2, hj => cases hj; exact h2
  | 3, hj => cases hj; exact h3
  | (k + 4), hj => simp at hj
theorem GBox.result2 {fn : Func} {W : World} {z : Nat} {a b : Tmp} {d k : Int} {on : Bool} {v x : Value} (h : GBox W z d k on v) (hf : fn.results = #[.cell a 24, .tmp b]) (tmps : Array Value) (h2 : tmps.getD a undef = .pointer (some ⟨z, 0, none⟩)) (h3 : tmps.getD b undef = x) :
    (results fn tmps).run Try.prog W = .ok (.tuple #[.agg #[.int .i64 d, .int .i64 k, .bool on, v], x]) W := results_ct hf tmps Try.prog W h2 h3 (grace_load h)
theorem GBox.result3 {fn : Func} {W : World} {z : Nat} {a b c : Tmp} {d k : Int} {on : Bool} {v x y : Value} (h : GBox W z d k on v) (hf : fn.results = #[.cell a 24, .tmp b, .tmp c]) (tmps : Array Value) (h2 : tmps.getD a undef = .pointer (some ⟨z, 0, none⟩)) (h3 : tmps.getD b undef = x) (h4 : tmps.getD c undef = y) :
    (results fn tmps).run Try.prog W = .ok (.tuple #[.agg #[.int .i64 d, .int .i64 k, .bool on, v], x, y]) W := results_ctt hf tmps Try.prog W h2 h3 h4 (grace_load h)

set_option maxHeartbeats 4000000 in
theorem gmayBe_c (n : Int) (W : World) : Calls Try.prog 72 #[.int .i64 n] W fun e w' => e = .returned (.bool (mayCpus n)) ∧ w' = W := by
  have hc : (n < 1 ∧ mayCpus n = false) ∨ (1 ≤ n ∧ mayCpus n = decide (n ≤ 8)) := by
    unfold mayCpus
    by_cases h : 1 ≤ n
    · rw [decide_eq_true h]; exact .inr ⟨h, rfl⟩
    · rw [decide_eq_false h]; exact .inl ⟨by omega, rfl⟩
  rcases hc with ⟨h0, hr⟩ | ⟨h0, hr⟩
  all_goals
    rw [hr]; clear hr
    go_enter Try.func72, Try.ntmps72
    go_wp2
    go_ret
    exact ⟨rfl, rfl⟩

set_option maxHeartbeats 4000000 in
theorem ghas_c (d a n : Int) (on : Bool) (p : Option Addr) (k c : Nat) (W : World) : Calls Try.prog 75 #[.agg #[.int .i64 d, .int .i64 a, .bool on, .slice p k c], .int .i64 n] W fun e w' => e = .returned (.bool (hasB k n)) ∧ Below W.heap.size W w' := by
  have hc : (n < 0 ∧ hasB k n = false) ∨ (0 ≤ n ∧ hasB k n = decide (n < (k : Int))) := by
    unfold hasB
    by_cases h : 0 ≤ n
    · rw [decide_eq_true h]; exact .inr ⟨h, rfl⟩
    · rw [decide_eq_false h]; exact .inl ⟨by omega, rfl⟩
  rcases hc with ⟨h0, hr⟩ | ⟨h0, hr⟩
  all_goals
    rw [hr]; clear hr
    go_enter Try.func75, Try.ntmps75
    go_wp2
    go_ret
    exact ⟨rfl, by first | exact below1 _ _ | exact below2 _ _ _⟩

set_option maxHeartbeats 4000000 in
theorem needed_c (d a : Int) (on : Bool) (v : Value) (W : World) : Calls Try.prog 65 #[.agg #[.int .i64 d, .int .i64 a, .bool on, v]] W fun e w' => e = .returned (.func (.func 76) #[] #[.pointer (some ⟨W.heap.size, 0, none⟩)]) ∧ w' = W.alloc (.cells #[.int .i64 d, .int .i64 a, .bool on, v] 24) := by
  go_enter Try.func65, Try.ntmps65
  go_wp2
  go_ret
  exact ⟨rfl, rfl⟩

/-- Who is needed of the first so many CPUs. -/
def trN (nd : List Bool) : Nat → List Int
  | 0 => []
  | j + 1 => trN nd j ++ (if nd.getD j false = true then [(j : Int)] else [])
theorem trN_len (nd : List Bool) : ∀ j, (trN nd j).length ≤ j
  | 0 => Nat.le_refl _
  | j + 1 => by
    have := trN_len nd j
    unfold trN
    rw [List.length_append]
    split <;> simp <;> omega
theorem trN_mem (nd : List Bool) (x : Int) : ∀ j, x ∈ trN nd j ↔ ∃ i : Nat, i < j ∧ x = (i : Int) ∧ nd.getD i false = true
  | 0 => by unfold trN; simp
  | j + 1 => by
    unfold trN
    rw [List.mem_append, trN_mem nd x j]
    constructor
    · rintro (⟨i, h, e, hi⟩ | h)
      · exact ⟨i, by omega, e, hi⟩
      · split at h
        · rename_i hj
          exact ⟨j, by omega, List.mem_singleton.1 h, hj⟩
        · cases h
    · rintro ⟨i, h, e, hi⟩
      by_cases hij : i = j
      · subst hij
        rw [if_pos hi]
        exact .inr (by rw [e]; simp)
      · exact .inl ⟨i, by omega, e, hi⟩
theorem trN_pre (nd : List Bool) (j : Nat) : ∀ k, ∃ m, trN nd (j + k) = trN nd j ++ m
  | 0 => ⟨[], by simp⟩
  | k + 1 => by
    obtain ⟨m, h⟩ := trN_pre nd j k
    refine ⟨m ++ (if nd.getD (j + k) false = true then [((j + k : Nat) : Int)] else []), ?_⟩
    rw [← List.append_assoc, ← h]
    rfl

end Go.Proofs.Ytfnpokddoffplaa
/-
  Package grace: needed tells the CPUs that are needed, CPU by CPU.
  Conditions: who ranges over them leaves the grace, and its row, as they are.
-/
namespace Go.Proofs.Ytfnpokddoffplaa
set_option maxRecDepth 100000
open Go.RowKit Go.Shelf
attribute [local go_sem] Oper.semAt_some

set_option maxHeartbeats 4000000 in
theorem needed_stops (n : Nat) (hn : 1 ≤ n) (S : Nat → Prop) (lb : Nat) (d a : Int) (on : Bool) (p : Option Addr) (c : Nat) (nd : List Bool) (w : World) (hmax : nd.length ≤ 4611686018427387904)
    (hc : GBox w lb d a on (.slice p nd.length c)) (hl : BoolOut S w p nd) :
    SeqDeep Fence.wide n Try.prog 76 #[.pointer (some ⟨lb, 0, none⟩)] (fun x : Int => #[.int .i64 x]) (KeepsCells S)
      (fun xs => xs = trN nd nd.length) (fun xs => ∃ j, j ≤ nd.length ∧ xs = trN nd j) nd.length w := fun l J Jx W hW hJ hJx hY h0 => by
  refine callsIn_of_wp Try.func76 rfl trivial ?_ rfl
  simp only [Try.ntmps76, List.size_toArray, List.length_cons, List.length_nil, Nat.reduceAdd, Nat.reduceSub, Array.replicate_succ, Array.replicate_zero, List.push_toArray, List.append_toArray, List.nil_append, List.cons_append]
  have hcW := (hc.below hW).cells.2.2.2
  have HLW := Lib.hid (hl.below hW)
  have HJ := Lib.hid (And.intro hJ hJx)
  clear hc hl hJ hJx
  gi_wp2
  gi_loopw [8] (fun iv wr => ∃ (j : Nat) (pre : List Int), j ≤ nd.length ∧ iv = .int .i64 (j : Int) ∧ Hid (BoolOut S wr p nd ∧ W.heap.size ≤ wr.heap.size) ∧ Hid (J pre wr) ∧ Hid (pre = trN nd j)) (fun iv _ => nd.length - (intOf iv).toNat)
  case atStart => exact ⟨0, [], Nat.zero_le _, rfl, ⟨HLW.out, Nat.le_refl _⟩, h0, rfl⟩
  case round =>
    clear HLW hcW h0
    obtain ⟨j, pre, hj, rfl, HL, HJp, HE⟩ := hrel
    by_cases hjl : j < nd.length
    · have hne : nd ≠ [] := by intro e; rw [e] at hjl; simp at hjl
      obtain ⟨h1, hsz⟩ := HL.out
      obtain ⟨b1, off1, hp, hSb1, hcs1⟩ := h1 hne
      have hx := hcs1 j hjl
      obtain ⟨x, hxe⟩ : ∃ x, x = nd[j] := ⟨_, rfl⟩
      have HXE := Lib.hid (show nd.getD j false = x by rw [List.getD_eq_getElem?_getD, List.getElem?_eq_getElem hjl, hxe]; rfl)
      rw [← hxe] at hx
      have HLN := Lib.hid (fun (wr' : World) (hk : KeepsCells S wr wr') (hz : wr.heap.size ≤ wr'.heap.size) => (show BoolOut S wr' p nd ∧ W.heap.size ≤ wr'.heap.size from ⟨h1.keeps hk, Nat.le_trans hsz hz⟩))
      have HLP := Lib.hid (show pre.length < nd.length by rw [HE.out]; have := trN_len nd j; omega)
      have HSZ := Lib.hid hsz
      clear hcs1 hne hxe h1 hsz
      subst hp
      have hj0 : (0 : Int) ≤ (j : Int) := by omega
      have hjl' : (j : Int) < (nd.length : Int) := by omega
      have hb1 := World.block_lt_of_cell? wr _ hx
      cases x with
      | false =>
        have HE2 := Lib.hid (show pre = trN nd (j + 1) by unfold trN; rw [if_neg (by rw [HXE.out]; exact Bool.false_ne_true), List.append_nil]; exact HE.out)
        clear HE hY HLP HXE
        gi_wp2
        refine ⟨fun f h => (by cases h), ?_⟩
        gi_wp2
        go_roundw
        case rel => exact ⟨j + 1, pre, by omega, rfl, HLN.out _ (KeepsCells.refl _ _) (Nat.le_refl _), HJp, HE2⟩
        case measure => first | omega | (simp [intOf]; omega)
      | true =>
        have HE2 := Lib.hid (show pre ++ [(j : Int)] = trN nd (j + 1) by unfold trN; rw [if_pos HXE.out, ← HE.out])
        obtain ⟨fn, tmps, assign, body, hy2, hR⟩ := hY pre (j : Int) wr HJp.out HLP.out ⟨j + 1, by omega, HE2.out⟩
        clear HE hY HLP HXE HJp
        gi_wp2
        refine hR.mono ?_
        rintro e W3 (⟨rfl, hJ3, hk3, hf3⟩ | ⟨rfl, hJx3, -⟩)
        · have HL3 := Lib.hid (HLN.out W3 hk3 hf3.size)
          have HJ3 := Lib.hid hJ3
          clear hJ3 hk3 hf3 hR
          gi_wp2
          go_roundw
          case rel => exact ⟨j + 1, _, by omega, rfl, HL3, HJ3, HE2⟩
          case measure => first | omega | (simp [intOf]; omega)
        · have HJX := Lib.hid (show (∃ pre', (∃ j, j ≤ nd.length ∧ pre' = trN nd j) ∧ Jx pre' W3) from ⟨_, ⟨j + 1, by omega, HE2.out⟩, hJx3⟩)
          clear hJx3 hR
          gi_wp2
          refine bodyPost_ret (results_none rfl _ _ _) rfl ?_
          exact ⟨⟨_, rfl⟩, .inr HJX.out⟩
    · obtain rfl : j = nd.length := by omega
      have HF := Lib.hid (show ∃ xs, xs = trN nd nd.length ∧ J xs wr from ⟨pre, HE.out, HJp.out⟩)
      clear HE HJp hjl hj
      gi_wp2
      go_end0
      exact ⟨⟨_, rfl⟩, .inl HF.out⟩

end Go.Proofs.Ytfnpokddoffplaa
namespace Go.Proofs.Ytfnpokddoffplaa
set_option maxRecDepth 100000
open Go.RowKit Go.Shelf
attribute [local go_sem] Oper.semAt_some

/-- How many CPUs are needed. -/
def manyG (nd : List Bool) : Nat := (trN nd nd.length).length
def numsG (g : GrS) : Bool := mayCpus g.nd.length && (decide (0 ≤ g.done) && (decide (g.done ≤ g.asked) && decide (g.asked ≤ 2147483645)))
def tellG (g : GrS) : Bool := if g.on = true then decide (0 < (manyG g.nd : Int)) && (decide (1 ≤ g.asked - g.done) && decide (g.asked - g.done ≤ 2)) else decide ((manyG g.nd : Int) = 0) && decide (g.asked - g.done ≤ 1)
/-- Which graces may be. -/
def mayG (g : GrS) : Bool := numsG g && tellG g

set_option maxHeartbeats 4000000 in
theorem gmay_no (g : GrS) (p : Option Addr) (c : Nat) (W : World) (h : numsG g = false) (hk : g.nd.length ≤ 9223372036854775807) :
    Calls Try.prog 58 #[.agg #[.int .i64 g.done, .int .i64 g.asked, .bool g.on, .slice p g.nd.length c]] W fun e w' => e = .returned (.bool false) ∧ Below W.heap.size W w' := by
  obtain ⟨d, a, on, nd⟩ := g
  unfold numsG at h
  simp only at h hk ⊢
  have hc : mayCpus nd.length = false ∨ (mayCpus nd.length = true ∧ d < 0) ∨ (mayCpus nd.length = true ∧ 0 ≤ d ∧ a < d) ∨ (mayCpus nd.length = true ∧ 0 ≤ d ∧ d ≤ a ∧ 2147483645 < a) := by
    cases hh : mayCpus nd.length with
    | false => exact .inl rfl
    | true =>
      rw [hh] at h
      simp only [Bool.true_and, Bool.and_eq_false_iff, decide_eq_false_iff_not] at h
      refine .inr ?_
      by_cases h1 : d < 0
      · exact .inl ⟨rfl, h1⟩
      · by_cases h2 : a < d
        · exact .inr (.inl ⟨rfl, by omega, h2⟩)
        · exact .inr (.inr ⟨rfl, by omega, by omega, by omega⟩)
  clear h
  obtain ⟨n, hn⟩ : ∃ n, n = nd.length := ⟨_, rfl⟩
  rw [← hn] at hc hk ⊢
  clear hn
  have HC := Lib.hid (fun (W : World) => gmayBe_c (n : Int) W)
  rcases hc with h1 | ⟨h1, h2⟩ | ⟨h1, h2, h3⟩ | ⟨h1, h2, h3, h4⟩
  all_goals
    rw [h1] at HC
    clear h1
    go_enter Try.func58, Try.ntmps58
    go_wp2_with fail
    (with_reducible refine (HC.out _).mono ?_)
    rintro e w1 ⟨rfl, rfl⟩
    go_wp2
    go_ret
    exact ⟨rfl, below1 _ _⟩

def wG (W : World) (d a : Int) (on : Bool) (v : Value) : World := (W.alloc (.cells #[.int .i64 d, .int .i64 a, .bool on, v] 24)).alloc (.cells #[.int .i64 0] 3)
theorem wG_facts (W : World) (d a : Int) (on : Bool) (v : Value) : GBox (wG W d a on v) W.heap.size d a on v ∧ Boxed (wG W d a on v) (W.heap.size + 1) 3 (.int .i64 0) ∧ Below W.heap.size W (wG W d a on v) ∧ (wG W d a on v).heap.size = W.heap.size + 2 := by
  refine ⟨(GBox.new W d a on v).below (below1 _ _), ?_, below2 _ _ _, by unfold wG; simp⟩
  have := Boxed.new (W.alloc (.cells #[.int .i64 d, .int .i64 a, .bool on, v] 24)) 3 (.int .i64 0)
  simpa [wG] using this
/-- Between two rounds. -/
def GI (W : World) (d a : Int) (on : Bool) (v : Value) (pre : List Int) (W' : World) : Prop :=
  GBox W' W.heap.size d a on v ∧ Boxed W' (W.heap.size + 1) 3 (.int .i64 (pre.length : Int)) ∧ Below W.heap.size W W'
theorem gi_own (W : World) (d a : Int) (on : Bool) (v : Value) (z : Nat) (hz : W.heap.size + 3 ≤ z) : OwnFrom z (GI W d a on v) := by
  rintro s X Y row ⟨h1, h2, h3⟩ hg hr
  have hr' := fun r e => (hr r e).2
  exact ⟨heap_own h1 hg hr', heap_own h2 hg hr', h3.grown hg h3.size (fun k e => by have := (hr k e).1; omega)⟩

set_option maxHeartbeats 8000000 in
theorem gmay_yes (g : GrS) (p : Option Addr) (c : Nat) (W : World) (h : numsG g = true) (hl : BoolOut (fun _ => False) W p g.nd) :
    Calls Try.prog 58 #[.agg #[.int .i64 g.done, .int .i64 g.asked, .bool g.on, .slice p g.nd.length c]] W fun e w' => e = .returned (.bool (tellG g)) ∧ Below W.heap.size W w' := by
  obtain ⟨d, a, on, nd⟩ := g
  unfold numsG at h
  simp only [Bool.and_eq_true, decide_eq_true_eq] at h hl ⊢
  obtain ⟨h1, h2, h3, h4⟩ := h
  have hk8 : 1 ≤ nd.length ∧ nd.length ≤ 8 := by unfold mayCpus at h1; simp only [Bool.and_eq_true, decide_eq_true_eq] at h1; omega
  have HC := Lib.hid (fun (W : World) => gmayBe_c (nd.length : Int) W)
  rw [h1] at HC
  have HF := Lib.hid (wG_facts W d a on (.slice p nd.length c))
  obtain ⟨w0, hw0⟩ : ∃ X, X = wG W d a on (.slice p nd.length c) := ⟨_, rfl⟩
  rw [← hw0] at HF
  unfold wG at hw0
  have HL := Lib.hid (show BoolOut (fun k => k = W.heap.size + 1) w0 p nd from fun hne => by
    obtain ⟨bb, off, e, -, hcs⟩ := hl hne
    obtain ⟨i0, hi0⟩ : ∃ i : Nat, i < nd.length := ⟨0, by omega⟩
    have hlt := World.block_lt_of_cell? W _ (hcs i0 hi0)
    exact ⟨bb, off, e, (by simp only at hlt; omega), fun i hi => below_cell HF.out.2.2.1 (hcs i hi)⟩)
  have HN := Lib.hid hk8
  have hd1 : decide (d < 0) = false := by simp; omega
  have hd2 : decide (a < d) = false := by simp; omega
  have hd3 : decide (2147483645 < a) = false := by simp; omega
  clear h1 hl
  refine (callsIn_wide (n := 9)).1 ?_
  refine callsIn_of_wp_marks Try.func58 rfl trivial ?_ rfl
  simp only [Try.ntmps58, List.size_toArray, List.length_cons, List.length_nil, Nat.reduceAdd, Nat.reduceSub, Array.replicate_succ, Array.replicate_zero, List.push_toArray, List.append_toArray, List.nil_append, List.cons_append]
  gi_wp2_with fail
  refine ⟨trivial, (callsIn_wide.2 (HC.out _)).mono ?_⟩
  rintro e w1 ⟨rfl, rfl⟩
  obtain ⟨c0, c1, c2, c3⟩ := HF.out.1.cells
  clear HC
  gi_wp2_with fail
  rw [← hw0]
  clear hw0
  refine ⟨trivial, (callsIn_wide.2 (needed_c d a on (.slice p nd.length c) w0)).mono ?_⟩
  rintro e w2 ⟨rfl, hw2⟩
  have hb12 : Below w0.heap.size w0 w2 := by rw [hw2]; exact below1 _ _
  have HPB := Lib.hid (show GBox w2 w0.heap.size d a on (.slice p nd.length c) by rw [hw2]; exact GBox.new _ _ _ _ _)
  have HI0 := Lib.hid (show GI W d a on (.slice p nd.length c) [] w2 from ⟨HF.out.1.below hb12, (hb12.block _ HF.out.2.1.lt).trans HF.out.2.1, below_then HF.out.2.2.1 HF.out.2.2.1.size hb12⟩)
  have HL2 := Lib.hid (HL.out.below hb12)
  have hz0 : w0.heap.size = W.heap.size + 2 := HF.out.2.2.2
  have hz2 : w2.heap.size = W.heap.size + 3 := by rw [hw2, World.size_alloc, hz0]
  have HZ0 := Lib.hid (And.intro hz0 hz2)
  clear hw2 hb12 c0 c1 c2 c3 HL hz0 hz2
  gi_wp2
  have hGI := gi_own W d a on (.slice p nd.length c) w2.heap.size (by have := HZ0.out; omega)
  refine wpIn_rangeDeep rfl (by omega) (gf := 76) (lb := #[.pointer (some ⟨w0.heap.size, 0, none⟩)]) rfl trivial (enters_of Try.func76 (by kernel_rfl) rfl)
    (needed_stops 8 (by omega) (fun k => k = W.heap.size + 1) w0.heap.size d a on p c nd w2 (by omega) HPB.out HL2.out) (fun h k => h.trans k) (fun W l o o' _ => KeepsCells.turn _ W l o o') (Below.refl _ _) (fun _ => rfl)
    (GI W d a on (.slice p nd.length c)) (fun _ _ _ => False) hGI (fun _ => ownFrom_pure _ _) HI0.out
    (fun x a' _ => a' = { tmps := #[.agg #[.int .i64 d, .int .i64 a, .bool on, .slice p nd.length c], .pointer (some ⟨W.heap.size, 0, none⟩), .bool false, .pointer (some ⟨W.heap.size + 1, 0, none⟩), undef, .pointer (some ⟨W.heap.size, 3, none⟩), .slice p nd.length c, .int .i64 (nd.length : Int), .bool true, .bool false, .bool false, .pointer (some ⟨W.heap.size, 0, none⟩), .int .i64 d, .bool false, .bool false, .bool false, .pointer (some ⟨W.heap.size, 1, none⟩), .int .i64 a, .pointer (some ⟨W.heap.size, 0, none⟩), .int .i64 d, .bool false, .bool false, .bool false, .pointer (some ⟨W.heap.size, 1, none⟩), .int .i64 a, .bool false, .bool false, .agg #[.int .i64 d, .int .i64 a, .bool on, .slice p nd.length c], .func (.func 76) #[] #[.pointer (some ⟨w0.heap.size, 0, none⟩)], .int .i64 x, undef, undef, undef, undef, undef, undef, undef, undef, undef, undef, undef, undef, undef, undef, undef, undef, undef, undef, undef, undef, undef, undef, undef, undef, undef], defers := [] })
    ?hAx ?assign ?body ?done ?stop
  case hAx => exact fun x a' => ownFrom_pure _ _
  case assign =>
    rintro l' pre x X K hi hK
    gi_wp2
    exact hK _ _ (KeepsFrom.refl _ _) (KeepsCells.refl _ _) hi rfl
  case body =>
    rintro l' pre x a' X hl' _ hI rfl hlen -
    obtain ⟨hi1, hi2, hi3⟩ := hI
    have e1 := hi2.cell
    have f1 := hi2.frozen
    have HEQ := Lib.hid (show ((pre ++ [x]).length : Int) = (pre.length : Int) + 1 by simp)
    have HI := Lib.hid (And.intro hi1 (And.intro hi2 hi3))
    have hpl : pre.length < 8 := by have := HN.out; omega
    clear hi1 hi2 hi3 hlen hGI HI0 HPB HL2
    gi_wp2
    refine ⟨(KeepsOthers.setCell _ _ _).from _, KeepsCells.keeps (Keeps.setCell _ (S := (· = W.heap.size + 1)) (p := ⟨W.heap.size + 1, 0, none⟩) rfl _), ?_, ?_, HI.out.2.2.setCell (p := ⟨W.heap.size + 1, 0, none⟩) (by show W.heap.size ≤ W.heap.size + 1; omega) _⟩
    · exact HI.out.1.keeps (Keeps.setCell _ (S := (· = W.heap.size + 1)) (p := ⟨W.heap.size + 1, 0, none⟩) rfl _) (by omega)
    · rw [HEQ.out]; exact HI.out.2.1.set _
  case done =>
    rintro D xs X hD rfl ⟨h1, h2', h3'⟩ hK
    obtain ⟨c0, c1, c2, c3⟩ := h1.cells
    obtain ⟨m, hm⟩ : ∃ m : Nat, m = (trN nd nd.length).length := ⟨_, rfl⟩
    have HM := Lib.hid hm
    rw [← hm] at h2'
    have hm8 : m ≤ 8 := by have := trN_len nd nd.length; have := HN.out; omega
    have e4 := h2'.cell
    have HB := Lib.hid h3'
    have HW := Lib.hid (And.intro hD hK)
    have HSZ := Lib.hid (show W.heap.size ≤ w2.heap.size by have := HZ0.out; omega)
    clear h1 h2' h3' hGI HI0 HPB HL2 hD hK hm
    cases on with
    | true =>
      gi_wp2
      all_goals
        refine leaves_marks (B := W.heap.size) [D] _ ((Marks.nil _ _).cons (Nat.le_trans HSZ.out HW.out.1) (by simp) HW.out.2) fun X' hX' => ⟨_, results_tmp rfl _ _ _, ?_, HB.out.trans hX'⟩
        refine ret_bool ?_
        unfold tellG manyG
        simp only [if_true]
        rw [← HM.out, Bool.eq_iff_iff]
        simp only [Bool.and_eq_true, decide_eq_true_eq, Bool.false_eq_true, false_iff]
        omega
    | false =>
      gi_wp2
      all_goals
        refine leaves_marks (B := W.heap.size) [D] _ ((Marks.nil _ _).cons (Nat.le_trans HSZ.out HW.out.1) (by simp) HW.out.2) fun X' hX' => ⟨_, results_tmp rfl _ _ _, ?_, HB.out.trans hX'⟩
        refine ret_bool ?_
        unfold tellG manyG
        simp only [Bool.false_eq_true, if_false]
        rw [← HM.out, Bool.eq_iff_iff]
        simp only [Bool.and_eq_true, decide_eq_true_eq, Bool.false_eq_true, false_iff]
        omega
  case stop =>
    rintro D cc pre X hD - hF hK
    exact hF.elim

/-- Which graces may be. -/
theorem gmay_c (g : GrS) (v : Value) (W : World) (hn : BoolsAt W v g.nd) (h1 : g.nd.length ≤ 9223372036854775807) :
    Calls Try.prog 58 #[.agg #[.int .i64 g.done, .int .i64 g.asked, .bool g.on, v]] W fun e w' => e = .returned (.bool (mayG g)) ∧ Below W.heap.size W w' := by
  obtain ⟨p, c, rfl, hp⟩ := hn
  unfold mayG
  cases h : numsG g with
  | false => rw [Bool.false_and]; exact gmay_no g p c W h h1
  | true => rw [Bool.true_and]; exact gmay_yes g p c W h (fun hne => by obtain ⟨b, off, e, hc⟩ := hp hne; exact ⟨b, off, e, fun h => h, hc⟩)

end Go.Proofs.Ytfnpokddoffplaa
