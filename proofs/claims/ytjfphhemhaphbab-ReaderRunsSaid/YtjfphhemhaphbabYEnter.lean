/-
  Package reader: Enter and Leave.
  Conditions: the ranges of Go's types.
-/
import Derived.Test.YtjfphhemhaphbabYRun
namespace Go.Proofs.Ytjfphhemhaphbab
set_option maxRecDepth 100000
open Go.RowKit Go.Shelf
attribute [local go_sem] Oper.semAt_some

/-- What a step comes to: the readers that it answers, and the error. -/
def StepQ (B : Nat) (s : RdS) (c : Int) (en : Bool) (nw : Int) (p1 : Option Addr) (n1 c1 : Nat) (p2 : Option Addr) (n2 c2 : Nat) (err : Int) (w : World) : Prop :=
  ((mayB s.now s.ns s.os = false ∧ err = 210 ∨ Good s ∧ stepE s c en ≠ 0 ∧ err = stepE s c en) ∧ nw = 0 ∧ (p1 = none ∧ n1 = 0 ∧ c1 = 0) ∧ (p2 = none ∧ n2 = 0 ∧ c2 = 0)) ∨
  (Good s ∧ stepE s c en = 0 ∧ err = 0 ∧ nw = (stepS s c en).now ∧ ∃ g h : Nat, B ≤ g ∧ B ≤ h ∧ g ≠ h ∧ (p1 = some ⟨g, 0, none⟩ ∧ n1 = (stepS s c en).ns.length ∧ c1 = (stepS s c en).ns.length) ∧ (p2 = some ⟨h, 0, none⟩ ∧ n2 = (stepS s c en).os.length ∧ c2 = (stepS s c en).os.length) ∧ IBlock w g (stepS s c en).ns ∧ IBlock w h (stepS s c en).os)
theorem StepQ.keeps {B : Nat} {s : RdS} {c : Int} {en : Bool} {nw : Int} {p1 : Option Addr} {n1 c1 : Nat} {p2 : Option Addr} {n2 c2 : Nat} {err : Int} {w w' : World} {S : Nat → Prop} (h : StepQ B s c en nw p1 n1 c1 p2 n2 c2 err w) (hk : Keeps S w w') (hS : ∀ k, S k → k < B) : StepQ B s c en nw p1 n1 c1 p2 n2 c2 err w' := by
  rcases h with h | ⟨h1, h2, h3, h4, g, hh, h5, h6, h7, h8, h9, h10, h11⟩
  · exact .inl h
  · exact .inr ⟨h1, h2, h3, h4, g, hh, h5, h6, h7, h8, h9, h10.keeps hk (fun e => by have := hS _ e; omega), h11.keeps hk (fun e => by have := hS _ e; omega)⟩
/-- Run at one reading. -/
theorem run_one (s : RdS) (u v lv : Value) (c : Int) (en : Bool) (W : World) (hn : NumsAt W .i64 u s.ns) (ho : NumsAt W .i64 v s.os) (h1 : s.ns.length ≤ 9223372036854775807) (h2 : s.os.length ≤ 9223372036854775807) (hr : ∀ x ∈ s.os, I64 x) (hlv : RgsAt W lv [(c, en)]) :
    Calls Try.prog 9 #[.agg #[.int .i64 s.now, u, v], lv] W fun e w' => (∃ nw p1 n1 c1 p2 n2 c2 k err, e = .returned (.tuple #[.agg #[.int .i64 nw, .slice p1 n1 c1, .slice p2 n2 c2], .int .i64 k, .int .i64 err]) ∧ StepQ W.heap.size s c en nw p1 n1 c1 p2 n2 c2 err w') ∧ Below W.heap.size W w' := by
  cases hm : mayB s.now s.ns s.os with
  | false =>
    refine (run_no s.now u v lv s.ns s.os W hn ho h1 h2 hr hm).mono ?_
    rintro e w' ⟨rfl, hb⟩
    exact ⟨⟨0, none, 0, 0, none, 0, 0, 0, 210, rfl, .inl ⟨.inl ⟨hm, rfl⟩, rfl, ⟨rfl, rfl, rfl⟩, ⟨rfl, rfl, rfl⟩⟩⟩, hb⟩
  | true =>
    have g := (good_iff s).1 hm
    refine (run_yes s u v lv [(c, en)] W hn ho hlv (by simp) g).mono ?_
    rintro e w' ⟨h | h, hb⟩
    · obtain ⟨i, hi, h3, h4, rfl⟩ := h
      obtain rfl : i = 0 := by simp at hi; omega
      exact ⟨⟨0, none, 0, 0, none, 0, 0, _, _, rfl, .inl ⟨.inr ⟨g, h4, rfl⟩, rfl, ⟨rfl, rfl, rfl⟩, ⟨rfl, rfl, rfl⟩⟩⟩, hb⟩
    · obtain ⟨h3, gg, hh, h4, h5, h6, rfl, h7, h8⟩ := h
      exact ⟨⟨_, _, _, _, _, _, _, _, _, rfl, .inr ⟨g, h3.1, rfl, rfl, gg, hh, h4, h5, h6, ⟨rfl, rfl, rfl⟩, ⟨rfl, rfl, rfl⟩, h7, h8⟩⟩, hb⟩

set_option maxHeartbeats 4000000 in
theorem Enter_c (s : RdS) (u v : Value) (c : Int) (W : World) (hn : NumsAt W .i64 u s.ns) (ho : NumsAt W .i64 v s.os) (h1 : s.ns.length ≤ 9223372036854775807) (h2 : s.os.length ≤ 9223372036854775807) (hr : ∀ x ∈ s.os, I64 x) :
    Calls Try.prog 11 #[.agg #[.int .i64 s.now, u, v], .int .i64 c] W fun e w' => (∃ nw p1 n1 c1 p2 n2 c2 err, e = .returned (.tuple #[.agg #[.int .i64 nw, .slice p1 n1 c1, .slice p2 n2 c2], .int .i64 err]) ∧ StepQ (W.heap.size + 2) s c true nw p1 n1 c1 p2 n2 c2 err w') ∧ Below W.heap.size W w' := by
  have HF := Lib.hid (wR_facts W s.now u v)
  obtain ⟨w0, hw0⟩ : ∃ X, X = wR W s.now u v := ⟨_, rfl⟩
  rw [← hw0] at HF
  unfold wR at hw0
  obtain ⟨w1, hw1⟩ : ∃ X : World, X = w0.alloc (.cells #[.int .i64 c, .bool true] 33) := ⟨_, rfl⟩
  have hb1 : Below w0.heap.size w0 w1 := by rw [hw1]; exact below1 _ _
  have hz1 : w1.heap.size = W.heap.size + 3 := by rw [hw1, World.size_alloc, HF.out.2.2.2]
  have hlv : RgsAt w1 (.slice (some ⟨W.heap.size + 2, 0, none⟩) 1 1) [(c, true)] := ⟨_, _, rfl, fun _ => ⟨_, _, rfl, fun i hi => by
    obtain rfl : i = 0 := by simp at hi; omega
    have h : w1.heap[W.heap.size + 2]? = some (.cells #[.int .i64 c, .bool true] 33 (0, 0)) := by rw [hw1, ← HF.out.2.2.2]; exact World.alloc_heap_new _ _
    simp [World.cell?, h]⟩⟩
  have HC := Lib.hid (run_one s u v _ c true w1 (nums_below (nums_below hn HF.out.2.2.1) hb1) (nums_below (nums_below ho HF.out.2.2.1) hb1) h1 h2 hr hlv)
  have HF1 := Lib.hid (show RBox w1 W.heap.size s.now u v ∧ RBox w1 (W.heap.size + 1) 0 (.slice none 0 0) (.slice none 0 0) ∧ Below W.heap.size W w1 ∧ w1.heap.size = W.heap.size + 3 from ⟨HF.out.1.below hb1, HF.out.2.1.below hb1, below_then HF.out.2.2.1 HF.out.2.2.1.size hb1, hz1⟩)
  obtain ⟨d0, d1, d2⟩ := HF.out.1.cells
  obtain ⟨p, cp, rfl, -⟩ := hn
  obtain ⟨q, cq, rfl, -⟩ := ho
  have hz0 := HF.out.2.2.2
  have HW1 := Lib.hid hw1
  clear hr h1 h2 hlv hb1 hz1 hw1 HF
  go_enter Try.func11, Try.ntmps11
  go_wp2_with fail
  rw [← hw0]
  rw [← HW1.out]
  clear hw0 hz0
  (with_reducible refine HC.out.mono ?_)
  rintro e w2 ⟨⟨nw, p1, n1, c1, p2, n2, c2, k, err, rfl, hQ⟩, hb2⟩
  have hR2 := HF1.out.1.below hb2
  have hZ2 := HF1.out.2.1.below hb2
  have hB2 := below_then HF1.out.2.2.1 HF1.out.2.2.1.size hb2
  have hR3 := hR2.put nw (.slice p1 n1 c1) (.slice p2 n2 c2)
  have hk3 := RBox.putK w2 W.heap.size nw (.slice p1 n1 c1) (.slice p2 n2 c2)
  obtain ⟨w3, hw3⟩ : ∃ X : World, X = (((w2.setCell ⟨W.heap.size, 0, none⟩ (.int .i64 nw)).setCell ⟨W.heap.size, 1, none⟩ (.slice p1 n1 c1)).setCell ⟨W.heap.size, 2, none⟩ (.slice p2 n2 c2)) := ⟨_, rfl⟩
  rw [← hw3] at hR3 hk3
  have hZ3 := hZ2.keeps hk3 (by omega)
  have HB3 := Lib.hid (hB2.trans (hk3.below hB2.size (fun j e => by omega)))
  have HQ3 := Lib.hid ((hQ.keeps hk3 (fun j e => by have := HF1.out.2.2.2; omega)))
  obtain ⟨f0, f1, f2⟩ := hR2.cells
  have l0 := hR2.marks 0
  have l1 := hR2.marks 1
  have l2 := hR2.marks 2
  have HR3 := Lib.hid hR3
  have HZ3 := Lib.hid hZ3
  have HW3 := Lib.hid hw3
  clear hQ hb2 hR2 hZ2 hB2 hR3 hk3 hw3 hZ3 HC d0 d1 d2
  go_upto_region 2 with fail
  rw [← HW3.out]
  clear f0 f1 f2 l0 l1 l2 HW3
  obtain ⟨f0, f1, f2⟩ := HR3.out.cells
  obtain ⟨g0, g1, g2⟩ := HZ3.out.cells
  have m0 := HZ3.out.marks 0
  have m1 := HZ3.out.marks 1
  have m2 := HZ3.out.marks 2
  have HP := Lib.hid (HZ3.out.put nw (.slice p1 n1 c1) (.slice p2 n2 c2))
  have HK := Lib.hid (RBox.putK w3 (W.heap.size + 1) nw (.slice p1 n1 c1) (.slice p2 n2 c2))
  obtain ⟨w4, hw4⟩ : ∃ X : World, X = (((w3.setCell ⟨W.heap.size + 1, 0, none⟩ (.int .i64 nw)).setCell ⟨W.heap.size + 1, 1, none⟩ (.slice p1 n1 c1)).setCell ⟨W.heap.size + 1, 2, none⟩ (.slice p2 n2 c2)) := ⟨_, rfl⟩
  rw [← hw4] at HP HK
  have HW4 := Lib.hid hw4
  clear hw4
  go_wp2
  rw [← HW4.out]
  refine bodyPost_ret (v := .tuple #[.agg #[.int .i64 nw, .slice p1 n1 c1, .slice p2 n2 c2], .int .i64 err]) (HP.out.result2 rfl _ rfl rfl) rfl ⟨⟨_, _, _, _, _, _, _, _, rfl, ?_⟩, HB3.out.trans (HK.out.below HB3.out.size (fun j e => by omega))⟩
  rcases HQ3.out.keeps HK.out (fun j e => by have := HF1.out.2.2.2; omega) with h | ⟨h1, h2, h3, h4, g, hh, h5, h6, h7⟩
  · exact .inl h
  · exact .inr ⟨h1, h2, h3, h4, g, hh, by have := HF1.out.2.2.2; omega, by have := HF1.out.2.2.2; omega, h7⟩

set_option maxHeartbeats 4000000 in
theorem Leave_c (s : RdS) (u v : Value) (c : Int) (W : World) (hn : NumsAt W .i64 u s.ns) (ho : NumsAt W .i64 v s.os) (h1 : s.ns.length ≤ 9223372036854775807) (h2 : s.os.length ≤ 9223372036854775807) (hr : ∀ x ∈ s.os, I64 x) :
    Calls Try.prog 10 #[.agg #[.int .i64 s.now, u, v], .int .i64 c] W fun e w' => (∃ nw p1 n1 c1 p2 n2 c2 err, e = .returned (.tuple #[.agg #[.int .i64 nw, .slice p1 n1 c1, .slice p2 n2 c2], .int .i64 err]) ∧ StepQ (W.heap.size + 2) s c false nw p1 n1 c1 p2 n2 c2 err w') ∧ Below W.heap.size W w' := by
  have HF := Lib.hid (wR_facts W s.now u v)
  obtain ⟨w0, hw0⟩ : ∃ X, X = wR W s.now u v := ⟨_, rfl⟩
  rw [← hw0] at HF
  unfold wR at hw0
  obtain ⟨w1, hw1⟩ : ∃ X : World, X = w0.alloc (.cells #[.int .i64 c, .bool false] 33) := ⟨_, rfl⟩
  have hb1 : Below w0.heap.size w0 w1 := by rw [hw1]; exact below1 _ _
  have hz1 : w1.heap.size = W.heap.size + 3 := by rw [hw1, World.size_alloc, HF.out.2.2.2]
  have hlv : RgsAt w1 (.slice (some ⟨W.heap.size + 2, 0, none⟩) 1 1) [(c, false)] := ⟨_, _, rfl, fun _ => ⟨_, _, rfl, fun i hi => by
    obtain rfl : i = 0 := by simp at hi; omega
    have h : w1.heap[W.heap.size + 2]? = some (.cells #[.int .i64 c, .bool false] 33 (0, 0)) := by rw [hw1, ← HF.out.2.2.2]; exact World.alloc_heap_new _ _
    simp [World.cell?, h]⟩⟩
  have HC := Lib.hid (run_one s u v _ c false w1 (nums_below (nums_below hn HF.out.2.2.1) hb1) (nums_below (nums_below ho HF.out.2.2.1) hb1) h1 h2 hr hlv)
  have HF1 := Lib.hid (show RBox w1 W.heap.size s.now u v ∧ RBox w1 (W.heap.size + 1) 0 (.slice none 0 0) (.slice none 0 0) ∧ Below W.heap.size W w1 ∧ w1.heap.size = W.heap.size + 3 from ⟨HF.out.1.below hb1, HF.out.2.1.below hb1, below_then HF.out.2.2.1 HF.out.2.2.1.size hb1, hz1⟩)
  obtain ⟨d0, d1, d2⟩ := HF.out.1.cells
  obtain ⟨p, cp, rfl, -⟩ := hn
  obtain ⟨q, cq, rfl, -⟩ := ho
  have hz0 := HF.out.2.2.2
  have HW1 := Lib.hid hw1
  clear hr h1 h2 hlv hb1 hz1 hw1 HF
  go_enter Try.func10, Try.ntmps10
  go_wp2_with fail
  rw [← hw0]
  rw [← HW1.out]
  clear hw0 hz0
  (with_reducible refine HC.out.mono ?_)
  rintro e w2 ⟨⟨nw, p1, n1, c1, p2, n2, c2, k, err, rfl, hQ⟩, hb2⟩
  have hR2 := HF1.out.1.below hb2
  have hZ2 := HF1.out.2.1.below hb2
  have hB2 := below_then HF1.out.2.2.1 HF1.out.2.2.1.size hb2
  have hR3 := hR2.put nw (.slice p1 n1 c1) (.slice p2 n2 c2)
  have hk3 := RBox.putK w2 W.heap.size nw (.slice p1 n1 c1) (.slice p2 n2 c2)
  obtain ⟨w3, hw3⟩ : ∃ X : World, X = (((w2.setCell ⟨W.heap.size, 0, none⟩ (.int .i64 nw)).setCell ⟨W.heap.size, 1, none⟩ (.slice p1 n1 c1)).setCell ⟨W.heap.size, 2, none⟩ (.slice p2 n2 c2)) := ⟨_, rfl⟩
  rw [← hw3] at hR3 hk3
  have hZ3 := hZ2.keeps hk3 (by omega)
  have HB3 := Lib.hid (hB2.trans (hk3.below hB2.size (fun j e => by omega)))
  have HQ3 := Lib.hid ((hQ.keeps hk3 (fun j e => by have := HF1.out.2.2.2; omega)))
  obtain ⟨f0, f1, f2⟩ := hR2.cells
  have l0 := hR2.marks 0
  have l1 := hR2.marks 1
  have l2 := hR2.marks 2
  have HR3 := Lib.hid hR3
  have HZ3 := Lib.hid hZ3
  have HW3 := Lib.hid hw3
  clear hQ hb2 hR2 hZ2 hB2 hR3 hk3 hw3 hZ3 HC d0 d1 d2
  go_upto_region 2 with fail
  rw [← HW3.out]
  clear f0 f1 f2 l0 l1 l2 HW3
  obtain ⟨f0, f1, f2⟩ := HR3.out.cells
  obtain ⟨g0, g1, g2⟩ := HZ3.out.cells
  have m0 := HZ3.out.marks 0
  have m1 := HZ3.out.marks 1
  have m2 := HZ3.out.marks 2
  have HP := Lib.hid (HZ3.out.put nw (.slice p1 n1 c1) (.slice p2 n2 c2))
  have HK := Lib.hid (RBox.putK w3 (W.heap.size + 1) nw (.slice p1 n1 c1) (.slice p2 n2 c2))
  obtain ⟨w4, hw4⟩ : ∃ X : World, X = (((w3.setCell ⟨W.heap.size + 1, 0, none⟩ (.int .i64 nw)).setCell ⟨W.heap.size + 1, 1, none⟩ (.slice p1 n1 c1)).setCell ⟨W.heap.size + 1, 2, none⟩ (.slice p2 n2 c2)) := ⟨_, rfl⟩
  rw [← hw4] at HP HK
  have HW4 := Lib.hid hw4
  clear hw4
  go_wp2
  rw [← HW4.out]
  refine bodyPost_ret (v := .tuple #[.agg #[.int .i64 nw, .slice p1 n1 c1, .slice p2 n2 c2], .int .i64 err]) (HP.out.result2 rfl _ rfl rfl) rfl ⟨⟨_, _, _, _, _, _, _, _, rfl, ?_⟩, HB3.out.trans (HK.out.below HB3.out.size (fun j e => by omega))⟩
  rcases HQ3.out.keeps HK.out (fun j e => by have := HF1.out.2.2.2; omega) with h | ⟨h1, h2, h3, h4, g, hh, h5, h6, h7⟩
  · exact .inl h
  · exact .inr ⟨h1, h2, h3, h4, g, hh, by have := HF1.out.2.2.2; omega, by have := HF1.out.2.2.2; omega, h7⟩

end Go.Proofs.Ytjfphhemhaphbab
