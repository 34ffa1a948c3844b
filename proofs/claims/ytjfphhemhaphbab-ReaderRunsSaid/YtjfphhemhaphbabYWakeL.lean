/-
  Package reader: New, Oldest; and the calls of the statements' first test.
  Conditions: none.
-/
import Derived.Test.YtjfphhemhaphbabYPass
import Derived.Test.YtjfphhemhaphbabYOwnL
namespace Go.Proofs.Ytjfphhemhaphbab
set_option maxRecDepth 100000
open Go.RowKit Go.Shelf
attribute [local go_sem] Oper.semAt_some

theorem okTo_at : ∀ (l : List (Int × Bool)) (s : RdS), okTo s l → ∀ i (h : i < l.length), stepE (runS s (l.take i)) l[i].1 l[i].2 = 0
  | [], s, _, i, h => by simp at h
  | x :: l, s, ho, 0, h => ho.1
  | x :: l, s, ho, i + 1, h => okTo_at l (stepS s x.1 x.2) ho.2 i (by simpa using h)
def Reads (s : RdS) (u v : Value) (w : World) : Prop := NumsAt w .i64 u s.ns ∧ NumsAt w .i64 v s.os
theorem Reads.below {s : RdS} {u v : Value} {w w' : World} (h : Reads s u v w) (hb : Below w.heap.size w w') : Reads s u v w' := ⟨nums_below h.1 hb, nums_below h.2 hb⟩
/-- Two rows of two in blocks. -/
def Two (now : Int) (ns os : List Int) (e : Value) (w : World) : Prop := ∃ g h : Nat, e = .agg #[.int .i64 now, .slice (some ⟨g, 0, none⟩) 2 2, .slice (some ⟨h, 0, none⟩) 2 2] ∧ Reads ⟨now, ns, os⟩ (.slice (some ⟨g, 0, none⟩) 2 2) (.slice (some ⟨h, 0, none⟩) 2 2) w

theorem new_fin (w1 : World) (W : World) (z : Nat) (g h : Nat) (hR : RBox w1 z 0 (.slice none 0 0) (.slice none 0 0)) (hB : Below W.heap.size W w1) (hz : W.heap.size ≤ z) (hgh : (g = w1.heap.size ∧ h = w1.heap.size + 1) ∨ (g = w1.heap.size + 1 ∧ h = w1.heap.size)) :
    ∀ X : World, X = (((((w1.setCell ⟨z, 0, none⟩ (.int .i64 0)).setCell ⟨z, 1, none⟩ (.slice (some ⟨g, 0, none⟩) 2 2)).setCell ⟨z, 2, none⟩ (.slice (some ⟨h, 0, none⟩) 2 2)).alloc (.cells #[.int .i64 0, .int .i64 0] 3)).alloc (.cells #[.int .i64 0, .int .i64 0] 3)).drew →
      RBox X z 0 (.slice (some ⟨g, 0, none⟩) 2 2) (.slice (some ⟨h, 0, none⟩) 2 2) ∧ Reads ⟨0, [0, 0], [0, 0]⟩ (.slice (some ⟨g, 0, none⟩) 2 2) (.slice (some ⟨h, 0, none⟩) 2 2) X ∧ Below W.heap.size W X := by
  rintro X rfl
  have hP := hR.put 0 (.slice (some ⟨g, 0, none⟩) 2 2) (.slice (some ⟨h, 0, none⟩) 2 2)
  have hK := RBox.putK w1 z 0 (.slice (some ⟨g, 0, none⟩) 2 2) (.slice (some ⟨h, 0, none⟩) 2 2)
  have hs : (((w1.setCell ⟨z, 0, none⟩ (.int .i64 0)).setCell ⟨z, 1, none⟩ (.slice (some ⟨g, 0, none⟩) 2 2)).setCell ⟨z, 2, none⟩ (.slice (some ⟨h, 0, none⟩) 2 2)).heap.size = w1.heap.size := by simp [World.setCell]
  generalize (((w1.setCell ⟨z, 0, none⟩ (.int .i64 0)).setCell ⟨z, 1, none⟩ (.slice (some ⟨g, 0, none⟩) 2 2)).setCell ⟨z, 2, none⟩ (.slice (some ⟨h, 0, none⟩) 2 2)) = w2 at hP hK hs ⊢
  have hB2 : Below W.heap.size W w2 := hB.trans (hK.below hB.size (fun k e => by omega))
  have a0 := World.alloc_heap_new w2 (.cells #[.int .i64 0, .int .i64 0] 3)
  have a1 := World.alloc_heap_new (w2.alloc (.cells #[.int .i64 0, .int .i64 0] 3)) (.cells #[.int .i64 0, .int .i64 0] 3)
  have a2 := (below1 (w2.alloc (.cells #[.int .i64 0, .int .i64 0] 3)) (.cells #[.int .i64 0, .int .i64 0] 3)).block w2.heap.size (by simp)
  rw [a0] at a2
  rw [World.size_alloc] at a1
  rw [hs] at a1 a2
  have hN : ∀ {Y : World} {g : Nat}, Y.heap[g]? = some (.cells #[.int .i64 0, .int .i64 0] 3 (0, 0)) → NumsAt Y .i64 (.slice (some ⟨g, 0, none⟩) 2 2) [0, 0] := fun {Y g} h => IBlock.nums (W := Y) (g := g) (ns := [0, 0]) h
  have hbox := (hP.below (below1 w2 (.cells #[.int .i64 0, .int .i64 0] 3))).below (below1 _ (.cells #[.int .i64 0, .int .i64 0] 3))
  refine ⟨hbox, ?_, ((below_then hB2 hB2.size (below2 _ _ _))).drew⟩
  rcases hgh with ⟨rfl, rfl⟩ | ⟨rfl, rfl⟩
  · exact ⟨hN a2, hN a1⟩
  · exact ⟨hN a1, hN a2⟩

set_option maxHeartbeats 4000000 in
theorem new2_c (W : World) : Calls Try.prog 18 #[.int .i64 2] W fun e w' => (∃ a, e = .returned (.tuple #[a, .int .i64 0]) ∧ Two 0 [0, 0] [0, 0] a w') ∧ Below W.heap.size W w' := by
  obtain ⟨w0, hw0⟩ : ∃ X : World, X = W.alloc (.cells #[.int .i64 0, .slice none 0 0, .slice none 0 0] 24) := ⟨_, rfl⟩
  have HR := Lib.hid (show RBox w0 W.heap.size 0 (.slice none 0 0) (.slice none 0 0) ∧ Below W.heap.size W w0 ∧ w0.heap.size = W.heap.size + 1 by rw [hw0]; exact ⟨RBox.new _ _ _ _, below1 _ _, by simp⟩)
  have HC := Lib.hid (mayBe_c 2 w0)
  rw [show mayCpus 2 = true from rfl] at HC
  have hmk : ∀ w : World, (Instr.makeSlice 22 (.int .i64 2) (.int .i64 2)).run Try.prog w = .ok (.slice (some ⟨w.heap.size, 0, none⟩) 2 2) (w.alloc (.cells #[.int .i64 0, .int .i64 0] 3)) := fun w => run_makeI 2 (by omega) w
  go_enter Try.func18, Try.ntmps18
  go_wp2_with fail
  rw [← hw0]
  clear hw0
  (with_reducible refine HC.out.mono ?_)
  rintro e w1 ⟨rfl, rfl⟩
  obtain ⟨d0, d1, d2⟩ := HR.out.1.cells
  have m0 := HR.out.1.marks 0
  have m1 := HR.out.1.marks 1
  have m2 := HR.out.1.marks 2
  have hz := HR.out.1.lt
  clear HC
  go_wp2
  go_region
  all_goals
    have HF1 := Lib.hid (new_fin w1 W W.heap.size (w1.heap.size + 1) w1.heap.size HR.out.1 HR.out.2.1 (Nat.le_refl _) (.inr ⟨rfl, rfl⟩))
    have HF2 := Lib.hid (new_fin w1 W W.heap.size w1.heap.size (w1.heap.size + 1) HR.out.1 HR.out.2.1 (Nat.le_refl _) (.inl ⟨rfl, rfl⟩))
    clear hmk d0 d1 d2 m0 m1 m2 hz
    go_wp2
    first
      | (obtain ⟨h1, h2, h3⟩ := HF1.out _ rfl
         exact bodyPost_ret (v := .tuple #[.agg #[.int .i64 0, .slice (some ⟨w1.heap.size + 1, 0, none⟩) 2 2, .slice (some ⟨w1.heap.size, 0, none⟩) 2 2], .int .i64 0]) (results_ct rfl _ _ _ rfl rfl (readers_load h1)) rfl ⟨⟨_, rfl, _, _, rfl, h2⟩, h3⟩)
      | (obtain ⟨h1, h2, h3⟩ := HF2.out _ rfl
         exact bodyPost_ret (v := .tuple #[.agg #[.int .i64 0, .slice (some ⟨w1.heap.size, 0, none⟩) 2 2, .slice (some ⟨w1.heap.size + 1, 0, none⟩) 2 2], .int .i64 0]) (results_ct rfl _ _ _ rfl rfl (readers_load h1)) rfl ⟨⟨_, rfl, _, _, rfl, h2⟩, h3⟩)

theorem i64s {os : List Int} (h : (os.all fun x => decide (-9223372036854775808 ≤ x) && decide (x ≤ 9223372036854775807)) = true) : ∀ x ∈ os, I64 x := fun x hx => by
  have := List.all_eq_true.1 h x hx
  simp only [Bool.and_eq_true, decide_eq_true_eq] at this
  exact this

theorem wk_run (u v lv : Value) (Z : World) (hr : Reads ⟨0, [0, 0], [0, 0]⟩ u v Z) (hl : RgsAt Z lv [(0, true), (1, true), (0, true), (0, false)]) :
    Calls Try.prog 9 #[.agg #[.int .i64 0, u, v], lv] Z fun e w' => (∃ a, e = .returned (.tuple #[a, .int .i64 4, .int .i64 0]) ∧ Two 4 [1, 1] [1, 2] a w') ∧ Below Z.heap.size Z w' := by
  have hok : okTo ⟨0, [0, 0], [0, 0]⟩ [(0, true), (1, true), (0, true), (0, false)] := ⟨by decide, by decide, by decide, by decide, trivial⟩
  refine (run_yes ⟨0, [0, 0], [0, 0]⟩ u v lv [(0, true), (1, true), (0, true), (0, false)] Z hr.1 hr.2 hl (by decide) ((good_iff _).1 (by decide))).mono ?_
  rintro e w' ⟨h | h, hb⟩
  · obtain ⟨i, hi, -, h2, -⟩ := h
    exact absurd (okTo_at _ _ hok i hi) h2
  · obtain ⟨-, g, h, -, -, hgh, rfl, h7, h8⟩ := h
    have e : runS ⟨0, [0, 0], [0, 0]⟩ [(0, true), (1, true), (0, true), (0, false)] = ⟨4, [1, 1], [1, 2]⟩ := by rfl
    rw [e] at h7 h8 ⊢
    exact ⟨⟨_, rfl, g, h, rfl, h7.nums, h8.nums⟩, hb⟩
theorem wk_leave (u v : Value) (Z : World) (hr : Reads ⟨4, [1, 1], [1, 2]⟩ u v Z) :
    Calls Try.prog 10 #[.agg #[.int .i64 4, u, v], .int .i64 0] Z fun e w' => (∃ a, e = .returned (.tuple #[a, .int .i64 0]) ∧ Two 5 [0, 1] [0, 2] a w') ∧ Below Z.heap.size Z w' := by
  refine (Leave_c ⟨4, [1, 1], [1, 2]⟩ u v 0 Z hr.1 hr.2 (by decide) (by decide) (i64s (by decide))).mono ?_
  rintro e w' ⟨⟨nw, p1, n1, c1, p2, n2, c2, err, rfl, h | h⟩, hb⟩
  · rcases h.1 with h | h
    · exact absurd h.1 (by decide)
    · exact absurd (show stepE ⟨4, [1, 1], [1, 2]⟩ 0 false = 0 by decide) h.2.1
  · obtain ⟨-, -, rfl, rfl, g, h, -, -, hgh, ⟨rfl, rfl, rfl⟩, ⟨rfl, rfl, rfl⟩, h7, h8⟩ := h
    have e : stepS ⟨4, [1, 1], [1, 2]⟩ 0 false = ⟨5, [0, 1], [0, 2]⟩ := by rfl
    rw [e] at h7 h8 ⊢
    exact ⟨⟨_, rfl, g, h, rfl, h7.nums, h8.nums⟩, hb⟩
theorem wk_leave2 (u v : Value) (Z : World) (hr : Reads ⟨5, [0, 1], [0, 2]⟩ u v Z) :
    Calls Try.prog 10 #[.agg #[.int .i64 5, u, v], .int .i64 0] Z fun e w' => e = .returned (.tuple #[zeroR, .int .i64 4]) ∧ Below Z.heap.size Z w' := by
  refine (Leave_c ⟨5, [0, 1], [0, 2]⟩ u v 0 Z hr.1 hr.2 (by decide) (by decide) (i64s (by decide))).mono ?_
  have e4 : stepE ⟨5, [0, 1], [0, 2]⟩ 0 false = 4 := by decide
  rintro e w' ⟨⟨nw, p1, n1, c1, p2, n2, c2, err, rfl, h | h⟩, hb⟩
  · obtain ⟨h, rfl, ⟨rfl, rfl, rfl⟩, ⟨rfl, rfl, rfl⟩⟩ := h
    rcases h with h | h
    · exact absurd h.1 (by decide)
    · rw [h.2.2, e4]
      exact ⟨rfl, hb⟩
  · have := h.2.1
    rw [e4] at this
    cases this

set_option maxHeartbeats 4000000 in
theorem wk_oldest (u v : Value) (W : World) (hr : Reads ⟨4, [1, 1], [1, 2]⟩ u v W) :
    Calls Try.prog 19 #[.agg #[.int .i64 4, u, v]] W fun e w' => e = .returned (.tuple #[.int .i64 1, .bool true]) ∧ Below W.heap.size W w' := by
  obtain ⟨p, cp, hu, -⟩ := id hr.1
  obtain ⟨p2, cp2, hv, -⟩ := id hr.2
  obtain rfl : u = .slice p 2 cp := hu
  obtain rfl : v = .slice p2 2 cp2 := hv
  obtain ⟨w0, hw0⟩ : ∃ X : World, X = W.alloc (.cells #[.int .i64 4, .slice p 2 cp, .slice p2 2 cp2] 24) := ⟨_, rfl⟩
  have hb0 : Below W.heap.size W w0 := by rw [hw0]; exact below1 _ _
  have HB := Lib.hid hb0
  have HC := Lib.hid (may_c 4 (.slice p 2 cp) (.slice p2 2 cp2) [1, 1] [1, 2] w0 (nums_below hr.1 hb0) (nums_below hr.2 hb0) (by decide) (by decide) (i64s (by decide)))
  rw [show mayB 4 [1, 1] [1, 2] = true by decide] at HC
  have hbx : RBox w0 W.heap.size 4 (.slice p 2 cp) (.slice p2 2 cp2) := by rw [hw0]; exact RBox.new _ _ _ _
  have HBX := Lib.hid hbx
  obtain ⟨d0, d1, d2⟩ := hbx.cells
  have HN := Lib.hid (hr.below hb0)
  clear hb0 hr hbx
  go_enter Try.func19, Try.ntmps19
  go_wp2_with fail
  rw [← hw0]
  clear hw0
  (with_reducible refine HC.out.mono ?_)
  rintro e w1 ⟨rfl, hb1⟩
  have HB1 := Lib.hid (below_then HB.out HB.out.size hb1)
  obtain ⟨d0, d1, d2⟩ := (HBX.out.below hb1).cells
  have HOL := Lib.hid (oldest_c 4 _ _ [1, 1] [1, 2] w1 (by decide) (by decide) (HN.out.below hb1).1 (HN.out.below hb1).2)
  rw [show oldM (secs ([1, 1].zip [1, 2])) = 1 by decide] at HOL
  clear hb1
  go_wp2_with fail
  (with_reducible refine HOL.out.mono ?_)
  rintro e w2 ⟨rfl, hb2⟩
  have HB2 := Lib.hid (below_then HB1.out HB1.out.size hb2)
  clear hb2
  go_wp2
  go_ret2
  exact ⟨rfl, HB2.out⟩

end Go.Proofs.Ytjfphhemhaphbab
