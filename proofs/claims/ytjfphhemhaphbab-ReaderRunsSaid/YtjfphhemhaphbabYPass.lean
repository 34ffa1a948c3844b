/-
  Package reader: Passed.
  Conditions: the ranges of Go's types.
-/
import Derived.Test.YtjfphhemhaphbabYTell
namespace Go.Proofs.Ytjfphhemhaphbab
set_option maxRecDepth 100000
open Go.RowKit Go.Shelf
attribute [local go_sem] Oper.semAt_some

def passB (now : Int) (o : Int) (step : Int) : Bool := decide (0 ≤ step) && (decide (step ≤ now) && (decide (o = 0) || decide (step < o)))
set_option maxHeartbeats 8000000 in
theorem passed_c (s : RdS) (u v : Value) (c : Int) (W : World) (hn : NumsAt W .i64 u s.ns) (ho : NumsAt W .i64 v s.os) (h1 : s.ns.length ≤ 9223372036854775807) (h2 : s.os.length ≤ 9223372036854775807) (hr : ∀ x ∈ s.os, I64 x) :
    Calls Try.prog 15 #[.agg #[.int .i64 s.now, u, v], .int .i64 c] W fun e w' => e = .returned (.bool (mayB s.now s.ns s.os && passB s.now (oldM (secs (s.ns.zip s.os))) c)) ∧ Below W.heap.size W w' := by
  obtain ⟨w0, hw0⟩ : ∃ X : World, X = W.alloc (.cells #[.int .i64 s.now, u, v] 24) := ⟨_, rfl⟩
  have hb0 : Below W.heap.size W w0 := by rw [hw0]; exact below1 _ _
  have HB := Lib.hid hb0
  have HC := Lib.hid (may_c s.now u v s.ns s.os w0 (nums_below hn hb0) (nums_below ho hb0) h1 h2 hr)
  have hbx : RBox w0 W.heap.size s.now u v := by rw [hw0]; exact RBox.new _ _ _ _
  have HBX := Lib.hid hbx
  obtain ⟨d0, d1, d2⟩ := hbx.cells
  have HN := Lib.hid (And.intro (nums_below hn hb0) (nums_below ho hb0))
  obtain ⟨p, cp, rfl, -⟩ := hn
  obtain ⟨p2, cp2, rfl, -⟩ := ho
  clear hb0 hr h1 h2 hbx
  cases hm : mayB s.now s.ns s.os with
  | false =>
    rw [hm] at HC
    rw [Bool.false_and]
    clear hm
    go_enter Try.func15, Try.ntmps15
    go_wp2_with fail
    rw [← hw0]
    clear hw0
    (with_reducible refine HC.out.mono ?_)
    rintro e w1 ⟨rfl, hb1⟩
    have HB1 := Lib.hid (below_then HB.out HB.out.size hb1)
    clear hb1
    go_wp2
    go_ret
    exact ⟨rfl, HB1.out⟩
  | true =>
    have g := (good_iff s).1 hm
    have HG := Lib.hid g
    rw [hm] at HC
    rw [Bool.true_and]
    clear hm g
    unfold passB
    by_cases c1 : 0 ≤ c
    · rw [decide_eq_true c1, Bool.true_and]
      by_cases c2 : c ≤ s.now
      · rw [decide_eq_true c2, Bool.true_and]
        have q1 : decide (c < 0) = false := by simp; omega
        have q2 : decide (s.now < c) = false := by simp; omega
        obtain ⟨o, hoo⟩ : ∃ o, o = oldM (secs (s.ns.zip s.os)) := ⟨_, rfl⟩
        rw [← hoo]
        by_cases c3 : o = 0
        · have q3 : (o == 0) = true := by rw [c3]; rfl
          rw [decide_eq_true c3, Bool.true_or]
          have HO := Lib.hid hoo
          clear hoo c3
          go_enter Try.func15, Try.ntmps15
          go_wp2_with fail
          rw [← hw0]
          clear hw0
          (with_reducible refine HC.out.mono ?_)
          rintro e w1 ⟨rfl, hb1⟩
          have HB1 := Lib.hid (below_then HB.out HB.out.size hb1)
          obtain ⟨d0, d1, d2⟩ := (HBX.out.below hb1).cells
          have HOL := Lib.hid (oldest_c s.now _ _ s.ns s.os w1 HG.out.lo HG.out.l8 (nums_below HN.out.1 hb1) (nums_below HN.out.2 hb1))
          rw [← HO.out] at HOL
          clear hb1
          go_wp2_with fail
          (with_reducible refine HOL.out.mono ?_)
          rintro e w2 ⟨rfl, hb2⟩
          have HB2 := Lib.hid (below_then HB1.out HB1.out.size hb2)
          clear hb2
          go_wp2
          go_ret
          exact ⟨rfl, HB2.out⟩
        · have q3 : (o == 0) = false := by rw [beq_eq_false_iff_ne]; exact c3
          rw [decide_eq_false c3, Bool.false_or]
          have HO := Lib.hid hoo
          clear hoo c3
          go_enter Try.func15, Try.ntmps15
          go_wp2_with fail
          rw [← hw0]
          clear hw0
          (with_reducible refine HC.out.mono ?_)
          rintro e w1 ⟨rfl, hb1⟩
          have HB1 := Lib.hid (below_then HB.out HB.out.size hb1)
          obtain ⟨d0, d1, d2⟩ := (HBX.out.below hb1).cells
          have HOL := Lib.hid (oldest_c s.now _ _ s.ns s.os w1 HG.out.lo HG.out.l8 (nums_below HN.out.1 hb1) (nums_below HN.out.2 hb1))
          rw [← HO.out] at HOL
          clear hb1
          go_wp2_with fail
          (with_reducible refine HOL.out.mono ?_)
          rintro e w2 ⟨rfl, hb2⟩
          have HB2 := Lib.hid (below_then HB1.out HB1.out.size hb2)
          clear hb2
          go_wp2
          go_ret
          exact ⟨rfl, HB2.out⟩
      · rw [decide_eq_false c2, Bool.false_and]
        have q1 : decide (c < 0) = false := by simp; omega
        have q2 : decide (s.now < c) = true := by simp; omega
        clear HG HN
        go_enter Try.func15, Try.ntmps15
        go_wp2_with fail
        rw [← hw0]
        clear hw0
        (with_reducible refine HC.out.mono ?_)
        rintro e w1 ⟨rfl, hb1⟩
        have HB1 := Lib.hid (below_then HB.out HB.out.size hb1)
        obtain ⟨d0, d1, d2⟩ := (HBX.out.below hb1).cells
        clear hb1
        go_wp2
        go_ret
        exact ⟨rfl, HB1.out⟩
    · rw [decide_eq_false c1, Bool.false_and]
      have q1 : decide (c < 0) = true := by simp; omega
      clear HG HN
      go_enter Try.func15, Try.ntmps15
      go_wp2_with fail
      rw [← hw0]
      clear hw0
      (with_reducible refine HC.out.mono ?_)
      rintro e w1 ⟨rfl, hb1⟩
      have HB1 := Lib.hid (below_then HB.out HB.out.size hb1)
      clear hb1
      go_wp2
      go_ret
      exact ⟨rfl, HB1.out⟩

end Go.Proofs.Ytjfphhemhaphbab
