/-
  Package rcu: a turn, in memory: its row of queues, while it grows, and behind that; what changes it.
  Conditions: none.
-/
import Derived.Test.YtdllhiihmpinoaaGreatVB7
import Derived.Test.YtdllhiihmpinoaaGreatVB3
import Derived.Test.YtdllhiihmpinoaaGreatVB5
import Derived.Maps.AppendAt
/-
  Package rcu: Check, has, open, idle, Idle, Waiting; reader.Oldest.
  Conditions: the ranges of Go's types.
-/
namespace Go.Proofs.YtdllhiihmpinoaaGreat
set_option maxRecDepth 100000
open Go.RowKit Go.Shelf
attribute [local go_sem] Oper.semAt_some

/-- The worlds in which an Rcu has been boxed. -/
theorem rc_boxed {W : World} {u v nv qv : Value} {r : RcS} (hi : RcIn U.NoS W u v nv qv r) {w0 : World} (hw0 : w0 = W.alloc (.cells #[.int .i64 r.s.now, u, v, .int .i64 r.g.done, .int .i64 r.g.asked, .bool r.g.on, nv, qv] 30)) :
    RcIn U.NoS w0 u v nv qv r ∧ Below W.heap.size W w0 ∧ RcBox w0 W.heap.size r.s.now u v r.g.done r.g.asked r.g.on nv qv := by
  have hb0 : Below W.heap.size W w0 := by rw [hw0]; exact below1 _ _
  exact ⟨hi.below hb0, hb0, by rw [hw0]; exact RcBox.new _ _ _ _ _ _ _ _ _⟩

set_option maxHeartbeats 8000000 in
theorem rcheck_c (u v nv qv : Value) (r : RcS) (W : World) (hi : RcIn U.NoS W u v nv qv r) (hr : RcR r) :
    Calls Tryz.prog 23 #[.agg #[.int .i64 r.s.now, u, v, .int .i64 r.g.done, .int .i64 r.g.asked, .bool r.g.on, nv, qv]] W fun e w' => e = .returned (.int .i64 (if rmayB r = true then 0 else 240)) ∧ Below W.heap.size W w' := by
  obtain ⟨R, hR⟩ : ∃ R, R = rmayB r := ⟨_, rfl⟩
  rw [← hR]
  obtain ⟨w0, hw0⟩ : ∃ X : World, X = W.alloc (.cells #[.int .i64 r.s.now, u, v, .int .i64 r.g.done, .int .i64 r.g.asked, .bool r.g.on, nv, qv] 30) := ⟨_, rfl⟩
  obtain ⟨hi0, hb0, hx⟩ := rc_boxed hi hw0
  have hC := rmay_c u v nv qv r w0 hi0 hr
  rw [← hR] at hC
  have HC := Lib.hid hC
  have HB := Lib.hid hb0
  obtain ⟨p1, c1, p2, c2, p3, c3, p4, c4, rfl, rfl, rfl, rfl⟩ := hi.sl
  obtain ⟨d0, d1, d2, d3, d4, d5, d6, d7⟩ := hx.cells
  clear hi0 hb0 hx hC hi hr hR
  cases R
  all_goals
    go_enter Tryz.func23, Tryz.ntmps23
    go_wp2_with fail
    rw [← hw0]
    clear hw0
    (with_reducible refine HC.out.mono ?_)
    rintro e w1 ⟨rfl, hb1⟩
    have HB1 := Lib.hid (below_then HB.out HB.out.size hb1)
    clear hb1
    go_wp2
    go_ret
    exact ⟨rfl, HB1.out⟩

set_option maxHeartbeats 4000000 in
theorem rhas_c (now d a c : Int) (on : Bool) (u v nv : Value) (p : Option Addr) (k cc : Nat) (W : World) : Calls Tryz.prog 80 #[.agg #[.int .i64 now, u, v, .int .i64 d, .int .i64 a, .bool on, nv, .slice p k cc], .int .i64 c] W fun e w' => e = .returned (.bool (hasB k c)) ∧ Below W.heap.size W w' := by
  have hc : (c < 0 ∧ hasB k c = false) ∨ (0 ≤ c ∧ hasB k c = decide (c < (k : Int))) := by
    unfold hasB
    by_cases h : 0 ≤ c
    · rw [decide_eq_true h]; exact .inr ⟨h, rfl⟩
    · rw [decide_eq_false h]; exact .inl ⟨by omega, rfl⟩
  rcases hc with ⟨h0, hr⟩ | ⟨h0, hr⟩
  all_goals
    rw [hr]; clear hr
    go_enter Tryz.func80, Tryz.ntmps80
    go_wp2
    go_ret
    exact ⟨rfl, below1 _ _⟩

/-- Is a CPU in a section? -/
def openB (s : RdS) : Bool := !decide (oldM (secs (s.ns.zip s.os)) = 0)
set_option maxHeartbeats 8000000 in
theorem oldest2_c (s : RdS) (u v : Value) (W : World) (hg : Good s) (hn : NumsAt W .i64 u s.ns) (ho : NumsAt W .i64 v s.os) (hr : ∀ x ∈ s.os, I64 x) :
    Calls Tryz.prog 81 #[.agg #[.int .i64 s.now, u, v]] W fun e w' => e = .returned (.tuple #[.int .i64 (oldM (secs (s.ns.zip s.os))), .bool (openB s)]) ∧ Below W.heap.size W w' := by
  obtain ⟨m, hm⟩ : ∃ m, m = oldM (secs (s.ns.zip s.os)) := ⟨_, rfl⟩
  unfold openB
  rw [← hm]
  obtain ⟨w0, hw0⟩ : ∃ X : World, X = W.alloc (.cells #[.int .i64 s.now, u, v] 24) := ⟨_, rfl⟩
  have hb0 : Below W.heap.size W w0 := by rw [hw0]; exact below1 _ _
  have hbx : RBox w0 W.heap.size s.now u v := by rw [hw0]; exact RBox.new _ _ _ _
  have h8 := hg.l8
  have hlo := hg.lo
  have hC := may_c s.now u v s.ns s.os w0 (nums_below hn hb0) (nums_below ho hb0) (by omega) (by omega) hr
  rw [(good_iff s).2 hg] at hC
  have HC := Lib.hid hC
  have HN := Lib.hid (And.intro hlo (And.intro h8 (And.intro (nums_below hn hb0) (nums_below ho hb0))))
  have HX := Lib.hid (And.intro hbx hb0)
  obtain ⟨d0, d1, d2⟩ := hbx.cells
  have HM := Lib.hid hm
  obtain ⟨p, cp, rfl, -⟩ := hn
  obtain ⟨p2, cp2, rfl, -⟩ := ho
  clear hb0 hr h8 hlo hC hbx hg hm
  by_cases hz : m = 0
  · rw [decide_eq_true hz]
    subst hz
    go_enter Tryz.func81, Tryz.ntmps81
    go_wp2_with fail
    rw [← hw0]
    clear hw0
    (with_reducible refine HC.out.mono ?_)
    rintro e w1 ⟨rfl, hb1⟩
    obtain ⟨d0, d1, d2⟩ := (HX.out.1.below hb1).cells
    have HB1 := Lib.hid (below_then HX.out.2 HX.out.2.size hb1)
    have hC := oldest_c s.now (.slice p s.ns.length cp) (.slice p2 s.os.length cp2) s.ns s.os w1 HN.out.1 HN.out.2.1 (nums_below HN.out.2.2.1 hb1) (nums_below HN.out.2.2.2 hb1)
    rw [← HM.out] at hC
    have HC2 := Lib.hid hC
    clear hC hb1 HC
    go_wp2_with fail
    (with_reducible refine HC2.out.mono ?_)
    rintro e w2 ⟨rfl, hb2⟩
    have HB2 := Lib.hid (below_then HB1.out HB1.out.size hb2)
    clear hb2 HC2 d0 d1 d2
    go_wp2
    go_ret2
    exact ⟨rfl, HB2.out⟩
  · rw [decide_eq_false hz]
    have hz' : (m != 0) = true := by rw [bne_iff_ne]; exact hz
    go_enter Tryz.func81, Tryz.ntmps81
    go_wp2_with fail
    rw [← hw0]
    clear hw0
    (with_reducible refine HC.out.mono ?_)
    rintro e w1 ⟨rfl, hb1⟩
    obtain ⟨d0, d1, d2⟩ := (HX.out.1.below hb1).cells
    have HB1 := Lib.hid (below_then HX.out.2 HX.out.2.size hb1)
    have hC := oldest_c s.now (.slice p s.ns.length cp) (.slice p2 s.os.length cp2) s.ns s.os w1 HN.out.1 HN.out.2.1 (nums_below HN.out.2.2.1 hb1) (nums_below HN.out.2.2.2 hb1)
    rw [← HM.out] at hC
    have HC2 := Lib.hid hC
    clear hC hb1 HC
    go_wp2_with fail
    (with_reducible refine HC2.out.mono ?_)
    rintro e w2 ⟨rfl, hb2⟩
    have HB2 := Lib.hid (below_then HB1.out HB1.out.size hb2)
    clear hb2 HC2 d0 d1 d2
    go_wp2
    go_ret2
    exact ⟨rfl, HB2.out⟩

set_option maxHeartbeats 8000000 in
theorem ropen_c (u v nv qv : Value) (r : RcS) (W : World) (hi : RcIn U.NoS W u v nv qv r) (hr : RcR r) (hg : Good r.s) :
    Calls Tryz.prog 48 #[.agg #[.int .i64 r.s.now, u, v, .int .i64 r.g.done, .int .i64 r.g.asked, .bool r.g.on, nv, qv]] W fun e w' => e = .returned (.bool (openB r.s)) ∧ Below W.heap.size W w' := by
  obtain ⟨w0, hw0⟩ : ∃ X : World, X = W.alloc (.cells #[.int .i64 r.s.now, u, v, .int .i64 r.g.done, .int .i64 r.g.asked, .bool r.g.on, nv, qv] 30) := ⟨_, rfl⟩
  obtain ⟨hi0, hb0, hx⟩ := rc_boxed hi hw0
  have HC := Lib.hid (oldest2_c r.s u v w0 hg hi0.nest.1 hi0.opened.1 hr.os)
  have HB := Lib.hid hb0
  obtain ⟨p1, c1, p2, c2, p3, c3, p4, c4, rfl, rfl, rfl, rfl⟩ := hi.sl
  obtain ⟨d0, d1, d2, d3, d4, d5, d6, d7⟩ := hx.cells
  obtain ⟨o, ho⟩ : ∃ o, o = openB r.s := ⟨_, rfl⟩
  rw [← ho] at HC ⊢
  clear hi0 hb0 hx hi hr ho hg
  go_enter Tryz.func48, Tryz.ntmps48
  go_wp2_with fail
  rw [← hw0]
  clear hw0
  (with_reducible refine HC.out.mono ?_)
  rintro e w1 ⟨rfl, hb1⟩
  have HB1 := Lib.hid (below_then HB.out HB.out.size hb1)
  clear hb1
  go_wp2
  go_ret
  exact ⟨rfl, HB1.out⟩

set_option maxHeartbeats 4000000 in
theorem idle1_c (p : Option Addr) (n c : Nat) (over : Int) (W : World) (hn : n ≤ 9223372036854775807) : Calls Tryz.prog 96 #[.agg #[.slice p n c, .int .u64 over]] W fun e w' => e = .returned (.bool (decide (n = 0))) ∧ Below W.heap.size W w' := by
  by_cases h : n = 0
  · subst h
    go_enter Tryz.func96, Tryz.ntmps96
    go_wp2
    go_ret
    exact ⟨rfl, below1 _ _⟩
  · rw [decide_eq_false h]
    have h' : ((n : Int) == 0) = false := by rw [beq_eq_false_iff_ne]; omega
    clear h
    go_enter Tryz.func96, Tryz.ntmps96
    go_wp2
    go_ret
    exact ⟨rfl, below1 _ _⟩

/-- Is it idle? -/
def idleB (r : RcS) : Bool := ((!openB r.s && !r.g.on) && decide (r.g.asked = r.g.done)) && r.qs.all fun q => decide (q.2.length = 0)
set_option maxHeartbeats 16000000 in
theorem ridle_c (u v nv qv : Value) (r : RcS) (W : World) (hi : RcIn U.NoS W u v nv qv r) (hr : RcR r) (hg : Good r.s) :
    Calls Tryz.prog 62 #[.agg #[.int .i64 r.s.now, u, v, .int .i64 r.g.done, .int .i64 r.g.asked, .bool r.g.on, nv, qv]] W fun e w' => e = .returned (.bool (idleB r)) ∧ Below W.heap.size W w' := by
  obtain ⟨R, hR⟩ : ∃ R, R = idleB r := ⟨_, rfl⟩
  rw [← hR]
  obtain ⟨o, ho⟩ : ∃ o, o = openB r.s := ⟨_, rfl⟩
  obtain ⟨on, hon⟩ : ∃ on, on = r.g.on := ⟨_, rfl⟩
  unfold idleB at hR
  rw [← ho, ← hon] at hR
  have HR := Lib.hid hR
  clear hR
  obtain ⟨w0, hw0⟩ : ∃ X : World, X = W.alloc (.cells #[.int .i64 r.s.now, u, v, .int .i64 r.g.done, .int .i64 r.g.asked, .bool r.g.on, nv, qv] 30) := ⟨_, rfl⟩
  obtain ⟨hi0, hb0, hx⟩ := rc_boxed hi hw0
  have hC := ropen_c u v nv qv r w0 hi0 hr hg
  rw [← hon] at hw0 hx hC ⊢
  rw [← ho] at hC
  have HC := Lib.hid hC
  have HI := Lib.hid (And.intro hi0 (And.intro hr (And.intro hb0 hx)))
  obtain ⟨p1, c1, p2, c2, p3, c3, p4, c4, rfl, rfl, rfl, rfl⟩ := hi.sl
  obtain ⟨d0, d1, d2, d3, d4, d5, d6, d7⟩ := hx.cells
  have hl4 := hr.l4
  clear hi0 hb0 hx hi hr ho hg hon hC
  go_enter Tryz.func62, Tryz.ntmps62
  go_wp2_with fail
  rw [← hw0]
  clear hw0
  (with_reducible refine HC.out.mono ?_)
  rintro e w1 ⟨rfl, hb1⟩
  have HI1 := Lib.hid (show RcIn U.NoS w1 _ _ _ _ r ∧ RcR r ∧ Below W.heap.size W w1 from ⟨HI.out.1.below hb1, HI.out.2.1, below_then HI.out.2.2.1 HI.out.2.2.1.size hb1⟩)
  obtain ⟨e0, e1, e2, e3, e4, e5, e6, e7⟩ := (HI.out.2.2.2.below hb1).cells
  clear hb1 HI HC d0 d1 d2 d3 d4 d5 d6 d7
  cases o with
  | true =>
    have HE := Lib.hid (show R = false by rw [HR.out]; rfl)
    go_wp2
    go_ret
    exact ⟨by rw [HE.out]; rfl, HI1.out.2.2⟩
  | false =>
    cases on with
    | true =>
      have HE := Lib.hid (show R = false by rw [HR.out]; rfl)
      go_wp2
      go_ret
      exact ⟨by rw [HE.out]; rfl, HI1.out.2.2⟩
    | false =>
      by_cases ha : r.g.asked = r.g.done
      · have ha' : (r.g.asked == r.g.done) = true := by rw [beq_iff_eq]; exact ha
        have HE := Lib.hid (show R = r.qs.all fun q => decide (q.2.length = 0) by rw [HR.out, decide_eq_true ha]; rfl)
        have hC := allQ_c (.slice p4 r.qs.length c4) r.qs (fun q => decide (q.2.length = 0)) 96 #[] w1 HI1.out.1.queues hl4 (fun _ _ => rfl) (fun i h lv W' hb' hcb => by
          obtain ⟨lp, lc, rfl, h1, h2, -⟩ := hcb
          exact idle1_c lp r.qs[i].2.length lc r.qs[i].1 W' (by omega))
        rw [← HE.out] at hC
        have HC := Lib.hid hC
        clear ha hC HE
        go_wp2_with fail
        (with_reducible refine HC.out.mono ?_)
        rintro e w2 ⟨rfl, hb2⟩
        have HB2 := Lib.hid (below_then HI1.out.2.2 HI1.out.2.2.size hb2)
        clear hb2 HI1 HC
        go_wp2
        go_ret
        exact ⟨rfl, HB2.out⟩
      · have ha' : (r.g.asked == r.g.done) = false := by rw [beq_eq_false_iff_ne]; exact ha
        have HE := Lib.hid (show R = false by rw [HR.out, decide_eq_false ha]; rfl)
        clear ha
        go_wp2
        go_ret
        exact ⟨by rw [HE.out]; rfl, HI1.out.2.2⟩

set_option maxHeartbeats 8000000 in
theorem rIdle_c (u v nv qv : Value) (r : RcS) (W : World) (hi : RcIn U.NoS W u v nv qv r) (hr : RcR r) :
    Calls Tryz.prog 24 #[.agg #[.int .i64 r.s.now, u, v, .int .i64 r.g.done, .int .i64 r.g.asked, .bool r.g.on, nv, qv]] W fun e w' => e = .returned (.bool (rmayB r && idleB r)) ∧ Below W.heap.size W w' := by
  obtain ⟨w0, hw0⟩ : ∃ X : World, X = W.alloc (.cells #[.int .i64 r.s.now, u, v, .int .i64 r.g.done, .int .i64 r.g.asked, .bool r.g.on, nv, qv] 30) := ⟨_, rfl⟩
  obtain ⟨hi0, hb0, hx⟩ := rc_boxed hi hw0
  have hC := rmay_c u v nv qv r w0 hi0 hr
  have HI := Lib.hid (And.intro hi0 (And.intro hr (And.intro hb0 hx)))
  obtain ⟨p1, c1, p2, c2, p3, c3, p4, c4, rfl, rfl, rfl, rfl⟩ := hi.sl
  obtain ⟨d0, d1, d2, d3, d4, d5, d6, d7⟩ := hx.cells
  clear hi0 hb0 hx hi hr
  cases hm : rmayB r with
  | false =>
    rw [Bool.false_and]
    rw [hm] at hC
    have HC := Lib.hid hC
    clear hC hm
    go_enter Tryz.func24, Tryz.ntmps24
    go_wp2_with fail
    rw [← hw0]
    clear hw0
    (with_reducible refine HC.out.mono ?_)
    rintro e w1 ⟨rfl, hb1⟩
    have HB1 := Lib.hid (below_then HI.out.2.2.1 HI.out.2.2.1.size hb1)
    clear hb1 HI HC
    go_wp2
    go_ret
    exact ⟨rfl, HB1.out⟩
  | true =>
    obtain ⟨R, hR⟩ : ∃ R, R = idleB r := ⟨_, rfl⟩
    rw [Bool.true_and, ← hR]
    rw [hm] at hC
    have HC := Lib.hid hC
    have HG := Lib.hid (And.intro hm hR)
    clear hC hm hR
    go_enter Tryz.func24, Tryz.ntmps24
    go_wp2_with fail
    rw [← hw0]
    clear hw0
    (with_reducible refine HC.out.mono ?_)
    rintro e w1 ⟨rfl, hb1⟩
    have hg : Good r.s := (good_iff r.s).1 (by have := HG.out.1; unfold rmayB at this; rw [Bool.and_eq_true] at this; exact this.1)
    have hC := ridle_c _ _ _ _ r w1 (HI.out.1.below hb1) HI.out.2.1 hg
    rw [← HG.out.2] at hC
    have HC2 := Lib.hid hC
    obtain ⟨e0, e1, e2, e3, e4, e5, e6, e7⟩ := (HI.out.2.2.2.below hb1).cells
    have HB1 := Lib.hid (below_then HI.out.2.2.1 HI.out.2.2.1.size hb1)
    clear hb1 HI HC hC hg d0 d1 d2 d3 d4 d5 d6 d7
    go_wp2_with fail
    (with_reducible refine HC2.out.mono ?_)
    rintro e w2 ⟨rfl, hb2⟩
    have HB2 := Lib.hid (below_then HB1.out HB1.out.size hb2)
    clear hb2 HB1 HC2
    go_wp2
    go_ret
    exact ⟨rfl, HB2.out⟩

/-- How many callbacks wait. -/
def manyQ : List (Int × List (Int × Int)) → Int
  | [] => 0
  | q :: l => (q.2.length : Int) + manyQ l
theorem manyQ_append : ∀ l m : List (Int × List (Int × Int)), manyQ (l ++ m) = manyQ l + manyQ m
  | [], m => by simp [manyQ]
  | q :: l, m => by simp only [List.cons_append, manyQ, manyQ_append l m]; omega
theorem manyQ_pos : ∀ l : List (Int × List (Int × Int)), 0 ≤ manyQ l
  | [] => by simp [manyQ]
  | q :: l => by have := manyQ_pos l; simp only [manyQ]; omega
theorem manyQ_le : ∀ l : List (Int × List (Int × Int)), (∀ q ∈ l, q.2.length ≤ 16) → manyQ l ≤ 16 * (l.length : Int)
  | [], _ => by simp [manyQ]
  | q :: l, h => by
    have h1 := manyQ_le l (fun x hx => h x (List.mem_cons_of_mem _ hx))
    have h2 := h q (List.mem_cons_self ..)
    simp only [manyQ, List.length_cons]
    omega
theorem rmay_facts {r : RcS} (h : rmayB r = true) : Good r.s ∧ mayG r.g = true ∧ r.s.ns.length = r.qs.length ∧ r.g.nd.length = r.qs.length ∧ ∀ q ∈ r.qs, U.mayB q.1 q.2 = true ∧ q.1 = r.g.done ∧ ∀ c ∈ q.2, c.1 ≤ r.g.asked := by
  unfold rmayB at h
  simp only [Bool.and_eq_true, decide_eq_true_eq, List.all_eq_true] at h
  obtain ⟨h1, h2, h3, h4, h5⟩ := h
  refine ⟨(good_iff r.s).1 h1, h2, h3, h4, fun q hq => ?_⟩
  have := h5 q hq
  unfold qOk at this
  simp only [Bool.and_eq_true, decide_eq_true_eq, List.all_eq_true] at this
  exact ⟨this.1.1, this.1.2, this.2⟩

set_option maxHeartbeats 16000000 in
theorem rwaiting_c (u v nv qv : Value) (r : RcS) (W : World) (hi : RcIn U.NoS W u v nv qv r) (hr : RcR r) :
    Calls Tryz.prog 22 #[.agg #[.int .i64 r.s.now, u, v, .int .i64 r.g.done, .int .i64 r.g.asked, .bool r.g.on, nv, qv]] W fun e w' => e = .returned (.int .i64 (if rmayB r = true then manyQ r.qs else 0)) ∧ Below W.heap.size W w' := by
  obtain ⟨w0, hw0⟩ : ∃ X : World, X = W.alloc (.cells #[.int .i64 r.s.now, u, v, .int .i64 r.g.done, .int .i64 r.g.asked, .bool r.g.on, nv, qv] 30) := ⟨_, rfl⟩
  obtain ⟨hi0, hb0, hx⟩ := rc_boxed hi hw0
  have hC := rmay_c u v nv qv r w0 hi0 hr
  have HI := Lib.hid (And.intro hi0 (And.intro hr (And.intro hb0 hx)))
  obtain ⟨p1, c1, p2, c2, p3, c3, p4, c4, rfl, rfl, rfl, rfl⟩ := hi.sl
  obtain ⟨d0, d1, d2, d3, d4, d5, d6, d7⟩ := hx.cells
  have hl4 := hr.l4
  clear hi0 hb0 hx hi hr
  cases hm : rmayB r with
  | false =>
    rw [if_neg Bool.false_ne_true]
    rw [hm] at hC
    have HC := Lib.hid hC
    clear hC hm
    go_enter Tryz.func22, Tryz.ntmps22
    go_wp2_with fail
    rw [← hw0]
    clear hw0
    (with_reducible refine HC.out.mono ?_)
    rintro e w1 ⟨rfl, hb1⟩
    have HB1 := Lib.hid (below_then HI.out.2.2.1 HI.out.2.2.1.size hb1)
    clear hb1 HI HC
    go_wp2
    go_ret
    exact ⟨rfl, HB1.out⟩
  | true =>
    obtain ⟨m, hmm⟩ : ∃ m, m = manyQ r.qs := ⟨_, rfl⟩
    rw [if_pos rfl, ← hmm]
    rw [hm] at hC
    have HC := Lib.hid hC
    obtain ⟨n, hn⟩ : ∃ n, n = r.qs.length := ⟨_, rfl⟩
    have HG := Lib.hid (show m = manyQ r.qs ∧ n = r.qs.length ∧ n ≤ 8 ∧ (∀ q ∈ r.qs, q.2.length ≤ 16) from by
      obtain ⟨g1, -, g3, -, g5⟩ := rmay_facts hm
      exact ⟨hmm, hn, by have := g1.l8; omega, fun q hq => (U.may_parts (g5 q hq).1).2.1⟩)
    rw [← hn] at hl4 d7 hw0 HI HC ⊢
    clear hC hm hmm hn
    go_enter Tryz.func22, Tryz.ntmps22
    go_wp2_with fail
    rw [← hw0]
    clear hw0
    (with_reducible refine HC.out.mono ?_)
    rintro e w1 ⟨rfl, hb1⟩
    obtain ⟨e0, e1, e2, e3, e4, e5, e6, e7⟩ := (HI.out.2.2.2.below hb1).cells
    have HQ := Lib.hid (HI.out.1.queues.below hb1)
    have HB1 := Lib.hid (below_then HI.out.2.2.1 HI.out.2.2.1.size hb1)
    clear hb1 HI HC d0 d1 d2 d3 d4 d5 d6 d7
    go_wp2
    go_loopw [3, 11] (fun sv iv wr => ∃ i : Nat, i ≤ n ∧ ∃ k : Int, sv = .int .i64 k ∧ iv = .int .i64 (i : Int) ∧ Hid (Below w1.heap.size w1 wr) ∧ Hid (k = manyQ (r.qs.take i))) (fun _ iv _ => n - (intOf iv).toNat)
    case atStart => exact ⟨0, Nat.zero_le _, 0, rfl, rfl, Lib.hid (Below.refl _ _), Lib.hid rfl⟩
    case round =>
      obtain ⟨i, hi, k, rfl, rfl, HB, HK⟩ := hrel
      by_cases hlt : i < n
      · have hil : i < r.qs.length := by have := HG.out.2.1; omega
        obtain ⟨b, off, rfl, lv, hx, hy, hcb⟩ := queue_at (HQ.out.below HB.out) i hil
        obtain ⟨y, hye⟩ : ∃ y, y = r.qs[i].1 := ⟨_, rfl⟩
        obtain ⟨lp, lc, rfl, -⟩ := hcb
        obtain ⟨ln, hln⟩ : ∃ k, k = r.qs[i].2.length := ⟨_, rfl⟩
        rw [← hye] at hy
        rw [← hln] at hx
        have h16 := HG.out.2.2.2 _ (List.getElem_mem hil)
        rw [← hln] at h16
        have hk0 := manyQ_pos (r.qs.take i)
        have hk1 := manyQ_le (r.qs.take i) (fun q hq => HG.out.2.2.2 q (List.mem_of_mem_take hq))
        rw [← HK.out] at hk0 hk1
        have h8 := HG.out.2.2.1
        have hk2 : k ≤ 16 * 8 := by
          have : ((r.qs.take i).length : Int) ≤ 8 := by rw [List.length_take]; omega
          omega
        have HK1 := Lib.hid (show k + (ln : Int) = manyQ (r.qs.take (i + 1)) by rw [List.take_succ_eq_append_getElem hil, manyQ_append, ← HK.out, hln]; simp [manyQ])
        have hi0 : (0 : Int) ≤ (i : Int) := by omega
        have hlt' : (i : Int) < (n : Int) := by omega
        have hbl := World.block_lt_of_cell? wr _ hx
        have HB2 := Lib.hid (below_then HB.out HB.out.size (below1 wr (.cells #[.slice lp ln lc, .int .u64 y] 66)))
        clear hye hln hk1 HK
        go_wp2
        go_roundw
        case rel => exact ⟨i + 1, by omega, k + (ln : Int), by go_num, by go_num, HB2, HK1⟩
        case measure => simp [intOf]; omega
      · obtain rfl : i = n := by omega
        have HT := Lib.hid (show k = m by have := HK.out; rwa [HG.out.2.1, List.take_length, ← HG.out.1] at this)
        clear HK hlt hi
        go_wp2
        go_ret
        exact ⟨by rw [← HT.out]; rfl, below_then HB1.out HB1.out.size HB.out⟩

end Go.Proofs.YtdllhiihmpinoaaGreat
/-
  Package rcu: must, got, and tried: a turn behind what it does, or the error with which it was left.
  Conditions: as each has them.
-/
namespace Go.Proofs.YtdllhiihmpinoaaGreat
set_option maxRecDepth 100000
open Go.RowKit Go.Shelf
attribute [local go_sem] Oper.semAt_some

theorem rmust_ok (W : World) : Calls Tryz.prog 76 #[.int .i64 0] W fun e w' => e = .returned (.tuple #[]) ∧ w' = W := by
  go_enter Tryz.func76, Tryz.ntmps76
  go_wp2
  go_end0
  exact ⟨rfl, rfl⟩
theorem rmust_no (x : Int) (hx : x ≠ 0) (W : World) : Calls Tryz.prog 76 #[.int .i64 x] W fun e w' => e = woe x ∧ w' = W := by
  have hq : (x != 0) = true := by rw [bne_iff_ne]; exact hx
  clear hx
  go_enter Tryz.func76, Tryz.ntmps76
  go_wp2
  exact ⟨rfl, rfl, rfl⟩

set_option maxHeartbeats 4000000 in
theorem gotR_ok (now : Int) (p1 : Option Addr) (n1 c1 : Nat) (p2 : Option Addr) (n2 c2 : Nat) (W : World) : Calls Tryz.prog 53 #[.agg #[.int .i64 now, .slice p1 n1 c1, .slice p2 n2 c2], .int .i64 0] W fun e w' => e = .returned (.agg #[.int .i64 now, .slice p1 n1 c1, .slice p2 n2 c2]) ∧ Below W.heap.size W w' := by
  obtain ⟨w0, hw0⟩ : ∃ X : World, X = (W.alloc (.cells #[.int .i64 now, .slice p1 n1 c1, .slice p2 n2 c2] 24)).alloc (.cells #[.int .i64 0, .slice none 0 0, .slice none 0 0] 24) := ⟨_, rfl⟩
  have hx : RBox w0 W.heap.size now (.slice p1 n1 c1) (.slice p2 n2 c2) := by rw [hw0]; exact (RBox.new W _ _ _ ).below (below1 _ _)
  have hz : RBox w0 (W.heap.size + 1) 0 (.slice none 0 0) (.slice none 0 0) := by
    rw [hw0]
    have := RBox.new (W.alloc (.cells #[.int .i64 now, .slice p1 n1 c1, .slice p2 n2 c2] 24)) 0 (.slice none 0 0) (.slice none 0 0)
    rwa [World.size_alloc] at this
  have hb0 : Below W.heap.size W w0 := by rw [hw0]; exact below2 _ _ _
  obtain ⟨w1, hw1⟩ : ∃ X : World, X = (((w0.setCell ⟨W.heap.size + 1, 0, none⟩ (.int .i64 now)).setCell ⟨W.heap.size + 1, 1, none⟩ (.slice p1 n1 c1)).setCell ⟨W.heap.size + 1, 2, none⟩ (.slice p2 n2 c2)) := ⟨_, rfl⟩
  have HP := Lib.hid (show RBox w1 (W.heap.size + 1) now (.slice p1 n1 c1) (.slice p2 n2 c2) ∧ Below W.heap.size W w1 from ⟨by rw [hw1]; exact hz.put now (.slice p1 n1 c1) (.slice p2 n2 c2), by rw [hw1]; exact hb0.trans ((RBox.putK w0 (W.heap.size + 1) now (.slice p1 n1 c1) (.slice p2 n2 c2)).below hb0.size (fun k e => by omega))⟩)
  obtain ⟨d0, d1, d2⟩ := hx.cells
  obtain ⟨e0, e1, e2⟩ := hz.cells
  have m0 := hz.marks 0
  have m1 := hz.marks 1
  have m2 := hz.marks 2
  have HW := Lib.hid hw1
  clear hx hz hb0 hw1
  go_enter Tryz.func53, Tryz.ntmps53
  go_wp2_with fail
  rw [← hw0]
  clear hw0
  (with_reducible refine (rmust_ok w0).mono ?_)
  rintro e w ⟨rfl, rfl⟩
  go_wp2
  rw [← HW.out]
  refine bodyPost_ret (v := .agg #[.int .i64 now, .slice p1 n1 c1, .slice p2 n2 c2]) (results_cell1 rfl _ _ _ rfl (readers_load HP.out.1)) rfl ⟨rfl, HP.out.2⟩
set_option maxHeartbeats 4000000 in
theorem gotR_no (now : Int) (p1 : Option Addr) (n1 c1 : Nat) (p2 : Option Addr) (n2 c2 : Nat) (x : Int) (hx : x ≠ 0) (W : World) : Calls Tryz.prog 53 #[.agg #[.int .i64 now, .slice p1 n1 c1, .slice p2 n2 c2], .int .i64 x] W fun e w' => e = woe x ∧ Below W.heap.size W w' := by
  have HC := Lib.hid (fun w => rmust_no x hx w)
  clear hx
  go_enter Tryz.func53, Tryz.ntmps53
  go_wp2_with fail
  (with_reducible refine (HC.out _).mono ?_)
  rintro e w ⟨rfl, rfl⟩
  exact ⟨rfl, rfl, below2 _ _ _⟩

set_option maxHeartbeats 4000000 in
theorem gotG_ok (d a : Int) (on : Bool) (p1 : Option Addr) (n1 c1 : Nat) (W : World) : Calls Tryz.prog 55 #[.agg #[.int .i64 d, .int .i64 a, .bool on, .slice p1 n1 c1], .int .i64 0] W fun e w' => e = .returned (.agg #[.int .i64 d, .int .i64 a, .bool on, .slice p1 n1 c1]) ∧ Below W.heap.size W w' := by
  obtain ⟨w0, hw0⟩ : ∃ X : World, X = (W.alloc (.cells #[.int .i64 d, .int .i64 a, .bool on, .slice p1 n1 c1] 27)).alloc (.cells #[.int .i64 0, .int .i64 0, .bool false, .slice none 0 0] 27) := ⟨_, rfl⟩
  have hx : GBox w0 W.heap.size d a on (.slice p1 n1 c1) := by rw [hw0]; exact (GBox.new W _ _ _ _ ).below (below1 _ _)
  have hz : GBox w0 (W.heap.size + 1) 0 0 false (.slice none 0 0) := by
    rw [hw0]
    have := GBox.new (W.alloc (.cells #[.int .i64 d, .int .i64 a, .bool on, .slice p1 n1 c1] 27)) 0 0 false (.slice none 0 0)
    rwa [World.size_alloc] at this
  have hb0 : Below W.heap.size W w0 := by rw [hw0]; exact below2 _ _ _
  obtain ⟨w1, hw1⟩ : ∃ X : World, X = ((((w0.setCell ⟨W.heap.size + 1, 0, none⟩ (.int .i64 d)).setCell ⟨W.heap.size + 1, 1, none⟩ (.int .i64 a)).setCell ⟨W.heap.size + 1, 2, none⟩ (.bool on)).setCell ⟨W.heap.size + 1, 3, none⟩ (.slice p1 n1 c1)) := ⟨_, rfl⟩
  have HP := Lib.hid (show GBox w1 (W.heap.size + 1) d a on (.slice p1 n1 c1) ∧ Below W.heap.size W w1 from ⟨by rw [hw1]; exact hz.put d a on (.slice p1 n1 c1), by rw [hw1]; exact hb0.trans ((GBox.putK w0 (W.heap.size + 1) d a on (.slice p1 n1 c1)).below hb0.size (fun k e => by omega))⟩)
  obtain ⟨d0, d1, d2, d3⟩ := hx.cells
  obtain ⟨e0, e1, e2, e3⟩ := hz.cells
  have m0 := hz.marks 0
  have m1 := hz.marks 1
  have m2 := hz.marks 2
  have m3 := hz.marks 3
  have HW := Lib.hid hw1
  clear hx hz hb0 hw1
  go_enter Tryz.func55, Tryz.ntmps55
  go_wp2_with fail
  rw [← hw0]
  clear hw0
  (with_reducible refine (rmust_ok w0).mono ?_)
  rintro e w ⟨rfl, rfl⟩
  go_wp2
  rw [← HW.out]
  refine bodyPost_ret (v := .agg #[.int .i64 d, .int .i64 a, .bool on, .slice p1 n1 c1]) (results_cell1 rfl _ _ _ rfl (grace_load HP.out.1)) rfl ⟨rfl, HP.out.2⟩
set_option maxHeartbeats 4000000 in
theorem gotG_no (d a : Int) (on : Bool) (p1 : Option Addr) (n1 c1 : Nat) (x : Int) (hx : x ≠ 0) (W : World) : Calls Tryz.prog 55 #[.agg #[.int .i64 d, .int .i64 a, .bool on, .slice p1 n1 c1], .int .i64 x] W fun e w' => e = woe x ∧ Below W.heap.size W w' := by
  have HC := Lib.hid (fun w => rmust_no x hx w)
  clear hx
  go_enter Tryz.func55, Tryz.ntmps55
  go_wp2_with fail
  (with_reducible refine (HC.out _).mono ?_)
  rintro e w ⟨rfl, rfl⟩
  exact ⟨rfl, rfl, below2 _ _ _⟩

set_option maxHeartbeats 4000000 in
theorem gotQ_ok (p1 : Option Addr) (n1 c1 : Nat) (o : Int) (W : World) : Calls Tryz.prog 57 #[.agg #[.slice p1 n1 c1, .int .u64 o], .int .i64 0] W fun e w' => e = .returned (.agg #[.slice p1 n1 c1, .int .u64 o]) ∧ Below W.heap.size W w' := by
  obtain ⟨w0, hw0⟩ : ∃ X : World, X = (W.alloc (.cells #[.slice p1 n1 c1, .int .u64 o] 66)).alloc (.cells #[.slice none 0 0, .int .u64 0] 66) := ⟨_, rfl⟩
  have hx : U.QBox w0 W.heap.size (.slice p1 n1 c1) o := by rw [hw0]; exact (U.QBox.new W _ _ ).below (below1 _ _)
  have hz : U.QBox w0 (W.heap.size + 1) (.slice none 0 0) 0 := by
    rw [hw0]
    have := U.QBox.new (W.alloc (.cells #[.slice p1 n1 c1, .int .u64 o] 66)) (.slice none 0 0) 0
    rwa [World.size_alloc] at this
  have hb0 : Below W.heap.size W w0 := by rw [hw0]; exact below2 _ _ _
  obtain ⟨w1, hw1⟩ : ∃ X : World, X = ((w0.setCell ⟨W.heap.size + 1, 0, none⟩ (.slice p1 n1 c1)).setCell ⟨W.heap.size + 1, 1, none⟩ (.int .u64 o)) := ⟨_, rfl⟩
  have HP := Lib.hid (show U.QBox w1 (W.heap.size + 1) (.slice p1 n1 c1) o ∧ Below W.heap.size W w1 from ⟨by rw [hw1]; exact hz.put (.slice p1 n1 c1) o, by rw [hw1]; exact hb0.trans ((U.QBox.putK w0 (W.heap.size + 1) (.slice p1 n1 c1) o).below hb0.size (fun k e => by omega))⟩)
  obtain ⟨d0, d1⟩ := hx.cells
  obtain ⟨e0, e1⟩ := hz.cells
  have m0 := hz.marks 0
  have m1 := hz.marks 1
  have HW := Lib.hid hw1
  clear hx hz hb0 hw1
  go_enter Tryz.func57, Tryz.ntmps57
  go_wp2_with fail
  rw [← hw0]
  clear hw0
  (with_reducible refine (rmust_ok w0).mono ?_)
  rintro e w ⟨rfl, rfl⟩
  go_wp2
  rw [← HW.out]
  refine bodyPost_ret (v := .agg #[.slice p1 n1 c1, .int .u64 o]) (results_cell1 rfl _ _ _ rfl (U.queue_load HP.out.1)) rfl ⟨rfl, HP.out.2⟩
set_option maxHeartbeats 4000000 in
theorem gotQ_no (p1 : Option Addr) (n1 c1 : Nat) (o : Int) (x : Int) (hx : x ≠ 0) (W : World) : Calls Tryz.prog 57 #[.agg #[.slice p1 n1 c1, .int .u64 o], .int .i64 x] W fun e w' => e = woe x ∧ Below W.heap.size W w' := by
  have HC := Lib.hid (fun w => rmust_no x hx w)
  clear hx
  go_enter Tryz.func57, Tryz.ntmps57
  go_wp2_with fail
  (with_reducible refine (HC.out _).mono ?_)
  rintro e w ⟨rfl, rfl⟩
  exact ⟨rfl, rfl, below2 _ _ _⟩

set_option maxHeartbeats 4000000 in
theorem vTried1_pan (z : Nat) (x y : Int) (older : List PanicEntry) (now : Int) (u v : Value) (d a : Int) (on : Bool) (nv qv lv : Value) (w : World) (kb : VtBox w z now u v d a on nv qv lv) (he : Boxed w (z + 1) 39 (.int .i64 y)) :
    CallsD Tryz.prog 75 #[.pointer (some ⟨z, 0, none⟩), .pointer (some ⟨z + 1, 0, none⟩)] (.panicking ({ v := .iface 39 (.int .i64 x), recovered := false } :: older)) w fun e u' w' =>
      e = .returned (.tuple #[]) ∧ u' = .panicking ({ v := .iface 39 (.int .i64 x), recovered := true } :: older) ∧ VtBox w' z 0 (.slice none 0 0) (.slice none 0 0) 0 0 false (.slice none 0 0) (.slice none 0 0) (.slice none 0 0) ∧ Boxed w' (z + 1) 39 (.int .i64 x) ∧ Keeps (fun k => k = z ∨ k = z + 1) w w' := by
  refine callsD_of_wpS Tryz.func75 rfl fun c₀ cs hu => ?_
  apply wpS_seq
  apply wpS_region
  simp [wpOpsS, go_sem, recoverD, hu, Tryz.ntmps75, Exit.thenS]
  refine wpS_of_wp ?_
  have hne : ∀ w, (binOp .neq 20 (.iface 39 (.int .i64 x)) .nilIface).run Tryz.prog w = .ok (.bool true) w := fun w => by kernel_rfl
  have hta : ∀ w, (Instr.typeAssert (.iface 39 (.int .i64 x)) 20 39 false).run Tryz.prog w = .ok (.int .i64 x) w := fun w => by kernel_rfl
  have hbl : ∀ w, (Instr.build 91 #[]).run Tryz.prog w = .ok (.agg #[.int .i64 0, .slice none 0 0, .slice none 0 0, .int .i64 0, .int .i64 0, .bool false, .slice none 0 0, .slice none 0 0, .slice none 0 0]) w := fun w => by kernel_rfl
  obtain ⟨d0, d1, d2, d3, d4, d5, d6, d7, d8⟩ := kb.cells
  have e0 := he.cell
  have m0 := kb.marks 0
  have m1 := kb.marks 1
  have m2 := kb.marks 2
  have m3 := kb.marks 3
  have m4 := kb.marks 4
  have m5 := kb.marks 5
  have m6 := kb.marks 6
  have m7 := kb.marks 7
  have m8 := kb.marks 8
  have f0 := he.frozen
  change Code.wp _ _ _ { tmps := #[.pointer (some ⟨z, 0, none⟩), .pointer (some ⟨z + 1, 0, none⟩), .iface 39 (.int .i64 x), .iface 39 (.int .i64 x), undef, undef, undef, undef, undef], defers := [] } w
  have hT := kb.putAll 0 (.slice none 0 0) (.slice none 0 0) 0 0 false (.slice none 0 0) (.slice none 0 0) (.slice none 0 0)
  have hK : Keeps (fun k => k = z) w (((((((((w.setCell ⟨z, 0, none⟩ (.int .i64 0)).setCell ⟨z, 1, none⟩ (.slice none 0 0)).setCell ⟨z, 2, none⟩ (.slice none 0 0)).setCell ⟨z, 3, none⟩ (.int .i64 0)).setCell ⟨z, 4, none⟩ (.int .i64 0)).setCell ⟨z, 5, none⟩ (.bool false)).setCell ⟨z, 6, none⟩ (.slice none 0 0)).setCell ⟨z, 7, none⟩ (.slice none 0 0)).setCell ⟨z, 8, none⟩ (.slice none 0 0)) :=
    VtBox.putAllK w z 0 (.slice none 0 0) (.slice none 0 0) 0 0 false (.slice none 0 0) (.slice none 0 0) (.slice none 0 0)
  obtain ⟨w1, hw1⟩ : ∃ X : World, X = (((((((((w.setCell ⟨z, 0, none⟩ (.int .i64 0)).setCell ⟨z, 1, none⟩ (.slice none 0 0)).setCell ⟨z, 2, none⟩ (.slice none 0 0)).setCell ⟨z, 3, none⟩ (.int .i64 0)).setCell ⟨z, 4, none⟩ (.int .i64 0)).setCell ⟨z, 5, none⟩ (.bool false)).setCell ⟨z, 6, none⟩ (.slice none 0 0)).setCell ⟨z, 7, none⟩ (.slice none 0 0)).setCell ⟨z, 8, none⟩ (.slice none 0 0)) := ⟨_, rfl⟩
  rw [← hw1] at hT hK
  have hE : Boxed w1 (z + 1) 39 (.int .i64 y) := (hK.block (z + 1) he.lt (by omega)).trans he
  have HF := Lib.hid (show VtBox (w1.setCell ⟨z + 1, 0, none⟩ (.int .i64 x)) z 0 (.slice none 0 0) (.slice none 0 0) 0 0 false (.slice none 0 0) (.slice none 0 0) (.slice none 0 0) ∧ Boxed (w1.setCell ⟨z + 1, 0, none⟩ (.int .i64 x)) (z + 1) 39 (.int .i64 x) ∧ Keeps (fun k => k = z ∨ k = z + 1) w (w1.setCell ⟨z + 1, 0, none⟩ (.int .i64 x)) from
    ⟨hT.keeps (setK w1 (z + 1) 0 (.int .i64 x)) (by omega), hE.set _, (hK.sub (fun _ _ h => .inl h)).trans ((setK w1 (z + 1) 0 (.int .i64 x)).sub (fun _ _ h => .inr h))⟩)
  have HW1 := Lib.hid hw1
  clear hT hK hE hw1 kb he
  go_wp2
  go_region
  rw [← HW1.out]
  refine ⟨rfl, _, rfl, .tuple #[], results_none rfl _ _ _, rfl, rfl, ?_⟩
  exact ⟨HF.out.1.keeps (S := fun _ => False) ((Keeps.refl _ _).drewN 1) id, HF.out.2.1, HF.out.2.2.drewN 1⟩

set_option maxHeartbeats 4000000 in
theorem vTried1_ret (z : Nat) (w : World) :
    CallsD Tryz.prog 75 #[.pointer (some ⟨z, 0, none⟩), .pointer (some ⟨z + 1, 0, none⟩)] .returning w fun e u' w' => e = .returned (.tuple #[]) ∧ u' = .returning ∧ w' = w := by
  refine callsD_of_wpS Tryz.func75 rfl fun c₀ cs hu => ?_
  apply wpS_seq
  apply wpS_region
  simp [wpOpsS, go_sem, recoverD, hu, Tryz.ntmps75, Exit.thenS]
  refine wpS_of_wp ?_
  have hne : ∀ w, (binOp .neq 20 .nilIface .nilIface).run Tryz.prog w = .ok (.bool false) w := fun w => by kernel_rfl
  change Code.wp _ _ _ { tmps := #[.pointer (some ⟨z, 0, none⟩), .pointer (some ⟨z + 1, 0, none⟩), .nilIface, .nilIface, undef, undef, undef, undef, undef], defers := [] } w
  go_wp2
  refine ⟨rfl, _, ?_, .tuple #[], results_none rfl _ _ _, rfl, rfl, rfl⟩
  rw [← hu]

/-- The worlds with which tried begins. -/
def vWT (W : World) : World := (W.alloc (.cells #[.int .i64 0, .slice none 0 0, .slice none 0 0, .int .i64 0, .int .i64 0, .bool false, .slice none 0 0, .slice none 0 0, .slice none 0 0] 91)).alloc (.cells #[.int .i64 0] 39)
theorem vWT_facts (W : World) : VtBox (vWT W) W.heap.size 0 (.slice none 0 0) (.slice none 0 0) 0 0 false (.slice none 0 0) (.slice none 0 0) (.slice none 0 0) ∧ Boxed (vWT W) (W.heap.size + 1) 39 (.int .i64 0) ∧ Below W.heap.size W (vWT W) ∧ (vWT W).heap.size = W.heap.size + 2 := by
  refine ⟨(VtBox.new W _ _ _ _ _ _ _ _ _).below (below1 _ _), ?_, below2 _ _ _, by unfold vWT; simp⟩
  have := Boxed.new (W.alloc (.cells #[.int .i64 0, .slice none 0 0, .slice none 0 0, .int .i64 0, .int .i64 0, .bool false, .slice none 0 0, .slice none 0 0, .slice none 0 0] 91)) 39 (.int .i64 0)
  rwa [World.size_alloc] at this
/-- An empty turn. -/
def vZeroT : Value := .agg #[.int .i64 0, .slice none 0 0, .slice none 0 0, .int .i64 0, .int .i64 0, .bool false, .slice none 0 0, .slice none 0 0, .slice none 0 0]

set_option maxHeartbeats 8000000 in
theorem vTried_K (K : Nat) (caps : Array Value) (W : World) (hcf : ∀ (args : Array Value) (w : World), (callFunc K args).run Tryz.prog w = .ok (.enter K args) w) (R : Value → Int → World → Prop)
    (hdo : Calls Tryz.prog K (#[.pointer (some ⟨W.heap.size, 0, none⟩)] ++ caps) (vWT W) fun e w' => Below W.heap.size W w' ∧ ∃ now u v d a on nv qv lv, VtBox w' W.heap.size now u v d a on nv qv lv ∧ (IsSl u ∧ IsSl v ∧ IsSl nv ∧ IsSl qv ∧ IsSl lv) ∧ Boxed w' (W.heap.size + 1) 39 (.int .i64 0) ∧
      ((∃ x, e = woe x ∧ ∀ X, Keeps (fun k => k = W.heap.size ∨ k = W.heap.size + 1) w' X → R vZeroT x X) ∨
       (e = .returned (.tuple #[]) ∧ ∀ X, Keeps (fun k => k = W.heap.size ∨ k = W.heap.size + 1) w' X → R (.agg #[.int .i64 now, u, v, .int .i64 d, .int .i64 a, .bool on, nv, qv, lv]) 0 X))) :
    Calls Tryz.prog 43 #[.func (.func K) #[] caps] W fun e w' => (∃ t x, e = .returned (.tuple #[t, .int .i64 x]) ∧ R t x w') ∧ Below W.heap.size W w' := by
  have hmf : ∀ (fn : Fn) (first cap : Array Value) (w : World), (Instr.makeFunc fn first cap).run Tryz.prog w = .ok (.func fn first cap) w := fun _ _ _ _ => rfl
  have HF := Lib.hid (vWT_facts W)
  obtain ⟨w0, hw0⟩ : ∃ X, X = vWT W := ⟨_, rfl⟩
  rw [← hw0] at HF hdo
  have HD := Lib.hid hdo
  clear hdo
  unfold vWT at hw0
  go_enter_defers Tryz.func43, Tryz.ntmps43
  go_wp2_with fail
  rw [← hw0]
  clear hw0
  (with_reducible refine HD.out.mono ?_)
  rintro e w1 ⟨hb, now, u, v, d, a, on, nv, qv, lv, kb, hsl, he, ⟨x, rfl, hR⟩ | ⟨rfl, hR⟩⟩
  · unfold woe
    refine leaves_cons (f := 75) (args := #[.pointer (some ⟨W.heap.size, 0, none⟩), .pointer (some ⟨W.heap.size + 1, 0, none⟩)]) (by simp) (by simp [go_sem]) ?_
    refine (vTried1_pan W.heap.size x 0 [] now u v d a on nv qv lv w1 kb he).mono ?_
    rintro e u' w2 ⟨rfl, rfl, ht, he2, hk⟩
    have hr := results_cell2 (fn := Tryz.f43) rfl #[Value.func (Fn.func K) #[] caps, undef, Value.pointer (some { block := W.heap.size, off := 0 }), Value.pointer (some { block := W.heap.size + 1, off := 0 }), Value.func (Fn.func 75) #[] #[Value.pointer (some { block := W.heap.size, off := 0 }), Value.pointer (some { block := W.heap.size + 1, off := 0 })], Value.func (Fn.func K) #[] caps, undef, undef] Tryz.prog w2 rfl rfl (VtBox.load ht) (errno_load he2)
    simp [Leaves, settle, hr]
    exact ⟨⟨_, _, ⟨rfl, rfl⟩, hR w2 hk⟩, hb.trans (hk.below hb.size (fun k e => by omega))⟩
  · have HR := Lib.hid hR
    have HB := Lib.hid hb
    obtain ⟨d0, d1, d2, d3, d4, d5, d6, d7, d8⟩ := kb.cells
    have m0 := kb.marks 0
    have m1 := kb.marks 1
    have m2 := kb.marks 2
    have m3 := kb.marks 3
    have m4 := kb.marks 4
    have m5 := kb.marks 5
    have m6 := kb.marks 6
    have m7 := kb.marks 7
    have m8 := kb.marks 8
    have e0 := he.cell
    have f0 := he.frozen
    have HKB := Lib.hid (And.intro kb he)
    have HS := Lib.hid (show VtBox (((((((((w1.setCell ⟨W.heap.size, 0, none⟩ (.int .i64 now)).setCell ⟨W.heap.size, 1, none⟩ u).setCell ⟨W.heap.size, 2, none⟩ v).setCell ⟨W.heap.size, 3, none⟩ (.int .i64 d)).setCell ⟨W.heap.size, 4, none⟩ (.int .i64 a)).setCell ⟨W.heap.size, 5, none⟩ (.bool on)).setCell ⟨W.heap.size, 6, none⟩ nv).setCell ⟨W.heap.size, 7, none⟩ qv).setCell ⟨W.heap.size, 8, none⟩ lv) W.heap.size now u v d a on nv qv lv ∧ Keeps (fun k => k = W.heap.size) w1 (((((((((w1.setCell ⟨W.heap.size, 0, none⟩ (.int .i64 now)).setCell ⟨W.heap.size, 1, none⟩ u).setCell ⟨W.heap.size, 2, none⟩ v).setCell ⟨W.heap.size, 3, none⟩ (.int .i64 d)).setCell ⟨W.heap.size, 4, none⟩ (.int .i64 a)).setCell ⟨W.heap.size, 5, none⟩ (.bool on)).setCell ⟨W.heap.size, 6, none⟩ nv).setCell ⟨W.heap.size, 7, none⟩ qv).setCell ⟨W.heap.size, 8, none⟩ lv) from
      ⟨kb.putAll now u v d a on nv qv lv, VtBox.putAllK w1 W.heap.size now u v d a on nv qv lv⟩)
    clear hR hb kb he
    obtain ⟨⟨pu, nu, cu, rfl⟩, ⟨pv, nv', cv, rfl⟩, ⟨pn, nn, cn, rfl⟩, ⟨pq, nq, cq, rfl⟩, ⟨pl, nl, cl, rfl⟩⟩ := hsl
    obtain ⟨w2, hw2⟩ : ∃ X : World, X = (((((((((w1.setCell ⟨W.heap.size, 0, none⟩ (.int .i64 now)).setCell ⟨W.heap.size, 1, none⟩ (.slice pu nu cu)).setCell ⟨W.heap.size, 2, none⟩ (.slice pv nv' cv)).setCell ⟨W.heap.size, 3, none⟩ (.int .i64 d)).setCell ⟨W.heap.size, 4, none⟩ (.int .i64 a)).setCell ⟨W.heap.size, 5, none⟩ (.bool on)).setCell ⟨W.heap.size, 6, none⟩ (.slice pn nn cn)).setCell ⟨W.heap.size, 7, none⟩ (.slice pq nq cq)).setCell ⟨W.heap.size, 8, none⟩ (.slice pl nl cl)) := ⟨_, rfl⟩
    rw [← hw2] at HS
    have hE : Boxed w2 (W.heap.size + 1) 39 (.int .i64 0) := (HS.out.2.block _ HKB.out.2.lt (by omega)).trans HKB.out.2
    have HT := Lib.hid (show VtBox (w2.setCell ⟨W.heap.size + 1, 0, none⟩ (.int .i64 0)) W.heap.size now (.slice pu nu cu) (.slice pv nv' cv) d a on (.slice pn nn cn) (.slice pq nq cq) (.slice pl nl cl) ∧ Boxed (w2.setCell ⟨W.heap.size + 1, 0, none⟩ (.int .i64 0)) (W.heap.size + 1) 39 (.int .i64 0) ∧ Keeps (fun k => k = W.heap.size ∨ k = W.heap.size + 1) w1 (w2.setCell ⟨W.heap.size + 1, 0, none⟩ (.int .i64 0)) from
      ⟨HS.out.1.keeps (setK w2 (W.heap.size + 1) 0 (.int .i64 0)) (by omega), hE.set _, (HS.out.2.sub (fun _ _ h => .inl h)).trans ((setK w2 (W.heap.size + 1) 0 (.int .i64 0)).sub (fun _ _ h => .inr h))⟩)
    rw [hw2] at HT
    have HW2 := Lib.hid hw2
    clear hE hw2
    go_wp2
    rw [← HW2.out]
    rw [← HW2.out] at HT
    refine leaves_cons (f := 75) (args := #[.pointer (some ⟨W.heap.size, 0, none⟩), .pointer (some ⟨W.heap.size + 1, 0, none⟩)]) (by simp) (by simp [go_sem]) ?_
    refine (vTried1_ret W.heap.size _).mono ?_
    rintro e u' w3 ⟨rfl, rfl, rfl⟩
    have hr := results_cell2 (fn := Tryz.f43) rfl #[Value.func (Fn.func K) #[] caps, undef, Value.pointer (some { block := W.heap.size, off := 0 }), Value.pointer (some { block := W.heap.size + 1, off := 0 }), Value.func (Fn.func 75) #[] #[Value.pointer (some { block := W.heap.size, off := 0 }), Value.pointer (some { block := W.heap.size + 1, off := 0 })], Value.func (Fn.func K) #[] caps, Value.tuple #[], .agg #[.int .i64 now, .slice pu nu cu, .slice pv nv' cv, .int .i64 d, .int .i64 a, .bool on, .slice pn nn cn, .slice pq nq cq, .slice pl nl cl]] Tryz.prog _ rfl rfl (VtBox.load HT.out.1) (errno_load HT.out.2.1)
    simp [Leaves, settle, hr]
    exact ⟨⟨_, _, ⟨rfl, rfl⟩, HR.out _ HT.out.2.2⟩, HB.out.trans (HT.out.2.2.below HB.out.size (fun k e => by omega))⟩

end Go.Proofs.YtdllhiihmpinoaaGreat
/-
  Package grace: Play.
  Conditions: the ranges of Go's types.
-/
namespace Go.Proofs.YtdllhiihmpinoaaGreat
set_option maxRecDepth 100000
open Go.RowKit Go.Shelf
attribute [local go_sem] Oper.semAt_some

/-- Four results, two of them out of cells. -/
theorem results_cctt {fn : Func} {a b c d : Tmp} {t u : TypeId} (h : fn.results = #[.cell a t, .cell b u, .tmp c, .tmp d]) (tmps : Array Value) (P : Program) (w : World) {p q : Addr} {x y v v' : Value} (ha : tmps.getD a undef = .pointer (some p)) (hb : tmps.getD b undef = .pointer (some q)) (hc : tmps.getD c undef = v) (hd : tmps.getD d undef = v')
    (hx : (loadVar t p).run P w = .ok x w) (hy : (loadVar u q).run P w = .ok y w) : (results fn tmps).run P w = .ok (.tuple #[x, y, v, v']) w := by
  unfold results
  rw [h]
  simp only [Array.mapM_eq_foldlM, List.foldlM_toArray, List.foldlM_cons, List.foldlM_nil, ha, hb, hc, hd, asAddr, run_fmap, Sem.run_bind, Sem.run_pure, Result.andThen_ok, hx, hy]
  rfl

def playW (W : World) (now : Int) (u v : Value) (d a : Int) (on : Bool) (nv tv : Value) : World := ((((W.alloc (.cells #[.int .i64 now, u, v] 24)).alloc (.cells #[.int .i64 d, .int .i64 a, .bool on, nv] 27)).alloc (.cells #[tv] 157)).alloc (.cells #[.int .i64 0, .slice none 0 0, .slice none 0 0] 24)).alloc (.cells #[.int .i64 0, .int .i64 0, .bool false, .slice none 0 0] 27)
theorem playW_facts (W : World) (now : Int) (u v : Value) (d a : Int) (on : Bool) (nv tv : Value) : RBox (playW W now u v d a on nv tv) W.heap.size now u v ∧ GBox (playW W now u v d a on nv tv) (W.heap.size + 1) d a on nv ∧ Boxed (playW W now u v d a on nv tv) (W.heap.size + 2) 157 tv ∧ RBox (playW W now u v d a on nv tv) (W.heap.size + 3) 0 (.slice none 0 0) (.slice none 0 0) ∧ GBox (playW W now u v d a on nv tv) (W.heap.size + 4) 0 0 false (.slice none 0 0) ∧ Below W.heap.size W (playW W now u v d a on nv tv) ∧ (playW W now u v d a on nv tv).heap.size = W.heap.size + 5 := by
  unfold playW
  obtain ⟨w1, h1⟩ : ∃ w1, w1 = W.alloc (.cells #[.int .i64 now, u, v] 24) := ⟨_, rfl⟩
  obtain ⟨w2, h2⟩ : ∃ w2, w2 = w1.alloc (.cells #[.int .i64 d, .int .i64 a, .bool on, nv] 27) := ⟨_, rfl⟩
  obtain ⟨w3, h3⟩ : ∃ w3, w3 = w2.alloc (.cells #[tv] 157) := ⟨_, rfl⟩
  obtain ⟨w4, h4⟩ : ∃ w4, w4 = w3.alloc (.cells #[.int .i64 0, .slice none 0 0, .slice none 0 0] 24) := ⟨_, rfl⟩
  obtain ⟨w5, h5⟩ : ∃ w5, w5 = w4.alloc (.cells #[.int .i64 0, .int .i64 0, .bool false, .slice none 0 0] 27) := ⟨_, rfl⟩
  rw [← h1, ← h2, ← h3, ← h4, ← h5]
  have s1 : w1.heap.size = W.heap.size + 1 := by rw [h1]; simp
  have s2 : w2.heap.size = W.heap.size + 2 := by rw [h2, World.size_alloc, s1]
  have s3 : w3.heap.size = W.heap.size + 3 := by rw [h3, World.size_alloc, s2]
  have s4 : w4.heap.size = W.heap.size + 4 := by rw [h4, World.size_alloc, s3]
  have s5 : w5.heap.size = W.heap.size + 5 := by rw [h5, World.size_alloc, s4]
  have b1 : Below W.heap.size W w1 := by rw [h1]; exact below1 _ _
  have b2 : Below w1.heap.size w1 w2 := by rw [h2]; exact below1 _ _
  have b3 : Below w2.heap.size w2 w3 := by rw [h3]; exact below1 _ _
  have b4 : Below w3.heap.size w3 w4 := by rw [h4]; exact below1 _ _
  have b5 : Below w4.heap.size w4 w5 := by rw [h5]; exact below1 _ _
  have c1 : RBox w1 W.heap.size now u v := by rw [h1]; exact RBox.new _ _ _ _
  have c2 : GBox w2 w1.heap.size d a on nv := by rw [h2]; exact GBox.new _ _ _ _ _
  have c3 : Boxed w3 w2.heap.size 157 tv := by rw [h3]; exact Boxed.new _ _ _
  have c4 : RBox w4 w3.heap.size 0 (.slice none 0 0) (.slice none 0 0) := by rw [h4]; exact RBox.new _ _ _ _
  have c5 : GBox w5 w4.heap.size 0 0 false (.slice none 0 0) := by rw [h5]; exact GBox.new _ _ _ _ _
  rw [s1] at c2
  rw [s2] at c3
  rw [s3] at c4
  rw [s4] at c5
  exact ⟨(((c1.below b2).below b3).below b4).below b5, ((c2.below b3).below b4).below b5, boxed_under (boxed_under c3 b4) b5, c4.below b5, c5, below_then (below_then (below_then (below_then b1 b1.size b2) (b1.trans (b2.mono b1.size)).size b3) ((b1.trans (b2.mono b1.size)).trans (b3.mono (b1.trans (b2.mono b1.size)).size)).size b4) (by omega) b5, s5⟩

end Go.Proofs.YtdllhiihmpinoaaGreat
/-
  Package grace: Play without ticks: readers and a grace that may be, in new memory.
  Conditions: the ranges of Go's types.
-/
namespace Go.Proofs.YtdllhiihmpinoaaGreat
set_option maxRecDepth 100000
open Go.RowKit Go.Shelf
attribute [local go_sem] Oper.semAt_some

set_option maxHeartbeats 8000000 in
theorem ticks0_c (z : Nat) (W : World) : Calls Tryz.prog 117 #[.pointer (some ⟨z, 0, none⟩), .slice none 0 0] W fun e w' => e = .returned (.tuple #[]) ∧ Below W.heap.size W w' := by
  go_enter Tryz.func117, Tryz.ntmps117
  go_wp2_with fail
  (with_reducible refine (deeds_c W).mono ?_)
  rintro e w1 ⟨rfl, hb1⟩
  unfold deedsV
  obtain ⟨w2, hw2⟩ : ∃ X : World, X = w1.alloc (.cells #[.nilFunc, .func (.func 155) #[] #[], .func (.func 156) #[] #[], .func (.func 157) #[] #[], .func (.func 158) #[] #[]] 182) := ⟨_, rfl⟩
  have hb2 : Below w1.heap.size w1 w2 := by rw [hw2]; exact below1 _ _
  have HB2 := Lib.hid (below_then hb1 hb1.size hb2)
  have HW2 := Lib.hid hw2
  clear hw2 hb1 hb2
  go_upto_region 1 with fail
  rw [← HW2.out]
  clear HW2
  go_wp2
  go_loopw [10] (fun iv wr => iv = .int .i64 0 ∧ Hid (Below W.heap.size W wr)) (fun _ _ => 0)
  case atStart => exact ⟨rfl, HB2⟩
  case round =>
    obtain ⟨rfl, HB⟩ := hrel
    go_wp2
    go_end0
    exact ⟨rfl, HB.out⟩

/-- What Play has made of both. -/
structure Two0 (B : Nat) (s : RdS) (g : GrS) (n gb hb nb : Nat) (X : World) : Prop where
  nest : IBlock X gb s.ns
  opened : IBlock X hb s.os
  needs : BBlock X nb g.nd
  h1 : B ≤ gb
  h2 : B ≤ hb
  h3 : B ≤ nb
  len : s.ns.length = n ∧ s.os.length = n ∧ g.nd.length = n
theorem Two0.keeps {S : Nat → Prop} {B : Nat} {s : RdS} {g : GrS} {n gb hb nb : Nat} {X Y : World} (h : Two0 B s g n gb hb nb X) (hk : Keeps S X Y) (hS : ∀ T cs f, (∃ k, S k ∧ X.heap[k]? = some (.cells cs T f)) → T ≠ 3 ∧ T ≠ 4) : Two0 B s g n gb hb nb Y :=
  ⟨h.nest.keeps hk (fun e => (hS _ _ _ ⟨_, e, h.nest⟩).1 rfl), h.opened.keeps hk (fun e => (hS _ _ _ ⟨_, e, h.opened⟩).1 rfl), h.needs.keeps hk (fun e => (hS _ _ _ ⟨_, e, h.needs⟩).2 rfl), h.h1, h.h2, h.h3, h.len⟩
theorem Two0.keep1 {B : Nat} {s : RdS} {g : GrS} {n gb hb nb z : Nat} {X Y : World} {cs : Array Value} {T : TypeId} {f : Nat × Nat} (h : Two0 B s g n gb hb nb X) (hk : Keeps (fun k => k = z) X Y) (hz : X.heap[z]? = some (.cells cs T f)) (hT : T ≠ 3 ∧ T ≠ 4) : Two0 B s g n gb hb nb Y :=
  h.keeps hk (fun T' cs' f' ⟨k, e, hx⟩ => by subst e; rw [hz] at hx; injection hx with hx; injection hx with _ hx _; rw [← hx]; exact hT)
theorem Two0.mono {B B' : Nat} {s : RdS} {g : GrS} {n gb hb nb : Nat} {X : World} (h : Two0 B s g n gb hb nb X) (hB : B' ≤ B) : Two0 B' s g n gb hb nb X := ⟨h.nest, h.opened, h.needs, Nat.le_trans hB h.h1, Nat.le_trans hB h.h2, Nat.le_trans hB h.h3, h.len⟩
theorem Two0.below {B : Nat} {s : RdS} {g : GrS} {n gb hb nb : Nat} {X Y : World} (h : Two0 B s g n gb hb nb X) (hb' : Below X.heap.size X Y) : Two0 B s g n gb hb nb Y := ⟨h.nest.below hb', h.opened.below hb', h.needs.below hb', h.h1, h.h2, h.h3, h.len⟩

set_option maxHeartbeats 16000000 in
theorem play01_c (z rb gb lb : Nat) (s : RdS) (u v : Value) (g : GrS) (nv : Value) (n : Nat) (W : World) (kb : TBox W z 0 nilV nilV 0 0 false nilV nilV) (hz2 : z + 2 = W.heap.size)
    (hrb : RBox W rb s.now u v) (hgb : GBox W gb g.done g.asked g.on nv) (hlb : Boxed W lb 157 nilV) (hrz : rb < z) (hgz : gb < z) (hlz : lb < z)
    (hn : NumsAt W .i64 u s.ns) (ho : NumsAt W .i64 v s.os) (hgood : Good s) (hmg : mayG g = true) (hl1 : s.ns.length = n) (hl2 : g.nd.length = n)
    (hv : BoolsAt W nv g.nd) (hzv : ∀ b off n c, nv = .slice (some ⟨b, off, none⟩) n c → b < z) :
    Calls Tryz.prog 114 #[.pointer (some ⟨z, 0, none⟩), .pointer (some ⟨rb, 0, none⟩), .pointer (some ⟨gb, 0, none⟩), .pointer (some ⟨lb, 0, none⟩)] W fun e w' => e = .returned (.tuple #[]) ∧ Keeps (fun k => k = z) W w' ∧ ∃ b1 b2 nb, TBox w' z s.now (rowV b1 n) (rowV b2 n) g.done g.asked g.on (rowV nb n) nilV ∧ Two0 (z + 2) s g n b1 b2 nb w' := by
  have hlo := hgood.lo
  obtain ⟨d0, d1, d2⟩ := hrb.cells
  have HZ := Lib.hid (show rb < z ∧ gb < z ∧ lb < z ∧ z + 2 = W.heap.size from ⟨hrz, hgz, hlz, hz2⟩)
  have HBX := Lib.hid (show GBox W gb g.done g.asked g.on nv ∧ Boxed W lb 157 nilV from ⟨hgb, hlb⟩)
  have HNV := Lib.hid (And.intro hv (And.intro hzv hmg))
  have HLN := Lib.hid (show s.ns.length = n ∧ s.os.length = n ∧ g.nd.length = n from ⟨hl1, by omega, hl2⟩)
  have HC := Lib.hid (pread_ok z 0 nilV nilV 0 0 false nilV nilV s u v W kb hn ho hgood)
  rw [hl1] at HC
  obtain ⟨p, c, rfl, -⟩ := hn
  obtain ⟨p2, c2, rfl, -⟩ := ho
  obtain ⟨pn, cn, rfl, -⟩ := id hv
  rw [hl1] at d1 HC
  rw [hlo, hl1] at d2 HC
  rw [hl2] at hgb HBX HNV
  clear hv hzv kb hz2 hrz hgz hlz hgb hlb hrb hgood hmg hlo hl1 hl2
  go_enter Tryz.func114, Tryz.ntmps114
  go_wp2_with fail
  (with_reducible refine HC.out.mono ?_)
  rintro e w1 ⟨rfl, b1, b2, hT, hI, hJ, hg1, hg2, hk⟩
  have hgz : GBox w1 gb g.done g.asked g.on (.slice pn n cn) := HBX.out.1.keeps hk (by have := HZ.out; omega)
  have hlz : Boxed w1 lb 157 nilV := (hk.block lb HBX.out.2.lt (by have := HZ.out; omega)).trans HBX.out.2
  have HV1 := Lib.hid (show BoolsAt w1 (.slice pn n cn) g.nd from by
    obtain ⟨q, cap, e, hc⟩ := HNV.out.1
    injection e with e1 e2 e3
    subst e1 e3
    refine ⟨pn, cn, by rw [e2], fun hne => ?_⟩
    obtain ⟨b, off, rfl, hcs⟩ := hc hne
    have := HNV.out.2.1 b off _ _ rfl
    exact ⟨b, off, rfl, fun i hi => hk.cell (hcs i hi) (by show ¬ b = z; omega)⟩)
  have HT1 := Lib.hid (show TBox w1 z s.now (rowV b1 n) (rowV b2 n) 0 0 false nilV nilV ∧ IBlock w1 b1 s.ns ∧ IBlock w1 b2 s.os ∧ W.heap.size ≤ b1 ∧ W.heap.size ≤ b2 ∧ Keeps (fun k => k = z) W w1 ∧ Boxed w1 lb 157 nilV from ⟨hT, hI, hJ, hg1, hg2, hk, hlz⟩)
  obtain ⟨e0, e1, e2, e3⟩ := hgz.cells
  have HC := Lib.hid (ghold_ok z (z + 2) s.now (rowV b1 n) (rowV b2 n) 0 0 false nilV nilV [] g _ w1 HV1.out (mayG_facts HNV.out.2.2).2.1 HNV.out.2.2 HT1.out.1 (World.ownsRow_nil _ _ _ _))
  clear hT hI hJ hg1 hg2 hk hlz hgz d0 d1 d2
  go_wp2_with fail
  (with_reducible refine HC.out.mono ?_)
  rintro e w2 ⟨rfl, nb, k2, hk2, hnb⟩
  have hbx := k2.box
  rw [HLN.out.2.2] at hbx
  have HT2 := Lib.hid (show TBox w2 z s.now (rowV b1 n) (rowV b2 n) g.done g.asked g.on (rowV nb n) nilV ∧ Two0 (z + 2) s g n b1 b2 nb w2 ∧ Keeps (fun k => k = z) W w2 ∧ Boxed w2 lb 157 nilV from by
    obtain ⟨g1, g2, g3, g4, g5, g6, g7⟩ := HT1.out
    have hz := HZ.out
    exact ⟨hbx, ⟨g2.keeps hk2 (by omega), g3.keeps hk2 (by omega), k2.needs, by omega, by omega, by have := g6.size; omega, HLN.out⟩, g6.trans hk2, (hk2.block lb g7.lt (by omega)).trans g7⟩)
  obtain ⟨d0, d1, d2, d3, d4, d5, d6, d7⟩ := hbx.cells
  unfold rowV at d1 d2
  have el := HT2.out.2.2.2.cell
  have hq : ((n : Int) != (n : Int)) = false := by rw [bne_eq_false_iff_eq]
  clear hbx k2 hk2 hnb HC e0 e1 e2 e3 HBX HV1
  go_wp2
  go_quiet (fail)
  rename_i nq
  have HC := Lib.hid (ticks0_c z (w2.drewN nq))
  unfold nilV at el
  go_wp2_with fail
  (with_reducible refine HC.out.mono ?_)
  rintro e w3 ⟨rfl, hb3⟩
  have hbq := below_then (below_drewN (Below.refl w2.heap.size w2) nq) (below_drewN (Below.refl w2.heap.size w2) nq).size hb3
  have HR := Lib.hid (show Keeps (fun k => k = z) W w3 ∧ TBox w3 z s.now (rowV b1 n) (rowV b2 n) g.done g.asked g.on (rowV nb n) nilV ∧ Two0 (z + 2) s g n b1 b2 nb w3 from ⟨HT2.out.2.2.1.trans (Keeps.of_below hbq), HT2.out.1.below hbq, HT2.out.2.1.below hbq⟩)
  clear hb3 hbq
  go_wp2
  go_end0
  exact ⟨rfl, HR.out.1, _, _, _, HR.out.2.1, HR.out.2.2⟩

/-- What Play answers. -/
def Play0Q (B : Nat) (s : RdS) (g : GrS) (n : Nat) (e : Ending) (w' : World) : Prop := ∃ gb hb nb, e = .returned (.tuple #[.agg #[.int .i64 s.now, .slice (some ⟨gb, 0, none⟩) n n, .slice (some ⟨hb, 0, none⟩) n n], .agg #[.int .i64 g.done, .int .i64 g.asked, .bool g.on, .slice (some ⟨nb, 0, none⟩) n n], .slice none 0 0, .int .i64 0]) ∧ Two0 B s g n gb hb nb w'

set_option maxHeartbeats 16000000 in
theorem gPlay0_c (s : RdS) (u v : Value) (g : GrS) (nv : Value) (n : Nat) (W : World)
    (hn : NumsAt W .i64 u s.ns) (ho : NumsAt W .i64 v s.os) (hgood : Good s) (hmg : mayG g = true) (hl1 : s.ns.length = n) (hl2 : g.nd.length = n)
    (hv : BoolsAt W nv g.nd) (hnz : ∀ b off n c, nv = .slice (some ⟨b, off, none⟩) n c → b < W.heap.size) :
    Calls Tryz.prog 77 #[.agg #[.int .i64 s.now, u, v], .agg #[.int .i64 g.done, .int .i64 g.asked, .bool g.on, nv], .slice none 0 0] W fun e w' => Play0Q W.heap.size s g n e w' ∧ Below W.heap.size W w' := by
  have hmf : ∀ (fn : Fn) (first cap : Array Value) (w : World), (Instr.makeFunc fn first cap).run Tryz.prog w = .ok (.func fn first cap) w := fun _ _ _ _ => rfl
  obtain ⟨w0, hw0⟩ : ∃ X : World, X = playW W s.now u v g.done g.asked g.on nv (.slice none 0 0) := ⟨_, rfl⟩
  have HF := Lib.hid (playW_facts W s.now u v g.done g.asked g.on nv (.slice none 0 0))
  rw [← hw0] at HF
  have hB0 := HF.out.2.2.2.2.2.1
  have HT := Lib.hid (show Calls Tryz.prog 113 #[.func (.func 114) #[] #[.pointer (some ⟨W.heap.size, 0, none⟩), .pointer (some ⟨W.heap.size + 1, 0, none⟩), .pointer (some ⟨W.heap.size + 2, 0, none⟩)]] w0 fun e w' => (∃ t x, e = .returned (.tuple #[t, .int .i64 x]) ∧ x = 0 ∧ ∃ gb hb nb, t = .agg #[.int .i64 s.now, rowV gb n, rowV hb n, .int .i64 g.done, .int .i64 g.asked, .bool g.on, rowV nb n, nilV] ∧ Two0 (w0.heap.size + 2) s g n gb hb nb w') ∧ Below w0.heap.size w0 w' from by
    obtain ⟨f1, f2, f3, f4⟩ := wT_facts w0
    have hs0 := HF.out.2.2.2.2.2.2
    have hbb := below_then hB0 hB0.size f3
    refine tried_K 114 _ w0 (fun _ _ => rfl) (fun t x w' => x = 0 ∧ ∃ gb hb nb, t = .agg #[.int .i64 s.now, rowV gb n, rowV hb n, .int .i64 g.done, .int .i64 g.asked, .bool g.on, rowV nb n, nilV] ∧ Two0 (w0.heap.size + 2) s g n gb hb nb w') ((play01_c w0.heap.size W.heap.size (W.heap.size + 1) (W.heap.size + 2) s u v g nv n (wT w0) f1 f4.symm (HF.out.1.below f3) (HF.out.2.1.below f3) (boxed_under HF.out.2.2.1 f3) (by omega) (by omega) (by omega) (nums_below hn hbb) (nums_below ho hbb) hgood hmg hl1 hl2 (bools_below hv hbb) (fun b off n c e => by have := hnz b off n c e; omega)).mono ?_)
    rintro e w' ⟨rfl, hk, b1, b2, nb, hT, h2⟩
    have he : Boxed w' (w0.heap.size + 1) 39 (.int .i64 0) := (hk.block _ f2.lt (by omega)).trans f2
    refine ⟨f3.trans (hk.below f3.size (fun k e => by omega)), _, _, _, _, _, _, _, _, hT, ⟨rowV_sl _ _, rowV_sl _ _, rowV_sl _ _, nil_sl⟩, he, .inr ⟨rfl, fun X hX => ⟨rfl, b1, b2, nb, rfl, h2.keeps hX ?_⟩⟩⟩
    rintro T cs f ⟨k, rfl | rfl, hx⟩
    · have h' : w'.heap[w0.heap.size]? = _ := hT
      rw [h'] at hx; injection hx with hx; injection hx with _ hx _; rw [← hx]; decide
    · have h' : w'.heap[w0.heap.size + 1]? = _ := he
      rw [h'] at hx; injection hx with hx; injection hx with _ hx _; rw [← hx]; decide)
  obtain ⟨p0, c0, rfl, -⟩ := hn
  obtain ⟨p1, c1, rfl, -⟩ := ho
  obtain ⟨p2, c2, rfl, -⟩ := hv
  have hlo := hgood.lo
  rw [hl1] at hw0 HF ⊢
  rw [hlo, hl1] at hw0 HF ⊢
  rw [hl2] at hw0 HF ⊢
  unfold playW at hw0
  clear hgood hmg hl1 hl2 hlo hnz hB0
  go_enter Tryz.func77, Tryz.ntmps77
  go_wp2_with fail
  rw [← hw0]
  clear hw0
  (with_reducible refine HT.out.mono ?_)
  rintro e w1 ⟨⟨t, x, rfl, rfl, gb, hb, nb, rfl, hA⟩, hb1⟩
  unfold rowV nilV
  obtain ⟨w2, hw2⟩ : ∃ X : World, X = w1.alloc (.cells #[.int .i64 s.now, .slice (some ⟨gb, 0, none⟩) n n, .slice (some ⟨hb, 0, none⟩) n n, .int .i64 g.done, .int .i64 g.asked, .bool g.on, .slice (some ⟨nb, 0, none⟩) n n, .slice none 0 0] 159) := ⟨_, rfl⟩
  have hb2 : Below w1.heap.size w1 w2 := by rw [hw2]; exact below1 _ _
  have hB1 := below_then HF.out.2.2.2.2.2.1 HF.out.2.2.2.2.2.1.size hb1
  have hB2 := below_then hB1 hB1.size hb2
  have hR2 : RBox w2 (W.heap.size + 3) 0 (.slice none 0 0) (.slice none 0 0) := (HF.out.2.2.2.1.below hb1).below hb2
  have hG2 : GBox w2 (W.heap.size + 4) 0 0 false (.slice none 0 0) := (HF.out.2.2.2.2.1.below hb1).below hb2
  have hp3 := hR2.put s.now (.slice (some ⟨gb, 0, none⟩) n n) (.slice (some ⟨hb, 0, none⟩) n n)
  have hk3 := RBox.putK w2 (W.heap.size + 3) s.now (.slice (some ⟨gb, 0, none⟩) n n) (.slice (some ⟨hb, 0, none⟩) n n)
  obtain ⟨w3, hw3⟩ : ∃ X : World, X = (((w2.setCell ⟨W.heap.size + 3, 0, none⟩ (.int .i64 s.now)).setCell ⟨W.heap.size + 3, 1, none⟩ (.slice (some ⟨gb, 0, none⟩) n n)).setCell ⟨W.heap.size + 3, 2, none⟩ (.slice (some ⟨hb, 0, none⟩) n n)) := ⟨_, rfl⟩
  rw [← hw3] at hp3 hk3
  have hG3 := hG2.keeps hk3 (by omega)
  have hp4 := hG3.put g.done g.asked g.on (.slice (some ⟨nb, 0, none⟩) n n)
  have hk4 := GBox.putK w3 (W.heap.size + 4) g.done g.asked g.on (.slice (some ⟨nb, 0, none⟩) n n)
  obtain ⟨w4, hw4⟩ : ∃ X : World, X = ((((w3.setCell ⟨W.heap.size + 4, 0, none⟩ (.int .i64 g.done)).setCell ⟨W.heap.size + 4, 1, none⟩ (.int .i64 g.asked)).setCell ⟨W.heap.size + 4, 2, none⟩ (.bool g.on)).setCell ⟨W.heap.size + 4, 3, none⟩ (.slice (some ⟨nb, 0, none⟩) n n)) := ⟨_, rfl⟩
  rw [← hw4] at hp4 hk4
  have HX := Lib.hid (show RBox w4 (W.heap.size + 3) s.now (.slice (some ⟨gb, 0, none⟩) n n) (.slice (some ⟨hb, 0, none⟩) n n) ∧ GBox w4 (W.heap.size + 4) g.done g.asked g.on (.slice (some ⟨nb, 0, none⟩) n n) ∧ Below W.heap.size W w4 ∧ Two0 (w0.heap.size + 2) s g n gb hb nb w4 from by
    refine ⟨hp3.keeps hk4 (by omega), hp4, (hB2.trans (hk3.below hB2.size (fun k e => by omega))).trans (hk4.below (hB2.trans (hk3.below hB2.size (fun k e => by omega))).size (fun k e => by omega)), ?_⟩
    exact ((hA.below hb2).keep1 hk3 hR2 (by decide)).keep1 hk4 hG3 (by decide))
  obtain ⟨d0, d1, d2⟩ := hR2.cells
  have m0 := hR2.marks 0
  have m1 := hR2.marks 1
  have m2 := hR2.marks 2
  obtain ⟨e0, e1, e2, e3⟩ := hG2.cells
  have n0 := hG2.marks 0
  have n1 := hG2.marks 1
  have n2 := hG2.marks 2
  have n3 := hG2.marks 3
  have HS0 := Lib.hid HF.out.2.2.2.2.2.2
  have HW2 := Lib.hid (And.intro hw2 (And.intro hw3 hw4))
  rw [hw2] at d0 d1 d2 m0 m1 m2 e0 e1 e2 e3 n0 n1 n2 n3
  clear hp3 hk3 hw3 hp4 hk4 hw4 hG3 hR2 hG2 hB1 hB2 hb1 hb2 hA HT HF hw2
  go_wp2
  go_region
  go_wp2
  rw [← HW2.out.1, ← HW2.out.2.1, ← HW2.out.2.2]
  obtain ⟨h1, h2, h3, h4⟩ := HX.out
  refine bodyPost_ret (v := .tuple #[.agg #[.int .i64 s.now, .slice (some ⟨gb, 0, none⟩) n n, .slice (some ⟨hb, 0, none⟩) n n], .agg #[.int .i64 g.done, .int .i64 g.asked, .bool g.on, .slice (some ⟨nb, 0, none⟩) n n], .slice none 0 0, .int .i64 0]) (results_cctt (p := ⟨W.heap.size + 3, 0, none⟩) (q := ⟨W.heap.size + 4, 0, none⟩) rfl _ _ _ rfl rfl rfl rfl (readers_load (W := w4.drew) h1) (grace_load (W := w4.drew) h2)) rfl ⟨⟨gb, hb, nb, rfl, ?_⟩, below_drewN h3 1⟩
  exact (h4.below (below_drewN (Below.refl _ _) 1)).mono (by have := HS0.out; omega)

end Go.Proofs.YtdllhiihmpinoaaGreat
namespace Go.Proofs.YtdllhiihmpinoaaGreat
set_option maxRecDepth 100000
open Go.RowKit Go.Shelf
attribute [local go_sem] Oper.semAt_some

/-- The cells of a row of queues. -/
def qvs : List (Value × Int) → List Value
  | [] => []
  | c :: l => c.1 :: .int .u64 c.2 :: qvs l
theorem qvs_len : ∀ l : List (Value × Int), (qvs l).length = l.length * 2
  | [] => rfl
  | c :: l => by simp only [qvs, List.length_cons, qvs_len l]; omega
theorem qvs_append : ∀ l m : List (Value × Int), qvs (l ++ m) = qvs l ++ qvs m
  | [], _ => rfl
  | c :: l, m => by simp only [List.cons_append, qvs, qvs_append l m]
theorem qvs_get : ∀ (l : List (Value × Int)) (i : Nat) (h : i < l.length), (qvs l)[i * 2]? = some l[i].1 ∧ (qvs l)[i * 2 + 1]? = some (.int .u64 l[i].2)
  | c :: l, 0, h => ⟨rfl, rfl⟩
  | c :: l, i + 1, h => by
    have := qvs_get l i (by simpa using h)
    rw [show (i + 1) * 2 = i * 2 + 1 + 1 by omega]
    simpa [qvs] using this

/-- A row of queues of one's own, that grows. -/
def QOwn (S : Nat → Prop) (B : Nat) (W : World) (v : Value) (qs : List (Int × List (Int × Int))) : Prop :=
  ∃ m : List (Value × Int), W.ownsRow B 66 2 v qs.length (qvs m) ∧ m.length = qs.length ∧ ∀ i (h : i < m.length) (h' : i < qs.length), m[i].2 = qs[i].1 ∧ U.CbOut S W m[i].1 qs[i].2
theorem QOwn.below {S : Nat → Prop} {B : Nat} {W W' : World} {v : Value} {qs : List (Int × List (Int × Int))} (h : QOwn S B W v qs) (hb : Below W.heap.size W W') : QOwn S B W' v qs := by
  obtain ⟨m, h1, h2, h3⟩ := h
  exact ⟨m, owns_below h1 hb, h2, fun i hi hi' => ⟨(h3 i hi hi').1, (h3 i hi hi').2.below hb⟩⟩
theorem QOwn.keeps {S T : Nat → Prop} {B : Nat} {W W' : World} {v : Value} {qs : List (Int × List (Int × Int))} (h : QOwn S B W v qs) (hk : Keeps T W W') (hTS : ∀ k, T k → S k) (hv : ∀ g, v.ownBlock = some g → ¬ T g) : QOwn S B W' v qs := by
  obtain ⟨m, h1, h2, h3⟩ := h
  exact ⟨m, hk.row h1 hv, h2, fun i hi hi' => ⟨(h3 i hi hi').1, (h3 i hi hi').2.keeps (hk.sub fun k _ h => hTS k h)⟩⟩
theorem QOwn.nil (S : Nat → Prop) (B : Nat) (W : World) : QOwn S B W (.slice none 0 0) [] := ⟨[], World.ownsRow_nil _ _ _ _, rfl, fun i h => by simp at h⟩

theorem info_q : (Tryz.prog.info? 66).map (fun i => (i.zero, i.size, i.bytes)) = some (some (.agg #[.slice none 0 0, .int .u64 0]), 2, 32) := by kernel_rfl
/-- append of one queue that has just been laid. -/
theorem run_app_q (S : Nat → Prop) (B : Nat) (v : Value) (qs : List (Int × List (Int × Int))) (w : World) (h : QOwn S B w v qs) (b c : Nat) (lv : Value) (over : Int) (l : List (Int × Int)) (h0 : w.cell? ⟨b, 0, none⟩ = some lv) (h1 : w.cell? ⟨b, 1, none⟩ = some (.int .u64 over))
    (hl : U.CbOut S w lv l) (hn : qs.length ≤ 1000000) (hB : B ≤ w.heap.size) (hv : ∀ k, some k = v.ownBlock → S k) :
    ∃ q r w', (Builtin.append_ #[28, 28] 28 #[v, .slice (some ⟨b, 0, none⟩) 1 c]).run Tryz.prog w = .ok (.slice q (qs.length + 1) r) w' ∧ (∀ T : Nat → Prop, (∀ k, T k → S k ∨ w.heap.size ≤ k) → QOwn T B w' (.slice q (qs.length + 1) r) (qs ++ [(over, l)])) ∧ Keeps (fun k => some k = v.ownBlock) w w' ∧ ((Value.slice q (qs.length + 1) r).ownBlock = v.ownBlock ∨ (Value.slice q (qs.length + 1) r).ownBlock = some w.heap.size) := by
  obtain ⟨i0, hi, hz0, hz1, hz2⟩ := info_parts info_q
  obtain ⟨m, hm1, hm2, hm3⟩ := h
  obtain ⟨v', w', hr, h3, h4, _, h5⟩ := run_append_own_at (P := Tryz.prog) w B 28 28 66 i0 (.agg #[.slice none 0 0, .int .u64 0]) 2 32 Tryz.underlying28 hi hz0 hz1 hz2 rfl (by decide) v qs.length (qvs m) hm1 ⟨b, 0, none⟩ 1 c [lv, .int .u64 over] rfl
    (fun j u hj => by
      rw [addr_add_off, Nat.zero_add]
      match j, hj with
      | 0, hj => simp only [List.getElem?_cons_zero, Option.some.injEq] at hj; rw [← hj]; exact h0
      | 1, hj => simp only [List.getElem?_cons_succ, List.getElem?_cons_zero, Option.some.injEq] at hj; rw [← hj]; exact h1)
    (fun u hu => by
      simp only [List.mem_cons, List.not_mem_nil, or_false] at hu
      rcases hu with rfl | rfl
      · obtain ⟨p, cap, rfl, -⟩ := hl; rfl
      · rfl) (by unfold maxLen; omega) (by omega) hB
  have e : qvs m ++ [lv, .int .u64 over] = qvs (m ++ [(lv, over)]) := by rw [qvs_append]; rfl
  rw [e] at h3
  obtain ⟨q, r, rfl⟩ := owns_slice h3
  have hk : Keeps (fun k => some k = v.ownBlock) w w' := ⟨h4.os, h4.tape, h4.output, h4.size, fun k hk hn => h4.block k hk (fun e => hn e)⟩
  refine ⟨q, r, w', hr, fun T hST => ⟨m ++ [(lv, over)], by simpa using h3, by simp [hm2], fun i hi hi' => ?_⟩, hk, h5⟩
  have key : ∀ {x : Value} {y : List (Int × Int)}, U.CbOut S w x y → U.CbOut T w' x y := fun {x y} hx => ((hx.apart (T := fun k => S k ∨ w.heap.size ≤ k) (fun _ h => h)).keeps (hk.sub fun k _ h => .inl (hv k h))).sub hST
  by_cases hlt : i < m.length
  · have hlt' : i < qs.length := by omega
    rw [List.getElem_append_left hlt, List.getElem_append_left hlt']
    exact ⟨(hm3 i hlt hlt').1, key (hm3 i hlt hlt').2⟩
  · obtain rfl : i = m.length := by simp at hi; omega
    have e1 : (m ++ [(lv, over)])[m.length]'hi = (lv, over) := by simp
    have e2 : (qs ++ [(over, l)])[m.length]'hi' = (over, l) := by simp [hm2]
    rw [e1, e2]
    exact ⟨rfl, key hl⟩

/-- append, in a region that draws its order. -/
theorem two_app {o : Oper} {a : Act} {w w' : World} {K : Act → World → Prop} {Q : Exit → Act → World → Prop} {ops : Array Oper} (t : TypeId) (s x : Operand) (v y v' : Value)
    (hr : (Builtin.append_ #[t, t] t #[v, y]).run Tryz.prog w = .ok v' w') (ho : o.op = .call { callee := .builtin .append, args := #[s, x], argTypes := #[t, t] }) (hty : o.type = t) (hs : a.eval s = v) (hx : a.eval x = y)
    (hw : Region.wanted o (yielded ops a.tmps) = true) (hK : K (a.put o.dst v') w') : if Region.wanted o (yielded ops a.tmps) = true then Oper.wp Tryz.prog o a w K Q else K (a.put o.dst undef) w := by
  rw [if_pos hw]
  unfold Oper.wp execOp
  simp only [ho, hty, resolve, invoke, builtin, Sem.run_bind, Sem.run_pure, Result.andThen_ok, List.map_toArray, List.map_cons, List.map_nil, hs, hx, hr]
  exact hK

/-- A row of queues in a block. -/
def QRow (S : Nat → Prop) (W : World) (qb qc : Nat) (qs : List (Int × List (Int × Int))) : Prop :=
  ∃ cur : Array Value, W.heap[qb]? = some (.cells cur 66 (0, 0)) ∧ (qs.length ≤ qc ∧ qc ≤ 9223372036854775807) ∧ ∀ i (h : i < qs.length), ∃ lv, cur[i * 2]? = some lv ∧ cur[i * 2 + 1]? = some (.int .u64 qs[i].1) ∧ U.CbOut S W lv qs[i].2
theorem QRow.lt {S : Nat → Prop} {W : World} {qb qc : Nat} {qs : List (Int × List (Int × Int))} (h : QRow S W qb qc qs) : qb < W.heap.size := by
  obtain ⟨cur, h1, -⟩ := h
  exact (Array.getElem?_eq_some_iff.1 h1).1
theorem QRow.below {S : Nat → Prop} {W W' : World} {qb qc : Nat} {qs : List (Int × List (Int × Int))} (h : QRow S W qb qc qs) (hb : Below W.heap.size W W') : QRow S W' qb qc qs := by
  have hlt := h.lt
  obtain ⟨cur, h1, h2, h3⟩ := h
  refine ⟨cur, (hb.block qb hlt).trans h1, h2, fun i hi => ?_⟩
  obtain ⟨lv, g1, g2, g3⟩ := h3 i hi
  exact ⟨lv, g1, g2, g3.below hb⟩
theorem QRow.keeps {S T : Nat → Prop} {W W' : World} {qb qc : Nat} {qs : List (Int × List (Int × Int))} (h : QRow S W qb qc qs) (hk : Keeps T W W') (hTS : ∀ k, T k → S k) (hq : ¬ T qb) : QRow S W' qb qc qs := by
  have hlt := h.lt
  obtain ⟨cur, h1, h2, h3⟩ := h
  refine ⟨cur, (hk.block qb hlt hq).trans h1, h2, fun i hi => ?_⟩
  obtain ⟨lv, g1, g2, g3⟩ := h3 i hi
  exact ⟨lv, g1, g2, g3.keeps (hk.sub fun k _ h => hTS k h)⟩
theorem QRow.apart {S T : Nat → Prop} {W : World} {qb qc : Nat} {qs : List (Int × List (Int × Int))} (h : QRow S W qb qc qs) (hT : ∀ q, T q → S q ∨ W.heap.size ≤ q) : QRow T W qb qc qs := by
  obtain ⟨cur, h1, h2, h3⟩ := h
  refine ⟨cur, h1, h2, fun i hi => ?_⟩
  obtain ⟨lv, g1, g2, g3⟩ := h3 i hi
  exact ⟨lv, g1, g2, g3.apart hT⟩
theorem QRow.cell {S : Nat → Prop} {W : World} {qb qc : Nat} {qs : List (Int × List (Int × Int))} (h : QRow S W qb qc qs) (i : Nat) (hi : i < qs.length) : ∃ lv, W.cell? ⟨qb, i * 2, none⟩ = some lv ∧ W.cell? ⟨qb, i * 2 + 1, none⟩ = some (.int .u64 qs[i].1) ∧ U.CbOut S W lv qs[i].2 := by
  obtain ⟨cur, h1, h2, h3⟩ := h
  obtain ⟨lv, g1, g2, g3⟩ := h3 i hi
  exact ⟨lv, by simp [World.cell?, h1, g1], by simp [World.cell?, h1, g2], g3⟩
theorem QRow.free {S : Nat → Prop} {W : World} {qb qc : Nat} {qs : List (Int × List (Int × Int))} (h : QRow S W qb qc qs) (i : Nat) : W.frozen? ⟨qb, i, none⟩ = false := by
  obtain ⟨cur, h1, -⟩ := h
  simp [World.frozen?, h1]
theorem QRow.out {S T : Nat → Prop} {W : World} {qb qc : Nat} {qs : List (Int × List (Int × Int))} (h : QRow S W qb qc qs) (hT : ∀ k, T k → S k) (hq : ¬ T qb) : QsOut T W (.slice (some ⟨qb, 0, none⟩) qs.length qc) qs :=
  ⟨_, _, rfl, fun _ => ⟨qb, 0, rfl, hq, fun i hi => by
    obtain ⟨lv, g1, g2, g3⟩ := h.cell i hi
    rw [Nat.zero_add]
    exact ⟨lv, g1, g2, g3.sub hT⟩⟩⟩
/-- One queue of the row is written over. -/
theorem QRow.set {S : Nat → Prop} {W : World} {qb qc : Nat} {qs : List (Int × List (Int × Int))} (h : QRow S W qb qc qs) (i : Nat) (hi : i < qs.length) (lv : Value) (over : Int) (l : List (Int × Int)) (hl : U.CbOut S W lv l) (hq : S qb) :
    QRow S ((W.setCell ⟨qb, i * 2, none⟩ lv).setCell ⟨qb, i * 2 + 1, none⟩ (.int .u64 over)) qb qc (qs.set i (over, l)) := by
  have hk : Keeps (fun k => k = qb) W ((W.setCell ⟨qb, i * 2, none⟩ lv).setCell ⟨qb, i * 2 + 1, none⟩ (.int .u64 over)) := (setK W qb (i * 2) _).trans (setK _ qb (i * 2 + 1) _)
  have hks : ∀ {x : Value} {y : List (Int × Int)}, U.CbOut S W x y → U.CbOut S ((W.setCell ⟨qb, i * 2, none⟩ lv).setCell ⟨qb, i * 2 + 1, none⟩ (.int .u64 over)) x y := fun {x y} hx => hx.keeps (hk.sub fun k _ e => e ▸ hq)
  obtain ⟨cur, h1, h2, h3⟩ := h
  have e0 := heap_setCell_same W qb (i * 2) _ _ lv h1
  have e1 := heap_setCell_same _ qb (i * 2 + 1) _ _ (.int .u64 over) e0
  refine ⟨_, e1, by rw [List.length_set]; exact h2, fun k hk' => ?_⟩
  rw [List.length_set] at hk'
  obtain ⟨x, g1, g2, g3⟩ := h3 k hk'
  obtain ⟨y, gi1, gi2, -⟩ := h3 i hi
  have s1 : i * 2 + 1 < cur.size := (Array.getElem?_eq_some_iff.1 gi2).1
  by_cases hki : k = i
  · subst hki
    refine ⟨lv, ?_, ?_, ?_⟩
    · rw [Array.getElem?_setIfInBounds_ne (by omega), Array.getElem?_setIfInBounds_self_of_lt (by omega)]
    · rw [Array.getElem?_setIfInBounds_self_of_lt (by simp; omega)]; simp
    · simpa using hks hl
  · refine ⟨x, ?_, ?_, ?_⟩
    · rw [Array.getElem?_setIfInBounds_ne (by omega), Array.getElem?_setIfInBounds_ne (by omega)]; exact g1
    · rw [Array.getElem?_setIfInBounds_ne (by omega), Array.getElem?_setIfInBounds_ne (by omega), List.getElem_set_ne (fun e => hki e.symm)]; exact g2
    · rw [List.getElem_set_ne (fun e => hki e.symm)]; exact hks g3
theorem QOwn.row {S : Nat → Prop} {B : Nat} {W : World} {v : Value} {qs : List (Int × List (Int × Int))} (h : QOwn S B W v qs) (hne : qs ≠ []) : ∃ qb qc, v = .slice (some ⟨qb, 0, none⟩) qs.length qc ∧ B ≤ qb ∧ QRow S W qb qc qs := by
  obtain ⟨m, h1, h2, h3⟩ := h
  rcases h1.2 with ⟨rfl, h0⟩ | ⟨g, cap, cur, rfl, hB, hg, hcp, hmx, -⟩
  · exact absurd (List.eq_nil_of_length_eq_zero h0) hne
  · have hbk : ∀ (j : Nat) (x : Value), W.cell? ⟨g, j, none⟩ = some x → cur[j]? = some x := fun j x hx => by simpa [World.cell?, hg] using hx
    refine ⟨g, cap, rfl, hB, cur, hg, ⟨hcp, by unfold maxLen at hmx; omega⟩, fun i hi => ?_⟩
    have c1 := h1.cellAt (i * 2) (by omega)
    have c2 := h1.cellAt (i * 2 + 1) (by omega)
    rw [(qvs_get m i (by omega)).1] at c1
    rw [(qvs_get m i (by omega)).2] at c2
    refine ⟨m[i].1, hbk _ _ (by simpa using c1), ?_, (h3 i (by omega) hi).2⟩
    have := hbk _ _ (by simpa using c2)
    rw [(h3 i (by omega) hi).1] at this
    exact this

/-- What stays apart from a turn's rows. -/
def vS (B qb : Nat) (lv : Value) : Nat → Prop := fun k => k < B ∨ k = qb ∨ some k = lv.ownBlock
/-- A turn, in memory. -/
structure VtAt (W : World) (z B : Nat) (r : RcS) (u v nv : Value) (qb qc : Nat) (lv : Value) (ls : List Int) : Prop where
  box : VtBox W z r.s.now u v r.g.done r.g.asked r.g.on nv (.slice (some ⟨qb, 0, none⟩) r.qs.length qc) lv
  nest : NumsOut (vS B qb lv) W u r.s.ns
  opened : NumsOut (vS B qb lv) W v r.s.os
  needs : BoolsOut (vS B qb lv) W nv r.g.nd
  row : QRow (vS B qb lv) W qb qc r.qs
  run : W.ownsRow B 35 1 lv ls.length (ls.map (Value.int .u64))
  zB : z < B
  qB : B ≤ qb
theorem VtAt.BW {W : World} {z B : Nat} {r : RcS} {u v nv : Value} {qb qc : Nat} {lv : Value} {ls : List Int} (h : VtAt W z B r u v nv qb qc lv ls) : B ≤ W.heap.size := by have := h.qB; have := h.row.lt; omega
theorem VtAt.qz {W : World} {z B : Nat} {r : RcS} {u v nv : Value} {qb qc : Nat} {lv : Value} {ls : List Int} (h : VtAt W z B r u v nv qb qc lv ls) : qb ≠ z := by have := h.qB; have := h.zB; omega
theorem VtAt.lB {W : World} {z B : Nat} {r : RcS} {u v nv : Value} {qb qc : Nat} {lv : Value} {ls : List Int} (h : VtAt W z B r u v nv qb qc lv ls) {g : Nat} (hg : lv.ownBlock = some g) : B ≤ g ∧ g < W.heap.size := h.run.lt g hg
theorem VtAt.lq {W : World} {z B : Nat} {r : RcS} {u v nv : Value} {qb qc : Nat} {lv : Value} {ls : List Int} (h : VtAt W z B r u v nv qb qc lv ls) {g : Nat} (hg : lv.ownBlock = some g) : g ≠ qb := fun e => by
  obtain ⟨c, f, h1⟩ := Lib.ownsRow_kind h.run g hg
  obtain ⟨cur, h2, -⟩ := h.row
  rw [e, h2] at h1; injection h1 with h1; injection h1 with _ h1 _; revert h1; decide
theorem VtAt.below {W W' : World} {z B : Nat} {r : RcS} {u v nv : Value} {qb qc : Nat} {lv : Value} {ls : List Int} (h : VtAt W z B r u v nv qb qc lv ls) (hb : Below W.heap.size W W') : VtAt W' z B r u v nv qb qc lv ls :=
  ⟨h.box.below hb, h.nest.below hb, h.opened.below hb, h.needs.below hb, h.row.below hb, owns_below h.run hb, h.zB, h.qB⟩
theorem VtAt.inn {W : World} {z B : Nat} {r : RcS} {u v nv : Value} {qb qc : Nat} {lv : Value} {ls : List Int} (h : VtAt W z B r u v nv qb qc lv ls) : RcIn (fun k => k < B) W u v nv (.slice (some ⟨qb, 0, none⟩) r.qs.length qc) r :=
  ⟨h.nest.apart (fun q hq => .inl (.inl hq)), h.opened.apart (fun q hq => .inl (.inl hq)), h.needs.apart (fun q hq => .inl (.inl hq)), h.row.out (fun k hk => .inl hk) (by have := h.qB; omega)⟩
theorem RcIn.noS {S : Nat → Prop} {W : World} {u v nv qv : Value} {r : RcS} (h : RcIn S W u v nv qv r) : RcIn U.NoS W u v nv qv r := h.apart (fun _ h => False.elim h)
theorem VtAt.sl {W : World} {z B : Nat} {r : RcS} {u v nv : Value} {qb qc : Nat} {lv : Value} {ls : List Int} (h : VtAt W z B r u v nv qb qc lv ls) : IsSl u ∧ IsSl v ∧ IsSl nv ∧ IsSl lv := by
  obtain ⟨p1, c1, p2, c2, p3, c3, p4, c4, e1, e2, e3, -⟩ := h.inn.sl
  exact ⟨⟨_, _, _, e1⟩, ⟨_, _, _, e2⟩, ⟨_, _, _, e3⟩, owns_sl h.run⟩
/-- Other readers. -/
theorem VtAt.setR {W : World} {z B : Nat} {r : RcS} {u v nv : Value} {qb qc : Nat} {lv : Value} {ls : List Int} (h : VtAt W z B r u v nv qb qc lv ls) (s' : RdS) (gb hb n m : Nat) (hg : IBlock W gb s'.ns) (hh : IBlock W hb s'.os) (hn : s'.ns.length = n) (hm : s'.os.length = m)
    (h1 : ¬ vS B qb lv gb) (h2 : ¬ vS B qb lv hb) :
    VtAt (((W.setCell ⟨z, 0, none⟩ (.int .i64 s'.now)).setCell ⟨z, 1, none⟩ (.slice (some ⟨gb, 0, none⟩) n n)).setCell ⟨z, 2, none⟩ (.slice (some ⟨hb, 0, none⟩) m m)) z B { r with s := s' } (.slice (some ⟨gb, 0, none⟩) n n) (.slice (some ⟨hb, 0, none⟩) m m) nv qb qc lv ls := by
  have hk := VtBox.putRK W z s'.now (.slice (some ⟨gb, 0, none⟩) n n) (.slice (some ⟨hb, 0, none⟩) m m)
  have hzS : ∀ k, k = z → vS B qb lv k := fun k e => .inl (by rw [e]; exact h.zB)
  have hks := hk.sub fun k _ e => hzS k e
  subst hn hm
  exact ⟨h.box.putR _ _ _, (NumsOut.of_block hg h1).keeps hks, (NumsOut.of_block hh h2).keeps hks, h.needs.keeps hks, h.row.keeps hk hzS (h.qz), hk.row h.run (fun g hg e => by have := (h.lB hg).1; have := h.zB; omega), h.zB, h.qB⟩
/-- Another grace. -/
theorem VtAt.setG {W : World} {z B : Nat} {r : RcS} {u v nv : Value} {qb qc : Nat} {lv : Value} {ls : List Int} (h : VtAt W z B r u v nv qb qc lv ls) (g' : GrS) (nb n : Nat) (hg : BBlock W nb g'.nd) (hn : g'.nd.length = n)
    (h1 : ¬ vS B qb lv nb) :
    VtAt ((((W.setCell ⟨z, 3, none⟩ (.int .i64 g'.done)).setCell ⟨z, 4, none⟩ (.int .i64 g'.asked)).setCell ⟨z, 5, none⟩ (.bool g'.on)).setCell ⟨z, 6, none⟩ (.slice (some ⟨nb, 0, none⟩) n n)) z B { r with g := g' } u v (.slice (some ⟨nb, 0, none⟩) n n) qb qc lv ls := by
  have hk := VtBox.putGK W z g'.done g'.asked g'.on (.slice (some ⟨nb, 0, none⟩) n n)
  have hzS : ∀ k, k = z → vS B qb lv k := fun k e => .inl (by rw [e]; exact h.zB)
  have hks := hk.sub fun k _ e => hzS k e
  subst hn
  exact ⟨h.box.putG _ _ _ _, h.nest.keeps hks, h.opened.keeps hks, (BoolsOut.of_block hg h1).keeps hks, h.row.keeps hk hzS (h.qz), hk.row h.run (fun g hg e => by have := (h.lB hg).1; have := h.zB; omega), h.zB, h.qB⟩
/-- Another queue of a CPU. -/
theorem VtAt.setQ {W : World} {z B : Nat} {r : RcS} {u v nv : Value} {qb qc : Nat} {lv : Value} {ls : List Int} (h : VtAt W z B r u v nv qb qc lv ls) (i : Nat) (hi : i < r.qs.length) (x : Value) (over : Int) (l : List (Int × Int)) (hl : U.CbOut (vS B qb lv) W x l) :
    VtAt ((W.setCell ⟨qb, i * 2, none⟩ x).setCell ⟨qb, i * 2 + 1, none⟩ (.int .u64 over)) z B { r with qs := r.qs.set i (over, l) } u v nv qb qc lv ls := by
  have hk : Keeps (fun k => k = qb) W ((W.setCell ⟨qb, i * 2, none⟩ x).setCell ⟨qb, i * 2 + 1, none⟩ (.int .u64 over)) := (setK W qb (i * 2) _).trans (setK _ qb (i * 2 + 1) _)
  have hqS : ∀ k, k = qb → vS B qb lv k := fun k e => .inr (.inl e)
  have hks := hk.sub fun k _ e => hqS k e
  have hb := h.box.keeps hk (fun e => h.qz e.symm)
  refine ⟨by rw [← List.length_set] at hb; exact hb, h.nest.keeps hks, h.opened.keeps hks, h.needs.keeps hks, h.row.set i hi x over l hl (.inr (.inl rfl)), hk.row h.run (fun g hg e => h.lq hg e), h.zB, h.qB⟩

end Go.Proofs.YtdllhiihmpinoaaGreat
