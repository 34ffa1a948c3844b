/-
  Package reader: Check, Same, Quiet, Passed.
  Conditions: the ranges of Go's types.
-/
import Derived.Test.YtjfphhemhaphbabYEnter
namespace Go.Proofs.Ytjfphhemhaphbab
set_option maxRecDepth 100000
open Go.RowKit Go.Shelf
attribute [local go_sem] Oper.semAt_some

def sameB (s t : RdS) : Bool := decide (s.now = t.now) && (decide (s.ns = t.ns) && decide (s.os = t.os))
/-- Two boxes. -/
def wS (W : World) (now : Int) (u v : Value) (now' : Int) (u' v' : Value) : World := (W.alloc (.cells #[.int .i64 now, u, v] 24)).alloc (.cells #[.int .i64 now', u', v'] 24)
theorem wS_facts (W : World) (now : Int) (u v : Value) (now' : Int) (u' v' : Value) : RBox (wS W now u v now' u' v') W.heap.size now u v ∧ RBox (wS W now u v now' u' v') (W.heap.size + 1) now' u' v' ∧ Below W.heap.size W (wS W now u v now' u' v') := by
  refine ⟨(RBox.new W now u v).below (below1 _ _), ?_, below2 _ _ _⟩
  have := RBox.new (W.alloc (.cells #[.int .i64 now, u, v] 24)) now' u' v'
  rwa [World.size_alloc] at this

set_option maxHeartbeats 4000000 in
theorem same_c (s t : RdS) (u v u' v' : Value) (W : World) (hn : NumsAt W .i64 u s.ns) (ho : NumsAt W .i64 v s.os) (hn' : NumsAt W .i64 u' t.ns) (ho' : NumsAt W .i64 v' t.os)
    (l1 : s.ns.length ≤ 9223372036854775807) (l2 : s.os.length ≤ 9223372036854775807) (l3 : t.ns.length ≤ 9223372036854775807) (l4 : t.os.length ≤ 9223372036854775807) :
    Calls Try.prog 17 #[.agg #[.int .i64 s.now, u, v], .agg #[.int .i64 t.now, u', v']] W fun e w' => e = .returned (.bool (sameB s t)) ∧ Below W.heap.size W w' := by
  have HE1 := Lib.hid (fun (Z : World) (hb : Below W.heap.size W Z) => equalI_c u u' s.ns t.ns Z (nums_below hn hb) (nums_below hn' hb) l1 l3)
  have HE2 := Lib.hid (fun (Z : World) (hb : Below W.heap.size W Z) => equalI_c v v' s.os t.os Z (nums_below ho hb) (nums_below ho' hb) l2 l4)
  have HF := Lib.hid (wS_facts W s.now u v t.now u' v')
  obtain ⟨w0, hw0⟩ : ∃ X, X = wS W s.now u v t.now u' v' := ⟨_, rfl⟩
  rw [← hw0] at HF
  unfold wS at hw0
  obtain ⟨p, c, rfl, -⟩ := hn
  obtain ⟨p2, c2, rfl, -⟩ := ho
  obtain ⟨p', c', rfl, -⟩ := hn'
  obtain ⟨p2', c2', rfl, -⟩ := ho'
  obtain ⟨d0, d1, d2⟩ := HF.out.1.cells
  obtain ⟨e0, e1, e2⟩ := HF.out.2.1.cells
  have HB := Lib.hid HF.out.2.2
  clear l1 l2 l3 l4
  unfold sameB
  by_cases h1 : s.now = t.now
  · have q1 : (s.now == t.now) = true := by rw [beq_iff_eq]; exact h1
    rw [decide_eq_true h1, Bool.true_and]
    clear h1
    by_cases h2 : s.ns = t.ns
    · have HE := Lib.hid (HE1.out w0 HB.out)
      rw [decide_eq_true h2] at HE
      rw [decide_eq_true h2, Bool.true_and]
      clear h2 HE1
      go_enter Try.func17, Try.ntmps17
      go_wp2_with fail
      rw [← hw0]
      clear hw0
      (with_reducible refine HE.out.mono ?_)
      rintro e w1 ⟨rfl, hb1⟩
      have HB1 := Lib.hid (below_then HB.out HB.out.size hb1)
      obtain ⟨d0, d1, d2⟩ := (HF.out.1.below hb1).cells
      obtain ⟨e0, e1, e2⟩ := (HF.out.2.1.below hb1).cells
      have HEE := Lib.hid (HE2.out w1 HB1.out)
      clear hb1 HE HE2
      go_wp2_with fail
      (with_reducible refine HEE.out.mono ?_)
      rintro e w2 ⟨rfl, hb2⟩
      have HB2 := Lib.hid (below_then HB1.out HB1.out.size hb2)
      clear hb2
      go_wp2
      go_ret
      exact ⟨rfl, HB2.out⟩
    · have HE := Lib.hid (HE1.out w0 HB.out)
      rw [decide_eq_false h2] at HE
      rw [decide_eq_false h2, Bool.false_and]
      clear h2 HE1 HE2
      go_enter Try.func17, Try.ntmps17
      go_wp2_with fail
      rw [← hw0]
      clear hw0
      (with_reducible refine HE.out.mono ?_)
      rintro e w1 ⟨rfl, hb1⟩
      have HB1 := Lib.hid (below_then HB.out HB.out.size hb1)
      clear hb1 HE
      go_wp2
      go_ret
      exact ⟨rfl, HB1.out⟩
  · have q1 : (s.now == t.now) = false := by rw [beq_eq_false_iff_ne]; exact h1
    rw [decide_eq_false h1, Bool.false_and]
    clear h1 HE1 HE2
    go_enter Try.func17, Try.ntmps17
    go_wp2
    go_ret
    exact ⟨rfl, by first | exact HB.out | (rw [hw0] at HB; exact HB.out) | exact below2 _ _ _⟩

set_option maxHeartbeats 4000000 in
theorem check_c (s : RdS) (u v : Value) (W : World) (hn : NumsAt W .i64 u s.ns) (ho : NumsAt W .i64 v s.os) (h1 : s.ns.length ≤ 9223372036854775807) (h2 : s.os.length ≤ 9223372036854775807) (hr : ∀ x ∈ s.os, I64 x) :
    Calls Try.prog 14 #[.agg #[.int .i64 s.now, u, v]] W fun e w' => e = .returned (.int .i64 (if mayB s.now s.ns s.os = true then 0 else 210)) ∧ Below W.heap.size W w' := by
  obtain ⟨w0, hw0⟩ : ∃ X : World, X = W.alloc (.cells #[.int .i64 s.now, u, v] 24) := ⟨_, rfl⟩
  have hb0 : Below W.heap.size W w0 := by rw [hw0]; exact below1 _ _
  have HB := Lib.hid hb0
  have HC := Lib.hid (may_c s.now u v s.ns s.os w0 (nums_below hn hb0) (nums_below ho hb0) h1 h2 hr)
  have hbx : RBox w0 W.heap.size s.now u v := by rw [hw0]; exact RBox.new _ _ _ _
  obtain ⟨d0, d1, d2⟩ := hbx.cells
  obtain ⟨p, c, rfl, -⟩ := hn
  obtain ⟨p2, c2, rfl, -⟩ := ho
  clear hb0 hr h1 h2 hbx
  cases hm : mayB s.now s.ns s.os with
  | true =>
    rw [hm] at HC
    rw [if_pos rfl]
    clear hm
    go_enter Try.func14, Try.ntmps14
    go_wp2_with fail
    rw [← hw0]
    clear hw0
    (with_reducible refine HC.out.mono ?_)
    rintro e w1 ⟨rfl, hb1⟩
    have HB1 := Lib.hid (below_then HB.out HB.out.size hb1)
    clear hb1
    go_wp2
    go_ret
    exact ⟨rfl, HB1.out⟩
  | false =>
    rw [hm] at HC
    rw [if_neg Bool.false_ne_true]
    clear hm
    go_enter Try.func14, Try.ntmps14
    go_wp2_with fail
    rw [← hw0]
    clear hw0
    (with_reducible refine HC.out.mono ?_)
    rintro e w1 ⟨rfl, hb1⟩
    have HB1 := Lib.hid (below_then HB.out HB.out.size hb1)
    clear hb1
    go_wp2
    go_ret
    exact ⟨rfl, HB1.out⟩

/-- Is the CPU there, and quiet? -/
def quietB (s : RdS) (c : Int) : Bool := mayB s.now s.ns s.os && (hasB s.ns.length c && decide (s.ns.getD c.toNat 0 = 0))
set_option maxHeartbeats 4000000 in
theorem quiet_c (s : RdS) (u v : Value) (c : Int) (W : World) (hn : NumsAt W .i64 u s.ns) (ho : NumsAt W .i64 v s.os) (h1 : s.ns.length ≤ 9223372036854775807) (h2 : s.os.length ≤ 9223372036854775807) (hr : ∀ x ∈ s.os, I64 x) :
    Calls Try.prog 16 #[.agg #[.int .i64 s.now, u, v], .int .i64 c] W fun e w' => e = .returned (.bool (quietB s c)) ∧ Below W.heap.size W w' := by
  obtain ⟨w0, hw0⟩ : ∃ X : World, X = W.alloc (.cells #[.int .i64 s.now, u, v] 24) := ⟨_, rfl⟩
  have hb0 : Below W.heap.size W w0 := by rw [hw0]; exact below1 _ _
  have HB := Lib.hid hb0
  have HC := Lib.hid (may_c s.now u v s.ns s.os w0 (nums_below hn hb0) (nums_below ho hb0) h1 h2 hr)
  have hbx : RBox w0 W.heap.size s.now u v := by rw [hw0]; exact RBox.new _ _ _ _
  have HBX := Lib.hid hbx
  obtain ⟨d0, d1, d2⟩ := hbx.cells
  have HN := Lib.hid (nums_below hn hb0)
  obtain ⟨p, cp, rfl, -⟩ := hn
  obtain ⟨p2, cp2, rfl, -⟩ := ho
  have HH := Lib.hid (fun Z => has_c s.now c p s.ns.length cp (.slice p2 s.os.length cp2) Z)
  clear hb0 hr h1 h2 hbx
  unfold quietB
  cases hm : mayB s.now s.ns s.os with
  | false =>
    rw [hm] at HC
    rw [Bool.false_and]
    clear hm HH
    go_enter Try.func16, Try.ntmps16
    go_wp2_with fail
    rw [← hw0]
    clear hw0
    (with_reducible refine HC.out.mono ?_)
    rintro e w1 ⟨rfl, hb1⟩
    have HB1 := Lib.hid (below_then HB.out HB.out.size hb1)
    clear hb1
    go_wp2
    go_ret
    exact ⟨rfl, HB1.out⟩
  | true =>
    rw [hm] at HC
    rw [Bool.true_and]
    clear hm
    cases hh : hasB s.ns.length c with
    | false =>
      rw [hh] at HH
      rw [Bool.false_and]
      clear hh
      go_enter Try.func16, Try.ntmps16
      go_wp2_with fail
      rw [← hw0]
      clear hw0
      (with_reducible refine HC.out.mono ?_)
      rintro e w1 ⟨rfl, hb1⟩
      have HB1 := Lib.hid (below_then HB.out HB.out.size hb1)
      obtain ⟨d0, d1, d2⟩ := (HBX.out.below hb1).cells
      clear hb1
      go_wp2_with fail
      (with_reducible refine (HH.out _).mono ?_)
      rintro e w2 ⟨rfl, hb2⟩
      have HB2 := Lib.hid (below_then HB1.out HB1.out.size hb2)
      clear hb2
      go_wp2
      go_ret
      exact ⟨rfl, HB2.out⟩
    | true =>
      obtain ⟨i, rfl, hi⟩ := (has_iff _ _).1 hh
      rw [hh] at HH
      rw [Bool.true_and, Int.toNat_natCast, getD_lt hi]
      clear hh
      obtain ⟨n, hn⟩ : ∃ n, n = s.ns[i] := ⟨_, rfl⟩
      rw [← hn]
      have HX := Lib.hid (show ∃ b off, p = some ⟨b, off, none⟩ ∧ w0.cell? ⟨b, off + i, none⟩ = some (.int .i64 n) by
        obtain ⟨q, cc, e, hcs⟩ := HN.out
        injection e with e1 e2 e3
        subst e1
        obtain ⟨b, off, e, hc⟩ := hcs (by intro e; rw [e] at hi; simp at hi)
        exact ⟨b, off, e, by rw [hn]; exact hc i hi⟩)
      obtain ⟨b, off, rfl, hx⟩ := HX.out
      have hi0 : (0 : Int) ≤ (i : Int) := by omega
      have hil : (i : Int) < (s.ns.length : Int) := by omega
      clear hn HX
      by_cases hz : n = 0
      · have hq : (n == 0) = true := by rw [hz]; rfl
        rw [decide_eq_true hz]
        clear hz
        go_enter Try.func16, Try.ntmps16
        go_wp2_with fail
        rw [← hw0]
        clear hw0
        (with_reducible refine HC.out.mono ?_)
        rintro e w1 ⟨rfl, hb1⟩
        have HB1 := Lib.hid (below_then HB.out HB.out.size hb1)
        have HBX1 := Lib.hid (HBX.out.below hb1)
        obtain ⟨d0, d1, d2⟩ := HBX1.out.cells
        have hx1 := below_cell hb1 hx
        clear hb1 hx
        go_wp2_with fail
        (with_reducible refine (HH.out _).mono ?_)
        rintro e w2 ⟨rfl, hb2⟩
        have HB2 := Lib.hid (below_then HB1.out HB1.out.size hb2)
        obtain ⟨d0, d1, d2⟩ := (HBX1.out.below hb2).cells
        have hx2 := below_cell hb2 hx1
        clear hb2 hx1
        go_wp2
        go_ret
        exact ⟨rfl, HB2.out⟩
      · have hq : (n == 0) = false := by rw [beq_eq_false_iff_ne]; exact hz
        rw [decide_eq_false hz]
        clear hz
        go_enter Try.func16, Try.ntmps16
        go_wp2_with fail
        rw [← hw0]
        clear hw0
        (with_reducible refine HC.out.mono ?_)
        rintro e w1 ⟨rfl, hb1⟩
        have HB1 := Lib.hid (below_then HB.out HB.out.size hb1)
        have HBX1 := Lib.hid (HBX.out.below hb1)
        obtain ⟨d0, d1, d2⟩ := HBX1.out.cells
        have hx1 := below_cell hb1 hx
        clear hb1 hx
        go_wp2_with fail
        (with_reducible refine (HH.out _).mono ?_)
        rintro e w2 ⟨rfl, hb2⟩
        have HB2 := Lib.hid (below_then HB1.out HB1.out.size hb2)
        obtain ⟨d0, d1, d2⟩ := (HBX1.out.below hb2).cells
        have hx2 := below_cell hb2 hx1
        clear hb2 hx1
        go_wp2
        go_ret
        exact ⟨rfl, HB2.out⟩

end Go.Proofs.Ytjfphhemhaphbab
