/-
  Package rcu: enter, leave: a step of the readers, within a turn.
  Conditions: the ranges of Go's types.
-/
import Derived.Test.YtdllhiihmpinoaaGreatVB8
/-
  Package rcu: hold: an Rcu in memory of a turn's own; or the error, if it may not be.
  Conditions: the ranges of Go's types; the Rcu is older than the turn.
-/
namespace Go.Proofs.YtdllhiihmpinoaaGreat
set_option maxRecDepth 100000
open Go.RowKit Go.Shelf
attribute [local go_sem] Oper.semAt_some

set_option maxHeartbeats 8000000 in
theorem rhold_no (z : Nat) (r : RcS) (u v nv qv : Value) (W : World) (hi : RcIn U.NoS W u v nv qv r) (hr : RcR r) (hm : rmayB r = false) :
    Calls Tryz.prog 45 #[.pointer (some ⟨z, 0, none⟩), .agg #[.int .i64 r.s.now, u, v, .int .i64 r.g.done, .int .i64 r.g.asked, .bool r.g.on, nv, qv]] W fun e w' => e = woe 240 ∧ Below W.heap.size W w' := by
  obtain ⟨w0, hw0⟩ : ∃ X : World, X = W.alloc (.cells #[.int .i64 r.s.now, u, v, .int .i64 r.g.done, .int .i64 r.g.asked, .bool r.g.on, nv, qv] 30) := ⟨_, rfl⟩
  obtain ⟨hi0, hb0, hx⟩ := rc_boxed hi hw0
  have hC := rcheck_c u v nv qv r w0 hi0 hr
  rw [hm, if_neg Bool.false_ne_true] at hC
  have HC := Lib.hid hC
  have HB := Lib.hid hb0
  obtain ⟨p1, c1, p2, c2, p3, c3, p4, c4, rfl, rfl, rfl, rfl⟩ := hi.sl
  obtain ⟨d0, d1, d2, d3, d4, d5, d6, d7⟩ := hx.cells
  clear hi0 hb0 hx hC hi hr hm
  go_enter Tryz.func45, Tryz.ntmps45
  go_wp2_with fail
  rw [← hw0]
  clear hw0
  (with_reducible refine HC.out.mono ?_)
  rintro e w1 ⟨rfl, hb1⟩
  have HB1 := Lib.hid (below_then HB.out HB.out.size hb1)
  clear hb1 HC HB d0 d1 d2 d3 d4 d5 d6 d7
  go_wp2_with fail
  (with_reducible refine (rmust_no 240 (by decide) w1).mono ?_)
  rintro e w ⟨rfl, rfl⟩
  exact ⟨rfl, rfl, HB1.out⟩

theorem bools_lt1 {W : World} {nv : Value} {nd : List Bool} (h : BoolsAt W nv nd) (hne : nd ≠ []) : ∀ b off n c, nv = .slice (some ⟨b, off, none⟩) n c → b < W.heap.size := by
  intro b off n c e
  obtain ⟨p, cap, rfl, hc⟩ := h
  obtain ⟨b', off', rfl, hcs⟩ := hc hne
  injection e with e _ _
  injection e with e
  injection e with e _ _
  have hlt : b' < W.heap.size := World.block_lt_of_cell? W _ (hcs 0 (List.length_pos_iff.2 hne))
  omega

/-- The row that grows, and what it leaves alone. -/
def hS (B : Nat) (qv : Value) : Nat → Prop := fun k => k < B ∨ some k = qv.ownBlock
/-- Between two queues. -/
structure HoI (z B rb : Nat) (r : RcS) (u v nv qv : Value) (n gb hb nb i : Nat) (q : Value) (wr : World) : Prop where
  box : VtBox wr z r.s.now (rowV gb n) (rowV hb n) r.g.done r.g.asked r.g.on (rowV nb n) q nilV
  two : Two0 B r.s r.g n gb hb nb wr
  row : QOwn (hS B q) B wr q (r.qs.take i)
  rin : RcIn (fun k => z ≤ k) wr u v nv qv r
  rc : RcBox wr rb r.s.now u v r.g.done r.g.asked r.g.on nv qv
  ap : ∀ g, q.ownBlock = some g → g ≠ gb ∧ g ≠ hb ∧ g ≠ nb
theorem HoI.below {z B rb : Nat} {r : RcS} {u v nv qv : Value} {n gb hb nb i : Nat} {q : Value} {wr w : World} (h : HoI z B rb r u v nv qv n gb hb nb i q wr) (hk : Below wr.heap.size wr w) : HoI z B rb r u v nv qv n gb hb nb i q w :=
  ⟨h.box.below hk, h.two.below hk, h.row.below hk, h.rin.below hk, h.rc.below hk, h.ap⟩
theorem HoI.sl {z B rb : Nat} {r : RcS} {u v nv qv : Value} {n gb hb nb i : Nat} {q : Value} {wr : World} (h : HoI z B rb r u v nv qv n gb hb nb i q wr) : ∃ p c, q = .slice p (r.qs.take i).length c := by
  obtain ⟨m, h1, -⟩ := h.row
  exact owns_slice h1
theorem HoI.next {z B rb : Nat} {r : RcS} {u v nv qv : Value} {n gb hb nb i : Nat} {q q' : Value} {wr w : World} (h : HoI z B rb r u v nv qv n gb hb nb i q wr) (hzB : z < B) (hrb : ¬ some rb = q.ownBlock) (hrz : rb ≠ z) (hi : i < r.qs.length) (hk : Keeps (fun k => some k = q.ownBlock) wr w)
    (hrow : QOwn (hS B q') B w q' (r.qs.take i ++ [r.qs[i]])) (hB : B ≤ wr.heap.size) (hq' : q'.ownBlock = q.ownBlock ∨ q'.ownBlock = some wr.heap.size) : HoI z B rb r u v nv qv n gb hb nb (i + 1) q' (w.setCell ⟨z, 7, none⟩ q') := by
  have hqB : ∀ k, some k = q.ownBlock → B ≤ k := fun k e => by
    obtain ⟨m, h1, -⟩ := h.row
    exact (h1.lt k e.symm).1
  have hzk : ∀ k, k = z → ¬ some k = q.ownBlock := fun k e e' => by have := hqB k e'; omega
  have hkz := setK w z 7 q'
  have hb1 := h.box.keeps hk (fun e => by have := hqB _ e; omega)
  have hlt : ∀ {b : Nat} {X : Obj}, wr.heap[b]? = some X → b < wr.heap.size := fun hx => (Array.getElem?_eq_some_iff.1 hx).1
  refine ⟨hb1.putQ q', ?_, ?_, ?_, ?_, ?_⟩
  · obtain ⟨t1, t2, t3, t4, t5, t6, t7⟩ := h.two
    have ap := h.ap
    have k1 : IBlock w gb r.s.ns := t1.keeps hk (fun e => (ap gb e.symm).1 rfl)
    have k2 : IBlock w hb r.s.os := t2.keeps hk (fun e => (ap hb e.symm).2.1 rfl)
    have k3 : BBlock w nb r.g.nd := t3.keeps hk (fun e => (ap nb e.symm).2.2 rfl)
    exact ⟨k1.keeps hkz (by omega), k2.keeps hkz (by omega), k3.keeps hkz (by omega), t4, t5, t6, t7⟩
  · rw [List.take_succ_eq_append_getElem hi]
    exact hrow.keeps hkz (fun k e => .inl (by omega)) (fun g hg e => by
      rcases hq' with h' | h'
      · rw [h'] at hg; exact hzk g e hg.symm
      · rw [h'] at hg; injection hg with hg; have h0 : wr.heap[z]? = _ := h.box; have := hlt h0; omega)
  · exact (h.rin.keeps (hk.sub fun k _ e => by have := hqB k e; omega)).keeps (hkz.sub fun k _ e => by omega)
  · exact (h.rc.keeps hk hrb).keeps hkz hrz
  · intro g hg
    rcases hq' with e | e
    · rw [e] at hg; exact h.ap g hg
    · rw [e] at hg
      injection hg with hg
      have := hlt h.two.nest
      have := hlt h.two.opened
      have := hlt h.two.needs
      omega

set_option maxHeartbeats 32000000 in
theorem rhold_ok (z B : Nat) (r : RcS) (u v nv qv : Value) (W : World) (kb : VtBox W z 0 nilV nilV 0 0 false nilV nilV nilV) (hi : RcIn (fun k => z ≤ k) W u v nv qv r) (hr : RcR r) (hm : rmayB r = true) (hzB : z < B) (hBW : B ≤ W.heap.size) :
    Calls Tryz.prog 45 #[.pointer (some ⟨z, 0, none⟩), .agg #[.int .i64 r.s.now, u, v, .int .i64 r.g.done, .int .i64 r.g.asked, .bool r.g.on, nv, qv]] W fun e w' => e = .returned (.tuple #[]) ∧ Keeps (fun k => k = z) W w' ∧ ∃ u' v' nv' qb qc, VtAt w' z B r u' v' nv' qb qc nilV [] := by
  obtain ⟨hgs, hgg, hl1, hl2, hqs⟩ := rmay_facts hm
  obtain ⟨n, hn⟩ : ∃ n, n = r.qs.length := ⟨_, rfl⟩
  rw [← hn] at hl1 hl2
  have hlo := hgs.lo
  have hn1 := hgs.l1
  have hn8 := hgs.l8
  have HQS := Lib.hid (And.intro hn (And.intro hqs (show 1 ≤ n ∧ n ≤ 8 by omega)))
  have HZ := Lib.hid (And.intro hzB hBW)
  obtain ⟨w0, hw0⟩ : ∃ X : World, X = W.alloc (.cells #[.int .i64 r.s.now, u, v, .int .i64 r.g.done, .int .i64 r.g.asked, .bool r.g.on, nv, qv] 30) := ⟨_, rfl⟩
  obtain ⟨-, hb0, hx⟩ := rc_boxed hi.noS hw0
  have hi0 := hi.below hb0
  have hC := rcheck_c u v nv qv r w0 hi0.noS hr
  rw [hm, if_pos rfl] at hC
  have HC := Lib.hid hC
  have HI := Lib.hid (show RcIn (fun k => z ≤ k) w0 u v nv qv r ∧ RcBox w0 W.heap.size r.s.now u v r.g.done r.g.asked r.g.on nv qv ∧ VtBox w0 z 0 nilV nilV 0 0 false nilV nilV nilV ∧ Below W.heap.size W w0 from ⟨hi0, hx, kb.below hb0, hb0⟩)
  have HP := Lib.hid (show ∀ w1, Below w0.heap.size w0 w1 → Calls Tryz.prog 77 #[.agg #[.int .i64 r.s.now, u, v], .agg #[.int .i64 r.g.done, .int .i64 r.g.asked, .bool r.g.on, nv], .slice none 0 0] w1 fun e w' => Play0Q w1.heap.size r.s r.g n e w' ∧ Below w1.heap.size w1 w' from fun w1 hb1 =>
    gPlay0_c r.s u v r.g nv n w1 (hi0.below hb1).nest.1 (hi0.below hb1).opened.1 hgs hgg hl1 hl2 (hi0.below hb1).needs.1 (bools_lt1 (hi0.below hb1).needs.1 (by intro e; rw [e] at hl2; simp at hl2; omega)))
  have HR := Lib.hid hr
  obtain ⟨p1, c1, p2, c2, p3, c3, p4, c4, q1, q2, q3, q4⟩ := hi.sl
  rw [hl1] at q1
  rw [hlo, hl1] at q2
  rw [hl2] at q3
  rw [← hn] at q4
  subst q1 q2 q3 q4
  obtain ⟨d0, d1, d2, d3, d4, d5, d6, d7⟩ := hx.cells
  clear hi0 hb0 hx hC hi hr hm kb hgs hgg hl1 hl2 hqs hlo hn1 hn8 hzB hBW hn
  go_enter Tryz.func45, Tryz.ntmps45
  go_wp2_with fail
  rw [← hw0]
  clear hw0
  (with_reducible refine HC.out.mono ?_)
  rintro e w1 ⟨rfl, hb1⟩
  have HI1 := Lib.hid (show RcIn (fun k => z ≤ k) w1 _ _ _ _ r ∧ RcBox w1 W.heap.size r.s.now _ _ r.g.done r.g.asked r.g.on _ _ ∧ VtBox w1 z 0 nilV nilV 0 0 false nilV nilV nilV ∧ Below W.heap.size W w1 from ⟨HI.out.1.below hb1, HI.out.2.1.below hb1, HI.out.2.2.1.below hb1, below_then HI.out.2.2.2 HI.out.2.2.2.size hb1⟩)
  have HP1 := Lib.hid (HP.out w1 hb1)
  clear hb1 HI HC HP d0 d1 d2 d3 d4 d5 d6 d7
  obtain ⟨d0, d1, d2, d3, d4, d5, d6, d7⟩ := HI1.out.2.1.cells
  go_wp2_with fail
  (with_reducible refine (rmust_ok w1).mono ?_)
  rintro e w ⟨rfl, hww⟩
  rw [hww]
  clear hww w
  go_wp2_with fail
  (with_reducible refine HP1.out.mono ?_)
  rintro e w2 ⟨⟨gb, hb, nb, rfl, h2⟩, hb2⟩
  have hB2 := below_then HI1.out.2.2.2 HI1.out.2.2.2.size hb2
  have HI2 := Lib.hid (show Two0 w1.heap.size r.s r.g n gb hb nb w2 ∧ RcIn (fun k => z ≤ k) w2 _ _ _ _ r ∧ RcBox w2 W.heap.size r.s.now _ _ r.g.done r.g.asked r.g.on _ _ ∧ VtBox w2 z 0 nilV nilV 0 0 false nilV nilV nilV ∧ Below W.heap.size W w2 ∧ W.heap.size < w1.heap.size ∧ w1.heap.size ≤ w2.heap.size from ⟨h2, HI1.out.1.below hb2, HI1.out.2.1.below hb2, HI1.out.2.2.1.below hb2, hB2, HI1.out.2.1.lt, hb2.size⟩)
  clear h2 hb2 hB2 HI1 HP1 d0 d1 d2 d3 d4 d5 d6 d7
  obtain ⟨z4, hz4⟩ : ∃ x, x = w2.heap.size := ⟨_, rfl⟩
  obtain ⟨w3, hw3⟩ : ∃ X : World, X = (w2.alloc (.cells #[.int .i64 r.s.now, .slice (some ⟨gb, 0, none⟩) n n, .slice (some ⟨hb, 0, none⟩) n n] 24)).alloc (.cells #[.int .i64 r.g.done, .int .i64 r.g.asked, .bool r.g.on, .slice (some ⟨nb, 0, none⟩) n n] 27) := ⟨_, rfl⟩
  have hb3 : Below w2.heap.size w2 w3 := by rw [hw3]; exact below2 _ _ _
  have hR3 : RBox w3 z4 r.s.now (.slice (some ⟨gb, 0, none⟩) n n) (.slice (some ⟨hb, 0, none⟩) n n) := by rw [hw3, hz4]; exact (RBox.new w2 _ _ _).below (below1 _ _)
  have hG3 : GBox w3 (z4 + 1) r.g.done r.g.asked r.g.on (.slice (some ⟨nb, 0, none⟩) n n) := by
    rw [hw3, hz4]
    have := GBox.new (w2.alloc (.cells #[.int .i64 r.s.now, .slice (some ⟨gb, 0, none⟩) n n, .slice (some ⟨hb, 0, none⟩) n n] 24)) r.g.done r.g.asked r.g.on (.slice (some ⟨nb, 0, none⟩) n n)
    rwa [World.size_alloc] at this
  have HI3 := Lib.hid (show Two0 w1.heap.size r.s r.g n gb hb nb w3 ∧ RcIn (fun k => z ≤ k) w3 _ _ _ _ r ∧ RcBox w3 W.heap.size r.s.now _ _ r.g.done r.g.asked r.g.on _ _ ∧ VtBox w3 z 0 nilV nilV 0 0 false nilV nilV nilV ∧ Below W.heap.size W w3 ∧ W.heap.size < w1.heap.size ∧ w1.heap.size ≤ z4 ∧ RBox w3 z4 r.s.now (.slice (some ⟨gb, 0, none⟩) n n) (.slice (some ⟨hb, 0, none⟩) n n) ∧ GBox w3 (z4 + 1) r.g.done r.g.asked r.g.on (.slice (some ⟨nb, 0, none⟩) n n) from by
    obtain ⟨i1, i2, i3, i4, i5, i6, i7⟩ := HI2.out
    exact ⟨i1.below hb3, i2.below hb3, i3.below hb3, i4.below hb3, below_then i5 i5.size hb3, i6, by omega, hR3, hG3⟩)
  have HW3 := Lib.hid (And.intro hw3 hz4)
  clear hw3 hz4 hb3 hR3 hG3 HI2
  go_upto_region 3 with fail
  rw [← HW3.out.1, ← HW3.out.2]
  clear HW3
  go_wp2_with fail
  (with_reducible refine (rmust_ok w3).mono ?_)
  rintro e w ⟨rfl, hww⟩
  rw [hww]
  clear hww w
  have hF : ∀ X : World, (X = (((((((w3.drew.setCell ⟨z, 0, none⟩ (.int .i64 r.s.now)).setCell ⟨z, 1, none⟩ (rowV gb n)).setCell ⟨z, 2, none⟩ (rowV hb n)).setCell ⟨z, 3, none⟩ (.int .i64 r.g.done)).setCell ⟨z, 4, none⟩ (.int .i64 r.g.asked)).setCell ⟨z, 5, none⟩ (.bool r.g.on)).setCell ⟨z, 6, none⟩ (rowV nb n)) ∨ X = (((((((w3.drew.setCell ⟨z, 3, none⟩ (.int .i64 r.g.done)).setCell ⟨z, 4, none⟩ (.int .i64 r.g.asked)).setCell ⟨z, 5, none⟩ (.bool r.g.on)).setCell ⟨z, 6, none⟩ (rowV nb n)).setCell ⟨z, 0, none⟩ (.int .i64 r.s.now)).setCell ⟨z, 1, none⟩ (rowV gb n)).setCell ⟨z, 2, none⟩ (rowV hb n))) → HoI z B W.heap.size r (.slice p1 n c1) (.slice p2 n c2) (.slice p3 n c3) (.slice p4 n c4) n gb hb nb 0 nilV X ∧ Keeps (fun k => k = z) W X := by
    intro X hX
    obtain ⟨i1, i2, i3, i4, i5, i6, i7, i8, i9⟩ := HI3.out
    have hbd : Below w3.heap.size w3 w3.drew := (Below.refl _ _).drew
    have hbx := i4.below hbd
    have hz := HZ.out
    have hk : VtBox X z r.s.now (rowV gb n) (rowV hb n) r.g.done r.g.asked r.g.on (rowV nb n) nilV nilV ∧ Keeps (fun k => k = z) w3.drew X := by
      rcases hX with rfl | rfl
      · exact ⟨(hbx.putR _ _ _).putG _ _ _ _, (VtBox.putRK _ z _ _ _).trans (VtBox.putGK _ z _ _ _ _)⟩
      · exact ⟨(hbx.putG _ _ _ _).putR _ _ _, (VtBox.putGK _ z _ _ _ _).trans (VtBox.putRK _ z _ _ _)⟩
    refine ⟨⟨hk.1, ?_, by rw [List.take_zero]; exact QOwn.nil _ _ _, (i2.below hbd).keeps (hk.2.sub fun k _ e => by omega), (i3.below hbd).keeps hk.2 (by omega), fun g hg => by cases hg⟩, (Keeps.of_below (below_then i5 i5.size hbd)).trans hk.2⟩
    have := i1.below hbd
    exact (this.keep1 hk.2 hbx (by decide)).mono (by have := i5.size; omega)
  have HFX := Lib.hid hF
  have hzz : ¬ z4 = z ∧ ¬ z4 + 1 = z := by
    obtain ⟨i1, i2, i3, i4, i5, i6, i7, i8, i9⟩ := HI3.out
    have := HZ.out
    omega
  have HZ4 := Lib.hid (show W.heap.size < z4 ∧ ¬ z4 = z ∧ ¬ z4 + 1 = z from by
    obtain ⟨i1, i2, i3, i4, i5, i6, i7, i8, i9⟩ := HI3.out
    omega)
  clear hF hzz
  go_upto_region 4 with fail
  go_cut [4] (fun _ wc => Hid (HoI z B W.heap.size r (.slice p1 n c1) (.slice p2 n c2) (.slice p3 n c3) (.slice p4 n c4) n gb hb nb 0 nilV wc ∧ Keeps (fun k => k = z) W wc))
  case first =>
    refine wpTwo_begin (T := fun w' => RBox w' z4 r.s.now (.slice (some ⟨gb, 0, none⟩) n n) (.slice (some ⟨hb, 0, none⟩) n n) ∧ GBox w' (z4 + 1) r.g.done r.g.asked r.g.on (.slice (some ⟨nb, 0, none⟩) n n)) (S := fun _ => True) (late := fun _ => false) (by kernel_rfl) ?_
    obtain ⟨X, hX⟩ : ∃ Y : World, Y = w3.drew := ⟨_, rfl⟩
    rw [← hX] at HFX
    rw [← hX]
    have hbx : Below w3.heap.size w3 X := by rw [hX]; exact (Below.refl _ _).drew
    clear hX
    have hT0 : RBox X z4 r.s.now (.slice (some ⟨gb, 0, none⟩) n n) (.slice (some ⟨hb, 0, none⟩) n n) ∧ GBox X (z4 + 1) r.g.done r.g.asked r.g.on (.slice (some ⟨nb, 0, none⟩) n n) := ⟨HI3.out.2.2.2.2.2.2.2.1.below hbx, HI3.out.2.2.2.2.2.2.2.2.below hbx⟩
    have hV := HI3.out.2.2.2.1.below hbx
    clear hbx HI3
    refine wpTwo_takeT (i := 0) (v := .pointer (some ⟨z, 0, none⟩)) rfl (by kernel_rfl) (by kernel_rfl) (by kernel_rfl) (fun _ _ _ h => h) ⟨by rfl, ?_⟩ hT0 ?_
    · intro w _
      go_simp
    (try simp only [Act.put, List.getElem_toArray, List.getElem_cons_zero, List.setIfInBounds_toArray, List.set_cons_succ, List.set_cons_zero])
    refine wpTwo_takeT (i := 1) (v := .pointer (some ⟨z, 0, none⟩)) rfl (by kernel_rfl) (by kernel_rfl) (by kernel_rfl) (fun _ _ _ h => h) ⟨by rfl, ?_⟩ hT0 ?_
    · intro w _
      go_simp
    (try simp only [Act.put, List.getElem_toArray, List.getElem_cons_succ, List.getElem_cons_zero, List.setIfInBounds_toArray, List.set_cons_succ, List.set_cons_zero])
    refine wpTwo_takeT (i := 2) (v := .agg #[.int .i64 r.s.now, .slice (some ⟨gb, 0, none⟩) n n, .slice (some ⟨hb, 0, none⟩) n n]) rfl (by kernel_rfl) (by kernel_rfl) (by kernel_rfl) (fun _ _ _ h => h) ⟨by rfl, ?_⟩ hT0 ?_
    · rintro w ⟨hT1, hT2⟩
      obtain ⟨t0, t1, t2⟩ := hT1.cells
      obtain ⟨t3, t4, t5, t6⟩ := hT2.cells
      go_simp
    (try simp only [Act.put, List.getElem_toArray, List.getElem_cons_succ, List.getElem_cons_zero, List.setIfInBounds_toArray, List.set_cons_succ, List.set_cons_zero])
    refine wpTwo_takeT (i := 3) (v := .agg #[.int .i64 r.g.done, .int .i64 r.g.asked, .bool r.g.on, .slice (some ⟨nb, 0, none⟩) n n]) rfl (by kernel_rfl) (by kernel_rfl) (by kernel_rfl) (fun _ _ _ h => h) ⟨by rfl, ?_⟩ hT0 ?_
    · rintro w ⟨hT1, hT2⟩
      obtain ⟨t0, t1, t2⟩ := hT1.cells
      obtain ⟨t3, t4, t5, t6⟩ := hT2.cells
      go_simp
    (try simp only [Act.put, List.getElem_toArray, List.getElem_cons_succ, List.getElem_cons_zero, List.setIfInBounds_toArray, List.set_cons_succ, List.set_cons_zero])
    refine wpTwo_takeT (i := 4) (v := .pointer (some ⟨z, 0, none⟩)) rfl (by kernel_rfl) (by kernel_rfl) (by kernel_rfl) (fun _ _ _ h => h) ⟨by rfl, ?_⟩ hT0 ?_
    · intro w _
      go_simp
    (try simp only [Act.put, List.getElem_toArray, List.getElem_cons_succ, List.getElem_cons_zero, List.setIfInBounds_toArray, List.set_cons_succ, List.set_cons_zero])
    refine wpTwo_takeT (i := 5) (v := .pointer (some ⟨z, 0, none⟩)) rfl (by kernel_rfl) (by kernel_rfl) (by kernel_rfl) (fun _ _ _ h => h) ⟨by rfl, ?_⟩ hT0 ?_
    · intro w _
      go_simp
    (try simp only [Act.put, List.getElem_toArray, List.getElem_cons_succ, List.getElem_cons_zero, List.setIfInBounds_toArray, List.set_cons_succ, List.set_cons_zero])
    refine wpTwo_takeT (i := 6) (v := .pointer (some ⟨z, 0, none⟩)) rfl (by kernel_rfl) (by kernel_rfl) (by kernel_rfl) (fun _ _ _ h => h) ⟨by rfl, ?_⟩ hT0 ?_
    · intro w _
      go_simp
    (try simp only [Act.put, List.getElem_toArray, List.getElem_cons_succ, List.getElem_cons_zero, List.setIfInBounds_toArray, List.set_cons_succ, List.set_cons_zero])
    obtain ⟨e0, e1, e2, e3, e4, e5, e6, e7, e8⟩ := hV.cells
    have m0 := hV.marks 0
    have m1 := hV.marks 1
    have m2 := hV.marks 2
    have m3 := hV.marks 3
    have m4 := hV.marks 4
    have m5 := hV.marks 5
    have m6 := hV.marks 6
    refine wpTwo_ready (rs := [7]) (by kernel_rfl) (by simp) ?_
    refine (AllTwo.cons rfl (fun K hK => ?_) AllTwo.nil)
    go_simp
    obtain ⟨Y, hY⟩ : ∃ V : World, V = ((X.setCell ⟨z, 0, none⟩ (.int .i64 r.s.now)).setCell ⟨z, 1, none⟩ (.slice (some ⟨gb, 0, none⟩) n n)).setCell ⟨z, 2, none⟩ (.slice (some ⟨hb, 0, none⟩) n n) := ⟨_, rfl⟩
    have hVY : VtBox Y z r.s.now (.slice (some ⟨gb, 0, none⟩) n n) (.slice (some ⟨hb, 0, none⟩) n n) 0 0 false nilV nilV nilV := by rw [hY]; exact hV.putR _ _ _
    have hKY : Keeps (fun k => k = z) X Y := by rw [hY]; exact VtBox.putRK _ z _ _ _
    rw [← hY]
    have hT1 : RBox Y z4 r.s.now (.slice (some ⟨gb, 0, none⟩) n n) (.slice (some ⟨hb, 0, none⟩) n n) ∧ GBox Y (z4 + 1) r.g.done r.g.asked r.g.on (.slice (some ⟨nb, 0, none⟩) n n) := ⟨hT0.1.keeps hKY HZ4.out.2.1, hT0.2.keeps hKY HZ4.out.2.2⟩
    refine hK.out _ _ ⟨hT1, fun _ _ => trivial⟩ ?_
    clear hK K
    (try simp only [Act.put, List.getElem_toArray, List.getElem_cons_succ, List.getElem_cons_zero, List.setIfInBounds_toArray, List.set_cons_succ, List.set_cons_zero])
    have HY_ := Lib.hid hY
    clear hY
    clear e0 e1 e2 e3 e4 e5 e6 e7 e8 m0 m1 m2 m3 m4 m5 m6
    obtain ⟨e0, e1, e2, e3, e4, e5, e6, e7, e8⟩ := hVY.cells
    have m0 := hVY.marks 0
    have m1 := hVY.marks 1
    have m2 := hVY.marks 2
    have m3 := hVY.marks 3
    have m4 := hVY.marks 4
    have m5 := hVY.marks 5
    have m6 := hVY.marks 6
    refine wpTwo_takeT (i := 8) (v := .pointer (some ⟨z, 0, none⟩)) rfl (by kernel_rfl) (by kernel_rfl) (by kernel_rfl) (fun _ _ _ h => h) ⟨by rfl, ?_⟩ hT1 ?_
    · intro w _
      go_simp
    (try simp only [Act.put, List.getElem_toArray, List.getElem_cons_succ, List.getElem_cons_zero, List.setIfInBounds_toArray, List.set_cons_succ, List.set_cons_zero])
    refine wpTwo_takeT (i := 9) (v := .pointer (some ⟨z, 0, none⟩)) rfl (by kernel_rfl) (by kernel_rfl) (by kernel_rfl) (fun _ _ _ h => h) ⟨by rfl, ?_⟩ hT1 ?_
    · intro w _
      go_simp
    (try simp only [Act.put, List.getElem_toArray, List.getElem_cons_succ, List.getElem_cons_zero, List.setIfInBounds_toArray, List.set_cons_succ, List.set_cons_zero])
    refine wpTwo_takeT (i := 10) (v := .pointer (some ⟨z, 3, none⟩)) rfl (by kernel_rfl) (by kernel_rfl) (by kernel_rfl) (fun _ _ _ h => h) ⟨by rfl, ?_⟩ hT1 ?_
    · intro w _
      go_simp
    (try simp only [Act.put, List.getElem_toArray, List.getElem_cons_succ, List.getElem_cons_zero, List.setIfInBounds_toArray, List.set_cons_succ, List.set_cons_zero])
    refine wpTwo_ready (rs := [11]) (by kernel_rfl) (by simp) ?_
    refine (AllTwo.cons rfl (fun K hK => ?_) AllTwo.nil)
    go_simp
    obtain ⟨Z, hZ⟩ : ∃ V : World, V = (((Y.setCell ⟨z, 3, none⟩ (.int .i64 r.g.done)).setCell ⟨z, 4, none⟩ (.int .i64 r.g.asked)).setCell ⟨z, 5, none⟩ (.bool r.g.on)).setCell ⟨z, 6, none⟩ (.slice (some ⟨nb, 0, none⟩) n n) := ⟨_, rfl⟩
    have hVZ : VtBox Z z r.s.now (.slice (some ⟨gb, 0, none⟩) n n) (.slice (some ⟨hb, 0, none⟩) n n) r.g.done r.g.asked r.g.on (.slice (some ⟨nb, 0, none⟩) n n) nilV nilV := by rw [hZ]; exact hVY.putG _ _ _ _
    have hKZ : Keeps (fun k => k = z) Y Z := by rw [hZ]; exact VtBox.putGK _ z _ _ _ _
    rw [← hZ]
    have hT2 : RBox Z z4 r.s.now (.slice (some ⟨gb, 0, none⟩) n n) (.slice (some ⟨hb, 0, none⟩) n n) ∧ GBox Z (z4 + 1) r.g.done r.g.asked r.g.on (.slice (some ⟨nb, 0, none⟩) n n) := ⟨hT1.1.keeps hKZ HZ4.out.2.1, hT1.2.keeps hKZ HZ4.out.2.2⟩
    refine hK.out _ _ ⟨hT2, fun _ _ => trivial⟩ ?_
    clear hK K
    (try simp only [Act.put, List.getElem_toArray, List.getElem_cons_succ, List.getElem_cons_zero, List.setIfInBounds_toArray, List.set_cons_succ, List.set_cons_zero])
    have HZ_ := Lib.hid hZ
    clear hZ
    refine wpTwo_end (by kernel_rfl) ?_ _
    have HZF := Lib.hid (HFX.out Z (.inl (by rw [HZ_.out, HY_.out]; rfl)))
    clear e0 e1 e2 e3 e4 e5 e6 e7 e8 m0 m1 m2 m3 m4 m5 m6 hT0 hT1 hT2 hV hVY hVZ hKY hKZ
    go_wp2_with fail
    go_meet
    exact HZF
  case rest =>
    have HH := Lib.hid (And.intro (And.intro hcut.out.1 (show ∀ g, nilV.ownBlock = some g → W.heap.size < g from fun g hg => by cases hg)) (hcut.out.2.sub (T := fun k => k = z ∨ W.heap.size < k) fun k _ h => .inl h))
    clear hcut HFX HZ4
    obtain ⟨d0, d1, d2, d3, d4, d5, d6, d7⟩ := HH.out.1.1.rc.cells
    go_wp2
    clear d0 d1 d2 d3 d4 d5 d6 d7
    go_loopw [38] (fun iv wr => ∃ i : Nat, i ≤ n ∧ iv = .int .i64 (i : Int) ∧ ∃ q, Hid ((HoI z B W.heap.size r (.slice p1 n c1) (.slice p2 n c2) (.slice p3 n c3) (.slice p4 n c4) n gb hb nb i q wr ∧ ∀ g, q.ownBlock = some g → W.heap.size < g) ∧ Keeps (fun k => k = z ∨ W.heap.size < k) W wr)) (fun iv _ => n - (intOf iv).toNat)
    case atStart => exact ⟨0, Nat.zero_le _, rfl, nilV, HH⟩
    case round =>
      clear HH
      obtain ⟨i, hi, rfl, q, HI⟩ := hrel
      by_cases hlt : i < n
      · have hil : i < r.qs.length := by have := HQS.out.1; omega
        obtain ⟨b, off, rfl, lv, hx, hy, hcb⟩ := queue_at HI.out.1.1.rin.queues i hil
        obtain ⟨hq1, hq2, hq3⟩ := HQS.out.2.1 _ (List.getElem_mem hil)
        obtain ⟨pq, cq, hqe⟩ := HI.out.1.1.sl
        have hlk : (r.qs.take i).length = i := by rw [List.length_take]; omega
        rw [hlk] at hqe
        subst hqe
        obtain ⟨y, hye⟩ : ∃ y, y = r.qs[i].1 := ⟨_, rfl⟩
        obtain ⟨l, hle⟩ : ∃ l, l = r.qs[i].2 := ⟨_, rfl⟩
        have HYL := Lib.hid (show r.qs[i] = (y, l) by rw [hye, hle])
        rw [← hye] at hy hq1
        rw [← hle] at hcb hq1
        have hy0 : 0 ≤ y := by rw [hye]; exact HR.out.ov _ (List.getElem_mem hil)
        obtain ⟨lp, lc, rfl, -⟩ := id hcb
        obtain ⟨k, hk⟩ : ∃ k, k = l.length := ⟨_, rfl⟩
        rw [← hk] at hx hcb
        obtain ⟨z9, hz9⟩ : ∃ x, x = wr.heap.size := ⟨_, rfl⟩
        obtain ⟨wb, hwb⟩ : ∃ X : World, X = wr.alloc (.cells #[.slice lp k lc, .int .u64 y] 66) := ⟨_, rfl⟩
        have hbb : Below wr.heap.size wr wb := by rw [hwb]; exact below1 _ _
        have hqx : U.QBox wb z9 (.slice lp k lc) y := by rw [hwb, hz9]; exact U.QBox.new _ _ _
        have HB := Lib.hid (show (HoI z B W.heap.size r (.slice p1 n c1) (.slice p2 n c2) (.slice p3 n c3) (.slice (some ⟨b, off, none⟩) n c4) n gb hb nb i (.slice pq i cq) wb ∧ ∀ g, (Value.slice pq i cq).ownBlock = some g → W.heap.size < g) ∧ Keeps (fun k => k = z ∨ W.heap.size < k) W wb ∧ U.QBox wb z9 (.slice lp k lc) y ∧ U.CbOut (fun k => z ≤ k) wb (.slice lp k lc) l ∧ W.heap.size ≤ wb.heap.size from
          ⟨⟨HI.out.1.1.below hbb, HI.out.1.2⟩, HI.out.2.trans (Keeps.of_below hbb), hqx, hcb.below hbb, Nat.le_trans HI.out.2.size hbb.size⟩)
        have HE := Lib.hid (And.intro hq1 (And.intro hy0 hk))
        have HZ9 := Lib.hid (show (∀ g, (Value.slice pq i cq).ownBlock = some g → g < z9) ∧ z < z9 from ⟨fun g hg => by obtain ⟨m, h1, -⟩ := HI.out.1.1.row; rw [hz9]; exact (h1.lt g hg).2, by rw [hz9]; exact HI.out.1.1.box.lt⟩)
        have HW := Lib.hid (And.intro hwb hz9)
        have hi0 : (0 : Int) ≤ (i : Int) := by omega
        have hlt' : (i : Int) < (n : Int) := by omega
        clear hwb hz9 hbb hqx hcb HI hq1 hq2 hq3 hye hle hy0 hk hlk
        go_upto_region 8 with fail
        rw [← HW.out.1, ← HW.out.2]
        clear HW hx hy
        refine wpTwo_begin (T := fun w' => U.QBox w' z9 (.slice lp k lc) y) (S := fun w' => VtBox w' z r.s.now (rowV gb n) (rowV hb n) r.g.done r.g.asked r.g.on (rowV nb n) (.slice pq i cq) nilV) (late := fun j => [18].contains j) (by kernel_rfl) ?_
        obtain ⟨X, hX⟩ : ∃ Y : World, Y = wb.drew := ⟨_, rfl⟩
        rw [← hX]
        have hbx : Below wb.heap.size wb X := by rw [hX]; exact (Below.refl _ _).drew
        clear hX
        have HBX := Lib.hid (show (HoI z B W.heap.size r (.slice p1 n c1) (.slice p2 n c2) (.slice p3 n c3) (.slice (some ⟨b, off, none⟩) n c4) n gb hb nb i (.slice pq i cq) X ∧ ∀ g, (Value.slice pq i cq).ownBlock = some g → W.heap.size < g) ∧ Keeps (fun k => k = z ∨ W.heap.size < k) W X ∧ U.QBox X z9 (.slice lp k lc) y ∧ U.CbOut (fun k => z ≤ k) X (.slice lp k lc) l ∧ W.heap.size ≤ X.heap.size from ⟨⟨HB.out.1.1.below hbx, HB.out.1.2⟩, HB.out.2.1.trans (Keeps.of_below hbx), HB.out.2.2.1.below hbx, HB.out.2.2.2.1.below hbx, Nat.le_trans HB.out.2.2.2.2 hbx.size⟩)
        have hT0 : VtBox X z r.s.now (rowV gb n) (rowV hb n) r.g.done r.g.asked r.g.on (rowV nb n) (.slice pq i cq) nilV ∧ U.QBox X z9 (.slice lp k lc) y := ⟨HBX.out.1.1.box, HBX.out.2.2.1⟩
        clear hbx HB
        refine wpTwo_takeT (i := 0) (v := .pointer (some ⟨z, 0, none⟩)) rfl (by kernel_rfl) (by kernel_rfl) (by kernel_rfl) (fun _ _ _ h => h) ⟨by rfl, ?_⟩ hT0.2 ?_
        · intro w _
          go_simp
        (try simp only [Act.put, List.getElem_toArray, List.getElem_cons_zero, List.setIfInBounds_toArray, List.set_cons_succ, List.set_cons_zero])
        refine wpTwo_takeT (i := 1) (v := .pointer (some ⟨z, 0, none⟩)) rfl (by kernel_rfl) (by kernel_rfl) (by kernel_rfl) (fun _ _ _ h => h) ⟨by rfl, ?_⟩ hT0.2 ?_
        · intro w _
          go_simp
        (try simp only [Act.put, List.getElem_toArray, List.getElem_cons_succ, List.getElem_cons_zero, List.setIfInBounds_toArray, List.set_cons_succ, List.set_cons_zero])
        refine wpTwo_takeT (i := 2) (v := .pointer (some ⟨z, 0, none⟩)) rfl (by kernel_rfl) (by kernel_rfl) (by kernel_rfl) (fun _ _ _ h => h) ⟨by rfl, ?_⟩ hT0.2 ?_
        · intro w _
          go_simp
        (try simp only [Act.put, List.getElem_toArray, List.getElem_cons_succ, List.getElem_cons_zero, List.setIfInBounds_toArray, List.set_cons_succ, List.set_cons_zero])
        refine wpTwo_takeT (i := 3) (v := .pointer (some ⟨z, 0, none⟩)) rfl (by kernel_rfl) (by kernel_rfl) (by kernel_rfl) (fun _ _ _ h => h) ⟨by rfl, ?_⟩ hT0.2 ?_
        · intro w _
          go_simp
        (try simp only [Act.put, List.getElem_toArray, List.getElem_cons_succ, List.getElem_cons_zero, List.setIfInBounds_toArray, List.set_cons_succ, List.set_cons_zero])
        refine wpTwo_takeT (i := 4) (v := .pointer (some ⟨z, 7, none⟩)) rfl (by kernel_rfl) (by kernel_rfl) (by kernel_rfl) (fun _ _ _ h => h) ⟨by rfl, ?_⟩ hT0.2 ?_
        · intro w _
          go_simp
        (try simp only [Act.put, List.getElem_toArray, List.getElem_cons_succ, List.getElem_cons_zero, List.setIfInBounds_toArray, List.set_cons_succ, List.set_cons_zero])
        refine wpTwo_takeS (i := 5) (v := .slice pq i cq) (waits_all (by kernel_rfl)) rfl (by kernel_rfl) (by kernel_rfl) (by kernel_rfl) (fun _ _ _ h => h) ⟨by rfl, ?_⟩ ⟨hT0.2, hT0.1⟩ ?_
        · rintro w ⟨hT2, hT1⟩
          obtain ⟨t0, t1, t2, t3, t4, t5, t6, t7, t8⟩ := hT1.cells
          go_simp
        (try simp only [Act.put, List.getElem_toArray, List.getElem_cons_succ, List.getElem_cons_zero, List.setIfInBounds_toArray, List.set_cons_succ, List.set_cons_zero])
        refine wpTwo_takeT (i := 6) (v := .agg #[.slice lp k lc, .int .u64 y]) rfl (by kernel_rfl) (by kernel_rfl) (by kernel_rfl) (fun _ _ _ h => h) ⟨by rfl, ?_⟩ hT0.2 ?_
        · rintro w hT2
          obtain ⟨s0, s1⟩ := hT2.cells
          go_simp
        (try simp only [Act.put, List.getElem_toArray, List.getElem_cons_succ, List.getElem_cons_zero, List.setIfInBounds_toArray, List.set_cons_succ, List.set_cons_zero])
        refine wpTwo_takeT (i := 7) (v := .pointer (some ⟨z9, 1, none⟩)) rfl (by kernel_rfl) (by kernel_rfl) (by kernel_rfl) (fun _ _ _ h => h) ⟨by rfl, ?_⟩ hT0.2 ?_
        · intro w _
          go_simp
        (try simp only [Act.put, List.getElem_toArray, List.getElem_cons_succ, List.getElem_cons_zero, List.setIfInBounds_toArray, List.set_cons_succ, List.set_cons_zero])
        refine wpTwo_takeT (i := 8) (v := .int .u64 y) rfl (by kernel_rfl) (by kernel_rfl) (by kernel_rfl) (fun _ _ _ h => h) ⟨by rfl, ?_⟩ hT0.2 ?_
        · rintro w hT2
          obtain ⟨s0, s1⟩ := hT2.cells
          go_simp
        (try simp only [Act.put, List.getElem_toArray, List.getElem_cons_succ, List.getElem_cons_zero, List.setIfInBounds_toArray, List.set_cons_succ, List.set_cons_zero])
        have HC := Lib.hid (U.end_c (.slice lp k lc) y l y X (HBX.out.2.2.2.1.sub (fun _ h => False.elim h)) HE.out.2.1)
        refine wpTwo_ready (rs := [9]) (by kernel_rfl) (by simp) ?_
        refine (AllTwo.cons rfl (fun K hK => ?_) AllTwo.nil)
        go_simp
        (with_reducible refine HC.out.mono ?_)
        rintro e X1 ⟨hEQ, hb1⟩
        obtain ⟨v', rfl, ho⟩ : U.AnsQ X.heap.size 0 y l e X1 := by
          rcases hEQ with ⟨-, h⟩ | ⟨h, -⟩
          · exact h
          · exact absurd (show U.endE y l y = 0 by unfold U.endE; rw [if_pos HE.out.1, if_neg (by have := (U.may_parts HE.out.1).1; omega)]) h
        obtain ⟨p', c', rfl⟩ := owns_slice ho
        rw [← HE.out.2.2] at ho
        rw [← HE.out.2.2]
        have HBX1 := Lib.hid (show (HoI z B W.heap.size r (.slice p1 n c1) (.slice p2 n c2) (.slice p3 n c3) (.slice (some ⟨b, off, none⟩) n c4) n gb hb nb i (.slice pq i cq) X1 ∧ ∀ g, (Value.slice pq i cq).ownBlock = some g → W.heap.size < g ∧ g < X.heap.size) ∧ Keeps (fun k => k = z ∨ W.heap.size < k) W X1 ∧ U.QBox X1 z9 (.slice lp k lc) y ∧ U.CbOut (fun k => k < X.heap.size) X1 (.slice p' k c') l ∧ B ≤ X.heap.size ∧ W.heap.size ≤ X1.heap.size from ⟨⟨HBX.out.1.1.below hb1, fun g hg => ⟨HBX.out.1.2 g hg, by obtain ⟨m, h1, -⟩ := HBX.out.1.1.row; exact (h1.lt g hg).2⟩⟩, HBX.out.2.1.trans (Keeps.of_below hb1), HBX.out.2.2.1.below hb1, U.cb_of_owns ho, by have := HZ.out; have := HBX.out.2.2.2.2; omega, Nat.le_trans HBX.out.2.2.2.2 hb1.size⟩)
        have hT1 : VtBox X1 z r.s.now (rowV gb n) (rowV hb n) r.g.done r.g.asked r.g.on (rowV nb n) (.slice pq i cq) nilV ∧ U.QBox X1 z9 (.slice lp k lc) y := ⟨HBX1.out.1.1.box, HBX1.out.2.2.1⟩
        clear hEQ hb1 ho HC HBX hT0
        go_wp2_with fail
        refine hK.out _ _ ⟨hT1.2, fun _ _ => hT1.1⟩ ?_
        clear hK K
        (try simp only [Act.put, List.getElem_toArray, List.getElem_cons_succ, List.getElem_cons_zero, List.setIfInBounds_toArray, List.set_cons_succ, List.set_cons_zero])
        refine wpTwo_takeT (i := 10) (v := .agg #[.slice p' k c', .int .u64 y]) rfl (by kernel_rfl) (by kernel_rfl) (by kernel_rfl) (fun _ _ _ h => h) ⟨by rfl, ?_⟩ hT1.2 ?_
        · intro w _
          go_simp
        (try simp only [Act.put, List.getElem_toArray, List.getElem_cons_succ, List.getElem_cons_zero, List.setIfInBounds_toArray, List.set_cons_succ, List.set_cons_zero])
        refine wpTwo_takeT (i := 11) (v := .int .i64 0) rfl (by kernel_rfl) (by kernel_rfl) (by kernel_rfl) (fun _ _ _ h => h) ⟨by rfl, ?_⟩ hT1.2 ?_
        · intro w _
          go_simp
        (try simp only [Act.put, List.getElem_toArray, List.getElem_cons_succ, List.getElem_cons_zero, List.setIfInBounds_toArray, List.set_cons_succ, List.set_cons_zero])
        refine wpTwo_ready (rs := [12]) (by kernel_rfl) (by simp) ?_
        refine (AllTwo.cons rfl (fun K hK => ?_) AllTwo.nil)
        go_simp
        (with_reducible refine (gotQ_ok p' k c' y X1).mono ?_)
        rintro e X2 ⟨rfl, hb2⟩
        have HBX2 := Lib.hid (show (HoI z B W.heap.size r (.slice p1 n c1) (.slice p2 n c2) (.slice p3 n c3) (.slice (some ⟨b, off, none⟩) n c4) n gb hb nb i (.slice pq i cq) X2 ∧ ∀ g, (Value.slice pq i cq).ownBlock = some g → W.heap.size < g ∧ g < X.heap.size) ∧ Keeps (fun k => k = z ∨ W.heap.size < k) W X2 ∧ U.QBox X2 z9 (.slice lp k lc) y ∧ U.CbOut (fun k => k < X.heap.size) X2 (.slice p' k c') l ∧ B ≤ X.heap.size ∧ W.heap.size ≤ X2.heap.size from ⟨⟨HBX1.out.1.1.below hb2, HBX1.out.1.2⟩, HBX1.out.2.1.trans (Keeps.of_below hb2), HBX1.out.2.2.1.below hb2, HBX1.out.2.2.2.1.below hb2, HBX1.out.2.2.2.2.1, Nat.le_trans HBX1.out.2.2.2.2.2 hb2.size⟩)
        have hT2 : VtBox X2 z r.s.now (rowV gb n) (rowV hb n) r.g.done r.g.asked r.g.on (rowV nb n) (.slice pq i cq) nilV ∧ U.QBox X2 z9 (.slice lp k lc) y := ⟨HBX2.out.1.1.box, HBX2.out.2.2.1⟩
        clear hb2 HBX1 hT1
        go_wp2_with fail
        refine hK.out _ _ ⟨hT2.2, fun _ _ => hT2.1⟩ ?_
        clear hK K
        (try simp only [Act.put, List.getElem_toArray, List.getElem_cons_succ, List.getElem_cons_zero, List.setIfInBounds_toArray, List.set_cons_succ, List.set_cons_zero])
        refine wpTwo_ready (rs := [13]) (by kernel_rfl) (by simp) ?_
        refine (AllTwo.cons rfl (fun K hK => ?_) AllTwo.nil)
        go_simp
        obtain ⟨zb, hzb⟩ : ∃ x, x = X2.heap.size := ⟨_, rfl⟩
        obtain ⟨X3, hX3⟩ : ∃ V : World, V = X2.alloc (.cells #[.slice p' k c', .int .u64 y] 66) := ⟨_, rfl⟩
        rw [← hX3, ← hzb]
        have hb3 : Below X2.heap.size X2 X3 := by rw [hX3]; exact below1 _ _
        have hq3 : U.QBox X3 zb (.slice p' k c') y := by rw [hX3, hzb]; exact U.QBox.new _ _ _
        have HBX3 := Lib.hid (show (HoI z B W.heap.size r (.slice p1 n c1) (.slice p2 n c2) (.slice p3 n c3) (.slice (some ⟨b, off, none⟩) n c4) n gb hb nb i (.slice pq i cq) X3 ∧ ∀ g, (Value.slice pq i cq).ownBlock = some g → W.heap.size < g ∧ g < X.heap.size) ∧ Keeps (fun k => k = z ∨ W.heap.size < k) W X3 ∧ U.QBox X3 z9 (.slice lp k lc) y ∧ U.CbOut (fun k => k < X.heap.size) X3 (.slice p' k c') l ∧ B ≤ X.heap.size ∧ W.heap.size ≤ X3.heap.size from ⟨⟨HBX2.out.1.1.below hb3, HBX2.out.1.2⟩, HBX2.out.2.1.trans (Keeps.of_below hb3), HBX2.out.2.2.1.below hb3, HBX2.out.2.2.2.1.below hb3, HBX2.out.2.2.2.2.1, Nat.le_trans HBX2.out.2.2.2.2.2 hb3.size⟩)
        have hT3 : VtBox X3 z r.s.now (rowV gb n) (rowV hb n) r.g.done r.g.asked r.g.on (rowV nb n) (.slice pq i cq) nilV ∧ U.QBox X3 z9 (.slice lp k lc) y := ⟨HBX3.out.1.1.box, HBX3.out.2.2.1⟩
        obtain ⟨a0, a1⟩ := hq3.cells
        have happ := run_app_q (hS B (.slice pq i cq)) B (.slice pq i cq) (r.qs.take i) X3 HBX3.out.1.1.row zb 1 (.slice p' k c') y l a0 a1 (HBX3.out.2.2.2.1.sub (fun k hk => by rcases hk with h | h; have := HBX3.out.2.2.2.2.1; omega; exact (HBX3.out.1.2 k h.symm).2)) (by rw [List.length_take]; have := HQS.out; omega) (by have := HZ.out; have := HBX3.out.2.2.2.2.2; omega) (fun k h => .inr h)
        rw [show (r.qs.take i).length = i by rw [List.length_take]; have := HQS.out.1; omega] at happ
        obtain ⟨pq', cq', X4, hr, hown, hk4, hob⟩ := happ
        have HR8 := Lib.hid (show ((HoI z B W.heap.size r (.slice p1 n c1) (.slice p2 n c2) (.slice p3 n c3) (.slice (some ⟨b, off, none⟩) n c4) n gb hb nb i (.slice pq i cq) X3 ∧ ∀ g, (Value.slice pq i cq).ownBlock = some g → W.heap.size < g ∧ g < X.heap.size) ∧ Keeps (fun k => k = z ∨ W.heap.size < k) W X3) ∧ W.heap.size < X3.heap.size ∧ QOwn (hS B (.slice pq' (i + 1) cq')) B X4 (.slice pq' (i + 1) cq') (r.qs.take i ++ [(y, l)]) ∧ Keeps (fun k => some k = (Value.slice pq i cq).ownBlock) X3 X4 ∧ ((Value.slice pq' (i + 1) cq').ownBlock = (Value.slice pq i cq).ownBlock ∨ (Value.slice pq' (i + 1) cq').ownBlock = some X3.heap.size) from ⟨⟨HBX3.out.1, HBX3.out.2.1⟩, HBX3.out.1.1.rc.lt, hown _ (fun k hk => by
          rcases hk with h | h
          · exact .inl (.inl h)
          · rcases hob with e | e
            · exact .inl (.inr (h.trans e))
            · rw [e] at h; injection h with h; exact .inr (by omega)), hk4, hob⟩)
        have hT4 : VtBox X4 z r.s.now (rowV gb n) (rowV hb n) r.g.done r.g.asked r.g.on (rowV nb n) (.slice pq i cq) nilV ∧ U.QBox X4 z9 (.slice lp k lc) y := ⟨hT3.1.keeps hk4 (fun e => by have := (HBX3.out.1.2 z e.symm).1; have := HZ.out; omega), hT3.2.keeps hk4 (fun e => by have := HZ9.out.1 z9 e.symm; omega)⟩
        clear hX3 hb3 hq3 hown hk4 hob HBX2 hT2
        refine hK.out _ _ ⟨hT3.2, fun _ _ => hT3.1⟩ ?_
        clear hK K
        (try simp only [Act.put, List.getElem_toArray, List.getElem_cons_succ, List.getElem_cons_zero, List.setIfInBounds_toArray, List.set_cons_succ, List.set_cons_zero])
        refine wpTwo_ready (rs := [14]) (by kernel_rfl) (by simp) ?_
        refine (AllTwo.cons rfl (fun K hK => ?_) AllTwo.nil)
        refine two_app 28 (.tmp 47) (.tmp 55) _ _ _ hr rfl rfl rfl rfl rfl ?_
        refine hK _ _ ⟨hT4.2, fun _ _ => hT4.1⟩ ?_
        clear hK K hr a0 a1
        (try simp only [Act.put, List.getElem_toArray, List.getElem_cons_succ, List.getElem_cons_zero, List.setIfInBounds_toArray, List.set_cons_succ, List.set_cons_zero])
        refine wpTwo_takeT (i := 15) (v := .pointer (some ⟨z, 0, none⟩)) rfl (by kernel_rfl) (by kernel_rfl) (by kernel_rfl) (fun _ _ _ h => h) ⟨by rfl, ?_⟩ hT4.2 ?_
        · intro w _
          go_simp
        (try simp only [Act.put, List.getElem_toArray, List.getElem_cons_succ, List.getElem_cons_zero, List.setIfInBounds_toArray, List.set_cons_succ, List.set_cons_zero])
        refine wpTwo_takeT (i := 16) (v := .pointer (some ⟨z, 0, none⟩)) rfl (by kernel_rfl) (by kernel_rfl) (by kernel_rfl) (fun _ _ _ h => h) ⟨by rfl, ?_⟩ hT4.2 ?_
        · intro w _
          go_simp
        (try simp only [Act.put, List.getElem_toArray, List.getElem_cons_succ, List.getElem_cons_zero, List.setIfInBounds_toArray, List.set_cons_succ, List.set_cons_zero])
        refine wpTwo_takeT (i := 17) (v := .pointer (some ⟨z, 7, none⟩)) rfl (by kernel_rfl) (by kernel_rfl) (by kernel_rfl) (fun _ _ _ h => h) ⟨by rfl, ?_⟩ hT4.2 ?_
        · intro w _
          go_simp
        (try simp only [Act.put, List.getElem_toArray, List.getElem_cons_succ, List.getElem_cons_zero, List.setIfInBounds_toArray, List.set_cons_succ, List.set_cons_zero])
        obtain ⟨e0, e1, e2, e3, e4, e5, e6, e7, e8⟩ := hT4.1.cells
        have m7 := hT4.1.marks 7
        refine wpTwo_ready (rs := [18]) (by kernel_rfl) (by simp) ?_
        refine (AllTwo.cons rfl (fun K hK => ?_) AllTwo.nil)
        go_simp
        refine hK.out _ _ ⟨hT4.2.keeps (setK X4 z 7 _) (by have := HZ9.out.2; omega), fun h => absurd h (by decide)⟩ ?_
        clear hK K
        (try simp only [Act.put, List.getElem_toArray, List.getElem_cons_succ, List.getElem_cons_zero, List.setIfInBounds_toArray, List.set_cons_succ, List.set_cons_zero])
        refine wpTwo_end (by kernel_rfl) ?_ _
        have hnx := HR8.out.1.1.1.next HZ.out.1 (fun e => by have := (HR8.out.1.1.2 _ e.symm).1; omega) (by have := HZ.out; omega) (by have := HQS.out.1; omega) HR8.out.2.2.2.1 (by have := HR8.out.2.2.1; rw [HYL.out]; exact this) (by have := HZ.out; have := HR8.out.2.1; omega) HR8.out.2.2.2.2
        have HN := Lib.hid (show (HoI z B W.heap.size r (.slice p1 n c1) (.slice p2 n c2) (.slice p3 n c3) (.slice (some ⟨b, off, none⟩) n c4) n gb hb nb (i + 1) (.slice pq' (i + 1) cq') (X4.setCell ⟨z, 7, none⟩ (.slice pq' (i + 1) cq')) ∧ ∀ g, (Value.slice pq' (i + 1) cq').ownBlock = some g → W.heap.size < g) ∧ Keeps (fun k => k = z ∨ W.heap.size < k) W (X4.setCell ⟨z, 7, none⟩ (.slice pq' (i + 1) cq')) from by
          refine ⟨⟨hnx, fun g hg => ?_⟩, (HR8.out.1.2.trans (HR8.out.2.2.2.1.sub fun k hk e => ?_)).trans ((setK X4 z 7 _).sub fun k _ e => .inl e)⟩
          · rcases HR8.out.2.2.2.2 with h | h
            · rw [h] at hg; exact (HR8.out.1.1.2 g hg).1
            · rw [h] at hg; injection hg with hg; have := HR8.out.2.1; omega
          · exact .inr (HR8.out.1.1.2 k e.symm).1)
        clear hnx HR8 hT4 e0 e1 e2 e3 e4 e5 e6 e7 e8 m7
        have hn8 := HQS.out.2.2.2
        go_wp2
        go_roundw
        case rel => exact ⟨i + 1, by omega, by go_num, _, HN⟩
        case measure => simp [intOf]; omega
      · obtain rfl : i = n := by omega
        have HF := Lib.hid (show Keeps (fun k => k = z) W wr ∧ ∃ u' v' nv' qb qc, VtAt wr z B r u' v' nv' qb qc nilV [] from by
          refine ⟨HI.out.2.sub (fun k hk h => by rcases h with h | h; exact h; omega), ?_⟩
          obtain ⟨⟨⟨h1, h2, h3, -, -, h6⟩, -⟩, -⟩ := HI.out
          have hz := HZ.out
          have hqs := HQS.out.1
          rw [hqs, List.take_length] at h3
          obtain ⟨qb, qc, rfl, hB, hrow⟩ := h3.row (by intro e; rw [e] at hqs; have := HQS.out.2.2; simp at hqs; omega)
          have hap := h6 qb rfl
          obtain ⟨t1, t2, t3, t4, t5, t6, t7, t8, t9⟩ := h2
          have hS : ∀ x, B ≤ x → x ≠ qb → ¬ vS B qb nilV x := fun x hx hxq h => by
            rcases h with h | h | h
            · omega
            · exact hxq h
            · cases h
          have e1 := NumsOut.of_block t1 (hS gb t4 (fun e => hap.1 e.symm))
          have e2 := NumsOut.of_block t2 (hS hb t5 (fun e => hap.2.1 e.symm))
          have e3 := BoolsOut.of_block t3 (hS nb t6 (fun e => hap.2.2 e.symm))
          rw [t7] at e1
          rw [t8] at e2
          rw [t9] at e3
          exact ⟨_, _, _, qb, qc, h1, e1, e2, e3, hrow.apart (fun k hk => by
            rcases hk with h | h | h
            · exact .inl (.inl h)
            · exact .inl (.inr (by rw [h]; rfl))
            · cases h), World.ownsRow_nil _ _ _ _, hz.1, hB⟩)
        clear HI hlt hi
        go_wp2
        go_end0
        exact ⟨rfl, HF.out⟩

end Go.Proofs.YtdllhiihmpinoaaGreat
namespace Go.Proofs.YtdllhiihmpinoaaGreat
set_option maxRecDepth 100000
open Go.RowKit Go.Shelf
attribute [local go_sem] Oper.semAt_some

/-- What box an op lies in. -/
def ABox (W : World) (z : Nat) (k c x : Int) : Prop := W.heap[z]? = some (.cells #[.int .i64 k, .int .i64 c, .int .u64 x] 37 (0, 0))
theorem ABox.cells {W : World} {z : Nat} {k c x : Int} (h : ABox W z k c x) : W.cell? ⟨z, 0, none⟩ = some (.int .i64 k) ∧ W.cell? ⟨z, 1, none⟩ = some (.int .i64 c) ∧ W.cell? ⟨z, 2, none⟩ = some (.int .u64 x) := by
  have h' : W.heap[z]? = _ := h
  simp [World.cell?, h']
theorem ABox.lt {W : World} {z : Nat} {k c x : Int} (h : ABox W z k c x) : z < W.heap.size := (Array.getElem?_eq_some_iff.1 h).1
theorem ABox.below {W W' : World} {z : Nat} {k c x : Int} (h : ABox W z k c x) (hb : Below W.heap.size W W') : ABox W' z k c x := (hb.block z h.lt).trans h
theorem ABox.keeps {S : Nat → Prop} {W W' : World} {z : Nat} {k c x : Int} (h : ABox W z k c x) (hk : Keeps S W W') (hz : ¬ S z) : ABox W' z k c x := (hk.block z h.lt hz).trans h
theorem ABox.new (W : World) (k c x : Int) : ABox (W.alloc (.cells #[.int .i64 k, .int .i64 c, .int .u64 x] 37)) W.heap.size k c x := World.alloc_heap_new W _

/-- A turn lies there. -/
def VtAny (w : World) (z : Nat) : Prop := ∃ now u v d a on nv qv lv, VtBox w z now u v d a on nv qv lv ∧ IsSl u ∧ IsSl v ∧ IsSl nv ∧ IsSl qv ∧ IsSl lv
theorem VtAny.keeps {S : Nat → Prop} {w w' : World} {z : Nat} (h : VtAny w z) (hk : Keeps S w w') (hz : ¬ S z) : VtAny w' z := by
  obtain ⟨now, u, v, d, a, on, nv, qv, lv, hb, hs⟩ := h
  exact ⟨now, u, v, d, a, on, nv, qv, lv, hb.keeps hk hz, hs⟩
theorem VtAt.any {W : World} {z B : Nat} {r : RcS} {u v nv : Value} {qb qc : Nat} {lv : Value} {ls : List Int} (h : VtAt W z B r u v nv qb qc lv ls) : VtAny W z :=
  ⟨_, _, _, _, _, _, _, _, _, h.box, h.sl.1, h.sl.2.1, h.sl.2.2.1, ⟨_, _, _, rfl⟩, h.sl.2.2.2⟩
/-- What changes of the memory that was there. -/
def dS (z qb : Nat) (lv0 : Value) : Nat → Prop := fun b => b = z ∨ b = qb ∨ some b = lv0.ownBlock
/-- What an op leaves, or with which error it was left. -/
def OpQ (z B : Nat) (E : Int) (r' : RcS) (ls' : List Int) (qb qc : Nat) (lv : Value) (e : Ending) (W w' : World) : Prop :=
  Keeps (dS z qb lv) W w' ∧ ((E ≠ 0 ∧ e = woe E ∧ VtAny w' z) ∨ (E = 0 ∧ e = .returned (.tuple #[]) ∧ ∃ u v nv lv', VtAt w' z B r' u v nv qb qc lv' ls' ∧ ∀ g, lv'.ownBlock = some g → lv.ownBlock = some g ∨ W.heap.size ≤ g))

set_option maxHeartbeats 16000000 in
theorem renter_c (z B : Nat) (r : RcS) (u v nv : Value) (qb qc : Nat) (lv : Value) (ls : List Int) (k c x : Int) (W : World) (h : VtAt W z B r u v nv qb qc lv ls) (hm : rmayB r = true) :
    Calls Tryz.prog 120 #[.pointer (some ⟨z, 0, none⟩), .agg #[.int .i64 k, .int .i64 c, .int .u64 x]] W fun e w' => OpQ z B (stepE r.s c true) { r with s := stepS r.s c true } ls qb qc lv e W w' := by
  have hgs := (rmay_facts hm).1
  obtain ⟨n, hn⟩ : ∃ n, n = r.s.ns.length := ⟨_, rfl⟩
  have hlo := hgs.lo
  have hl8 := hgs.l8
  obtain ⟨E, hE⟩ : ∃ E, E = stepE r.s c true := ⟨_, rfl⟩
  rw [← hE]
  obtain ⟨w0, hw0⟩ : ∃ X : World, X = W.alloc (.cells #[.int .i64 k, .int .i64 c, .int .u64 x] 37) := ⟨_, rfl⟩
  have hb0 : Below W.heap.size W w0 := by rw [hw0]; exact below1 _ _
  obtain ⟨zo, hzo⟩ : ∃ x, x = W.heap.size := ⟨_, rfl⟩
  have hx : ABox w0 zo k c x := by rw [hw0, hzo]; exact ABox.new _ _ _ _
  have h0 := h.below hb0
  obtain ⟨p1, c1, p2, c2, p3, c3, p4, c4, q1, q2, q3, q4⟩ := h.inn.sl
  rw [← hn] at q1
  rw [hlo, ← hn] at q2
  subst q1 q2
  have HZ := Lib.hid (show z < zo ∧ z < B ∧ B ≤ zo ∧ zo < w0.heap.size from ⟨by rw [hzo]; exact h.box.lt, h.zB, by rw [hzo]; exact h.BW, hx.lt⟩)
  have HV := Lib.hid (show VtAt w0 z B r (.slice p1 n c1) (.slice p2 n c2) nv qb qc lv ls ∧ ABox w0 zo k c x ∧ Keeps (dS z qb lv) W w0 from ⟨h0, hx, Keeps.of_below hb0⟩)
  have hI : ∀ y ∈ r.s.os, I64 y := fun y hy => by
    obtain ⟨i, hi, rfl⟩ := List.mem_iff_getElem.1 hy
    have := hgs.each i (by omega)
    have h2 := hgs.n1
    have h3 : oO r.s i = r.s.os[i] := getD_lt hi
    rw [h3] at this
    unfold I64
    omega
  have HG := Lib.hid (And.intro hgs (And.intro hE (And.intro hI (show n = r.s.ns.length ∧ n = r.s.os.length ∧ n ≤ 8 by omega))))
  have HW0 := Lib.hid (And.intro hw0 hzo)
  have HLV := Lib.hid (show IsSl nv ∧ IsSl lv from ⟨h.sl.2.2.1, h.sl.2.2.2⟩)
  clear h h0 hx hgs hlo hl8 hE hI hn hw0 hzo hb0 hm q3 q4
  go_enter Tryz.func120, Tryz.ntmps120
  go_upto_region 1 with fail
  rw [← HW0.out.1, ← HW0.out.2]
  clear HW0
  refine wpTwo_begin (T := fun w' => ABox w' zo k c x) (S := fun w' => VtBox w' z r.s.now (.slice p1 n c1) (.slice p2 n c2) r.g.done r.g.asked r.g.on nv (.slice (some ⟨qb, 0, none⟩) r.qs.length qc) lv) (late := fun j => [15].contains j) (by kernel_rfl) ?_
  obtain ⟨X, hX⟩ : ∃ Y : World, Y = w0.drew := ⟨_, rfl⟩
  rw [← hX]
  have hbx : Below w0.heap.size w0 X := by rw [hX]; exact (Below.refl _ _).drew
  clear hX
  have HX := Lib.hid (show VtAt X z B r (.slice p1 n c1) (.slice p2 n c2) nv qb qc lv ls ∧ ABox X zo k c x ∧ Keeps (dS z qb lv) W X from ⟨HV.out.1.below hbx, HV.out.2.1.below hbx, HV.out.2.2.trans (Keeps.of_below hbx)⟩)
  have HXL := Lib.hid (show qb < X.heap.size ∧ ∀ g, lv.ownBlock = some g → g < X.heap.size from ⟨HX.out.1.row.lt, fun g hg => (HX.out.1.lB hg).2⟩)
  have hT0 := HX.out.2.1
  have hS0 := HX.out.1.box
  clear hbx HV
  refine wpTwo_takeT (i := 0) (v := .pointer (some ⟨z, 0, none⟩)) rfl (by kernel_rfl) (by kernel_rfl) (by kernel_rfl) (fun _ _ _ h => h) ⟨by rfl, ?_⟩ hT0 ?_
  · intro w _
    go_simp
  (try simp only [Act.put, List.getElem_toArray, List.getElem_cons_zero, List.setIfInBounds_toArray, List.set_cons_succ, List.set_cons_zero])
  refine wpTwo_takeT (i := 1) (v := .pointer (some ⟨z, 0, none⟩)) rfl (by kernel_rfl) (by kernel_rfl) (by kernel_rfl) (fun _ _ _ h => h) ⟨by rfl, ?_⟩ hT0 ?_
  · intro w _
    go_simp
  (try simp only [Act.put, List.getElem_toArray, List.getElem_cons_succ, List.getElem_cons_zero, List.setIfInBounds_toArray, List.set_cons_succ, List.set_cons_zero])
  refine wpTwo_takeT (i := 2) (v := .pointer (some ⟨z, 0, none⟩)) rfl (by kernel_rfl) (by kernel_rfl) (by kernel_rfl) (fun _ _ _ h => h) ⟨by rfl, ?_⟩ hT0 ?_
  · intro w _
    go_simp
  (try simp only [Act.put, List.getElem_toArray, List.getElem_cons_succ, List.getElem_cons_zero, List.setIfInBounds_toArray, List.set_cons_succ, List.set_cons_zero])
  refine wpTwo_takeT (i := 3) (v := .pointer (some ⟨z, 0, none⟩)) rfl (by kernel_rfl) (by kernel_rfl) (by kernel_rfl) (fun _ _ _ h => h) ⟨by rfl, ?_⟩ hT0 ?_
  · intro w _
    go_simp
  (try simp only [Act.put, List.getElem_toArray, List.getElem_cons_succ, List.getElem_cons_zero, List.setIfInBounds_toArray, List.set_cons_succ, List.set_cons_zero])
  refine wpTwo_takeT (i := 4) (v := .pointer (some ⟨z, 0, none⟩)) rfl (by kernel_rfl) (by kernel_rfl) (by kernel_rfl) (fun _ _ _ h => h) ⟨by rfl, ?_⟩ hT0 ?_
  · intro w _
    go_simp
  (try simp only [Act.put, List.getElem_toArray, List.getElem_cons_succ, List.getElem_cons_zero, List.setIfInBounds_toArray, List.set_cons_succ, List.set_cons_zero])
  refine wpTwo_takeS (i := 5) (v := .agg #[.int .i64 r.s.now, .slice p1 n c1, .slice p2 n c2]) (waits_all (by kernel_rfl)) rfl (by kernel_rfl) (by kernel_rfl) (by kernel_rfl) (fun _ _ _ h => h) ⟨by rfl, ?_⟩ ⟨hT0, hS0⟩ ?_
  · rintro w ⟨hT, hS⟩
    obtain ⟨t0, t1, t2, t3, t4, t5, t6, t7, t8⟩ := hS.cells
    go_simp
  (try simp only [Act.put, List.getElem_toArray, List.getElem_cons_succ, List.getElem_cons_zero, List.setIfInBounds_toArray, List.set_cons_succ, List.set_cons_zero])
  refine wpTwo_takeT (i := 6) (v := .pointer (some ⟨zo, 1, none⟩)) rfl (by kernel_rfl) (by kernel_rfl) (by kernel_rfl) (fun _ _ _ h => h) ⟨by rfl, ?_⟩ hT0 ?_
  · intro w _
    go_simp
  (try simp only [Act.put, List.getElem_toArray, List.getElem_cons_succ, List.getElem_cons_zero, List.setIfInBounds_toArray, List.set_cons_succ, List.set_cons_zero])
  refine wpTwo_takeT (i := 7) (v := .int .i64 c) rfl (by kernel_rfl) (by kernel_rfl) (by kernel_rfl) (fun _ _ _ h => h) ⟨by rfl, ?_⟩ hT0 ?_
  · rintro w hT
    obtain ⟨s0, s1, s2⟩ := hT.cells
    go_simp
  (try simp only [Act.put, List.getElem_toArray, List.getElem_cons_succ, List.getElem_cons_zero, List.setIfInBounds_toArray, List.set_cons_succ, List.set_cons_zero])
  have HC := Lib.hid (Enter_c r.s (.slice p1 n c1) (.slice p2 n c2) c X HX.out.1.nest.1 HX.out.1.opened.1 (by have := HG.out; omega) (by have := HG.out; omega) HG.out.2.2.1)
  refine wpTwo_ready (rs := [8]) (by kernel_rfl) (by simp) ?_
  refine (AllTwo.cons rfl (fun K hK => ?_) AllTwo.nil)
  go_simp
  (with_reducible refine HC.out.mono ?_)
  rintro e X1 ⟨⟨nw, g1, m1, e1, g2, m2, e2, err, rfl, hQ⟩, hb1⟩
  have HX1 := Lib.hid (show VtAt X1 z B r (.slice p1 n c1) (.slice p2 n c2) nv qb qc lv ls ∧ ABox X1 zo k c x ∧ Keeps (dS z qb lv) W X1 from ⟨HX.out.1.below hb1, HX.out.2.1.below hb1, HX.out.2.2.trans (Keeps.of_below hb1)⟩)
  have HQ := Lib.hid (show (E ≠ 0 ∧ err = E) ∨ (E = 0 ∧ err = 0 ∧ nw = (stepS r.s c true).now ∧ ∃ g h : Nat, X.heap.size ≤ g ∧ X.heap.size ≤ h ∧ (g1 = some ⟨g, 0, none⟩ ∧ m1 = (stepS r.s c true).ns.length ∧ e1 = (stepS r.s c true).ns.length) ∧ (g2 = some ⟨h, 0, none⟩ ∧ m2 = (stepS r.s c true).os.length ∧ e2 = (stepS r.s c true).os.length) ∧ IBlock X1 g (stepS r.s c true).ns ∧ IBlock X1 h (stepS r.s c true).os) from by
    rw [HG.out.2.1]
    rcases hQ with ⟨⟨hm, -⟩ | ⟨-, h1, h2⟩, -⟩ | ⟨-, h1, h2, h3, g, h, hg, hh, -, h4, h5, h6, h7⟩
    · rw [(good_iff r.s).2 HG.out.1] at hm; cases hm
    · exact .inl ⟨h1, h2⟩
    · exact .inr ⟨h1, h2, h3, g, h, by omega, by omega, h4, h5, h6, h7⟩)
  have hT1 := HX1.out.2.1
  have hS1 := HX1.out.1.box
  have HXX := Lib.hid (And.intro hb1.size (show zo < X.heap.size from HX.out.2.1.lt))
  clear hQ hb1 HC HX
  go_wp2_with fail
  refine hK.out _ _ ⟨hT1, fun _ _ => hS1⟩ ?_
  clear hK K hT0 hS0
  (try simp only [Act.put, List.getElem_toArray, List.getElem_cons_succ, List.getElem_cons_zero, List.setIfInBounds_toArray, List.set_cons_succ, List.set_cons_zero])
  refine wpTwo_takeT (i := 9) (v := .agg #[.int .i64 nw, .slice g1 m1 e1, .slice g2 m2 e2]) rfl (by kernel_rfl) (by kernel_rfl) (by kernel_rfl) (fun _ _ _ h => h) ⟨by rfl, ?_⟩ hT1 ?_
  · intro w _
    go_simp
  (try simp only [Act.put, List.getElem_toArray, List.getElem_cons_succ, List.getElem_cons_zero, List.setIfInBounds_toArray, List.set_cons_succ, List.set_cons_zero])
  refine wpTwo_takeT (i := 10) (v := .int .i64 err) rfl (by kernel_rfl) (by kernel_rfl) (by kernel_rfl) (fun _ _ _ h => h) ⟨by rfl, ?_⟩ hT1 ?_
  · intro w _
    go_simp
  (try simp only [Act.put, List.getElem_toArray, List.getElem_cons_succ, List.getElem_cons_zero, List.setIfInBounds_toArray, List.set_cons_succ, List.set_cons_zero])
  by_cases hE : E = 0
  · obtain ⟨rfl, hnw, g, h, hg, hh, ⟨rfl, hm1, he1⟩, ⟨rfl, hm2, he2⟩, hI1, hI2⟩ : err = 0 ∧ _ := by
        rcases HQ.out with h | h
        · exact absurd hE h.1
        · exact h.2
    rw [← hm1] at he1
    rw [← hm2] at he2
    subst he1 he2
    have HI := Lib.hid (show nw = (stepS r.s c true).now ∧ (stepS r.s c true).ns.length = e1 ∧ (stepS r.s c true).os.length = e2 ∧ X.heap.size ≤ g ∧ X.heap.size ≤ h ∧ IBlock X1 g (stepS r.s c true).ns ∧ IBlock X1 h (stepS r.s c true).os ∧ E = 0 from ⟨hnw, hm1.symm, hm2.symm, hg, hh, hI1, hI2, hE⟩)
    clear hnw hm1 hm2 hg hh hI1 hI2 HQ hE
    refine wpTwo_ready (rs := [11]) (by kernel_rfl) (by simp) ?_
    refine (AllTwo.cons rfl (fun K hK => ?_) AllTwo.nil)
    go_simp
    (with_reducible refine (gotR_ok nw (some ⟨g, 0, none⟩) e1 e1 (some ⟨h, 0, none⟩) e2 e2 X1).mono ?_)
    rintro e X2 ⟨rfl, hb2⟩
    have HX2 := Lib.hid (show VtAt X2 z B r (.slice p1 n c1) (.slice p2 n c2) nv qb qc lv ls ∧ ABox X2 zo k c x ∧ Keeps (dS z qb lv) W X2 from ⟨HX1.out.1.below hb2, HX1.out.2.1.below hb2, HX1.out.2.2.trans (Keeps.of_below hb2)⟩)
    have HI2 := Lib.hid (And.intro (HI.out.2.2.2.2.2.1.below hb2) (HI.out.2.2.2.2.2.2.1.below hb2))
    have hT2 := HX2.out.2.1
    have hS2 := HX2.out.1.box
    clear hb2 HX1
    go_wp2_with fail
    refine hK.out _ _ ⟨hT2, fun _ _ => hS2⟩ ?_
    clear hK K hT1 hS1
    (try simp only [Act.put, List.getElem_toArray, List.getElem_cons_succ, List.getElem_cons_zero, List.setIfInBounds_toArray, List.set_cons_succ, List.set_cons_zero])
    refine wpTwo_takeT (i := 12) (v := .pointer (some ⟨z, 0, none⟩)) rfl (by kernel_rfl) (by kernel_rfl) (by kernel_rfl) (fun _ _ _ h => h) ⟨by rfl, ?_⟩ hT2 ?_
    · intro w _
      go_simp
    (try simp only [Act.put, List.getElem_toArray, List.getElem_cons_succ, List.getElem_cons_zero, List.setIfInBounds_toArray, List.set_cons_succ, List.set_cons_zero])
    refine wpTwo_takeT (i := 13) (v := .pointer (some ⟨z, 0, none⟩)) rfl (by kernel_rfl) (by kernel_rfl) (by kernel_rfl) (fun _ _ _ h => h) ⟨by rfl, ?_⟩ hT2 ?_
    · intro w _
      go_simp
    (try simp only [Act.put, List.getElem_toArray, List.getElem_cons_succ, List.getElem_cons_zero, List.setIfInBounds_toArray, List.set_cons_succ, List.set_cons_zero])
    refine wpTwo_takeT (i := 14) (v := .pointer (some ⟨z, 0, none⟩)) rfl (by kernel_rfl) (by kernel_rfl) (by kernel_rfl) (fun _ _ _ h => h) ⟨by rfl, ?_⟩ hT2 ?_
    · intro w _
      go_simp
    (try simp only [Act.put, List.getElem_toArray, List.getElem_cons_succ, List.getElem_cons_zero, List.setIfInBounds_toArray, List.set_cons_succ, List.set_cons_zero])
    obtain ⟨t0, t1, t2, t3, t4, t5, t6, t7, t8⟩ := hS2.cells
    have m0 := hS2.marks 0
    have m1 := hS2.marks 1
    have m2 := hS2.marks 2
    have HF := Lib.hid (show OpQ z B E { r with s := stepS r.s c true } ls qb qc lv (.returned (.tuple #[])) W (((X2.setCell ⟨z, 0, none⟩ (.int .i64 nw)).setCell ⟨z, 1, none⟩ (.slice (some ⟨g, 0, none⟩) e1 e1)).setCell ⟨z, 2, none⟩ (.slice (some ⟨h, 0, none⟩) e2 e2)) from by
      have hz := HZ.out
      have hxx := HXX.out
      have hS : ∀ b, X.heap.size ≤ b → ¬ vS B qb lv b := fun b hb h => by
        rcases h with h | h | h
        · omega
        · have := HXL.out.1; omega
        · have := HXL.out.2 b h.symm; omega
      have := HX2.out.1.setR _ g h e1 e2 HI2.out.1 HI2.out.2 HI.out.2.1 HI.out.2.2.1 (hS g HI.out.2.2.2.1) (hS h HI.out.2.2.2.2.1)
      rw [← HI.out.1] at this
      exact ⟨HX2.out.2.2.trans ((VtBox.putRK X2 z nw (.slice (some ⟨g, 0, none⟩) e1 e1) (.slice (some ⟨h, 0, none⟩) e2 e2)).sub fun k _ e => .inl e), .inr ⟨HI.out.2.2.2.2.2.2.2, rfl, _, _, _, _, this, fun _ hg => .inl hg⟩⟩)
    have hT3 := hT2.keeps (VtBox.putRK X2 z nw (.slice (some ⟨g, 0, none⟩) e1 e1) (.slice (some ⟨h, 0, none⟩) e2 e2)) (by have := HZ.out; omega)
    refine wpTwo_ready (rs := [15]) (by kernel_rfl) (by simp) ?_
    refine (AllTwo.cons rfl (fun K hK => ?_) AllTwo.nil)
    go_simp
    refine hK.out _ _ ⟨hT3, fun h => absurd h (by decide)⟩ ?_
    clear hK K
    (try simp only [Act.put, List.getElem_toArray, List.getElem_cons_succ, List.getElem_cons_zero, List.setIfInBounds_toArray, List.set_cons_succ, List.set_cons_zero])
    refine wpTwo_end (by kernel_rfl) ?_ _
    clear t0 t1 t2 t3 t4 t5 t6 t7 t8 m0 m1 m2 hT2 hS2 hT3 HX2
    go_wp2
    go_end0
    exact HF.out
  · obtain rfl : err = E := by
      rcases HQ.out with h | h
      · exact h.2
      · exact absurd h.1 hE
    have HC := Lib.hid (gotR_no nw g1 m1 e1 g2 m2 e2 err hE X1)
    refine wpTwo_ready (rs := [11]) (by kernel_rfl) (by simp) ?_
    refine (AllTwo.cons rfl (fun K hK => ?_) AllTwo.nil)
    go_simp
    (with_reducible refine HC.out.mono ?_)
    rintro e X2 ⟨rfl, hb2⟩
    exact ⟨rfl, HX1.out.2.2.trans (Keeps.of_below hb2), .inl ⟨hE, rfl, HX1.out.1.any.keeps (Keeps.of_below (S := fun _ => False) hb2) id⟩⟩

set_option maxHeartbeats 16000000 in
theorem rleave_c (z B : Nat) (r : RcS) (u v nv : Value) (qb qc : Nat) (lv : Value) (ls : List Int) (k c x : Int) (W : World) (h : VtAt W z B r u v nv qb qc lv ls) (hm : rmayB r = true) :
    Calls Tryz.prog 121 #[.pointer (some ⟨z, 0, none⟩), .agg #[.int .i64 k, .int .i64 c, .int .u64 x]] W fun e w' => OpQ z B (stepE r.s c false) { r with s := stepS r.s c false } ls qb qc lv e W w' := by
  have hgs := (rmay_facts hm).1
  obtain ⟨n, hn⟩ : ∃ n, n = r.s.ns.length := ⟨_, rfl⟩
  have hlo := hgs.lo
  have hl8 := hgs.l8
  obtain ⟨E, hE⟩ : ∃ E, E = stepE r.s c false := ⟨_, rfl⟩
  rw [← hE]
  obtain ⟨w0, hw0⟩ : ∃ X : World, X = W.alloc (.cells #[.int .i64 k, .int .i64 c, .int .u64 x] 37) := ⟨_, rfl⟩
  have hb0 : Below W.heap.size W w0 := by rw [hw0]; exact below1 _ _
  obtain ⟨zo, hzo⟩ : ∃ x, x = W.heap.size := ⟨_, rfl⟩
  have hx : ABox w0 zo k c x := by rw [hw0, hzo]; exact ABox.new _ _ _ _
  have h0 := h.below hb0
  obtain ⟨p1, c1, p2, c2, p3, c3, p4, c4, q1, q2, q3, q4⟩ := h.inn.sl
  rw [← hn] at q1
  rw [hlo, ← hn] at q2
  subst q1 q2
  have HZ := Lib.hid (show z < zo ∧ z < B ∧ B ≤ zo ∧ zo < w0.heap.size from ⟨by rw [hzo]; exact h.box.lt, h.zB, by rw [hzo]; exact h.BW, hx.lt⟩)
  have HV := Lib.hid (show VtAt w0 z B r (.slice p1 n c1) (.slice p2 n c2) nv qb qc lv ls ∧ ABox w0 zo k c x ∧ Keeps (dS z qb lv) W w0 from ⟨h0, hx, Keeps.of_below hb0⟩)
  have hI : ∀ y ∈ r.s.os, I64 y := fun y hy => by
    obtain ⟨i, hi, rfl⟩ := List.mem_iff_getElem.1 hy
    have := hgs.each i (by omega)
    have h2 := hgs.n1
    have h3 : oO r.s i = r.s.os[i] := getD_lt hi
    rw [h3] at this
    unfold I64
    omega
  have HG := Lib.hid (And.intro hgs (And.intro hE (And.intro hI (show n = r.s.ns.length ∧ n = r.s.os.length ∧ n ≤ 8 by omega))))
  have HW0 := Lib.hid (And.intro hw0 hzo)
  have HLV := Lib.hid (show IsSl nv ∧ IsSl lv from ⟨h.sl.2.2.1, h.sl.2.2.2⟩)
  clear h h0 hx hgs hlo hl8 hE hI hn hw0 hzo hb0 hm q3 q4
  go_enter Tryz.func121, Tryz.ntmps121
  go_upto_region 1 with fail
  rw [← HW0.out.1, ← HW0.out.2]
  clear HW0
  refine wpTwo_begin (T := fun w' => ABox w' zo k c x) (S := fun w' => VtBox w' z r.s.now (.slice p1 n c1) (.slice p2 n c2) r.g.done r.g.asked r.g.on nv (.slice (some ⟨qb, 0, none⟩) r.qs.length qc) lv) (late := fun j => [15].contains j) (by kernel_rfl) ?_
  obtain ⟨X, hX⟩ : ∃ Y : World, Y = w0.drew := ⟨_, rfl⟩
  rw [← hX]
  have hbx : Below w0.heap.size w0 X := by rw [hX]; exact (Below.refl _ _).drew
  clear hX
  have HX := Lib.hid (show VtAt X z B r (.slice p1 n c1) (.slice p2 n c2) nv qb qc lv ls ∧ ABox X zo k c x ∧ Keeps (dS z qb lv) W X from ⟨HV.out.1.below hbx, HV.out.2.1.below hbx, HV.out.2.2.trans (Keeps.of_below hbx)⟩)
  have HXL := Lib.hid (show qb < X.heap.size ∧ ∀ g, lv.ownBlock = some g → g < X.heap.size from ⟨HX.out.1.row.lt, fun g hg => (HX.out.1.lB hg).2⟩)
  have hT0 := HX.out.2.1
  have hS0 := HX.out.1.box
  clear hbx HV
  refine wpTwo_takeT (i := 0) (v := .pointer (some ⟨z, 0, none⟩)) rfl (by kernel_rfl) (by kernel_rfl) (by kernel_rfl) (fun _ _ _ h => h) ⟨by rfl, ?_⟩ hT0 ?_
  · intro w _
    go_simp
  (try simp only [Act.put, List.getElem_toArray, List.getElem_cons_zero, List.setIfInBounds_toArray, List.set_cons_succ, List.set_cons_zero])
  refine wpTwo_takeT (i := 1) (v := .pointer (some ⟨z, 0, none⟩)) rfl (by kernel_rfl) (by kernel_rfl) (by kernel_rfl) (fun _ _ _ h => h) ⟨by rfl, ?_⟩ hT0 ?_
  · intro w _
    go_simp
  (try simp only [Act.put, List.getElem_toArray, List.getElem_cons_succ, List.getElem_cons_zero, List.setIfInBounds_toArray, List.set_cons_succ, List.set_cons_zero])
  refine wpTwo_takeT (i := 2) (v := .pointer (some ⟨z, 0, none⟩)) rfl (by kernel_rfl) (by kernel_rfl) (by kernel_rfl) (fun _ _ _ h => h) ⟨by rfl, ?_⟩ hT0 ?_
  · intro w _
    go_simp
  (try simp only [Act.put, List.getElem_toArray, List.getElem_cons_succ, List.getElem_cons_zero, List.setIfInBounds_toArray, List.set_cons_succ, List.set_cons_zero])
  refine wpTwo_takeT (i := 3) (v := .pointer (some ⟨z, 0, none⟩)) rfl (by kernel_rfl) (by kernel_rfl) (by kernel_rfl) (fun _ _ _ h => h) ⟨by rfl, ?_⟩ hT0 ?_
  · intro w _
    go_simp
  (try simp only [Act.put, List.getElem_toArray, List.getElem_cons_succ, List.getElem_cons_zero, List.setIfInBounds_toArray, List.set_cons_succ, List.set_cons_zero])
  refine wpTwo_takeT (i := 4) (v := .pointer (some ⟨z, 0, none⟩)) rfl (by kernel_rfl) (by kernel_rfl) (by kernel_rfl) (fun _ _ _ h => h) ⟨by rfl, ?_⟩ hT0 ?_
  · intro w _
    go_simp
  (try simp only [Act.put, List.getElem_toArray, List.getElem_cons_succ, List.getElem_cons_zero, List.setIfInBounds_toArray, List.set_cons_succ, List.set_cons_zero])
  refine wpTwo_takeS (i := 5) (v := .agg #[.int .i64 r.s.now, .slice p1 n c1, .slice p2 n c2]) (waits_all (by kernel_rfl)) rfl (by kernel_rfl) (by kernel_rfl) (by kernel_rfl) (fun _ _ _ h => h) ⟨by rfl, ?_⟩ ⟨hT0, hS0⟩ ?_
  · rintro w ⟨hT, hS⟩
    obtain ⟨t0, t1, t2, t3, t4, t5, t6, t7, t8⟩ := hS.cells
    go_simp
  (try simp only [Act.put, List.getElem_toArray, List.getElem_cons_succ, List.getElem_cons_zero, List.setIfInBounds_toArray, List.set_cons_succ, List.set_cons_zero])
  refine wpTwo_takeT (i := 6) (v := .pointer (some ⟨zo, 1, none⟩)) rfl (by kernel_rfl) (by kernel_rfl) (by kernel_rfl) (fun _ _ _ h => h) ⟨by rfl, ?_⟩ hT0 ?_
  · intro w _
    go_simp
  (try simp only [Act.put, List.getElem_toArray, List.getElem_cons_succ, List.getElem_cons_zero, List.setIfInBounds_toArray, List.set_cons_succ, List.set_cons_zero])
  refine wpTwo_takeT (i := 7) (v := .int .i64 c) rfl (by kernel_rfl) (by kernel_rfl) (by kernel_rfl) (fun _ _ _ h => h) ⟨by rfl, ?_⟩ hT0 ?_
  · rintro w hT
    obtain ⟨s0, s1, s2⟩ := hT.cells
    go_simp
  (try simp only [Act.put, List.getElem_toArray, List.getElem_cons_succ, List.getElem_cons_zero, List.setIfInBounds_toArray, List.set_cons_succ, List.set_cons_zero])
  have HC := Lib.hid (Leave_c r.s (.slice p1 n c1) (.slice p2 n c2) c X HX.out.1.nest.1 HX.out.1.opened.1 (by have := HG.out; omega) (by have := HG.out; omega) HG.out.2.2.1)
  refine wpTwo_ready (rs := [8]) (by kernel_rfl) (by simp) ?_
  refine (AllTwo.cons rfl (fun K hK => ?_) AllTwo.nil)
  go_simp
  (with_reducible refine HC.out.mono ?_)
  rintro e X1 ⟨⟨nw, g1, m1, e1, g2, m2, e2, err, rfl, hQ⟩, hb1⟩
  have HX1 := Lib.hid (show VtAt X1 z B r (.slice p1 n c1) (.slice p2 n c2) nv qb qc lv ls ∧ ABox X1 zo k c x ∧ Keeps (dS z qb lv) W X1 from ⟨HX.out.1.below hb1, HX.out.2.1.below hb1, HX.out.2.2.trans (Keeps.of_below hb1)⟩)
  have HQ := Lib.hid (show (E ≠ 0 ∧ err = E) ∨ (E = 0 ∧ err = 0 ∧ nw = (stepS r.s c false).now ∧ ∃ g h : Nat, X.heap.size ≤ g ∧ X.heap.size ≤ h ∧ (g1 = some ⟨g, 0, none⟩ ∧ m1 = (stepS r.s c false).ns.length ∧ e1 = (stepS r.s c false).ns.length) ∧ (g2 = some ⟨h, 0, none⟩ ∧ m2 = (stepS r.s c false).os.length ∧ e2 = (stepS r.s c false).os.length) ∧ IBlock X1 g (stepS r.s c false).ns ∧ IBlock X1 h (stepS r.s c false).os) from by
    rw [HG.out.2.1]
    rcases hQ with ⟨⟨hm, -⟩ | ⟨-, h1, h2⟩, -⟩ | ⟨-, h1, h2, h3, g, h, hg, hh, -, h4, h5, h6, h7⟩
    · rw [(good_iff r.s).2 HG.out.1] at hm; cases hm
    · exact .inl ⟨h1, h2⟩
    · exact .inr ⟨h1, h2, h3, g, h, by omega, by omega, h4, h5, h6, h7⟩)
  have hT1 := HX1.out.2.1
  have hS1 := HX1.out.1.box
  have HXX := Lib.hid (And.intro hb1.size (show zo < X.heap.size from HX.out.2.1.lt))
  clear hQ hb1 HC HX
  go_wp2_with fail
  refine hK.out _ _ ⟨hT1, fun _ _ => hS1⟩ ?_
  clear hK K hT0 hS0
  (try simp only [Act.put, List.getElem_toArray, List.getElem_cons_succ, List.getElem_cons_zero, List.setIfInBounds_toArray, List.set_cons_succ, List.set_cons_zero])
  refine wpTwo_takeT (i := 9) (v := .agg #[.int .i64 nw, .slice g1 m1 e1, .slice g2 m2 e2]) rfl (by kernel_rfl) (by kernel_rfl) (by kernel_rfl) (fun _ _ _ h => h) ⟨by rfl, ?_⟩ hT1 ?_
  · intro w _
    go_simp
  (try simp only [Act.put, List.getElem_toArray, List.getElem_cons_succ, List.getElem_cons_zero, List.setIfInBounds_toArray, List.set_cons_succ, List.set_cons_zero])
  refine wpTwo_takeT (i := 10) (v := .int .i64 err) rfl (by kernel_rfl) (by kernel_rfl) (by kernel_rfl) (fun _ _ _ h => h) ⟨by rfl, ?_⟩ hT1 ?_
  · intro w _
    go_simp
  (try simp only [Act.put, List.getElem_toArray, List.getElem_cons_succ, List.getElem_cons_zero, List.setIfInBounds_toArray, List.set_cons_succ, List.set_cons_zero])
  by_cases hE : E = 0
  · obtain ⟨rfl, hnw, g, h, hg, hh, ⟨rfl, hm1, he1⟩, ⟨rfl, hm2, he2⟩, hI1, hI2⟩ : err = 0 ∧ _ := by
        rcases HQ.out with h | h
        · exact absurd hE h.1
        · exact h.2
    rw [← hm1] at he1
    rw [← hm2] at he2
    subst he1 he2
    have HI := Lib.hid (show nw = (stepS r.s c false).now ∧ (stepS r.s c false).ns.length = e1 ∧ (stepS r.s c false).os.length = e2 ∧ X.heap.size ≤ g ∧ X.heap.size ≤ h ∧ IBlock X1 g (stepS r.s c false).ns ∧ IBlock X1 h (stepS r.s c false).os ∧ E = 0 from ⟨hnw, hm1.symm, hm2.symm, hg, hh, hI1, hI2, hE⟩)
    clear hnw hm1 hm2 hg hh hI1 hI2 HQ hE
    refine wpTwo_ready (rs := [11]) (by kernel_rfl) (by simp) ?_
    refine (AllTwo.cons rfl (fun K hK => ?_) AllTwo.nil)
    go_simp
    (with_reducible refine (gotR_ok nw (some ⟨g, 0, none⟩) e1 e1 (some ⟨h, 0, none⟩) e2 e2 X1).mono ?_)
    rintro e X2 ⟨rfl, hb2⟩
    have HX2 := Lib.hid (show VtAt X2 z B r (.slice p1 n c1) (.slice p2 n c2) nv qb qc lv ls ∧ ABox X2 zo k c x ∧ Keeps (dS z qb lv) W X2 from ⟨HX1.out.1.below hb2, HX1.out.2.1.below hb2, HX1.out.2.2.trans (Keeps.of_below hb2)⟩)
    have HI2 := Lib.hid (And.intro (HI.out.2.2.2.2.2.1.below hb2) (HI.out.2.2.2.2.2.2.1.below hb2))
    have hT2 := HX2.out.2.1
    have hS2 := HX2.out.1.box
    clear hb2 HX1
    go_wp2_with fail
    refine hK.out _ _ ⟨hT2, fun _ _ => hS2⟩ ?_
    clear hK K hT1 hS1
    (try simp only [Act.put, List.getElem_toArray, List.getElem_cons_succ, List.getElem_cons_zero, List.setIfInBounds_toArray, List.set_cons_succ, List.set_cons_zero])
    refine wpTwo_takeT (i := 12) (v := .pointer (some ⟨z, 0, none⟩)) rfl (by kernel_rfl) (by kernel_rfl) (by kernel_rfl) (fun _ _ _ h => h) ⟨by rfl, ?_⟩ hT2 ?_
    · intro w _
      go_simp
    (try simp only [Act.put, List.getElem_toArray, List.getElem_cons_succ, List.getElem_cons_zero, List.setIfInBounds_toArray, List.set_cons_succ, List.set_cons_zero])
    refine wpTwo_takeT (i := 13) (v := .pointer (some ⟨z, 0, none⟩)) rfl (by kernel_rfl) (by kernel_rfl) (by kernel_rfl) (fun _ _ _ h => h) ⟨by rfl, ?_⟩ hT2 ?_
    · intro w _
      go_simp
    (try simp only [Act.put, List.getElem_toArray, List.getElem_cons_succ, List.getElem_cons_zero, List.setIfInBounds_toArray, List.set_cons_succ, List.set_cons_zero])
    refine wpTwo_takeT (i := 14) (v := .pointer (some ⟨z, 0, none⟩)) rfl (by kernel_rfl) (by kernel_rfl) (by kernel_rfl) (fun _ _ _ h => h) ⟨by rfl, ?_⟩ hT2 ?_
    · intro w _
      go_simp
    (try simp only [Act.put, List.getElem_toArray, List.getElem_cons_succ, List.getElem_cons_zero, List.setIfInBounds_toArray, List.set_cons_succ, List.set_cons_zero])
    obtain ⟨t0, t1, t2, t3, t4, t5, t6, t7, t8⟩ := hS2.cells
    have m0 := hS2.marks 0
    have m1 := hS2.marks 1
    have m2 := hS2.marks 2
    have HF := Lib.hid (show OpQ z B E { r with s := stepS r.s c false } ls qb qc lv (.returned (.tuple #[])) W (((X2.setCell ⟨z, 0, none⟩ (.int .i64 nw)).setCell ⟨z, 1, none⟩ (.slice (some ⟨g, 0, none⟩) e1 e1)).setCell ⟨z, 2, none⟩ (.slice (some ⟨h, 0, none⟩) e2 e2)) from by
      have hz := HZ.out
      have hxx := HXX.out
      have hS : ∀ b, X.heap.size ≤ b → ¬ vS B qb lv b := fun b hb h => by
        rcases h with h | h | h
        · omega
        · have := HXL.out.1; omega
        · have := HXL.out.2 b h.symm; omega
      have := HX2.out.1.setR _ g h e1 e2 HI2.out.1 HI2.out.2 HI.out.2.1 HI.out.2.2.1 (hS g HI.out.2.2.2.1) (hS h HI.out.2.2.2.2.1)
      rw [← HI.out.1] at this
      exact ⟨HX2.out.2.2.trans ((VtBox.putRK X2 z nw (.slice (some ⟨g, 0, none⟩) e1 e1) (.slice (some ⟨h, 0, none⟩) e2 e2)).sub fun k _ e => .inl e), .inr ⟨HI.out.2.2.2.2.2.2.2, rfl, _, _, _, _, this, fun _ hg => .inl hg⟩⟩)
    have hT3 := hT2.keeps (VtBox.putRK X2 z nw (.slice (some ⟨g, 0, none⟩) e1 e1) (.slice (some ⟨h, 0, none⟩) e2 e2)) (by have := HZ.out; omega)
    refine wpTwo_ready (rs := [15]) (by kernel_rfl) (by simp) ?_
    refine (AllTwo.cons rfl (fun K hK => ?_) AllTwo.nil)
    go_simp
    refine hK.out _ _ ⟨hT3, fun h => absurd h (by decide)⟩ ?_
    clear hK K
    (try simp only [Act.put, List.getElem_toArray, List.getElem_cons_succ, List.getElem_cons_zero, List.setIfInBounds_toArray, List.set_cons_succ, List.set_cons_zero])
    refine wpTwo_end (by kernel_rfl) ?_ _
    clear t0 t1 t2 t3 t4 t5 t6 t7 t8 m0 m1 m2 hT2 hS2 hT3 HX2
    go_wp2
    go_end0
    exact HF.out
  · obtain rfl : err = E := by
      rcases HQ.out with h | h
      · exact h.2
      · exact absurd h.1 hE
    have HC := Lib.hid (gotR_no nw g1 m1 e1 g2 m2 e2 err hE X1)
    refine wpTwo_ready (rs := [11]) (by kernel_rfl) (by simp) ?_
    refine (AllTwo.cons rfl (fun K hK => ?_) AllTwo.nil)
    go_simp
    (with_reducible refine HC.out.mono ?_)
    rintro e X2 ⟨rfl, hb2⟩
    exact ⟨rfl, HX1.out.2.2.trans (Keeps.of_below hb2), .inl ⟨hE, rfl, HX1.out.1.any.keeps (Keeps.of_below (S := fun _ => False) hb2) id⟩⟩

end Go.Proofs.YtdllhiihmpinoaaGreat
