/-
  What GracePlays keeps: readers and graces in boxes; what Play answers, told by parts.
  Conditions: as each has them.
-/
import Derived.Test.YtdmcijfjnegcgaaJA11
import Derived.Maps.AppendAt
import Derived.WalkSpells
import Derived.Test.YtdmcijfjnegcgaaJA8
import Derived.Test.YtdmcijfjnegcgaaJA6
/-
  The reference of layer 12: Play, its walk.
  Conditions: readers and a grace that may be.
-/
namespace Go.Proofs.Ytdmcijfjnegcgaa
set_option maxRecDepth 100000
open Go.RowKit Go.Shelf
attribute [local go_sem] Oper.semAt_some

def RPlayQ (Z : Nat → Prop) (B : Nat) (s : RdS) (g : GrS) (n : Nat) (l : List (Int × Int)) (e : Ending) (w : World) : Prop :=
  (playE ⟨s, g, []⟩ l ≠ 0 ∧ e = .returned (.tuple #[.agg #[.int .i64 0, .slice none 0 0, .slice none 0 0], .agg #[.int .i64 0, .int .i64 0, .bool false, .slice none 0 0], .slice none 0 0, .int .i64 (playE ⟨s, g, []⟩ l)])) ∨
  (playE ⟨s, g, []⟩ l = 0 ∧ ∃ p1 c1 p2 c2 p3 c3 pl cl, e = .returned (.tuple #[.agg #[.int .i64 (playP ⟨s, g, []⟩ l).s.now, .slice p1 n c1, .slice p2 n c2], .agg #[.int .i64 (playP ⟨s, g, []⟩ l).g.done, .int .i64 (playP ⟨s, g, []⟩ l).g.asked, .bool (playP ⟨s, g, []⟩ l).g.on, .slice p3 n c3], .slice pl (playP ⟨s, g, []⟩ l).ls.length cl, .int .i64 0]) ∧
    NumsAt w .i64 (.slice p1 n c1) (playP ⟨s, g, []⟩ l).s.ns ∧ NumsAt w .i64 (.slice p2 n c2) (playP ⟨s, g, []⟩ l).s.os ∧ BoolsAt w (.slice p3 n c3) (playP ⟨s, g, []⟩ l).g.nd ∧ w.ownsRow (B + 4) 3 1 (.slice pl (playP ⟨s, g, []⟩ l).ls.length cl) (playP ⟨s, g, []⟩ l).ls.length ((playP ⟨s, g, []⟩ l).ls.map (Value.int .i64)) ∧ FarP Z B p1 ∧ FarP Z B p2 ∧ FarP Z B p3)

set_option maxHeartbeats 16000000 in
theorem rplay_c (Z : Nat → Prop) (s : RdS) (g : GrS) (au : Option Addr) (bu : Nat) (av : Option Addr) (bv : Nat) (an : Option Addr) (bn n : Nat) (tv : Value) (l : List (Int × Int)) (hs : Good s) (hg : GoodG g) (hns : s.ns.length = n) (hnd : g.nd.length = n) (W : World) (hu : NumsAt W .i64 (.slice au n bu) s.ns) (hv : NumsAt W .i64 (.slice av n bv) s.os) (hw : BoolsAt W (.slice an n bn) g.nd) (hl : TksAt W tv l) (hll : l.length ≤ 1000000) (z1 : ∀ a : Addr, au = some a → ¬ Z a.block) (z2 : ∀ a : Addr, av = some a → ¬ Z a.block) (z3 : ∀ a : Addr, an = some a → ¬ Z a.block) :
    Calls Try.prog 26 #[.agg #[.int .i64 s.now, .slice au n bu, .slice av n bv], .agg #[.int .i64 g.done, .int .i64 g.asked, .bool g.on, .slice an n bn], tv] W fun e w' => RPlayQ Z W.heap.size s g n l e w' ∧ Below W.heap.size W w' := by
  have HL := Lib.hid hl
  obtain ⟨tp, tc, rfl, -⟩ := hl
  have h1 : 1 ≤ n := by rw [← hnd]; exact hg.l1
  have fu : FarP Z W.heap.size au := fun a e => by
    obtain ⟨q, d, e', hc⟩ := hu
    injection e' with e1 e2 e3
    obtain ⟨b, off, rfl, hcs⟩ := hc (by intro h; rw [h] at hns; simp at hns; omega)
    have hz := z1 a e
    rw [e] at e1; injection e1 with e1; rw [e1] at hz ⊢
    exact .inl ⟨World.block_lt_of_cell? W _ (hcs 0 (by omega)), hz⟩
  have fv : FarP Z W.heap.size av := fun a e => by
    have hlo := hs.lo
    obtain ⟨q, d, e', hc⟩ := hv
    injection e' with e1 e2 e3
    obtain ⟨b, off, rfl, hcs⟩ := hc (by intro h; rw [h] at hlo; simp at hlo; omega)
    have hz := z2 a e
    rw [e] at e1; injection e1 with e1; rw [e1] at hz ⊢
    exact .inl ⟨World.block_lt_of_cell? W _ (hcs 0 (by omega)), hz⟩
  have fn : FarP Z W.heap.size an := fun a e => .inl ⟨bools_lt hw (by intro h; rw [h] at hnd; simp at hnd; omega) a e, z3 a e⟩
  obtain ⟨w0, hw0⟩ : ∃ X : World, X = (((W.alloc (.cells #[.int .i64 s.now, .slice au n bu, .slice av n bv] 45)).alloc (.cells #[.int .i64 g.done, .int .i64 g.asked, .bool g.on, .slice an n bn] 24)).alloc (.cells #[.int .i64 0, .slice none 0 0, .slice none 0 0] 45)).alloc (.cells #[.int .i64 0, .int .i64 0, .bool false, .slice none 0 0] 24) := ⟨_, rfl⟩
  have hb0 : Below W.heap.size W w0 := by rw [hw0]; exact below4 _ _ _ _ _
  have HI0 := Lib.hid (show PyI Z W l n 0 ⟨s, g, []⟩ ⟨s, g, []⟩ au bu av bv an bn w0 from ⟨⟨hs, hg, by rw [hns, hnd]⟩, hnd, by rw [hw0]; exact (((RBox.new W _ _ _).below (below1 _ _)).below (below1 _ _)).below (below1 _ _), by
      rw [hw0]
      have := ((GBox.new (W.alloc (.cells #[.int .i64 s.now, .slice au n bu, .slice av n bv] 45)) g.done g.asked g.on (.slice an n bn)).below (below1 _ (.cells #[.int .i64 0, .slice none 0 0, .slice none 0 0] 45))).below (below1 _ (.cells #[.int .i64 0, .int .i64 0, .bool false, .slice none 0 0] 24))
      simpa using this, by
      rw [hw0]
      have := (RBox.new ((W.alloc (.cells #[.int .i64 s.now, .slice au n bu, .slice av n bv] 45)).alloc (.cells #[.int .i64 g.done, .int .i64 g.asked, .bool g.on, .slice an n bn] 24)) 0 (.slice none 0 0) (.slice none 0 0)).below (below1 _ (.cells #[.int .i64 0, .int .i64 0, .bool false, .slice none 0 0] 24))
      simpa using this, by
      rw [hw0]
      have := GBox.new (((W.alloc (.cells #[.int .i64 s.now, .slice au n bu, .slice av n bv] 45)).alloc (.cells #[.int .i64 g.done, .int .i64 g.asked, .bool g.on, .slice an n bn] 24)).alloc (.cells #[.int .i64 0, .slice none 0 0, .slice none 0 0] 45)) 0 0 false (.slice none 0 0)
      simpa using this, nums_below hu hb0, nums_below hv hb0, bools_below hw hb0, fu, fv, fn, hb0, rfl, rfl, Nat.zero_le _⟩)
  have HW0 := Lib.hid hw0
  obtain ⟨i1, hi1, hy0, hy1, hy2⟩ := info_parts cloneI_info
  have HI1 := Lib.hid (And.intro hi1 (And.intro hy0 (And.intro hy1 hy2)))
  clear fu fv fn z1 z2 z3 hw0 hb0 hs hg hns hnd hu hv hw hi1 hy0 hy1 hy2
  go_enter Try.func26, Try.ntmps26
  go_upto_region 1 with fail
  rw [← HW0.out]
  clear HW0
  go_wp2_with fail
  go_loopw [10, 19] (fun qv iv wx => ∃ (k m : Nat) (P : PlS) (pu : Option Addr) (cu : Nat) (pv : Option Addr) (cv : Nat) (pn : Option Addr) (cn : Nat) (pl : Option Addr) (cl : Nat), k ≤ l.length ∧ iv = .int .i64 (k : Int) ∧ qv = .slice pl m cl ∧ m ≤ k ∧ Hid (m = P.ls.length) ∧ Hid (PyI Z W l n k ⟨s, g, []⟩ P pu cu pv cv pn cn wx) ∧ Hid (wx.ownsRow (W.heap.size + 4) 3 1 (.slice pl m cl) m (P.ls.map (Value.int .i64))) ∧ Hid (SepP pl pu ∧ SepP pl pv ∧ SepP pl pn)) (fun _ iv _ => l.length - (intOf iv).toNat)
  case atStart => exact ⟨0, 0, ⟨s, g, []⟩, au, bu, av, bv, an, bn, none, 0, Nat.zero_le _, rfl, rfl, Nat.le_refl _, Lib.hid rfl, HI0, Lib.hid (World.ownsRow_nil _ _ _ _), Lib.hid ⟨fun q e => (by cases e), fun q e => (by cases e), fun q e => (by cases e)⟩⟩
  case round =>
    obtain ⟨k, m, P, pu, cu, pv, cv, pn, cn, pl, cl, hk, rfl, rfl, hmk, HM, HI, HO, HSP⟩ := hrel
    clear HI0
    by_cases hkl : k < l.length
    · obtain ⟨p', c', ep, hcs⟩ := HL.out
      injection ep with ep1 ep2 ep3
      subst ep1
      obtain ⟨lb, lo, rfl, hcs2⟩ := hcs (by intro e; rw [e] at hkl; cases hkl)
      obtain ⟨x, hx⟩ : ∃ x, x = l[k].1 := ⟨_, rfl⟩
      obtain ⟨y, hy⟩ : ∃ y, y = l[k].2 := ⟨_, rfl⟩
      have t1 := below_cell HI.out.b (hcs2 k hkl).1
      have t2 := below_cell HI.out.b (hcs2 k hkl).2
      rw [← hx] at t1
      rw [← hy] at t2
      have HXY := Lib.hid (show l[k] = (x, y) by rw [hx, hy])
      have HKL := Lib.hid hkl
      clear hcs hcs2 ep2 ep3 hx hy
      have hk0 : (0 : Int) ≤ (k : Int) := by omega
      have hkx : (k : Int) < (l.length : Int) := by omega
      obtain ⟨w1, hw1⟩ : ∃ X : World, X = wr.alloc (.cells #[.int .i64 x, .int .i64 y] 50) := ⟨_, rfl⟩
      obtain ⟨z12, hz12⟩ : ∃ z, z = wr.heap.size := ⟨_, rfl⟩
      have hb1 : Below wr.heap.size wr w1 := by rw [hw1]; exact below1 _ _
      have hbx : TBx w1 z12 x y := by rw [hw1, hz12]; exact World.alloc_heap_new _ _
      have HI1w := Lib.hid (HI.out.below hb1)
      have HO1 := Lib.hid (owns_below HO.out hb1)
      have HT := Lib.hid (rtick_c P.s P.g pu cu pv cv pn cn n x y HI.out.good.s HI.out.good.g (by rw [HI.out.good.len, HI.out.len]) HI.out.len w1 HI1w.out.nu HI1w.out.nv HI1w.out.nb)
      have HW1 := Lib.hid (And.intro hw1 hz12)
      have HOW := Lib.hid (show ∀ q : Nat, pl = some ⟨q, 0, none⟩ → q < w1.heap.size from fun q e => by have := (HO1.out.lt q (by rw [e]; rfl)).2; exact this)
      have HS1 := Lib.hid (show W.heap.size + 4 ≤ w1.heap.size by have := HI1w.out.z7.lt; omega)
      go_upto_region 5 with fail
      rw [← HW1.out.1, ← HW1.out.2]
      clear HW1 t1 t2 hw1 hz12 hb1
      obtain ⟨t1, t2⟩ := hbx.cells
      obtain ⟨d0, d1, d2⟩ := HI1w.out.r.cells
      obtain ⟨e0, e1, e2, e3⟩ := HI1w.out.g.cells
      clear hbx HI HO
      go_wp2_with fail
      (with_reducible refine HT.out.mono ?_)
      rintro e w2 ⟨hQ, hb2⟩
      have HI2a := Lib.hid (HI1w.out.below hb2)
      have HO2a := Lib.hid (owns_below HO1.out hb2)
      clear HI1w HO1 HT t1 t2 d0 d1 d2 e0 e1 e2 e3
      rcases hQ with ⟨hE, nw, p1, n1, c1, p2, n2, c2, d, a, on, p3, n3, c3, kk, rfl⟩ | ⟨hE, p1, c1, p2, c2, p3, c3, rfl, u1, u2, u3, o1, o2, o3⟩
      · obtain ⟨E, hEe⟩ : ∃ E, E = tickE ⟨P.s, P.g, []⟩ (x, y) := ⟨_, rfl⟩
        have HPE := Lib.hid (show playE ⟨s, g, []⟩ l = E by rw [hEe]; have h := HI2a.out.fail HKL.out (by rw [HXY.out]; exact hE); rw [HXY.out] at h; exact h)
        rw [← hEe] at hE ⊢
        have hne : (E != 0) = true := by rw [bne_iff_ne]; exact hE
        have HNE := Lib.hid hE
        obtain ⟨w3, hw3⟩ : ∃ X : World, X = (w2.alloc (.cells #[.int .i64 nw, .slice p1 n1 c1, .slice p2 n2 c2] 45)).alloc (.cells #[.int .i64 d, .int .i64 a, .bool on, .slice p3 n3 c3] 24) := ⟨_, rfl⟩
        have hb3 : Below w2.heap.size w2 w3 := by rw [hw3]; exact below2 _ _ _
        have HI3 := Lib.hid (HI2a.out.below hb3)
        have HW3 := Lib.hid hw3
        have b6 := HI3.out.z6
        obtain ⟨q0, q1, q2⟩ := b6.cells
        have m0 := b6.marks 0
        have m1 := b6.marks 1
        have m2 := b6.marks 2
        obtain ⟨r0, r1, r2, r3⟩ := HI3.out.z7.cells
        have n0 := HI3.out.z7.marks 0
        have n1' := HI3.out.z7.marks 1
        have n2' := HI3.out.z7.marks 2
        have n3' := HI3.out.z7.marks 3
        have HKA := Lib.hid (RBox.putK w3 (W.heap.size + 1 + 1) 0 (.slice none 0 0) (.slice none 0 0))
        have HPA := Lib.hid (b6.put 0 (.slice none 0 0) (.slice none 0 0))
        obtain ⟨w4, hw4⟩ : ∃ Y : World, Y = ((w3.setCell ⟨W.heap.size + 1 + 1, 0, none⟩ (.int .i64 0)).setCell ⟨W.heap.size + 1 + 1, 1, none⟩ (.slice none 0 0)).setCell ⟨W.heap.size + 1 + 1, 2, none⟩ (.slice none 0 0) := ⟨_, rfl⟩
        rw [← hw4] at HKA HPA
        have HZ4 := Lib.hid (HI3.out.z7.keeps HKA.out (by omega))
        have HKB := Lib.hid (GBox.putK w4 (W.heap.size + 1 + 1 + 1) 0 0 false (.slice none 0 0))
        have HPB := Lib.hid (HZ4.out.put 0 0 false (.slice none 0 0))
        rw [hw4] at HKB HPB
        have HW4 := Lib.hid hw4
        clear hw3 hb3 hw4 b6 hE hEe hb2 HI2a HO2a
        go_upto_region 6 with fail
        rw [← HW3.out]
        clear HW3
        go_wp2
        refine bodyPost_ret (results_cctt rfl _ _ _ rfl rfl rfl rfl (readers_load ((by rw [HW4.out] at HPA; exact HPA.out.keeps HKB.out (by omega)) : RBox _ (W.heap.size + 1 + 1) 0 (.slice none 0 0) (.slice none 0 0))) (grace_load HPB.out)) rfl ⟨.inl ⟨by rw [HPE.out]; exact HNE.out, by rw [HPE.out]; rfl⟩, ?_⟩
        have hb4 := HI3.out.b.trans (HKA.out.below HI3.out.b.size (fun q e => by omega))
        rw [HW4.out] at hb4
        exact hb4.trans (HKB.out.below hb4.size (fun q e => by omega))
      · have hg' := HI2a.out.good.tick (t := (x, y)) hE
        have hlen' := tick_len (t := (x, y)) HI2a.out.good hE
        have hper := per_ls P.s P.g x y
        have hTL := tickP_ls P (x, y)
        obtain ⟨⟨s1, g1, ls1⟩, hS⟩ : ∃ S, S = tickP ⟨P.s, P.g, []⟩ (x, y) := ⟨_, rfl⟩
        rw [← hS] at u1 u2 u3 hper hTL ⊢
        dsimp only at u1 u2 u3 hper hTL ⊢
        rw [hTL] at hg' hlen'
        dsimp only at hlen'
        have HTP := Lib.hid (show ∃ hkl : k < l.length, tickE P l[k] = 0 ∧ (⟨s1, g1, P.ls ++ ls1⟩ : PlS) = tickP P l[k] from ⟨HKL.out, by rw [HXY.out]; exact hE, by rw [HXY.out, hTL]⟩)
        have HPG := Lib.hid (show GoodP ⟨s1, g1, P.ls ++ ls1⟩ ∧ g1.nd.length = n from ⟨hg', by rw [hlen']; exact HI2a.out.len⟩)
        have HLS := Lib.hid (show ls1 = (if x = 3 then [nextG P.g] else []) ∧ perT P.g x = (if x = 3 then nextG P.g else 0) ∧ 0 < nextG P.g from ⟨hper, rfl, by have := HI2a.out.good.g.next; have := HI2a.out.good.g.d0; omega⟩)
        have HLK := Lib.hid (show (P.ls ++ ls1).length ≤ k + 1 by rw [List.length_append, ← HM.out, hper]; split <;> simp <;> omega)
        obtain ⟨N, hN⟩ : ∃ N, N = perT P.g x := ⟨_, rfl⟩
        rw [← hN]
        obtain ⟨z13, hz13⟩ : ∃ z, z = w2.heap.size := ⟨_, rfl⟩
        obtain ⟨z14, hz14⟩ : ∃ z, z = w2.heap.size + 1 := ⟨_, rfl⟩
        obtain ⟨w3, hw3⟩ : ∃ X : World, X = (w2.alloc (.cells #[.int .i64 s1.now, .slice p1 n c1, .slice p2 n c2] 45)).alloc (.cells #[.int .i64 g1.done, .int .i64 g1.asked, .bool g1.on, .slice p3 n c3] 24) := ⟨_, rfl⟩
        have hb3 : Below w2.heap.size w2 w3 := by rw [hw3]; exact below2 _ _ _
        have H13 := Lib.hid (show RBox w3 z13 s1.now (.slice p1 n c1) (.slice p2 n c2) ∧ GBox w3 z14 g1.done g1.asked g1.on (.slice p3 n c3) ∧ W.heap.size + 4 ≤ z13 ∧ W.heap.size + 4 ≤ z14 from ⟨by rw [hw3, hz13]; exact (RBox.new w2 _ _ _).below (below1 _ _), by
          rw [hw3, hz14]
          have := GBox.new (w2.alloc (.cells #[.int .i64 s1.now, .slice p1 n c1, .slice p2 n c2] 45)) g1.done g1.asked g1.on (.slice p3 n c3)
          simpa using this, by have := HI2a.out.z7.lt; omega, by have := HI2a.out.z7.lt; omega⟩)
        have HI2 := Lib.hid (HI2a.out.below hb3)
        have HO3 := Lib.hid (owns_below HO2a.out hb3)
        have HRW := Lib.hid (show NumsAt w3 .i64 (.slice p1 n c1) s1.ns ∧ NumsAt w3 .i64 (.slice p2 n c2) s1.os ∧ BoolsAt w3 (.slice p3 n c3) g1.nd ∧ FarP Z W.heap.size p1 ∧ FarP Z W.heap.size p2 ∧ FarP Z W.heap.size p3 from ⟨nums_below u1 hb3, nums_below u2 hb3, bools_below u3 hb3, HI2a.out.fu.new o1 HS1.out, HI2a.out.fv.new o2 HS1.out, HI2a.out.fn.new o3 HS1.out⟩)
        have HSE := Lib.hid (show SepP pl p1 ∧ SepP pl p2 ∧ SepP pl p3 from ⟨HSP.out.1.new o1 HOW.out, HSP.out.2.1.new o2 HOW.out, HSP.out.2.2.new o3 HOW.out⟩)
        have HW3 := Lib.hid (And.intro hw3 (And.intro hz13 hz14))
        have HNN := Lib.hid hN
        clear hg' hlen' hper hTL hS u1 u2 u3 o1 o2 o3 hE hb2 hb3 hw3 hz13 hz14 HI2a HO2a HSP hN
        go_upto_region 6 with fail
        rw [← HW3.out.1, ← HW3.out.2.2, ← HW3.out.2.1]
        clear HW3
        go_upto_region 8 with fail
        refine wpTwo_begin (T := fun w' => RBox w' z13 s1.now (.slice p1 n c1) (.slice p2 n c2) ∧ GBox w' z14 g1.done g1.asked g1.on (.slice p3 n c3)) (S := fun _ => True) (late := fun _ => false) (by kernel_rfl) ?_
        obtain ⟨X, hX⟩ : ∃ Y : World, Y = w3.drew := ⟨_, rfl⟩
        rw [← hX]
        have hbx : Below w3.heap.size w3 X := by rw [hX]; exact (Below.refl _ _).drew
        clear hX
        have hT0 := And.intro (H13.out.1.below hbx) (H13.out.2.1.below hbx)
        have HI3 := Lib.hid (HI2.out.below hbx)
        have HR3 := Lib.hid (And.intro (nums_below HRW.out.1 hbx) (And.intro (nums_below HRW.out.2.1 hbx) (bools_below HRW.out.2.2.1 hbx)))
        have HSX := Lib.hid (show w3.heap.size ≤ X.heap.size from hbx.size)
        have HOX := Lib.hid (owns_below HO3.out hbx)
        clear hbx
        refine wpTwo_takeT (i := 0) (v := .agg #[.int .i64 s1.now, .slice p1 n c1, .slice p2 n c2]) rfl (by kernel_rfl) (by kernel_rfl) (by kernel_rfl) (fun _ _ _ h => h) ⟨by rfl, ?_⟩ hT0 ?_
        · rintro w hTw
          obtain ⟨t0', t1', t2'⟩ := hTw.1.cells
          go_simp
        (try simp only [Act.put, List.getElem_toArray, List.getElem_cons_zero, List.setIfInBounds_toArray, List.set_cons_succ, List.set_cons_zero])
        refine wpTwo_takeT (i := 1) (v := .agg #[.int .i64 g1.done, .int .i64 g1.asked, .bool g1.on, .slice p3 n c3]) rfl (by kernel_rfl) (by kernel_rfl) (by kernel_rfl) (fun _ _ _ h => h) ⟨by rfl, ?_⟩ hT0 ?_
        · rintro w hTw
          obtain ⟨t0', t1', t2', t3'⟩ := hTw.2.cells
          go_simp
        (try simp only [Act.put, List.getElem_toArray, List.getElem_cons_succ, List.getElem_cons_zero, List.setIfInBounds_toArray, List.set_cons_succ, List.set_cons_zero])
        have b6 := HI3.out.r
        obtain ⟨q0, q1, q2⟩ := b6.cells
        have m0 := b6.marks 0
        have m1 := b6.marks 1
        have m2 := b6.marks 2
        obtain ⟨Xa, hXa⟩ : ∃ Y : World, Y = ((X.setCell ⟨W.heap.size, 0, none⟩ (.int .i64 s1.now)).setCell ⟨W.heap.size, 1, none⟩ (.slice p1 n c1)).setCell ⟨W.heap.size, 2, none⟩ (.slice p2 n c2) := ⟨_, rfl⟩
        have hka : Keeps (fun q => q = W.heap.size) X Xa := by rw [hXa]; exact RBox.putK X (W.heap.size) _ _ _
        have hpa : RBox Xa (W.heap.size) s1.now (.slice p1 n c1) (.slice p2 n c2) := by rw [hXa]; exact b6.put _ _ _
        have hTa := And.intro (hT0.1.keeps hka (fun e => by have := H13.out.2.2.1; omega)) (hT0.2.keeps hka (fun e => by have := H13.out.2.2.2; omega))
        have HXA := Lib.hid hXa
        have HA := Lib.hid (And.intro hpa (And.intro hka ((HI3.out.g).keeps hka (fun e => by omega))))
        clear hXa hka hpa b6
        refine wpTwo_ready (rs := [2]) (by kernel_rfl) (by simp) ?_
        refine (AllTwo.cons rfl (fun K hK => ?_) AllTwo.nil)
        go_simp
        rw [← HXA.out]
        refine hK.out _ _ ⟨hTa, fun _ _ => trivial⟩ ?_
        clear hK K hT0 q0 q1 q2 m0 m1 m2 HXA
        have hT0 := hTa
        clear hTa
        (try simp only [Act.put, List.getElem_toArray, List.getElem_cons_succ, List.getElem_cons_zero, List.setIfInBounds_toArray, List.set_cons_succ, List.set_cons_zero])
        have b7 := HA.out.2.2
        obtain ⟨q0, q1, q2, q3⟩ := b7.cells
        have m0 := b7.marks 0
        have m1 := b7.marks 1
        have m2 := b7.marks 2
        have m3 := b7.marks 3
        obtain ⟨Xb, hXb⟩ : ∃ Y : World, Y = (((Xa.setCell ⟨W.heap.size + 1, 0, none⟩ (.int .i64 g1.done)).setCell ⟨W.heap.size + 1, 1, none⟩ (.int .i64 g1.asked)).setCell ⟨W.heap.size + 1, 2, none⟩ (.bool g1.on)).setCell ⟨W.heap.size + 1, 3, none⟩ (.slice p3 n c3) := ⟨_, rfl⟩
        have hkb : Keeps (fun q => q = W.heap.size + 1) Xa Xb := by rw [hXb]; exact GBox.putK Xa (W.heap.size + 1) _ _ _ _
        have hpb : GBox Xb (W.heap.size + 1) g1.done g1.asked g1.on (.slice p3 n c3) := by rw [hXb]; exact b7.put _ _ _ _
        have hTb := And.intro (hT0.1.keeps hkb (fun e => by have := H13.out.2.2.1; omega)) (hT0.2.keeps hkb (fun e => by have := H13.out.2.2.2; omega))
        have HXB := Lib.hid hXb
        have HF := Lib.hid (show RBox Xb (W.heap.size) s1.now (.slice p1 n c1) (.slice p2 n c2) ∧ GBox Xb (W.heap.size + 1) g1.done g1.asked g1.on (.slice p3 n c3) ∧ Keeps (fun q => q = W.heap.size ∨ q = W.heap.size + 1) X Xb from ⟨HA.out.1.keeps hkb (fun e => by omega), hpb, (HA.out.2.1.sub (fun _ _ h => .inl h)).trans (hkb.sub (fun _ _ h => .inr h))⟩)
        clear hXb hkb hpb b7 HA
        refine wpTwo_ready (rs := [3]) (by kernel_rfl) (by simp) ?_
        refine (AllTwo.cons rfl (fun K hK => ?_) AllTwo.nil)
        go_simp
        rw [← HXB.out]
        refine hK.out _ _ ⟨hTb, fun _ _ => trivial⟩ ?_
        clear hK K hT0 q0 q1 q2 q3 m0 m1 m2 m3 HXB
        have hT0 := hTb
        clear hTb
        (try simp only [Act.put, List.getElem_toArray, List.getElem_cons_succ, List.getElem_cons_zero, List.setIfInBounds_toArray, List.set_cons_succ, List.set_cons_zero])
        refine wpTwo_end (by kernel_rfl) ?_ _
        clear hT0
        have HN := Lib.hid (HI3.out.next HTP.out HPG.out HR3.out.1 HR3.out.2.1 HR3.out.2.2 HRW.out.2.2.2.1 HRW.out.2.2.2.2.1 HRW.out.2.2.2.2.2 HF.out.1 HF.out.2.1 HF.out.2.2 HLK.out)
        have HOB := Lib.hid (HF.out.2.2.row HOX.out (fun q hq e => by have := (HOX.out.lt q hq).1; omega))
        have HXB := Lib.hid (show X.heap.size ≤ Xb.heap.size from HF.out.2.2.size)
        clear HF HI3 HR3 HOX HO3 HI2 HRW H13
        by_cases h3 : x = 3
        · have hls : ls1 = [N] ∧ 0 < N := by have := HLS.out; rw [if_pos h3, if_pos h3] at this; rw [HNN.out, this.2.1]; exact ⟨this.1, this.2.2⟩
          have hps : decide (0 < N) = true := decide_eq_true hls.2
          have HL1 := Lib.hid hls.1
          have HBY := Lib.hid (show W.heap.size + 4 ≤ Xb.heap.size by have := HN.out.z7.lt; omega)
          clear hls h3
          go_upto_region 10 with fail
          go_wp2_with (at_builtin; refine wpList_append_own_at _ rfl _ _ 25 rfl (W.heap.size + 4) 3 i1 (.int .i64 0) 1 8 Try.underlying25 HI1.out.1 HI1.out.2.1 HI1.out.2.2.1 HI1.out.2.2.2 rfl (by decide) (.slice pl m cl) m _ rfl (HOB.out.alloc _) ⟨Xb.heap.size, 0, none⟩ 1 1 [.int .i64 N] rfl rfl (cell_one_new _ _ _) (fun y hy => by rw [List.mem_singleton.1 hy]; rfl) (by unfold maxLen; omega) (by omega) (by have := HBY.out; simp; omega) ?_; intro v' w5 hown' hgrow _ hat; obtain ⟨q6, d6, rfl⟩ := owns_slice hown')
          have hpl : ∀ q, (Value.slice pl m cl).ownBlock = some q → pl = some ⟨q, 0, none⟩ ∧ W.heap.size + 4 ≤ q := fun q hq => by
            refine ⟨?_, (HOB.out.lt q hq).1⟩
            rcases HOB.out.2 with ⟨e, _⟩ | ⟨gq, cap, cur, e, _⟩
            · rw [e] at hq; cases hq
            · rw [e] at hq; injection e with e _ _; injection hq with hq; have hq2 : gq = q := hq; rw [e, hq2]
          have HN5 := Lib.hid ((HN.out.below (below1 Xb (.cells #[.int .i64 N] 3))).grown hgrow (fun q e => by
            have h := hpl q e
            exact ⟨h.2, HSE.out.1 q h.1, HSE.out.2.1 q h.1, HSE.out.2.2 q h.1⟩))
          have hlt : (∀ a : Addr, p1 = some a → a.block < Xb.heap.size) ∧ (∀ a : Addr, p2 = some a → a.block < Xb.heap.size) ∧ (∀ a : Addr, p3 = some a → a.block < Xb.heap.size) := by
            have hgs := HN.out.good.s
            have hgl := HN.out.good.len
            have hgn := HN.out.len
            dsimp only at hgs hgl hgn
            exact ⟨nums_lt HN.out.nu (by dsimp only; intro e; rw [e] at hgl; simp at hgl; omega), nums_lt HN.out.nv (by dsimp only; intro e; have := hgs.lo; rw [e] at this; simp at this; omega), bools_lt HN.out.nb (by dsimp only; intro e; rw [e] at hgn; simp at hgn; omega)⟩
          have hsep : ∀ {pp : Option Addr}, SepP pl pp → (∀ a : Addr, pp = some a → a.block < Xb.heap.size) → SepP q6 pp := fun {pp} hs hb q eq a ea => by
            have h1 : (Value.slice q6 (m + 1) d6).ownBlock = some q := by rw [eq]; rfl
            rcases hat with h | h
            · rw [h1] at h; exact hs q (hpl q h.symm).1 a ea
            · rw [h1] at h; injection h with h; have := hb a ea; rw [World.size_alloc] at h; omega
          have HS5 := Lib.hid (show SepP q6 p1 ∧ SepP q6 p2 ∧ SepP q6 p3 from ⟨hsep HSE.out.1 hlt.1, hsep HSE.out.2.1 hlt.2.1, hsep HSE.out.2.2 hlt.2.2⟩)
          have HO5 := Lib.hid (show w5.ownsRow (W.heap.size + 4) 3 1 (.slice q6 (m + 1) d6) (m + 1) ((P.ls ++ ls1).map (Value.int .i64)) by rw [HL1.out, List.map_append]; exact hown')
          have HM5 := Lib.hid (show m + 1 = (P.ls ++ ls1).length by rw [HL1.out, List.length_append, HM.out]; rfl)
          clear hpl hlt hsep hown' hgrow hat HOB HN HSE
          go_roundw
          case rel => exact ⟨k + 1, m + 1, ⟨s1, g1, P.ls ++ ls1⟩, p1, c1, p2, c2, p3, c3, q6, d6, by omega, by go_num, rfl, by omega, HM5, HN5, HO5, HS5⟩
          case measure => simp [intOf]; omega
        · have hls : ls1 = [] ∧ N = 0 := by have := HLS.out; rw [if_neg h3, if_neg h3] at this; rw [HNN.out]; exact ⟨this.1, this.2.1⟩
          have hps : decide (0 < N) = false := decide_eq_false (by omega)
          have HL1 := Lib.hid hls.1
          clear hls h3
          go_wp2
          go_roundw
          case rel => exact ⟨k + 1, m, ⟨s1, g1, P.ls ++ ls1⟩, p1, c1, p2, c2, p3, c3, pl, cl, by omega, by go_num, rfl, by omega, Lib.hid (by show m = (P.ls ++ ls1).length; rw [HL1.out, List.append_nil]; exact HM.out), HN, Lib.hid (by show Xb.ownsRow _ _ _ _ _ ((P.ls ++ ls1).map _); rw [HL1.out, List.append_nil]; exact HOB.out), HSE⟩
          case measure => simp [intOf]; omega
    · obtain rfl : k = l.length := by omega
      have HFI := Lib.hid (show playE ⟨s, g, []⟩ l = 0 ∧ playP ⟨s, g, []⟩ l = P by have h1 := HI.out.e; have h2 := HI.out.p; rw [List.drop_length] at h1 h2; exact ⟨h1, h2⟩)
      clear HSP hkl
      go_upto_region 12 with fail
      refine wpTwo_begin (T := fun w' => RBox w' W.heap.size P.s.now (.slice pu n cu) (.slice pv n cv) ∧ GBox w' (W.heap.size + 1) P.g.done P.g.asked P.g.on (.slice pn n cn)) (S := fun _ => True) (late := fun _ => false) (by kernel_rfl) ?_
      obtain ⟨X, hX⟩ : ∃ Y : World, Y = wr.drew := ⟨_, rfl⟩
      rw [← hX]
      have hbx : Below wr.heap.size wr X := by rw [hX]; exact (Below.refl _ _).drew
      clear hX
      have HIX := Lib.hid (HI.out.below hbx)
      have hT0 := And.intro HIX.out.r HIX.out.g
      have HOX := Lib.hid (owns_below HO.out hbx)
      clear hbx HI HO
      refine wpTwo_takeT (i := 0) (v := .agg #[.int .i64 P.s.now, .slice pu n cu, .slice pv n cv]) rfl (by kernel_rfl) (by kernel_rfl) (by kernel_rfl) (fun _ _ _ h => h) ⟨by rfl, ?_⟩ hT0 ?_
      · rintro w hTw
        obtain ⟨t0', t1', t2'⟩ := hTw.1.cells
        go_simp
      (try simp only [Act.put, List.getElem_toArray, List.getElem_cons_zero, List.setIfInBounds_toArray, List.set_cons_succ, List.set_cons_zero])
      refine wpTwo_takeT (i := 1) (v := .agg #[.int .i64 P.g.done, .int .i64 P.g.asked, .bool P.g.on, .slice pn n cn]) rfl (by kernel_rfl) (by kernel_rfl) (by kernel_rfl) (fun _ _ _ h => h) ⟨by rfl, ?_⟩ hT0 ?_
      · rintro w hTw
        obtain ⟨t0', t1', t2', t3'⟩ := hTw.2.cells
        go_simp
      (try simp only [Act.put, List.getElem_toArray, List.getElem_cons_succ, List.getElem_cons_zero, List.setIfInBounds_toArray, List.set_cons_succ, List.set_cons_zero])
      refine wpTwo_takeT (i := 2) (v := .slice pl m cl) rfl (by kernel_rfl) (by kernel_rfl) (by kernel_rfl) (fun _ _ _ h => h) ⟨by rfl, ?_⟩ hT0 ?_
      · rintro w hTw
        go_simp
      (try simp only [Act.put, List.getElem_toArray, List.getElem_cons_succ, List.getElem_cons_zero, List.setIfInBounds_toArray, List.set_cons_succ, List.set_cons_zero])
      have b6 := HIX.out.z6
      obtain ⟨q0, q1, q2⟩ := b6.cells
      have m0 := b6.marks 0
      have m1 := b6.marks 1
      have m2 := b6.marks 2
      obtain ⟨Xa, hXa⟩ : ∃ Y : World, Y = ((X.setCell ⟨W.heap.size + 1 + 1, 0, none⟩ (.int .i64 P.s.now)).setCell ⟨W.heap.size + 1 + 1, 1, none⟩ (.slice pu n cu)).setCell ⟨W.heap.size + 1 + 1, 2, none⟩ (.slice pv n cv) := ⟨_, rfl⟩
      have hka : Keeps (fun q => q = W.heap.size + 1 + 1) X Xa := by rw [hXa]; exact RBox.putK X (W.heap.size + 1 + 1) _ _ _
      have hpa : RBox Xa (W.heap.size + 1 + 1) P.s.now (.slice pu n cu) (.slice pv n cv) := by rw [hXa]; exact b6.put _ _ _
      have hTa := And.intro (hT0.1.keeps hka (by omega)) (hT0.2.keeps hka (by omega))
      have HXA := Lib.hid hXa
      have HA := Lib.hid (And.intro hpa (And.intro hka ((HIX.out.z7).keeps hka (fun e => by omega))))
      clear hXa hka hpa b6
      refine wpTwo_ready (rs := [3]) (by kernel_rfl) (by simp) ?_
      refine (AllTwo.cons rfl (fun K hK => ?_) AllTwo.nil)
      go_simp
      rw [← HXA.out]
      refine hK.out _ _ ⟨hTa, fun _ _ => trivial⟩ ?_
      clear hK K hT0 q0 q1 q2 m0 m1 m2 HXA
      have hT0 := hTa
      clear hTa
      (try simp only [Act.put, List.getElem_toArray, List.getElem_cons_succ, List.getElem_cons_zero, List.setIfInBounds_toArray, List.set_cons_succ, List.set_cons_zero])
      have b7 := HA.out.2.2
      obtain ⟨q0, q1, q2, q3⟩ := b7.cells
      have m0 := b7.marks 0
      have m1 := b7.marks 1
      have m2 := b7.marks 2
      have m3 := b7.marks 3
      obtain ⟨Xb, hXb⟩ : ∃ Y : World, Y = (((Xa.setCell ⟨W.heap.size + 1 + 1 + 1, 0, none⟩ (.int .i64 P.g.done)).setCell ⟨W.heap.size + 1 + 1 + 1, 1, none⟩ (.int .i64 P.g.asked)).setCell ⟨W.heap.size + 1 + 1 + 1, 2, none⟩ (.bool P.g.on)).setCell ⟨W.heap.size + 1 + 1 + 1, 3, none⟩ (.slice pn n cn) := ⟨_, rfl⟩
      have hkb : Keeps (fun q => q = W.heap.size + 1 + 1 + 1) Xa Xb := by rw [hXb]; exact GBox.putK Xa (W.heap.size + 1 + 1 + 1) _ _ _ _
      have hpb : GBox Xb (W.heap.size + 1 + 1 + 1) P.g.done P.g.asked P.g.on (.slice pn n cn) := by rw [hXb]; exact b7.put _ _ _ _
      have hTb := And.intro (hT0.1.keeps hkb (by omega)) (hT0.2.keeps hkb (by omega))
      have HXB := Lib.hid hXb
      have HF := Lib.hid (show RBox Xb (W.heap.size + 1 + 1) P.s.now (.slice pu n cu) (.slice pv n cv) ∧ GBox Xb (W.heap.size + 1 + 1 + 1) P.g.done P.g.asked P.g.on (.slice pn n cn) ∧ Keeps (fun q => q = W.heap.size + 1 + 1 ∨ q = W.heap.size + 1 + 1 + 1) X Xb from ⟨HA.out.1.keeps hkb (fun e => by omega), hpb, (HA.out.2.1.sub (fun _ _ h => .inl h)).trans (hkb.sub (fun _ _ h => .inr h))⟩)
      clear hXb hkb hpb b7 HA
      refine wpTwo_ready (rs := [4]) (by kernel_rfl) (by simp) ?_
      refine (AllTwo.cons rfl (fun K hK => ?_) AllTwo.nil)
      go_simp
      rw [← HXB.out]
      refine hK.out _ _ ⟨hTb, fun _ _ => trivial⟩ ?_
      clear hK K hT0 q0 q1 q2 q3 m0 m1 m2 m3 HXB
      have hT0 := hTb
      clear hTb
      (try simp only [Act.put, List.getElem_toArray, List.getElem_cons_succ, List.getElem_cons_zero, List.setIfInBounds_toArray, List.set_cons_succ, List.set_cons_zero])
      refine wpTwo_takeT (i := 5) (v := .slice pl m cl) rfl (by kernel_rfl) (by kernel_rfl) (by kernel_rfl) (fun _ _ _ h => h) ⟨by rfl, ?_⟩ hT0 ?_
      · rintro w hTw
        go_simp
      (try simp only [Act.put, List.getElem_toArray, List.getElem_cons_succ, List.getElem_cons_zero, List.setIfInBounds_toArray, List.set_cons_succ, List.set_cons_zero])
      refine wpTwo_takeT (i := 6) (v := .int .i64 0) rfl (by kernel_rfl) (by kernel_rfl) (by kernel_rfl) (fun _ _ _ h => h) ⟨by rfl, ?_⟩ hT0 ?_
      · rintro w hTw
        go_simp
      (try simp only [Act.put, List.getElem_toArray, List.getElem_cons_succ, List.getElem_cons_zero, List.setIfInBounds_toArray, List.set_cons_succ, List.set_cons_zero])
      refine wpTwo_end (by kernel_rfl) ?_ _
      clear hT0
      go_wp2
      have HBF := HIX.out.b.trans (HF.out.2.2.below HIX.out.b.size (fun k e => by omega))
      refine bodyPost_ret (results_cctt rfl _ _ _ rfl rfl rfl rfl (readers_load HF.out.1) (grace_load HF.out.2.1)) rfl ⟨.inr ⟨HFI.out.1, pu, cu, pv, cv, pn, cn, pl, cl, ?_, ?_, ?_, ?_, ?_, HIX.out.fu, HIX.out.fv, HIX.out.fn⟩, HBF⟩
      · rw [HFI.out.2, ← HM.out]; rfl
      · rw [HFI.out.2]; exact nums_keeps HIX.out.nu HF.out.2.2 (fun a e h => by have := HIX.out.fu a e; omega)
      · rw [HFI.out.2]; exact nums_keeps HIX.out.nv HF.out.2.2 (fun a e h => by have := HIX.out.fv a e; omega)
      · rw [HFI.out.2]; exact bools_keepS HIX.out.nb (fun a e h => by have := HIX.out.fn a e; omega) HF.out.2.2
      · rw [HFI.out.2, ← HM.out]; exact HF.out.2.2.row HOX.out (fun q hq e => by have := (HOX.out.lt q hq).1; omega)

end Go.Proofs.Ytdmcijfjnegcgaa
/-
  slices.Clone at ticks; ownReaders, of the statements of layer 12.
  Conditions: the readers are ones that came in.
-/
namespace Go.Proofs.Ytdmcijfjnegcgaa
set_option maxRecDepth 100000
open Go.RowKit Go.Shelf
attribute [local go_sem] Oper.semAt_some

theorem cloneT_info : (Try.prog.info? 50).map (fun i => (i.zero, i.size, i.bytes)) = some (some (.agg #[.int .i64 0, .int .i64 0]), 2, 16) := by kernel_rfl

set_option maxHeartbeats 2000000 in
theorem cloneT (v : Value) (n : Nat) (xs : List Value) (W : World) (hv : ValsAt W v 2 n xs) (h1 : ∀ u ∈ xs, u.oneCell' = true) (hn : n ≤ 1099511627776) :
    Calls Try.prog 23 #[v] W fun e w' => OwnsNew W.heap.size 50 2 n xs e w' ∧ Below W.heap.size W w' := by
  obtain ⟨hlen, p, cap, rfl, ⟨rfl, rfl, rfl⟩ | ⟨ad, rfl, hcells⟩⟩ := hv
  · obtain rfl : xs = [] := List.eq_nil_of_length_eq_zero (by omega)
    have hcmp := fun w => Lib.run_eql_slice_nil (P := Try.prog) w 46 50 none 0 0 0 0 Try.underlying46
    go_enter Try.func23, Try.ntmps23
    go_wp2
    go_ret
    exact ⟨⟨_, rfl, World.ownsRow_nil _ _ _ _⟩, Below.refl _ _⟩
  · have hcmp := fun w => Lib.run_eql_slice_nil (P := Try.prog) w 46 50 (some ad) n cap 0 0 Try.underlying46
    obtain ⟨i0, hi, hz0, hz1, hz2⟩ := info_parts cloneT_info
    have hown := World.ownsRow_lit (base := W.heap.size) (e := 50) (size := 2) W #[] 0 (Nat.le_refl _) (by decide) rfl
    have hnews : ∀ j u, xs[j]? = some u → (W.alloc (Obj.cells #[] 50)).cell? (ad.add j) = some u := fun j u hj => by
      have h0 := hcells j u hj
      rw [World.cell?_alloc_lt _ _ _ (World.block_lt_of_cell? W _ h0)]
      exact h0
    have HN := Lib.hid hnews
    have H1 := Lib.hid h1
    have HO := Lib.hid hown
    clear hnews h1 hown hcells
    go_enter Try.func23, Try.ntmps23
    go_wp2_with (at_builtin; refine wpList_append_own _ rfl _ _ 46 rfl W.heap.size 50 i0 (.agg #[.int .i64 0, .int .i64 0]) 2 16 Try.underlying46 hi hz0 hz1 hz2 rfl (by decide) _ _ _ rfl HO.out ad n cap xs rfl hlen HN.out H1.out (by unfold maxLen; omega) (by omega) (by simp) ?_; intro v' w1 hown' hgrow _)
    go_ret
    rw [Nat.zero_add, List.nil_append] at hown'
    exact ⟨⟨v', rfl, hown'⟩, below_grown ((Below.refl _ _).alloc (Nat.le_refl _) _) hgrow (fun k e => by cases e; exact Nat.le_refl _)⟩

theorem run_cutI10 (p : Option Addr) (n c k : Nat) (h : k ≤ c) (wx : World) :
    (Instr.slice 25 (.slice p n c) none (some (.int .i64 (k : Int))) none).run Try.prog wx = .ok (.slice p k c) wx := by
  rw [run_slice_h wx 25 p n c Try.underlying25 .i64 (k : Int) (by omega) (by omega)]
  have hE : (sizeOf (Try.prog.elem 25)).run Try.prog wx = .ok 1 wx := by go_simp
  rw [hE]
  have : Option.map (fun x : Addr => x.add 0) p = p := by cases p <;> simp [Addr.add_zero']
  simp [sliced, Result.andThen, this]
theorem clone_cut {W : World} {p : Option Addr} {n c k : Nat} {xs : List Int} (h : ArgR W (.slice p n c) (xs.map (Value.int .i64))) (hk : k = min n 10) (hl : (xs.take 10).length = k) (Z : World) (hb : Below W.heap.size W Z) :
    Calls Try.prog 50 #[.slice p k c] Z fun e w' => OwnsNew Z.heap.size 3 1 k ((xs.take 10).map (Value.int .i64)) e w' ∧ Below Z.heap.size Z w' := by
  obtain ⟨p1, n1, c1, e, hn1, hp1⟩ := h.below hb
  injection e with e1 e2 e3
  subst e1 e2 e3
  have h := cloneI _ _ _ Z (vals_cut10 hn1 hp1) (fun u hu => by obtain ⟨x, _, rfl⟩ := List.mem_map.1 (List.mem_of_mem_take hu); rfl) (by omega)
  rwa [← List.map_take, ← hk] at h

set_option maxHeartbeats 16000000 in
theorem ownRd_c (now : Int) (u v : Value) (xs ys : List Int) (W : World) (h0 : ArgR W u (xs.map (Value.int .i64))) (h1 : ArgR W v (ys.map (Value.int .i64))) (hx : xs.length ≤ 9223372036854775807) (hy : ys.length ≤ 9223372036854775807) :
    Calls Try.prog 22 #[.agg #[.int .i64 now, u, v]] W fun e w' => GivesR W.heap.size ⟨now, xs.take 10, ys.take 10⟩ e w' ∧ Below W.heap.size W w' := by
  obtain ⟨p, n, c, rfl, hn, hp⟩ := id h0
  obtain ⟨p', n', c', rfl, hn', hp'⟩ := id h1
  rw [List.length_map] at hn hn'
  obtain ⟨k, hk⟩ : ∃ k, k = min n 10 := ⟨_, rfl⟩
  obtain ⟨k', hk'⟩ : ∃ k, k = min n' 10 := ⟨_, rfl⟩
  have hnc : n ≤ c := by rcases hp with ⟨_, b, c⟩ | ⟨_, _, b, _⟩ <;> omega
  have hnc' : n' ≤ c' := by rcases hp' with ⟨_, b, c⟩ | ⟨_, _, b, _⟩ <;> omega
  have HLL := Lib.hid (show (xs.take 10).length = k ∧ (ys.take 10).length = k' by rw [List.length_take, List.length_take]; omega)
  have HC1 := Lib.hid (clone_cut h0 hk HLL.out.1)
  have HC2 := Lib.hid (clone_cut h1 hk' HLL.out.2)
  have hs0 := run_cutI10 p n c k (by omega)
  have hs1 := run_cutI10 p' n' c' k' (by omega)
  have hm0 := run_min10 n k hk
  have hm1 := run_min10 n' k' hk'
  have hw0' : n ≤ 9223372036854775807 := by omega
  have hw1' : n' ≤ 9223372036854775807 := by omega
  obtain ⟨w0, hw0⟩ : ∃ X : World, X = (W.alloc (.cells #[.int .i64 now, .slice p n c, .slice p' n' c'] 45)).alloc (.cells #[.int .i64 0, .slice none 0 0, .slice none 0 0] 45) := ⟨_, rfl⟩
  have HF := Lib.hid (show RBox w0 W.heap.size now (.slice p n c) (.slice p' n' c') ∧ RBox w0 (W.heap.size + 1) 0 (.slice none 0 0) (.slice none 0 0) ∧ Below W.heap.size W w0 ∧ True from ⟨by rw [hw0]; exact (RBox.new W _ _ _).below (below1 _ _), by
      rw [hw0]
      have := RBox.new (W.alloc (.cells #[.int .i64 now, .slice p n c, .slice p' n' c'] 45)) 0 (.slice none 0 0) (.slice none 0 0)
      simpa using this, by rw [hw0]; exact below2 _ _ _, trivial⟩)
  obtain ⟨d0, d1, d2⟩ := HF.out.1.cells
  have HW0 := Lib.hid hw0
  clear hw0 hp hp' hk hk' hn hn' hx hy h0 h1 hnc hnc'
  go_enter Try.func22, Try.ntmps22
  go_upto_region 1 with fail
  rw [← HW0.out]
  clear HW0
  refine wpTwo_begin (T := fun w' => RBox w' W.heap.size now (.slice p n c) (.slice p' n' c')) (S := fun _ => True) (late := fun _ => false) (by kernel_rfl) ?_
  obtain ⟨X, hX⟩ : ∃ Y : World, Y = w0.drew := ⟨_, rfl⟩
  rw [← hX]
  have hbx : Below w0.heap.size w0 X := by rw [hX]; exact (Below.refl _ _).drew
  clear hX
  have hT0 := HF.out.1.below hbx
  have HZ := Lib.hid (And.intro (HF.out.2.1.below hbx) (below_then HF.out.2.2.1 HF.out.2.2.1.size hbx))
  clear hbx d0 d1 d2
  refine wpTwo_takeT (i := 0) (v := .pointer (some ⟨W.heap.size, 0, none⟩)) rfl (by kernel_rfl) (by kernel_rfl) (by kernel_rfl) (fun _ _ _ h => h) ⟨by rfl, ?_⟩ hT0 ?_
  · rintro w hTw
    go_simp
  (try simp only [Act.put, List.getElem_toArray, List.getElem_cons_zero, List.setIfInBounds_toArray, List.set_cons_succ, List.set_cons_zero])
  refine wpTwo_takeT (i := 1) (v := .int .i64 now) rfl (by kernel_rfl) (by kernel_rfl) (by kernel_rfl) (fun _ _ _ h => h) ⟨by rfl, ?_⟩ hT0 ?_
  · rintro w hTw
    obtain ⟨t0', t1', t2'⟩ := hTw.cells
    go_simp
  (try simp only [Act.put, List.getElem_toArray, List.getElem_cons_succ, List.getElem_cons_zero, List.setIfInBounds_toArray, List.set_cons_succ, List.set_cons_zero])
  refine wpTwo_takeT (i := 2) (v := .pointer (some ⟨W.heap.size, 1, none⟩)) rfl (by kernel_rfl) (by kernel_rfl) (by kernel_rfl) (fun _ _ _ h => h) ⟨by rfl, ?_⟩ hT0 ?_
  · rintro w hTw
    go_simp
  (try simp only [Act.put, List.getElem_toArray, List.getElem_cons_succ, List.getElem_cons_zero, List.setIfInBounds_toArray, List.set_cons_succ, List.set_cons_zero])
  refine wpTwo_takeT (i := 3) (v := .slice p n c) rfl (by kernel_rfl) (by kernel_rfl) (by kernel_rfl) (fun _ _ _ h => h) ⟨by rfl, ?_⟩ hT0 ?_
  · rintro w hTw
    obtain ⟨t0', t1', t2'⟩ := hTw.cells
    go_simp
  (try simp only [Act.put, List.getElem_toArray, List.getElem_cons_succ, List.getElem_cons_zero, List.setIfInBounds_toArray, List.set_cons_succ, List.set_cons_zero])
  refine wpTwo_takeT (i := 4) (v := .pointer (some ⟨W.heap.size, 1, none⟩)) rfl (by kernel_rfl) (by kernel_rfl) (by kernel_rfl) (fun _ _ _ h => h) ⟨by rfl, ?_⟩ hT0 ?_
  · rintro w hTw
    go_simp
  (try simp only [Act.put, List.getElem_toArray, List.getElem_cons_succ, List.getElem_cons_zero, List.setIfInBounds_toArray, List.set_cons_succ, List.set_cons_zero])
  refine wpTwo_takeT (i := 5) (v := .slice p n c) rfl (by kernel_rfl) (by kernel_rfl) (by kernel_rfl) (fun _ _ _ h => h) ⟨by rfl, ?_⟩ hT0 ?_
  · rintro w hTw
    obtain ⟨t0', t1', t2'⟩ := hTw.cells
    go_simp
  (try simp only [Act.put, List.getElem_toArray, List.getElem_cons_succ, List.getElem_cons_zero, List.setIfInBounds_toArray, List.set_cons_succ, List.set_cons_zero])
  refine wpTwo_takeT (i := 6) (v := .int .i64 (n : Int)) rfl (by kernel_rfl) (by kernel_rfl) (by kernel_rfl) (fun _ _ _ h => h) ⟨by rfl, ?_⟩ hT0 ?_
  · rintro w hTw
    go_simp
  (try simp only [Act.put, List.getElem_toArray, List.getElem_cons_succ, List.getElem_cons_zero, List.setIfInBounds_toArray, List.set_cons_succ, List.set_cons_zero])
  refine wpTwo_takeT (i := 7) (v := .int .i64 (k : Int)) rfl (by kernel_rfl) (by kernel_rfl) (by kernel_rfl) (fun _ _ _ h => h) ⟨by rfl, ?_⟩ hT0 ?_
  · rintro w hTw
    go_simp
  (try simp only [Act.put, List.getElem_toArray, List.getElem_cons_succ, List.getElem_cons_zero, List.setIfInBounds_toArray, List.set_cons_succ, List.set_cons_zero])
  refine wpTwo_takeT (i := 8) (v := .slice p k c) rfl (by kernel_rfl) (by kernel_rfl) (by kernel_rfl) (fun _ _ _ h => h) ⟨by rfl, ?_⟩ hT0 ?_
  · rintro w hTw
    go_simp
  (try simp only [Act.put, List.getElem_toArray, List.getElem_cons_succ, List.getElem_cons_zero, List.setIfInBounds_toArray, List.set_cons_succ, List.set_cons_zero])
  refine wpTwo_takeT (i := 10) (v := .pointer (some ⟨W.heap.size, 2, none⟩)) rfl (by kernel_rfl) (by kernel_rfl) (by kernel_rfl) (fun _ _ _ h => h) ⟨by rfl, ?_⟩ hT0 ?_
  · rintro w hTw
    go_simp
  (try simp only [Act.put, List.getElem_toArray, List.getElem_cons_succ, List.getElem_cons_zero, List.setIfInBounds_toArray, List.set_cons_succ, List.set_cons_zero])
  refine wpTwo_takeT (i := 11) (v := .slice p' n' c') rfl (by kernel_rfl) (by kernel_rfl) (by kernel_rfl) (fun _ _ _ h => h) ⟨by rfl, ?_⟩ hT0 ?_
  · rintro w hTw
    obtain ⟨t0', t1', t2'⟩ := hTw.cells
    go_simp
  (try simp only [Act.put, List.getElem_toArray, List.getElem_cons_succ, List.getElem_cons_zero, List.setIfInBounds_toArray, List.set_cons_succ, List.set_cons_zero])
  refine wpTwo_takeT (i := 12) (v := .pointer (some ⟨W.heap.size, 2, none⟩)) rfl (by kernel_rfl) (by kernel_rfl) (by kernel_rfl) (fun _ _ _ h => h) ⟨by rfl, ?_⟩ hT0 ?_
  · rintro w hTw
    go_simp
  (try simp only [Act.put, List.getElem_toArray, List.getElem_cons_succ, List.getElem_cons_zero, List.setIfInBounds_toArray, List.set_cons_succ, List.set_cons_zero])
  refine wpTwo_takeT (i := 13) (v := .slice p' n' c') rfl (by kernel_rfl) (by kernel_rfl) (by kernel_rfl) (fun _ _ _ h => h) ⟨by rfl, ?_⟩ hT0 ?_
  · rintro w hTw
    obtain ⟨t0', t1', t2'⟩ := hTw.cells
    go_simp
  (try simp only [Act.put, List.getElem_toArray, List.getElem_cons_succ, List.getElem_cons_zero, List.setIfInBounds_toArray, List.set_cons_succ, List.set_cons_zero])
  refine wpTwo_takeT (i := 14) (v := .int .i64 (n' : Int)) rfl (by kernel_rfl) (by kernel_rfl) (by kernel_rfl) (fun _ _ _ h => h) ⟨by rfl, ?_⟩ hT0 ?_
  · rintro w hTw
    go_simp
  (try simp only [Act.put, List.getElem_toArray, List.getElem_cons_succ, List.getElem_cons_zero, List.setIfInBounds_toArray, List.set_cons_succ, List.set_cons_zero])
  refine wpTwo_takeT (i := 15) (v := .int .i64 (k' : Int)) rfl (by kernel_rfl) (by kernel_rfl) (by kernel_rfl) (fun _ _ _ h => h) ⟨by rfl, ?_⟩ hT0 ?_
  · rintro w hTw
    go_simp
  (try simp only [Act.put, List.getElem_toArray, List.getElem_cons_succ, List.getElem_cons_zero, List.setIfInBounds_toArray, List.set_cons_succ, List.set_cons_zero])
  refine wpTwo_takeT (i := 16) (v := .slice p' k' c') rfl (by kernel_rfl) (by kernel_rfl) (by kernel_rfl) (fun _ _ _ h => h) ⟨by rfl, ?_⟩ hT0 ?_
  · rintro w hTw
    go_simp
  (try simp only [Act.put, List.getElem_toArray, List.getElem_cons_succ, List.getElem_cons_zero, List.setIfInBounds_toArray, List.set_cons_succ, List.set_cons_zero])
  refine wpTwo_ready (rs := [9]) (by kernel_rfl) (by simp) ?_
  refine (AllTwo.cons rfl (fun K hK => ?_) AllTwo.nil)
  go_simp
  (with_reducible refine (HC1.out X HZ.out.2).mono ?_)
  rintro e X1 ⟨⟨v1, rfl, o1⟩, hb1⟩
  obtain ⟨q1, r1, rfl⟩ := owns_slice o1
  have hT1 := hT0.below hb1
  have HZ1 := Lib.hid (show RBox X1 (W.heap.size + 1) 0 (.slice none 0 0) (.slice none 0 0) ∧ Below W.heap.size W X1 ∧ X1.ownsRow X.heap.size 3 1 (.slice q1 k r1) k ((xs.take 10).map (Value.int .i64)) ∧ W.heap.size + 2 ≤ X.heap.size from ⟨HZ.out.1.below hb1, below_then HZ.out.2 HZ.out.2.size hb1, o1, by have := (Array.getElem?_eq_some_iff.1 HZ.out.1).1; omega⟩)
  clear o1 hb1 HZ
  go_wp2_with fail
  refine hK.out _ _ ⟨hT1, fun _ _ => trivial⟩ ?_
  clear hK K hT0
  have hT0 := hT1
  clear hT1
  (try simp only [Act.put, List.getElem_toArray, List.getElem_cons_succ, List.getElem_cons_zero, List.setIfInBounds_toArray, List.set_cons_succ, List.set_cons_zero])
  refine wpTwo_ready (rs := [17]) (by kernel_rfl) (by simp) ?_
  refine (AllTwo.cons rfl (fun K hK => ?_) AllTwo.nil)
  go_simp
  (with_reducible refine (HC2.out X1 HZ1.out.2.1).mono ?_)
  rintro e X2 ⟨⟨v2, rfl, o2⟩, hb2⟩
  obtain ⟨q2, r2, rfl⟩ := owns_slice o2
  have hT1 := hT0.below hb2
  have HZ2 := Lib.hid (show RBox X2 (W.heap.size + 1) 0 (.slice none 0 0) (.slice none 0 0) ∧ Below W.heap.size W X2 ∧ X2.ownsRow (W.heap.size + 2) 3 1 (.slice q1 k r1) k ((xs.take 10).map (Value.int .i64)) ∧ X2.ownsRow (W.heap.size + 2) 3 1 (.slice q2 k' r2) k' ((ys.take 10).map (Value.int .i64)) from ⟨HZ1.out.1.below hb2, below_then HZ1.out.2.1 HZ1.out.2.1.size hb2, (owns_below HZ1.out.2.2.1 hb2).mono HZ1.out.2.2.2, o2.mono (by have := (Array.getElem?_eq_some_iff.1 HZ1.out.1).1; omega)⟩)
  clear o2 hb2 HZ1
  go_wp2_with fail
  refine hK.out _ _ ⟨hT1, fun _ _ => trivial⟩ ?_
  clear hK K hT0
  have hT0 := hT1
  clear hT1
  (try simp only [Act.put, List.getElem_toArray, List.getElem_cons_succ, List.getElem_cons_zero, List.setIfInBounds_toArray, List.set_cons_succ, List.set_cons_zero])
  refine wpTwo_takeT (i := 18) (v := .agg #[.int .i64 now, .slice q1 k r1, .slice q2 k' r2]) rfl (by kernel_rfl) (by kernel_rfl) (by kernel_rfl) (fun _ _ _ h => h) ⟨by rfl, ?_⟩ hT0 ?_
  · rintro w hTw
    go_simp
  (try simp only [Act.put, List.getElem_toArray, List.getElem_cons_succ, List.getElem_cons_zero, List.setIfInBounds_toArray, List.set_cons_succ, List.set_cons_zero])
  have b6 := HZ2.out.1
  obtain ⟨q0', q1', q2'⟩ := b6.cells
  have m0 := b6.marks 0
  have m1 := b6.marks 1
  have m2 := b6.marks 2
  obtain ⟨Xa, hXa⟩ : ∃ Y : World, Y = ((X2.setCell ⟨W.heap.size + 1, 0, none⟩ (.int .i64 now)).setCell ⟨W.heap.size + 1, 1, none⟩ (.slice q1 k r1)).setCell ⟨W.heap.size + 1, 2, none⟩ (.slice q2 k' r2) := ⟨_, rfl⟩
  have hka : Keeps (fun q => q = W.heap.size + 1) X2 Xa := by rw [hXa]; exact RBox.putK X2 (W.heap.size + 1) _ _ _
  have hpa : RBox Xa (W.heap.size + 1) now (.slice q1 k r1) (.slice q2 k' r2) := by rw [hXa]; exact b6.put _ _ _
  have hTa := hT0.keeps hka (by omega)
  have HXA := Lib.hid hXa
  have HA := Lib.hid (show RBox Xa (W.heap.size + 1) now (.slice q1 k r1) (.slice q2 k' r2) ∧ Below W.heap.size W Xa ∧ Xa.ownsRow W.heap.size 3 1 (.slice q1 k r1) k ((xs.take 10).map (Value.int .i64)) ∧ Xa.ownsRow W.heap.size 3 1 (.slice q2 k' r2) k' ((ys.take 10).map (Value.int .i64)) from ⟨hpa, HZ2.out.2.1.trans (hka.below HZ2.out.2.1.size (fun q e => by omega)), (hka.row HZ2.out.2.2.1 (fun q hq e => by have := (HZ2.out.2.2.1.lt q hq).1; omega)).mono (by omega), (hka.row HZ2.out.2.2.2 (fun q hq e => by have := (HZ2.out.2.2.2.lt q hq).1; omega)).mono (by omega)⟩)
  clear hXa hka hpa b6 HZ2
  refine wpTwo_ready (rs := [19]) (by kernel_rfl) (by simp) ?_
  refine (AllTwo.cons rfl (fun K hK => ?_) AllTwo.nil)
  go_simp
  rw [← HXA.out]
  refine hK.out _ _ ⟨hTa, fun _ _ => trivial⟩ ?_
  clear hK K hT0 q0' q1' q2' m0 m1 m2 HXA
  (try simp only [Act.put])
  refine wpTwo_end (by kernel_rfl) ?_ _
  clear hTa
  go_wp2
  refine bodyPost_ret (v := .agg #[.int .i64 now, .slice q1 k r1, .slice q2 k' r2]) (results_cell1 rfl _ _ _ rfl (readers_load HA.out.1)) rfl ⟨⟨q1, r1, q2, r2, ?_, ?_⟩, HA.out.2.1⟩
  · dsimp only; rw [HLL.out.1, HLL.out.2]
  · dsimp only; unfold OwnR; rw [HLL.out.1, HLL.out.2]; exact ⟨HA.out.2.2.1, HA.out.2.2.2⟩

end Go.Proofs.Ytdmcijfjnegcgaa
namespace Go.Proofs.Ytdmcijfjnegcgaa
set_option maxRecDepth 100000
open Go.RowKit Go.Shelf
attribute [local go_sem] Oper.semAt_some

structure RzA (W : World) (z : Nat) (s : RdS) (p : Option Addr) (n c : Nat) (q : Option Addr) (m d : Nat) : Prop where
  box : RBox W z s.now (.slice p n c) (.slice q m d)
  nu : NumsAt W .i64 (.slice p n c) s.ns
  nv : NumsAt W .i64 (.slice q m d) s.os
structure GzA (W : World) (z : Nat) (g : GrS) (p : Option Addr) (n c : Nat) : Prop where
  box : GBox W z g.done g.asked g.on (.slice p n c)
  row : BoolsAt W (.slice p n c) g.nd
theorem RzA.below {W W' : World} {z : Nat} {s : RdS} {p q : Option Addr} {n c m d : Nat} (h : RzA W z s p n c q m d) (hb : Below W.heap.size W W') : RzA W' z s p n c q m d := ⟨h.box.below hb, nums_below h.nu hb, nums_below h.nv hb⟩
theorem GzA.below {W W' : World} {z : Nat} {g : GrS} {p : Option Addr} {n c : Nat} (h : GzA W z g p n c) (hb : Below W.heap.size W W') : GzA W' z g p n c := ⟨h.box.below hb, bools_below h.row hb⟩
/-- A row of ints is not where a block of another type lies. -/
theorem ne_of_types {W : World} {a b : Nat} {ca cb : Array Value} {ta tb : TypeId} {fa fb : Nat × Nat} (h : W.heap[a]? = some (.cells ca ta fa)) (k : W.heap[b]? = some (.cells cb tb fb)) (ht : ta ≠ tb) : a ≠ b := by
  rintro rfl
  rw [h] at k
  injection k with k
  injection k with _ k _
  exact ht k

def zeroR0 : RdS := ⟨0, [], []⟩
def resS (E : Int) (P : PlS) : RdS := if E = 0 then P.s else zeroR0
def resG (E : Int) (P : PlS) : GrS := if E = 0 then P.g else noG
def resL (E : Int) (P : PlS) : List Int := if E = 0 then P.ls else []
theorem nums_none (W : World) : NumsAt W .i64 (.slice none 0 0) [] := ⟨none, 0, rfl, fun h => absurd rfl h⟩
/-- An answer by its parts. -/
structure AnsT (E : Int) (P : PlS) (A : AnsV) (w : World) : Prop where
  x : A.x = E
  now : A.now = (resS E P).now
  d : A.d = (resG E P).done
  a : A.a = (resG E P).asked
  on : A.on = (resG E P).on
  u : NumsAt w .i64 (.slice A.pu A.nu A.cu) (resS E P).ns
  v : NumsAt w .i64 (.slice A.pv A.nv A.cv) (resS E P).os
  n : BoolsAt w (.slice A.pn A.nn A.cn) (resG E P).nd
  l : NumsAt w .i64 (.slice A.pl A.nl A.cl) (resL E P)
  l1 : (resS E P).ns.length ≤ 9223372036854775807
  l2 : (resS E P).os.length ≤ 9223372036854775807
  l3 : (resG E P).nd.length ≤ 9223372036854775807
theorem AnsT.below {E : Int} {P : PlS} {A : AnsV} {w w' : World} (h : AnsT E P A w) (hb : Below w.heap.size w w') : AnsT E P A w' :=
  ⟨h.x, h.now, h.d, h.a, h.on, nums_below h.u hb, nums_below h.v hb, bools_below h.n hb, nums_below h.l hb, h.l1, h.l2, h.l3⟩
theorem ansT_of {B : Nat} {E : Int} {P : PlS} {A : AnsV} {w : World} (h : AnsP B E P A w) : AnsT E P A w := by
  rcases h with ⟨h1, rfl⟩ | ⟨rfl, hg, gb, hb, nb, n, pl, nl, cl, rfl, hn, h1, h2, h3, h4⟩
  · have e1 : resS E P = zeroR0 := if_neg h1
    have e2 : resG E P = noG := if_neg h1
    have e3 : resL E P = [] := if_neg h1
    exact ⟨rfl, by rw [e1]; rfl, by rw [e2]; rfl, by rw [e2]; rfl, by rw [e2]; rfl, by rw [e1]; exact nums_none w, by rw [e1]; exact nums_none w, by rw [e2]; exact noG_at w, by rw [e3]; exact nums_none w, by rw [e1]; decide, by rw [e1]; decide, by rw [e2]; decide⟩
  · have e1 : resS 0 P = P.s := if_pos rfl
    have e2 : resG 0 P = P.g := if_pos rfl
    have e3 : resL 0 P = P.ls := if_pos rfl
    have k1 := hg.len
    have k2 := hg.s.lo
    have k3 := hg.s.l8
    have q1 := h1.nums
    have q2 := h2.nums
    have q3 := h3.bools
    rw [show P.s.ns.length = n by omega] at q1
    rw [show P.s.os.length = n by omega] at q2
    rw [← hn] at q3
    exact ⟨rfl, by rw [e1], by rw [e2], by rw [e2], by rw [e2], by rw [e1]; exact q1, by rw [e1]; exact q2, by rw [e2]; exact q3, by rw [e3]; exact nums_of_owns rfl h4, by rw [e1]; omega, by rw [e1]; omega, by rw [e2]; omega⟩

/-- The cells of ticks. -/
def tvs : List (Int × Int) → List Value
  | [] => []
  | c :: l => .int .i64 c.1 :: .int .i64 c.2 :: tvs l
theorem tvs_len : ∀ l : List (Int × Int), (tvs l).length = l.length * 2
  | [] => rfl
  | c :: l => by simp only [tvs, List.length_cons, tvs_len l]; omega
theorem tvs_get : ∀ (l : List (Int × Int)) (i : Nat) (h : i < l.length), (tvs l)[i * 2]? = some (.int .i64 l[i].1) ∧ (tvs l)[i * 2 + 1]? = some (.int .i64 l[i].2)
  | c :: l, 0, h => ⟨rfl, rfl⟩
  | c :: l, i + 1, h => by
    have := tvs_get l i (by simpa using h)
    rw [show (i + 1) * 2 = i * 2 + 1 + 1 by omega]
    simpa [tvs] using this
theorem tvs_one : ∀ (l : List (Int × Int)), ∀ u ∈ tvs l, u.oneCell' = true
  | [], u, h => by cases h
  | c :: l, u, h => by
    rcases List.mem_cons.1 h with rfl | h
    · rfl
    · rcases List.mem_cons.1 h with rfl | h
      · rfl
      · exact tvs_one l u h
theorem tks_of_owns {B : Nat} {E : TypeId} {W : World} {v : Value} {l : List (Int × Int)} {n : Nat} (h : W.ownsRow B E 2 v n (tvs l)) : TksAt W v l := by
  have hl := h.1
  rw [tvs_len] at hl
  obtain rfl : n = l.length := by omega
  rcases h.2 with ⟨rfl, h0⟩ | ⟨g, cap, cur, rfl, hB, hg, hcp, hmx, _⟩
  · obtain rfl : l = [] := List.eq_nil_of_length_eq_zero h0
    exact ⟨none, 0, rfl, fun h => absurd rfl h⟩
  · refine ⟨_, _, rfl, fun _ => ⟨g, 0, rfl, fun i hi => ?_⟩⟩
    have h1 := h.cellAt (i * 2) (by omega)
    have h2 := h.cellAt (i * 2 + 1) (by omega)
    rw [(tvs_get l i hi).1] at h1
    rw [(tvs_get l i hi).2] at h2
    rw [Nat.zero_add]
    exact ⟨by simpa using h1, by simpa using h2⟩
theorem tks_lt {W : World} {v : Value} {l : List (Int × Int)} (h : TksAt W v l) : ∀ b off n c, v = .slice (some ⟨b, off, none⟩) n c → l ≠ [] → b < W.heap.size := fun b off n c e hne => by
  obtain ⟨p, cap, rfl, hc⟩ := h
  obtain ⟨b', off', rfl, hcs⟩ := hc hne
  injection e with e _ _
  injection e with e
  injection e with e _
  have := World.block_lt_of_cell? W _ (hcs 0 (List.length_pos_iff.2 hne)).1
  rw [← e]
  exact this
theorem vals_tk {W : World} {p : Option Addr} {n c : Nat} {l : List (Int × Int)} (h : TksAt W (.slice p n c) l) (hz : n ≤ c ∧ (p = none → c = 0)) (k : Nat) (hk : k = min n 60) : ValsAt W (.slice p k c) 2 k (tvs (l.take 60)) := by
  obtain ⟨q, cap, e, hc⟩ := h
  injection e with e1 e2 e3
  subst e1 e2 e3
  refine ⟨by rw [tvs_len, List.length_take, hk]; omega, p, c, rfl, ?_⟩
  by_cases hne : l = []
  · subst hne
    cases p with
    | none => exact .inl ⟨rfl, by rw [hk]; simp, hz.2 rfl⟩
    | some a => exact .inr ⟨a, rfl, fun j u hj => by simp [tvs] at hj⟩
  · obtain ⟨b, off, rfl, hcs⟩ := hc hne
    refine .inr ⟨_, rfl, fun j u hj => ?_⟩
    obtain ⟨hj1, hj2⟩ := List.getElem?_eq_some_iff.1 hj
    rw [tvs_len] at hj1
    rw [addr_add_off]
    have hlt : j / 2 < (l.take 60).length := by omega
    have hlt2 : j / 2 < l.length := by rw [List.length_take] at hlt; omega
    have hg := tvs_get (l.take 60) (j / 2) hlt
    have hcc := hcs (j / 2) hlt2
    rw [List.getElem_take] at hg
    rcases (show j = j / 2 * 2 ∨ j = j / 2 * 2 + 1 by omega) with e | e
    · rw [← e, hj] at hg
      rw [← e] at hcc
      rw [Option.some.inj hg.1]
      exact hcc.1
    · rw [← e, hj] at hg
      have e2 : off + j = off + j / 2 * 2 + 1 := by omega
      rw [Option.some.inj hg.2, e2]
      exact hcc.2
theorem run_min60 (n k : Nat) (hk : k = min n 60) (wx : World) : (Builtin.min_ #[3, 3] 3 #[.int .i64 (n : Int), .int .i64 60]).run Try.prog wx = .ok (.int .i64 (k : Int)) wx := by
  have : (if (60 : Int) < (n : Int) then (60 : Int) else n) = (k : Int) := by rw [hk]; split <;> omega
  simp [Builtin.min_, Builtin.min2, this]
theorem run_cutT (p : Option Addr) (n c k : Nat) (h : k ≤ c) (wx : World) :
    (Instr.slice 46 (.slice p n c) none (some (.int .i64 (k : Int))) none).run Try.prog wx = .ok (.slice p k c) wx := by
  rw [run_slice_h wx 46 p n c Try.underlying46 .i64 (k : Int) (by omega) (by omega)]
  have hE : (sizeOf (Try.prog.elem 46)).run Try.prog wx = .ok 2 wx := by go_simp
  rw [hE]
  have : Option.map (fun x : Addr => x.add 0) p = p := by cases p <;> simp [Addr.add_zero']
  simp [sliced, Result.andThen, this]

end Go.Proofs.Ytdmcijfjnegcgaa
