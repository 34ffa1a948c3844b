/-
  ReaderBack, called with any readers, and CPU: it answers true; what was in memory stays.
  Conditions: the ranges of Go's types.
-/
import Derived.Test.YtjfphhemhaphbabYBackM
import Derived.Test.YtjfphhemhaphbabYWakes
namespace Go.Proofs.Ytjfphhemhaphbab
set_option maxRecDepth 100000
open Go.RowKit Go.Shelf
attribute [local go_sem] Oper.semAt_some

/-- Readers in a box, and their rows. -/
def BoxS (b : Nat) (s : RdS) (u v : Value) (w : World) : Prop := RBox w b s.now u v ∧ Reads s u v w
theorem BoxS.below {b : Nat} {s : RdS} {u v : Value} {w w' : World} (k : BoxS b s u v w) (hb : Below w.heap.size w w') : BoxS b s u v w' := ⟨k.1.below hb, k.2.below hb⟩
theorem BoxS.new {s : RdS} {u v : Value} {w : World} (k : Reads s u v w) : BoxS w.heap.size s u v (w.alloc (.cells #[.int .i64 s.now, u, v] 24)) := ⟨RBox.new _ _ _ _, k.below (below1 _ _)⟩
theorem i64_take {ys : List Int} (h : ∀ y ∈ ys, I64 y) : ∀ y ∈ ys.take 9, I64 y := fun y hy => h y (List.mem_of_mem_take hy)
theorem StepQ.fail {B : Nat} {s : RdS} {c : Int} {en : Bool} {nw : Int} {p1 : Option Addr} {n1 c1 : Nat} {p2 : Option Addr} {n2 c2 : Nat} {err : Int} {w : World} (h : StepQ B s c en nw p1 n1 c1 p2 n2 c2 err w) (he : err ≠ 0) : (mayB s.now s.ns s.os = false ∧ err = 210 ∨ Good s ∧ stepE s c en ≠ 0 ∧ err = stepE s c en) ∧ nw = 0 ∧ (p1 = none ∧ n1 = 0 ∧ c1 = 0) ∧ (p2 = none ∧ n2 = 0 ∧ c2 = 0) := by
  rcases h with h | h
  · exact h
  · exact absurd h.2.2.1 he
theorem StepQ.ok {B : Nat} {s : RdS} {c : Int} {en : Bool} {nw : Int} {p1 : Option Addr} {n1 c1 : Nat} {p2 : Option Addr} {n2 c2 : Nat} {err : Int} {w : World} (h : StepQ B s c en nw p1 n1 c1 p2 n2 c2 err w) (he : err = 0) : Good s ∧ stepE s c en = 0 ∧ nw = (stepS s c en).now ∧ Reads (stepS s c en) (.slice p1 n1 c1) (.slice p2 n2 c2) w ∧ n1 = (stepS s c en).ns.length ∧ n2 = (stepS s c en).os.length := by
  rcases h with h | ⟨h1, h2, h3, h4, g, hh, h5, h6, h7, ⟨rfl, rfl, rfl⟩, ⟨rfl, rfl, rfl⟩, h10, h11⟩
  · rcases h.1 with h | h
    · rw [h.2] at he; cases he
    · exact absurd (h.2.2.symm.trans he) h.2.1
  · exact ⟨h1, h2, h4, ⟨h10.nums, h11.nums⟩, rfl, rfl⟩

set_option maxHeartbeats 16000000 in
theorem back_law (now cpu : Int) (v0 v1 : Value) (xs ys : List Int) (W : World) (h0 : ArgR W v0 (xs.map (Value.int .i64))) (h1 : ArgR W v1 (ys.map (Value.int .i64))) (hx : xs.length ≤ 9223372036854775807) (hy : ys.length ≤ 9223372036854775807) (hr : ∀ y ∈ ys, I64 y) :
    Calls Try.prog 5 #[.agg #[.int .i64 now, v0, v1], .int .i64 cpu] W fun e w' => e = .returned (.bool true) ∧ Below W.heap.size W w' := by
  obtain ⟨w0, hw0⟩ : ∃ X : World, X = W.alloc (.cells #[.int .i64 now, v0, v1] 24) := ⟨_, rfl⟩
  have hb0 : Below W.heap.size W w0 := by rw [hw0]; exact below1 _ _
  have HX0 := Lib.hid (show RBox w0 W.heap.size now v0 v1 ∧ ArgR w0 v0 (xs.map (Value.int .i64)) ∧ ArgR w0 v1 (ys.map (Value.int .i64)) ∧ Below W.heap.size W w0 from ⟨by rw [hw0]; exact RBox.new _ _ _ _, h0.below hb0, h1.below hb0, hb0⟩)
  have HWK := Lib.hid (wakes_c w0)
  have HR := Lib.hid (i64_take hr)
  have HLX := Lib.hid (And.intro hx hy)
  obtain ⟨pa, na, ca, rfl, -⟩ := h0
  obtain ⟨pb, nb, cb, rfl, -⟩ := h1
  clear hb0 hr hx hy
  go_enter Try.func5, Try.ntmps5
  go_wp2_with fail
  rw [← hw0]
  clear hw0
  (with_reducible refine HWK.out.mono ?_)
  rintro e w1 ⟨rfl, hb1⟩
  obtain ⟨d0, d1, d2⟩ := (HX0.out.1.below hb1).cells
  have HB1 := Lib.hid (below_then HX0.out.2.2.2 HX0.out.2.2.2.size hb1)
  have HOW := Lib.hid (own11_c now _ _ xs ys w1 (HX0.out.2.1.below hb1) (HX0.out.2.2.1.below hb1) HLX.out.1 HLX.out.2)
  obtain ⟨s, hs⟩ : ∃ s : RdS, s = ⟨now, xs.take 9, ys.take 9⟩ := ⟨_, rfl⟩
  have HS := Lib.hid (show (∀ y ∈ s.os, I64 y) ∧ s.ns.length ≤ 9 ∧ s.os.length ≤ 9 by rw [hs]; exact ⟨HR.out, List.length_take_le _ _, List.length_take_le _ _⟩)
  rw [← hs] at HOW
  clear hb1 HX0 HWK hs
  go_wp2_with fail
  (with_reducible refine HOW.out.mono ?_)
  rintro e w2 ⟨⟨p0, c0, p1, c1, rfl, hO⟩, hb2⟩
  obtain ⟨w3, hw3⟩ : ∃ X : World, X = w2.alloc (.cells #[.int .i64 s.now, .slice p0 s.ns.length c0, .slice p1 s.os.length c1] 24) := ⟨_, rfl⟩
  obtain ⟨b5, hb5⟩ : ∃ b, b = w2.heap.size := ⟨_, rfl⟩
  have hbx3 : Below w2.heap.size w2 w3 := by rw [hw3]; exact below1 _ _
  have HX3 := Lib.hid (show BoxS b5 s (.slice p0 s.ns.length c0) (.slice p1 s.os.length c1) w3 by rw [hw3, hb5]; exact BoxS.new ⟨hO.nums.1, hO.nums.2⟩)
  have hB2 := below_then HB1.out HB1.out.size hb2
  have HB3 := Lib.hid (below_then hB2 hB2.size hbx3)
  have HW3 := Lib.hid (And.intro hw3 hb5)
  clear hO hb2 hw3 hb5 hbx3 hB2 HB1 HOW d0 d1 d2
  go_upto_region 4 with fail
  rw [← HW3.out.1, ← HW3.out.2]
  clear HW3
  obtain ⟨d0, d1, d2⟩ := HX3.out.1.cells
  have HC := Lib.hid (Enter_c s _ _ cpu w3 HX3.out.2.1 HX3.out.2.2 (by have := HS.out.2.1; omega) (by have := HS.out.2.2; omega) HS.out.1)
  go_wp2_with fail
  (with_reducible refine HC.out.mono ?_)
  rintro e w4 ⟨⟨nw, q1, n1, k1, q2, n2, k2, err, rfl, hQ⟩, hb4⟩
  obtain ⟨w5, hw5⟩ : ∃ X : World, X = w4.alloc (.cells #[.int .i64 nw, .slice q1 n1 k1, .slice q2 n2 k2] 24) := ⟨_, rfl⟩
  obtain ⟨b6, hb6⟩ : ∃ b, b = w4.heap.size := ⟨_, rfl⟩
  have hbx5 : Below w4.heap.size w4 w5 := by rw [hw5]; exact below1 _ _
  have HX5 := Lib.hid ((HX3.out.below hb4).below hbx5)
  have HR5 := Lib.hid (show RBox w5 b6 nw (.slice q1 n1 k1) (.slice q2 n2 k2) by rw [hw5, hb6]; exact RBox.new _ _ _ _)
  have hB4 := below_then HB3.out HB3.out.size hb4
  have HB5 := Lib.hid (below_then hB4 hB4.size hbx5)
  have HW5 := Lib.hid (And.intro hw5 hb6)
  have HQ := Lib.hid (hQ.keeps (Keeps.of_below (S := fun _ => False) hbx5) (fun k h => h.elim))
  clear hQ hb4 hw5 hb6 hbx5 hB4 HX3 HB3 HC d0 d1 d2
  go_upto_region 5 with fail
  rw [← HW5.out.1, ← HW5.out.2]
  clear HW5
  obtain ⟨f0, f1, f2⟩ := HR5.out.cells
  by_cases he : err = 0
  · obtain ⟨hg, hE, hnw, hrd, -, -⟩ := HQ.out.ok he
    have hq : (err != 0) = false := by rw [he]; rfl
    obtain ⟨a, ha⟩ : ∃ a : RdS, a = stepS s cpu true := ⟨_, rfl⟩
    have het := enter_then hg hE
    have hel := enter_leave hg hE
    have hga := hg.step hE
    have hsn := stepS_now s cpu true
    rw [← ha] at hnw hrd het hel hga hsn
    subst hnw
    have HA := Lib.hid (And.intro hg (And.intro hga (And.intro hsn hel)))
    have HA5 := Lib.hid (show BoxS b6 a (.slice q1 n1 k1) (.slice q2 n2 k2) w5 from ⟨HR5.out, hrd⟩)
    have hla : a.ns.length ≤ 9223372036854775807 ∧ a.os.length ≤ 9223372036854775807 := by have := hga.l8; have := hga.lo; omega
    have HRA := Lib.hid (And.intro hla hga.rangeO)
    have HC1 := Lib.hid (quiet_c a _ _ cpu w5 hrd.1 hrd.2 hla.1 hla.2 hga.rangeO)
    rw [het.1] at HC1
    have HET := Lib.hid het.2
    clear hla hga hg hE hrd he ha het hel hsn HR5 HQ
    go_wp2_with fail
    (with_reducible refine HC1.out.mono ?_)
    rintro e w6 ⟨rfl, hb6⟩
    have HX6 := Lib.hid (HX5.out.below hb6)
    have HA6 := Lib.hid (HA5.out.below hb6)
    have HB6 := Lib.hid (below_then HB5.out HB5.out.size hb6)
    clear HX5 HA5 HB5 hb6 HC1 f0 f1 f2
    obtain ⟨f0, f1, f2⟩ := HA6.out.1.cells
    have HC1 := Lib.hid (passed_c a _ _ a.now w6 HA6.out.2.1 HA6.out.2.2 HRA.out.1.1 HRA.out.1.2 HRA.out.2)
    rw [HET.out, Bool.and_false] at HC1
    go_wp2_with fail
    (with_reducible refine HC1.out.mono ?_)
    rintro e w7 ⟨rfl, hb7⟩
    have HX7 := Lib.hid (HX6.out.below hb7)
    have HA7 := Lib.hid (HA6.out.below hb7)
    have HB7 := Lib.hid (below_then HB6.out HB6.out.size hb7)
    clear HX6 HA6 HB6 hb7 HC1 f0 f1 f2
    obtain ⟨f0, f1, f2⟩ := HA7.out.1.cells
    have HC1 := Lib.hid (Leave_c a _ _ cpu w7 HA7.out.2.1 HA7.out.2.2 HRA.out.1.1 HRA.out.1.2 HRA.out.2)
    go_wp2_with fail
    (with_reducible refine HC1.out.mono ?_)
    rintro e w8 ⟨⟨nw, r1, m1, j1, r2, m2, j2, err2, rfl, hQ⟩, hb8⟩
    obtain ⟨w9, hw9⟩ : ∃ X : World, X = w8.alloc (.cells #[.int .i64 nw, .slice r1 m1 j1, .slice r2 m2 j2] 24) := ⟨_, rfl⟩
    obtain ⟨b8, hbb8⟩ : ∃ b, b = w8.heap.size := ⟨_, rfl⟩
    have hbx9 : Below w8.heap.size w8 w9 := by rw [hw9]; exact below1 _ _
    have HX9 := Lib.hid ((HX7.out.below hb8).below hbx9)
    have HA9 := Lib.hid ((HA7.out.below hb8).below hbx9)
    have hB8 := below_then HB7.out HB7.out.size hb8
    have hx9 : BoxS b5 s (.slice p0 s.ns.length c0) (.slice p1 s.os.length c1) w8 := HX7.out.below hb8
    have HQ8 := Lib.hid (And.intro hQ (And.intro hx9 (And.intro hbx9 (And.intro hbb8 hB8))))
    have HLT := Lib.hid (show b5 < b8 by rw [hbb8]; exact hx9.1.lt)
    have HR9 := Lib.hid (show RBox w9 b8 nw (.slice r1 m1 j1) (.slice r2 m2 j2) by rw [hw9, hbb8]; exact RBox.new _ _ _ _)
    have HB9 := Lib.hid (below_then hB8 hB8.size hbx9)
    have HBW := Lib.hid (show W.heap.size ≤ b8 by rw [hbb8]; exact hB8.size)
    have HW9 := Lib.hid (And.intro hw9 hbb8)
    have HQ := Lib.hid (hQ.keeps (Keeps.of_below (S := fun _ => False) hbx9) (fun k h => h.elim))
    clear hQ hb8 hw9 hbb8 hbx9 hB8 hx9 HX7 HA7 HB7 HC1 f0 f1 f2
    go_upto_region 10 with fail
    rw [← HW9.out.1, ← HW9.out.2]
    clear HW9
    obtain ⟨f0, f1, f2⟩ := HA9.out.1.cells
    obtain ⟨g0, g1, g2⟩ := HR9.out.cells
    obtain ⟨d0, d1, d2⟩ := HX9.out.1.cells
    rcases HA.out.2.2.2 with ⟨hn, hE⟩ | ⟨hn, hE, hns, hos⟩
    · have hne : err2 ≠ 0 := fun e => by have := (HQ.out.ok e).2.1; rw [hE] at this; cases this
      obtain ⟨hf, -⟩ := HQ.out.fail hne
      have he2 : err2 = 6 := by
        rcases hf with hf | hf
        · rw [(good_iff a).2 HA.out.2.1] at hf; cases hf.1
        · rw [hf.2.2, hE]
      have han : a.now = 2147483647 := by rw [HA.out.2.2.1, hn]; rfl
      have hq1 : (err2 == 6) = true := by rw [he2]; rfl
      have hq2 : (a.now == 2147483647) = true := by rw [han]; rfl
      clear hf he2 han hn hE hne
      go_wp2
      go_ret
      exact ⟨rfl, HB9.out⟩
    · have he2 : err2 = 0 := by
        by_cases e : err2 = 0
        · exact e
        · obtain ⟨hf, -⟩ := HQ.out.fail e
          rcases hf with hf | hf
          · rw [(good_iff a).2 HA.out.2.1] at hf; cases hf.1
          · exact absurd hE hf.2.1
      obtain ⟨-, -, hnw, hrd, -, -⟩ := HQ.out.ok he2
      have hq1 : (err2 == 6) = false := by rw [he2]; rfl
      have hq2 : (err2 != 0) = false := by rw [he2]; rfl
      have hn2 : nw = s.now + 2 := by rw [hnw, stepS_now, HA.out.2.2.1]; omega
      subst hn2
      have hq3 : (s.now + 2 != s.now + 2) = false := by simp
      have hs0 := HA.out.1.n0
      have hs1 := HA.out.1.n1
      obtain ⟨t, ht⟩ : ∃ t : RdS, t = ⟨s.now, (stepS a cpu false).ns, (stepS a cpu false).os⟩ := ⟨_, rfl⟩
      have hsame : sameB t s = true := by rw [ht]; unfold sameB; simp only; rw [hns, hos]; simp
      have htn : t.now = s.now := by rw [ht]
      have m0 := HR9.out.marks 0
      obtain ⟨w10, hw10⟩ : ∃ X : World, X = w9.setCell ⟨b8, 0, none⟩ (.int .i64 s.now) := ⟨_, rfl⟩
      have hb10 : Below w8.heap.size w8 w10 := by rw [hw10]; exact HQ8.out.2.2.1.setCell (p := ⟨b8, 0, none⟩) (Nat.le_of_eq HQ8.out.2.2.2.1.symm) _
      have hR10 : RBox w10 b8 s.now (.slice r1 m1 j1) (.slice r2 m2 j2) := by
        unfold RBox
        rw [hw10, heap_setCell_same w9 b8 0 _ _ _ HR9.out]
        rfl
      have hX10 := HQ8.out.2.1.below hb10
      have hrt : Reads t (.slice r1 m1 j1) (.slice r2 m2 j2) w10 := by rw [ht]; exact (HQ8.out.1.ok he2).2.2.2.1.below hb10
      have hlt2 : t.ns.length ≤ 9223372036854775807 ∧ t.os.length ≤ 9223372036854775807 := by rw [ht]; simp only; rw [hns, hos]; have := HS.out; omega
      have HC2 := Lib.hid (same_c t s _ _ _ _ w10 hrt.1 hrt.2 hX10.2.1 hX10.2.2 hlt2.1 hlt2.2 (by have := HS.out.2.1; omega) (by have := HS.out.2.2; omega))
      rw [hsame, htn] at HC2
      have HB10 := Lib.hid (HQ8.out.2.2.2.2.trans (hb10.mono HQ8.out.2.2.2.2.size))
      have HR10 := Lib.hid (And.intro hR10 hX10.1)
      have HW10 := Lib.hid hw10
      clear he2 hnw hrd ht hsame htn hw10 hb10 hR10 hX10 hrt hlt2 hE hns hos hn
      go_upto_region 15 with fail
      rw [← HW10.out]
      clear HW10 f0 f1 f2 g0 g1 g2 d0 d1 d2 m0
      obtain ⟨g0, g1, g2⟩ := HR10.out.1.cells
      obtain ⟨d0, d1, d2⟩ := HR10.out.2.cells
      go_wp2_with fail
      (with_reducible refine HC2.out.mono ?_)
      rintro e w11 ⟨rfl, hb11⟩
      have HB11 := Lib.hid (below_then HB10.out HB10.out.size hb11)
      clear hb11
      go_wp2
      go_ret
      exact ⟨rfl, HB11.out⟩
  · obtain ⟨-, rfl, ⟨rfl, rfl, rfl⟩, -⟩ := HQ.out.fail he
    have hq : (err != 0) = true := by rw [bne_iff_ne]; exact he
    clear he HQ
    go_wp2
    go_ret
    exact ⟨rfl, HB5.out⟩

end Go.Proofs.Ytjfphhemhaphbab
