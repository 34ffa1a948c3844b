/-
  ReaderRuns, called with any readers, and row of readings: it answers true; what was in memory stays.
  Conditions: the ranges of Go's types.
-/
import Derived.Test.YtjfphhemhaphbabYRunsL
import Derived.Test.YtjfphhemhaphbabYStep
namespace Go.Proofs.Ytjfphhemhaphbab
set_option maxRecDepth 100000
open Go.RowKit Go.Shelf
attribute [local go_sem] Oper.semAt_some

theorem own11_b (now : Int) (v0 v1 : Value) (xs ys : List Int) (W w : World) (h0 : ArgR W v0 (xs.map (Value.int .i64))) (h1 : ArgR W v1 (ys.map (Value.int .i64))) (hx : xs.length ≤ 9223372036854775807) (hy : ys.length ≤ 9223372036854775807) (hb : Below W.heap.size W w) :
    Calls Try.prog 7 #[.agg #[.int .i64 now, v0, v1]] w fun e w' => GivesR w.heap.size ⟨now, xs.take 9, ys.take 9⟩ e w' ∧ Below w.heap.size w w' := own11_c now v0 v1 xs ys w (h0.below hb) (h1.below hb) hx hy
/-- Behind the loop of the document's steps: what is wanted. -/
def WantAt (b : Nat) (gs : RdS) (u v : Value) (w : World) : Prop := RBox w b gs.now u v ∧ Reads gs u v w
/-- Between two rounds of the document's steps. -/
def RefI (wB : World) (b10 : Nat) (s : RdS) (l : List (Int × Bool)) (k : Nat) (pu : Option Addr) (nu cu : Nat) (pv : Option Addr) (nv cv : Nat) (wr : World) : Prop :=
  okTo s (l.take k) ∧ nu = (runS s (l.take k)).ns.length ∧ nv = (runS s (l.take k)).os.length ∧ RBox wr b10 (runS s (l.take k)).now (.slice pu nu cu) (.slice pv nv cv) ∧ OwnR wB.heap.size (runS s (l.take k)) (.slice pu nu cu) (.slice pv nv cv) wr ∧ Keeps (fun q => q = b10) wB wr

set_option maxHeartbeats 32000000 in
theorem runs_law (now : Int) (v0 v1 lv : Value) (xs ys : List Int) (l0 : List (Int × Bool)) (W : World) (h0 : ArgR W v0 (xs.map (Value.int .i64))) (h1 : ArgR W v1 (ys.map (Value.int .i64))) (hx : xs.length ≤ 9223372036854775807) (hy : ys.length ≤ 9223372036854775807) (hr : ∀ y ∈ ys, I64 y)
    (hl : RgsAt W lv l0) (hll : l0.length ≤ 9223372036854775807) (hcap : ∀ p n c, lv = .slice p n c → n ≤ c ∧ (p = none → c = 0)) :
    Calls Try.prog 3 #[.agg #[.int .i64 now, v0, v1], lv] W fun e w' => e = .returned (.bool true) ∧ Below W.heap.size W w' := by
  obtain ⟨w0, hw0⟩ : ∃ X : World, X = W.alloc (.cells #[.int .i64 now, v0, v1] 24) := ⟨_, rfl⟩
  have hb0 : Below W.heap.size W w0 := by rw [hw0]; exact below1 _ _
  have HX0 := Lib.hid (show RBox w0 W.heap.size now v0 v1 ∧ Below W.heap.size W w0 from ⟨by rw [hw0]; exact RBox.new _ _ _ _, hb0⟩)
  have HWK := Lib.hid (wakes_c w0)
  have HR := Lib.hid (i64_take hr)
  have HOWN := Lib.hid (fun (w : World) (hb : Below W.heap.size W w) => own11_b now v0 v1 xs ys W w h0 h1 hx hy hb)
  obtain ⟨s, hs⟩ : ∃ s : RdS, s = ⟨now, xs.take 9, ys.take 9⟩ := ⟨_, rfl⟩
  have HS := Lib.hid (show (∀ y ∈ s.os, I64 y) ∧ s.ns.length ≤ 9 ∧ s.os.length ≤ 9 by rw [hs]; exact ⟨HR.out, List.length_take_le _ _, List.length_take_le _ _⟩)
  rw [← hs] at HOWN
  obtain ⟨pa, na, ca, rfl, -⟩ := h0
  obtain ⟨pb, nb, cb, rfl, -⟩ := h1
  obtain ⟨pl, nl, cl, hle⟩ : ∃ p n c, lv = .slice p n c := by obtain ⟨p, c, e, -⟩ := hl; exact ⟨_, _, _, e⟩
  subst hle
  obtain ⟨k0, hk0⟩ : ∃ k, k = min nl 40 := ⟨_, rfl⟩
  have HLT := Lib.hid (hl.take k0 hk0)
  have hnl : nl = l0.length := by obtain ⟨p, c, e, -⟩ := hl; injection e
  have hm0 := run_min40 nl k0 hk0
  have hs0 : ∀ wx, (Instr.slice 25 (.slice pl nl cl) none (some (.int .i64 (k0 : Int))) none).run Try.prog wx = .ok (.slice pl k0 cl) wx := run_cut40 pl nl cl k0 (by have := (hcap pl nl cl rfl).1; omega)
  have hnl' : nl ≤ 9223372036854775807 := by omega
  obtain ⟨l, hl40⟩ : ∃ l, l = l0.take 40 := ⟨_, rfl⟩
  have hk40 : k0 ≤ 40 := by omega
  rw [← hl40] at HLT
  have HSE := Lib.hid hs
  clear hb0 hr hx hy hs hl hll hcap hk0 hnl hl40
  go_enter Try.func3, Try.ntmps3
  go_wp2_with fail
  rw [← hw0]
  clear hw0
  (with_reducible refine HWK.out.mono ?_)
  rintro e w1 ⟨rfl, hb1⟩
  obtain ⟨d0, d1, d2⟩ := (HX0.out.1.below hb1).cells
  have HB1 := Lib.hid (below_then HX0.out.2 HX0.out.2.size hb1)
  have HX1 := Lib.hid (HX0.out.1.below hb1)
  have HOW := Lib.hid (HOWN.out w1 HB1.out)
  clear hb1 HX0 HWK
  go_wp2_with fail
  (with_reducible refine HOW.out.mono ?_)
  rintro e w2 ⟨⟨p0, c0, p1, c1, rfl, hO⟩, hb2⟩
  obtain ⟨w3, hw3⟩ : ∃ X : World, X = w2.alloc (.cells #[.int .i64 s.now, .slice p0 s.ns.length c0, .slice p1 s.os.length c1] 24) := ⟨_, rfl⟩
  obtain ⟨b5, hb5⟩ : ∃ b, b = w2.heap.size := ⟨_, rfl⟩
  have hbx3 : Below w2.heap.size w2 w3 := by rw [hw3]; exact below1 _ _
  have HX3 := Lib.hid (show BoxS b5 s (.slice p0 s.ns.length c0) (.slice p1 s.os.length c1) w3 by rw [hw3, hb5]; exact BoxS.new ⟨hO.nums.1, hO.nums.2⟩)
  have hB2 := below_then HB1.out HB1.out.size hb2
  have HB3 := Lib.hid (below_then hB2 hB2.size hbx3)
  have HXA := Lib.hid ((HX1.out.below hb2).below hbx3)
  have HW3 := Lib.hid (And.intro hw3 hb5)
  clear hO hb2 hw3 hb5 hbx3 hB2 HB1 HOW HX1 d0 d1 d2
  go_upto_region 5 with fail
  rw [← HW3.out.1, ← HW3.out.2]
  clear HW3 hm0 hs0
  obtain ⟨d0, d1, d2⟩ := HX3.out.1.cells
  have HC := Lib.hid (right_c s _ _ w3 HX3.out.2.1 HX3.out.2.2 (by have := HS.out.2.1; omega) (by have := HS.out.2.2; omega))
  obtain ⟨rt, hrt⟩ : ∃ b, b = mayB s.now s.ns s.os := ⟨_, rfl⟩
  rw [← hrt] at HC
  have HRT := Lib.hid hrt
  clear hrt
  go_wp2_with fail
  (with_reducible refine HC.out.mono ?_)
  rintro e w4 ⟨rfl, hb4⟩
  have HX4 := Lib.hid (And.intro (HX3.out.below hb4) (HXA.out.below hb4))
  have HB4 := Lib.hid (below_then HB3.out HB3.out.size hb4)
  clear HX3 HXA HB3 hb4 HC d0 d1 d2
  obtain ⟨d0, d1, d2⟩ := HX4.out.1.1.cells
  have HLV4 := Lib.hid (HLT.out.1.below HB4.out)
  have HC := Lib.hid (run_all s _ _ (.slice pl k0 cl) l w4 HX4.out.1.2.1 HX4.out.1.2.2 (by have := HS.out.2.1; omega) (by have := HS.out.2.2; omega) HS.out.1 HLV4.out (by have := HLT.out.2; omega))
  go_wp2_with fail
  (with_reducible refine HC.out.mono ?_)
  rintro e w5 ⟨⟨gs, q1, n1, k1, q2, n2, k2, kk, err, rfl, hQ, hWr⟩, hb5⟩
  obtain ⟨w6, hw6⟩ : ∃ X : World, X = w5.alloc (.cells #[.int .i64 gs.now, .slice q1 n1 k1, .slice q2 n2 k2] 24) := ⟨_, rfl⟩
  obtain ⟨b7, hb7⟩ : ∃ b, b = w5.heap.size := ⟨_, rfl⟩
  obtain ⟨w7, hw7⟩ : ∃ X : World, X = w6.alloc (.cells #[.int .i64 0, .slice none 0 0, .slice none 0 0] 24) := ⟨_, rfl⟩
  obtain ⟨b10, hb10⟩ : ∃ b, b = w6.heap.size := ⟨_, rfl⟩
  have hbx6 : Below w5.heap.size w5 w6 := by rw [hw6]; exact below1 _ _
  have hbx7 : Below w6.heap.size w6 w7 := by rw [hw7]; exact below1 _ _
  have hbx57 := below_then hbx6 hbx6.size hbx7
  have HG7 := Lib.hid (show RBox w7 b7 gs.now (.slice q1 n1 k1) (.slice q2 n2 k2) ∧ Writes w4.heap.size gs q1 n1 k1 q2 n2 k2 w7 from ⟨by
    have h : RBox w6 b7 gs.now (.slice q1 n1 k1) (.slice q2 n2 k2) := by rw [hw6, hb7]; exact RBox.new _ _ _ _
    exact h.below hbx7, hWr.below hbx57⟩)
  have HZ7 := Lib.hid (show RBox w7 b10 0 (.slice none 0 0) (.slice none 0 0) by rw [hw7, hb10]; exact RBox.new _ _ _ _)
  have HB47 := Lib.hid (below_then hb5 hb5.size hbx57)
  have HQ := Lib.hid hQ
  have HN7 := Lib.hid (show w4.heap.size ≤ b7 ∧ w4.heap.size ≤ b10 ∧ b7 < b10 ∧ b10 < w7.heap.size by
    have h1 := hb5.size
    have h2 : w6.heap.size = w5.heap.size + 1 := by rw [hw6, World.size_alloc]
    have h3 : w7.heap.size = w6.heap.size + 1 := by rw [hw7, World.size_alloc]
    omega)
  have hb710 : b7 + 1 = b10 := by rw [hb10, hw6, World.size_alloc, hb7]
  have HW7 := Lib.hid (And.intro hw6 (And.intro hb7 (And.intro hw7 hb710)))
  clear hQ hWr hb5 hw6 hb7 hw7 hb10 hb710 hbx6 hbx7 hbx57 HC d0 d1 d2
  go_upto_region 8 with fail
  rw [← HW7.out.1, ← HW7.out.2.2.1, ← HW7.out.2.1, HW7.out.2.2.2]
  clear HW7
  go_upto_if 39 with fail
  go_cut [11, 12] (fun s11 s12 wc => s11 = .int .i64 kk ∧ s12 = .int .i64 err ∧ Hid (∃ pu cu pv cv, RBox wc b10 gs.now (.slice pu gs.ns.length cu) (.slice pv gs.os.length cv) ∧ Reads gs (.slice pu gs.ns.length cu) (.slice pv gs.os.length cv) wc ∧ Keeps (fun q => q = b10) w7 wc))
  case first =>
    cases rt with
    | false =>
      have hq : gs = zS ∧ kk = 0 ∧ err = 210 := by
        rcases HQ.out with h | h | h
        · exact h.2
        · have := (good_iff s).2 h.1; rw [← HRT.out] at this; cases this
        · have := (good_iff s).2 h.1; rw [← HRT.out] at this; cases this
      obtain ⟨rfl, rfl, rfl⟩ := hq
      have HF := Lib.hid (show ∃ pu cu pv cv, RBox w7 b10 zS.now (.slice pu zS.ns.length cu) (.slice pv zS.os.length cv) ∧ Reads zS (.slice pu zS.ns.length cu) (.slice pv zS.os.length cv) w7 ∧ Keeps (fun q => q = b10) w7 w7 from ⟨none, 0, none, 0, HZ7.out, zS_reads _, Keeps.refl _ _⟩)
      go_wp2
      go_meet
      exact ⟨rfl, rfl, HF⟩
    | true =>
      have hg := (good_iff s).1 HRT.out.symm
      have HG := Lib.hid hg
      have HXW := Lib.hid (show RBox w7 W.heap.size now (.slice pa na ca) (.slice pb nb cb) ∧ Below W.heap.size W w7 from ⟨HX4.out.2.below HB47.out, below_then HB4.out HB4.out.size HB47.out⟩)
      obtain ⟨d0, d1, d2⟩ := HXW.out.1.cells
      have HC := Lib.hid (HOWN.out w7 HXW.out.2)
      clear hg
      go_wp2_with fail
      (with_reducible refine HC.out.mono ?_)
      rintro e w8 ⟨⟨pu, cu, pv, cv, rfl, hO⟩, hb8⟩
      have hz8 := HZ7.out.below hb8
      have hP := hz8.put s.now (.slice pu s.ns.length cu) (.slice pv s.os.length cv)
      have hK := RBox.putK w8 b10 s.now (.slice pu s.ns.length cu) (.slice pv s.os.length cv)
      obtain ⟨g0, g1, g2⟩ := hz8.cells
      have m0 := hz8.marks 0
      have m1 := hz8.marks 1
      have m2 := hz8.marks 2
      obtain ⟨w9, hw9⟩ : ∃ X : World, X = (((w8.setCell ⟨b10, 0, none⟩ (.int .i64 s.now)).setCell ⟨b10, 1, none⟩ (.slice pu s.ns.length cu)).setCell ⟨b10, 2, none⟩ (.slice pv s.os.length cv)) := ⟨_, rfl⟩
      rw [← hw9] at hP hK
      have HI0 := Lib.hid (show RefI w7 b10 s l 0 pu s.ns.length cu pv s.os.length cv w9 from ⟨trivial, rfl, rfl, hP, ⟨hK.row hO.1 (fun g hg e => by have h1 := (hO.1.lt g hg).1; have := HN7.out; omega), hK.row hO.2 (fun g hg e => by have h1 := (hO.2.lt g hg).1; have := HN7.out; omega)⟩, (Keeps.of_below hb8).trans hK⟩)
      have HW9 := Lib.hid hw9
      have hkl : l.length = k0 := HLT.out.2
      subst hkl
      clear hz8 hP hK hw9 hO hb8 HC d0 d1 d2
      go_upto_region 10 with fail
      rw [← HW9.out]
      clear HW9 g0 g1 g2 m0 m1 m2
      go_wp2
      go_loopw [11, 12, 46] (fun av nv' iv wr => ∃ (k : Nat) (pu : Option Addr) (nu cu : Nat) (pv : Option Addr) (nv cv : Nat), k ≤ l.length ∧ av = .int .i64 (l.length : Int) ∧ nv' = .int .i64 0 ∧ iv = .int .i64 (k : Int) ∧ Hid (RefI w7 b10 s l k pu nu cu pv nv cv wr)) (fun _ _ iv _ => l.length - (intOf iv).toNat)
      case atStart => exact ⟨0, _, _, _, _, _, _, Nat.zero_le _, rfl, rfl, rfl, HI0⟩
      case round =>
        clear HI0
        obtain ⟨k, pu, nu, cu, pv, nv, cv, hk, rfl, rfl, rfl, HI⟩ := hrel
        by_cases hlt : k < l.length
        · have hB4r : Below w4.heap.size w4 wr := HB47.out.trans (HI.out.2.2.2.2.2.below HB47.out.size (fun q e => by have := HN7.out; omega))
          obtain ⟨pp, cc, hpe, hcells⟩ := HLV4.out.below hB4r
          injection hpe with hpe1 hpe2 hpe3
          subst hpe1
          clear hpe2 hpe3
          obtain ⟨b, off, hp, hcs⟩ := hcells (by intro e; rw [e] at hlt; simp at hlt)
          obtain ⟨hx, hy⟩ := hcs k hlt
          obtain ⟨cpu, hcpu⟩ : ∃ x, x = l[k].1 := ⟨_, rfl⟩
          obtain ⟨en, hen⟩ : ∃ x, x = l[k].2 := ⟨_, rfl⟩
          rw [← hcpu] at hx
          rw [← hen] at hy
          subst hp
          have hk0 : (0 : Int) ≤ (k : Int) := by omega
          have hkl : (k : Int) < (l.length : Int) := by omega
          obtain ⟨t, ht⟩ : ∃ t : RdS, t = runS s (l.take k) := ⟨_, rfl⟩
          have HTT := Lib.hid (show Good t ∧ okTo s (l.take k) ∧ t = runS s (l.take k) ∧ cpu = l[k].1 ∧ en = l[k].2 from ⟨by rw [ht]; exact HG.out.run _ HI.out.1, HI.out.1, ht, hcpu, hen⟩)
          have hI2 := HI.out.2
          rw [← ht] at hI2
          obtain ⟨rfl, rfl, hB10, hO, hKp⟩ := hI2
          obtain ⟨wa, hwa⟩ : ∃ X : World, X = wr.alloc (.cells #[.int .i64 cpu, .bool en] 33) := ⟨_, rfl⟩
          obtain ⟨bq, hbq⟩ : ∃ b, b = wr.heap.size := ⟨_, rfl⟩
          have hba : Below wr.heap.size wr wa := by rw [hwa]; exact below1 _ _
          have HA := Lib.hid (show QBox wa bq cpu en ∧ RBox wa b10 t.now (.slice pu t.ns.length cu) (.slice pv t.os.length cv) ∧ OwnR w7.heap.size t (.slice pu t.ns.length cu) (.slice pv t.os.length cv) wa ∧ Keeps (fun q => q = b10) w7 wa from ⟨by rw [hwa, hbq]; exact QBox.new _ _ _, hB10.below hba, hO.below hba, hKp.trans (Keeps.of_below hba)⟩)
          have HWA := Lib.hid (And.intro hwa hbq)
          have HT8 := Lib.hid (show t.ns.length ≤ 9223372036854775807 ∧ t.os.length ≤ 9223372036854775807 by have := HTT.out.1.l8; have := HTT.out.1.lo; omega)
          clear hwa hbq hba hcpu hen hcells hcs ht hB10 hO hKp hB4r HI
          go_upto_region 13 with fail
          rw [← HWA.out.1, ← HWA.out.2]
          clear hx hy HWA
          obtain ⟨d0, d1, d2⟩ := HA.out.2.1.cells
          obtain ⟨f0, f1⟩ := HA.out.1.cells
          have HC := Lib.hid (Leave_c t _ _ cpu wa HA.out.2.2.1.nums.1 HA.out.2.2.1.nums.2 HT8.out.1 HT8.out.2 HTT.out.1.rangeO)
          go_wp2_with fail
          (with_reducible refine HC.out.mono ?_)
          rintro e wb ⟨⟨nw, r1, m1, j1, r2, m2, j2, err1, rfl, hQ1⟩, hbb⟩
          obtain ⟨wc, hwc⟩ : ∃ X : World, X = wb.alloc (.cells #[.int .i64 nw, .slice r1 m1 j1, .slice r2 m2 j2] 24) := ⟨_, rfl⟩
          obtain ⟨b15, hb15⟩ : ∃ b, b = wb.heap.size := ⟨_, rfl⟩
          have hbc : Below wb.heap.size wb wc := by rw [hwc]; exact below1 _ _
          have hbac := below_then hbb hbb.size hbc
          have HC3 := Lib.hid (show QBox wc bq cpu en ∧ RBox wc b10 t.now (.slice pu t.ns.length cu) (.slice pv t.os.length cv) ∧ OwnR w7.heap.size t (.slice pu t.ns.length cu) (.slice pv t.os.length cv) wc ∧ Keeps (fun q => q = b10) w7 wc ∧ b10 < b15 ∧ w7.heap.size ≤ b15 from ⟨HA.out.1.below hbac, HA.out.2.1.below hbac, HA.out.2.2.1.below hbac, HA.out.2.2.2.trans (Keeps.of_below hbac), by have h1 := HA.out.2.1.lt; have h2 := hbb.size; omega, by have h1 := HA.out.2.2.2.size; have h2 := hbb.size; omega⟩)
          have HR15 := Lib.hid (show RBox wc b15 nw (.slice r1 m1 j1) (.slice r2 m2 j2) by rw [hwc, hb15]; exact RBox.new _ _ _ _)
          have HQ1 := Lib.hid (hQ1.keeps (Keeps.of_below (S := fun _ => False) hbc) (fun k h => h.elim))
          have HWC := Lib.hid (And.intro hwc hb15)
          have HQB := Lib.hid (show ∀ (p : Option Addr) (n c : Nat), (p = r1 ∧ n = m1 ∧ c = j1) → True from fun _ _ _ _ => trivial)
          clear hQ1 hbb hwc hb15 hbc hbac HC HA d0 d1 d2 f0 f1
          go_upto_region 14 with fail
          rw [← HWC.out.1, ← HWC.out.2]
          clear HWC HQB
          obtain ⟨e1, he1⟩ : ∃ x, x = stepE t cpu en := ⟨_, rfl⟩
          obtain ⟨o, ho⟩ : ∃ o : RdS, o = oneS t cpu en := ⟨_, rfl⟩
          have HEO := Lib.hid (And.intro he1 ho)
          clear he1 ho
          obtain ⟨f0, f1⟩ := HC3.out.1.cells
          go_upto_if 59 with fail
          go_cut [16] (fun s16 wd => s16 = .int .i64 e1 ∧ Hid (∃ r1 j1 r2 j2, RBox wd b15 o.now (.slice r1 o.ns.length j1) (.slice r2 o.os.length j2) ∧ Reads o (.slice r1 o.ns.length j1) (.slice r2 o.os.length j2) wd ∧ QBox wd bq cpu en ∧ RBox wd b10 t.now (.slice pu t.ns.length cu) (.slice pv t.os.length cv) ∧ OwnR w7.heap.size t (.slice pu t.ns.length cu) (.slice pv t.os.length cv) wd ∧ Keeps (fun q => q = b10) w7 wd))
          case first =>
            cases en with
            | false =>
              obtain ⟨ha, hb, hc, hd, he⟩ := HQ1.out.one HTT.out.1
              rw [← HEO.out.1] at ha
              rw [← HEO.out.2] at hb hc hd he
              subst ha
              subst hb
              subst hc
              subst hd
              have HF := Lib.hid (show ∃ r1 j1 r2 j2, RBox wc b15 o.now (.slice r1 o.ns.length j1) (.slice r2 o.os.length j2) ∧ Reads o (.slice r1 o.ns.length j1) (.slice r2 o.os.length j2) wc ∧ QBox wc bq cpu false ∧ RBox wc b10 t.now (.slice pu t.ns.length cu) (.slice pv t.os.length cv) ∧ OwnR w7.heap.size t (.slice pu t.ns.length cu) (.slice pv t.os.length cv) wc ∧ Keeps (fun q => q = b10) w7 wc from ⟨r1, j1, r2, j2, HR15.out, he, HC3.out.1, HC3.out.2.1, HC3.out.2.2.1, HC3.out.2.2.2.1⟩)
              clear he HQ1 HR15 HC3
              go_wp2
              go_meet
              exact ⟨rfl, HF⟩
            | true =>
              obtain ⟨d0, d1, d2⟩ := HC3.out.2.1.cells
              have HC := Lib.hid (Enter_c t _ _ cpu wc HC3.out.2.2.1.nums.1 HC3.out.2.2.1.nums.2 HT8.out.1 HT8.out.2 HTT.out.1.rangeO)
              go_wp2_with fail
              (with_reducible refine HC.out.mono ?_)
              rintro e wd ⟨⟨nw2, s1, y1, z1, s2, y2, z2, err2, rfl, hQ2⟩, hbd⟩
              obtain ⟨ha, hb, hc, hd, he⟩ := hQ2.one HTT.out.1
              rw [← HEO.out.1] at ha
              rw [← HEO.out.2] at hb hc hd he
              subst ha
              subst hb
              subst hc
              subst hd
              have hR := HR15.out.below hbd
              obtain ⟨g0, g1, g2⟩ := hR.cells
              have v0 := hR.marks 0
              have v1 := hR.marks 1
              have v2 := hR.marks 2
              have hP := hR.put o.now (.slice s1 o.ns.length z1) (.slice s2 o.os.length z2)
              have hK := RBox.putK wd b15 o.now (.slice s1 o.ns.length z1) (.slice s2 o.os.length z2)
              obtain ⟨we, hwe⟩ : ∃ X : World, X = (((wd.setCell ⟨b15, 0, none⟩ (.int .i64 o.now)).setCell ⟨b15, 1, none⟩ (.slice s1 o.ns.length z1)).setCell ⟨b15, 2, none⟩ (.slice s2 o.os.length z2)) := ⟨_, rfl⟩
              rw [← hwe] at hP hK
              have hne := HC3.out.2.2.2.2
              have hO := HC3.out.2.2.1.below hbd
              have hlt15 := HR15.out.lt
              have hw7 : Keeps (fun q => q = b10) w7 we := by
                have h1 := HC3.out.2.2.2.1.trans (Keeps.of_below hbd)
                exact ⟨hK.os.trans h1.os, hK.tape.trans h1.tape, hK.output.trans h1.output, Nat.le_trans h1.size hK.size, fun q hq hn => (hK.block q (Nat.lt_of_lt_of_le hq h1.size) (by omega)).trans (h1.block q hq hn)⟩
              have hrd : Reads o (.slice s1 o.ns.length z1) (.slice s2 o.os.length z2) we := by
                rcases hQ2 with h | ⟨_, _, _, _, g, hh, h5, h6, _, h7, h8, _, _⟩
                · obtain ⟨-, -, ⟨-, h0, -⟩, ⟨-, h00, -⟩⟩ := h
                  exact ⟨nums_none he.1 h0, nums_none he.2 h00⟩
                · exact ⟨nums_keeps he.1 hK (fun x hx e => by rw [hx] at h7; have := h7.1; injection this with this; rw [this] at e; simp only at e; omega), nums_keeps he.2 hK (fun x hx e => by rw [hx] at h8; have := h8.1; injection this with this; rw [this] at e; simp only at e; omega)⟩
              have hown : OwnR w7.heap.size t (.slice pu t.ns.length cu) (.slice pv t.os.length cv) we := ⟨hK.row hO.1 (fun g hg e => by
                  obtain ⟨ccc, ff, hh1⟩ := Lib.ownsRow_kind hO.1 g hg
                  have hh2 : wd.heap[b15]? = _ := hR
                  rw [e, hh2] at hh1
                  simp at hh1), hK.row hO.2 (fun g hg e => by
                  obtain ⟨ccc, ff, hh1⟩ := Lib.ownsRow_kind hO.2 g hg
                  have hh2 : wd.heap[b15]? = _ := hR
                  rw [e, hh2] at hh1
                  simp at hh1)⟩
              have hqb : QBox we bq cpu true := by
                have h1 := HC3.out.1.below hbd
                exact (hK.block bq (Array.getElem?_eq_some_iff.1 h1).1 (fun e => by
                  have h2 : wd.heap[b15]? = _ := hR
                  have h3 : wd.heap[bq]? = _ := h1
                  rw [e, h2] at h3
                  simp at h3)).trans h1
              have HF := Lib.hid (show ∃ r1 j1 r2 j2, RBox we b15 o.now (.slice r1 o.ns.length j1) (.slice r2 o.os.length j2) ∧ Reads o (.slice r1 o.ns.length j1) (.slice r2 o.os.length j2) we ∧ QBox we bq cpu true ∧ RBox we b10 t.now (.slice pu t.ns.length cu) (.slice pv t.os.length cv) ∧ OwnR w7.heap.size t (.slice pu t.ns.length cu) (.slice pv t.os.length cv) we ∧ Keeps (fun q => q = b10) w7 we from ⟨s1, z1, s2, z2, hP, hrd, hqb, (HC3.out.2.1.below hbd).keeps hK (by omega), hown, hw7⟩)
              have HWE := Lib.hid hwe
              clear hwe hP hK hne hO hw7 hrd hown hqb hR he hQ2 hbd HC HQ1 HC3 HR15 hlt15 d0 d1 d2
              go_wp2
              rw [← HWE.out]
              go_meet
              exact ⟨rfl, HF⟩
          case rest =>
            obtain ⟨rfl, hcc⟩ := hcut
            obtain ⟨r1, j1, r2, j2, hR, hRd, hQb, hB, hO, hK⟩ := hcc.out
            obtain ⟨wd, hwd⟩ : ∃ X : World, X = wc := ⟨_, rfl⟩
            rw [← hwd] at hR hRd hQb hB hO hK
            rw [← hwd]
            clear hwd hcc HQ1 HR15 HC3 f0 f1
            have HD := Lib.hid (And.intro hR (And.intro hRd (And.intro hB (And.intro hO hK))))
            obtain ⟨f0, f1⟩ := hQb.cells
            obtain ⟨d0, d1, d2⟩ := hB.cells
            have HC := Lib.hid (rstep_c t _ _ cpu en wd HTT.out.1 hO.nums.1 hO.nums.2)
            rw [← HEO.out.1] at HC
            clear hR hRd hQb hB hO hK
            go_wp2_with fail
            (with_reducible refine HC.out.mono ?_)
            rintro e we ⟨⟨nw2, s1, y1, z1, s2, y2, z2, rfl, hQ2⟩, hbe⟩
            have hN : nw2 = o.now ∧ y1 = o.ns.length ∧ y2 = o.os.length ∧ Reads o (.slice s1 y1 z1) (.slice s2 y2 z2) we ∧ (e1 = 0 → o = stepS t cpu en ∧ OwnR wd.heap.size o (.slice s1 y1 z1) (.slice s2 y2 z2) we) ∧ (e1 ≠ 0 → o = zS) := by
              have ho := HEO.out.2
              unfold oneS at ho
              rw [← HEO.out.1] at ho
              rcases hQ2 with ⟨h1, rfl, ⟨rfl, rfl, rfl⟩, ⟨rfl, rfl, rfl⟩⟩ | ⟨h1, h2, h3, h4, h5⟩
              · rw [if_neg h1] at ho
                subst ho
                exact ⟨rfl, rfl, rfl, zS_reads _, fun e => absurd e h1, fun _ => rfl⟩
              · rw [if_pos h1] at ho
                rw [ho]
                exact ⟨h2, h3, h4, h5.nums, fun _ => ⟨rfl, h5⟩, fun e => absurd h1 e⟩
            obtain ⟨rfl, rfl, rfl, hrd, hok, hno⟩ := hN
            obtain ⟨wf, hwf⟩ : ∃ X : World, X = we.alloc (.cells #[.int .i64 o.now, .slice s1 o.ns.length z1, .slice s2 o.os.length z2] 24) := ⟨_, rfl⟩
            obtain ⟨b17, hb17⟩ : ∃ b, b = we.heap.size := ⟨_, rfl⟩
            have hbf : Below we.heap.size we wf := by rw [hwf]; exact below1 _ _
            have hbdf := below_then hbe hbe.size hbf
            have HF6 := Lib.hid (show RBox wf b15 o.now (.slice r1 o.ns.length j1) (.slice r2 o.os.length j2) ∧ Reads o (.slice r1 o.ns.length j1) (.slice r2 o.os.length j2) wf ∧ RBox wf b17 o.now (.slice s1 o.ns.length z1) (.slice s2 o.os.length z2) ∧ Reads o (.slice s1 o.ns.length z1) (.slice s2 o.os.length z2) wf from ⟨HD.out.1.below hbdf, HD.out.2.1.below hbdf, by rw [hwf, hb17]; exact RBox.new _ _ _ _, hrd.below hbf⟩)
            have HB6 := Lib.hid (show RBox wf b10 t.now (.slice pu t.ns.length cu) (.slice pv t.os.length cv) ∧ Keeps (fun q => q = b10) w7 wf from ⟨HD.out.2.2.1.below hbdf, HD.out.2.2.2.2.trans (Keeps.of_below hbdf)⟩)
            have HOK := Lib.hid (show (e1 = 0 → o = stepS t cpu en ∧ OwnR w7.heap.size o (.slice s1 o.ns.length z1) (.slice s2 o.os.length z2) wf) ∧ (e1 ≠ 0 → o = zS) from ⟨fun e => ⟨(hok e).1, ⟨((hok e).2.below hbf).1.mono HD.out.2.2.2.2.size, ((hok e).2.below hbf).2.mono HD.out.2.2.2.2.size⟩⟩, hno⟩)
            have HW6 := Lib.hid (And.intro hwf hb17)
            have hol := oneS_len HTT.out.1 cpu en
            rw [← HEO.out.2] at hol
            have HOL := Lib.hid hol
            clear hQ2 hbe hrd hok hno hwf hb17 hbf hbdf HC HD f0 f1 d0 d1 d2 hol
            go_upto_region 17 with fail
            rw [← HW6.out.1, ← HW6.out.2]
            clear HW6
            obtain ⟨d0, d1, d2⟩ := HF6.out.1.cells
            obtain ⟨g0, g1, g2⟩ := HF6.out.2.2.1.cells
            have hee : (e1 != e1) = false := by simp
            have HC := Lib.hid (rSame_c o o _ _ _ _ wf HF6.out.2.1.1 HF6.out.2.1.2 HF6.out.2.2.2.1 HF6.out.2.2.2.2 (by have := HOL.out; omega) (by have := HOL.out; omega) (by have := HOL.out; omega) (by have := HOL.out; omega))
            rw [sameB_self] at HC
            go_wp2_with fail
            (with_reducible refine HC.out.mono ?_)
            rintro e wg ⟨rfl, hbg⟩
            have hz := HB6.out.1.below hbg
            have hnx := HF6.out.2.2.1.below hbg
            have hkp := HB6.out.2.trans (Keeps.of_below hbg)
            have HOK2 := Lib.hid (show (e1 = 0 → o = stepS t cpu en ∧ OwnR w7.heap.size o (.slice s1 o.ns.length z1) (.slice s2 o.os.length z2) wg) ∧ (e1 ≠ 0 → o = zS) from ⟨fun e => ⟨(HOK.out.1 e).1, (HOK.out.1 e).2.below hbg⟩, HOK.out.2⟩)
            clear hbg HC HF6 HB6 HOK d0 d1 d2 g0 g1 g2 hee
            obtain ⟨d0, d1, d2⟩ := hz.cells
            have m0 := hz.marks 0
            have m1 := hz.marks 1
            have m2 := hz.marks 2
            by_cases he : e1 = 0
            · have hq : (e1 != 0) = false := by rw [he]; rfl
              obtain ⟨g0, g1, g2⟩ := hnx.cells
              obtain ⟨hos, how⟩ := HOK2.out.1 he
              have hP := hz.put o.now (.slice s1 o.ns.length z1) (.slice s2 o.os.length z2)
              have hK := RBox.putK wg b10 o.now (.slice s1 o.ns.length z1) (.slice s2 o.os.length z2)
              obtain ⟨wh, hwh⟩ : ∃ X : World, X = (((wg.setCell ⟨b10, 0, none⟩ (.int .i64 o.now)).setCell ⟨b10, 1, none⟩ (.slice s1 o.ns.length z1)).setCell ⟨b10, 2, none⟩ (.slice s2 o.os.length z2)) := ⟨_, rfl⟩
              rw [← hwh] at hP hK
              have hsn1 := okTo_snoc (l.take k) s l[k]
              have hsn2 := runS_snoc s (l.take k) l[k]
              rw [← List.take_succ_eq_append_getElem hlt, ← HTT.out.2.2.1, ← HTT.out.2.2.2.1, ← HTT.out.2.2.2.2] at hsn1 hsn2
              have hrun : runS s (l.take (k + 1)) = o := by rw [hsn2, hos]
              have HI2 := Lib.hid (show RefI w7 b10 s l (k + 1) s1 o.ns.length z1 s2 o.os.length z2 wh from ⟨hsn1.2 ⟨HTT.out.2.1, by rw [← HEO.out.1]; exact he⟩, by rw [hrun], by rw [hrun], by rw [hrun]; exact hP, by
                rw [hrun]
                exact ⟨hK.row how.1 (fun g hg e => by have h1 := (how.1.lt g hg).1; have := HN7.out; omega), hK.row how.2 (fun g hg e => by have h1 := (how.2.lt g hg).1; have := HN7.out; omega)⟩, hkp.trans hK⟩)
              have HWH := Lib.hid hwh
              clear he hos how hP hK hwh hsn1 hsn2 hrun hz hnx hkp HOK2
              go_wp2
              rw [← HWH.out]
              go_roundw
              case rel => exact ⟨k + 1, _, _, _, _, _, _, by omega, rfl, rfl, rfl, HI2⟩
              case measure => first | omega | (simp [intOf]; omega)
            · have hq : (e1 != 0) = true := by rw [bne_iff_ne]; exact he
              have hee1 : e1 = stepE (runS s (l.take k)) l[k].1 l[k].2 := by rw [HEO.out.1, HTT.out.2.2.1, HTT.out.2.2.2.1, HTT.out.2.2.2.2]
              have hfin : gs = zS ∧ kk = (k : Int) + 1 ∧ err = e1 := by
                rcases HQ.out with h | h | h
                · have := h.1; rw [← HRT.out] at this; cases this
                · obtain ⟨-, i, hi, h1, h2, h3, h4, h5⟩ := h
                  obtain rfl : i = k := first_one hi hlt h1 HTT.out.2.1 h2 (by rw [← hee1]; exact he)
                  exact ⟨h3, h4, h5.trans hee1.symm⟩
                · exact absurd (all_then hlt h.2.1) (by rw [← hee1]; exact he)
              obtain ⟨rfl, rfl, rfl⟩ := hfin
              have hP := hz.put 0 (.slice none 0 0) (.slice none 0 0)
              have hK := RBox.putK wg b10 0 (.slice none 0 0) (.slice none 0 0)
              obtain ⟨wh, hwh⟩ : ∃ X : World, X = (((wg.setCell ⟨b10, 0, none⟩ (.int .i64 0)).setCell ⟨b10, 1, none⟩ (.slice none 0 0)).setCell ⟨b10, 2, none⟩ (.slice none 0 0)) := ⟨_, rfl⟩
              rw [← hwh] at hP hK
              have HF := Lib.hid (show ∃ pu cu pv cv, RBox wh b10 zS.now (.slice pu zS.ns.length cu) (.slice pv zS.os.length cv) ∧ Reads zS (.slice pu zS.ns.length cu) (.slice pv zS.os.length cv) wh ∧ Keeps (fun q => q = b10) w7 wh from ⟨none, 0, none, 0, hP, zS_reads _, hkp.trans hK⟩)
              have HWH := Lib.hid hwh
              clear he hee1 hP hK hwh hz hnx hkp HOK2
              go_wp2
              rw [← HWH.out]
              go_meet
              exact ⟨rfl, rfl, HF⟩
        · obtain rfl : k = l.length := by omega
          have hfin := HI.out
          unfold RefI at hfin
          rw [List.take_length] at hfin
          obtain ⟨ho, hnu, hnv, hB, hO, hKp⟩ := hfin
          have hq : gs = runS s l ∧ kk = (l.length : Int) ∧ err = 0 := by
            rcases HQ.out with h | h | h
            · have := h.1; rw [← HRT.out] at this; cases this
            · obtain ⟨-, i, hi, -, h2, -⟩ := h
              exact absurd (all_then hi ho) h2
            · exact h.2.2
          obtain ⟨rfl, rfl, rfl⟩ := hq
          subst hnu
          subst hnv
          have HF := Lib.hid (show ∃ pu cu pv cv, RBox wr b10 (runS s l).now (.slice pu (runS s l).ns.length cu) (.slice pv (runS s l).os.length cv) ∧ Reads (runS s l) (.slice pu (runS s l).ns.length cu) (.slice pv (runS s l).os.length cv) wr ∧ Keeps (fun q => q = b10) w7 wr from ⟨pu, cu, pv, cv, hB, hO.nums, hKp⟩)
          clear ho hB hO hKp HI hlt hk
          go_wp2
          go_meet
          exact ⟨rfl, rfl, HF⟩
  case rest =>
    obtain ⟨rfl, rfl, hcc⟩ := hcut
    obtain ⟨pu, cu, pv, cv, hWb, hWr, hK⟩ := hcc.out
    obtain ⟨wd, hwd⟩ : ∃ X : World, X = wc := ⟨_, rfl⟩
    rw [← hwd] at hWb hWr hK
    rw [← hwd]
    have hgot := HG7.out.1.keeps hK (by have := HN7.out; omega)
    have hwr := HG7.out.2.keep HZ7.out hK
    have hB4 : Below w4.heap.size w4 wd := HB47.out.trans (hK.below HB47.out.size (fun q e => by have := HN7.out; omega))
    have HGT := Lib.hid (show RBox wd b7 gs.now (.slice q1 n1 k1) (.slice q2 n2 k2) ∧ Writes w4.heap.size gs q1 n1 k1 q2 n2 k2 wd ∧ Below w4.heap.size w4 wd from ⟨hgot, hwr, hB4⟩)
    have hgl : gs.ns.length ≤ 8 ∧ gs.os.length ≤ 8 := by
      obtain ⟨h1, h2, _, h4⟩ := hwr
      rcases h4 with ⟨a, b⟩ | ⟨a, b, _⟩ <;> omega
    have HC := Lib.hid (rSame_c gs gs _ _ _ _ wd hwr.2.2.1.1 hwr.2.2.1.2 hWr.1 hWr.2 (by omega) (by omega) (by omega) (by omega))
    rw [sameB_self] at HC
    obtain ⟨d0, d1, d2⟩ := hgot.cells
    obtain ⟨g0, g1, g2⟩ := hWb.cells
    have hq1 : (err != err) = false := by simp
    have hq2 : (kk != kk) = false := by simp
    clear hwd hcc hWb hWr hK hgot hwr hB4 hgl HQ HZ7 HG7
    go_wp2_with fail
    (with_reducible refine HC.out.mono ?_)
    rintro e we ⟨rfl, hbe⟩
    have hgot := HGT.out.1.below hbe
    have hwr := HGT.out.2.1.below hbe
    have hB4 : Below w4.heap.size w4 we := below_then HGT.out.2.2 HGT.out.2.2.size hbe
    have HFE := Lib.hid (fun (w : World) (hb : Below w4.heap.size w4 w) => show BoxS b5 s (.slice p0 s.ns.length c0) (.slice p1 s.os.length c1) w ∧ RBox w W.heap.size now (.slice pa na ca) (.slice pb nb cb) ∧ Below W.heap.size W w from ⟨HX4.out.1.below hb, HX4.out.2.below hb, below_then HB4.out HB4.out.size hb⟩)
    clear hbe HC HGT d0 d1 d2 g0 g1 g2 hq1 hq2
    obtain ⟨d0, d1, d2⟩ := hgot.cells
    obtain ⟨hn1, hn2, -, hcase⟩ := hwr
    rcases hcase with ⟨rfl, rfl⟩ | ⟨rfl, h8, hbn, hbo, gg, hh, hg1, hg2, hgh, rfl, rfl, hi1, hi2⟩
    · have HJ0 := Lib.hid hB4
      clear hgot hB4 hn1 hn2
      go_wp2
      go_loopw [107] (fun iv wr => iv = .int .i64 0 ∧ Hid (Below w4.heap.size w4 wr)) (fun _ _ => 0)
      case atStart => exact ⟨rfl, HJ0⟩
      case round =>
        clear HJ0 d0 d1 d2
        obtain ⟨rfl, HJ⟩ := hrel
        have HF := Lib.hid (HFE.out wr HJ.out)
        obtain ⟨d0, d1, d2⟩ := HF.out.1.1.cells
        obtain ⟨g0, g1, g2⟩ := HF.out.2.1.cells
        have hW2 : Below W.heap.size W wr.drew := HF.out.2.2.drew
        have hR2 : BoxS b5 s (.slice p0 s.ns.length c0) (.slice p1 s.os.length c1) wr.drew := HF.out.1
        have hsl : s.ns.length ≤ 9223372036854775807 ∧ s.os.length ≤ 9223372036854775807 := by have := HS.out; omega
        have HSL := Lib.hid hsl
        clear hsl
        go_upto_region 31 with fail
        go_region_held3 (fun w' => w'.cell? ⟨b5, 0, none⟩ = some (.int .i64 s.now) ∧ w'.cell? ⟨b5, 1, none⟩ = some (.slice p0 s.ns.length c0) ∧ w'.cell? ⟨b5, 2, none⟩ = some (.slice p1 s.os.length c1) ∧ w'.cell? ⟨W.heap.size, 0, none⟩ = some (.int .i64 now) ∧ w'.cell? ⟨W.heap.size, 1, none⟩ = some (.slice pa na ca) ∧ w'.cell? ⟨W.heap.size, 2, none⟩ = some (.slice pb nb cb))
          (first
            | exact ⟨d0, d1, d2, g0, g1, g2⟩
            | go_keep
            | (go_split_ands; exact ⟨below_cell hb3 (by assumption), below_cell hb3 (by assumption), below_cell hb3 (by assumption), below_cell hb3 (by assumption), below_cell hb3 (by assumption), below_cell hb3 (by assumption)⟩))
          (first
            | (go_at_call 7; (with_reducible refine (HOWN.out _ ?_).mono ?_); exact hW2; rintro e w3 ⟨⟨x0, y0, x1, y1, rfl, hO⟩, hb3⟩; obtain ⟨hN1, hN2⟩ := hO.nums; replace hR2 := hR2.below hb3; obtain ⟨hA1, hA2⟩ := hR2.2; replace hW2 := below_then hW2 hW2.size hb3; clear hO)
            | (go_at_call 13; (with_reducible refine (rSame_c s s _ _ _ _ _ hA1 hA2 hN1 hN2 HSL.out.1 HSL.out.2 HSL.out.1 HSL.out.2).mono ?_); rintro e w3 ⟨rfl, hb3⟩; replace hW2 := below_then hW2 hW2.size hb3))
        have HW2 := Lib.hid hW2
        clear hW2 hR2
        go_wp2
        go_ret
        exact ⟨by rw [sameB_self]; rfl, HW2.out⟩
    · obtain ⟨n, hn⟩ : ∃ n, n = gs.ns.length := ⟨_, rfl⟩
      have HJ0 := Lib.hid (show ∃ ms ts : List Int, IBlock we gg ms ∧ IBlock we hh ts ∧ ms.length = n2 ∧ ts.length = n2 ∧ (∀ i, 0 ≤ i → i < n2 → 0 ≤ ms.getD i 0 ∧ ms.getD i 0 ≤ 2147483647) ∧ (∀ i, 0 ≤ i → i < n2 → 0 ≤ ts.getD i 0 ∧ ts.getD i 0 ≤ 2147483647) ∧ RBox we b7 gs.now (.slice (some ⟨gg, 0, none⟩) n2 k1) (.slice (some ⟨hh, 0, none⟩) n2 k2) ∧ Below w4.heap.size w4 we from
        ⟨gs.ns, gs.os, hi1, hi2, hn1, hn2, fun i _ hi => by rw [getD_lt (by omega)]; exact hbn _ (List.getElem_mem _), fun i _ hi => by rw [getD_lt (by omega)]; exact hbo _ (List.getElem_mem _), hgot, hB4⟩)
      have HGH := Lib.hid (And.intro hg1 (And.intro hg2 hgh))
      clear hgot hB4 hn1 hn2 hbn hbo hi1 hi2 hg1 hg2 hgh hn
      go_wp2
      go_loopw [107] (fun iv wr => ∃ j : Nat, j ≤ n2 ∧ iv = .int .i64 (j : Int) ∧ Hid (∃ ms ts : List Int, IBlock wr gg ms ∧ IBlock wr hh ts ∧ ms.length = n2 ∧ ts.length = n2 ∧ (∀ i, j ≤ i → i < n2 → 0 ≤ ms.getD i 0 ∧ ms.getD i 0 ≤ 2147483647) ∧ (∀ i, j ≤ i → i < n2 → 0 ≤ ts.getD i 0 ∧ ts.getD i 0 ≤ 2147483647) ∧ RBox wr b7 gs.now (.slice (some ⟨gg, 0, none⟩) n2 k1) (.slice (some ⟨hh, 0, none⟩) n2 k2) ∧ Below w4.heap.size w4 wr)) (fun iv _ => n2 - (intOf iv).toNat)
      case atStart => exact ⟨0, Nat.zero_le _, rfl, HJ0⟩
      case round =>
        clear HJ0 d0 d1 d2
        obtain ⟨j, hj, rfl, HJ⟩ := hrel
        by_cases hjl : j < n2
        · obtain ⟨ms, ts, hi1, hi2, hm, ht, hbm, hbt, hgot, hB4⟩ := HJ.out
          obtain ⟨d0, d1, d2⟩ := hgot.cells
          have hj0 : (0 : Int) ≤ (j : Int) := by omega
          have hjn : (j : Int) < (n2 : Int) := by omega
          obtain ⟨x, hx⟩ : ∃ x, x = ms.getD j 0 := ⟨_, rfl⟩
          obtain ⟨y, hy⟩ : ∃ y, y = ts.getD j 0 := ⟨_, rfl⟩
          have hxb := hbm j (Nat.le_refl _) hjl
          have hyb := hbt j (Nat.le_refl _) hjl
          rw [← hx] at hxb
          rw [← hy] at hyb
          have a1 := hi1.cell j (by omega)
          have a2 := hi2.cell j (by omega)
          rw [← getD_lt (by omega), ← hx] at a1
          rw [← getD_lt (by omega), ← hy] at a2
          have m1 := hi1.free j
          obtain ⟨wf, hwf⟩ : ∃ X : World, X = wr.setCell ⟨gg, j, none⟩ (.int .i64 (x + 1)) := ⟨_, rfl⟩
          have hkf : Keeps (fun q => q = gg) wr wf := by rw [hwf]; exact Keeps.setCell wr (S := (· = gg)) (p := ⟨gg, j, none⟩) rfl _
          have HF1 := Lib.hid (show IBlock wf gg (ms.set j (x + 1)) ∧ IBlock wf hh ts ∧ RBox wf b7 gs.now (.slice (some ⟨gg, 0, none⟩) n2 k1) (.slice (some ⟨hh, 0, none⟩) n2 k2) ∧ Below w4.heap.size w4 wf ∧ wf.cell? ⟨hh, j, none⟩ = some (.int .i64 y) from ⟨by rw [hwf]; exact block_set hi1 j _, hi2.keeps hkf (fun e => HGH.out.2.2 e.symm), hgot.keeps hkf (fun e => box_block hgot hi1 e.symm), hB4.trans (hkf.below hB4.size (fun q e => by have := HGH.out.1; omega)), hkf.cell a2 (fun e => HGH.out.2.2 e.symm)⟩)
          have HMT := Lib.hid (And.intro hm (And.intro ht (And.intro hbm hbt)))
          have HWF := Lib.hid hwf
          clear hwf hkf hi1 hi2 hgot hB4 hm ht hbm hbt hx hy a2 HJ
          go_upto_region 29 with fail
          rw [← HWF.out]
          clear HWF d0 d1 d2 a1 m1
          obtain ⟨d0, d1, d2⟩ := HF1.out.2.2.1.cells
          have a2 := HF1.out.2.2.2.2
          have m2 := HF1.out.2.1.free j
          obtain ⟨wg, hwg⟩ : ∃ X : World, X = wf.setCell ⟨hh, j, none⟩ (.int .i64 (y + 1)) := ⟨_, rfl⟩
          have hkg : Keeps (fun q => q = hh) wf wg := by rw [hwg]; exact Keeps.setCell wf (S := (· = hh)) (p := ⟨hh, j, none⟩) rfl _
          have HJ2 := Lib.hid (show ∃ ms ts : List Int, IBlock wg gg ms ∧ IBlock wg hh ts ∧ ms.length = n2 ∧ ts.length = n2 ∧ (∀ i, j + 1 ≤ i → i < n2 → 0 ≤ ms.getD i 0 ∧ ms.getD i 0 ≤ 2147483647) ∧ (∀ i, j + 1 ≤ i → i < n2 → 0 ≤ ts.getD i 0 ∧ ts.getD i 0 ≤ 2147483647) ∧ RBox wg b7 gs.now (.slice (some ⟨gg, 0, none⟩) n2 k1) (.slice (some ⟨hh, 0, none⟩) n2 k2) ∧ Below w4.heap.size w4 wg from
            ⟨ms.set j (x + 1), ts.set j (y + 1), HF1.out.1.keeps hkg HGH.out.2.2, by rw [hwg]; exact block_set HF1.out.2.1 j _, by rw [List.length_set]; exact HMT.out.1, by rw [List.length_set]; exact HMT.out.2.1, fun i h1 h2 => by rw [getD_set, if_neg (by omega)]; exact HMT.out.2.2.1 i (by omega) h2, fun i h1 h2 => by rw [getD_set, if_neg (by omega)]; exact HMT.out.2.2.2 i (by omega) h2, HF1.out.2.2.1.keeps hkg (fun e => box_block HF1.out.2.2.1 HF1.out.2.1 e.symm), HF1.out.2.2.2.1.trans (hkg.below HF1.out.2.2.2.1.size (fun q e => by have := HGH.out.2.1; omega))⟩)
          have HWG := Lib.hid hwg
          clear hwg hkg HF1 HMT
          go_wp2
          rw [← HWG.out]
          go_roundw
          case rel => exact ⟨j + 1, by omega, rfl, HJ2⟩
          case measure => first | omega | (simp [intOf]; omega)
        · obtain rfl : j = n2 := by omega
          have HF := Lib.hid (HFE.out wr (by obtain ⟨_, _, _, _, _, _, _, _, _, h⟩ := HJ.out; exact h))
          clear HJ hjl hj
          obtain ⟨d0, d1, d2⟩ := HF.out.1.1.cells
          obtain ⟨g0, g1, g2⟩ := HF.out.2.1.cells
          have hW2 : Below W.heap.size W wr.drew := HF.out.2.2.drew
          have hR2 : BoxS b5 s (.slice p0 s.ns.length c0) (.slice p1 s.os.length c1) wr.drew := HF.out.1
          have hsl : s.ns.length ≤ 9223372036854775807 ∧ s.os.length ≤ 9223372036854775807 := by have := HS.out; omega
          have HSL := Lib.hid hsl
          clear hsl
          go_upto_region 31 with fail
          go_region_held3 (fun w' => w'.cell? ⟨b5, 0, none⟩ = some (.int .i64 s.now) ∧ w'.cell? ⟨b5, 1, none⟩ = some (.slice p0 s.ns.length c0) ∧ w'.cell? ⟨b5, 2, none⟩ = some (.slice p1 s.os.length c1) ∧ w'.cell? ⟨W.heap.size, 0, none⟩ = some (.int .i64 now) ∧ w'.cell? ⟨W.heap.size, 1, none⟩ = some (.slice pa na ca) ∧ w'.cell? ⟨W.heap.size, 2, none⟩ = some (.slice pb nb cb))
            (first
              | exact ⟨d0, d1, d2, g0, g1, g2⟩
              | go_keep
              | (go_split_ands; exact ⟨below_cell hb3 (by assumption), below_cell hb3 (by assumption), below_cell hb3 (by assumption), below_cell hb3 (by assumption), below_cell hb3 (by assumption), below_cell hb3 (by assumption)⟩))
            (first
              | (go_at_call 7; (with_reducible refine (HOWN.out _ ?_).mono ?_); exact hW2; rintro e w3 ⟨⟨x0, y0, x1, y1, rfl, hO⟩, hb3⟩; obtain ⟨hN1, hN2⟩ := hO.nums; replace hR2 := hR2.below hb3; obtain ⟨hA1, hA2⟩ := hR2.2; replace hW2 := below_then hW2 hW2.size hb3; clear hO)
              | (go_at_call 13; (with_reducible refine (rSame_c s s _ _ _ _ _ hA1 hA2 hN1 hN2 HSL.out.1 HSL.out.2 HSL.out.1 HSL.out.2).mono ?_); rintro e w3 ⟨rfl, hb3⟩; replace hW2 := below_then hW2 hW2.size hb3))
          have HW2 := Lib.hid hW2
          clear hW2 hR2
          go_wp2
          go_ret
          exact ⟨by rw [sameB_self]; rfl, HW2.out⟩

end Go.Proofs.Ytjfphhemhaphbab
