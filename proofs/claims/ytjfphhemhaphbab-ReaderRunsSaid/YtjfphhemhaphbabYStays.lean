/-
  ReaderStays, called with any readers, row of readings, and step: it answers true; what was in memory stays.
  Conditions: the ranges of Go's types.
-/
import Derived.Test.YtjfphhemhaphbabYBack
namespace Go.Proofs.Ytjfphhemhaphbab
set_option maxRecDepth 100000
open Go.RowKit Go.Shelf
attribute [local go_sem] Oper.semAt_some

/-- Is a step passed, of readers that may be? -/
def psB (s : RdS) (t : Int) : Bool := passB s.now (oldM (secs (s.ns.zip s.os))) t
/-- A box with a reading. -/
def QBox (W : World) (z : Nat) (c : Int) (en : Bool) : Prop := W.heap[z]? = some (.cells #[.int .i64 c, .bool en] 33 (0, 0))
theorem QBox.below {W W' : World} {z : Nat} {c : Int} {en : Bool} (h : QBox W z c en) (hb : Below W.heap.size W W') : QBox W' z c en := (hb.block z (Array.getElem?_eq_some_iff.1 h).1).trans h
theorem QBox.new (W : World) (c : Int) (en : Bool) : QBox (W.alloc (.cells #[.int .i64 c, .bool en] 33)) W.heap.size c en := World.alloc_heap_new W _
theorem QBox.cells {W : World} {z : Nat} {c : Int} {en : Bool} (h : QBox W z c en) : W.cell? ⟨z, 0, none⟩ = some (.int .i64 c) ∧ W.cell? ⟨z, 1, none⟩ = some (.bool en) := by
  have h' : W.heap[z]? = _ := h
  simp [World.cell?, h']
theorem QBox.one {W : World} {z : Nat} {c : Int} {en : Bool} (h : QBox W z c en) : RgsAt W (.slice (some ⟨z, 0, none⟩) 1 1) [(c, en)] := ⟨_, _, rfl, fun _ => ⟨_, _, rfl, fun i hi => by
    obtain rfl : i = 0 := by simp at hi; omega
    simpa using h.cells⟩⟩
theorem quietB_out {s : RdS} {c : Int} (h : hasB s.ns.length c = false) : quietB s c = false := by unfold quietB; rw [h, Bool.false_and, Bool.and_false]
/-- Are the first so many CPUs quiet? -/
def calmTo (s : RdS) (j : Nat) : Bool := decide (∀ i, i < j → nN s i = 0)
theorem calmTo_zero (s : RdS) : calmTo s 0 = true := decide_eq_true (fun i h => absurd h (Nat.not_lt_zero i))
theorem calmTo_succ {s : RdS} (g : Good s) (j : Nat) (hj : j < s.ns.length) : calmTo s (j + 1) = (calmTo s j && quietB s (j : Int)) := by
  rw [quiet_iff g j hj]
  unfold calmTo
  rw [Bool.eq_iff_iff, Bool.and_eq_true, decide_eq_true_eq, decide_eq_true_eq, decide_eq_true_eq]
  constructor
  · exact fun h => ⟨fun i hi => h i (by omega), h j (by omega)⟩
  · rintro ⟨h1, h2⟩ i hi
    by_cases e : i = j
    · rw [e]; exact h2
    · exact h1 i (by omega)
theorem calmTo_all {s : RdS} (g : Good s) : psB s s.now = calmTo s s.ns.length := by
  unfold psB calmTo
  rw [Bool.eq_iff_iff, pass_now g, decide_eq_true_eq]
theorem Below.draw {W : World} (n : Nat) : Below W.heap.size W (W.drewN n) := below_drewN (Below.refl _ _) n

theorem StepQ.blocks {B : Nat} {s : RdS} {c : Int} {en : Bool} {nw : Int} {p1 : Option Addr} {n1 c1 : Nat} {p2 : Option Addr} {n2 c2 : Nat} {err : Int} {w : World} (h : StepQ B s c en nw p1 n1 c1 p2 n2 c2 err w) (he : err = 0) : ∃ g hh : Nat, B ≤ g ∧ B ≤ hh ∧ p1 = some ⟨g, 0, none⟩ ∧ p2 = some ⟨hh, 0, none⟩ := by
  rcases h with h | ⟨h1, h2, h3, h4, g, hh, h5, h6, h7, ⟨rfl, rfl, rfl⟩, ⟨rfl, rfl, rfl⟩, h10, h11⟩
  · rcases h.1 with h | h
    · rw [h.2] at he; cases he
    · exact absurd (h.2.2.symm.trans he) h.2.1
  · exact ⟨g, hh, h5, h6, rfl, rfl⟩
/-- A place of a row of numbers. -/
theorem nums_at {W : World} {p : Option Addr} {n c : Nat} {ns : List Int} (h : NumsAt W .i64 (.slice p n c) ns) {j : Nat} (hj : j < ns.length) : ∃ b off, p = some ⟨b, off, none⟩ ∧ W.cell? ⟨b, off + j, none⟩ = some (.int .i64 (ns.getD j 0)) := by
  obtain ⟨q, cap, e, hc⟩ := h
  injection e with e1 e2 e3
  subst e1
  obtain ⟨b, off, e, hcs⟩ := hc (by intro e; rw [e] at hj; simp at hj)
  exact ⟨b, off, e, by rw [getD_lt hj]; exact hcs j hj⟩
/-- .. whose Now is a letter. -/
def BoxT (b : Nat) (nw : Int) (s : RdS) (u v : Value) (w : World) : Prop := RBox w b nw u v ∧ Reads s u v w
theorem BoxT.below {b : Nat} {nw : Int} {s : RdS} {u v : Value} {w w' : World} (k : BoxT b nw s u v w) (hb : Below w.heap.size w w') : BoxT b nw s u v w' := ⟨k.1.below hb, k.2.below hb⟩
/-- Between two rounds. -/
def StaysI (W : World) (b : Nat) (s : RdS) (t : Int) (pd : Bool) (pu : Option Addr) (cu : Nat) (pv : Option Addr) (cv : Nat) (wr : World) : Prop :=
  Good s ∧ pd = psB s t ∧ BoxS b s (.slice pu s.ns.length cu) (.slice pv s.os.length cv) wr ∧ Below W.heap.size W wr

set_option maxHeartbeats 32000000 in
theorem stays_law (now step : Int) (v0 v1 lv : Value) (xs ys : List Int) (l : List (Int × Bool)) (W : World) (h0 : ArgR W v0 (xs.map (Value.int .i64))) (h1 : ArgR W v1 (ys.map (Value.int .i64))) (hx : xs.length ≤ 9223372036854775807) (hy : ys.length ≤ 9223372036854775807) (hr : ∀ y ∈ ys, I64 y)
    (hl : RgsAt W lv l) (hll : l.length ≤ 9223372036854775807) :
    Calls Try.prog 4 #[.agg #[.int .i64 now, v0, v1], lv, .int .i64 step] W fun e w' => e = .returned (.bool true) ∧ Below W.heap.size W w' := by
  obtain ⟨w0, hw0⟩ : ∃ X : World, X = W.alloc (.cells #[.int .i64 now, v0, v1] 24) := ⟨_, rfl⟩
  have hb0 : Below W.heap.size W w0 := by rw [hw0]; exact below1 _ _
  have HX0 := Lib.hid (show RBox w0 W.heap.size now v0 v1 ∧ ArgR w0 v0 (xs.map (Value.int .i64)) ∧ ArgR w0 v1 (ys.map (Value.int .i64)) ∧ Below W.heap.size W w0 from ⟨by rw [hw0]; exact RBox.new _ _ _ _, h0.below hb0, h1.below hb0, hb0⟩)
  have HWK := Lib.hid (wakes_c w0)
  have HR := Lib.hid (i64_take hr)
  have HLX := Lib.hid (And.intro hx hy)
  have HLV := Lib.hid hl
  obtain ⟨pa, na, ca, rfl, -⟩ := h0
  obtain ⟨pb, nb, cb, rfl, -⟩ := h1
  obtain ⟨pl, cl, rfl, -⟩ := hl
  clear hb0 hr hx hy
  go_enter Try.func4, Try.ntmps4
  go_wp2_with fail
  rw [← hw0]
  clear hw0
  (with_reducible refine HWK.out.mono ?_)
  rintro e w1 ⟨rfl, hb1⟩
  obtain ⟨d0, d1, d2⟩ := (HX0.out.1.below hb1).cells
  have HB1 := Lib.hid (below_then HX0.out.2.2.2 HX0.out.2.2.2.size hb1)
  have HOW := Lib.hid (own11_c now _ _ xs ys w1 (HX0.out.2.1.below hb1) (HX0.out.2.2.1.below hb1) HLX.out.1 HLX.out.2)
  obtain ⟨s, hs⟩ : ∃ s : RdS, s = ⟨now, xs.take 9, ys.take 9⟩ := ⟨_, rfl⟩
  have HS := Lib.hid (show (∀ y ∈ s.os, I64 y) ∧ s.ns.length ≤ 9 ∧ s.os.length ≤ 9 by rw [hs]; exact ⟨HR.out, List.length_take_le _ _, List.length_take_le _ _⟩)
  rw [← hs] at HOW
  clear hb1 HX0 HWK hs
  go_wp2_with fail
  (with_reducible refine HOW.out.mono ?_)
  rintro e w2 ⟨⟨p0, c0, p1, c1, rfl, hO⟩, hb2⟩
  obtain ⟨w3, hw3⟩ : ∃ X : World, X = w2.alloc (.cells #[.int .i64 s.now, .slice p0 s.ns.length c0, .slice p1 s.os.length c1] 24) := ⟨_, rfl⟩
  obtain ⟨b5, hb5⟩ : ∃ b, b = w2.heap.size := ⟨_, rfl⟩
  have hbx3 : Below w2.heap.size w2 w3 := by rw [hw3]; exact below1 _ _
  have HX3 := Lib.hid (show BoxS b5 s (.slice p0 s.ns.length c0) (.slice p1 s.os.length c1) w3 by rw [hw3, hb5]; exact BoxS.new ⟨hO.nums.1, hO.nums.2⟩)
  have hB2 := below_then HB1.out HB1.out.size hb2
  have HB3 := Lib.hid (below_then hB2 hB2.size hbx3)
  have HBW := Lib.hid (show W.heap.size ≤ b5 by rw [hb5]; exact hB2.size)
  have HW3 := Lib.hid (And.intro hw3 hb5)
  clear hO hb2 hw3 hb5 hbx3 hB2 HB1 HOW d0 d1 d2
  go_upto_region 4 with fail
  rw [← HW3.out.1, ← HW3.out.2]
  clear HW3
  obtain ⟨d0, d1, d2⟩ := HX3.out.1.cells
  have HC := Lib.hid (check_c s _ _ w3 HX3.out.2.1 HX3.out.2.2 (by have := HS.out.2.1; omega) (by have := HS.out.2.2; omega) HS.out.1)
  cases hm : mayB s.now s.ns s.os with
  | false =>
    rw [hm, if_neg Bool.false_ne_true] at HC
    go_wp2_with fail
    (with_reducible refine HC.out.mono ?_)
    rintro e w4 ⟨rfl, hb4⟩
    have HX4 := Lib.hid (HX3.out.below hb4)
    have HB4 := Lib.hid (below_then HB3.out HB3.out.size hb4)
    clear HX3 HB3 hb4 HC d0 d1 d2
    obtain ⟨d0, d1, d2⟩ := HX4.out.1.cells
    have HC := Lib.hid (passed_c s _ _ step w4 HX4.out.2.1 HX4.out.2.2 (by have := HS.out.2.1; omega) (by have := HS.out.2.2; omega) HS.out.1)
    rw [hm, Bool.false_and] at HC
    clear hm
    go_wp2_with fail
    (with_reducible refine HC.out.mono ?_)
    rintro e w5 ⟨rfl, hb5⟩
    have HB5 := Lib.hid (below_then HB4.out HB4.out.size hb5)
    clear hb5
    go_wp2
    go_ret
    exact ⟨rfl, HB5.out⟩
  | true =>
    rw [hm, if_pos rfl] at HC
    have hg := (good_iff s).1 hm
    go_wp2_with fail
    (with_reducible refine HC.out.mono ?_)
    rintro e w4 ⟨rfl, hb4⟩
    have HX4 := Lib.hid (HX3.out.below hb4)
    have HB4 := Lib.hid (below_then HB3.out HB3.out.size hb4)
    clear HX3 HB3 hb4 HC d0 d1 d2
    obtain ⟨d0, d1, d2⟩ := HX4.out.1.cells
    have HC := Lib.hid (passed_c s _ _ step w4 HX4.out.2.1 HX4.out.2.2 (by have := HS.out.2.1; omega) (by have := HS.out.2.2; omega) HS.out.1)
    rw [hm, Bool.true_and] at HC
    have HG := Lib.hid hg
    clear hm hg
    go_wp2_with fail
    (with_reducible refine HC.out.mono ?_)
    rintro e w5 ⟨rfl, hb5⟩
    have HI0 := Lib.hid (show StaysI W b5 s step (psB s step) p0 c0 p1 c1 w5 from ⟨HG.out, rfl, HX4.out.below hb5, below_then HB4.out HB4.out.size hb5⟩)
    clear hb5 HX4 HB4 HC d0 d1 d2 HG HS
    go_wp2
    go_loopw [8, 34] (fun pv8 iv wr => ∃ (k : Nat) (s' : RdS) (pd : Bool) (pu : Option Addr) (cu : Nat) (pv : Option Addr) (cv : Nat), k ≤ l.length ∧ pv8 = .bool pd ∧ iv = .int .i64 (k : Int) ∧ Hid (StaysI W b5 s' step pd pu cu pv cv wr)) (fun _ iv _ => l.length - (intOf iv).toNat)
    case atStart => exact ⟨0, s, _, _, _, _, _, Nat.zero_le _, rfl, rfl, HI0⟩
    case round =>
      clear HI0
      obtain ⟨k, s, pd, pu, cu, pv, cv, hk, rfl, rfl, HI⟩ := hrel
      by_cases hlt : k < l.length
      · obtain ⟨pp, cc, hpe, hcells⟩ := HLV.out.below (show Below W.heap.size W wr from HI.out.2.2.2)
        injection hpe with hpe1 hpe2 hpe3
        subst hpe1
        clear hpe2 hpe3
        obtain ⟨b, off, hp, hcs⟩ := hcells (by intro e; rw [e] at hlt; simp at hlt)
        obtain ⟨hx, hy⟩ := hcs k hlt
        obtain ⟨cpu, hcpu⟩ : ∃ x, x = l[k].1 := ⟨_, rfl⟩
        obtain ⟨en, hen⟩ : ∃ x, x = l[k].2 := ⟨_, rfl⟩
        rw [← hcpu] at hx
        rw [← hen] at hy
        subst hp
        have hk0 : (0 : Int) ≤ (k : Int) := by omega
        have hkl : (k : Int) < (l.length : Int) := by omega
        obtain ⟨wa, hwa⟩ : ∃ X : World, X = wr.alloc (.cells #[.int .i64 cpu, .bool en] 33) := ⟨_, rfl⟩
        obtain ⟨bq, hbq⟩ : ∃ b, b = wr.heap.size := ⟨_, rfl⟩
        have hba : Below wr.heap.size wr wa := by rw [hwa]; exact below1 _ _
        have HQA := Lib.hid (show QBox wa bq cpu en by rw [hwa, hbq]; exact QBox.new _ _ _)
        have HXA := Lib.hid (show BoxS b5 s (.slice pu s.ns.length cu) (.slice pv s.os.length cv) wa from HI.out.2.2.1.below hba)
        have HBA := Lib.hid (show Below W.heap.size W wa from below_then HI.out.2.2.2 HI.out.2.2.2.size hba)
        have HGS := Lib.hid (show Good s ∧ pd = psB s step from ⟨HI.out.1, HI.out.2.1⟩)
        have HWA := Lib.hid (And.intro hwa hbq)
        clear hwa hbq hba hcpu hen hcells hcs
        by_cases h30 : k = 30
        · have hq30 : ((k : Int) == 30) = true := by rw [h30]; rfl
          clear h30 HI HQA HXA HGS
          go_wp2
          go_ret
          exact ⟨rfl, by first | exact HBA.out | (rw [HWA.out.1] at HBA; exact HBA.out)⟩
        · have hq30 : ((k : Int) == 30) = false := by rw [beq_eq_false_iff_ne]; omega
          clear h30
          go_upto_region 11 with fail
          rw [← HWA.out.1, ← HWA.out.2]
          clear hx hy HI HWA hq30
          obtain ⟨d0, d1, d2⟩ := HXA.out.1.cells
          obtain ⟨f0, f1⟩ := HQA.out.cells
          obtain ⟨wb, hwb⟩ : ∃ X : World, X = wa.alloc (.cells #[.int .i64 cpu, .bool en] 33) := ⟨_, rfl⟩
          have hbb : Below wa.heap.size wa wb := by rw [hwb]; exact below1 _ _
          have hXB := HXA.out.below hbb
          have HC := Lib.hid (run_one s _ _ (.slice (some ⟨wa.heap.size, 0, none⟩) 1 1) cpu en wb hXB.2.1 hXB.2.2 (by have := HGS.out.1.l8; omega) (by have := HGS.out.1.l8; have := HGS.out.1.lo; omega) HGS.out.1.rangeO (QBox.one (by rw [hwb]; exact QBox.new _ _ _)))
          have HXB := Lib.hid (And.intro hXB (And.intro (HQA.out.below hbb) (below_then HBA.out HBA.out.size hbb)))
          have HWB := Lib.hid hwb
          have HBL := Lib.hid (show b5 < wb.heap.size from HXB.out.1.1.lt)
          clear hwb hbb hXB HXA HQA HBA
          go_wp2_with fail
          rw [← HWB.out]
          clear HWB
          (with_reducible refine HC.out.mono ?_)
          rintro e wc ⟨⟨nw, q1, n1, k1, q2, n2, k2, kk, err, rfl, hQ⟩, hbc⟩
          obtain ⟨wd, hwd⟩ : ∃ X : World, X = wc.alloc (.cells #[.int .i64 nw, .slice q1 n1 k1, .slice q2 n2 k2] 24) := ⟨_, rfl⟩
          obtain ⟨bn, hbn⟩ : ∃ b, b = wc.heap.size := ⟨_, rfl⟩
          have hbd : Below wc.heap.size wc wd := by rw [hwd]; exact below1 _ _
          have hBC := below_then HXB.out.2.2 HXB.out.2.2.size hbc
          have hXC := HXB.out.1.below hbc
          have HXD := Lib.hid (And.intro (hXC.below hbd) (And.intro ((HXB.out.2.1.below hbc).below hbd) (And.intro (below_then hBC hBC.size hbd) (And.intro hXC.1.lt hBC.size))))
          have HRD := Lib.hid (show RBox wd bn nw (.slice q1 n1 k1) (.slice q2 n2 k2) by rw [hwd, hbn]; exact RBox.new _ _ _ _)
          have HQ := Lib.hid (hQ.keeps (Keeps.of_below (S := fun _ => False) hbd) (fun k h => h.elim))
          have HWD := Lib.hid (And.intro hwd hbn)
          clear hQ hbc hwd hbn hbd hBC hXC HXB HC d0 d1 d2 f0 f1
          go_upto_region 12 with fail
          rw [← HWD.out.1, ← HWD.out.2]
          rw [← HWD.out.2] at HXD
          clear HWD
          by_cases he : err = 0
          · obtain ⟨hg, hE, hnw, hrd, hn1, hn2⟩ := HQ.out.ok he
            have hq : (err != 0) = false := by rw [he]; rfl
            have HBK := Lib.hid (show ∃ g hh : Nat, b5 < g ∧ b5 < hh ∧ q1 = some ⟨g, 0, none⟩ ∧ q2 = some ⟨hh, 0, none⟩ by
              obtain ⟨g, hh, h1, h2, h3, h4⟩ := HQ.out.blocks he
              exact ⟨g, hh, Nat.lt_of_lt_of_le HBL.out h1, Nat.lt_of_lt_of_le HBL.out h2, h3, h4⟩)
            obtain ⟨a, ha⟩ : ∃ a : RdS, a = stepS s cpu en := ⟨_, rfl⟩
            have hga := hg.step hE
            have hsn := stepS_now s cpu en
            have hps := pass_stays hg hE step
            have hst := stepE_zero hE
            have hlen := stepS_len s cpu en
            have hnn := fun (i : Nat) (hi : i < s.ns.length) => stepS_n s i en hi
            have hoo := fun (i : Nat) (hi : i < s.os.length) => stepS_o s i en hi
            rw [← ha] at hnw hrd hga hsn hps hn1 hn2 hlen
            obtain rfl : nw = s.now + 1 := hnw.trans hsn
            subst hn1
            subst hn2
            have HA := Lib.hid (show Good a ∧ a.now = s.now + 1 ∧ (psB s step = true → psB a step = true) ∧ a.ns.length = s.ns.length ∧ a.os.length = s.os.length ∧ ∀ j : Nat, (j : Int) ≠ cpu → nN a j = nN s j ∧ oO a j = oO s j from ⟨hga, hsn, hps, hlen.1, hlen.2, fun j hj => by
              obtain ⟨i, rfl, hi, -⟩ := hst
              have hji : j ≠ i := fun e => hj (by rw [e])
              rw [ha, hnn i hi j, hoo i (by have := hg.lo; omega) j, if_neg hji, if_neg hji]
              exact ⟨rfl, rfl⟩⟩)
            have HAD := Lib.hid (show BoxT bn (s.now + 1) a (.slice q1 a.ns.length k1) (.slice q2 a.os.length k2) wd from ⟨HRD.out, hrd⟩)
            have hs0 := hg.n0
            have hs1 := hga.n1
            have hq3 : (s.now + 1 != s.now + 1) = false := by simp
            have HCK := Lib.hid (check_c a _ _ wd hrd.1 hrd.2 (by have := hga.l8; omega) (by have := hga.l8; have := hga.lo; omega) hga.rangeO)
            rw [(good_iff a).2 hga, if_pos rfl, hsn] at HCK
            obtain ⟨d0, d1, d2⟩ := HXD.out.1.1.cells
            obtain ⟨g0, g1, g2⟩ := HRD.out.cells
            rw [hsn] at hs1
            clear hg hE hrd hga hsn hnw hps hst hlen hnn hoo ha he HQ HRD
            go_wp2_with fail
            (with_reducible refine HCK.out.mono ?_)
            rintro e we ⟨rfl, hbe⟩
            have HE0 := Lib.hid (show BoxS b5 s (.slice pu s.ns.length cu) (.slice pv s.os.length cv) we ∧ QBox we bq cpu en ∧ Below W.heap.size W we ∧ BoxT bn (s.now + 1) a (.slice q1 a.ns.length k1) (.slice q2 a.os.length k2) we from ⟨HXD.out.1.below hbe, HXD.out.2.1.below hbe, below_then HXD.out.2.2.1 HXD.out.2.2.1.size hbe, HAD.out.below hbe⟩)
            have HLT := Lib.hid (show b5 < bn ∧ W.heap.size ≤ bn from HXD.out.2.2.2)
            clear hbe HXD HAD HCK hq3 d0 d1 d2 g0 g1 g2 hq
            obtain ⟨d0, d1, d2⟩ := HE0.out.1.1.cells
            -- the loop over the CPUs
            go_upto_region 15 with fail
            have HJ0 := Lib.hid (show Below we.heap.size we we from Below.refl _ _)
            go_wp2
            go_loopw [65] (fun iv wr => ∃ j : Nat, j ≤ s.ns.length ∧ iv = .int .i64 (j : Int) ∧ Hid (Below we.heap.size we wr)) (fun iv _ => s.ns.length - (intOf iv).toNat)
            case atStart => exact ⟨0, Nat.zero_le _, rfl, HJ0⟩
            case round =>
              clear HJ0
              obtain ⟨j, hj, rfl, HJ⟩ := hrel
              clear d0 d1 d2
              have h8 := HGS.out.1.l8
              by_cases hjl : j < s.ns.length
              · have hX := HE0.out.1.below HJ.out
                have hQ := HE0.out.2.1.below HJ.out
                have hT := HE0.out.2.2.2.below HJ.out
                obtain ⟨d0, d1, d2⟩ := hX.1.cells
                obtain ⟨g0, g1, g2⟩ := hT.1.cells
                obtain ⟨f0, f1⟩ := hQ.cells
                have hj0 : (0 : Int) ≤ (j : Int) := by omega
                have hjs : (j : Int) < (s.ns.length : Int) := by omega
                by_cases hjc : (j : Int) = cpu
                · have hq : ((j : Int) != cpu) = false := by rw [hjc]; simp
                  clear hjc hX hQ hT d1 d2 g0 g1 g2
                  go_wp2_with fail
                  go_quiet (fail)
                  go_wp2
                  go_roundw
                  case rel => exact ⟨j + 1, by omega, rfl, Lib.hid (below_drewN HJ.out _)⟩
                  case measure => first | omega | (simp [intOf]; omega)
                · have hq : ((j : Int) != cpu) = true := by rw [bne_iff_ne]; exact hjc
                  obtain ⟨hv1, hv2⟩ := HA.out.2.2.2.2.2 j hjc
                  obtain ⟨x1, y1, rfl, a1⟩ := nums_at hX.2.1 (j := j) hjl
                  obtain ⟨x2, y2, rfl, a2⟩ := nums_at hX.2.2 (j := j) (by have := HGS.out.1.lo; omega)
                  obtain ⟨x3, y3, rfl, a3⟩ := nums_at hT.2.1 (j := j) (by have := HA.out.2.2.2.1; omega)
                  obtain ⟨x4, y4, rfl, a4⟩ := nums_at hT.2.2 (j := j) (by have := HA.out.2.2.2.2.1; have := HGS.out.1.lo; omega)
                  rw [show a.ns.getD j 0 = s.ns.getD j 0 from hv1] at a3
                  rw [show a.os.getD j 0 = s.os.getD j 0 from hv2] at a4
                  obtain ⟨n0, hn0⟩ : ∃ n, n = s.ns.getD j 0 := ⟨_, rfl⟩
                  obtain ⟨o0, ho0⟩ : ∃ n, n = s.os.getD j 0 := ⟨_, rfl⟩
                  rw [← hn0] at a1 a3
                  rw [← ho0] at a2 a4
                  have hq1 : (n0 != n0) = false := by simp
                  have hq2 : (o0 != o0) = false := by simp
                  have hs2 : (j : Int) < (s.os.length : Int) := by have := HGS.out.1.lo; omega
                  have hs3 : (j : Int) < (a.ns.length : Int) := by have := HA.out.2.2.2.1; omega
                  have hs4 : (j : Int) < (a.os.length : Int) := by have := HA.out.2.2.2.2.1; have := HGS.out.1.lo; omega
                  clear hjc hX hQ hT hv1 hv2 hn0 ho0
                  go_wp2_with fail
                  go_quiet (fail)
                  go_wp2
                  go_roundw
                  case rel => exact ⟨j + 1, by omega, rfl, Lib.hid (below_drewN HJ.out _)⟩
                  case measure => first | omega | (simp [intOf]; omega)
              · obtain rfl : j = s.ns.length := by omega
                have HE1 := Lib.hid (show BoxS b5 s (.slice pu s.ns.length cu) (.slice pv s.os.length cv) wr ∧ BoxT bn (s.now + 1) a (.slice q1 a.ns.length k1) (.slice q2 a.os.length k2) wr ∧ Below W.heap.size W wr from ⟨HE0.out.1.below HJ.out, HE0.out.2.2.2.below HJ.out, below_then HE0.out.2.2.1 HE0.out.2.2.1.size HJ.out⟩)
                obtain ⟨wf, hwf⟩ : ∃ X : World, X = wr := ⟨_, rfl⟩
                rw [← hwf] at HE1
                rw [← hwf]
                clear hwf HE0 HJ hj hjl
                obtain ⟨g0, g1, g2⟩ := HE1.out.2.1.1.cells
                have hre : (mayB a.now a.ns a.os && passB a.now (oldM (secs (a.ns.zip a.os))) step) = psB a step := by rw [(good_iff a).2 HA.out.1, Bool.true_and]; rfl
                have HC := Lib.hid (passed_c a _ _ step wf HE1.out.2.1.2.1 HE1.out.2.1.2.2 (by have := HA.out.1.l8; omega) (by have := HA.out.1.l8; have := HA.out.1.lo; omega) HA.out.1.rangeO)
                obtain ⟨pz, hpz⟩ : ∃ z, z = psB a step := ⟨_, rfl⟩
                rw [hre, ← hpz, HA.out.2.1] at HC
                have HPZ := Lib.hid hpz
                clear hre hpz
                go_wp2_with fail
                (with_reducible refine HC.out.mono ?_)
                rintro e wg ⟨rfl, hbg⟩
                have HE2 := Lib.hid (show BoxS b5 s (.slice pu s.ns.length cu) (.slice pv s.os.length cv) wg ∧ BoxT bn (s.now + 1) a (.slice q1 a.ns.length k1) (.slice q2 a.os.length k2) wg ∧ Below W.heap.size W wg from ⟨HE1.out.1.below hbg, HE1.out.2.1.below hbg, below_then HE1.out.2.2 HE1.out.2.2.size hbg⟩)
                have HPP := Lib.hid (show pd = true → pz = true from fun h => by rw [HPZ.out]; exact HA.out.2.2.1 (by rw [← HGS.out.2]; exact h))
                clear hbg HC HE1 g0 g1 g2
                cases pd with
                | true =>
                  obtain rfl : pz = true := HPP.out rfl
                  clear HPP
                  obtain ⟨g0, g1, g2⟩ := HE2.out.2.1.1.cells
                  have HJ0 := Lib.hid (show Below wg.heap.size wg wg from Below.refl _ _)
                  have hc0 := calmTo_zero a
                  go_wp2
                  go_loopw [16, 110] (fun qv iv wr => ∃ j : Nat, j ≤ a.ns.length ∧ qv = .bool (calmTo a j) ∧ iv = .int .i64 (j : Int) ∧ Hid (Below wg.heap.size wg wr)) (fun _ iv _ => a.ns.length - (intOf iv).toNat)
                  case atStart => exact ⟨0, Nat.zero_le _, by rw [hc0], rfl, HJ0⟩
                  case round =>
                    clear HJ0 hc0
                    obtain ⟨j, hj, rfl, rfl, HJ⟩ := hrel
                    clear g0 g1 g2
                    have h8a := HA.out.1.l8
                    have hT := HE2.out.2.1.below HJ.out
                    obtain ⟨g0, g1, g2⟩ := hT.1.cells
                    by_cases hjl : j < a.ns.length
                    · have hsn := Lib.hid (calmTo_succ HA.out.1 j hjl)
                      have HC := Lib.hid (quiet_c a _ _ (j : Int) wr hT.2.1 hT.2.2 (by omega) (by have := HA.out.1.lo; omega) HA.out.1.rangeO)
                      rw [HA.out.2.1] at HC
                      obtain ⟨z, hz⟩ : ∃ z, z = quietB a (j : Int) := ⟨_, rfl⟩
                      rw [← hz] at HC hsn
                      have hj0 : (0 : Int) ≤ (j : Int) := by omega
                      have hjs : (j : Int) < (a.ns.length : Int) := by omega
                      clear hT hz
                      cases hct : calmTo a j with
                      | true =>
                        rw [hct, Bool.true_and] at hsn
                        clear hct
                        go_wp2_with fail
                        (with_reducible refine HC.out.mono ?_)
                        rintro e wi ⟨rfl, hbi⟩
                        have HBI := Lib.hid (below_then HJ.out HJ.out.size hbi)
                        clear hbi
                        go_wp2
                        go_roundw
                        case rel => exact ⟨j + 1, by omega, by rw [hsn.out], rfl, HBI⟩
                        case measure => first | omega | (simp [intOf]; omega)
                      | false =>
                        rw [hct, Bool.false_and] at hsn
                        clear hct HC
                        go_wp2
                        go_roundw
                        case rel => exact ⟨j + 1, by omega, by rw [hsn.out], rfl, HJ⟩
                        case measure => first | omega | (simp [intOf]; omega)
                    · obtain rfl : j = a.ns.length := by omega
                      have hre : (mayB a.now a.ns a.os && passB a.now (oldM (secs (a.ns.zip a.os))) a.now) = calmTo a a.ns.length := by rw [(good_iff a).2 HA.out.1, Bool.true_and]; exact calmTo_all HA.out.1
                      have HC := Lib.hid (passed_c a _ _ a.now wr hT.2.1 hT.2.2 (by omega) (by have := HA.out.1.lo; omega) HA.out.1.rangeO)
                      rw [hre, HA.out.2.1] at HC
                      obtain ⟨z, hz⟩ : ∃ z, z = calmTo a a.ns.length := ⟨_, rfl⟩
                      rw [← hz] at HC
                      rw [← hz]
                      have hzz : (z != z) = false := by simp
                      have HX := Lib.hid (show BoxS b5 s (.slice pu s.ns.length cu) (.slice pv s.os.length cv) wr ∧ BoxT bn (s.now + 1) a (.slice q1 a.ns.length k1) (.slice q2 a.os.length k2) wr ∧ Below W.heap.size W wr from ⟨HE2.out.1.below HJ.out, hT, below_then HE2.out.2.2 HE2.out.2.2.size HJ.out⟩)
                      clear hre hT hz hjl hj HJ HE2
                      go_wp2_with fail
                      (with_reducible refine HC.out.mono ?_)
                      rintro e wi ⟨rfl, hbi⟩
                      have hX := HX.out.1.below hbi
                      have hT := HX.out.2.1.below hbi
                      have hB := below_then HX.out.2.2 HX.out.2.2.size hbi
                      clear hbi HX g0 g1 g2 HC
                      obtain ⟨g0, g1, g2⟩ := hT.1.cells
                      have m0 := hX.1.marks 0
                      have m1 := hX.1.marks 1
                      have m2 := hX.1.marks 2
                      obtain ⟨d0, d1, d2⟩ := hX.1.cells
                      have hP := hX.1.put (s.now + 1) (.slice q1 a.ns.length k1) (.slice q2 a.os.length k2)
                      have hK := RBox.putK wi b5 (s.now + 1) (.slice q1 a.ns.length k1) (.slice q2 a.os.length k2)
                      obtain ⟨wj, hwj⟩ : ∃ X : World, X = (((wi.setCell ⟨b5, 0, none⟩ (.int .i64 (s.now + 1))).setCell ⟨b5, 1, none⟩ (.slice q1 a.ns.length k1)).setCell ⟨b5, 2, none⟩ (.slice q2 a.os.length k2)) := ⟨_, rfl⟩
                      rw [← hwj] at hP hK
                      have HI2 := Lib.hid (show StaysI W b5 a step true q1 k1 q2 k2 wj from ⟨HA.out.1, HPZ.out, ⟨by rw [HA.out.2.1]; exact hP, by
                        obtain ⟨gg, hh, e1, e2, e3, e4⟩ := HBK.out
                        exact ⟨nums_keeps hT.2.1 hK (fun x hx e => by rw [hx] at e3; injection e3 with e3; rw [e3] at e; simp only at e; omega), nums_keeps hT.2.2 hK (fun x hx e => by rw [hx] at e4; injection e4 with e4; rw [e4] at e; simp only at e; omega)⟩⟩, hB.trans (hK.below hB.size (fun k e => by have := HBW.out; omega))⟩)
                      have HWJ := Lib.hid hwj
                      clear hwj hX hT hB hP hK
                      go_wp2
                      rw [← HWJ.out]
                      go_roundw
                      case rel => exact ⟨k + 1, a, true, q1, k1, q2, k2, by omega, rfl, rfl, HI2⟩
                      case measure => first | omega | (simp [intOf]; omega)
                | false =>
                  clear HPP
                  obtain ⟨g0, g1, g2⟩ := HE2.out.2.1.1.cells
                  have HJ0 := Lib.hid (show Below wg.heap.size wg wg from Below.refl _ _)
                  have hc0 := calmTo_zero a
                  go_wp2
                  go_loopw [16, 110] (fun qv iv wr => ∃ j : Nat, j ≤ a.ns.length ∧ qv = .bool (calmTo a j) ∧ iv = .int .i64 (j : Int) ∧ Hid (Below wg.heap.size wg wr)) (fun _ iv _ => a.ns.length - (intOf iv).toNat)
                  case atStart => exact ⟨0, Nat.zero_le _, by rw [hc0], rfl, HJ0⟩
                  case round =>
                    clear HJ0 hc0
                    obtain ⟨j, hj, rfl, rfl, HJ⟩ := hrel
                    clear g0 g1 g2
                    have h8a := HA.out.1.l8
                    have hT := HE2.out.2.1.below HJ.out
                    obtain ⟨g0, g1, g2⟩ := hT.1.cells
                    by_cases hjl : j < a.ns.length
                    · have hsn := Lib.hid (calmTo_succ HA.out.1 j hjl)
                      have HC := Lib.hid (quiet_c a _ _ (j : Int) wr hT.2.1 hT.2.2 (by omega) (by have := HA.out.1.lo; omega) HA.out.1.rangeO)
                      rw [HA.out.2.1] at HC
                      obtain ⟨z, hz⟩ : ∃ z, z = quietB a (j : Int) := ⟨_, rfl⟩
                      rw [← hz] at HC hsn
                      have hj0 : (0 : Int) ≤ (j : Int) := by omega
                      have hjs : (j : Int) < (a.ns.length : Int) := by omega
                      clear hT hz
                      cases hct : calmTo a j with
                      | true =>
                        rw [hct, Bool.true_and] at hsn
                        clear hct
                        go_wp2_with fail
                        (with_reducible refine HC.out.mono ?_)
                        rintro e wi ⟨rfl, hbi⟩
                        have HBI := Lib.hid (below_then HJ.out HJ.out.size hbi)
                        clear hbi
                        go_wp2
                        go_roundw
                        case rel => exact ⟨j + 1, by omega, by rw [hsn.out], rfl, HBI⟩
                        case measure => first | omega | (simp [intOf]; omega)
                      | false =>
                        rw [hct, Bool.false_and] at hsn
                        clear hct HC
                        go_wp2
                        go_roundw
                        case rel => exact ⟨j + 1, by omega, by rw [hsn.out], rfl, HJ⟩
                        case measure => first | omega | (simp [intOf]; omega)
                    · obtain rfl : j = a.ns.length := by omega
                      have hre : (mayB a.now a.ns a.os && passB a.now (oldM (secs (a.ns.zip a.os))) a.now) = calmTo a a.ns.length := by rw [(good_iff a).2 HA.out.1, Bool.true_and]; exact calmTo_all HA.out.1
                      have HC := Lib.hid (passed_c a _ _ a.now wr hT.2.1 hT.2.2 (by omega) (by have := HA.out.1.lo; omega) HA.out.1.rangeO)
                      rw [hre, HA.out.2.1] at HC
                      obtain ⟨z, hz⟩ : ∃ z, z = calmTo a a.ns.length := ⟨_, rfl⟩
                      rw [← hz] at HC
                      rw [← hz]
                      have hzz : (z != z) = false := by simp
                      have HX := Lib.hid (show BoxS b5 s (.slice pu s.ns.length cu) (.slice pv s.os.length cv) wr ∧ BoxT bn (s.now + 1) a (.slice q1 a.ns.length k1) (.slice q2 a.os.length k2) wr ∧ Below W.heap.size W wr from ⟨HE2.out.1.below HJ.out, hT, below_then HE2.out.2.2 HE2.out.2.2.size HJ.out⟩)
                      clear hre hT hz hjl hj HJ HE2
                      go_wp2_with fail
                      (with_reducible refine HC.out.mono ?_)
                      rintro e wi ⟨rfl, hbi⟩
                      have hX := HX.out.1.below hbi
                      have hT := HX.out.2.1.below hbi
                      have hB := below_then HX.out.2.2 HX.out.2.2.size hbi
                      clear hbi HX g0 g1 g2 HC
                      obtain ⟨g0, g1, g2⟩ := hT.1.cells
                      have m0 := hX.1.marks 0
                      have m1 := hX.1.marks 1
                      have m2 := hX.1.marks 2
                      obtain ⟨d0, d1, d2⟩ := hX.1.cells
                      have hP := hX.1.put (s.now + 1) (.slice q1 a.ns.length k1) (.slice q2 a.os.length k2)
                      have hK := RBox.putK wi b5 (s.now + 1) (.slice q1 a.ns.length k1) (.slice q2 a.os.length k2)
                      obtain ⟨wj, hwj⟩ : ∃ X : World, X = (((wi.setCell ⟨b5, 0, none⟩ (.int .i64 (s.now + 1))).setCell ⟨b5, 1, none⟩ (.slice q1 a.ns.length k1)).setCell ⟨b5, 2, none⟩ (.slice q2 a.os.length k2)) := ⟨_, rfl⟩
                      rw [← hwj] at hP hK
                      have HI2 := Lib.hid (show StaysI W b5 a step pz q1 k1 q2 k2 wj from ⟨HA.out.1, HPZ.out, ⟨by rw [HA.out.2.1]; exact hP, by
                        obtain ⟨gg, hh, e1, e2, e3, e4⟩ := HBK.out
                        exact ⟨nums_keeps hT.2.1 hK (fun x hx e => by rw [hx] at e3; injection e3 with e3; rw [e3] at e; simp only at e; omega), nums_keeps hT.2.2 hK (fun x hx e => by rw [hx] at e4; injection e4 with e4; rw [e4] at e; simp only at e; omega)⟩⟩, hB.trans (hK.below hB.size (fun k e => by have := HBW.out; omega))⟩)
                      have HWJ := Lib.hid hwj
                      clear hwj hX hT hB hP hK
                      go_wp2
                      rw [← HWJ.out]
                      go_roundw
                      case rel => exact ⟨k + 1, a, pz, q1, k1, q2, k2, by omega, rfl, rfl, HI2⟩
                      case measure => first | omega | (simp [intOf]; omega)
          · have hq : (err != 0) = true := by rw [bne_iff_ne]; exact he
            have HI2 := Lib.hid (show StaysI W b5 s step pd pu cu pv cv wd from ⟨HGS.out.1, HGS.out.2, HXD.out.1, HXD.out.2.2.1⟩)
            clear he HQ HRD HXD
            go_wp2
            go_roundw
            case rel => exact ⟨k + 1, s, pd, pu, cu, pv, cv, by omega, rfl, rfl, HI2⟩
            case measure => first | omega | (simp [intOf]; omega)
      · obtain rfl : k = l.length := by omega
        have HB := Lib.hid HI.out.2.2.2
        clear HI
        go_wp2
        go_ret
        exact ⟨rfl, HB.out⟩

end Go.Proofs.Ytjfphhemhaphbab
