/-
  RcuWaits answers true of all inputs, and leaves its arguments as they were.
  Conditions: none.
-/
import Derived.Test.YtdllhiihmpinoaaGreatVB15
import Derived.Test.YtdllhiihmpinoaaGreatVB16
import Derived.Test.YtdllhiihmpinoaaGreatVB17
import Derived.Test.YtdllhiihmpinoaaGreatVB14
import Derived.Test.YtdllhiihmpinoaaGreatVB1
import Derived.Test.YtdllhiihmpinoaaGreatVB13
/-
  The first test of the statements of layer 14: it answers true.
  Conditions: none.
-/
namespace Go.Proofs.YtdllhiihmpinoaaGreat
set_option maxRecDepth 100000
open Go.RowKit Go.Shelf
attribute [local go_sem] Oper.semAt_some


set_option maxHeartbeats 64000000 in
theorem wakes_c (W : World) : Calls Tryz.prog 7 #[] W fun e w' => e = .returned (.bool true) ∧ Below W.heap.size W w' := by
  have HN := Lib.hid (show Calls Tryz.prog 20 #[.int .i64 2] W fun e w' => NewQ W.heap.size 2 e w' ∧ Below W.heap.size W w' from rNew_c 2 (by omega) (by omega) W)
  obtain ⟨r0, hr0⟩ : ∃ r0, r0 = rNew 2 := ⟨_, rfl⟩
  obtain ⟨r2, hr2⟩ : ∃ r2, r2 = opsR (rNew 2) wkL2 := ⟨_, rfl⟩
  obtain ⟨rS, hrS⟩ : ∃ rS, rS = wkS := ⟨_, rfl⟩
  obtain ⟨r5, hr5⟩ : ∃ r5, r5 = opsR wkS wkL5 := ⟨_, rfl⟩
  have HE2 := Lib.hid (show RcR r0 ∧ runAE r0 wkL2 = 0 ∧ opsR r0 wkL2 = r2 ∧ opsW r0 wkL2 = [7] from by rw [hr0, hr2]; exact ⟨wk_good0.rcr, wk_e2, rfl, wk_w2⟩)
  have HE3 := Lib.hid (show runAE r0 wkL3 = 0 ∧ opsR r0 wkL3 = rS ∧ (if rmayB rS = true then manyQ rS.qs else 0) = 1 ∧ (rmayB r0 && idleB r0) = true ∧ (rmayB rS && idleB rS) = false from by rw [hr0, hrS]; exact ⟨wk_e3, rfl, wk_many, wk_idle0, wk_idleS⟩)
  have HE4 := Lib.hid (show RcR rS ∧ stepAE rS (5, 0, 0) = 4 ∧ rmayB rS = true ∧ openB rS.s = true from by rw [hrS]; exact ⟨wk_goodS.rcr, wk_e4, wk_open.1, wk_open.2⟩)
  have HE5 := Lib.hid (show runAE rS wkL5 = 0 ∧ opsR rS wkL5 = r5 ∧ opsW rS wkL5 = [7] from by rw [hrS, hr5]; exact ⟨wk_e5, rfl, wk_w5⟩)
  obtain ⟨w3s, hw3s⟩ : ∃ w3s, w3s = opsW r0 wkL3 := ⟨_, rfl⟩
  have HW3 := Lib.hid hw3s.symm
  have HR0 := Lib.hid hr0
  clear hr0 hr2 hrS hr5 hw3s
  go_enter Tryz.func7, Tryz.ntmps7
  go_wp2_with fail
  (with_reducible refine HN.out.mono ?_)
  rintro e w1 ⟨⟨u, v, nv, qv, rfl, ⟨⟨p1, pn1, pc1, rfl⟩, ⟨p2, pn2, pc2, rfl⟩, ⟨p3, pn3, pc3, rfl⟩, ⟨p4, pn4, pc4, rfl⟩⟩, hin⟩, hb1⟩
  obtain ⟨wA, hwA⟩ : ∃ X : World, X = w1.alloc (.cells #[.int .i64 0, .slice p1 pn1 pc1, .slice p2 pn2 pc2, .int .i64 0, .int .i64 0, .bool false, .slice p3 pn3 pc3, .slice p4 pn4 pc4] 30) := ⟨_, rfl⟩
  have hbA : Below w1.heap.size w1 wA := by rw [hwA]; exact below1 _ _
  obtain ⟨b, hbe⟩ : ∃ b, b = w1.heap.size := ⟨_, rfl⟩
  have HBA := Lib.hid (show WkA b r0 (.slice p1 pn1 pc1) (.slice p2 pn2 pc2) (.slice p3 pn3 pc3) (.slice p4 pn4 pc4) wA from by
    rw [HR0.out]
    exact ⟨by rw [hwA, hbe]; exact RcBox.new w1 _ _ _ _ _ _ _ _, hin.noS.below hbA⟩)
  have HWB := Lib.hid (show Below W.heap.size W wA from below_then hb1 hb1.size hbA)
  have HWA := Lib.hid (And.intro hwA hbe)
  clear hwA hbe hbA hin hb1 HN HR0
  go_upto_region 2 with fail
  rw [← HWA.out.1, ← HWA.out.2]
  clear HWA
  refine wk_reg2 b r0 p1 pn1 pc1 p2 pn2 pc2 p3 pn3 pc3 p4 pn4 pc4 _ _ _ _ _ _ wA HBA.out HE2.out.1 r2 [7] HE2.out.2.1 HE2.out.2.2.1 HE2.out.2.2.2 _ (by kernel_rfl) _ (fun c a i v w h => by cases i <;> exact h) ?_
  intro za tba q1 qn1 qc1 q2 qn2 qc2 q3 qn3 qc3 q4 qn4 qc4 q5 qn5 qc5 wB hF2
  have HBB := Lib.hid (HBA.out.below hF2.2.2.2)
  have HL := Lib.hid (show NumsAt wB .u64 (.slice q5 qn5 qc5) [7] from nums_of_owns rfl hF2.2.2.1)
  have HWB2 := Lib.hid (below_then HWB.out HWB.out.size hF2.2.2.2)
  clear hF2 HBA HWB
  go_upto_region 3 with fail
  refine wk_reg3 b r0 p1 pn1 pc1 p2 pn2 pc2 p3 pn3 pc3 p4 pn4 pc4 _ _ _ _ _ _ _ _ _ _ _ _ _ _ _ _ _ _ _ _ _ wB HBB.out HE2.out.1 rS w3s HE3.out.1 HE3.out.2.1 HW3.out _ (by kernel_rfl) _ (fun c a i v w h => by cases i <;> exact h) ?_
  intro zb tbb s1 sn1 sc1 s2 sn2 sc2 s3 sn3 sc3 s4 sn4 sc4 s5 sn5 sc5 wC hF3
  have HBC := Lib.hid (HBB.out.below hF3.2.2.2)
  have HSC := Lib.hid (show WkA zb rS (.slice s1 sn1 sc1) (.slice s2 sn2 sc2) (.slice s3 sn3 sc3) (.slice s4 sn4 sc4) wC from ⟨hF3.1, hF3.2.1⟩)
  have HLC := Lib.hid (nums_below HL.out hF3.2.2.2)
  have HWC := Lib.hid (below_then HWB2.out HWB2.out.size hF3.2.2.2)
  clear hF3 HBB HL HWB2
  go_upto_region 4 with fail
  refine wk_reg4 zb rS s1 sn1 sc1 s2 sn2 sc2 s3 sn3 sc3 s4 sn4 sc4 _ _ _ _ _ _ _ _ _ _ _ _ _ _ _ _ _ _ _ _ _ _ _ _ _ _ _ _ _ _ _ _ _ _ _ _ wC HSC.out HE4.out.1 HE4.out.2.1 _ (by kernel_rfl) _ (fun c a i v w h => by cases i <;> exact h) ?_
  intro zc wD hF4
  have HBD := Lib.hid (HBC.out.below hF4)
  have HSD := Lib.hid (HSC.out.below hF4)
  have HLD := Lib.hid (nums_below HLC.out hF4)
  have HWD := Lib.hid (below_then HWC.out HWC.out.size hF4)
  clear hF4 HBC HSC HLC HWC
  go_upto_region 5 with fail
  refine wk_reg5 zb rS s1 sn1 sc1 s2 sn2 sc2 s3 sn3 sc3 s4 sn4 sc4 _ _ _ _ _ _ _ _ _ _ _ _ _ _ _ _ _ _ _ _ _ _ _ _ _ _ _ _ _ _ _ _ _ _ _ _ _ _ _ _ _ _ _ _ _ _ wD HSD.out HE4.out.1 r5 [7] HE5.out.1 HE5.out.2.1 HE5.out.2.2 _ (by kernel_rfl) _ (fun c a i v w h => by cases i <;> exact h) ?_
  intro zd tbd t1 tn1 tc1 t2 tn2 tc2 t3 tn3 tc3 t4 tn4 tc4 t5 tn5 tc5 wE hF5
  have HBE := Lib.hid (HBD.out.below hF5.2.2.2)
  have HSE := Lib.hid (HSD.out.below hF5.2.2.2)
  have HLE := Lib.hid (nums_below HLD.out hF5.2.2.2)
  have HME := Lib.hid (show NumsAt wE .u64 (.slice t5 tn5 tc5) [7] from nums_of_owns rfl hF5.2.2.1)
  have HWE := Lib.hid (below_then HWD.out HWD.out.size hF5.2.2.2)
  clear hF5 HBD HSD HLD HWD
  have HST := Lib.hid (rSettle_c 241 rS [] rS (.slice s1 sn1 sc1) (.slice s2 sn2 sc2) (.slice s3 sn3 sc3) (.slice s4 sn4 sc4) wE HSE.out.2 (fun z rb W0 kb hz hrb hrz hi => set1_open rS _ _ _ _ HE4.out.1 HE4.out.2.2.1 HE4.out.2.2.2 z rb W0 kb hz hrb hrz hi rS []))
  obtain ⟨d0, d1, d2, d3, d4, d5, d6, d7⟩ := HSE.out.1.cells
  go_wp2_with fail
  (with_reducible refine HST.out.mono ?_)
  rintro e w6 ⟨⟨now, u, v, d, a, on, nv, qv, lv, x, rfl, hA⟩, hb6⟩
  obtain ⟨-, hx, hnow, hu, hv, hd, ha, hon, hnv, hqv, hlv⟩ := hA.2.resolve_right (fun h => absurd h.1 (by decide))
  clear hA
  subst hx hnow hu hv hd ha hon hnv hqv hlv
  unfold nilV
  obtain ⟨w7, hw7⟩ : ∃ X : World, X = w6.alloc (.cells #[.int .i64 0, .slice none 0 0, .slice none 0 0, .int .i64 0, .int .i64 0, .bool false, .slice none 0 0, .slice none 0 0] 30) := ⟨_, rfl⟩
  have hb7 : Below wE.heap.size wE w7 := below_then hb6 hb6.size (by rw [hw7]; exact below1 _ _)
  obtain ⟨w8, hw8⟩ : ∃ X : World, X = w7.alloc (.cells #[.int .u64 7] 35) := ⟨_, rfl⟩
  have hb8 : Below wE.heap.size wE w8 := below_then hb7 hb7.size (by rw [hw8]; exact below1 _ _)
  have hlit : NumsAt w8 .u64 (.slice (some ⟨w7.heap.size, 0, none⟩) 1 1) [7] := by
    refine ⟨_, _, rfl, fun _ => ⟨_, 0, rfl, fun i hi => ?_⟩⟩
    rw [hw8]
    have hi : i < 1 := hi
    obtain rfl : i = 0 := by omega
    simp
  have hc := U.equalW_c (.slice q5 qn5 qc5) (.slice (some ⟨w7.heap.size, 0, none⟩) 1 1) [7] [7] w8 (nums_below HLE.out hb8) hlit (by decide) (by decide)
  rw [decide_eq_true (rfl : ([7] : List Int) = [7]), show w7.heap.size = w6.heap.size + 1 by rw [hw7]; simp] at hc
  have HC := Lib.hid hc
  have HP := Lib.hid (show WkA b r0 (.slice p1 pn1 pc1) (.slice p2 pn2 pc2) (.slice p3 pn3 pc3) (.slice p4 pn4 pc4) w8 ∧ WkA zb rS (.slice s1 sn1 sc1) (.slice s2 sn2 sc2) (.slice s3 sn3 sc3) (.slice s4 sn4 sc4) w8 ∧ NumsAt w8 .u64 (.slice q5 qn5 qc5) [7] ∧ NumsAt w8 .u64 (.slice t5 tn5 tc5) [7] ∧ Below W.heap.size W w8 from ⟨HBE.out.below hb8, HSE.out.below hb8, nums_below HLE.out hb8, nums_below HME.out hb8, below_then HWE.out HWE.out.size hb8⟩)
  have HW := Lib.hid (And.intro hw7 hw8)
  clear hw7 hw8 hb6 hb7 hb8 hlit hc HBE HSE HLE HME HWE HST d0 d1 d2 d3 d4 d5 d6 d7
  go_wp2_with fail
  rw [← HW.out.1, ← HW.out.2]
  clear HW
  (with_reducible refine HC.out.mono ?_)
  rintro e w9 ⟨rfl, hb9⟩
  have HP9 := Lib.hid (show WkA b r0 (.slice p1 pn1 pc1) (.slice p2 pn2 pc2) (.slice p3 pn3 pc3) (.slice p4 pn4 pc4) w9 ∧ WkA zb rS (.slice s1 sn1 sc1) (.slice s2 sn2 sc2) (.slice s3 sn3 sc3) (.slice s4 sn4 sc4) w9 ∧ Below W.heap.size W w9 from ⟨HP.out.1.below hb9, HP.out.2.1.below hb9, below_then HP.out.2.2.2.2 HP.out.2.2.2.2.size hb9⟩)
  have hc := U.equalW_c (.slice t5 tn5 tc5) (.slice q5 qn5 qc5) [7] [7] w9 (nums_below HP.out.2.2.2.1 hb9) (nums_below HP.out.2.2.1 hb9) (by decide) (by decide)
  rw [decide_eq_true (rfl : ([7] : List Int) = [7])] at hc
  have HC9 := Lib.hid hc
  clear hc hb9 HP HC
  go_wp2_with fail
  (with_reducible refine HC9.out.mono ?_)
  rintro e w10 ⟨rfl, hb10⟩
  have HP10 := Lib.hid (show WkA b r0 (.slice p1 pn1 pc1) (.slice p2 pn2 pc2) (.slice p3 pn3 pc3) (.slice p4 pn4 pc4) w10 ∧ WkA zb rS (.slice s1 sn1 sc1) (.slice s2 sn2 sc2) (.slice s3 sn3 sc3) (.slice s4 sn4 sc4) w10 ∧ Below W.heap.size W w10 from ⟨HP9.out.1.below hb10, HP9.out.2.1.below hb10, below_then HP9.out.2.2 HP9.out.2.2.size hb10⟩)
  have hc := rwaiting_c (.slice s1 sn1 sc1) (.slice s2 sn2 sc2) (.slice s3 sn3 sc3) (.slice s4 sn4 sc4) rS w10 HP10.out.2.1.2 HE4.out.1
  rw [HE3.out.2.2.1] at hc
  have HC10 := Lib.hid hc
  clear hc hb10 HP9 HC9
  obtain ⟨d0, d1, d2, d3, d4, d5, d6, d7⟩ := HP10.out.2.1.1.cells
  go_wp2_with fail
  (with_reducible refine HC10.out.mono ?_)
  rintro e w11 ⟨rfl, hb11⟩
  have HP11 := Lib.hid (show WkA b r0 (.slice p1 pn1 pc1) (.slice p2 pn2 pc2) (.slice p3 pn3 pc3) (.slice p4 pn4 pc4) w11 ∧ WkA zb rS (.slice s1 sn1 sc1) (.slice s2 sn2 sc2) (.slice s3 sn3 sc3) (.slice s4 sn4 sc4) w11 ∧ Below W.heap.size W w11 from ⟨HP10.out.1.below hb11, HP10.out.2.1.below hb11, below_then HP10.out.2.2 HP10.out.2.2.size hb11⟩)
  have hc := rIdle_c (.slice p1 pn1 pc1) (.slice p2 pn2 pc2) (.slice p3 pn3 pc3) (.slice p4 pn4 pc4) r0 w11 HP11.out.1.2 HE2.out.1
  rw [HE3.out.2.2.2.1] at hc
  have HC11 := Lib.hid hc
  clear hc hb11 HP10 HC10 d0 d1 d2 d3 d4 d5 d6 d7
  obtain ⟨d0, d1, d2, d3, d4, d5, d6, d7⟩ := HP11.out.1.1.cells
  go_wp2_with fail
  (with_reducible refine HC11.out.mono ?_)
  rintro e w12 ⟨rfl, hb12⟩
  have HP12 := Lib.hid (show WkA zb rS (.slice s1 sn1 sc1) (.slice s2 sn2 sc2) (.slice s3 sn3 sc3) (.slice s4 sn4 sc4) w12 ∧ Below W.heap.size W w12 from ⟨HP11.out.2.1.below hb12, below_then HP11.out.2.2 HP11.out.2.2.size hb12⟩)
  have hc := rIdle_c (.slice s1 sn1 sc1) (.slice s2 sn2 sc2) (.slice s3 sn3 sc3) (.slice s4 sn4 sc4) rS w12 HP12.out.1.2 HE4.out.1
  rw [HE3.out.2.2.2.2] at hc
  have HC12 := Lib.hid hc
  clear hc hb12 HP11 HC11 d0 d1 d2 d3 d4 d5 d6 d7
  obtain ⟨d0, d1, d2, d3, d4, d5, d6, d7⟩ := HP12.out.1.1.cells
  go_wp2_with fail
  (with_reducible refine HC12.out.mono ?_)
  rintro e w13 ⟨rfl, hb13⟩
  have HB := Lib.hid (below_then HP12.out.2 HP12.out.2.size hb13)
  clear HP12 HC12 hb13 d0 d1 d2 d3 d4 d5 d6 d7
  go_wp2
  go_ret
  exact ⟨rfl, HB.out⟩

end Go.Proofs.YtdllhiihmpinoaaGreat
/-
  RcuWaits, called with any number and any row of ops: it answers true.
  Conditions: the ranges of Go's types.
-/
namespace Go.Proofs.YtdllhiihmpinoaaGreat
set_option maxRecDepth 100000
open Go.RowKit Go.Shelf
attribute [local go_sem] Oper.semAt_some


set_option maxHeartbeats 64000000 in
theorem rcuWaits_c (cpus : Int) (vl : Value) (l : List (Int × Int × Int)) (W : World) (hl : OpsOut U.NoS W vl l) (hlm : l.length ≤ 9223372036854775807) :
    Calls Tryz.prog 5 #[.int .i64 cpus, vl] W fun e w' => e = .returned (.bool true) ∧ Below W.heap.size W w' := by
  have HWK := Lib.hid (wakes_c W)
  obtain ⟨M, hM8, hMe⟩ := part_8 cpus
  obtain ⟨n, hn⟩ : ∃ n, n = M + 1 := ⟨_, rfl⟩
  have hn18 : 1 ≤ n ∧ n ≤ 8 := by omega
  have hne : (1 : Int) + (M : Int) = (n : Int) := by omega
  have hnw : wrap64 (n : Int) = (n : Int) := by unfold wrap64; omega
  have HN := Lib.hid (fun (X : World) => rNew_c n hn18.1 hn18.2 X)
  have HN8 := Lib.hid hn18
  obtain ⟨lp, lc, rfl, -⟩ := id hl
  obtain ⟨ll, hll⟩ : ∃ k, k = l.length := ⟨_, rfl⟩
  rw [← hll] at hl hlm ⊢
  have HL := Lib.hid (And.intro hl hll)
  clear hl hll hn hn18
  have hmm := @run_makeMap Tryz.prog
  go_enter Tryz.func5, Tryz.ntmps5
  go_wp2_with fail
  (with_reducible refine HWK.out.mono ?_)
  rintro e w1 ⟨rfl, hb1⟩
  have HB1 := Lib.hid hb1
  clear hb1 HWK
  go_wp2_with fail
  (with_reducible refine (HN.out w1).mono ?_)
  rintro e w2 ⟨⟨u, v, nv, qv, rfl, ⟨⟨p1, n1, c1, rfl⟩, ⟨p2, n2, c2, rfl⟩, ⟨p3, n3, c3, rfl⟩, ⟨p4, n4, c4, rfl⟩⟩, hin⟩, hb2⟩
  obtain ⟨z, hz⟩ : ∃ z, z = w2.heap.size := ⟨_, rfl⟩
  obtain ⟨w3, hw3⟩ : ∃ X : World, X = ((w2.alloc (.cells #[.int .i64 0, .slice p1 n1 c1, .slice p2 n2 c2, .int .i64 0, .int .i64 0, .bool false, .slice p3 n3 c3, .slice p4 n4 c4] 30)).alloc (.map #[] 0)).alloc (.map #[] 0) := ⟨_, rfl⟩
  obtain ⟨ma, hma⟩ : ∃ ma, ma = w2.heap.size + 1 := ⟨_, rfl⟩
  obtain ⟨mq, hmq⟩ : ∃ mq, mq = w2.heap.size + 1 + 1 := ⟨_, rfl⟩
  have HW3 := Lib.hid (And.intro hw3 (And.intro hmq (And.intro hma hz)))
  have HI := Lib.hid (show WvI W z ma mq n 0 0 w3 from by
    have hbz : Below w2.heap.size w2 w3 := by rw [hw3]; exact below3 _ _ _ _
    have hsz : w3.heap.size = w2.heap.size + 3 := by rw [hw3]; simp
    have h12 := below_then HB1.out HB1.out.size hb2
    refine ⟨⟨rNew n, fun _ => 0, fun _ => 0, 0, 0, fun _ => .slice none 0 0, p1, n1, c1, p2, n2, c2, p3, n3, c3, p4, n4, c4, rw_new n HN8.out.1 HN8.out.2, by simp [rNew], ?_, ?_, ?_, ?_, fun j hj => .inl ⟨rfl, ?_⟩, fun j j' _ _ _ g e => (by cases e), by omega⟩, below_then h12 h12.size hbz, ?_⟩
    · rw [hw3, hz]
      exact ((RcBox.new w2 _ _ _ _ _ _ _ _).below (below1 _ _)).below (below1 _ _)
    · exact (hin.apart (T := wvS z ma mq n fun _ => .slice none 0 0) (fun q hq => by
        rcases hq with h | ⟨j, _, e⟩
        · exact .inr (by omega)
        · cases e)).below hbz
    · have : whatsR (rNew n) = [] := by simp [whatsR, rNew]
      rw [this, hw3, hma]
      have h := MapA.new (w2.alloc (.cells #[.int .i64 0, .slice p1 n1 c1, .slice p2 n2 c2, .int .i64 0, .int .i64 0, .bool false, .slice p3 n3 c3, .slice p4 n4 c4] 30)) (fun _ => 0)
      rw [World.size_alloc] at h
      exact h.below (below1 _ _)
    · rw [hw3, hmq]
      have h := MapQ.new ((w2.alloc (.cells #[.int .i64 0, .slice p1 n1 c1, .slice p2 n2 c2, .int .i64 0, .int .i64 0, .bool false, .slice p3 n3 c3, .slice p4 n4 c4] 30)).alloc (.map #[] 0)) n
      simpa using h
    · have hj' : j < (rNew n).qs.length := by simpa [rNew] using hj
      rw [qAt_lt hj']
      simp [rNew]
    · have := h12.size
      omega)
  clear hin hb2 hw3 hz hma hmq HN hMe hne hnw HB1
  go_upto_block 0 with fail
  rw [← HW3.out.1, ← HW3.out.2.1, ← HW3.out.2.2.1, ← HW3.out.2.2.2]
  clear HW3

  go_cut [9] (fun s9 wc => ∃ (i : Nat) (m : Int), s9 = .int .u64 m ∧ Hid (WvI W z ma mq n i m wc))
  case first =>
    go_wp2
    go_loopw [9, 34] (fun mv iv wr => ∃ (i : Nat) (m : Int), i ≤ ll ∧ i ≤ 150 ∧ mv = .int .u64 m ∧ iv = .int .i64 (i : Int) ∧ Hid (WvI W z ma mq n i m wr)) (fun _ iv _ => ll - (intOf iv).toNat)
    case atStart => exact ⟨0, 0, Nat.zero_le _, by omega, rfl, rfl, HI⟩
    case round =>
      clear HI
      obtain ⟨i, m, hi, hi150, rfl, rfl, HI⟩ := hrel
      by_cases hlt : i < ll
      · have hil : i < l.length := by have := HL.out.2; omega
        obtain ⟨lp', lc', ee, hcl⟩ := HL.out.1.below HI.out.kp
        injection ee with e1 e2 e3
        subst e1 e3
        obtain ⟨lb, lo, rfl, -, hcs⟩ := hcl (by rintro rfl; simp at hil)
        obtain ⟨y0, y1, y2⟩ := hcs i hil
        obtain ⟨kd, hkd⟩ : ∃ x, x = l[i].1 := ⟨_, rfl⟩
        obtain ⟨cc, hcc⟩ : ∃ x, x = l[i].2.1 := ⟨_, rfl⟩
        obtain ⟨xx, hxx⟩ : ∃ x, x = l[i].2.2 := ⟨_, rfl⟩
        rw [← hkd] at y0
        rw [← hcc] at y1
        rw [← hxx] at y2
        have hi0 : (0 : Int) ≤ (i : Int) := by omega
        have hlt' : (i : Int) < (ll : Int) := by omega
        clear hcl hcs hkd hcc hxx e2
        by_cases h150 : i = 150
        · subst h150
          have HB := Lib.hid (HI.out.below (below1 wr (.cells #[.int .i64 kd, .int .i64 cc, .int .u64 xx] 37)))
          clear HI
          go_wp2
          go_meet
          exact ⟨150, m, rfl, HB⟩
        · have h150' : ¬ ((i : Int) = 150) := by omega
          by_cases k3 : kd = 3
          · subst k3
            obtain ⟨r, T, st, k1, k2, F, p1, l1, c1, p2, l2, c2, p3, l3, c3, p4, l4, c4, hX⟩ := HI.out.ex
            have hm0 : 0 ≤ m ∧ m ≤ 150 := ⟨hX.rw_.m0, by have := hX.ks; omega⟩
            obtain ⟨zo, hzo⟩ : ∃ x, x = wr.heap.size := ⟨_, rfl⟩
            obtain ⟨xo, hxo⟩ : ∃ x : Int, x = m + 1 := ⟨_, rfl⟩
            obtain ⟨w0, hw0⟩ : ∃ X : World, X = wr.alloc (.cells #[.int .i64 3, .int .i64 cc, .int .u64 xo] 37) := ⟨_, rfl⟩
            have hb0 : Below wr.heap.size wr w0 := by rw [hw0]; exact below1 _ _
            have ha0 : ABox w0 zo 3 cc xo := by rw [hw0, hzo]; exact ABox.new _ _ _ _
            have hX0 := hX.below hb0
            have hkp := HI.out.kp
            have hzb := HI.out.b
            have HX := Lib.hid (show WvX z ma mq n i m r T st k1 k2 F (.slice p1 l1 c1) (.slice p2 l2 c2) (.slice p3 l3 c3) (.slice p4 l4 c4) w0 ∧ ABox w0 zo 3 cc xo ∧ Below W.heap.size W w0 ∧ (W.heap.size ≤ z ∧ z < ma ∧ ma < mq ∧ mq < zo) ∧ xo = m + 1 from ⟨hX0, ha0, below_then hkp hkp.size hb0, ⟨hzb.1, hzb.2.1, hzb.2.2.1, by rw [hzo]; exact hzb.2.2.2⟩, hxo⟩)
            have HS := Lib.hid (rStep_c r _ _ _ _ 3 cc xo w0 hX0.rin.noS hX0.rw_.good.rcr)
            have HM := Lib.hid hm0
            have hmw : IntKind.u64.wrap (m + 1) = xo := by rw [hxo]; simp [IntKind.wrap, IntKind.signed, IntKind.bits]; omega
            have HW := Lib.hid (show wr.alloc (.cells #[.int .i64 3, .int .i64 cc, .int .u64 (IntKind.u64.wrap (m + 1))] 37) = w0 from by rw [hw0, hmw])
            have HZ := Lib.hid hzo
            obtain ⟨d0, d1, d2, d3, d4, d5, d6, d7⟩ := hX0.box.cells
            obtain ⟨a0, a1, a2⟩ := ha0.cells
            clear hX hX0 hb0 ha0 hkp hzb hm0 hw0 hxo hzo hmw
            go_upto_region 16 with fail
            rw [HW.out, ← HZ.out]
            clear HW HZ y0 y1 y2
            go_wp2_with fail
            (with_reducible refine HS.out.mono ?_)
            rintro e w1 ⟨⟨now, u', v', d, a, on, nv', qv', xe, rfl, hA⟩, hb1⟩
            obtain ⟨⟨q1, m1, e1, rfl⟩, ⟨q2, m2, e2, rfl⟩, ⟨q3, m3, e3, rfl⟩, ⟨q4, m4, e4, rfl⟩, -⟩ := id hA.1
            obtain ⟨zn, hzn⟩ : ∃ x, x = w1.heap.size := ⟨_, rfl⟩
            obtain ⟨w2, hw2⟩ : ∃ X : World, X = w1.alloc (.cells #[.int .i64 now, .slice q1 m1 e1, .slice q2 m2 e2, .int .i64 d, .int .i64 a, .bool on, .slice q3 m3 e3, .slice q4 m4 e4] 30) := ⟨_, rfl⟩
            have hb2 : Below w0.heap.size w0 w2 := below_then hb1 hb1.size (by rw [hw2]; exact below1 _ _)
            have HX2 := Lib.hid (show WvX z ma mq n i m r T st k1 k2 F (.slice p1 l1 c1) (.slice p2 l2 c2) (.slice p3 l3 c3) (.slice p4 l4 c4) w2 ∧ ABox w2 zo 3 cc xo ∧ Below W.heap.size W w2 ∧ RcBox w2 zn now (.slice q1 m1 e1) (.slice q2 m2 e2) d a on (.slice q3 m3 e3) (.slice q4 m4 e4) ∧ zo < zn from ⟨HX.out.1.below hb2, HX.out.2.1.below hb2, below_then HX.out.2.2.1 HX.out.2.2.1.size hb2, by rw [hw2, hzn]; exact RcBox.new _ _ _ _ _ _ _ _ _, by rw [hzn]; exact Nat.lt_of_lt_of_le HX.out.2.1.lt hb1.size⟩)
            have HW2 := Lib.hid (And.intro hw2 hzn)
            have HA := Lib.hid (hA.below (show Below w1.heap.size w1 w2 by rw [hw2]; exact below1 _ _))
            clear hA hb1 hb2 hw2 hzn HS d0 d1 d2 d3 d4 d5 d6 d7 a0 a1 a2
            by_cases hE : stepAE r (3, cc, xo) = 0
            · rw [if_pos hE]
              obtain ⟨-, hxe, hnow, hd, ha, hon, hin, -⟩ := HA.out.2.resolve_left (fun h => h.1 hE)
              obtain ⟨r', hr'⟩ : ∃ r', r' = opR r (3, cc, xo) := ⟨_, rfl⟩
              rw [← hr'] at hnow hd ha hon hin
              subst hxe hnow hd ha hon
              have hop := stepAE_zero HX.out.1.rw_.good.may hE
              obtain ⟨w3, hw3⟩ : ∃ X : World, X = (((((((w2.setCell ⟨z, 0, none⟩ (.int .i64 r'.s.now)).setCell ⟨z, 1, none⟩ (.slice q1 m1 e1)).setCell ⟨z, 2, none⟩ (.slice q2 m2 e2)).setCell ⟨z, 3, none⟩ (.int .i64 r'.g.done)).setCell ⟨z, 4, none⟩ (.int .i64 r'.g.asked)).setCell ⟨z, 5, none⟩ (.bool r'.g.on)).setCell ⟨z, 6, none⟩ (.slice q3 m3 e3)).setCell ⟨z, 7, none⟩ (.slice q4 m4 e4) := ⟨_, rfl⟩
              have hk3 : Keeps (fun k => k = z) w2 w3 := by rw [hw3]; exact RcBox.putAllK w2 z _ _ _ _ _ _ _ _
              have hzz : ¬ zo = z ∧ ¬ ma = z ∧ ¬ mq = z ∧ ¬ zn = z := by have := HX.out.2.2.2.1; have := HX2.out.2.2.2.2; omega
              have HY := Lib.hid (show RcBox w3 z r'.s.now (.slice q1 m1 e1) (.slice q2 m2 e2) r'.g.done r'.g.asked r'.g.on (.slice q3 m3 e3) (.slice q4 m4 e4) ∧ RcIn (wvS z ma mq n F) w3 (.slice q1 m1 e1) (.slice q2 m2 e2) (.slice q3 m3 e3) (.slice q4 m4 e4) r' ∧ MapA w3 ma k1 (whatsR r) st ∧ MapQ w3 mq k2 n F ∧ (∀ j, j < n → PutR (mq + 1) (F j) ((qAt r j).2.map (·.2)) w3) ∧ ABox w3 zo 3 cc xo ∧ Below W.heap.size W w3 from by
                obtain ⟨h1, h2, h3, h4, h5⟩ := HX2.out
                have hz4 := HX.out.2.2.2.1
                have hlt0 := HX.out.2.1.lt
                refine ⟨by rw [hw3]; exact h1.box.putAll _ _ _ _ _ _ _ _, (hin.keeps (hk3.sub fun k _ e => by omega)).apart (fun q hq => .inl ?_), h1.map.keeps hk3 hzz.2.1, h1.mq_.keeps hk3 hzz.2.2.1, fun j hj => (h1.rows j hj).keeps hk3 (fun g hg => by have := ((h1.rows j hj).lt hg).1; omega), (hk3.block zo h2.lt hzz.1).trans h2, h3.trans (hk3.below h3.size (fun k e => by omega))⟩
                rcases hq with h | ⟨j, hj, e⟩
                · omega
                · exact ((HX.out.1.rows j hj).lt e.symm).2.1)
              have HW3 := Lib.hid hw3
              have HX2c := Lib.hid (And.intro HX2.out.2.2.2.1 (And.intro HX2.out.1.box HX2.out.2.1))
              obtain ⟨hz1, -, -, hz2⟩ := hzz
              have hw2e := HW2.out.1
              have HZB := Lib.hid (And.intro HX.out.2.2.2.1 HX.out.1.ks)
              have HXR := Lib.hid (show RW r T st m ∧ r.qs.length = n ∧ (∀ j j', j < n → j' < n → j ≠ j' → ∀ g, (F j).ownBlock = some g → (F j').ownBlock ≠ some g) ∧ opE r (3, cc, xo) = 0 ∧ r' = opR r (3, cc, xo) ∧ zo < w3.heap.size from ⟨HX.out.1.rw_, HX.out.1.len, HX.out.1.dis, hop, hr', HY.out.2.2.2.2.2.1.lt⟩)
              have HH := Lib.hid HW2.out
              have HX5' := HX.out.2.2.2.2
              clear hin hop hr' hw3 hk3 HX HX2 HA HI hE hw2e HW2
              have HX5 := Lib.hid HX5'
              clear HX5'
              go_upto_region 17 with fail
              rw [← HH.out.1, ← HH.out.2]
              obtain ⟨f0, f1, f2, f3, f4, f5, f6, f7⟩ := HX2c.out.1.cells
              obtain ⟨d0, d1, d2, d3, d4, d5, d6, d7⟩ := HX2c.out.2.1.cells
              obtain ⟨a0, a1, a2⟩ := HX2c.out.2.2.cells
              have v0 := HX2c.out.2.1.marks 0
              have v1 := HX2c.out.2.1.marks 1
              have v2 := HX2c.out.2.1.marks 2
              have v3 := HX2c.out.2.1.marks 3
              have v4 := HX2c.out.2.1.marks 4
              have v5 := HX2c.out.2.1.marks 5
              have v6 := HX2c.out.2.1.marks 6
              have v7 := HX2c.out.2.1.marks 7
              clear HX2c
              have hmw : IntKind.u64.wrap (m + 1) = m + 1 := by have := HM.out; simp [IntKind.wrap, IntKind.signed, IntKind.bits]; omega
              have hcl : callE r cc.toNat = 0 ∧ cc.toNat < n ∧ ((cc.toNat : Nat) : Int) = cc := by
                have h := HXR.out.2.2.2.1
                unfold opE at h
                rw [if_neg (by simp)] at h
                split at h
                · cases h
                · rename_i hb
                  have hb : hasB r.qs.length cc = true := by cases hb' : hasB r.qs.length cc with
                    | true => rfl
                    | false => exact absurd hb' hb
                  rw [if_neg (by simp), if_neg (by simp), if_pos rfl] at h
                  have := has_lt hb
                  exact ⟨h, by have := HXR.out.2.1; omega, this.2⟩
              obtain ⟨cn, hcn⟩ : ∃ c, c = cc.toNat := ⟨_, rfl⟩
              rw [← hcn] at hcl
              obtain ⟨hce, hcn2, rfl⟩ := hcl
              have hrc : r' = callR r cn (m + 1) := by
                rw [HXR.out.2.2.2.2.1]
                unfold opR
                rw [if_neg (by simp), if_neg (by simp), if_pos rfl, HX5.out, Int.toNat_natCast]
              have hnow : r'.s.now = r.s.now := by rw [hrc]; rfl
              have hPS := HXR.out.1.goodP.s
              have hput := HY.out.2.2.1.put (m + 1) r'.s.now (fun h => by have := (whats_bound HXR.out.1 h).2; omega) (by have := HM.out; omega) (by rw [hnow]; have h0 := hPS.n0; have h1 := hPS.n1; simp only at h0 h1; omega) (by have := HZB.out; omega)
              obtain ⟨w4, hupd, hA4, hk4⟩ := hput
              have hzb := HZB.out.1
              have hFb : ∀ j, j < n → ∀ g, (F j).ownBlock = some g → mq + 1 ≤ g ∧ g < w3.heap.size := fun j hj g e => ⟨((HY.out.2.2.2.2.1 j hj).lt e).1, ((HY.out.2.2.2.2.1 j hj).lt e).2.1⟩
              have HY4 := Lib.hid (show RcBox w4 z r'.s.now (.slice q1 m1 e1) (.slice q2 m2 e2) r'.g.done r'.g.asked r'.g.on (.slice q3 m3 e3) (.slice q4 m4 e4) ∧ RcIn (wvS z ma mq n F) w4 (.slice q1 m1 e1) (.slice q2 m2 e2) (.slice q3 m3 e3) (.slice q4 m4 e4) r' ∧ MapA w4 ma (k1 + 1) ((m + 1) :: whatsR r) (fun y => if y = m + 1 then r'.s.now else st y) ∧ MapQ w4 mq k2 n F ∧ (∀ j, j < n → PutR (mq + 1) (F j) ((qAt r j).2.map (·.2)) w4) ∧ ABox w4 zo 3 (cn : Int) xo ∧ Below W.heap.size W w4 ∧ w3.heap.size ≤ w4.heap.size from by
                obtain ⟨g1, g2, g3, g4, g5, g6, g7⟩ := HY.out
                exact ⟨g1.keeps hk4 (by omega), g2.keeps (hk4.sub fun k _ e => .inl (.inr (.inl e))), hA4, g4.keeps hk4 (by omega), fun j hj => (g5 j hj).keeps hk4 (fun g e => by have := hFb j hj g e; omega), (hk4.block zo g6.lt (by omega)).trans g6, g7.trans (hk4.below g7.size (fun k e => by omega)), hk4.size⟩)
              have HC := Lib.hid (show callE r cn = 0 ∧ cn < n ∧ r' = callR r cn (m + 1) ∧ r'.s.now = r.s.now ∧ (qAt r cn).2.length ≤ 16 from ⟨hce, hcn2, hrc, hnow, by
                obtain ⟨-, -, -, -, g5⟩ := rmay_facts HXR.out.1.good.may
                rw [qAt_lt (by have := HXR.out.2.1; omega)]
                exact (U.may_parts (g5 _ (List.getElem_mem _)).1).2.1⟩)
              clear hA4 hk4 hPS hce hcn hrc hnow hzb hFb
              go_upto_region 22 with fail
              rw [← HW3.out, hmw]
              clear f0 f1 f2 f3 f4 f5 f6 f7 d0 d1 d2 d3 d4 d5 d6 d7 a0 a1 a2 v0 v1 v2 v3 v4 v5 v6 v7
              obtain ⟨b0, b1, b2, b3, b4, b5, b6, b7⟩ := HY.out.1.cells
              clear HW3 HH
              go_upto_region 23 with fail
              clear b0 b1 b2 b3 b4 b5 b6 b7 hupd
              refine wt_reg23 (mq + 1) mq zo k2 n cn F ((qAt r cn).2.map (·.2)) 3 xo (m + 1) _ _ _ _ _ _ _ _ _ _ _ _ _ _ _ _ _ _ _ _ _ _ _ _ _ _ _ _ _ _ _ _ _ _ _ _ _ _ _ _ _ _ _ _ _ _ _ _ _ _ _ _ _ _ _ _ _ _ _ _ _ _ _ _ _ _ _ _ _ _ _ _ _ _ _ _ _ _ _ _ _ _ _ _ _ _ _ _ _ _ _ _ _ _ _ _ _ _ _ _ _ _ _ _ _ _ _ _ _ _ _ _ _ _ _ _ _ _ _ _ _ _ _ _ _ _ _ _ _ _ w4 HY4.out.2.2.2.2.2.1 HY4.out.2.2.2.1 (HY4.out.2.2.2.2.1 cn HC.out.2.1) HC.out.2.1 HN8.out.2 (by have := HZB.out; omega) (by rw [List.length_map]; have := HC.out.2.2.2.2; omega) (by have := HZB.out.1; have := HY4.out.2.2.2.2.2.1.lt; omega) (fun e => by obtain ⟨-, -, cur, h⟩ := (HY4.out.2.2.2.2.1 cn HC.out.2.1).lt e.symm; have h' : w4.heap[zo]? = _ := HY4.out.2.2.2.2.2.1; rw [h] at h'; injection h' with h'; injection h' with _ h' _; exact absurd h' (by decide)) _ (by kernel_rfl) _ (fun c a i v w h => by cases i <;> exact h) ?_
              intro tb g off rc X hR
              have hcall := WvX.call (i := i + 1) (k1 := k1 + 1) (k2 := k2 + 1) (vn := .slice (some ⟨g, off, none⟩) (((qAt r cn).2.map (·.2)).length + 1) rc) HXR.out.1 HXR.out.2.1 HC.out.2.1 HC.out.1 HC.out.2.2.1 HXR.out.2.2.1 HY4.out.2.2.2.2.1 HY4.out.2.1 (HY4.out.1.keeps hR.2.2.1 (fun e => by
                  have := HZB.out.1
                  rcases e with e | e
                  · omega
                  · have := ((HY4.out.2.2.2.2.1 cn HC.out.2.1).lt e.symm).1; omega)) hR.2.2.1 (by
                  have h := HY4.out.2.2.1.keeps hR.2.2.1 (fun e => by
                    have := HZB.out.1
                    rcases e with e | e
                    · omega
                    · have := ((HY4.out.2.2.2.2.1 cn HC.out.2.1).lt e.symm).1; omega)
                  rwa [HC.out.2.2.2.1] at h) hR.2.1 rfl hR.1 (fun g' e => by
                  have e' : some g = some g' := e
                  injection e' with e'
                  subst e'
                  exact hR.2.2.2) (by have := HZB.out.2; have := HM.out; omega)
              obtain ⟨T', hV⟩ := hcall
              have HV := Lib.hid (And.intro hV (show Below W.heap.size W X ∧ W.heap.size ≤ z ∧ z < ma ∧ ma < mq ∧ mq < X.heap.size from by
                have h7 := HY4.out.2.2.2.2.2.2.1
                have hz4 := HZB.out.1
                refine ⟨h7.trans (hR.2.2.1.below h7.size (fun k e => by
                  rcases e with e | e
                  · omega
                  · have := ((HY4.out.2.2.2.2.1 cn HC.out.2.1).lt e.symm).1; omega)), by omega, by omega, by omega, ?_⟩
                have := hR.2.2.1.size
                have := HY4.out.2.2.2.2.2.1.lt
                omega))
              clear hV hR HY HY4 HXR HZB HC
              have hwt := rwaiting_c _ _ _ _ r' X HV.out.1.rin.noS HV.out.1.rw_.good.rcr
              rw [if_pos HV.out.1.rw_.good.may, show manyQ r'.qs = ((whatsR r').length : Int) from whats_many _] at hwt
              have HWT := Lib.hid hwt
              obtain ⟨d0, d1, d2, d3, d4, d5, d6, d7⟩ := HV.out.1.box.cells
              clear hwt
              go_wp2_with fail
              all_goals
                (with_reducible refine HWT.out.mono ?_)
                rintro e w9 ⟨rfl, hb9⟩
                have hlen := (HV.out.1.map.below hb9).len
                have HN := Lib.hid (show WvI W z ma mq n (i + 1) (m + 1) w9 from ⟨⟨r', T', _, _, _, _, q1, m1, e1, q2, m2, e2, q3, m3, e3, q4, m4, e4, HV.out.1.below hb9⟩, below_then HV.out.2.1 HV.out.2.1.size hb9, ⟨HV.out.2.2.1, HV.out.2.2.2.1, HV.out.2.2.2.2.1, Nat.lt_of_lt_of_le HV.out.2.2.2.2.2 hb9.size⟩⟩)
                clear hb9 HV HWT d0 d1 d2 d3 d4 d5 d6 d7
                go_wp2
                go_roundw
                case rel => exact ⟨i + 1, (m + 1), by omega, by omega, rfl, by go_num, HN⟩
                case measure => simp [intOf]; omega
            · obtain ⟨-, hxe, -⟩ := HA.out.2.resolve_right (fun h => hE h.1)
              have hx0 : ¬ xe = 0 := fun e => hE (hxe.symm.trans e)
              have hx0' : (xe != 0) = true := by rw [bne_iff_ne]; exact hx0
              have HN := Lib.hid (show WvI W z ma mq n (i + 1) m w2 from by
                obtain ⟨h1, -, h3, -, -⟩ := HX2.out
                refine ⟨⟨r, T, st, k1, k2, F, p1, l1, c1, p2, l2, c2, p3, l3, c3, p4, l4, c4, h1.rw_, h1.len, h1.box, h1.rin, h1.map, h1.mq_, h1.rows, h1.dis, ?_⟩, h3, ?_⟩
                · have := h1.ks; omega
                · have := HX.out.2.2.2.1; have := HX2.out.2.2.2.2; have := HX2.out.2.2.2.1.lt; omega)
              clear HX HX2 HA HI hxe hx0 hE
              go_wp2
              rw [← HW2.out.1]
              go_roundw
              case rel => exact ⟨i + 1, m, by omega, by omega, rfl, by go_num, HN⟩
              case measure => simp [intOf]; omega
          · by_cases k5 : kd = 5
            · subst k5
              obtain ⟨r, T, st, k1, k2, F, p1, l1, c1, p2, l2, c2, p3, l3, c3, p4, l4, c4, hX⟩ := HI.out.ex
              have hm0 : 0 ≤ m ∧ m ≤ 150 := ⟨hX.rw_.m0, by have := hX.ks; omega⟩
              obtain ⟨zo, hzo⟩ : ∃ x, x = wr.heap.size := ⟨_, rfl⟩
              obtain ⟨xo, hxo⟩ : ∃ x : Int, x = 0 := ⟨_, rfl⟩
              obtain ⟨w0, hw0⟩ : ∃ X : World, X = wr.alloc (.cells #[.int .i64 5, .int .i64 cc, .int .u64 xo] 37) := ⟨_, rfl⟩
              have hb0 : Below wr.heap.size wr w0 := by rw [hw0]; exact below1 _ _
              have ha0 : ABox w0 zo 5 cc xo := by rw [hw0, hzo]; exact ABox.new _ _ _ _
              have hX0 := hX.below hb0
              have hkp := HI.out.kp
              have hzb := HI.out.b
              have HX := Lib.hid (show WvX z ma mq n i m r T st k1 k2 F (.slice p1 l1 c1) (.slice p2 l2 c2) (.slice p3 l3 c3) (.slice p4 l4 c4) w0 ∧ ABox w0 zo 5 cc xo ∧ Below W.heap.size W w0 ∧ (W.heap.size ≤ z ∧ z < ma ∧ ma < mq ∧ mq < zo) ∧ xo = 0 from ⟨hX0, ha0, below_then hkp hkp.size hb0, ⟨hzb.1, hzb.2.1, hzb.2.2.1, by rw [hzo]; exact hzb.2.2.2⟩, hxo⟩)
              have HS := Lib.hid (rStep_c r _ _ _ _ 5 cc xo w0 hX0.rin.noS hX0.rw_.good.rcr)
              have HM := Lib.hid hm0
              have HW := Lib.hid (show wr.alloc (.cells #[.int .i64 5, .int .i64 cc, .int .u64 0] 37) = w0 from by rw [hw0, hxo])
              have HZ := Lib.hid hzo
              obtain ⟨d0, d1, d2, d3, d4, d5, d6, d7⟩ := hX0.box.cells
              obtain ⟨a0, a1, a2⟩ := ha0.cells
              clear hX hX0 hb0 ha0 hkp hzb hm0 hw0 hxo hzo
              go_upto_region 16 with fail
              rw [HW.out, ← HZ.out]
              clear HW HZ y0 y1 y2
              go_wp2_with fail
              (with_reducible refine HS.out.mono ?_)
              rintro e w1 ⟨⟨now, u', v', d, a, on, nv', qv', xe, rfl, hA⟩, hb1⟩
              obtain ⟨⟨q1, m1, e1, rfl⟩, ⟨q2, m2, e2, rfl⟩, ⟨q3, m3, e3, rfl⟩, ⟨q4, m4, e4, rfl⟩, -⟩ := id hA.1
              obtain ⟨zn, hzn⟩ : ∃ x, x = w1.heap.size := ⟨_, rfl⟩
              obtain ⟨w2, hw2⟩ : ∃ X : World, X = w1.alloc (.cells #[.int .i64 now, .slice q1 m1 e1, .slice q2 m2 e2, .int .i64 d, .int .i64 a, .bool on, .slice q3 m3 e3, .slice q4 m4 e4] 30) := ⟨_, rfl⟩
              have hb2 : Below w0.heap.size w0 w2 := below_then hb1 hb1.size (by rw [hw2]; exact below1 _ _)
              have HX2 := Lib.hid (show WvX z ma mq n i m r T st k1 k2 F (.slice p1 l1 c1) (.slice p2 l2 c2) (.slice p3 l3 c3) (.slice p4 l4 c4) w2 ∧ ABox w2 zo 5 cc xo ∧ Below W.heap.size W w2 ∧ RcBox w2 zn now (.slice q1 m1 e1) (.slice q2 m2 e2) d a on (.slice q3 m3 e3) (.slice q4 m4 e4) ∧ zo < zn from ⟨HX.out.1.below hb2, HX.out.2.1.below hb2, below_then HX.out.2.2.1 HX.out.2.2.1.size hb2, by rw [hw2, hzn]; exact RcBox.new _ _ _ _ _ _ _ _ _, by rw [hzn]; exact Nat.lt_of_lt_of_le HX.out.2.1.lt hb1.size⟩)
              have HW2 := Lib.hid (And.intro hw2 hzn)
              have HA := Lib.hid (hA.below (show Below w1.heap.size w1 w2 by rw [hw2]; exact below1 _ _))
              clear hA hb1 hb2 hw2 hzn HS d0 d1 d2 d3 d4 d5 d6 d7 a0 a1 a2
              by_cases hE : stepAE r (5, cc, xo) = 0
              · rw [if_pos hE]
                obtain ⟨-, hxe, hnow, hd, ha, hon, hin, -⟩ := HA.out.2.resolve_left (fun h => h.1 hE)
                obtain ⟨r', hr'⟩ : ∃ r', r' = opR r (5, cc, xo) := ⟨_, rfl⟩
                rw [← hr'] at hnow hd ha hon hin
                subst hxe hnow hd ha hon
                have hop := stepAE_zero HX.out.1.rw_.good.may hE
                obtain ⟨w3, hw3⟩ : ∃ X : World, X = (((((((w2.setCell ⟨z, 0, none⟩ (.int .i64 r'.s.now)).setCell ⟨z, 1, none⟩ (.slice q1 m1 e1)).setCell ⟨z, 2, none⟩ (.slice q2 m2 e2)).setCell ⟨z, 3, none⟩ (.int .i64 r'.g.done)).setCell ⟨z, 4, none⟩ (.int .i64 r'.g.asked)).setCell ⟨z, 5, none⟩ (.bool r'.g.on)).setCell ⟨z, 6, none⟩ (.slice q3 m3 e3)).setCell ⟨z, 7, none⟩ (.slice q4 m4 e4) := ⟨_, rfl⟩
                have hk3 : Keeps (fun k => k = z) w2 w3 := by rw [hw3]; exact RcBox.putAllK w2 z _ _ _ _ _ _ _ _
                have hzz : ¬ zo = z ∧ ¬ ma = z ∧ ¬ mq = z ∧ ¬ zn = z := by have := HX.out.2.2.2.1; have := HX2.out.2.2.2.2; omega
                have HY := Lib.hid (show RcBox w3 z r'.s.now (.slice q1 m1 e1) (.slice q2 m2 e2) r'.g.done r'.g.asked r'.g.on (.slice q3 m3 e3) (.slice q4 m4 e4) ∧ RcIn (wvS z ma mq n F) w3 (.slice q1 m1 e1) (.slice q2 m2 e2) (.slice q3 m3 e3) (.slice q4 m4 e4) r' ∧ MapA w3 ma k1 (whatsR r) st ∧ MapQ w3 mq k2 n F ∧ (∀ j, j < n → PutR (mq + 1) (F j) ((qAt r j).2.map (·.2)) w3) ∧ ABox w3 zo 5 cc xo ∧ Below W.heap.size W w3 from by
                  obtain ⟨h1, h2, h3, h4, h5⟩ := HX2.out
                  have hz4 := HX.out.2.2.2.1
                  have hlt0 := HX.out.2.1.lt
                  refine ⟨by rw [hw3]; exact h1.box.putAll _ _ _ _ _ _ _ _, (hin.keeps (hk3.sub fun k _ e => by omega)).apart (fun q hq => .inl ?_), h1.map.keeps hk3 hzz.2.1, h1.mq_.keeps hk3 hzz.2.2.1, fun j hj => (h1.rows j hj).keeps hk3 (fun g hg => by have := ((h1.rows j hj).lt hg).1; omega), (hk3.block zo h2.lt hzz.1).trans h2, h3.trans (hk3.below h3.size (fun k e => by omega))⟩
                  rcases hq with h | ⟨j, hj, e⟩
                  · omega
                  · exact ((HX.out.1.rows j hj).lt e.symm).2.1)
                have HW3 := Lib.hid hw3
                have HX2c := Lib.hid (And.intro HX2.out.2.2.2.1 (And.intro HX2.out.1.box HX2.out.2.1))
                obtain ⟨hz1, -, -, hz2⟩ := hzz
                have hw2e := HW2.out.1
                have HZB := Lib.hid (And.intro HX.out.2.2.2.1 HX.out.1.ks)
                have HXR := Lib.hid (show RW r T st m ∧ r.qs.length = n ∧ (∀ j j', j < n → j' < n → j ≠ j' → ∀ g, (F j).ownBlock = some g → (F j').ownBlock ≠ some g) ∧ opE r (5, cc, xo) = 0 ∧ r' = opR r (5, cc, xo) ∧ zo < w3.heap.size from ⟨HX.out.1.rw_, HX.out.1.len, HX.out.1.dis, hop, hr', HY.out.2.2.2.2.2.1.lt⟩)
                have HH := Lib.hid HW2.out
                have HX5' := HX.out.2.2.2.2
                clear hin hop hr' hw3 hk3 HX HX2 HA HI hE hw2e HW2
                have HX5 := Lib.hid HX5'
                clear HX5'
                go_upto_region 17 with fail
                rw [← HH.out.1, ← HH.out.2]
                obtain ⟨f0, f1, f2, f3, f4, f5, f6, f7⟩ := HX2c.out.1.cells
                obtain ⟨d0, d1, d2, d3, d4, d5, d6, d7⟩ := HX2c.out.2.1.cells
                obtain ⟨a0, a1, a2⟩ := HX2c.out.2.2.cells
                have v0 := HX2c.out.2.1.marks 0
                have v1 := HX2c.out.2.1.marks 1
                have v2 := HX2c.out.2.1.marks 2
                have v3 := HX2c.out.2.1.marks 3
                have v4 := HX2c.out.2.1.marks 4
                have v5 := HX2c.out.2.1.marks 5
                have v6 := HX2c.out.2.1.marks 6
                have v7 := HX2c.out.2.1.marks 7
                clear HX2c
                have hcl : runE r cc.toNat = 0 ∧ cc.toNat < n ∧ ((cc.toNat : Nat) : Int) = cc := by
                  have h := HXR.out.2.2.2.1
                  unfold opE at h
                  rw [if_neg (by simp)] at h
                  split at h
                  · cases h
                  · rename_i hb
                    have hb : hasB r.qs.length cc = true := by cases hb' : hasB r.qs.length cc with
                      | true => rfl
                      | false => exact absurd hb' hb
                    simp at h
                    have := has_lt hb
                    exact ⟨h, by have := HXR.out.2.1; omega, this.2⟩
                obtain ⟨cn, hcn⟩ : ∃ c, c = cc.toNat := ⟨_, rfl⟩
                rw [← hcn] at hcl
                obtain ⟨hce, hcn2, rfl⟩ := hcl
                obtain ⟨c0, l0, hq0, htk, hpass, hrw⟩ := HXR.out.1.run (by have := HXR.out.2.1; omega) hce
                have hrc : r' = dropR r cn 1 := by
                  rw [HXR.out.2.2.2.2.1]
                  unfold opR
                  rw [if_neg (by simp), if_neg (by simp), if_neg (by simp), if_neg (by simp), Int.toNat_natCast]
                rw [← hrc] at hrw
                have htold : toldO r (5, (cn : Int), xo) = c0.2 := by
                  unfold toldO opW
                  rw [if_pos rfl, Int.toNat_natCast, htk]
                  rfl
                have hperm := whatsR_drop r cn (by have := HXR.out.2.1; omega) hq0
                rw [← hrc] at hperm
                have hmem : c0.2 ∈ whatsR r := hperm.mem_iff.2 (List.mem_cons_self ..)
                have hbd := whats_bound HXR.out.1 hmem
                have hnin : c0.2 ∉ whatsR r' := (List.nodup_cons.1 (hperm.nodup_iff.1 HXR.out.1.nd)).1
                have hlk := HY.out.2.2.1.look hmem (by have := HM.out; omega)
                have hrow := HY.out.2.2.2.2.1 cn hcn2
                have hrow2 := hrow
                rw [hq0, List.map_cons] at hrow2
                obtain ⟨g, off, cp, hFc, hcp1, hcp2, hcell⟩ := hrow2.first
                have hlq := HY.out.2.2.2.1.look hcn2 HN8.out.2 hrow
                rw [hFc] at hlq
                have hs' : r'.s = r.s := by rw [hrc]; rfl
                have hps := passed_c r'.s _ _ (st c0.2) w3 HY.out.2.1.nest.1 HY.out.2.1.opened.1 hrw.good.rcr.l1 hrw.good.rcr.l2 hrw.good.rcr.os
                rw [hs', hpass, ← hs'] at hps
                have HPS := Lib.hid hps
                have HC := Lib.hid (And.intro hcn2 (And.intro hq0 (And.intro hrw (And.intro hrc (And.intro hperm (And.intro hnin (And.intro hrow2 (And.intro hFc hbd))))))))
                obtain ⟨ln, hln⟩ : ∃ k, k = (l0.map (·.2)).length := ⟨_, rfl⟩
                rw [← hln] at hlq
                have HLN := Lib.hid (show ln = (l0.map (·.2)).length ∧ ln ≤ 15 from ⟨hln, by
                  obtain ⟨-, -, -, -, g5⟩ := rmay_facts HXR.out.1.good.may
                  have h16 := (U.may_parts (g5 (qAt r cn) (by rw [qAt_lt (by have := HXR.out.2.1; omega)]; exact List.getElem_mem _)).1).2.1
                  rw [hq0] at h16
                  simp at h16
                  rw [hln]; simpa using h16⟩)
                have hln0 : ¬ ((ln : Int) + 1 = 0) := by omega
                have hlnb : ln + 1 ≤ 9223372036854775807 := by have := HLN.out.2; omega
                clear hce hcn hcn2 hq0 htk hpass hrw hrc hperm hmem hbd hnin hrow hrow2 hFc hcp1 hcp2 hs' hps hln
                go_upto_region 24 with fail
                rw [← HW3.out, htold]
                clear f0 f1 f2 f3 f4 f5 f6 f7 d0 d1 d2 d3 d4 d5 d6 d7 a0 a1 a2 v0 v1 v2 v3 v4 v5 v6 v7
                clear htold
                obtain ⟨d0, d1, d2, d3, d4, d5, d6, d7⟩ := HY.out.1.cells
                obtain ⟨a0, a1, a2⟩ := HY.out.2.2.2.2.2.1.cells
                clear HW3 HH
                go_wp2_with fail
                (with_reducible refine HPS.out.mono ?_)
                rintro e w5 ⟨rfl, hb5⟩
                obtain ⟨hcn2, hq0, hrw, hrc, hperm, hnin, hrow2, hFc, hbd⟩ := HC.out
                have HY5 := Lib.hid (show RcBox w5 z r'.s.now (.slice q1 m1 e1) (.slice q2 m2 e2) r'.g.done r'.g.asked r'.g.on (.slice q3 m3 e3) (.slice q4 m4 e4) ∧ RcIn (wvS z ma mq n F) w5 (.slice q1 m1 e1) (.slice q2 m2 e2) (.slice q3 m3 e3) (.slice q4 m4 e4) r' ∧ MapA w5 ma k1 (c0.2 :: whatsR r') st ∧ MapQ w5 mq k2 n F ∧ (∀ j, j < n → PutR (mq + 1) (F j) ((qAt r j).2.map (·.2)) w5) ∧ ABox w5 zo 5 (cn : Int) xo ∧ Below W.heap.size W w5 from by
                  obtain ⟨g1, g2, g3, g4, g5, g6, g7⟩ := HY.out
                  exact ⟨g1.below hb5, g2.below hb5, (g3.below hb5).perm hperm (fun _ _ => rfl), g4.below hb5, fun j hj => (g5 j hj).below hb5, g6.below hb5, below_then g7 g7.size hb5⟩)
                have hP5 := hrow2.below hb5
                clear d0 d1 d2 d3 d4 d5 d6 d7 a0 a1 a2 hlk hlq hcell HPS HY hb5
                go_upto_region 28 with fail
                refine wt_reg28 (mq + 1) mq zo k2 n cn g off cp F c0.2 (l0.map (·.2)) 5 xo _ _ _ _ _ _ _ _ _ _ _ _ _ _ _ _ _ _ _ _ _ _ _ _ _ _ _ _ _ _ _ _ _ _ _ _ _ _ _ _ _ _ _ _ _ _ _ _ _ _ _ _ _ _ _ _ _ _ _ _ _ _ _ _ _ _ _ _ _ _ _ _ _ _ _ _ _ _ _ _ _ _ _ _ _ _ _ _ _ _ _ _ _ _ _ _ _ _ _ _ _ _ _ _ _ _ _ _ _ _ _ _ _ _ _ _ _ _ _ _ _ _ _ _ _ _ _ _ _ _ _ w5 HY5.out.2.2.2.2.2.1 HY5.out.2.2.2.1 hP5 hFc hcn2 HN8.out.2 (by have := HZB.out; omega) (by have := HZB.out; omega) _ (by kernel_rfl) _ (fun c a i v w h => by cases i <;> exact h) ?_
                intro X hR
                obtain ⟨w8, hdel, hA8, hk8⟩ := MapA.del c0.2 (HY5.out.2.2.1.keeps hR.2.2 (by have := HZB.out; omega)) hnin (by have := HM.out; omega) 0
                have hk58 : Keeps (fun k => k = mq ∨ k = ma) w5 w8 := (hR.2.2.sub fun k _ e => .inl e).trans (hk8.sub fun k _ e => .inr e)
                have hzb := HZB.out
                have HV := Lib.hid (show WvX z ma mq n (i + 1) m r' T st k1 (k2 + 1) (fun j => if j = cn then .slice (restA g off cp) (l0.map (·.2)).length (cp - 1) else F j) (.slice q1 m1 e1) (.slice q2 m2 e2) (.slice q3 m3 e3) (.slice q4 m4 e4) w8 ∧ Below W.heap.size W w8 ∧ W.heap.size ≤ z ∧ z < ma ∧ ma < mq ∧ mq < w8.heap.size from by
                  obtain ⟨g1, g2, g3, g4, g5, g6, g7⟩ := HY5.out
                  refine ⟨WvX.run hrw HXR.out.2.1 hcn2 hrc hq0 HXR.out.2.2.1 g5 g2 (g1.keeps hk58 (by omega)) hk58 (by omega) hA8 (hR.2.1.keeps hk8 (by omega)) rfl (hR.1.keeps hk8 (fun g' e => by have := (hR.1.lt e).1; omega)) (fun g' e => ?_) (by omega), g7.trans (hk58.below g7.size (fun k e => by omega)), by omega, by omega, by omega, by have := hk58.size; have := g6.lt; omega⟩
                  rw [hFc]
                  unfold restA at e
                  split at e <;> exact e.symm)
                clear hA8 hk8 hk58 hzb HY5 hP5 hR hcn2 hq0 hrw hrc hperm hnin hrow2 hFc hbd HC HXR HZB
                go_upto_region 30 with fail
                clear hdel
                have hwt := rwaiting_c _ _ _ _ r' w8 HV.out.1.rin.noS HV.out.1.rw_.good.rcr
                rw [if_pos HV.out.1.rw_.good.may, show manyQ r'.qs = ((whatsR r').length : Int) from whats_many _] at hwt
                have HWT := Lib.hid hwt
                obtain ⟨d0, d1, d2, d3, d4, d5, d6, d7⟩ := HV.out.1.box.cells
                clear hwt
                go_wp2_with fail
                all_goals
                  (with_reducible refine HWT.out.mono ?_)
                  rintro e w9 ⟨rfl, hb9⟩
                  have hlen := (HV.out.1.map.below hb9).len
                  have HN := Lib.hid (show WvI W z ma mq n (i + 1) m w9 from ⟨⟨r', _, _, _, _, _, q1, m1, e1, q2, m2, e2, q3, m3, e3, q4, m4, e4, HV.out.1.below hb9⟩, below_then HV.out.2.1 HV.out.2.1.size hb9, ⟨HV.out.2.2.1, HV.out.2.2.2.1, HV.out.2.2.2.2.1, Nat.lt_of_lt_of_le HV.out.2.2.2.2.2 hb9.size⟩⟩)
                  clear hb9 HV HWT d0 d1 d2 d3 d4 d5 d6 d7
                  go_wp2
                  go_roundw
                  case rel => exact ⟨i + 1, m, by omega, by omega, rfl, by go_num, HN⟩
                  case measure => simp [intOf]; omega
              · obtain ⟨-, hxe, -⟩ := HA.out.2.resolve_right (fun h => hE h.1)
                have hx0 : ¬ xe = 0 := fun e => hE (hxe.symm.trans e)
                have hx0' : (xe != 0) = true := by rw [bne_iff_ne]; exact hx0
                have HN := Lib.hid (show WvI W z ma mq n (i + 1) m w2 from by
                  obtain ⟨h1, -, h3, -, -⟩ := HX2.out
                  refine ⟨⟨r, T, st, k1, k2, F, p1, l1, c1, p2, l2, c2, p3, l3, c3, p4, l4, c4, h1.rw_, h1.len, h1.box, h1.rin, h1.map, h1.mq_, h1.rows, h1.dis, ?_⟩, h3, ?_⟩
                  · have := h1.ks; omega
                  · have := HX.out.2.2.2.1; have := HX2.out.2.2.2.2; have := HX2.out.2.2.2.1.lt; omega)
                clear HX HX2 HA HI hxe hx0 hE
                go_wp2
                rw [← HW2.out.1]
                go_roundw
                case rel => exact ⟨i + 1, m, by omega, by omega, rfl, by go_num, HN⟩
                case measure => simp [intOf]; omega
            · obtain ⟨r, T, st, k1, k2, F, p1, l1, c1, p2, l2, c2, p3, l3, c3, p4, l4, c4, hX⟩ := HI.out.ex
              have hm0 : 0 ≤ m ∧ m ≤ 150 := ⟨hX.rw_.m0, by have := hX.ks; omega⟩
              obtain ⟨zo, hzo⟩ : ∃ x, x = wr.heap.size := ⟨_, rfl⟩
              obtain ⟨xo, hxo⟩ : ∃ x : Int, x = 0 := ⟨_, rfl⟩
              obtain ⟨w0, hw0⟩ : ∃ X : World, X = wr.alloc (.cells #[.int .i64 kd, .int .i64 cc, .int .u64 xo] 37) := ⟨_, rfl⟩
              have hb0 : Below wr.heap.size wr w0 := by rw [hw0]; exact below1 _ _
              have ha0 : ABox w0 zo kd cc xo := by rw [hw0, hzo]; exact ABox.new _ _ _ _
              have hX0 := hX.below hb0
              have hkp := HI.out.kp
              have hzb := HI.out.b
              have HX := Lib.hid (show WvX z ma mq n i m r T st k1 k2 F (.slice p1 l1 c1) (.slice p2 l2 c2) (.slice p3 l3 c3) (.slice p4 l4 c4) w0 ∧ ABox w0 zo kd cc xo ∧ Below W.heap.size W w0 ∧ (W.heap.size ≤ z ∧ z < ma ∧ ma < mq ∧ mq < zo) ∧ xo = 0 from ⟨hX0, ha0, below_then hkp hkp.size hb0, ⟨hzb.1, hzb.2.1, hzb.2.2.1, by rw [hzo]; exact hzb.2.2.2⟩, hxo⟩)
              have HS := Lib.hid (rStep_c r _ _ _ _ kd cc xo w0 hX0.rin.noS hX0.rw_.good.rcr)
              have HM := Lib.hid hm0
              have HW := Lib.hid (show wr.alloc (.cells #[.int .i64 kd, .int .i64 cc, .int .u64 0] 37) = w0 from by rw [hw0, hxo])
              have HZ := Lib.hid hzo
              obtain ⟨d0, d1, d2, d3, d4, d5, d6, d7⟩ := hX0.box.cells
              obtain ⟨a0, a1, a2⟩ := ha0.cells
              clear hX hX0 hb0 ha0 hkp hzb hm0 hw0 hxo hzo
              go_upto_region 16 with fail
              rw [HW.out, ← HZ.out]
              clear HW HZ y0 y1 y2
              go_wp2_with fail
              (with_reducible refine HS.out.mono ?_)
              rintro e w1 ⟨⟨now, u', v', d, a, on, nv', qv', xe, rfl, hA⟩, hb1⟩
              obtain ⟨⟨q1, m1, e1, rfl⟩, ⟨q2, m2, e2, rfl⟩, ⟨q3, m3, e3, rfl⟩, ⟨q4, m4, e4, rfl⟩, -⟩ := id hA.1
              obtain ⟨zn, hzn⟩ : ∃ x, x = w1.heap.size := ⟨_, rfl⟩
              obtain ⟨w2, hw2⟩ : ∃ X : World, X = w1.alloc (.cells #[.int .i64 now, .slice q1 m1 e1, .slice q2 m2 e2, .int .i64 d, .int .i64 a, .bool on, .slice q3 m3 e3, .slice q4 m4 e4] 30) := ⟨_, rfl⟩
              have hb2 : Below w0.heap.size w0 w2 := below_then hb1 hb1.size (by rw [hw2]; exact below1 _ _)
              have HX2 := Lib.hid (show WvX z ma mq n i m r T st k1 k2 F (.slice p1 l1 c1) (.slice p2 l2 c2) (.slice p3 l3 c3) (.slice p4 l4 c4) w2 ∧ ABox w2 zo kd cc xo ∧ Below W.heap.size W w2 ∧ RcBox w2 zn now (.slice q1 m1 e1) (.slice q2 m2 e2) d a on (.slice q3 m3 e3) (.slice q4 m4 e4) ∧ zo < zn from ⟨HX.out.1.below hb2, HX.out.2.1.below hb2, below_then HX.out.2.2.1 HX.out.2.2.1.size hb2, by rw [hw2, hzn]; exact RcBox.new _ _ _ _ _ _ _ _ _, by rw [hzn]; exact Nat.lt_of_lt_of_le HX.out.2.1.lt hb1.size⟩)
              have HW2 := Lib.hid (And.intro hw2 hzn)
              have HA := Lib.hid (hA.below (show Below w1.heap.size w1 w2 by rw [hw2]; exact below1 _ _))
              clear hA hb1 hb2 hw2 hzn HS d0 d1 d2 d3 d4 d5 d6 d7 a0 a1 a2
              by_cases hE : stepAE r (kd, cc, xo) = 0
              · rw [if_pos hE]
                obtain ⟨-, hxe, hnow, hd, ha, hon, hin, -⟩ := HA.out.2.resolve_left (fun h => h.1 hE)
                obtain ⟨r', hr'⟩ : ∃ r', r' = opR r (kd, cc, xo) := ⟨_, rfl⟩
                rw [← hr'] at hnow hd ha hon hin
                subst hxe hnow hd ha hon
                have hop := stepAE_zero HX.out.1.rw_.good.may hE
                obtain ⟨w3, hw3⟩ : ∃ X : World, X = (((((((w2.setCell ⟨z, 0, none⟩ (.int .i64 r'.s.now)).setCell ⟨z, 1, none⟩ (.slice q1 m1 e1)).setCell ⟨z, 2, none⟩ (.slice q2 m2 e2)).setCell ⟨z, 3, none⟩ (.int .i64 r'.g.done)).setCell ⟨z, 4, none⟩ (.int .i64 r'.g.asked)).setCell ⟨z, 5, none⟩ (.bool r'.g.on)).setCell ⟨z, 6, none⟩ (.slice q3 m3 e3)).setCell ⟨z, 7, none⟩ (.slice q4 m4 e4) := ⟨_, rfl⟩
                have hk3 : Keeps (fun k => k = z) w2 w3 := by rw [hw3]; exact RcBox.putAllK w2 z _ _ _ _ _ _ _ _
                have hzz : ¬ zo = z ∧ ¬ ma = z ∧ ¬ mq = z ∧ ¬ zn = z := by have := HX.out.2.2.2.1; have := HX2.out.2.2.2.2; omega
                have HY := Lib.hid (show RcBox w3 z r'.s.now (.slice q1 m1 e1) (.slice q2 m2 e2) r'.g.done r'.g.asked r'.g.on (.slice q3 m3 e3) (.slice q4 m4 e4) ∧ RcIn (wvS z ma mq n F) w3 (.slice q1 m1 e1) (.slice q2 m2 e2) (.slice q3 m3 e3) (.slice q4 m4 e4) r' ∧ MapA w3 ma k1 (whatsR r) st ∧ MapQ w3 mq k2 n F ∧ (∀ j, j < n → PutR (mq + 1) (F j) ((qAt r j).2.map (·.2)) w3) ∧ ABox w3 zo kd cc xo ∧ Below W.heap.size W w3 from by
                  obtain ⟨h1, h2, h3, h4, h5⟩ := HX2.out
                  have hz4 := HX.out.2.2.2.1
                  have hlt0 := HX.out.2.1.lt
                  refine ⟨by rw [hw3]; exact h1.box.putAll _ _ _ _ _ _ _ _, (hin.keeps (hk3.sub fun k _ e => by omega)).apart (fun q hq => .inl ?_), h1.map.keeps hk3 hzz.2.1, h1.mq_.keeps hk3 hzz.2.2.1, fun j hj => (h1.rows j hj).keeps hk3 (fun g hg => by have := ((h1.rows j hj).lt hg).1; omega), (hk3.block zo h2.lt hzz.1).trans h2, h3.trans (hk3.below h3.size (fun k e => by omega))⟩
                  rcases hq with h | ⟨j, hj, e⟩
                  · omega
                  · exact ((HX.out.1.rows j hj).lt e.symm).2.1)
                have HW3 := Lib.hid hw3
                have HX2c := Lib.hid (And.intro HX2.out.2.2.2.1 (And.intro HX2.out.1.box HX2.out.2.1))
                obtain ⟨hz1, -, -, hz2⟩ := hzz
                have hw2e := HW2.out.1
                have HZB := Lib.hid (And.intro HX.out.2.2.2.1 HX.out.1.ks)
                have HXR := Lib.hid (show RW r T st m ∧ r.qs.length = n ∧ (∀ j j', j < n → j' < n → j ≠ j' → ∀ g, (F j).ownBlock = some g → (F j').ownBlock ≠ some g) ∧ opE r (kd, cc, xo) = 0 ∧ r' = opR r (kd, cc, xo) ∧ zo < w3.heap.size from ⟨HX.out.1.rw_, HX.out.1.len, HX.out.1.dis, hop, hr', HY.out.2.2.2.2.2.1.lt⟩)
                have HH := Lib.hid HW2.out
                have HX5' := HX.out.2.2.2.2
                clear hin hop hr' hw3 hk3 HX HX2 HA HI hE hw2e HW2
                have HX5 := Lib.hid HX5'
                clear HX5'
                go_upto_region 17 with fail
                rw [← HH.out.1, ← HH.out.2]
                obtain ⟨f0, f1, f2, f3, f4, f5, f6, f7⟩ := HX2c.out.1.cells
                obtain ⟨d0, d1, d2, d3, d4, d5, d6, d7⟩ := HX2c.out.2.1.cells
                obtain ⟨a0, a1, a2⟩ := HX2c.out.2.2.cells
                have v0 := HX2c.out.2.1.marks 0
                have v1 := HX2c.out.2.1.marks 1
                have v2 := HX2c.out.2.1.marks 2
                have v3 := HX2c.out.2.1.marks 3
                have v4 := HX2c.out.2.1.marks 4
                have v5 := HX2c.out.2.1.marks 5
                have v6 := HX2c.out.2.1.marks 6
                have v7 := HX2c.out.2.1.marks 7
                clear HX2c
                obtain ⟨b1, b2, b3, b4⟩ := HXR.out.1.other HXR.out.2.2.2.1 k3 k5
                rw [← HXR.out.2.2.2.2.1] at b1 b2 b3 b4
                have HV := Lib.hid (show WvX z ma mq n (i + 1) m r' T st k1 k2 F (.slice q1 m1 e1) (.slice q2 m2 e2) (.slice q3 m3 e3) (.slice q4 m4 e4) w3 ∧ Below W.heap.size W w3 ∧ W.heap.size ≤ z ∧ z < ma ∧ ma < mq ∧ mq < w3.heap.size from by
                  obtain ⟨g1, g2, g3, g4, g5, g6, g7⟩ := HY.out
                  have hz4 := HZB.out
                  refine ⟨⟨b1, b3.trans HXR.out.2.1, g1, g2, by rw [b2]; exact g3, g4, fun j hj => by rw [b4 j (by have := HXR.out.2.1; omega)]; exact g5 j hj, HXR.out.2.2.1, by omega⟩, g7, by omega, by omega, by omega, by have := HXR.out.2.2.2.2.2; omega⟩)
                clear b1 b2 b3 b4 HY HXR HZB
                go_upto_region 30 with fail
                rw [← HW3.out]
                clear HH HW3
                clear f0 f1 f2 f3 f4 f5 f6 f7 d0 d1 d2 d3 d4 d5 d6 d7 a0 a1 a2 v0 v1 v2 v3 v4 v5 v6 v7
                have hwt := rwaiting_c _ _ _ _ r' w3 HV.out.1.rin.noS HV.out.1.rw_.good.rcr
                rw [if_pos HV.out.1.rw_.good.may, show manyQ r'.qs = ((whatsR r').length : Int) from whats_many _] at hwt
                have HWT := Lib.hid hwt
                obtain ⟨d0, d1, d2, d3, d4, d5, d6, d7⟩ := HV.out.1.box.cells
                clear hwt
                go_wp2_with fail
                all_goals
                  (with_reducible refine HWT.out.mono ?_)
                  rintro e w9 ⟨rfl, hb9⟩
                  have hlen := (HV.out.1.map.below hb9).len
                  have HN := Lib.hid (show WvI W z ma mq n (i + 1) m w9 from ⟨⟨r', T, st, k1, k2, F, q1, m1, e1, q2, m2, e2, q3, m3, e3, q4, m4, e4, HV.out.1.below hb9⟩, below_then HV.out.2.1 HV.out.2.1.size hb9, ⟨HV.out.2.2.1, HV.out.2.2.2.1, HV.out.2.2.2.2.1, Nat.lt_of_lt_of_le HV.out.2.2.2.2.2 hb9.size⟩⟩)
                  clear hb9 HV HWT d0 d1 d2 d3 d4 d5 d6 d7
                  go_wp2
                  go_roundw
                  case rel => exact ⟨i + 1, m, by omega, by omega, rfl, by go_num, HN⟩
                  case measure => simp [intOf]; omega
              · obtain ⟨-, hxe, -⟩ := HA.out.2.resolve_right (fun h => hE h.1)
                have hx0 : ¬ xe = 0 := fun e => hE (hxe.symm.trans e)
                have hx0' : (xe != 0) = true := by rw [bne_iff_ne]; exact hx0
                have HN := Lib.hid (show WvI W z ma mq n (i + 1) m w2 from by
                  obtain ⟨h1, -, h3, -, -⟩ := HX2.out
                  refine ⟨⟨r, T, st, k1, k2, F, p1, l1, c1, p2, l2, c2, p3, l3, c3, p4, l4, c4, h1.rw_, h1.len, h1.box, h1.rin, h1.map, h1.mq_, h1.rows, h1.dis, ?_⟩, h3, ?_⟩
                  · have := h1.ks; omega
                  · have := HX.out.2.2.2.1; have := HX2.out.2.2.2.2; have := HX2.out.2.2.2.1.lt; omega)
                clear HX HX2 HA HI hxe hx0 hE
                go_wp2
                rw [← HW2.out.1]
                go_roundw
                case rel => exact ⟨i + 1, m, by omega, by omega, rfl, by go_num, HN⟩
                case measure => simp [intOf]; omega
      · go_wp2
        go_meet
        exact ⟨i, m, rfl, HI⟩
  case rest =>
    obtain ⟨i, m, rfl, HI⟩ := hcut
    obtain ⟨r, T, st, k1, k2, F, p1, l1, c1, p2, l2, c2, p3, l3, c3, p4, l4, c4, hX⟩ := HI.out.ex
    have HX := Lib.hid hX
    have hc := rcheck_c _ _ _ _ r wc (hX.rin.noS) hX.rw_.good.rcr
    rw [if_pos hX.rw_.good.may] at hc
    have HC := Lib.hid hc
    obtain ⟨d0, d1, d2, d3, d4, d5, d6, d7⟩ := hX.box.cells
    clear hX hc
    go_wp2_with fail
    (with_reducible refine HC.out.mono ?_)
    rintro e w5 ⟨rfl, hb5⟩
    have HB := Lib.hid (below_then HI.out.kp HI.out.kp.size hb5)
    clear hb5 HC HX HI d0 d1 d2 d3 d4 d5 d6 d7
    go_wp2
    go_ret
    exact ⟨rfl, HB.out⟩


end Go.Proofs.YtdllhiihmpinoaaGreat
namespace Go.Proofs.YtdllhiihmpinoaaGreat
open Go.RowKit Go.Shelf
open Go.ChangeShapes Go.WideShapes Go.ChangeAt Go.Deep
open Go.ChangeMaps (open_string shut_string)

set_option maxRecDepth 100000 in
theorem rcuWaits_lifted (os : Os) (started : os.Started) (H : Type) (enc : TypeId × Value → H) :
    ReturnsInHanded {} Tryz.checked os 5 .any (Rows.rcuWaitsSpec.pre6 enc Tryz.prog Tryz.f5 Rows.rcuWaitsRow.domain false) (Rows.rcuWaitsSpec.post enc Tryz.prog Tryz.f5 false true false false) := by
  refine returnsInHanded_of_change (C := Tryz.checked) own started (by kernel_rfl) Tryz.func5
    (ChangeSpec.witness6 (enc := enc) (C := Tryz.checked) false ⟨#[], #[.int .i64 0, .slice none 0 0], []⟩ 8 (by kernel_rfl) (by kernel_rfl) (by kernel_rfl) (by kernel_rfl)) ?_
  intro W base args ds gs before hval0 hW hcnd _
  have hval : ∀ (j : Nat) t v, Tryz.f5.params[j]? = some t → args[j]? = some v → Value.okWide Tryz.prog W .any base t v := hval0
  have hW' := hW
  obtain ⟨p, q, hA0, hV, rfl, hfz, hnd⟩ := hW
  have hA : DataW.TrodAll enc Tryz.prog W 0 (fun _ => true) true Tryz.f5.params.toList args.toList ds p := hA0
  rw [Tryz.params5] at hA hval
  have hA2 := hA
  obtain ⟨v0, vs0, d0, ds0, pp0, qq0, hargs, rfl, rfl, h0, r0⟩ := trodAll_cons hA
  obtain ⟨v1, vs1, d1, ds1, pp1, qq1, rfl, rfl, rfl, h1, r1⟩ := trodAll_cons r0
  obtain ⟨rfl, rfl, rfl⟩ := trodAll_nil r1
  obtain rfl : args = #[v0, v1] := by cases args; simp_all
  obtain ⟨rfl, rfl⟩ := trodVars_none hV
  obtain ⟨a0, rfl, rfl, rfl, w0⟩ := open_int Tryz.underlying3 (hval 0 3 v0 rfl rfl) h0
  obtain ⟨x1, a1, l1⟩ := ops_open h1 (okWide_slice Tryz.underlying31 (hval 1 31 v1 rfl rfl))
  clear hA0 hval0
  simp only [List.append_nil] at hW'
  refine (rcuWaits_c a0 v1 x1 W a1 l1).mono fun e W' ⟨he, hb⟩ => ?_
  subst he
  exact ⟨_, rfl, _, _, _, [], _, [], hW', trodAll_cons_mk (shut_bool Tryz.underlying4 _) trodAll_mk0, trodAll_stays laidOut hb (by kernel_rfl) hA2 (fun x hx => by simpa using hW'.lt x (by simpa using hx)), rfl, hb.frame _, fun h => by cases h⟩

theorem rcuWaits_holds : Rows.RcuWaitsSaid :=
  OpenClaim.holds_of_wide 5 Tryz.f5 rfl rfl rfl rfl rfl rfl rfl ⟨rfl, rfl, rfl, rfl, rfl⟩ rfl rfl rfl rfl rfl (by kernel_rfl) Tryz.func5 (by kernel_rfl)
    (of_decide_eq_true (by kernel_rfl)) (by unfold Func.isWrapper; first | (rw [if_pos (by decide +kernel)]; kernel_rfl) | (rw [if_neg (by decide +kernel)]; exact ⟨rfl, rfl⟩))
    (fun os started H enc _ => rcuWaits_lifted os started H enc)

end Go.Proofs.YtdllhiihmpinoaaGreat
