/-
  Opening an argument of layer 14: an Rcu.
  Conditions: none.
-/
import Derived.Test.YtdpkfahaojhkhaaGreatVA14
import Derived.Test.YtdpkfahaojhkhaaGreatVA15
import Derived.Test.YtdpkfahaojhkhaaGreatVA16
import Derived.Test.YtdpkfahaojhkhaaGreatVA4
import Derived.Test.YtdpkfahaojhkhaaGreatVA1
import Derived.Lib.SmallJoins
import Derived.Laws.IdiomArrays
import Derived.Deep.Grids
/-
  The first test of the statements of layer 14: it answers true.
  Conditions: none.
-/
namespace Go.Proofs.YtdpkfahaojhkhaaGreat
set_option maxRecDepth 100000
open Go.RowKit Go.Shelf
attribute [local go_sem] Oper.semAt_some


set_option maxHeartbeats 64000000 in
theorem wakes_c (W : World) : Calls Tryz.prog 8 #[] W fun e w' => e = .returned (.bool true) ∧ Below W.heap.size W w' := by
  have HN := Lib.hid (show Calls Tryz.prog 21 #[.int .i64 2] W fun e w' => NewQ W.heap.size 2 e w' ∧ Below W.heap.size W w' from rNew_c 2 (by omega) (by omega) W)
  obtain ⟨r0, hr0⟩ : ∃ r0, r0 = rNew 2 := ⟨_, rfl⟩
  obtain ⟨r2, hr2⟩ : ∃ r2, r2 = opsR (rNew 2) wkL2 := ⟨_, rfl⟩
  obtain ⟨rS, hrS⟩ : ∃ rS, rS = wkS := ⟨_, rfl⟩
  obtain ⟨r5, hr5⟩ : ∃ r5, r5 = opsR wkS wkL5 := ⟨_, rfl⟩
  have HE2 := Lib.hid (show RcR r0 ∧ runAE r0 wkL2 = 0 ∧ opsR r0 wkL2 = r2 ∧ opsW r0 wkL2 = [7] from by rw [hr0, hr2]; exact ⟨wk_good0.rcr, wk_e2, rfl, wk_w2⟩)
  have HE3 := Lib.hid (show runAE r0 wkL3 = 0 ∧ opsR r0 wkL3 = rS ∧ (if rmayB rS = true then manyQ rS.qs else 0) = 1 ∧ (rmayB r0 && idleB r0) = true ∧ (rmayB rS && idleB rS) = false from by rw [hr0, hrS]; exact ⟨wk_e3, rfl, wk_many, wk_idle0, wk_idleS⟩)
  have HE4 := Lib.hid (show RcR rS ∧ stepAE rS (5, 0, 0) = 4 ∧ rmayB rS = true ∧ openB rS.s = true from by rw [hrS]; exact ⟨wk_goodS.rcr, wk_e4, wk_open.1, wk_open.2⟩)
  have HE5 := Lib.hid (show runAE rS wkL5 = 0 ∧ opsR rS wkL5 = r5 ∧ opsW rS wkL5 = [7] from by rw [hrS, hr5]; exact ⟨wk_e5, rfl, wk_w5⟩)
  obtain ⟨w3s, hw3s⟩ : ∃ w3s, w3s = opsW r0 wkL3 := ⟨_, rfl⟩
  have HW3 := Lib.hid hw3s.symm
  have HR0 := Lib.hid hr0
  clear hr0 hr2 hrS hr5 hw3s
  go_enter Tryz.func8, Tryz.ntmps8
  go_wp2_with fail
  (with_reducible refine HN.out.mono ?_)
  rintro e w1 ⟨⟨u, v, nv, qv, rfl, ⟨⟨p1, pn1, pc1, rfl⟩, ⟨p2, pn2, pc2, rfl⟩, ⟨p3, pn3, pc3, rfl⟩, ⟨p4, pn4, pc4, rfl⟩⟩, hin⟩, hb1⟩
  obtain ⟨wA, hwA⟩ : ∃ X : World, X = w1.alloc (.cells #[.int .i64 0, .slice p1 pn1 pc1, .slice p2 pn2 pc2, .int .i64 0, .int .i64 0, .bool false, .slice p3 pn3 pc3, .slice p4 pn4 pc4] 30) := ⟨_, rfl⟩
  have hbA : Below w1.heap.size w1 wA := by rw [hwA]; exact below1 _ _
  obtain ⟨b, hbe⟩ : ∃ b, b = w1.heap.size := ⟨_, rfl⟩
  have HBA := Lib.hid (show WkA b r0 (.slice p1 pn1 pc1) (.slice p2 pn2 pc2) (.slice p3 pn3 pc3) (.slice p4 pn4 pc4) wA from by
    rw [HR0.out]
    exact ⟨by rw [hwA, hbe]; exact RcBox.new w1 _ _ _ _ _ _ _ _, hin.noS.below hbA⟩)
  have HWB := Lib.hid (show Below W.heap.size W wA from below_then hb1 hb1.size hbA)
  have HWA := Lib.hid (And.intro hwA hbe)
  clear hwA hbe hbA hin hb1 HN HR0
  go_upto_region 2 with fail
  rw [← HWA.out.1, ← HWA.out.2]
  clear HWA
  refine wk_reg2 b r0 p1 pn1 pc1 p2 pn2 pc2 p3 pn3 pc3 p4 pn4 pc4 _ _ _ _ _ _ wA HBA.out HE2.out.1 r2 [7] HE2.out.2.1 HE2.out.2.2.1 HE2.out.2.2.2 _ (by kernel_rfl) _ (fun c a i v w h => by cases i <;> exact h) ?_
  intro za tba q1 qn1 qc1 q2 qn2 qc2 q3 qn3 qc3 q4 qn4 qc4 q5 qn5 qc5 wB hF2
  have HBB := Lib.hid (HBA.out.below hF2.2.2.2)
  have HL := Lib.hid (show NumsAt wB .u64 (.slice q5 qn5 qc5) [7] from nums_of_owns rfl hF2.2.2.1)
  have HWB2 := Lib.hid (below_then HWB.out HWB.out.size hF2.2.2.2)
  clear hF2 HBA HWB
  go_upto_region 3 with fail
  refine wk_reg3 b r0 p1 pn1 pc1 p2 pn2 pc2 p3 pn3 pc3 p4 pn4 pc4 _ _ _ _ _ _ _ _ _ _ _ _ _ _ _ _ _ _ _ _ _ wB HBB.out HE2.out.1 rS w3s HE3.out.1 HE3.out.2.1 HW3.out _ (by kernel_rfl) _ (fun c a i v w h => by cases i <;> exact h) ?_
  intro zb tbb s1 sn1 sc1 s2 sn2 sc2 s3 sn3 sc3 s4 sn4 sc4 s5 sn5 sc5 wC hF3
  have HBC := Lib.hid (HBB.out.below hF3.2.2.2)
  have HSC := Lib.hid (show WkA zb rS (.slice s1 sn1 sc1) (.slice s2 sn2 sc2) (.slice s3 sn3 sc3) (.slice s4 sn4 sc4) wC from ⟨hF3.1, hF3.2.1⟩)
  have HLC := Lib.hid (nums_below HL.out hF3.2.2.2)
  have HWC := Lib.hid (below_then HWB2.out HWB2.out.size hF3.2.2.2)
  clear hF3 HBB HL HWB2
  go_upto_region 4 with fail
  refine wk_reg4 zb rS s1 sn1 sc1 s2 sn2 sc2 s3 sn3 sc3 s4 sn4 sc4 _ _ _ _ _ _ _ _ _ _ _ _ _ _ _ _ _ _ _ _ _ _ _ _ _ _ _ _ _ _ _ _ _ _ _ _ wC HSC.out HE4.out.1 HE4.out.2.1 _ (by kernel_rfl) _ (fun c a i v w h => by cases i <;> exact h) ?_
  intro zc wD hF4
  have HBD := Lib.hid (HBC.out.below hF4)
  have HSD := Lib.hid (HSC.out.below hF4)
  have HLD := Lib.hid (nums_below HLC.out hF4)
  have HWD := Lib.hid (below_then HWC.out HWC.out.size hF4)
  clear hF4 HBC HSC HLC HWC
  go_upto_region 5 with fail
  refine wk_reg5 zb rS s1 sn1 sc1 s2 sn2 sc2 s3 sn3 sc3 s4 sn4 sc4 _ _ _ _ _ _ _ _ _ _ _ _ _ _ _ _ _ _ _ _ _ _ _ _ _ _ _ _ _ _ _ _ _ _ _ _ _ _ _ _ _ _ _ _ _ _ wD HSD.out HE4.out.1 r5 [7] HE5.out.1 HE5.out.2.1 HE5.out.2.2 _ (by kernel_rfl) _ (fun c a i v w h => by cases i <;> exact h) ?_
  intro zd tbd t1 tn1 tc1 t2 tn2 tc2 t3 tn3 tc3 t4 tn4 tc4 t5 tn5 tc5 wE hF5
  have HBE := Lib.hid (HBD.out.below hF5.2.2.2)
  have HSE := Lib.hid (HSD.out.below hF5.2.2.2)
  have HLE := Lib.hid (nums_below HLD.out hF5.2.2.2)
  have HME := Lib.hid (show NumsAt wE .u64 (.slice t5 tn5 tc5) [7] from nums_of_owns rfl hF5.2.2.1)
  have HWE := Lib.hid (below_then HWD.out HWD.out.size hF5.2.2.2)
  clear hF5 HBD HSD HLD HWD
  have HST := Lib.hid (rSettle_c 241 rS [] rS (.slice s1 sn1 sc1) (.slice s2 sn2 sc2) (.slice s3 sn3 sc3) (.slice s4 sn4 sc4) wE HSE.out.2 (fun z rb W0 kb hz hrb hrz hi => set1_open rS _ _ _ _ HE4.out.1 HE4.out.2.2.1 HE4.out.2.2.2 z rb W0 kb hz hrb hrz hi rS []))
  obtain ⟨d0, d1, d2, d3, d4, d5, d6, d7⟩ := HSE.out.1.cells
  go_wp2_with fail
  (with_reducible refine HST.out.mono ?_)
  rintro e w6 ⟨⟨now, u, v, d, a, on, nv, qv, lv, x, rfl, hA⟩, hb6⟩
  obtain ⟨-, hx, hnow, hu, hv, hd, ha, hon, hnv, hqv, hlv⟩ := hA.2.resolve_right (fun h => absurd h.1 (by decide))
  clear hA
  subst hx hnow hu hv hd ha hon hnv hqv hlv
  unfold nilV
  obtain ⟨w7, hw7⟩ : ∃ X : World, X = w6.alloc (.cells #[.int .i64 0, .slice none 0 0, .slice none 0 0, .int .i64 0, .int .i64 0, .bool false, .slice none 0 0, .slice none 0 0] 30) := ⟨_, rfl⟩
  have hb7 : Below wE.heap.size wE w7 := below_then hb6 hb6.size (by rw [hw7]; exact below1 _ _)
  obtain ⟨w8, hw8⟩ : ∃ X : World, X = w7.alloc (.cells #[.int .u64 7] 35) := ⟨_, rfl⟩
  have hb8 : Below wE.heap.size wE w8 := below_then hb7 hb7.size (by rw [hw8]; exact below1 _ _)
  have hlit : NumsAt w8 .u64 (.slice (some ⟨w7.heap.size, 0, none⟩) 1 1) [7] := by
    refine ⟨_, _, rfl, fun _ => ⟨_, 0, rfl, fun i hi => ?_⟩⟩
    rw [hw8]
    have hi : i < 1 := hi
    obtain rfl : i = 0 := by omega
    simp
  have hc := U.equalW_c (.slice q5 qn5 qc5) (.slice (some ⟨w7.heap.size, 0, none⟩) 1 1) [7] [7] w8 (nums_below HLE.out hb8) hlit (by decide) (by decide)
  rw [decide_eq_true (rfl : ([7] : List Int) = [7]), show w7.heap.size = w6.heap.size + 1 by rw [hw7]; simp] at hc
  have HC := Lib.hid hc
  have HP := Lib.hid (show WkA b r0 (.slice p1 pn1 pc1) (.slice p2 pn2 pc2) (.slice p3 pn3 pc3) (.slice p4 pn4 pc4) w8 ∧ WkA zb rS (.slice s1 sn1 sc1) (.slice s2 sn2 sc2) (.slice s3 sn3 sc3) (.slice s4 sn4 sc4) w8 ∧ NumsAt w8 .u64 (.slice q5 qn5 qc5) [7] ∧ NumsAt w8 .u64 (.slice t5 tn5 tc5) [7] ∧ Below W.heap.size W w8 from ⟨HBE.out.below hb8, HSE.out.below hb8, nums_below HLE.out hb8, nums_below HME.out hb8, below_then HWE.out HWE.out.size hb8⟩)
  have HW := Lib.hid (And.intro hw7 hw8)
  clear hw7 hw8 hb6 hb7 hb8 hlit hc HBE HSE HLE HME HWE HST d0 d1 d2 d3 d4 d5 d6 d7
  go_wp2_with fail
  rw [← HW.out.1, ← HW.out.2]
  clear HW
  (with_reducible refine HC.out.mono ?_)
  rintro e w9 ⟨rfl, hb9⟩
  have HP9 := Lib.hid (show WkA b r0 (.slice p1 pn1 pc1) (.slice p2 pn2 pc2) (.slice p3 pn3 pc3) (.slice p4 pn4 pc4) w9 ∧ WkA zb rS (.slice s1 sn1 sc1) (.slice s2 sn2 sc2) (.slice s3 sn3 sc3) (.slice s4 sn4 sc4) w9 ∧ Below W.heap.size W w9 from ⟨HP.out.1.below hb9, HP.out.2.1.below hb9, below_then HP.out.2.2.2.2 HP.out.2.2.2.2.size hb9⟩)
  have hc := U.equalW_c (.slice t5 tn5 tc5) (.slice q5 qn5 qc5) [7] [7] w9 (nums_below HP.out.2.2.2.1 hb9) (nums_below HP.out.2.2.1 hb9) (by decide) (by decide)
  rw [decide_eq_true (rfl : ([7] : List Int) = [7])] at hc
  have HC9 := Lib.hid hc
  clear hc hb9 HP HC
  go_wp2_with fail
  (with_reducible refine HC9.out.mono ?_)
  rintro e w10 ⟨rfl, hb10⟩
  have HP10 := Lib.hid (show WkA b r0 (.slice p1 pn1 pc1) (.slice p2 pn2 pc2) (.slice p3 pn3 pc3) (.slice p4 pn4 pc4) w10 ∧ WkA zb rS (.slice s1 sn1 sc1) (.slice s2 sn2 sc2) (.slice s3 sn3 sc3) (.slice s4 sn4 sc4) w10 ∧ Below W.heap.size W w10 from ⟨HP9.out.1.below hb10, HP9.out.2.1.below hb10, below_then HP9.out.2.2 HP9.out.2.2.size hb10⟩)
  have hc := rwaiting_c (.slice s1 sn1 sc1) (.slice s2 sn2 sc2) (.slice s3 sn3 sc3) (.slice s4 sn4 sc4) rS w10 HP10.out.2.1.2 HE4.out.1
  rw [HE3.out.2.2.1] at hc
  have HC10 := Lib.hid hc
  clear hc hb10 HP9 HC9
  obtain ⟨d0, d1, d2, d3, d4, d5, d6, d7⟩ := HP10.out.2.1.1.cells
  go_wp2_with fail
  (with_reducible refine HC10.out.mono ?_)
  rintro e w11 ⟨rfl, hb11⟩
  have HP11 := Lib.hid (show WkA b r0 (.slice p1 pn1 pc1) (.slice p2 pn2 pc2) (.slice p3 pn3 pc3) (.slice p4 pn4 pc4) w11 ∧ WkA zb rS (.slice s1 sn1 sc1) (.slice s2 sn2 sc2) (.slice s3 sn3 sc3) (.slice s4 sn4 sc4) w11 ∧ Below W.heap.size W w11 from ⟨HP10.out.1.below hb11, HP10.out.2.1.below hb11, below_then HP10.out.2.2 HP10.out.2.2.size hb11⟩)
  have hc := rIdle_c (.slice p1 pn1 pc1) (.slice p2 pn2 pc2) (.slice p3 pn3 pc3) (.slice p4 pn4 pc4) r0 w11 HP11.out.1.2 HE2.out.1
  rw [HE3.out.2.2.2.1] at hc
  have HC11 := Lib.hid hc
  clear hc hb11 HP10 HC10 d0 d1 d2 d3 d4 d5 d6 d7
  obtain ⟨d0, d1, d2, d3, d4, d5, d6, d7⟩ := HP11.out.1.1.cells
  go_wp2_with fail
  (with_reducible refine HC11.out.mono ?_)
  rintro e w12 ⟨rfl, hb12⟩
  have HP12 := Lib.hid (show WkA zb rS (.slice s1 sn1 sc1) (.slice s2 sn2 sc2) (.slice s3 sn3 sc3) (.slice s4 sn4 sc4) w12 ∧ Below W.heap.size W w12 from ⟨HP11.out.2.1.below hb12, below_then HP11.out.2.2 HP11.out.2.2.size hb12⟩)
  have hc := rIdle_c (.slice s1 sn1 sc1) (.slice s2 sn2 sc2) (.slice s3 sn3 sc3) (.slice s4 sn4 sc4) rS w12 HP12.out.1.2 HE4.out.1
  rw [HE3.out.2.2.2.2] at hc
  have HC12 := Lib.hid hc
  clear hc hb12 HP11 HC11 d0 d1 d2 d3 d4 d5 d6 d7
  obtain ⟨d0, d1, d2, d3, d4, d5, d6, d7⟩ := HP12.out.1.1.cells
  go_wp2_with fail
  (with_reducible refine HC12.out.mono ?_)
  rintro e w13 ⟨rfl, hb13⟩
  have HB := Lib.hid (below_then HP12.out.2 HP12.out.2.size hb13)
  clear HP12 HC12 hb13 d0 d1 d2 d3 d4 d5 d6 d7
  go_wp2
  go_ret
  exact ⟨rfl, HB.out⟩

end Go.Proofs.YtdpkfahaojhkhaaGreat
/-
  own, of the statements of layer 11: readers with the first nine of their CPUs, in memory of their own.
  Conditions: the readers are ones that came in.
-/
namespace Go.Proofs.YtdpkfahaojhkhaaGreat
set_option maxRecDepth 100000
open Go.RowKit Go.Shelf
attribute [local go_sem] Oper.semAt_some

/-- A slice that came in: nil, or at an address. -/
def ArgR (W : World) (v : Value) (xs : List Value) : Prop := ∃ p n c, v = .slice p n c ∧ n = xs.length ∧ ((p = none ∧ n = 0 ∧ c = 0) ∨ ∃ a : Addr, p = some a ∧ n ≤ c ∧ ∀ j u, xs[j]? = some u → W.cell? (a.add j) = some u)
theorem ArgR.below {w w' : World} {v : Value} {xs : List Value} (h : ArgR w v xs) (hb : Below w.heap.size w w') : ArgR w' v xs := by
  obtain ⟨p, n, c, rfl, hn, h⟩ := h
  refine ⟨p, n, c, rfl, hn, ?_⟩
  rcases h with h | ⟨a, rfl, hc, hcs⟩
  · exact .inl h
  · exact .inr ⟨a, rfl, hc, fun j u hj => below_cell hb (hcs j u hj)⟩
theorem vals_cut {W : World} {p : Option Addr} {n c : Nat} {xs : List Value} (hn : n = xs.length) (h : (p = none ∧ n = 0 ∧ c = 0) ∨ ∃ a : Addr, p = some a ∧ n ≤ c ∧ ∀ j u, xs[j]? = some u → W.cell? (a.add j) = some u) :
    ValsAt W (.slice p (min n 9) c) 1 (min n 9) (xs.take 9) := by
  refine ⟨by rw [List.length_take, hn]; omega, p, c, rfl, ?_⟩
  rcases h with ⟨rfl, rfl, rfl⟩ | ⟨a, rfl, _, hcs⟩
  · exact .inl ⟨rfl, rfl, rfl⟩
  · refine .inr ⟨a, rfl, fun j u hj => hcs j u ?_⟩
    rw [List.getElem?_take] at hj
    split at hj
    · exact hj
    · cases hj
theorem run_cut9 (p : Option Addr) (n c k : Nat) (h : k ≤ c) (wx : World) :
    (Instr.slice 22 (.slice p n c) none (some (.int .i64 (k : Int))) none).run Tryz.prog wx = .ok (.slice p k c) wx := by
  rw [run_slice_h wx 22 p n c Tryz.underlying22 .i64 (k : Int) (by omega) (by omega)]
  have hE : (sizeOf (Tryz.prog.elem 22)).run Tryz.prog wx = .ok 1 wx := by go_simp
  rw [hE]
  have : Option.map (fun x : Addr => x.add 0) p = p := by cases p <;> simp [Addr.add_zero']
  simp [sliced, Result.andThen, this]
theorem run_min9 (n k : Nat) (hk : k = min n 9) (wx : World) : (Builtin.min_ #[3, 3] 3 #[.int .i64 (n : Int), .int .i64 9]).run Tryz.prog wx = .ok (.int .i64 (k : Int)) wx := by
  have : (if (9 : Int) < (n : Int) then (9 : Int) else n) = (k : Int) := by rw [hk]; split <;> omega
  simp [Builtin.min_, Builtin.min2, this]
/-- Readers that lie in new memory. -/
def OwnR (B : Nat) (s : RdS) (u v : Value) (w : World) : Prop := w.ownsRow B 3 1 u s.ns.length (s.ns.map (Value.int .i64)) ∧ w.ownsRow B 3 1 v s.os.length (s.os.map (Value.int .i64))
theorem OwnR.below {B : Nat} {s : RdS} {u v : Value} {w w' : World} (h : OwnR B s u v w) (hb : Below w.heap.size w w') : OwnR B s u v w' := ⟨owns_below h.1 hb, owns_below h.2 hb⟩
theorem OwnR.nums {B : Nat} {s : RdS} {u v : Value} {w : World} (h : OwnR B s u v w) : NumsAt w .i64 u s.ns ∧ NumsAt w .i64 v s.os := ⟨nums_of_owns rfl h.1, nums_of_owns rfl h.2⟩
def GivesR (B : Nat) (s : RdS) (e : Ending) (w' : World) : Prop := ∃ p0 c0 p1 c1, e = .returned (.agg #[.int .i64 s.now, .slice p0 s.ns.length c0, .slice p1 s.os.length c1]) ∧ OwnR B s (.slice p0 s.ns.length c0) (.slice p1 s.os.length c1) w'

end Go.Proofs.YtdpkfahaojhkhaaGreat
/-
  own, of the statements of layer 14: what goes in, what comes out; its region of two clones.
  Conditions: the Rcu is one that came in.
-/
namespace Go.Proofs.YtdpkfahaojhkhaaGreat
set_option maxRecDepth 100000
open Go.RowKit Go.Shelf
attribute [local go_sem] Oper.semAt_some

/-- A queue's callbacks that came in. -/
def ArgQ (W : World) (v : Value) (l : List (Int × Int)) : Prop := U.CbOut U.NoS W v l ∧ ∀ p n c, v = .slice p n c → p = none → c = 0
theorem ArgQ.below {W W' : World} {v : Value} {l : List (Int × Int)} (h : ArgQ W v l) (hb : Below W.heap.size W W') : ArgQ W' v l := ⟨h.1.below hb, h.2⟩
def ArgQs (W : World) (v : Value) (qs : List (Int × List (Int × Int))) : Prop := ∃ p n c, v = .slice p n c ∧ n = qs.length ∧ n ≤ c ∧ (qs ≠ [] → ∃ b off, p = some ⟨b, off, none⟩ ∧ ∀ i (h : i < qs.length), ∃ lv, W.cell? ⟨b, off + i * 2, none⟩ = some lv ∧ W.cell? ⟨b, off + i * 2 + 1, none⟩ = some (.int .u64 qs[i].1) ∧ ArgQ W lv qs[i].2)
theorem ArgQs.below {W W' : World} {v : Value} {qs : List (Int × List (Int × Int))} (h : ArgQs W v qs) (hb : Below W.heap.size W W') : ArgQs W' v qs := by
  obtain ⟨p, n, c, rfl, h1, h2, h3⟩ := h
  refine ⟨p, n, c, rfl, h1, h2, fun hne => ?_⟩
  obtain ⟨b, off, rfl, hc⟩ := h3 hne
  refine ⟨b, off, rfl, fun i hi => ?_⟩
  obtain ⟨lv, g1, g2, g3⟩ := hc i hi
  exact ⟨lv, below_cell hb g1, below_cell hb g2, g3.below hb⟩
/-- An Rcu that came in. -/
structure ArgRc (W : World) (u v nv qv : Value) (r : RcS) : Prop where
  nest : ArgR W u (r.s.ns.map (Value.int .i64))
  opened : ArgR W v (r.s.os.map (Value.int .i64))
  needs : ArgR W nv (r.g.nd.map Value.bool)
  queues : ArgQs W qv r.qs
  l1 : r.s.ns.length ≤ 9223372036854775807
  l2 : r.s.os.length ≤ 9223372036854775807
  l3 : r.g.nd.length ≤ 9223372036854775807
  l4 : r.qs.length ≤ 9223372036854775807
theorem ArgRc.below {W W' : World} {u v nv qv : Value} {r : RcS} (h : ArgRc W u v nv qv r) (hb : Below W.heap.size W W') : ArgRc W' u v nv qv r := ⟨h.nest.below hb, h.opened.below hb, h.needs.below hb, h.queues.below hb, h.l1, h.l2, h.l3, h.l4⟩
def cutQ (q : Int × List (Int × Int)) : Int × List (Int × Int) := (q.1, q.2.take 18)
def ownRc (r : RcS) : RcS := ⟨⟨r.s.now, r.s.ns.take 9, r.s.os.take 9⟩, { r.g with nd := r.g.nd.take 9 }, (r.qs.take 9).map cutQ⟩

theorem run_cutB9 (p : Option Addr) (n c k : Nat) (h : k ≤ c) (wx : World) :
    (Instr.slice 25 (.slice p n c) none (some (.int .i64 (k : Int))) none).run Tryz.prog wx = .ok (.slice p k c) wx := by
  rw [run_slice_h wx 25 p n c Tryz.underlying25 .i64 (k : Int) (by omega) (by omega)]
  have hE : (sizeOf (Tryz.prog.elem 25)).run Tryz.prog wx = .ok 1 wx := by go_simp
  rw [hE]
  have : Option.map (fun x : Addr => x.add 0) p = p := by cases p <;> simp [Addr.add_zero']
  simp [sliced, Result.andThen, this]
theorem run_cutQ9 (p : Option Addr) (n c k : Nat) (h : k ≤ c) (wx : World) :
    (Instr.slice 28 (.slice p n c) none (some (.int .i64 (k : Int))) none).run Tryz.prog wx = .ok (.slice p k c) wx := by
  rw [run_slice_h wx 28 p n c Tryz.underlying28 .i64 (k : Int) (by omega) (by omega)]
  have hE : (sizeOf (Tryz.prog.elem 28)).run Tryz.prog wx = .ok 2 wx := by go_simp
  rw [hE]
  have : Option.map (fun x : Addr => x.add 0) p = p := by cases p <;> simp [Addr.add_zero']
  simp [sliced, Result.andThen, this]
theorem run_min18 (n k : Nat) (hk : k = min n 18) (wx : World) : (Builtin.min_ #[3, 3] 3 #[.int .i64 (n : Int), .int .i64 18]).run Tryz.prog wx = .ok (.int .i64 (k : Int)) wx := by
  have : (if (18 : Int) < (n : Int) then (18 : Int) else n) = (k : Int) := by rw [hk]; split <;> omega
  simp [Builtin.min_, Builtin.min2, this]
theorem vals_cb18 {W : World} {p : Option Addr} {n c : Nat} {l : List (Int × Int)} (h : U.CbOut U.NoS W (.slice p n c) l) (hz : p = none → c = 0) (k : Nat) (hk : k = min n 18) : ValsAt W (.slice p k c) 2 k (U.cvs (l.take 18)) := by
  obtain ⟨q, cap, e, h1, h2, hc⟩ := h
  injection e with e1 e2 e3
  subst e1 e2 e3
  refine ⟨by rw [U.cvs_len, List.length_take, hk]; omega, p, c, rfl, ?_⟩
  by_cases hne : l = []
  · subst hne
    cases p with
    | none => exact .inl ⟨rfl, by rw [hk]; simp, hz rfl⟩
    | some a => exact .inr ⟨a, rfl, fun j u hj => by simp [U.cvs] at hj⟩
  · obtain ⟨b, off, rfl, -, hcs⟩ := hc hne
    refine .inr ⟨_, rfl, fun j u hj => ?_⟩
    obtain ⟨hj1, hj2⟩ := List.getElem?_eq_some_iff.1 hj
    rw [U.cvs_len] at hj1
    rw [addr_add_off]
    have hlt : j / 2 < (l.take 18).length := by omega
    have hlt2 : j / 2 < l.length := by rw [List.length_take] at hlt; omega
    have hg := U.cvs_get (l.take 18) (j / 2) hlt
    have hcc := hcs (j / 2) hlt2
    rw [List.getElem_take] at hg
    rcases (show j = j / 2 * 2 ∨ j = j / 2 * 2 + 1 by omega) with e | e
    · rw [← e, hj] at hg
      rw [← e] at hcc
      rw [Option.some.inj hg.1]
      exact hcc.1
    · rw [← e, hj] at hg
      have e2 : off + j = off + j / 2 * 2 + 1 := by omega
      rw [Option.some.inj hg.2, e2]
      exact hcc.2
theorem ne_rowT {w : World} {z : Nat} {now d a : Int} {u v nv qv : Value} {on : Bool} (h : RcBox w z now u v d a on nv qv) {B n : Nat} {T : TypeId} (hT : T ≠ 30) {lv : Value} {xs : List Value} (hr : w.ownsRow B T 1 lv n xs) : ∀ g, lv.ownBlock = some g → g ≠ z := by
  intro g hg e
  subst e
  rcases hr.2 with ⟨rfl, _⟩ | ⟨g', cap, cur, rfl, _, hg', _⟩
  · cases hg
  · simp only [Value.ownBlock, Option.some.injEq] at hg
    subst hg
    have h' : w.heap[g']? = _ := h
    rw [hg'] at h'
    injection h' with h'
    injection h' with _ h' _
    exact hT h'
/-- What the clones answer. -/
def ClQ (E : TypeId) (k : Nat) (xs : List Value) (Z : World) (e : Ending) (w' : World) : Prop := (∃ p' c', e = .returned (.slice p' k c') ∧ w'.ownsRow Z.heap.size E 1 (.slice p' k c') k xs) ∧ Below Z.heap.size Z w'
def OwF (wA : World) (zr : Nat) (now : Int) (g1 : Option Addr) (k1 e1 : Nat) (g2 : Option Addr) (k2 e2 : Nat) (ns os : List Int) (X : World) : Prop := RcBox X zr now (.slice g1 k1 e1) (.slice g2 k2 e2) 0 0 false (.slice none 0 0) (.slice none 0 0) ∧ X.ownsRow wA.heap.size 3 1 (.slice g1 k1 e1) k1 (ns.map (Value.int .i64)) ∧ X.ownsRow wA.heap.size 3 1 (.slice g2 k2 e2) k2 (os.map (Value.int .i64)) ∧ wA.heap.size ≤ zr ∧ Below wA.heap.size wA X

noncomputable def owOps1 : Array Oper := (regOps 1 (Tryz.f9.body.getD .skip)).getD #[]
set_option maxHeartbeats 32000000 in
theorem own_reg1 (rb : Nat) (now d a : Int) (on : Bool) (p1 : Option Addr) (n1 c1 k1 : Nat) (p2 : Option Addr) (n2 c2 k2 : Nat) (p3 : Option Addr) (n3 c3 : Nat) (p4 : Option Addr) (n4 c4 : Nat) (x0 x2 : Value) (wA : World) (hA : RcBox wA rb now (.slice p1 n1 c1) (.slice p2 n2 c2) d a on (.slice p3 n3 c3) (.slice p4 n4 c4)) (ns os : List Int)
    (hs1 : ∀ wx, (Instr.slice 22 (.slice p1 n1 c1) none (some (.int .i64 (k1 : Int))) none).run Tryz.prog wx = .ok (.slice p1 k1 c1) wx) (hs2 : ∀ wx, (Instr.slice 22 (.slice p2 n2 c2) none (some (.int .i64 (k2 : Int))) none).run Tryz.prog wx = .ok (.slice p2 k2 c2) wx)
    (hm1 : ∀ wx, (Builtin.min_ #[3, 3] 3 #[.int .i64 (n1 : Int), .int .i64 9]).run Tryz.prog wx = .ok (.int .i64 (k1 : Int)) wx) (hm2 : ∀ wx, (Builtin.min_ #[3, 3] 3 #[.int .i64 (n2 : Int), .int .i64 9]).run Tryz.prog wx = .ok (.int .i64 (k2 : Int)) wx)
    (HC1 : ∀ Z, Below wA.heap.size wA Z → Calls Tryz.prog 30 #[.slice p1 k1 c1] Z (ClQ 3 k1 (ns.map (Value.int .i64)) Z)) (HC2 : ∀ Z, Below wA.heap.size wA Z → Calls Tryz.prog 30 #[.slice p2 k2 c2] Z (ClQ 3 k2 (os.map (Value.int .i64)) Z))
    (ops : Array Oper) (hops : ops = owOps1) (Q : Exit → Act → World → Prop) (hQp : ∀ c (a : Act) i v w, Q (.panic c) (a.put i v) w → Q (.panic c) a w) (hQ : ∀ (zr : Nat) (g1 : Option Addr) (e1 : Nat) (g2 : Option Addr) (e2 : Nat) (X : World), OwF wA zr now g1 k1 e1 g2 k2 e2 ns os X → Q .normal { tmps := List.toArray (x0 :: .pointer (some ⟨rb, 0, none⟩) :: x2 :: .pointer (some ⟨zr, 0, none⟩) :: undef :: undef :: .pointer (some ⟨rb, 0, none⟩) :: .pointer (some ⟨rb, 0, none⟩) :: .int .i64 now :: .pointer (some ⟨rb, 0, none⟩) :: .pointer (some ⟨rb, 1, none⟩) :: .slice p1 n1 c1 :: .pointer (some ⟨rb, 0, none⟩) :: .pointer (some ⟨rb, 1, none⟩) :: .slice p1 n1 c1 :: .int .i64 (n1 : Int) :: .int .i64 (k1 : Int) :: .slice p1 k1 c1 :: .slice g1 k1 e1 :: .pointer (some ⟨rb, 0, none⟩) :: .pointer (some ⟨rb, 2, none⟩) :: .slice p2 n2 c2 :: .pointer (some ⟨rb, 0, none⟩) :: .pointer (some ⟨rb, 2, none⟩) :: .slice p2 n2 c2 :: .int .i64 (n2 : Int) :: .int .i64 (k2 : Int) :: .slice p2 k2 c2 :: .slice g2 k2 e2 :: .agg #[.int .i64 now, .slice g1 k1 e1, .slice g2 k2 e2] :: .agg #[.int .i64 now, .slice g1 k1 e1, .slice g2 k2 e2, .int .i64 0, .int .i64 0, .bool false, .slice none 0 0, .slice none 0 0] :: undef :: undef :: undef :: undef :: undef :: undef :: undef :: undef :: undef :: undef :: undef :: undef :: undef :: undef :: undef :: undef :: undef :: undef :: undef :: undef :: undef :: undef :: undef :: undef :: undef :: undef :: undef :: undef :: undef :: undef :: undef :: undef :: undef :: undef :: undef :: undef :: undef :: undef :: undef :: undef :: undef :: undef :: undef :: undef :: undef :: []), defers := [] } X) :
    (Code.region 1 ops true).wp Tryz.prog Q { tmps := List.toArray (x0 :: .pointer (some ⟨rb, 0, none⟩) :: x2 :: undef :: undef :: undef :: undef :: undef :: undef :: undef :: undef :: undef :: undef :: undef :: undef :: undef :: undef :: undef :: undef :: undef :: undef :: undef :: undef :: undef :: undef :: undef :: undef :: undef :: undef :: undef :: undef :: undef :: undef :: undef :: undef :: undef :: undef :: undef :: undef :: undef :: undef :: undef :: undef :: undef :: undef :: undef :: undef :: undef :: undef :: undef :: undef :: undef :: undef :: undef :: undef :: undef :: undef :: undef :: undef :: undef :: undef :: undef :: undef :: undef :: undef :: undef :: undef :: undef :: undef :: undef :: undef :: undef :: undef :: undef :: undef :: undef :: []), defers := [] } wA := by
  simp only [owOps1, Tryz.f9, Option.getD, regOps, reduceIte, Nat.reduceEqDiff] at hops
  have S_12_22_25 : ∀ (g1 : Option Addr) (e1 : Nat) (g2 : Option Addr) (e2 : Nat) (zr : Nat) (X : World) (fB : Below wA.heap.size wA X) (fA : X.ownsRow wA.heap.size 3 1 (.slice g1 k1 e1) k1 (ns.map (Value.int .i64))) (fC : X.ownsRow wA.heap.size 3 1 (.slice g2 k2 e2) k2 (os.map (Value.int .i64))) (fR : RcBox X zr 0 (.slice none 0 0) (.slice none 0 0) 0 0 false (.slice none 0 0) (.slice none 0 0)) (fRz : wA.heap.size ≤ zr), wpTwo Tryz.prog .any ops Q (fun w => RcBox w rb now (.slice p1 n1 c1) (.slice p2 n2 c2) d a on (.slice p3 n3 c3) (.slice p4 n4 c4)) (fun _ => True) (fun _ => false) 1 #[true, true, true, true, true, true, true, true, true, true, true, true, true, true, true, true, true, true, true, true, true, true, true, true, true, true, false] { tmps := List.toArray (x0 :: .pointer (some ⟨rb, 0, none⟩) :: x2 :: .pointer (some ⟨zr, 0, none⟩) :: undef :: undef :: .pointer (some ⟨rb, 0, none⟩) :: .pointer (some ⟨rb, 0, none⟩) :: .int .i64 now :: .pointer (some ⟨rb, 0, none⟩) :: .pointer (some ⟨rb, 1, none⟩) :: .slice p1 n1 c1 :: .pointer (some ⟨rb, 0, none⟩) :: .pointer (some ⟨rb, 1, none⟩) :: .slice p1 n1 c1 :: .int .i64 (n1 : Int) :: .int .i64 (k1 : Int) :: .slice p1 k1 c1 :: .slice g1 k1 e1 :: .pointer (some ⟨rb, 0, none⟩) :: .pointer (some ⟨rb, 2, none⟩) :: .slice p2 n2 c2 :: .pointer (some ⟨rb, 0, none⟩) :: .pointer (some ⟨rb, 2, none⟩) :: .slice p2 n2 c2 :: .int .i64 (n2 : Int) :: .int .i64 (k2 : Int) :: .slice p2 k2 c2 :: .slice g2 k2 e2 :: .agg #[.int .i64 now, .slice g1 k1 e1, .slice g2 k2 e2] :: .agg #[.int .i64 now, .slice g1 k1 e1, .slice g2 k2 e2, .int .i64 0, .int .i64 0, .bool false, .slice none 0 0, .slice none 0 0] :: undef :: undef :: undef :: undef :: undef :: undef :: undef :: undef :: undef :: undef :: undef :: undef :: undef :: undef :: undef :: undef :: undef :: undef :: undef :: undef :: undef :: undef :: undef :: undef :: undef :: undef :: undef :: undef :: undef :: undef :: undef :: undef :: undef :: undef :: undef :: undef :: undef :: undef :: undef :: undef :: undef :: undef :: undef :: undef :: undef :: []), defers := [] } X := by
    subst hops
    intro g1 e1 g2 e2 zr X fB fA fC fR fRz
    have hT := (show RcBox X rb now (.slice p1 n1 c1) (.slice p2 n2 c2) d a on (.slice p3 n3 c3) (.slice p4 n4 c4) from hA.below (fB))
    refine wpTwo_ready (rs := [26]) (by kernel_rfl) (by simp) ?_
    refine (AllTwo.cons rfl (fun K hK => ?_) AllTwo.nil)
    obtain ⟨d0, d1, d2, d3, d4, d5, d6, d7⟩ := fR.cells
    have v0 := fR.marks 0
    have v1 := fR.marks 1
    have v2 := fR.marks 2
    have v3 := fR.marks 3
    have v4 := fR.marks 4
    have v5 := fR.marks 5
    have v6 := fR.marks 6
    have v7 := fR.marks 7
    obtain ⟨Xa, hXa⟩ : ∃ Y : World, Y = ((((((((X.setCell ⟨zr, 0, none⟩ (.int .i64 now)).setCell ⟨zr, 1, none⟩ (.slice g1 k1 e1)).setCell ⟨zr, 2, none⟩ (.slice g2 k2 e2)).setCell ⟨zr, 3, none⟩ (.int .i64 0)).setCell ⟨zr, 4, none⟩ (.int .i64 0)).setCell ⟨zr, 5, none⟩ (.bool false)).setCell ⟨zr, 6, none⟩ (.slice none 0 0)).setCell ⟨zr, 7, none⟩ (.slice none 0 0)) := ⟨_, rfl⟩
    have HFA := Lib.hid (show RcBox Xa rb now (.slice p1 n1 c1) (.slice p2 n2 c2) d a on (.slice p3 n3 c3) (.slice p4 n4 c4) ∧ OwF wA zr now g1 k1 e1 g2 k2 e2 ns os Xa from by
      have hk : Keeps (fun k => k = zr) X Xa := by rw [hXa]; exact RcBox.putAllK X zr _ _ _ _ _ _ _ _
      have hbl := fB.trans (hk.below fB.size (fun k e => by omega))
      exact ⟨hA.below hbl, by rw [hXa]; exact fR.putAll _ _ _ _ _ _ _ _, hk.row fA (fun g hg e => ne_rowT fR (by decide) fA g hg e), hk.row fC (fun g hg e => ne_rowT fR (by decide) fC g hg e), fRz, hbl⟩)
    have hTa := HFA.out.1
    go_simp
    rw [← hXa]
    refine hK.out _ _ ⟨hTa, fun _ _ => trivial⟩ ?_
    clear hK K d0 d1 d2 d3 d4 d5 d6 d7 v0 v1 v2 v3 v4 v5 v6 v7 hXa
    (try simp only [Act.put])
    refine wpTwo_end (by kernel_rfl) ?_ _
    exact hQ zr g1 e1 g2 e2 Xa HFA.out.2
  have S_12_22 : ∀ (g1 : Option Addr) (e1 : Nat) (g2 : Option Addr) (e2 : Nat) (X : World) (fB : Below wA.heap.size wA X) (fA : X.ownsRow wA.heap.size 3 1 (.slice g1 k1 e1) k1 (ns.map (Value.int .i64))) (fC : X.ownsRow wA.heap.size 3 1 (.slice g2 k2 e2) k2 (os.map (Value.int .i64))), wpTwo Tryz.prog .any ops Q (fun w => RcBox w rb now (.slice p1 n1 c1) (.slice p2 n2 c2) d a on (.slice p3 n3 c3) (.slice p4 n4 c4)) (fun _ => True) (fun _ => false) 2 #[true, true, true, true, true, true, true, true, true, true, true, true, true, true, true, true, true, true, true, true, true, true, true, true, true, false, false] { tmps := List.toArray (x0 :: .pointer (some ⟨rb, 0, none⟩) :: x2 :: undef :: undef :: undef :: .pointer (some ⟨rb, 0, none⟩) :: .pointer (some ⟨rb, 0, none⟩) :: .int .i64 now :: .pointer (some ⟨rb, 0, none⟩) :: .pointer (some ⟨rb, 1, none⟩) :: .slice p1 n1 c1 :: .pointer (some ⟨rb, 0, none⟩) :: .pointer (some ⟨rb, 1, none⟩) :: .slice p1 n1 c1 :: .int .i64 (n1 : Int) :: .int .i64 (k1 : Int) :: .slice p1 k1 c1 :: .slice g1 k1 e1 :: .pointer (some ⟨rb, 0, none⟩) :: .pointer (some ⟨rb, 2, none⟩) :: .slice p2 n2 c2 :: .pointer (some ⟨rb, 0, none⟩) :: .pointer (some ⟨rb, 2, none⟩) :: .slice p2 n2 c2 :: .int .i64 (n2 : Int) :: .int .i64 (k2 : Int) :: .slice p2 k2 c2 :: .slice g2 k2 e2 :: .agg #[.int .i64 now, .slice g1 k1 e1, .slice g2 k2 e2] :: .agg #[.int .i64 now, .slice g1 k1 e1, .slice g2 k2 e2, .int .i64 0, .int .i64 0, .bool false, .slice none 0 0, .slice none 0 0] :: undef :: undef :: undef :: undef :: undef :: undef :: undef :: undef :: undef :: undef :: undef :: undef :: undef :: undef :: undef :: undef :: undef :: undef :: undef :: undef :: undef :: undef :: undef :: undef :: undef :: undef :: undef :: undef :: undef :: undef :: undef :: undef :: undef :: undef :: undef :: undef :: undef :: undef :: undef :: undef :: undef :: undef :: undef :: undef :: undef :: []), defers := [] } X := by
    subst hops
    intro g1 e1 g2 e2 X fB fA fC
    have hT := (show RcBox X rb now (.slice p1 n1 c1) (.slice p2 n2 c2) d a on (.slice p3 n3 c3) (.slice p4 n4 c4) from hA.below (fB))
    refine wpTwo_ready (rs := [25]) (by kernel_rfl) (by simp) ?_
    refine (AllTwo.cons rfl (fun K hK => ?_) AllTwo.nil)
    · refine step_val rfl (v := .pointer (some ⟨X.heap.size, 0, none⟩)) (w' := X.alloc (.cells #[.int .i64 0, .slice none 0 0, .slice none 0 0, .int .i64 0, .int .i64 0, .bool false, .slice none 0 0, .slice none 0 0] 30)) (by kernel_rfl) ?_
      obtain ⟨X1, hX⟩ : ∃ Y : World, Y = X.alloc (.cells #[.int .i64 0, .slice none 0 0, .slice none 0 0, .int .i64 0, .int .i64 0, .bool false, .slice none 0 0, .slice none 0 0] 30) := ⟨_, rfl⟩
      rw [← hX]
      have hb : Below X.heap.size X X1 := by rw [hX]; exact below1 _ _
      have hT1 := (show RcBox X1 rb now (.slice p1 n1 c1) (.slice p2 n2 c2) d a on (.slice p3 n3 c3) (.slice p4 n4 c4) from hA.below ((below_then fB fB.size hb)))
      exact hK.out _ _ ⟨hT1, fun _ _ => trivial⟩ (S_12_22_25 g1 e1 g2 e2 X.heap.size X1 (below_then fB fB.size hb) (owns_below fA hb) (owns_below fC hb) (by rw [hX]; exact RcBox.new _ _ _ _ _ _ _ _ _) (fB.size))
  have S_12_25 : ∀ (g1 : Option Addr) (e1 : Nat) (zr : Nat) (X : World) (fB : Below wA.heap.size wA X) (fA : X.ownsRow wA.heap.size 3 1 (.slice g1 k1 e1) k1 (ns.map (Value.int .i64))) (fR : RcBox X zr 0 (.slice none 0 0) (.slice none 0 0) 0 0 false (.slice none 0 0) (.slice none 0 0)) (fRz : wA.heap.size ≤ zr), wpTwo Tryz.prog .any ops Q (fun w => RcBox w rb now (.slice p1 n1 c1) (.slice p2 n2 c2) d a on (.slice p3 n3 c3) (.slice p4 n4 c4)) (fun _ => True) (fun _ => false) 4 #[true, true, true, true, true, true, true, true, true, true, true, true, true, true, true, true, true, true, true, true, true, true, false, false, false, true, false] { tmps := List.toArray (x0 :: .pointer (some ⟨rb, 0, none⟩) :: x2 :: .pointer (some ⟨zr, 0, none⟩) :: undef :: undef :: .pointer (some ⟨rb, 0, none⟩) :: .pointer (some ⟨rb, 0, none⟩) :: .int .i64 now :: .pointer (some ⟨rb, 0, none⟩) :: .pointer (some ⟨rb, 1, none⟩) :: .slice p1 n1 c1 :: .pointer (some ⟨rb, 0, none⟩) :: .pointer (some ⟨rb, 1, none⟩) :: .slice p1 n1 c1 :: .int .i64 (n1 : Int) :: .int .i64 (k1 : Int) :: .slice p1 k1 c1 :: .slice g1 k1 e1 :: .pointer (some ⟨rb, 0, none⟩) :: .pointer (some ⟨rb, 2, none⟩) :: .slice p2 n2 c2 :: .pointer (some ⟨rb, 0, none⟩) :: .pointer (some ⟨rb, 2, none⟩) :: .slice p2 n2 c2 :: .int .i64 (n2 : Int) :: .int .i64 (k2 : Int) :: .slice p2 k2 c2 :: undef :: undef :: undef :: undef :: undef :: undef :: undef :: undef :: undef :: undef :: undef :: undef :: undef :: undef :: undef :: undef :: undef :: undef :: undef :: undef :: undef :: undef :: undef :: undef :: undef :: undef :: undef :: undef :: undef :: undef :: undef :: undef :: undef :: undef :: undef :: undef :: undef :: undef :: undef :: undef :: undef :: undef :: undef :: undef :: undef :: undef :: undef :: undef :: []), defers := [] } X := by
    clear S_12_22
    subst hops
    intro g1 e1 zr X fB fA fR fRz
    have hT := (show RcBox X rb now (.slice p1 n1 c1) (.slice p2 n2 c2) d a on (.slice p3 n3 c3) (.slice p4 n4 c4) from hA.below (fB))
    refine wpTwo_ready (rs := [22]) (by kernel_rfl) (by simp) ?_
    refine (AllTwo.cons rfl (fun K hK => ?_) AllTwo.nil)
    · refine step_ent rfl (f := 30) (args := #[.slice p2 k2 c2]) (w' := X) (by kernel_rfl) (HC2 X fB) ?_
      rintro e X1 ⟨⟨g2, e2, rfl, hro⟩, hb⟩
      refine ⟨_, rfl, ?_⟩
      have hT1 := (show RcBox X1 rb now (.slice p1 n1 c1) (.slice p2 n2 c2) d a on (.slice p3 n3 c3) (.slice p4 n4 c4) from hA.below ((below_then fB fB.size hb)))
      refine hK.out _ _ ⟨hT1, fun _ _ => trivial⟩ ?_
      (try simp only [Act.put, List.getElem_toArray, List.getElem_cons_succ, List.getElem_cons_zero, List.setIfInBounds_toArray, List.set_cons_succ, List.set_cons_zero])
      refine wpTwo_takeT (i := 23) (v := .agg #[.int .i64 now, .slice g1 k1 e1, .slice g2 k2 e2]) rfl (by kernel_rfl) (by kernel_rfl) (by kernel_rfl) (fun c a w h => hQp c a _ _ w h) ⟨by rfl, ?_⟩ hT1 ?_
      · rintro w hTw
        go_simp
      (try simp only [Act.put, List.getElem_toArray, List.getElem_cons_succ, List.getElem_cons_zero, List.setIfInBounds_toArray, List.set_cons_succ, List.set_cons_zero])
      refine wpTwo_takeT (i := 24) (v := .agg #[.int .i64 now, .slice g1 k1 e1, .slice g2 k2 e2, .int .i64 0, .int .i64 0, .bool false, .slice none 0 0, .slice none 0 0]) rfl (by kernel_rfl) (by kernel_rfl) (by kernel_rfl) (fun c a w h => hQp c a _ _ w h) ⟨by rfl, ?_⟩ hT1 ?_
      · rintro w hTw
        go_simp
      (try simp only [Act.put, List.getElem_toArray, List.getElem_cons_succ, List.getElem_cons_zero, List.setIfInBounds_toArray, List.set_cons_succ, List.set_cons_zero])
      exact S_12_22_25 g1 e1 g2 e2 zr X1 (below_then fB fB.size hb) (owns_below fA hb) (hro.mono fB.size) (fR.below hb) (fRz)
  have S_12 : ∀ (g1 : Option Addr) (e1 : Nat) (X : World) (fB : Below wA.heap.size wA X) (fA : X.ownsRow wA.heap.size 3 1 (.slice g1 k1 e1) k1 (ns.map (Value.int .i64))), wpTwo Tryz.prog .any ops Q (fun w => RcBox w rb now (.slice p1 n1 c1) (.slice p2 n2 c2) d a on (.slice p3 n3 c3) (.slice p4 n4 c4)) (fun _ => True) (fun _ => false) 5 #[true, true, true, true, true, true, true, true, true, true, true, true, true, true, true, true, true, true, true, true, true, true, false, false, false, false, false] { tmps := List.toArray (x0 :: .pointer (some ⟨rb, 0, none⟩) :: x2 :: undef :: undef :: undef :: .pointer (some ⟨rb, 0, none⟩) :: .pointer (some ⟨rb, 0, none⟩) :: .int .i64 now :: .pointer (some ⟨rb, 0, none⟩) :: .pointer (some ⟨rb, 1, none⟩) :: .slice p1 n1 c1 :: .pointer (some ⟨rb, 0, none⟩) :: .pointer (some ⟨rb, 1, none⟩) :: .slice p1 n1 c1 :: .int .i64 (n1 : Int) :: .int .i64 (k1 : Int) :: .slice p1 k1 c1 :: .slice g1 k1 e1 :: .pointer (some ⟨rb, 0, none⟩) :: .pointer (some ⟨rb, 2, none⟩) :: .slice p2 n2 c2 :: .pointer (some ⟨rb, 0, none⟩) :: .pointer (some ⟨rb, 2, none⟩) :: .slice p2 n2 c2 :: .int .i64 (n2 : Int) :: .int .i64 (k2 : Int) :: .slice p2 k2 c2 :: undef :: undef :: undef :: undef :: undef :: undef :: undef :: undef :: undef :: undef :: undef :: undef :: undef :: undef :: undef :: undef :: undef :: undef :: undef :: undef :: undef :: undef :: undef :: undef :: undef :: undef :: undef :: undef :: undef :: undef :: undef :: undef :: undef :: undef :: undef :: undef :: undef :: undef :: undef :: undef :: undef :: undef :: undef :: undef :: undef :: undef :: undef :: undef :: []), defers := [] } X := by
    clear S_12_22_25
    subst hops
    intro g1 e1 X fB fA
    have hT := (show RcBox X rb now (.slice p1 n1 c1) (.slice p2 n2 c2) d a on (.slice p3 n3 c3) (.slice p4 n4 c4) from hA.below (fB))
    refine wpTwo_ready (rs := [22, 25]) (by kernel_rfl) (by simp) ?_
    refine (AllTwo.cons rfl (fun K hK => ?_) (AllTwo.cons rfl (fun K hK => ?_) AllTwo.nil))
    · refine step_ent rfl (f := 30) (args := #[.slice p2 k2 c2]) (w' := X) (by kernel_rfl) (HC2 X fB) ?_
      rintro e X1 ⟨⟨g2, e2, rfl, hro⟩, hb⟩
      refine ⟨_, rfl, ?_⟩
      have hT1 := (show RcBox X1 rb now (.slice p1 n1 c1) (.slice p2 n2 c2) d a on (.slice p3 n3 c3) (.slice p4 n4 c4) from hA.below ((below_then fB fB.size hb)))
      refine hK.out _ _ ⟨hT1, fun _ _ => trivial⟩ ?_
      (try simp only [Act.put, List.getElem_toArray, List.getElem_cons_succ, List.getElem_cons_zero, List.setIfInBounds_toArray, List.set_cons_succ, List.set_cons_zero])
      refine wpTwo_takeT (i := 23) (v := .agg #[.int .i64 now, .slice g1 k1 e1, .slice g2 k2 e2]) rfl (by kernel_rfl) (by kernel_rfl) (by kernel_rfl) (fun c a w h => hQp c a _ _ w h) ⟨by rfl, ?_⟩ hT1 ?_
      · rintro w hTw
        go_simp
      (try simp only [Act.put, List.getElem_toArray, List.getElem_cons_succ, List.getElem_cons_zero, List.setIfInBounds_toArray, List.set_cons_succ, List.set_cons_zero])
      refine wpTwo_takeT (i := 24) (v := .agg #[.int .i64 now, .slice g1 k1 e1, .slice g2 k2 e2, .int .i64 0, .int .i64 0, .bool false, .slice none 0 0, .slice none 0 0]) rfl (by kernel_rfl) (by kernel_rfl) (by kernel_rfl) (fun c a w h => hQp c a _ _ w h) ⟨by rfl, ?_⟩ hT1 ?_
      · rintro w hTw
        go_simp
      (try simp only [Act.put, List.getElem_toArray, List.getElem_cons_succ, List.getElem_cons_zero, List.setIfInBounds_toArray, List.set_cons_succ, List.set_cons_zero])
      exact S_12_22 g1 e1 g2 e2 X1 (below_then fB fB.size hb) (owns_below fA hb) (hro.mono fB.size)
    · refine step_val rfl (v := .pointer (some ⟨X.heap.size, 0, none⟩)) (w' := X.alloc (.cells #[.int .i64 0, .slice none 0 0, .slice none 0 0, .int .i64 0, .int .i64 0, .bool false, .slice none 0 0, .slice none 0 0] 30)) (by kernel_rfl) ?_
      obtain ⟨X1, hX⟩ : ∃ Y : World, Y = X.alloc (.cells #[.int .i64 0, .slice none 0 0, .slice none 0 0, .int .i64 0, .int .i64 0, .bool false, .slice none 0 0, .slice none 0 0] 30) := ⟨_, rfl⟩
      rw [← hX]
      have hb : Below X.heap.size X X1 := by rw [hX]; exact below1 _ _
      have hT1 := (show RcBox X1 rb now (.slice p1 n1 c1) (.slice p2 n2 c2) d a on (.slice p3 n3 c3) (.slice p4 n4 c4) from hA.below ((below_then fB fB.size hb)))
      exact hK.out _ _ ⟨hT1, fun _ _ => trivial⟩ (S_12_25 g1 e1 X.heap.size X1 (below_then fB fB.size hb) (owns_below fA hb) (by rw [hX]; exact RcBox.new _ _ _ _ _ _ _ _ _) (fB.size))
  have S_25 : ∀ (zr : Nat) (X : World) (fB : Below wA.heap.size wA X) (fR : RcBox X zr 0 (.slice none 0 0) (.slice none 0 0) 0 0 false (.slice none 0 0) (.slice none 0 0)) (fRz : wA.heap.size ≤ zr), wpTwo Tryz.prog .any ops Q (fun w => RcBox w rb now (.slice p1 n1 c1) (.slice p2 n2 c2) d a on (.slice p3 n3 c3) (.slice p4 n4 c4)) (fun _ => True) (fun _ => false) 5 #[true, true, true, true, true, true, true, true, true, true, true, true, false, true, true, true, true, true, true, true, true, true, false, false, false, true, false] { tmps := List.toArray (x0 :: .pointer (some ⟨rb, 0, none⟩) :: x2 :: .pointer (some ⟨zr, 0, none⟩) :: undef :: undef :: .pointer (some ⟨rb, 0, none⟩) :: .pointer (some ⟨rb, 0, none⟩) :: .int .i64 now :: .pointer (some ⟨rb, 0, none⟩) :: .pointer (some ⟨rb, 1, none⟩) :: .slice p1 n1 c1 :: .pointer (some ⟨rb, 0, none⟩) :: .pointer (some ⟨rb, 1, none⟩) :: .slice p1 n1 c1 :: .int .i64 (n1 : Int) :: .int .i64 (k1 : Int) :: .slice p1 k1 c1 :: undef :: .pointer (some ⟨rb, 0, none⟩) :: .pointer (some ⟨rb, 2, none⟩) :: .slice p2 n2 c2 :: .pointer (some ⟨rb, 0, none⟩) :: .pointer (some ⟨rb, 2, none⟩) :: .slice p2 n2 c2 :: .int .i64 (n2 : Int) :: .int .i64 (k2 : Int) :: .slice p2 k2 c2 :: undef :: undef :: undef :: undef :: undef :: undef :: undef :: undef :: undef :: undef :: undef :: undef :: undef :: undef :: undef :: undef :: undef :: undef :: undef :: undef :: undef :: undef :: undef :: undef :: undef :: undef :: undef :: undef :: undef :: undef :: undef :: undef :: undef :: undef :: undef :: undef :: undef :: undef :: undef :: undef :: undef :: undef :: undef :: undef :: undef :: undef :: undef :: undef :: []), defers := [] } X := by
    clear S_12_22_25 S_12_22 S_12
    subst hops
    intro zr X fB fR fRz
    have hT := (show RcBox X rb now (.slice p1 n1 c1) (.slice p2 n2 c2) d a on (.slice p3 n3 c3) (.slice p4 n4 c4) from hA.below (fB))
    refine wpTwo_ready (rs := [12]) (by kernel_rfl) (by simp) ?_
    refine (AllTwo.cons rfl (fun K hK => ?_) AllTwo.nil)
    · refine step_ent rfl (f := 30) (args := #[.slice p1 k1 c1]) (w' := X) (by kernel_rfl) (HC1 X fB) ?_
      rintro e X1 ⟨⟨g1, e1, rfl, hro⟩, hb⟩
      refine ⟨_, rfl, ?_⟩
      have hT1 := (show RcBox X1 rb now (.slice p1 n1 c1) (.slice p2 n2 c2) d a on (.slice p3 n3 c3) (.slice p4 n4 c4) from hA.below ((below_then fB fB.size hb)))
      exact hK.out _ _ ⟨hT1, fun _ _ => trivial⟩ (S_12_25 g1 e1 zr X1 (below_then fB fB.size hb) (hro.mono fB.size) (fR.below hb) (fRz))
  have S_o : ∀  (X : World) (fB : Below wA.heap.size wA X), wpTwo Tryz.prog .any ops Q (fun w => RcBox w rb now (.slice p1 n1 c1) (.slice p2 n2 c2) d a on (.slice p3 n3 c3) (.slice p4 n4 c4)) (fun _ => True) (fun _ => false) 6 #[true, true, true, true, true, true, true, true, true, true, true, true, false, true, true, true, true, true, true, true, true, true, false, false, false, false, false] { tmps := List.toArray (x0 :: .pointer (some ⟨rb, 0, none⟩) :: x2 :: undef :: undef :: undef :: .pointer (some ⟨rb, 0, none⟩) :: .pointer (some ⟨rb, 0, none⟩) :: .int .i64 now :: .pointer (some ⟨rb, 0, none⟩) :: .pointer (some ⟨rb, 1, none⟩) :: .slice p1 n1 c1 :: .pointer (some ⟨rb, 0, none⟩) :: .pointer (some ⟨rb, 1, none⟩) :: .slice p1 n1 c1 :: .int .i64 (n1 : Int) :: .int .i64 (k1 : Int) :: .slice p1 k1 c1 :: undef :: .pointer (some ⟨rb, 0, none⟩) :: .pointer (some ⟨rb, 2, none⟩) :: .slice p2 n2 c2 :: .pointer (some ⟨rb, 0, none⟩) :: .pointer (some ⟨rb, 2, none⟩) :: .slice p2 n2 c2 :: .int .i64 (n2 : Int) :: .int .i64 (k2 : Int) :: .slice p2 k2 c2 :: undef :: undef :: undef :: undef :: undef :: undef :: undef :: undef :: undef :: undef :: undef :: undef :: undef :: undef :: undef :: undef :: undef :: undef :: undef :: undef :: undef :: undef :: undef :: undef :: undef :: undef :: undef :: undef :: undef :: undef :: undef :: undef :: undef :: undef :: undef :: undef :: undef :: undef :: undef :: undef :: undef :: undef :: undef :: undef :: undef :: undef :: undef :: undef :: []), defers := [] } X := by
    clear S_12_22_25 S_12_22 S_12_25
    subst hops
    intro X fB
    have hT := (show RcBox X rb now (.slice p1 n1 c1) (.slice p2 n2 c2) d a on (.slice p3 n3 c3) (.slice p4 n4 c4) from hA.below (fB))
    refine wpTwo_ready (rs := [12, 25]) (by kernel_rfl) (by simp) ?_
    refine (AllTwo.cons rfl (fun K hK => ?_) (AllTwo.cons rfl (fun K hK => ?_) AllTwo.nil))
    · refine step_ent rfl (f := 30) (args := #[.slice p1 k1 c1]) (w' := X) (by kernel_rfl) (HC1 X fB) ?_
      rintro e X1 ⟨⟨g1, e1, rfl, hro⟩, hb⟩
      refine ⟨_, rfl, ?_⟩
      have hT1 := (show RcBox X1 rb now (.slice p1 n1 c1) (.slice p2 n2 c2) d a on (.slice p3 n3 c3) (.slice p4 n4 c4) from hA.below ((below_then fB fB.size hb)))
      exact hK.out _ _ ⟨hT1, fun _ _ => trivial⟩ (S_12 g1 e1 X1 (below_then fB fB.size hb) (hro.mono fB.size))
    · refine step_val rfl (v := .pointer (some ⟨X.heap.size, 0, none⟩)) (w' := X.alloc (.cells #[.int .i64 0, .slice none 0 0, .slice none 0 0, .int .i64 0, .int .i64 0, .bool false, .slice none 0 0, .slice none 0 0] 30)) (by kernel_rfl) ?_
      obtain ⟨X1, hX⟩ : ∃ Y : World, Y = X.alloc (.cells #[.int .i64 0, .slice none 0 0, .slice none 0 0, .int .i64 0, .int .i64 0, .bool false, .slice none 0 0, .slice none 0 0] 30) := ⟨_, rfl⟩
      rw [← hX]
      have hb : Below X.heap.size X X1 := by rw [hX]; exact below1 _ _
      have hT1 := (show RcBox X1 rb now (.slice p1 n1 c1) (.slice p2 n2 c2) d a on (.slice p3 n3 c3) (.slice p4 n4 c4) from hA.below ((below_then fB fB.size hb)))
      exact hK.out _ _ ⟨hT1, fun _ _ => trivial⟩ (S_25 X.heap.size X1 (below_then fB fB.size hb) (by rw [hX]; exact RcBox.new _ _ _ _ _ _ _ _ _) (fB.size))
  clear S_12_22_25 S_12_22 S_12_25 S_12 S_25
  subst hops
  refine wpTwo_begin (T := (fun w => RcBox w rb now (.slice p1 n1 c1) (.slice p2 n2 c2) d a on (.slice p3 n3 c3) (.slice p4 n4 c4))) (S := fun _ => True) (late := fun _ => false) (by kernel_rfl) ?_
  obtain ⟨X0, hX0⟩ : ∃ X : World, X = wA.drew := ⟨_, rfl⟩
  rw [← hX0]
  have fB : Below wA.heap.size wA X0 := by rw [hX0]; exact (Below.refl _ _).drew
  have hT := (show RcBox X0 rb now (.slice p1 n1 c1) (.slice p2 n2 c2) d a on (.slice p3 n3 c3) (.slice p4 n4 c4) from hA.below (fB))
  clear hX0
  refine wpTwo_takeT (i := 0) (v := .pointer (some ⟨rb, 0, none⟩)) rfl (by kernel_rfl) (by kernel_rfl) (by kernel_rfl) (fun c a w h => hQp c a _ _ w h) ⟨by rfl, ?_⟩ hT ?_
  · rintro w hTw
    go_simp
  (try simp only [Act.put, List.getElem_toArray, List.getElem_cons_zero, List.setIfInBounds_toArray, List.set_cons_succ, List.set_cons_zero])
  refine wpTwo_takeT (i := 1) (v := .pointer (some ⟨rb, 0, none⟩)) rfl (by kernel_rfl) (by kernel_rfl) (by kernel_rfl) (fun c a w h => hQp c a _ _ w h) ⟨by rfl, ?_⟩ hT ?_
  · rintro w hTw
    go_simp
  (try simp only [Act.put, List.getElem_toArray, List.getElem_cons_succ, List.getElem_cons_zero, List.setIfInBounds_toArray, List.set_cons_succ, List.set_cons_zero])
  refine wpTwo_takeT (i := 2) (v := .int .i64 now) rfl (by kernel_rfl) (by kernel_rfl) (by kernel_rfl) (fun c a w h => hQp c a _ _ w h) ⟨by rfl, ?_⟩ hT ?_
  · rintro w hTw
    obtain ⟨t0', t1', t2', t3', t4', t5', t6', t7'⟩ := hTw.cells
    go_simp
  (try simp only [Act.put, List.getElem_toArray, List.getElem_cons_succ, List.getElem_cons_zero, List.setIfInBounds_toArray, List.set_cons_succ, List.set_cons_zero])
  refine wpTwo_takeT (i := 3) (v := .pointer (some ⟨rb, 0, none⟩)) rfl (by kernel_rfl) (by kernel_rfl) (by kernel_rfl) (fun c a w h => hQp c a _ _ w h) ⟨by rfl, ?_⟩ hT ?_
  · rintro w hTw
    go_simp
  (try simp only [Act.put, List.getElem_toArray, List.getElem_cons_succ, List.getElem_cons_zero, List.setIfInBounds_toArray, List.set_cons_succ, List.set_cons_zero])
  refine wpTwo_takeT (i := 4) (v := .pointer (some ⟨rb, 1, none⟩)) rfl (by kernel_rfl) (by kernel_rfl) (by kernel_rfl) (fun c a w h => hQp c a _ _ w h) ⟨by rfl, ?_⟩ hT ?_
  · rintro w hTw
    go_simp
  (try simp only [Act.put, List.getElem_toArray, List.getElem_cons_succ, List.getElem_cons_zero, List.setIfInBounds_toArray, List.set_cons_succ, List.set_cons_zero])
  refine wpTwo_takeT (i := 5) (v := .slice p1 n1 c1) rfl (by kernel_rfl) (by kernel_rfl) (by kernel_rfl) (fun c a w h => hQp c a _ _ w h) ⟨by rfl, ?_⟩ hT ?_
  · rintro w hTw
    obtain ⟨t0', t1', t2', t3', t4', t5', t6', t7'⟩ := hTw.cells
    go_simp
  (try simp only [Act.put, List.getElem_toArray, List.getElem_cons_succ, List.getElem_cons_zero, List.setIfInBounds_toArray, List.set_cons_succ, List.set_cons_zero])
  refine wpTwo_takeT (i := 6) (v := .pointer (some ⟨rb, 0, none⟩)) rfl (by kernel_rfl) (by kernel_rfl) (by kernel_rfl) (fun c a w h => hQp c a _ _ w h) ⟨by rfl, ?_⟩ hT ?_
  · rintro w hTw
    go_simp
  (try simp only [Act.put, List.getElem_toArray, List.getElem_cons_succ, List.getElem_cons_zero, List.setIfInBounds_toArray, List.set_cons_succ, List.set_cons_zero])
  refine wpTwo_takeT (i := 7) (v := .pointer (some ⟨rb, 1, none⟩)) rfl (by kernel_rfl) (by kernel_rfl) (by kernel_rfl) (fun c a w h => hQp c a _ _ w h) ⟨by rfl, ?_⟩ hT ?_
  · rintro w hTw
    go_simp
  (try simp only [Act.put, List.getElem_toArray, List.getElem_cons_succ, List.getElem_cons_zero, List.setIfInBounds_toArray, List.set_cons_succ, List.set_cons_zero])
  refine wpTwo_takeT (i := 8) (v := .slice p1 n1 c1) rfl (by kernel_rfl) (by kernel_rfl) (by kernel_rfl) (fun c a w h => hQp c a _ _ w h) ⟨by rfl, ?_⟩ hT ?_
  · rintro w hTw
    obtain ⟨t0', t1', t2', t3', t4', t5', t6', t7'⟩ := hTw.cells
    go_simp
  (try simp only [Act.put, List.getElem_toArray, List.getElem_cons_succ, List.getElem_cons_zero, List.setIfInBounds_toArray, List.set_cons_succ, List.set_cons_zero])
  refine wpTwo_takeT (i := 9) (v := .int .i64 (n1 : Int)) rfl (by kernel_rfl) (by kernel_rfl) (by kernel_rfl) (fun c a w h => hQp c a _ _ w h) ⟨by rfl, ?_⟩ hT ?_
  · rintro w hTw
    go_simp
  (try simp only [Act.put, List.getElem_toArray, List.getElem_cons_succ, List.getElem_cons_zero, List.setIfInBounds_toArray, List.set_cons_succ, List.set_cons_zero])
  refine wpTwo_takeT (i := 10) (v := .int .i64 (k1 : Int)) rfl (by kernel_rfl) (by kernel_rfl) (by kernel_rfl) (fun c a w h => hQp c a _ _ w h) ⟨by rfl, ?_⟩ hT ?_
  · rintro w hTw
    go_simp
  (try simp only [Act.put, List.getElem_toArray, List.getElem_cons_succ, List.getElem_cons_zero, List.setIfInBounds_toArray, List.set_cons_succ, List.set_cons_zero])
  refine wpTwo_takeT (i := 11) (v := .slice p1 k1 c1) rfl (by kernel_rfl) (by kernel_rfl) (by kernel_rfl) (fun c a w h => hQp c a _ _ w h) ⟨by rfl, ?_⟩ hT ?_
  · rintro w hTw
    go_simp
  (try simp only [Act.put, List.getElem_toArray, List.getElem_cons_succ, List.getElem_cons_zero, List.setIfInBounds_toArray, List.set_cons_succ, List.set_cons_zero])
  refine wpTwo_takeT (i := 13) (v := .pointer (some ⟨rb, 0, none⟩)) rfl (by kernel_rfl) (by kernel_rfl) (by kernel_rfl) (fun c a w h => hQp c a _ _ w h) ⟨by rfl, ?_⟩ hT ?_
  · rintro w hTw
    go_simp
  (try simp only [Act.put, List.getElem_toArray, List.getElem_cons_succ, List.getElem_cons_zero, List.setIfInBounds_toArray, List.set_cons_succ, List.set_cons_zero])
  refine wpTwo_takeT (i := 14) (v := .pointer (some ⟨rb, 2, none⟩)) rfl (by kernel_rfl) (by kernel_rfl) (by kernel_rfl) (fun c a w h => hQp c a _ _ w h) ⟨by rfl, ?_⟩ hT ?_
  · rintro w hTw
    go_simp
  (try simp only [Act.put, List.getElem_toArray, List.getElem_cons_succ, List.getElem_cons_zero, List.setIfInBounds_toArray, List.set_cons_succ, List.set_cons_zero])
  refine wpTwo_takeT (i := 15) (v := .slice p2 n2 c2) rfl (by kernel_rfl) (by kernel_rfl) (by kernel_rfl) (fun c a w h => hQp c a _ _ w h) ⟨by rfl, ?_⟩ hT ?_
  · rintro w hTw
    obtain ⟨t0', t1', t2', t3', t4', t5', t6', t7'⟩ := hTw.cells
    go_simp
  (try simp only [Act.put, List.getElem_toArray, List.getElem_cons_succ, List.getElem_cons_zero, List.setIfInBounds_toArray, List.set_cons_succ, List.set_cons_zero])
  refine wpTwo_takeT (i := 16) (v := .pointer (some ⟨rb, 0, none⟩)) rfl (by kernel_rfl) (by kernel_rfl) (by kernel_rfl) (fun c a w h => hQp c a _ _ w h) ⟨by rfl, ?_⟩ hT ?_
  · rintro w hTw
    go_simp
  (try simp only [Act.put, List.getElem_toArray, List.getElem_cons_succ, List.getElem_cons_zero, List.setIfInBounds_toArray, List.set_cons_succ, List.set_cons_zero])
  refine wpTwo_takeT (i := 17) (v := .pointer (some ⟨rb, 2, none⟩)) rfl (by kernel_rfl) (by kernel_rfl) (by kernel_rfl) (fun c a w h => hQp c a _ _ w h) ⟨by rfl, ?_⟩ hT ?_
  · rintro w hTw
    go_simp
  (try simp only [Act.put, List.getElem_toArray, List.getElem_cons_succ, List.getElem_cons_zero, List.setIfInBounds_toArray, List.set_cons_succ, List.set_cons_zero])
  refine wpTwo_takeT (i := 18) (v := .slice p2 n2 c2) rfl (by kernel_rfl) (by kernel_rfl) (by kernel_rfl) (fun c a w h => hQp c a _ _ w h) ⟨by rfl, ?_⟩ hT ?_
  · rintro w hTw
    obtain ⟨t0', t1', t2', t3', t4', t5', t6', t7'⟩ := hTw.cells
    go_simp
  (try simp only [Act.put, List.getElem_toArray, List.getElem_cons_succ, List.getElem_cons_zero, List.setIfInBounds_toArray, List.set_cons_succ, List.set_cons_zero])
  refine wpTwo_takeT (i := 19) (v := .int .i64 (n2 : Int)) rfl (by kernel_rfl) (by kernel_rfl) (by kernel_rfl) (fun c a w h => hQp c a _ _ w h) ⟨by rfl, ?_⟩ hT ?_
  · rintro w hTw
    go_simp
  (try simp only [Act.put, List.getElem_toArray, List.getElem_cons_succ, List.getElem_cons_zero, List.setIfInBounds_toArray, List.set_cons_succ, List.set_cons_zero])
  refine wpTwo_takeT (i := 20) (v := .int .i64 (k2 : Int)) rfl (by kernel_rfl) (by kernel_rfl) (by kernel_rfl) (fun c a w h => hQp c a _ _ w h) ⟨by rfl, ?_⟩ hT ?_
  · rintro w hTw
    go_simp
  (try simp only [Act.put, List.getElem_toArray, List.getElem_cons_succ, List.getElem_cons_zero, List.setIfInBounds_toArray, List.set_cons_succ, List.set_cons_zero])
  refine wpTwo_takeT (i := 21) (v := .slice p2 k2 c2) rfl (by kernel_rfl) (by kernel_rfl) (by kernel_rfl) (fun c a w h => hQp c a _ _ w h) ⟨by rfl, ?_⟩ hT ?_
  · rintro w hTw
    go_simp
  (try simp only [Act.put, List.getElem_toArray, List.getElem_cons_succ, List.getElem_cons_zero, List.setIfInBounds_toArray, List.set_cons_succ, List.set_cons_zero])
  exact S_o X0 fB

end Go.Proofs.YtdpkfahaojhkhaaGreat
/-
  Opening arguments of layer 11: readers.
  Conditions: none.
-/
namespace Go.Proofs.YtdpkfahaojhkhaaGreat
open Go.ChangeShapes Go.WideShapes Go.ChangeAt Go.RowKit Go.Deep Go.Joins

theorem ints_argr {H : Type} {enc : TypeId × Value → H} {P : Program} {W : World} {t e : TypeId} {n : Nat} {v : Value} {y : DataW H × List MemPlace} (ht : P.underlying t = some (.slice e)) (he : P.underlying e = some (.int .i64)) (hc : P.cellsOf e = 1)
    (hf : DataW.trod enc P W 0 (fun _ => true) true n t [v] = some y) :
    ∃ ns : List Int, ArgR W v (ns.map (Value.int .i64)) ∧ ns.length ≤ 9223372036854775807 ∧ ∀ x ∈ ns, I64 x := by
  rcases open_ints ht he hc hf with ⟨hcs, _⟩ | ⟨a, len', cap', zs, hcs, _, hl, hm, hz, _, hcell, hwz⟩
  · simp only [List.cons.injEq, and_true] at hcs
    subst hcs
    exact ⟨[], ⟨_, _, _, rfl, rfl, .inl ⟨rfl, rfl, rfl⟩⟩, by decide, fun x hx => by cases hx⟩
  · simp only [List.cons.injEq, and_true] at hcs
    subst hcs
    simp only [if_true] at hz
    have hlen : (zs.take len').length = len' := List.length_take_of_le (by omega)
    refine ⟨zs.take len', ⟨_, _, _, rfl, by rw [List.length_map, hlen], .inr ⟨a, rfl, hl, fun j u hj => ?_⟩⟩, by rw [hlen]; unfold maxLen at hm; omega, fun x hx => by
      have := hwz x (List.mem_of_mem_take hx)
      simpa [Lit.wf, IntKind.min, IntKind.max, IntKind.signed, IntKind.bits, I64] using this⟩
    obtain ⟨hj1, rfl⟩ := List.getElem?_eq_some_iff.1 hj
    have hj2 : j < len' := by
      have := hj1
      rw [List.length_map, hlen] at this
      exact this
    have h1 := hcell j (by omega)
    rw [List.getD_eq_getElem?_getD, List.getElem?_eq_getElem (by omega)] at h1
    simpa using h1
set_option maxRecDepth 100000 in
theorem readers_open {H : Type} {enc : TypeId × Value → H} {W : World} {base : Nat} {v : Value} {d : DataW H} {ps : List MemPlace}
    (hval : Value.okWide Tryz.prog W .any base 24 v) (h : DataW.Trod enc Tryz.prog W 0 (fun _ => true) true 24 v d ps) :
    ∃ (now : Int) (u1 u2 : Value) (xs ys : List Int), v = .agg #[.int .i64 now, u1, u2] ∧ ArgR W u1 (xs.map (Value.int .i64)) ∧ ArgR W u2 (ys.map (Value.int .i64)) ∧ xs.length ≤ 9223372036854775807 ∧ ys.length ≤ 9223372036854775807 ∧ (∀ y ∈ ys, I64 y) ∧ I64 now := by
  obtain ⟨v0, v1, v2, y0, y1, y2, n, rfl, _, _, h0, h1, h2⟩ := open_agg3 Tryz.underlying24 (by kernel_rfl) (by kernel_rfl) hval h
  obtain ⟨b, hb, _, wb⟩ := DataW.trod_int (t := 3) Tryz.underlying3 h0
  simp only [List.cons.injEq, and_true] at hb
  subst hb
  obtain ⟨xs, hx, lx, -⟩ := ints_argr (t := 22) Tryz.underlying22 Tryz.underlying3 (by kernel_rfl) h1
  obtain ⟨ys, hy, ly, ry⟩ := ints_argr (t := 22) Tryz.underlying22 Tryz.underlying3 (by kernel_rfl) h2
  exact ⟨b, v1, v2, xs, ys, rfl, hx, hy, lx, ly, ry, by simpa [Lit.wf, IntKind.min, IntKind.max, IntKind.signed, IntKind.bits, I64] using wb⟩
end Go.Proofs.YtdpkfahaojhkhaaGreat
namespace Go.Proofs.YtdpkfahaojhkhaaGreat
open Go.ChangeShapes Go.WideShapes Go.ChangeAt Go.RowKit Go.Deep Go.Joins

def RgC (l : List (Int × Int)) : Prop := ∀ c ∈ l, 0 ≤ c.1 ∧ c.1 < 18446744073709551616 ∧ 0 ≤ c.2 ∧ c.2 < 18446744073709551616
theorem choose_lt' {α : Type} [Inhabited α] {P : Nat → α → Prop} {n : Nat} (h : ∀ i, i < n → ∃ x, P i x) : ∃ F : Nat → α, ∀ i, i < n → P i (F i) := by
  classical
  refine ⟨fun i => if hi : i < n then (h i hi).choose else default, fun i hi => ?_⟩
  simp only [hi, dif_pos]
  exact (h i hi).choose_spec
theorem spot_none' {W : World} {a : Addr} {v : Value} (h : W.cell? a = some v) : ∃ b off, a = ⟨b, off, none⟩ := by
  obtain ⟨b, off, sp⟩ := a
  cases sp with
  | none => exact ⟨b, off, rfl⟩
  | some x =>
    simp only [World.cell?] at h
    split at h <;> simp at h
theorem list_of' {α : Type} (P : Nat → α → Prop) : ∀ n : Nat, (∀ j, j < n → ∃ x, P j x) → ∃ xs : List α, xs.length = n ∧ ∀ j (h : j < xs.length), P j xs[j]
  | 0, _ => ⟨[], rfl, fun j h => by cases h⟩
  | n + 1, h => by
    obtain ⟨xs, hl, hx⟩ := list_of' P n (fun j hj => h j (by omega))
    obtain ⟨x, hP⟩ := h n (by omega)
    refine ⟨xs ++ [x], by simp [hl], fun j hj => ?_⟩
    by_cases hjn : j < xs.length
    · rw [List.getElem_append_left hjn]; exact hx j hjn
    · have : j = n := by simp at hj; omega
      subst this
      rw [List.getElem_append_right (by omega)]
      simpa [hl] using hP
theorem bools_argr {H : Type} {enc : TypeId × Value → H} {P : Program} {W : World} {t e : TypeId} {n : Nat} {v : Value} {y : DataW H × List MemPlace} (ht : P.underlying t = some (.slice e)) (he : P.underlying e = some .bool) (hc : P.cellsOf e = 1)
    (hf : DataW.trod enc P W 0 (fun _ => true) true n t [v] = some y) :
    ∃ ls : List Bool, ArgR W v (ls.map Value.bool) ∧ ls.length ≤ 9223372036854775807 := by
  rcases open_bools ht he hc hf with ⟨hcs, _⟩ | ⟨a, len', cap', B, hcs, _, hl, hm, _, hcell⟩
  · simp only [List.cons.injEq, and_true] at hcs
    subst hcs
    exact ⟨[], ⟨_, _, _, rfl, rfl, .inl ⟨rfl, rfl, rfl⟩⟩, by decide⟩
  · simp only [List.cons.injEq, and_true] at hcs
    subst hcs
    refine ⟨(List.range len').map B, ⟨_, _, _, rfl, by simp, .inr ⟨a, rfl, hl, fun j u hj => ?_⟩⟩, by simp; unfold maxLen at hm; omega⟩
    obtain ⟨hj1, rfl⟩ := List.getElem?_eq_some_iff.1 hj
    have hj2 : j < len' := by simpa using hj1
    rw [hcell j (by omega)]
    simp


set_option maxRecDepth 100000 in
theorem cbs_open {H : Type} {enc : TypeId × Value → H} {W : World} {v : Value} {n : Nat} {y : DataW H × List MemPlace}
    (hf : DataW.trod enc Tryz.prog W 0 (fun _ => true) true n 64 [v] = some y) :
    ∃ bs : List (Int × Int), ArgQ W v bs ∧ RgC bs := by
  have hce : Tryz.prog.cellsOf 68 = 2 := by kernel_rfl
  have hcu : Tryz.prog.cellsOf 35 = 1 := by kernel_rfl
  rcases open_slice Tryz.underlying64 hf with ⟨hcs, _⟩ | ⟨a, len, cap, m, n, D, Pl, hcs, _, hl, hm, hmm, _, hall⟩
  · simp only [List.cons.injEq, and_true] at hcs
    subst hcs
    exact ⟨[], ⟨⟨_, _, rfl, by simp, by omega, fun h => absurd rfl h⟩, fun p n c e _ => (by injection e with _ _ e; exact e.symm)⟩, fun c hc => by cases hc⟩
  · simp only [List.cons.injEq, and_true] at hcs
    subst hcs
    simp only [if_true] at hmm
    have hone : ∀ i, i < len → ∃ g : Int × Int, W.cell? (a.add (i * 2)) = some (.int .u64 g.1) ∧ W.cell? (a.add (i * 2 + 1)) = some (.int .u64 g.2) ∧ 0 ≤ g.1 ∧ g.1 < 18446744073709551616 ∧ 0 ≤ g.2 ∧ g.2 < 18446744073709551616 := by
      intro i hi
      obtain ⟨cs', hc, ht⟩ := hall i (by omega)
      rw [hce] at hc
      obtain ⟨_, hcl, hat⟩ := World.cells?_some hc
      obtain ⟨xs, k, _, _, _, hlx, hx⟩ := DataW.trod_struct Tryz.underlying68 ht
      have hlx : xs.length = 2 := hlx
      match cs', hcl with
      | [c0, c1], _ =>
        have h0 : DataW.trod enc Tryz.prog W 0 (fun _ => true) true k 35 (([c0, c1].drop 0).take (Tryz.prog.cellsOf 35)) = xs[0]? := hx 0 _ rfl
        have h1 : DataW.trod enc Tryz.prog W 0 (fun _ => true) true k 35 (([c0, c1].drop 1).take (Tryz.prog.cellsOf 35)) = xs[1]? := hx 1 _ rfl
        rw [hcu] at h0 h1
        simp only [List.drop_zero, List.take_succ_cons, List.take_zero, List.drop_succ_cons] at h0 h1
        rw [List.getElem?_eq_getElem (by omega)] at h0 h1
        have e0 := hat 0 (by decide)
        have e1 := hat 1 (by decide)
        rw [Go.Deep.add_add] at e0 e1
        obtain ⟨x0, y0, _, w0⟩ := DataW.trod_int (t := 35) Tryz.underlying35 h0
        obtain ⟨x1, y1, _, w1⟩ := DataW.trod_int (t := 35) Tryz.underlying35 h1
        simp only [List.cons.injEq, and_true] at y0 y1
        subst y0 y1
        have r0 : 0 ≤ x0 ∧ x0 < 18446744073709551616 := by
          have : 0 ≤ x0 ∧ x0 ≤ 18446744073709551615 := by simpa [Lit.wf, IntKind.min, IntKind.max, IntKind.signed, IntKind.bits] using w0
          omega
        have r1 : 0 ≤ x1 ∧ x1 < 18446744073709551616 := by
          have : 0 ≤ x1 ∧ x1 ≤ 18446744073709551615 := by simpa [Lit.wf, IntKind.min, IntKind.max, IntKind.signed, IntKind.bits] using w1
          omega
        exact ⟨(x0, x1), by simpa using e0, by simpa using e1, r0.1, r0.2, r1.1, r1.2⟩
    obtain ⟨F, hF⟩ := choose_lt' hone
    have hlen : ((List.range len).map F).length = len := by simp
    refine ⟨(List.range len).map F, ⟨⟨_, _, by rw [hlen], by rw [hlen]; exact hl, by unfold maxLen at hm; omega, fun hne => ?_⟩, fun p n c e h => (by injection e with e _ _; rw [h] at e; cases e)⟩, fun c hc => ?_⟩
    · have hpos : 0 < len := by
        rcases Nat.eq_zero_or_pos len with e | e
        · subst e; exact absurd rfl hne
        · exact e
      obtain ⟨b, off, sp⟩ := a
      have h0 := (hF 0 hpos).1
      rw [Nat.zero_mul, Addr.add_zero'] at h0
      obtain ⟨b', off', e'⟩ := spot_none' h0
      cases e'
      refine ⟨b, off, rfl, fun h => h, fun i hi => ?_⟩
      rw [hlen] at hi
      have hg := hF i hi
      rw [addr_add_off, addr_add_off] at hg
      simp only [List.getElem_map, List.getElem_range]
      exact ⟨hg.1, by rw [Nat.add_assoc]; exact hg.2.1⟩
    · obtain ⟨i, hi, rfl⟩ := List.mem_map.1 hc
      exact (hF i (List.mem_range.1 hi)).2.2

theorem etrod_struct2 {H : Type} {enc : TypeId × Value → H} {P : Program} {w : World} {base : Nat} {spare : Nat → Bool} {held : Bool} {t : TypeId} {f0 f1 : Field} {fuel : Nat} {cs : List Value} {x : DataW H × List MemPlace} (ht : P.underlying t = some (.struct #[f0, f1])) (h : DataW.trod enc P w base spare held fuel t cs = some x) :
    ∃ (y0 y1 : DataW H × List MemPlace) (n : Nat), DataW.trod enc P w base spare held n f0.type ((cs.drop f0.offset).take (P.cellsOf f0.type)) = some y0 ∧ DataW.trod enc P w base spare held n f1.type ((cs.drop f1.offset).take (P.cellsOf f1.type)) = some y1 := by
  obtain ⟨xs, n, _, rfl, hl, hlen, hf⟩ := DataW.trod_struct ht h
  match xs, hlen with
  | [y0, y1], _ => exact ⟨y0, y1, n, by simpa using hf 0 f0 rfl, by simpa using hf 1 f1 rfl⟩
theorem etrod_struct4 {H : Type} {enc : TypeId × Value → H} {P : Program} {w : World} {base : Nat} {spare : Nat → Bool} {held : Bool} {t : TypeId} {f0 f1 f2 f3 : Field} {fuel : Nat} {cs : List Value} {x : DataW H × List MemPlace} (ht : P.underlying t = some (.struct #[f0, f1, f2, f3])) (h : DataW.trod enc P w base spare held fuel t cs = some x) :
    ∃ (y0 y1 y2 y3 : DataW H × List MemPlace) (n : Nat), DataW.trod enc P w base spare held n f0.type ((cs.drop f0.offset).take (P.cellsOf f0.type)) = some y0 ∧ DataW.trod enc P w base spare held n f1.type ((cs.drop f1.offset).take (P.cellsOf f1.type)) = some y1 ∧ DataW.trod enc P w base spare held n f2.type ((cs.drop f2.offset).take (P.cellsOf f2.type)) = some y2 ∧ DataW.trod enc P w base spare held n f3.type ((cs.drop f3.offset).take (P.cellsOf f3.type)) = some y3 := by
  obtain ⟨xs, n, _, rfl, hl, hlen, hf⟩ := DataW.trod_struct ht h
  match xs, hlen with
  | [y0, y1, y2, y3], _ => exact ⟨y0, y1, y2, y3, n, by simpa using hf 0 f0 rfl, by simpa using hf 1 f1 rfl, by simpa using hf 2 f2 rfl, by simpa using hf 3 f3 rfl⟩
theorem etrod_struct3 {H : Type} {enc : TypeId × Value → H} {P : Program} {w : World} {base : Nat} {spare : Nat → Bool} {held : Bool} {t : TypeId} {f0 f1 f2 : Field} {fuel : Nat} {cs : List Value} {x : DataW H × List MemPlace} (ht : P.underlying t = some (.struct #[f0, f1, f2])) (h : DataW.trod enc P w base spare held fuel t cs = some x) :
    ∃ (y0 y1 y2 : DataW H × List MemPlace) (n : Nat), DataW.trod enc P w base spare held n f0.type ((cs.drop f0.offset).take (P.cellsOf f0.type)) = some y0 ∧ DataW.trod enc P w base spare held n f1.type ((cs.drop f1.offset).take (P.cellsOf f1.type)) = some y1 ∧ DataW.trod enc P w base spare held n f2.type ((cs.drop f2.offset).take (P.cellsOf f2.type)) = some y2 := by
  obtain ⟨xs, n, _, rfl, hl, hlen, hf⟩ := DataW.trod_struct ht h
  match xs, hlen with
  | [y0, y1, y2], _ => exact ⟨y0, y1, y2, n, by simpa using hf 0 f0 rfl, by simpa using hf 1 f1 rfl, by simpa using hf 2 f2 rfl⟩
theorem cut_cells {H : Type} {enc : TypeId × Value → H} {P : Program} {w : World} {base : Nat} {spare : Nat → Bool} {held : Bool} {n k : Nat} {t : TypeId} {cs cs' : List Value} {y : DataW H × List MemPlace} (hc : P.cellsOf t = k) (hcs : cs.take k = cs') (h : DataW.trod enc P w base spare held n t (cs.take (P.cellsOf t)) = some y) : DataW.trod enc P w base spare held n t cs' = some y := by
  rw [hc, hcs] at h
  exact h

theorem cells2 {w : World} {a : Addr} {cs : List Value} (h : w.cells? 0 a 2 = some cs) : ∃ x0 x1, cs = [x0, x1] ∧ w.cell? a = some x0 ∧ w.cell? (a.add 1) = some x1 := by
  unfold World.cells? at h
  rw [if_pos (Nat.zero_le _)] at h
  have r2 : List.range 2 = [0, 1] := rfl
  have a0 : a.add 0 = a := rfl
  cases h0 : w.cell? a with
  | none => simp [r2, a0, h0] at h
  | some x0 =>
    cases h1 : w.cell? (a.add 1) with
    | none => simp [r2, a0, h0, h1] at h
    | some x1 =>
      simp [r2, a0, h0, h1] at h
      exact ⟨x0, x1, h.symm, rfl, rfl⟩
set_option maxRecDepth 100000 in
theorem queue_cells {H : Type} {enc : TypeId × Value → H} {W : World} {n : Nat} {c0 c1 : Value} {y : DataW H × List MemPlace} (h : DataW.trod enc Tryz.prog W 0 (fun _ => true) true n 66 [c0, c1] = some y) :
    ∃ (over : Int) (bs : List (Int × Int)), c1 = .int .u64 over ∧ ArgQ W c0 bs ∧ RgC bs ∧ 0 ≤ over := by
  obtain ⟨y0, y1, m, h0, h1⟩ := etrod_struct2 Tryz.underlying66 h
  have h0 := cut_cells (k := 1) (t := 64) (cs' := [c0]) (by kernel_rfl) rfl h0
  have h1 := cut_cells (k := 1) (t := 35) (cs' := [c1]) (by kernel_rfl) rfl h1
  obtain ⟨k, hk, _, wk⟩ := DataW.trod_int (t := 35) Tryz.underlying35 h1
  simp only [List.cons.injEq, and_true] at hk
  subst hk
  obtain ⟨bs, hb, hr⟩ := cbs_open h0
  have : 0 ≤ k ∧ k ≤ 18446744073709551615 := by simpa [Lit.wf, IntKind.min, IntKind.max, IntKind.signed, IntKind.bits] using wk
  exact ⟨k, bs, rfl, hb, hr, this.1⟩
set_option maxRecDepth 100000 in
theorem queues_open {H : Type} {enc : TypeId × Value → H} {W : World} {n : Nat} {v : Value} {y : DataW H × List MemPlace} (h : DataW.trod enc Tryz.prog W 0 (fun _ => true) true n 28 [v] = some y) :
    ∃ (qs : List (Int × List (Int × Int))), ArgQs W v qs ∧ qs.length ≤ 9223372036854775807 ∧ ∀ q ∈ qs, 0 ≤ q.1 ∧ RgC q.2 := by
  have hce : Tryz.prog.cellsOf 66 = 2 := by kernel_rfl
  rcases DataW.trod_slice Tryz.underlying28 h with ⟨hcs, -⟩ | ⟨a, len, cap, elems, rest, m, -, hcs, -, -, hlc, hcm, hlen, hel, -, -⟩
  · simp only [List.cons.injEq, and_true] at hcs
    subst hcs
    exact ⟨[], ⟨none, 0, 0, rfl, rfl, Nat.le_refl _, fun h => absurd rfl h⟩, by decide, fun x hx => by cases hx⟩
  · simp only [List.cons.injEq, and_true] at hcs
    subst hcs
    obtain ⟨rs, hrl, hrs⟩ := list_of' (fun i (x : Int × List (Int × Int)) => (∃ lv, W.cell? (a.add (i * 2)) = some lv ∧ W.cell? ((a.add (i * 2)).add 1) = some (.int .u64 x.1) ∧ ArgQ W lv x.2) ∧ 0 ≤ x.1 ∧ RgC x.2) len (fun i hi => by
      have h1 := hel i hi
      rw [hce, List.getElem?_eq_getElem (by omega)] at h1
      obtain ⟨cs, hcs, htr⟩ := Option.bind_eq_some_iff.1 h1
      obtain ⟨x0, x1, rfl, k0, k1⟩ := cells2 hcs
      obtain ⟨over, bs, rfl, hq, hr, ho⟩ := queue_cells htr
      exact ⟨(over, bs), ⟨x0, k0, k1, hq⟩, ho, hr⟩)
    refine ⟨rs, ⟨some a, len, cap, rfl, hrl.symm, hlc, fun hne => ?_⟩, by rw [hrl]; unfold maxLen at hcm; omega, fun x hx => ?_⟩
    · have hpos := List.length_pos_iff.2 hne
      obtain ⟨⟨lv0, h0, -⟩, -⟩ := hrs 0 hpos
      have ea : a.add (0 * 2) = a := rfl
      rw [ea] at h0
      obtain ⟨b, off, rfl⟩ := spot_none' h0
      refine ⟨b, off, rfl, fun i hi => ?_⟩
      obtain ⟨⟨lv, k0, k1, hq⟩, -⟩ := hrs i hi
      simp only [addr_add_off] at k0 k1
      exact ⟨lv, k0, k1, hq⟩
    · obtain ⟨i, hi, rfl⟩ := List.getElem_of_mem hx
      exact (hrs i hi).2
theorem array8 {cs : Array Value} (h : cs.size = 8) : ∃ c0 c1 c2 c3 c4 c5 c6 c7, cs = #[c0, c1, c2, c3, c4, c5, c6, c7] := by
  obtain ⟨l⟩ := cs
  match l, h with
  | [c0, c1, c2, c3, c4, c5, c6, c7], _ => exact ⟨c0, c1, c2, c3, c4, c5, c6, c7, rfl⟩
set_option maxRecDepth 100000 in
theorem rcu_open {H : Type} {enc : TypeId × Value → H} {W : World} {base : Nat} {v : Value} {d : DataW H} {ps : List MemPlace}
    (hval : Value.okWide Tryz.prog W .any base 30 v) (h : DataW.Trod enc Tryz.prog W 0 (fun _ => true) true 30 v d ps) :
    ∃ (r : RcS) (u1 u2 u3 u4 : Value), v = .agg #[.int .i64 r.s.now, u1, u2, .int .i64 r.g.done, .int .i64 r.g.asked, .bool r.g.on, u3, u4] ∧ ArgRc W u1 u2 u3 u4 r ∧ RcR (ownRc r) := by
  obtain ⟨cs, rfl, hsz⟩ := okWide_struct Tryz.underlying30 hval
  obtain ⟨c0, c1, c2, c3, c4, c5, c6, c7, rfl⟩ := array8 (hsz.trans (by kernel_rfl))
  obtain ⟨fuel, hf⟩ := h
  obtain ⟨y0, y1, y2, n, h0, h1, h2⟩ := etrod_struct3 Tryz.underlying30 hf
  have h0 := cut_cells (k := 3) (t := 24) (cs' := [c0, c1, c2]) (by kernel_rfl) rfl h0
  have h1 := cut_cells (k := 4) (t := 27) (cs' := [c3, c4, c5, c6]) (by kernel_rfl) rfl h1
  have h2 := cut_cells (k := 1) (t := 28) (cs' := [c7]) (by kernel_rfl) rfl h2
  obtain ⟨z0, z1, z2, m, g0, g1, g2⟩ := etrod_struct3 Tryz.underlying24 h0
  have g0 := cut_cells (k := 1) (t := 3) (cs' := [c0]) (by kernel_rfl) rfl g0
  have g1 := cut_cells (k := 1) (t := 22) (cs' := [c1]) (by kernel_rfl) rfl g1
  have g2 := cut_cells (k := 1) (t := 22) (cs' := [c2]) (by kernel_rfl) rfl g2
  obtain ⟨now, e0, _, _⟩ := DataW.trod_int (t := 3) Tryz.underlying3 g0
  obtain ⟨xs, hx, lx, -⟩ := ints_argr (t := 22) Tryz.underlying22 Tryz.underlying3 (by kernel_rfl) g1
  obtain ⟨ys, hy, ly, ry⟩ := ints_argr (t := 22) Tryz.underlying22 Tryz.underlying3 (by kernel_rfl) g2
  obtain ⟨a0, a1, a2, a3, k, f0, f1, f2, f3⟩ := etrod_struct4 Tryz.underlying27 h1
  have f0 := cut_cells (k := 1) (t := 3) (cs' := [c3]) (by kernel_rfl) rfl f0
  have f1 := cut_cells (k := 1) (t := 3) (cs' := [c4]) (by kernel_rfl) rfl f1
  have f2 := cut_cells (k := 1) (t := 4) (cs' := [c5]) (by kernel_rfl) rfl f2
  have f3 := cut_cells (k := 1) (t := 25) (cs' := [c6]) (by kernel_rfl) rfl f3
  obtain ⟨dn, e3, _, _⟩ := DataW.trod_int (t := 3) Tryz.underlying3 f0
  obtain ⟨ask, e4, _, w4⟩ := DataW.trod_int (t := 3) Tryz.underlying3 f1
  obtain ⟨on, e5, _⟩ := DataW.trod_bool (t := 4) Tryz.underlying4 f2
  obtain ⟨ls, hb, lb⟩ := bools_argr (t := 25) Tryz.underlying25 Tryz.underlying4 (by kernel_rfl) f3
  obtain ⟨qs, hq, lq, rq⟩ := queues_open h2
  simp only [List.cons.injEq, and_true] at e0 e3 e4 e5
  subst e0 e3 e4 e5
  refine ⟨⟨⟨now, xs, ys⟩, ⟨dn, ask, on, ls⟩, qs⟩, c1, c2, c6, c7, rfl, ⟨hx, hy, hb, hq, lx, ly, lb, lq⟩, ⟨?_, ?_, ?_, ?_, ?_, ?_, ?_, ?_⟩⟩
  · simp only [ownRc, List.length_take]; omega
  · simp only [ownRc, List.length_take]; omega
  · simp only [ownRc, List.length_take]; omega
  · simp only [ownRc, List.length_map, List.length_take]; omega
  · intro x hx
    exact ry x (List.mem_of_mem_take hx)
  · intro q hq
    obtain ⟨q', hq', rfl⟩ := List.mem_map.1 hq
    exact (rq q' (List.mem_of_mem_take hq')).1
  · intro q hq c hc
    obtain ⟨q', hq', rfl⟩ := List.mem_map.1 hq
    exact ((rq q' (List.mem_of_mem_take hq')).2 c (List.mem_of_mem_take hc)).1
  · show I64 ask
    simpa [Lit.wf, IntKind.min, IntKind.max, IntKind.signed, IntKind.bits, I64] using w4

end Go.Proofs.YtdpkfahaojhkhaaGreat
