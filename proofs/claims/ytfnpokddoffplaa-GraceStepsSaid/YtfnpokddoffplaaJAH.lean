/-
  GraceStays answers true of all graces and numbers, and leaves its arguments as they were.
  Conditions: none.
-/
import Derived.Test.YtfnpokddoffplaaJA10
import Derived.Test.YtfnpokddoffplaaJA4
import Derived.Test.YtfnpokddoffplaaJA1
import Derived.Test.YtfnpokddoffplaaJA8
/-
  The first test of the statements of layer 12: it is passed.
  Conditions: none.
-/
namespace Go.Proofs.Ytfnpokddoffplaa
set_option maxRecDepth 100000
open Go.RowKit Go.Shelf
attribute [local go_sem] Oper.semAt_some

set_option maxHeartbeats 64000000 in
theorem wakes_c (W : World) : Calls Try.prog 8 #[] W fun e w' => e = .returned (.bool true) ∧ Below W.heap.size W w' := by
  have HBE := Lib.hid (show Calls Try.prog 29 #[.int .i64 2] W fun e w' => BegunQ 2 e w' ∧ Below W.heap.size W w' from begun_c 2 (by omega) (by omega) W)
  go_enter Try.func8, Try.ntmps8
  go_wp2_with fail
  (with_reducible refine HBE.out.mono ?_)
  rintro e w1 ⟨⟨g1, h1, n1, rfl, hg, hh, hn⟩, hb1⟩
  obtain ⟨wA, hwA⟩ : ∃ X : World, X = (w1.alloc (.cells #[.int .i64 0, .slice (some ⟨g1, 0, none⟩) 2 2, .slice (some ⟨h1, 0, none⟩) 2 2] 45)).alloc (.cells #[.int .i64 0, .int .i64 0, .bool false, .slice (some ⟨n1, 0, none⟩) 2 2] 24) := ⟨_, rfl⟩
  have hbA : Below w1.heap.size w1 wA := by rw [hwA]; exact below2 _ _ _
  obtain ⟨b1, hb1e⟩ : ∃ b, b = w1.heap.size := ⟨_, rfl⟩
  obtain ⟨b2, hb2e⟩ : ∃ b, b = w1.heap.size + 1 := ⟨_, rfl⟩
  have HBA := Lib.hid (show WkA b1 b2 g1 h1 n1 wA from ⟨by rw [hwA, hb1e]; exact (RBox.new w1 _ _ _).below (below1 _ _), by
      rw [hwA, hb2e]
      have := GBox.new (w1.alloc (.cells #[.int .i64 0, .slice (some ⟨g1, 0, none⟩) 2 2, .slice (some ⟨h1, 0, none⟩) 2 2] 45)) 0 0 false (.slice (some ⟨n1, 0, none⟩) 2 2)
      simpa using this, hg.below hbA, hh.below hbA, hn.below hbA⟩)
  have HWB := Lib.hid (show Below W.heap.size W wA from below_then hb1 hb1.size hbA)
  have HWA := Lib.hid (And.intro hwA (And.intro hb1e hb2e))
  clear hwA hb1e hb2e hbA hg hh hn hb1 HBE
  go_upto_region 2 with fail
  rw [← HWA.out.1, ← HWA.out.2.2, ← HWA.out.2.1]
  clear HWA
  refine wk_reg2 b1 b2 g1 h1 n1 wA HBA.out _ (by kernel_rfl) _ (fun c a i v w h => by cases i <;> exact h) ?_
  intro zr zg nb pl cl q1 q2 tb wB hF2
  have HF2 := Lib.hid hF2
  clear hF2
  replace HBA := Lib.hid (HBA.out.below HF2.out.2.2.2)
  replace HWB := Lib.hid (below_then HWB.out HWB.out.size HF2.out.2.2.2)
  go_upto_region 3 with fail
  refine wk_reg3 b1 b2 g1 h1 n1 zr zg nb pl cl q1 q2 tb wB HBA.out _ (by kernel_rfl) _ (fun c a i v w h => by cases i <;> exact h) ?_
  intro zr3 zg3 nb3 pl3 cl3 q13 q23 tb3 wC hF3
  have HF3 := Lib.hid hF3
  clear hF3
  have HX := Lib.hid (show GBox wC zg 0 1 true (.slice (some ⟨nb, 0, none⟩) 2 2) ∧ BBlock wC nb [false, true] ∧ wC.ownsRow 0 3 1 (.slice pl 1 cl) 1 [.int .i64 1] from ⟨HF2.out.1.below HF3.out.2.2.2, HF2.out.2.1.below HF3.out.2.2.2, owns_below HF2.out.2.2.1 HF3.out.2.2.2⟩)
  replace HWB := Lib.hid (below_then HWB.out HWB.out.size HF3.out.2.2.2)
  have HX3 := Lib.hid (And.intro HF3.out.1 (And.intro HF3.out.2.1 HF3.out.2.2.1))
  clear HF3 HF2
  obtain ⟨d0, d1, d2, d3⟩ := HX.out.1.cells
  have HBG := Lib.hid (gBegin_c ⟨0, 1, true, [false, true]⟩ (.slice (some ⟨nb, 0, none⟩) 2 2) wC HX.out.2.1.bools (by decide))
  go_wp2_with fail
  (with_reducible refine HBG.out.mono ?_)
  rintro e w4 ⟨⟨d, a, on, p, n, cc, x, rfl, hA⟩, hb4⟩
  have hx : x = 5 := by
    rcases hA with h | h
    · rw [h.2.1]; decide
    · exact absurd h.1 (by decide)
  subst hx
  obtain ⟨w5, hw5⟩ : ∃ X : World, X = w4.alloc (.cells #[.int .i64 d, .int .i64 a, .bool on, .slice p n cc] 24) := ⟨_, rfl⟩
  have hb5 : Below w4.heap.size w4 w5 := by rw [hw5]; exact below1 _ _
  have hb45 : Below wC.heap.size wC w5 := below_then hb4 hb4.size hb5
  have HY := Lib.hid (show ∀ Z, Below w5.heap.size w5 Z → GBox Z zg 0 1 true (.slice (some ⟨nb, 0, none⟩) 2 2) ∧ BBlock Z nb [false, true] ∧ Z.ownsRow 0 3 1 (.slice pl 1 cl) 1 [.int .i64 1] ∧ GBox Z zg3 1 1 false (.slice (some ⟨nb3, 0, none⟩) 2 2) ∧ BBlock Z nb3 [false, false] ∧ Z.ownsRow 0 3 1 (.slice pl3 1 cl3) 1 [.int .i64 1] ∧ Below W.heap.size W Z from fun Z hZ => by
    have hb := below_then hb45 hb45.size hZ
    obtain ⟨f1, f2, f3⟩ := HX.out
    obtain ⟨k1, k2, k3⟩ := HX3.out
    exact ⟨f1.below hb, f2.below hb, owns_below f3 hb, k1.below hb, k2.below hb, owns_below k3 hb, below_then HWB.out HWB.out.size hb⟩)
  have HW5 := Lib.hid hw5
  clear hb4 hb5 hb45 hw5 hA HX HX3 HWB HBG d0 d1 d2 d3
  obtain ⟨w6, hw6⟩ : ∃ X : World, X = w5.alloc (.cells #[.int .i64 1] 3) := ⟨_, rfl⟩
  have hb6 : Below w5.heap.size w5 w6 := by rw [hw6]; exact below1 _ _
  have HE1 := Lib.hid (equalI_c (.slice pl 1 cl) (.slice (some ⟨w5.heap.size, 0, none⟩) 1 1) [1] [1] w6 (nums_of_owns rfl (HY.out w6 hb6).2.2.1) (IBlock.nums (ns := [1]) (by rw [hw6]; exact World.alloc_heap_new _ _)) (by decide) (by decide))
  rw [show decide ([(1 : Int)] = [1]) = true by decide] at HE1
  have HB6 := Lib.hid hb6
  have HW6 := Lib.hid hw6
  clear hw6 hb6
  go_upto_region 5 with fail
  rw [← HW5.out]
  clear HW5
  go_wp2_with fail
  rw [← HW6.out]
  clear HW6
  (with_reducible refine HE1.out.mono ?_)
  rintro e w7 ⟨rfl, hb7⟩
  have HB7 := Lib.hid (below_then HB6.out HB6.out.size hb7)
  have HE2 := Lib.hid (equalI_c (.slice pl3 1 cl3) (.slice pl 1 cl) [1] [1] w7 (nums_of_owns rfl (HY.out w7 HB7.out).2.2.2.2.2.1) (nums_of_owns rfl (HY.out w7 HB7.out).2.2.1) (by decide) (by decide))
  rw [show decide ([(1 : Int)] = [1]) = true by decide] at HE2
  clear hb7 HE1
  go_wp2_with fail
  (with_reducible refine HE2.out.mono ?_)
  rintro e w8 ⟨rfl, hb8⟩
  have HB8 := Lib.hid (below_then HB7.out HB7.out.size hb8)
  obtain ⟨d0, d1, d2, d3⟩ := (HY.out w8 HB8.out).1.cells
  have HO1 := Lib.hid (gover_c ⟨0, 1, true, [false, true]⟩ (.slice (some ⟨nb, 0, none⟩) 2 2) 1 w8 (HY.out w8 HB8.out).2.1.bools (by decide))
  rw [show overB ⟨0, 1, true, [false, true]⟩ 1 = false by decide] at HO1
  clear hb8 HE2 HB7
  go_wp2_with fail
  (with_reducible refine HO1.out.mono ?_)
  rintro e w9 ⟨rfl, hb9⟩
  have HB9 := Lib.hid (below_then HB8.out HB8.out.size hb9)
  obtain ⟨w10, hw10⟩ : ∃ X : World, X = w9.alloc (.cells #[.bool false, .bool true] 4) := ⟨_, rfl⟩
  have hb10 : Below w9.heap.size w9 w10 := by rw [hw10]; exact below1 _ _
  have HB10 := Lib.hid (below_then HB9.out HB9.out.size hb10)
  have HE3 := Lib.hid (equalB_c (.slice (some ⟨nb, 0, none⟩) 2 2) (.slice (some ⟨w9.heap.size, 0, none⟩) 2 2) [false, true] [false, true] w10 (HY.out w10 HB10.out).2.1.bools (BBlock.bools (bs := [false, true]) (by rw [hw10]; exact World.alloc_heap_new _ _)) (by decide) (by decide))
  rw [show decide ([false, true] = [false, true]) = true by decide] at HE3
  clear d0 d1 d2 d3
  obtain ⟨d0, d1, d2, d3⟩ := (HY.out w9 HB9.out).1.cells
  have HW10 := Lib.hid hw10
  clear hb9 hb10 hw10 HO1 HB8
  go_wp2_with fail
  rw [← HW10.out]
  clear HW10
  (with_reducible refine HE3.out.mono ?_)
  rintro e w11 ⟨rfl, hb11⟩
  have HB11 := Lib.hid (below_then HB10.out HB10.out.size hb11)
  have HO2 := Lib.hid (gover_c ⟨1, 1, false, [false, false]⟩ (.slice (some ⟨nb3, 0, none⟩) 2 2) 1 w11 (HY.out w11 HB11.out).2.2.2.2.1.bools (by decide))
  rw [show overB ⟨1, 1, false, [false, false]⟩ 1 = true by decide] at HO2
  clear d0 d1 d2 d3
  obtain ⟨d0, d1, d2, d3⟩ := (HY.out w11 HB11.out).2.2.2.1.cells
  clear hb11 HE3
  go_wp2_with fail
  (with_reducible refine HO2.out.mono ?_)
  rintro e w12 ⟨rfl, hb12⟩
  have HB12 := Lib.hid (below_then HB11.out HB11.out.size hb12)
  clear d0 d1 d2 d3
  obtain ⟨d0, d1, d2, d3⟩ := (HY.out w12 HB12.out).2.2.2.1.cells
  have HFIN := Lib.hid (HY.out w12 HB12.out).2.2.2.2.2.2
  clear hb12 HO2
  go_wp2
  go_ret
  exact ⟨rfl, HFIN.out⟩

end Go.Proofs.Ytfnpokddoffplaa
/-
  own, none, of the statements of layer 12; the document's Same.
  Conditions: the grace is one that came in.
-/
namespace Go.Proofs.Ytfnpokddoffplaa
set_option maxRecDepth 100000
open Go.RowKit Go.Shelf
attribute [local go_sem] Oper.semAt_some

theorem vals_cut10 {W : World} {p : Option Addr} {n c : Nat} {xs : List Value} (hn : n = xs.length) (h : (p = none ∧ n = 0 ∧ c = 0) ∨ ∃ a : Addr, p = some a ∧ n ≤ c ∧ ∀ j u, xs[j]? = some u → W.cell? (a.add j) = some u) :
    ValsAt W (.slice p (min n 10) c) 1 (min n 10) (xs.take 10) := by
  refine ⟨by rw [List.length_take, hn]; omega, p, c, rfl, ?_⟩
  rcases h with ⟨rfl, rfl, rfl⟩ | ⟨a, rfl, _, hcs⟩
  · exact .inl ⟨rfl, rfl, rfl⟩
  · refine .inr ⟨a, rfl, fun j u hj => hcs j u ?_⟩
    rw [List.getElem?_take] at hj
    split at hj
    · exact hj
    · cases hj
theorem run_cutB (p : Option Addr) (n c k : Nat) (h : k ≤ c) (wx : World) :
    (Instr.slice 22 (.slice p n c) none (some (.int .i64 (k : Int))) none).run Try.prog wx = .ok (.slice p k c) wx := by
  rw [run_slice_h wx 22 p n c Try.underlying22 .i64 (k : Int) (by omega) (by omega)]
  have hE : (sizeOf (Try.prog.elem 22)).run Try.prog wx = .ok 1 wx := by go_simp
  rw [hE]
  have : Option.map (fun x : Addr => x.add 0) p = p := by cases p <;> simp [Addr.add_zero']
  simp [sliced, Result.andThen, this]
theorem run_min10 (n k : Nat) (hk : k = min n 10) (wx : World) : (Builtin.min_ #[3, 3] 3 #[.int .i64 (n : Int), .int .i64 10]).run Try.prog wx = .ok (.int .i64 (k : Int)) wx := by
  have : (if (10 : Int) < (n : Int) then (10 : Int) else n) = (k : Int) := by rw [hk]; split <;> omega
  simp [Builtin.min_, Builtin.min2, this]
theorem GBox.result1 {fn : Func} {W : World} {z : Nat} {a : Tmp} {d k : Int} {on : Bool} {v : Value} (h : GBox W z d k on v) (hf : fn.results = #[.cell a 24]) (tmps : Array Value) (h2 : tmps.getD a undef = .pointer (some ⟨z, 0, none⟩)) :
    (results fn tmps).run Try.prog W = .ok (.agg #[.int .i64 d, .int .i64 k, .bool on, v]) W := results_cell1 hf tmps _ _ h2 (grace_load h)
/-- A grace in new memory. -/
def GivesG (B : Nat) (g : GrS) (e : Ending) (w' : World) : Prop := ∃ p c, e = .returned (.agg #[.int .i64 g.done, .int .i64 g.asked, .bool g.on, .slice p g.nd.length c]) ∧ w'.ownsRow B 4 1 (.slice p g.nd.length c) g.nd.length (g.nd.map Value.bool)

set_option maxHeartbeats 8000000 in
theorem own12_c (d a : Int) (on : Bool) (v : Value) (xs : List Bool) (W : World) (h0 : ArgR W v (xs.map Value.bool)) (hx : xs.length ≤ 9223372036854775807) :
    Calls Try.prog 9 #[.agg #[.int .i64 d, .int .i64 a, .bool on, v]] W fun e w' => GivesG W.heap.size ⟨d, a, on, xs.take 10⟩ e w' ∧ Below W.heap.size W w' := by
  obtain ⟨p0, n0, c0, rfl, hn0, hp0⟩ := id h0
  rw [List.length_map] at hn0
  obtain ⟨k0, hk0⟩ : ∃ k, k = min n0 10 := ⟨_, rfl⟩
  have hnc0 : n0 ≤ c0 := by rcases hp0 with ⟨_, b, c⟩ | ⟨_, _, b, _⟩ <;> omega
  have HL := Lib.hid (show (xs.take 10).length = k0 by rw [List.length_take]; omega)
  have HC0 := Lib.hid (show ∀ Z : World, Below W.heap.size W Z → Calls Try.prog 38 #[.slice p0 k0 c0] Z fun e w' => (∃ p' c', e = .returned (.slice p' k0 c') ∧ w'.ownsRow Z.heap.size 4 1 (.slice p' k0 c') k0 ((xs.take 10).map Value.bool)) ∧ Below Z.heap.size Z w' from fun Z hb => by
    obtain ⟨p1, n1, c1, e, hn1, hp1⟩ := h0.below hb
    injection e with e1 e2 e3
    subst e1 e2 e3
    have h := cloneB _ _ _ Z (vals_cut10 hn1 hp1) (fun u hu => by obtain ⟨x, _, rfl⟩ := List.mem_map.1 (List.mem_of_mem_take hu); rfl) (by omega)
    rw [← List.map_take, ← hk0] at h
    refine h.mono ?_
    rintro e w' ⟨⟨v', rfl, ho⟩, hb⟩
    obtain ⟨p', c', rfl⟩ := owns_slice ho
    exact ⟨⟨p', c', rfl, ho⟩, hb⟩)
  have hs0 : ∀ wx, (Instr.slice 22 (.slice p0 n0 c0) none (some (.int .i64 (k0 : Int))) none).run Try.prog wx = .ok (.slice p0 k0 c0) wx := run_cutB p0 n0 c0 k0 (by omega)
  have hm0 := run_min10 n0 k0 hk0
  have hw0' : n0 ≤ 9223372036854775807 := by omega
  obtain ⟨wo, hwo⟩ : ∃ X, X = wSG W d a on (.slice p0 n0 c0) 0 0 false (.slice none 0 0) := ⟨_, rfl⟩
  have HG := Lib.hid (wSG_facts W d a on (.slice p0 n0 c0) 0 0 false (.slice none 0 0))
  have HSZ := Lib.hid (show wo.heap.size = W.heap.size + 2 by rw [hwo]; unfold wSG; simp)
  rw [← hwo] at HG
  unfold wSG at hwo
  obtain ⟨d0, d1, d2, d3⟩ := HG.out.1.cells
  have HCC := Lib.hid (HC0.out wo HG.out.2.2)
  clear hp0 hk0 hx hn0 h0 hnc0 HC0
  go_enter Try.func9, Try.ntmps9
  go_wp2_with fail
  rw [← hwo]
  clear hwo
  (with_reducible refine HCC.out.mono ?_)
  rintro e w1 ⟨⟨q, cq, rfl, ho⟩, hb1⟩
  have hz := HSZ.out
  have g1 := HG.out.1.below hb1
  have r1 := HG.out.2.1.below hb1
  have hB1 := below_then HG.out.2.2 HG.out.2.2.size hb1
  have hk2 := setK w1 W.heap.size 3 (.slice q k0 cq)
  have g2 : GBox (w1.setCell ⟨W.heap.size, 3, none⟩ (.slice q k0 cq)) W.heap.size d a on (.slice q k0 cq) := by
    unfold GBox; rw [heap_setCell_same w1 W.heap.size 3 _ _ _ g1]; rfl
  have r2 := r1.keeps hk2 (by omega)
  obtain ⟨d0, d1, d2, d3⟩ := g1.cells
  have m3 := g1.marks 3
  obtain ⟨w2, hw2⟩ : ∃ X : World, X = w1.setCell ⟨W.heap.size, 3, none⟩ (.slice q k0 cq) := ⟨_, rfl⟩
  rw [← hw2] at g2 r2 hk2
  have hp3 := r2.put d a on (.slice q k0 cq)
  have hk3 := GBox.putK w2 (W.heap.size + 1) d a on (.slice q k0 cq)
  obtain ⟨w3, hw3⟩ : ∃ X : World, X = ((((w2.setCell ⟨W.heap.size + 1, 0, none⟩ (.int .i64 d)).setCell ⟨W.heap.size + 1, 1, none⟩ (.int .i64 a)).setCell ⟨W.heap.size + 1, 2, none⟩ (.bool on)).setCell ⟨W.heap.size + 1, 3, none⟩ (.slice q k0 cq)) := ⟨_, rfl⟩
  rw [← hw3] at hp3 hk3
  have HFIN := Lib.hid (show GBox w3 (W.heap.size + 1) d a on (.slice q k0 cq) ∧ w3.ownsRow W.heap.size 4 1 (.slice q k0 cq) k0 ((xs.take 10).map Value.bool) ∧ Below W.heap.size W w3 from by
    refine ⟨hp3, (hk3.row (hk2.row ho (fun g hg e => by have := (ho.lt g hg).1; omega)) (fun g hg e => by have := (ho.lt g hg).1; omega)).mono (by omega), ?_⟩
    exact (hB1.trans (hk2.below hB1.size (fun k e => by omega))).trans (hk3.below (hB1.trans (hk2.below hB1.size (fun k e => by omega))).size (fun k e => by omega)))
  have HX := Lib.hid (And.intro g2 r2)
  have HW2 := Lib.hid hw2
  have HW3 := Lib.hid hw3
  clear hw2 hw3 hp3 hk3 g1 r1 g2 r2 hk2 ho hb1 hB1 hs0 hm0 HCC HG
  go_upto_region 2 with fail
  rw [← HW2.out]
  clear d0 d1 d2 d3 m3
  obtain ⟨d0, d1, d2, d3⟩ := HX.out.1.cells
  obtain ⟨e0, e1, e2, e3⟩ := HX.out.2.cells
  have m0 := HX.out.2.marks 0
  have m1 := HX.out.2.marks 1
  have m2 := HX.out.2.marks 2
  have m3 := HX.out.2.marks 3
  go_wp2
  rw [← HW3.out]
  refine bodyPost_ret (HFIN.out.1.result1 rfl _ rfl) rfl ⟨⟨q, cq, ?_, ?_⟩, HFIN.out.2.2⟩
  · simp only; rw [HL.out]
  · simp only; rw [HL.out]; exact HFIN.out.2.1

end Go.Proofs.Ytfnpokddoffplaa
/-
  Ask, Pick, Report of a grace that may be, in one form; what the statements of layer 12 reckon.
  Conditions: the grace may be.
-/
namespace Go.Proofs.Ytfnpokddoffplaa
set_option maxRecDepth 100000
open Go.RowKit Go.Shelf

theorem u64_rng (x : Int) : 0 ≤ IntKind.u64.wrap x ∧ IntKind.u64.wrap x ≤ 18446744073709551615 := by
  simp only [IntKind.wrap, IntKind.signed, IntKind.bits]
  simp
  omega
theorem many8 (mn : Int) : ∃ k : Nat, 1 ≤ k ∧ k ≤ 8 ∧ wrap64 (1 + wrap64 ((IntKind.u64.wrap mn).tmod 8)) = (k : Int) := by
  obtain ⟨h0, _⟩ := u64_rng mn
  rw [Int.tmod_eq_emod_of_nonneg h0]
  generalize IntKind.u64.wrap mn = u at h0
  refine ⟨(1 + u % 8).toNat, by omega, by omega, ?_⟩
  unfold wrap64
  omega
theorem pick8 (p : Int) {n : Nat} (hn : 1 ≤ n) (hn8 : n ≤ 8) : ∃ r : Nat, r < n ∧ wrap64 ((IntKind.u64.wrap p).tmod (n : Int)) = (r : Int) := by
  obtain ⟨h0, _⟩ := u64_rng p
  rw [Int.tmod_eq_emod_of_nonneg h0]
  generalize IntKind.u64.wrap p = u at h0
  have h1 := Int.emod_nonneg u (show (n : Int) ≠ 0 by omega)
  have h2 := Int.emod_lt_of_pos u (show (0 : Int) < n by omega)
  refine ⟨(u % n).toNat, by omega, ?_⟩
  unfold wrap64
  omega
/-- A grace in a box, and its row. -/
structure GzAt (W : World) (z : Nat) (g : GrS) (p : Option Addr) (c : Nat) : Prop where
  box : GBox W z g.done g.asked g.on (.slice p g.nd.length c)
  row : BoolsAt W (.slice p g.nd.length c) g.nd
theorem GzAt.below {W W' : World} {z : Nat} {g : GrS} {p : Option Addr} {c : Nat} (h : GzAt W z g p c) (hb : Below W.heap.size W W') : GzAt W' z g p c := ⟨h.box.below hb, bools_below h.row hb⟩
theorem GzAt.new (W : World) (g : GrS) (p : Option Addr) (c : Nat) (h : BoolsAt W (.slice p g.nd.length c) g.nd) : GzAt (W.alloc (.cells #[.int .i64 g.done, .int .i64 g.asked, .bool g.on, .slice p g.nd.length c] 24)) W.heap.size g p c := ⟨GBox.new _ _ _ _ _, bools_below h (below1 _ _)⟩
/-- A grace and no error, in new memory. -/
def OutG (B : Nat) (g : GrS) (e : Ending) (w : World) : Prop := ∃ nb, e = .returned (.tuple #[.agg #[.int .i64 g.done, .int .i64 g.asked, .bool g.on, .slice (some ⟨nb, 0, none⟩) g.nd.length g.nd.length], .int .i64 0]) ∧ BBlock w nb g.nd ∧ B ≤ nb
theorem outG_of {B : Nat} {E : Int} {g' : GrS} {w : World} {e : Ending} (hE : E = 0) (h : ∃ d a on p n cc x, e = .returned (.tuple #[.agg #[.int .i64 d, .int .i64 a, .bool on, .slice p n cc], .int .i64 x]) ∧ AnsG B E g' d a on p n cc x w) : OutG B g' e w := by
  obtain ⟨d, a, on, p, n, cc, x, rfl, hA⟩ := h
  rcases hA with h | ⟨_, rfl, rfl, rfl, rfl, nb, rfl, rfl, rfl, hb, hB⟩
  · exact absurd hE h.1
  · exact ⟨nb, rfl, hb, hB⟩
theorem outG_no {B : Nat} {E : Int} {g' : GrS} {w : World} {e : Ending} (hE : E ≠ 0) (h : ∃ d a on p n cc x, e = .returned (.tuple #[.agg #[.int .i64 d, .int .i64 a, .bool on, .slice p n cc], .int .i64 x]) ∧ AnsG B E g' d a on p n cc x w) : e = .returned (.tuple #[.agg #[.int .i64 0, .int .i64 0, .bool false, .slice none 0 0], .int .i64 E]) := by
  obtain ⟨d, a, on, p, n, cc, x, rfl, hA⟩ := h
  rcases hA with ⟨_, rfl, rfl, rfl, rfl, rfl, rfl, rfl⟩ | h
  · rfl
  · exact absurd h.1 hE
theorem errG_good {g : GrS} (hg : GoodG g) (e : Int) : errG g e = e := by unfold errG; rw [if_pos ((goodG_iff g).2 hg)]
theorem hasB_lt {n i : Nat} (h : i < n) : hasB n (i : Int) = true := (has_iff _ _).2 ⟨i, rfl, h⟩
theorem GoodG.lmax {g : GrS} (h : GoodG g) : g.nd.length ≤ 9223372036854775807 := by have := h.l8; omega
theorem pickOk (g a : GrS) (v : Value) (i : Nat) (q : Bool) (ha : a = pickG g i q) (hg : GoodG g) (hi : i < g.nd.length) (W : World) (hv : BoolsAt W v g.nd) :
    Calls Try.prog 19 #[.agg #[.int .i64 g.done, .int .i64 g.asked, .bool g.on, v], .int .i64 (i : Int), .bool q] W fun e w' => OutG W.heap.size a e w' ∧ Below W.heap.size W w' := by
  refine (gPick_c g v (i : Int) q W hv hg.lmax).mono ?_
  rintro e w' ⟨h, hb⟩
  rw [Int.toNat_natCast] at h
  rw [ha]
  exact ⟨outG_of (by rw [errG_good hg]; unfold pickE; rw [hasB_lt hi]; rfl) h, hb⟩
theorem reptOk (g a : GrS) (v : Value) (i : Nat) (ha : a = reportG g i) (hg : GoodG g) (ho : g.on = true) (hi : i < g.nd.length) (W : World) (hv : BoolsAt W v g.nd) :
    Calls Try.prog 18 #[.agg #[.int .i64 g.done, .int .i64 g.asked, .bool g.on, v], .int .i64 (i : Int)] W fun e w' => OutG W.heap.size a e w' ∧ Below W.heap.size W w' := by
  refine (gReport_c g v (i : Int) W hv hg.lmax).mono ?_
  rintro e w' ⟨h, hb⟩
  rw [Int.toNat_natCast] at h
  rw [ha]
  exact ⟨outG_of (by rw [errG_good hg]; unfold reportE; rw [hasB_lt hi, ho]; rfl) h, hb⟩
theorem reptNo (g : GrS) (v : Value) (i : Nat) (hg : GoodG g) (ho : g.on = false) (hi : i < g.nd.length) (W : World) (hv : BoolsAt W v g.nd) :
    Calls Try.prog 18 #[.agg #[.int .i64 g.done, .int .i64 g.asked, .bool g.on, v], .int .i64 (i : Int)] W fun e w' => e = .returned (.tuple #[.agg #[.int .i64 0, .int .i64 0, .bool false, .slice none 0 0], .int .i64 4]) ∧ Below W.heap.size W w' := by
  refine (gReport_c g v (i : Int) W hv hg.lmax).mono ?_
  rintro e w' ⟨h, hb⟩
  have hE : errG g (reportE g (i : Int)) = 4 := by rw [errG_good hg]; unfold reportE; rw [hasB_lt hi, ho]; rfl
  rw [hE] at h
  exact ⟨outG_no (by decide) h, hb⟩
theorem sameT (s : GrS) (v v' : Value) (W : World) (hn : BoolsAt W v s.nd) (hn' : BoolsAt W v' s.nd) (l1 : s.nd.length ≤ 9223372036854775807) :
    Calls Try.prog 35 #[.agg #[.int .i64 s.done, .int .i64 s.asked, .bool s.on, v], .agg #[.int .i64 s.done, .int .i64 s.asked, .bool s.on, v']] W fun e w' => e = .returned (.bool true) ∧ Below W.heap.size W w' := by
  have h := gsame_c s s v v' W hn hn' l1 l1
  rwa [(gsameB_iff s s).2 rfl] at h
theorem checkT (g : GrS) (v : Value) (hg : GoodG g) (W : World) (hn : BoolsAt W v g.nd) :
    Calls Try.prog 33 #[.agg #[.int .i64 g.done, .int .i64 g.asked, .bool g.on, v]] W fun e w' => e = .returned (.int .i64 0) ∧ Below W.heap.size W w' := by
  have h := gcheck_c g v W hn hg.lmax
  rwa [if_pos ((goodG_iff g).2 hg)] at h
theorem pick_off {g : GrS} (ho : g.on = true) (i : Nat) : pickG g i false = g := by unfold pickG; rw [if_pos ho, if_neg Bool.false_ne_true]
theorem pick_done (g : GrS) (i : Nat) : (pickG g i false).done = g.done := by
  unfold pickG
  split
  · rfl
  · split
    · rfl
    · rfl
theorem pick_yes {g : GrS} (ho : g.on = true) (i : Nat) : pickG g i true = reportG g i := by unfold pickG; rw [if_pos ho, if_pos rfl]
theorem report_done (g : GrS) (i : Nat) : g.done ≤ (reportG g i).done ∧ (reportG g i).done ≤ g.done + 1 ∧ (reportG g i).asked = g.asked := by
  unfold reportG
  split
  · exact ⟨by show g.done ≤ g.done + 1; omega, Int.le_refl _, rfl⟩
  · exact ⟨Int.le_refl _, by show g.done ≤ g.done + 1; omega, rfl⟩
theorem pick_bound (g : GrS) (i : Nat) (q : Bool) : g.done ≤ (pickG g i q).done ∧ (pickG g i q).done ≤ g.done + 1 ∧ (pickG g i q).asked = g.asked := by
  unfold pickG
  split
  · split
    · exact report_done g i
    · exact ⟨Int.le_refl _, by omega, rfl⟩
  · split
    · exact ⟨Int.le_refl _, by show g.done ≤ g.done + 1; omega, rfl⟩
    · exact ⟨Int.le_refl _, by omega, rfl⟩
theorem report_twice {g : GrS} (i : Nat) (h : (reportG g i).on = true) : reportG (reportG g i) i = reportG g i := by
  by_cases hl : lastB g.nd i = true
  · unfold reportG at h
    rw [if_pos hl] at h
    cases h
  · have e : reportG g i = ⟨g.done, g.asked, g.on, g.nd.set i false⟩ := by unfold reportG; rw [if_neg hl]
    have hl2 : lastB (g.nd.set i false) i ≠ true := fun h => hl ((last_iff _ _).2 fun j hj hb => by
      by_cases hji : j = i
      · exact hji
      · exact (last_iff _ _).1 h j (by rw [List.length_set]; exact hj) (by rw [getB_set, if_neg (fun e => hji e.1)]; exact hb))
    rw [e]
    unfold reportG
    rw [if_neg hl2, List.set_set]
theorem box_out {w5 : World} {a : GrS} {nb : Nat} (h : BBlock w5 nb a.nd) : ∃ X z, X = w5.alloc (.cells #[.int .i64 a.done, .int .i64 a.asked, .bool a.on, .slice (some ⟨nb, 0, none⟩) a.nd.length a.nd.length] 24) ∧ z = w5.heap.size ∧ GzAt X z a (some ⟨nb, 0, none⟩) a.nd.length ∧ Below w5.heap.size w5 X :=
  ⟨_, _, rfl, rfl, GzAt.new _ _ _ _ h.bools, below1 _ _⟩

end Go.Proofs.Ytfnpokddoffplaa
/-
  GraceStays, called with any grace and number: it answers true.
  Conditions: the ranges of Go's types.
-/
namespace Go.Proofs.Ytfnpokddoffplaa
set_option maxRecDepth 100000
open Go.RowKit Go.Shelf
attribute [local go_sem] Oper.semAt_some

set_option maxHeartbeats 8000000 in
theorem graceStays_c (d0 a0 : Int) (on0 : Bool) (v : Value) (xs : List Bool) (cpu : Int) (W : World) (h0 : ArgR W v (xs.map Value.bool)) (hx : xs.length ≤ 9223372036854775807) :
    Calls Try.prog 7 #[.agg #[.int .i64 d0, .int .i64 a0, .bool on0, v], .int .i64 cpu] W fun e w' => e = .returned (.bool true) ∧ Below W.heap.size W w' := by
  obtain ⟨g, hg⟩ : ∃ g : GrS, g = ⟨d0, a0, on0, xs.take 10⟩ := ⟨_, rfl⟩
  have HG := Lib.hid hg
  have hxl : g.nd.length ≤ 9223372036854775807 := by rw [hg, List.length_take]; omega
  obtain ⟨p0, n0, c0, rfl, hn0, hp0⟩ := id h0
  obtain ⟨wa, hwa⟩ : ∃ X : World, X = W.alloc (.cells #[.int .i64 d0, .int .i64 a0, .bool on0, .slice p0 n0 c0] 24) := ⟨_, rfl⟩
  have hba : Below W.heap.size W wa := by rw [hwa]; exact below1 _ _
  have HB0 := Lib.hid (show GBox wa W.heap.size d0 a0 on0 (.slice p0 n0 c0) ∧ ArgR wa (.slice p0 n0 c0) (xs.map Value.bool) ∧ Below W.heap.size W wa from ⟨by rw [hwa]; exact GBox.new _ _ _ _ _, h0.below hba, hba⟩)
  have HWK := Lib.hid (wakes_c wa)
  have HX := Lib.hid hx
  have HXL := Lib.hid hxl
  clear hg hxl hn0 hp0 h0 hba hx
  go_enter Try.func7, Try.ntmps7
  go_wp2_with fail
  rw [← hwa]
  clear hwa
  (with_reducible refine HWK.out.mono ?_)
  rintro e w1 ⟨rfl, hb1⟩
  have g1 := HB0.out.1.below hb1
  have HB1 := Lib.hid (below_then HB0.out.2.2 HB0.out.2.2.size hb1)
  have HOW := Lib.hid (show Calls Try.prog 9 #[.agg #[.int .i64 d0, .int .i64 a0, .bool on0, .slice p0 n0 c0]] w1 fun e w' => GivesG w1.heap.size g e w' ∧ Below w1.heap.size w1 w' by
    have h := own12_c d0 a0 on0 (.slice p0 n0 c0) xs w1 (HB0.out.2.1.below hb1) HX.out
    rwa [← HG.out] at h)
  obtain ⟨k0, k1, k2, k3⟩ := g1.cells
  clear hb1 HB0 HWK g1
  go_upto_region 3 with fail
  go_wp2_with fail
  (with_reducible refine HOW.out.mono ?_)
  rintro e w2 ⟨⟨p, c, rfl, ho⟩, hb2⟩
  clear k0 k1 k2 k3 HOW HG HX
  obtain ⟨wb, hwb⟩ : ∃ X : World, X = w2.alloc (.cells #[.int .i64 g.done, .int .i64 g.asked, .bool g.on, .slice p g.nd.length c] 24) := ⟨_, rfl⟩
  obtain ⟨z, hz⟩ : ∃ z, z = w2.heap.size := ⟨_, rfl⟩
  have hb3 : Below w2.heap.size w2 wb := by rw [hwb]; exact below1 _ _
  have HZ := Lib.hid (show GzAt wb z g p c by rw [hwb, hz]; exact GzAt.new _ _ _ _ (bools_of_owns rfl ho))
  have HBB := Lib.hid (below_then (below_then HB1.out HB1.out.size hb2) (below_then HB1.out HB1.out.size hb2).size hb3)
  have HWB := Lib.hid (And.intro hwb hz)
  obtain ⟨d0', d1, d2, d3⟩ := HZ.out.box.cells
  clear hb2 hb3 ho hwb hz HB1
  by_cases hm : mayG g = true
  · have HGD := Lib.hid ((goodG_iff g).1 hm)
    have HC := Lib.hid (checkT g _ HGD.out wb HZ.out.row)
    obtain ⟨i, hi, hci⟩ := pick8 cpu HGD.out.l1 HGD.out.l8
    have hwk : IntKind.u64.wrap (g.nd.length : Int) = (g.nd.length : Int) := by have := HGD.out.l8; simp [IntKind.wrap, IntKind.signed, IntKind.bits]; omega
    clear hm
    go_upto_region 4 with fail
    rw [← HWB.out.1, ← HWB.out.2]
    go_wp2_with fail
    (with_reducible refine HC.out.mono ?_)
    rintro e w4 ⟨rfl, hb4⟩
    replace HZ := Lib.hid (HZ.out.below hb4)
    replace HBB := Lib.hid (below_then HBB.out HBB.out.size hb4)
    obtain ⟨d0', d1, d2, d3⟩ := HZ.out.box.cells
    clear hb4 HC
    go_upto_region 7 with fail
    rw [hci]
    clear hci hwk HWB
    obtain ⟨b, hbe⟩ : ∃ b, b = pickG g i true := ⟨_, rfl⟩
    have HBE := Lib.hid hbe
    have hbd : (decide (b.done < g.done) = false ∧ decide (g.done + 1 < b.done) = false ∧ (b.asked != g.asked) = false) ∧ wrap64 (g.done + 1) = g.done + 1 := by
      have h1 := pick_bound g i true
      rw [← hbe] at h1
      refine ⟨⟨decide_eq_false (by omega), decide_eq_false (by omega), by rw [bne_eq_false_iff_eq]; exact h1.2.2⟩, ?_⟩
      have h2 := HGD.out.d0
      have h3 := HGD.out.a1
      have h4 : g.done ≤ g.asked := by
        cases ho : g.on with
        | true => have := HGD.out.on1 ho; omega
        | false => have := HGD.out.on0 ho; omega
      unfold wrap64; omega
    obtain ⟨⟨hb1, hb2, hb3⟩, hw1⟩ := hbd
    have HGB := Lib.hid (show GoodG b by rw [hbe]; exact HGD.out.pick i true)
    have HIL := Lib.hid (show i < b.nd.length by rw [hbe, pickG_len]; exact hi)
    have HIG := Lib.hid hi
    clear hbe hi
    cases hon : g.on with
    | true =>
      have HP1 := Lib.hid (pickOk g g _ i false (pick_off hon i).symm HGD.out HIG.out w4 HZ.out.row)
      rw [hon] at HP1 d2
      go_wp2_with fail
      (with_reducible refine HP1.out.mono ?_)
      rintro e w5 ⟨⟨nb, rfl, hB, hnb⟩, hb5⟩
      obtain ⟨w6, za, hw6, hza, ha, hb6⟩ := box_out hB
      have HZ6 := Lib.hid ((HZ.out.below hb5).below hb6)
      have HB6 := Lib.hid (below_then (below_then HBB.out HBB.out.size hb5) (below_then HBB.out HBB.out.size hb5).size hb6)
      have HA := Lib.hid ha
      rw [hon] at hw6
      have HW6 := Lib.hid (And.intro hw6 hza)
      have HS := Lib.hid (sameT g _ _ w6 HA.out.row HZ6.out.row HGD.out.lmax)
      rw [hon] at HS
      clear d0' d1 d2 d3
      obtain ⟨d0', d1, d2, d3⟩ := HZ6.out.box.cells
      obtain ⟨e0', e1, e2, e3⟩ := HA.out.box.cells
      rw [hon] at d2 e2
      clear hw6 hza ha hb6 hb5 hB HP1 HZ HBB hnb
      go_upto_region 8 with fail
      rw [← HW6.out.1, ← HW6.out.2]
      clear HW6
      go_wp2_with fail
      (with_reducible refine HS.out.mono ?_)
      rintro e w7 ⟨rfl, hb7⟩
      replace HZ6 := Lib.hid (HZ6.out.below hb7)
      replace HB6 := Lib.hid (below_then HB6.out HB6.out.size hb7)
      clear d0' d1 d2 d3 e0' e1 e2 e3 HA HS hb7
      obtain ⟨d0', d1, d2, d3⟩ := HZ6.out.box.cells
      rw [hon] at d2
      have HP2 := Lib.hid (pickOk g b _ i true HBE.out HGD.out HIG.out w7 HZ6.out.row)
      rw [hon] at HP2
      go_wp2_with fail
      (with_reducible refine HP2.out.mono ?_)
      rintro e w8 ⟨⟨nb8, rfl, hB, hnb⟩, hb8⟩
      obtain ⟨w9, zb, hw9, hzb, ha, hb9⟩ := box_out hB
      replace HZ6 := Lib.hid ((HZ6.out.below hb8).below hb9)
      replace HB6 := Lib.hid (below_then (below_then HB6.out HB6.out.size hb8) (below_then HB6.out HB6.out.size hb8).size hb9)
      have HBX := Lib.hid ha
      have HW9 := Lib.hid (And.intro hw9 hzb)
      have HCB := Lib.hid (checkT b _ HGB.out w9 HBX.out.row)
      obtain ⟨d0', d1, d2, d3⟩ := HZ6.out.box.cells
      obtain ⟨f0', f1, f2, f3⟩ := HBX.out.box.cells
      rw [hon] at d2
      clear hw9 hzb ha hb9 hb8 hB hnb HP2
      go_upto_region 11 with fail
      rw [← HW9.out.1, ← HW9.out.2]
      clear HW9
      go_wp2_with fail
      (with_reducible refine HCB.out.mono ?_)
      rintro e w10 ⟨rfl, hb10⟩
      replace HZ6 := Lib.hid (HZ6.out.below hb10)
      replace HB6 := Lib.hid (below_then HB6.out HB6.out.size hb10)
      replace HBX := Lib.hid (HBX.out.below hb10)
      clear d0' d1 d2 d3 f0' f1 f2 f3 HCB hb10
      obtain ⟨d0', d1, d2, d3⟩ := HZ6.out.box.cells
      obtain ⟨f0', f1, f2, f3⟩ := HBX.out.box.cells
      rw [hon] at d2
      have HRP := Lib.hid (reptOk g b _ i (by rw [HBE.out, pick_yes hon]) HGD.out hon HIG.out w10 HZ6.out.row)
      rw [hon] at HRP
      go_wp2_with fail
      (with_reducible refine HRP.out.mono ?_)
      rintro e w11 ⟨⟨nb11, rfl, hB, hnb⟩, hb11⟩
      obtain ⟨w12, zc, hw12, hzc, ha, hb12⟩ := box_out hB
      replace HBX := Lib.hid ((HBX.out.below hb11).below hb12)
      replace HB6 := Lib.hid (below_then (below_then HB6.out HB6.out.size hb11) (below_then HB6.out HB6.out.size hb11).size hb12)
      have HCX := Lib.hid ha
      have HW12 := Lib.hid (And.intro hw12 hzc)
      have HS := Lib.hid (sameT b _ _ w12 HBX.out.row HCX.out.row HGB.out.lmax)
      clear d0' d1 d2 d3 f0' f1 f2 f3 HRP hw12 hzc ha hb12 hb11 hB hnb HZ6
      obtain ⟨f0', f1, f2, f3⟩ := HBX.out.box.cells
      obtain ⟨d0', d1, d2, d3⟩ := HCX.out.box.cells
      go_upto_region 17 with fail
      rw [← HW12.out.1, ← HW12.out.2]
      clear HW12
      go_wp2_with fail
      (with_reducible refine HS.out.mono ?_)
      rintro e w13 ⟨rfl, hb13⟩
      replace HBX := Lib.hid (HBX.out.below hb13)
      replace HCX := Lib.hid (HCX.out.below hb13)
      replace HB6 := Lib.hid (below_then HB6.out HB6.out.size hb13)
      clear d0' d1 d2 d3 f0' f1 f2 f3 HS hb13
      obtain ⟨d0', d1, d2, d3⟩ := HCX.out.box.cells
      cases hbo : b.on with
      | false =>
        have HRN := Lib.hid (reptNo b _ i HGB.out hbo HIL.out w13 HCX.out.row)
        rw [hbo] at HRN d2
        go_wp2_with fail
        (with_reducible refine HRN.out.mono ?_)
        rintro e w14 ⟨rfl, hb14⟩
        replace HCX := Lib.hid ((HCX.out.below hb14).below (below1 w14 (.cells #[.int .i64 0, .int .i64 0, .bool false, .slice none 0 0] 24)))
        replace HB6 := Lib.hid (below_then (below_then HB6.out HB6.out.size hb14) (below_then HB6.out HB6.out.size hb14).size (below1 w14 (.cells #[.int .i64 0, .int .i64 0, .bool false, .slice none 0 0] 24)))
        clear d0' d1 d2 d3 hb14 HRN
        obtain ⟨d0', d1, d2, d3⟩ := HCX.out.box.cells
        rw [hbo] at d2
        go_wp2_with fail
        go_ret
        exact ⟨rfl, HB6.out⟩
      | true =>
        have HRN := Lib.hid (reptOk b b _ i (by rw [HBE.out, pick_yes hon]; exact (report_twice i (by rw [← pick_yes hon, ← HBE.out]; exact hbo)).symm) HGB.out hbo HIL.out w13 HCX.out.row)
        rw [hbo] at HRN d2
        go_wp2_with fail
        (with_reducible refine HRN.out.mono ?_)
        rintro e w14 ⟨⟨nb14, rfl, hB, hnb⟩, hb14⟩
        obtain ⟨w15, zd, hw15, hzd, ha, hb15⟩ := box_out hB
        replace HCX := Lib.hid ((HCX.out.below hb14).below hb15)
        replace HB6 := Lib.hid (below_then (below_then HB6.out HB6.out.size hb14) (below_then HB6.out HB6.out.size hb14).size hb15)
        have HDX := Lib.hid ha
        rw [hbo] at hw15
        have HW15 := Lib.hid (And.intro hw15 hzd)
        have HS := Lib.hid (sameT b _ _ w15 HCX.out.row HDX.out.row HGB.out.lmax)
        rw [hbo] at HS
        clear d0' d1 d2 d3 hb14 HRN hw15 hzd ha hb15 hB hnb
        obtain ⟨d0', d1, d2, d3⟩ := HCX.out.box.cells
        obtain ⟨e0', e1, e2, e3⟩ := HDX.out.box.cells
        rw [hbo] at d2 e2
        go_upto_region 20 with fail
        rw [← HW15.out.1, ← HW15.out.2]
        clear HW15
        go_wp2_with fail
        (with_reducible refine HS.out.mono ?_)
        rintro e w16 ⟨rfl, hb16⟩
        replace HB6 := Lib.hid (below_then HB6.out HB6.out.size hb16)
        clear hb16
        go_wp2_with fail
        go_ret
        exact ⟨rfl, HB6.out⟩
    | false =>
      obtain ⟨a, hae⟩ : ∃ a, a = pickG g i false := ⟨_, rfl⟩
      have had : (a.done != g.done) = false := by rw [bne_eq_false_iff_eq, hae]; exact pick_done g i
      have HP1 := Lib.hid (pickOk g a _ i false hae HGD.out HIG.out w4 HZ.out.row)
      rw [hon] at HP1 d2
      clear hae
      go_wp2_with fail
      (with_reducible refine HP1.out.mono ?_)
      rintro e w5 ⟨⟨nb, rfl, hB, hnb⟩, hb5⟩
      obtain ⟨w7, za, hw7, hza, ha, hb7⟩ := box_out hB
      have HZ6 := Lib.hid ((HZ.out.below hb5).below hb7)
      have HB6 := Lib.hid (below_then (below_then HBB.out HBB.out.size hb5) (below_then HBB.out HBB.out.size hb5).size hb7)
      have HA := Lib.hid ha
      have HW7 := Lib.hid (And.intro hw7 hza)
      clear d0' d1 d2 d3
      obtain ⟨d0', d1, d2, d3⟩ := HZ6.out.box.cells
      obtain ⟨e0', e1, e2, e3⟩ := HA.out.box.cells
      rw [hon] at d2
      clear hw7 hza ha hb7 hb5 hB HP1 HZ HBB hnb
      go_upto_region 8 with fail
      rw [← HW7.out.1, ← HW7.out.2]
      clear HW7
      have HP2 := Lib.hid (pickOk g b _ i true HBE.out HGD.out HIG.out w7 HZ6.out.row)
      rw [hon] at HP2
      go_wp2_with fail
      (with_reducible refine HP2.out.mono ?_)
      rintro e w8 ⟨⟨nb8, rfl, hB, hnb⟩, hb8⟩
      obtain ⟨w9, zb, hw9, hzb, ha, hb9⟩ := box_out hB
      replace HZ6 := Lib.hid ((HZ6.out.below hb8).below hb9)
      replace HB6 := Lib.hid (below_then (below_then HB6.out HB6.out.size hb8) (below_then HB6.out HB6.out.size hb8).size hb9)
      have HBX := Lib.hid ha
      have HW9 := Lib.hid (And.intro hw9 hzb)
      have HCB := Lib.hid (checkT b _ HGB.out w9 HBX.out.row)
      obtain ⟨d0', d1, d2, d3⟩ := HZ6.out.box.cells
      obtain ⟨f0', f1, f2, f3⟩ := HBX.out.box.cells
      rw [hon] at d2
      clear hw9 hzb ha hb9 hb8 hB hnb HP2
      go_upto_region 11 with fail
      rw [← HW9.out.1, ← HW9.out.2]
      clear HW9
      go_wp2_with fail
      (with_reducible refine HCB.out.mono ?_)
      rintro e w10 ⟨rfl, hb10⟩
      replace HZ6 := Lib.hid (HZ6.out.below hb10)
      replace HB6 := Lib.hid (below_then HB6.out HB6.out.size hb10)
      replace HBX := Lib.hid (HBX.out.below hb10)
      clear d0' d1 d2 d3 f0' f1 f2 f3 HCB hb10
      obtain ⟨d0', d1, d2, d3⟩ := HZ6.out.box.cells
      obtain ⟨f0', f1, f2, f3⟩ := HBX.out.box.cells
      rw [hon] at d2
      have HRN := Lib.hid (reptNo g _ i HGD.out hon HIG.out w10 HZ6.out.row)
      rw [hon] at HRN
      go_wp2_with fail
      (with_reducible refine HRN.out.mono ?_)
      rintro e w11 ⟨rfl, hb11⟩
      replace HB6 := Lib.hid (below_then (below_then HB6.out HB6.out.size hb11) (below_then HB6.out HB6.out.size hb11).size (below1 w11 (.cells #[.int .i64 0, .int .i64 0, .bool false, .slice none 0 0] 24)))
      go_wp2_with fail
      go_ret
      exact ⟨rfl, HB6.out⟩
  · have HC := Lib.hid (show Calls Try.prog 33 #[.agg #[.int .i64 g.done, .int .i64 g.asked, .bool g.on, .slice p g.nd.length c]] wb fun e w' => e = .returned (.int .i64 220) ∧ Below wb.heap.size wb w' by
      have h := gcheck_c g _ wb HZ.out.row HXL.out
      rwa [if_neg hm] at h)
    have HO := Lib.hid (show ∀ Z, Below wb.heap.size wb Z → Calls Try.prog 30 #[.agg #[.int .i64 g.done, .int .i64 g.asked, .bool g.on, .slice p g.nd.length c], .int .i64 1] Z fun e w' => e = .returned (.bool false) ∧ Below Z.heap.size Z w' from fun Z hZ => by
      have h := gover_c g _ 1 Z (bools_below HZ.out.row hZ) HXL.out
      rwa [show overB g 1 = false by unfold overB; rw [show mayG g = false by simpa using hm]; rfl] at h)
    clear hm
    go_upto_region 4 with fail
    rw [← HWB.out.1, ← HWB.out.2]
    go_wp2_with fail
    (with_reducible refine HC.out.mono ?_)
    rintro e w4 ⟨rfl, hb4⟩
    have HO4 := Lib.hid (HO.out w4 hb4)
    replace HZ := Lib.hid (HZ.out.below hb4)
    replace HBB := Lib.hid (below_then HBB.out HBB.out.size hb4)
    obtain ⟨d0', d1, d2, d3⟩ := HZ.out.box.cells
    clear hb4 HC HO
    go_wp2_with fail
    (with_reducible refine HO4.out.mono ?_)
    rintro e w5 ⟨rfl, hb5⟩
    replace HBB := Lib.hid (below_then HBB.out HBB.out.size hb5)
    clear hb5 HZ d0' d1 d2 d3
    go_wp2
    go_ret
    exact ⟨rfl, HBB.out⟩

end Go.Proofs.Ytfnpokddoffplaa
namespace Go.Proofs.Ytfnpokddoffplaa
open Go.RowKit Go.Shelf
open Go.ChangeShapes Go.WideShapes Go.ChangeAt Go.Deep
open Go.ChangeMaps (open_string shut_string)

set_option maxRecDepth 100000 in
theorem graceStays_lifted (os : Os) (started : os.Started) (H : Type) (enc : TypeId × Value → H) :
    ReturnsInHanded {} Try.checked os 7 .any (Rows.graceStaysSpec.pre6 enc Try.prog Try.f7 Rows.graceStaysRow.domain false) (Rows.graceStaysSpec.post enc Try.prog Try.f7 false true false false) := by
  refine returnsInHanded_of_change (C := Try.checked) own started (by kernel_rfl) Try.func7
    (ChangeSpec.witness6 (enc := enc) (C := Try.checked) false ⟨#[], #[.agg #[.int .i64 0, .int .i64 0, .bool false, .slice none 0 0], .int .i64 0], []⟩ 8 (by kernel_rfl) (by kernel_rfl) (by kernel_rfl) (by kernel_rfl)) ?_
  intro W base args ds gs before hval0 hW hcnd _
  have hval : ∀ (j : Nat) t v, Try.f7.params[j]? = some t → args[j]? = some v → Value.okWide Try.prog W .any base t v := hval0
  have hW' := hW
  obtain ⟨p, q, hA0, hV, rfl, hfz, hnd⟩ := hW
  have hA : DataW.TrodAll enc Try.prog W 0 (fun _ => true) true Try.f7.params.toList args.toList ds p := hA0
  rw [Try.params7] at hA hval
  have hA2 := hA
  obtain ⟨v0, vs0, d0, ds0, pp0, qq0, hargs, rfl, rfl, h0, r0⟩ := trodAll_cons hA
  obtain ⟨v1, vs1, d1, ds1, pp1, qq1, rfl, rfl, rfl, h1, r1⟩ := trodAll_cons r0
  obtain ⟨rfl, rfl, rfl⟩ := trodAll_nil r1
  obtain rfl : args = #[v0, v1] := by cases args; simp_all
  obtain ⟨rfl, rfl⟩ := trodVars_none hV
  obtain ⟨k0, m0, f0, u0, x0, rfl, a0, l0, i0, w0⟩ := grace_open (hval 0 24 v0 rfl rfl) h0
  obtain ⟨a1, rfl, rfl, rfl, w1⟩ := open_int Try.underlying3 (hval 1 3 v1 rfl rfl) h1
  clear hA0 hval0
  simp only [List.append_nil] at hW'
  refine (graceStays_c k0 m0 f0 u0 x0 a1 W a0 l0).mono fun e W' ⟨he, hb⟩ => ?_
  subst he
  exact ⟨_, rfl, _, _, _, [], _, [], hW', trodAll_cons_mk (shut_bool Try.underlying4 _) trodAll_mk0, trodAll_stays laidOut hb (by kernel_rfl) hA2 (fun x hx => by simpa using hW'.lt x (by simpa using hx)), rfl, hb.frame _, fun h => by cases h⟩

theorem graceStays_holds : Rows.GraceStaysSaid :=
  OpenClaim.holds_of_wide 7 Try.f7 rfl rfl rfl rfl rfl rfl rfl ⟨rfl, rfl, rfl, rfl, rfl⟩ rfl rfl rfl rfl rfl (by kernel_rfl) Try.func7 (by kernel_rfl)
    (of_decide_eq_true (by kernel_rfl)) (by unfold Func.isWrapper; first | (rw [if_pos (by decide +kernel)]; kernel_rfl) | (rw [if_neg (by decide +kernel)]; exact ⟨rfl, rfl⟩))
    (fun os started H enc _ => graceStays_lifted os started H enc)

end Go.Proofs.Ytfnpokddoffplaa
