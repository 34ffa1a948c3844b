/-
  ReaderStays, called with any readers, row of readings, and step: it answers true; what was in memory stays.
  Conditions: the ranges of Go's types.
-/
import Derived.Test.YtdmcijfjnegcgaaJA7
import Derived.Test.YtdmcijfjnegcgaaJA3
import Derived.Maps.AppendAt
import Derived.WalkSpells
import Derived.Test.YtdmcijfjnegcgaaJA6
import Derived.Test.YtdmcijfjnegcgaaJA5
/-
  The first test of the statements of layer 12: it is passed.
  Conditions: none.
-/
namespace Go.Proofs.Ytdmcijfjnegcgaa
set_option maxRecDepth 100000
open Go.RowKit Go.Shelf
attribute [local go_sem] Oper.semAt_some

set_option maxHeartbeats 64000000 in
theorem wakes_c (W : World) : Calls Try.prog 8 #[] W fun e w' => e = .returned (.bool true) ∧ Below W.heap.size W w' := by
  have HBE := Lib.hid (show Calls Try.prog 29 #[.int .i64 2] W fun e w' => BegunQ 2 e w' ∧ Below W.heap.size W w' from begun_c 2 (by omega) (by omega) W)
  go_enter Try.func8, Try.ntmps8
  go_wp2_with fail
  (with_reducible refine HBE.out.mono ?_)
  rintro e w1 ⟨⟨g1, h1, n1, rfl, hg, hh, hn⟩, hb1⟩
  obtain ⟨wA, hwA⟩ : ∃ X : World, X = (w1.alloc (.cells #[.int .i64 0, .slice (some ⟨g1, 0, none⟩) 2 2, .slice (some ⟨h1, 0, none⟩) 2 2] 45)).alloc (.cells #[.int .i64 0, .int .i64 0, .bool false, .slice (some ⟨n1, 0, none⟩) 2 2] 24) := ⟨_, rfl⟩
  have hbA : Below w1.heap.size w1 wA := by rw [hwA]; exact below2 _ _ _
  obtain ⟨b1, hb1e⟩ : ∃ b, b = w1.heap.size := ⟨_, rfl⟩
  obtain ⟨b2, hb2e⟩ : ∃ b, b = w1.heap.size + 1 := ⟨_, rfl⟩
  have HBA := Lib.hid (show WkA b1 b2 g1 h1 n1 wA from ⟨by rw [hwA, hb1e]; exact (RBox.new w1 _ _ _).below (below1 _ _), by
      rw [hwA, hb2e]
      have := GBox.new (w1.alloc (.cells #[.int .i64 0, .slice (some ⟨g1, 0, none⟩) 2 2, .slice (some ⟨h1, 0, none⟩) 2 2] 45)) 0 0 false (.slice (some ⟨n1, 0, none⟩) 2 2)
      simpa using this, hg.below hbA, hh.below hbA, hn.below hbA⟩)
  have HWB := Lib.hid (show Below W.heap.size W wA from below_then hb1 hb1.size hbA)
  have HWA := Lib.hid (And.intro hwA (And.intro hb1e hb2e))
  clear hwA hb1e hb2e hbA hg hh hn hb1 HBE
  go_upto_region 2 with fail
  rw [← HWA.out.1, ← HWA.out.2.2, ← HWA.out.2.1]
  clear HWA
  refine wk_reg2 b1 b2 g1 h1 n1 wA HBA.out _ (by kernel_rfl) _ (fun c a i v w h => by cases i <;> exact h) ?_
  intro zr zg nb pl cl q1 q2 tb wB hF2
  have HF2 := Lib.hid hF2
  clear hF2
  replace HBA := Lib.hid (HBA.out.below HF2.out.2.2.2)
  replace HWB := Lib.hid (below_then HWB.out HWB.out.size HF2.out.2.2.2)
  go_upto_region 3 with fail
  refine wk_reg3 b1 b2 g1 h1 n1 zr zg nb pl cl q1 q2 tb wB HBA.out _ (by kernel_rfl) _ (fun c a i v w h => by cases i <;> exact h) ?_
  intro zr3 zg3 nb3 pl3 cl3 q13 q23 tb3 wC hF3
  have HF3 := Lib.hid hF3
  clear hF3
  have HX := Lib.hid (show GBox wC zg 0 1 true (.slice (some ⟨nb, 0, none⟩) 2 2) ∧ BBlock wC nb [false, true] ∧ wC.ownsRow 0 3 1 (.slice pl 1 cl) 1 [.int .i64 1] from ⟨HF2.out.1.below HF3.out.2.2.2, HF2.out.2.1.below HF3.out.2.2.2, owns_below HF2.out.2.2.1 HF3.out.2.2.2⟩)
  replace HWB := Lib.hid (below_then HWB.out HWB.out.size HF3.out.2.2.2)
  have HX3 := Lib.hid (And.intro HF3.out.1 (And.intro HF3.out.2.1 HF3.out.2.2.1))
  clear HF3 HF2
  obtain ⟨d0, d1, d2, d3⟩ := HX.out.1.cells
  have HBG := Lib.hid (gBegin_c ⟨0, 1, true, [false, true]⟩ (.slice (some ⟨nb, 0, none⟩) 2 2) wC HX.out.2.1.bools (by decide))
  go_wp2_with fail
  (with_reducible refine HBG.out.mono ?_)
  rintro e w4 ⟨⟨d, a, on, p, n, cc, x, rfl, hA⟩, hb4⟩
  have hx : x = 5 := by
    rcases hA with h | h
    · rw [h.2.1]; decide
    · exact absurd h.1 (by decide)
  subst hx
  obtain ⟨w5, hw5⟩ : ∃ X : World, X = w4.alloc (.cells #[.int .i64 d, .int .i64 a, .bool on, .slice p n cc] 24) := ⟨_, rfl⟩
  have hb5 : Below w4.heap.size w4 w5 := by rw [hw5]; exact below1 _ _
  have hb45 : Below wC.heap.size wC w5 := below_then hb4 hb4.size hb5
  have HY := Lib.hid (show ∀ Z, Below w5.heap.size w5 Z → GBox Z zg 0 1 true (.slice (some ⟨nb, 0, none⟩) 2 2) ∧ BBlock Z nb [false, true] ∧ Z.ownsRow 0 3 1 (.slice pl 1 cl) 1 [.int .i64 1] ∧ GBox Z zg3 1 1 false (.slice (some ⟨nb3, 0, none⟩) 2 2) ∧ BBlock Z nb3 [false, false] ∧ Z.ownsRow 0 3 1 (.slice pl3 1 cl3) 1 [.int .i64 1] ∧ Below W.heap.size W Z from fun Z hZ => by
    have hb := below_then hb45 hb45.size hZ
    obtain ⟨f1, f2, f3⟩ := HX.out
    obtain ⟨k1, k2, k3⟩ := HX3.out
    exact ⟨f1.below hb, f2.below hb, owns_below f3 hb, k1.below hb, k2.below hb, owns_below k3 hb, below_then HWB.out HWB.out.size hb⟩)
  have HW5 := Lib.hid hw5
  clear hb4 hb5 hb45 hw5 hA HX HX3 HWB HBG d0 d1 d2 d3
  obtain ⟨w6, hw6⟩ : ∃ X : World, X = w5.alloc (.cells #[.int .i64 1] 3) := ⟨_, rfl⟩
  have hb6 : Below w5.heap.size w5 w6 := by rw [hw6]; exact below1 _ _
  have HE1 := Lib.hid (equalI_c (.slice pl 1 cl) (.slice (some ⟨w5.heap.size, 0, none⟩) 1 1) [1] [1] w6 (nums_of_owns rfl (HY.out w6 hb6).2.2.1) (IBlock.nums (ns := [1]) (by rw [hw6]; exact World.alloc_heap_new _ _)) (by decide) (by decide))
  rw [show decide ([(1 : Int)] = [1]) = true by decide] at HE1
  have HB6 := Lib.hid hb6
  have HW6 := Lib.hid hw6
  clear hw6 hb6
  go_upto_region 5 with fail
  rw [← HW5.out]
  clear HW5
  go_wp2_with fail
  rw [← HW6.out]
  clear HW6
  (with_reducible refine HE1.out.mono ?_)
  rintro e w7 ⟨rfl, hb7⟩
  have HB7 := Lib.hid (below_then HB6.out HB6.out.size hb7)
  have HE2 := Lib.hid (equalI_c (.slice pl3 1 cl3) (.slice pl 1 cl) [1] [1] w7 (nums_of_owns rfl (HY.out w7 HB7.out).2.2.2.2.2.1) (nums_of_owns rfl (HY.out w7 HB7.out).2.2.1) (by decide) (by decide))
  rw [show decide ([(1 : Int)] = [1]) = true by decide] at HE2
  clear hb7 HE1
  go_wp2_with fail
  (with_reducible refine HE2.out.mono ?_)
  rintro e w8 ⟨rfl, hb8⟩
  have HB8 := Lib.hid (below_then HB7.out HB7.out.size hb8)
  obtain ⟨d0, d1, d2, d3⟩ := (HY.out w8 HB8.out).1.cells
  have HO1 := Lib.hid (gover_c ⟨0, 1, true, [false, true]⟩ (.slice (some ⟨nb, 0, none⟩) 2 2) 1 w8 (HY.out w8 HB8.out).2.1.bools (by decide))
  rw [show overB ⟨0, 1, true, [false, true]⟩ 1 = false by decide] at HO1
  clear hb8 HE2 HB7
  go_wp2_with fail
  (with_reducible refine HO1.out.mono ?_)
  rintro e w9 ⟨rfl, hb9⟩
  have HB9 := Lib.hid (below_then HB8.out HB8.out.size hb9)
  obtain ⟨w10, hw10⟩ : ∃ X : World, X = w9.alloc (.cells #[.bool false, .bool true] 4) := ⟨_, rfl⟩
  have hb10 : Below w9.heap.size w9 w10 := by rw [hw10]; exact below1 _ _
  have HB10 := Lib.hid (below_then HB9.out HB9.out.size hb10)
  have HE3 := Lib.hid (equalB_c (.slice (some ⟨nb, 0, none⟩) 2 2) (.slice (some ⟨w9.heap.size, 0, none⟩) 2 2) [false, true] [false, true] w10 (HY.out w10 HB10.out).2.1.bools (BBlock.bools (bs := [false, true]) (by rw [hw10]; exact World.alloc_heap_new _ _)) (by decide) (by decide))
  rw [show decide ([false, true] = [false, true]) = true by decide] at HE3
  clear d0 d1 d2 d3
  obtain ⟨d0, d1, d2, d3⟩ := (HY.out w9 HB9.out).1.cells
  have HW10 := Lib.hid hw10
  clear hb9 hb10 hw10 HO1 HB8
  go_wp2_with fail
  rw [← HW10.out]
  clear HW10
  (with_reducible refine HE3.out.mono ?_)
  rintro e w11 ⟨rfl, hb11⟩
  have HB11 := Lib.hid (below_then HB10.out HB10.out.size hb11)
  have HO2 := Lib.hid (gover_c ⟨1, 1, false, [false, false]⟩ (.slice (some ⟨nb3, 0, none⟩) 2 2) 1 w11 (HY.out w11 HB11.out).2.2.2.2.1.bools (by decide))
  rw [show overB ⟨1, 1, false, [false, false]⟩ 1 = true by decide] at HO2
  clear d0 d1 d2 d3
  obtain ⟨d0, d1, d2, d3⟩ := (HY.out w11 HB11.out).2.2.2.1.cells
  clear hb11 HE3
  go_wp2_with fail
  (with_reducible refine HO2.out.mono ?_)
  rintro e w12 ⟨rfl, hb12⟩
  have HB12 := Lib.hid (below_then HB11.out HB11.out.size hb12)
  clear d0 d1 d2 d3
  obtain ⟨d0, d1, d2, d3⟩ := (HY.out w12 HB12.out).2.2.2.1.cells
  have HFIN := Lib.hid (HY.out w12 HB12.out).2.2.2.2.2.2
  clear hb12 HO2
  go_wp2
  go_ret
  exact ⟨rfl, HFIN.out⟩

end Go.Proofs.Ytdmcijfjnegcgaa
/-
  own, none, of the statements of layer 12; the document's Same.
  Conditions: the grace is one that came in.
-/
namespace Go.Proofs.Ytdmcijfjnegcgaa
set_option maxRecDepth 100000
open Go.RowKit Go.Shelf
attribute [local go_sem] Oper.semAt_some

theorem vals_cut10 {W : World} {p : Option Addr} {n c : Nat} {xs : List Value} (hn : n = xs.length) (h : (p = none ∧ n = 0 ∧ c = 0) ∨ ∃ a : Addr, p = some a ∧ n ≤ c ∧ ∀ j u, xs[j]? = some u → W.cell? (a.add j) = some u) :
    ValsAt W (.slice p (min n 10) c) 1 (min n 10) (xs.take 10) := by
  refine ⟨by rw [List.length_take, hn]; omega, p, c, rfl, ?_⟩
  rcases h with ⟨rfl, rfl, rfl⟩ | ⟨a, rfl, _, hcs⟩
  · exact .inl ⟨rfl, rfl, rfl⟩
  · refine .inr ⟨a, rfl, fun j u hj => hcs j u ?_⟩
    rw [List.getElem?_take] at hj
    split at hj
    · exact hj
    · cases hj
theorem run_cutB (p : Option Addr) (n c k : Nat) (h : k ≤ c) (wx : World) :
    (Instr.slice 22 (.slice p n c) none (some (.int .i64 (k : Int))) none).run Try.prog wx = .ok (.slice p k c) wx := by
  rw [run_slice_h wx 22 p n c Try.underlying22 .i64 (k : Int) (by omega) (by omega)]
  have hE : (sizeOf (Try.prog.elem 22)).run Try.prog wx = .ok 1 wx := by go_simp
  rw [hE]
  have : Option.map (fun x : Addr => x.add 0) p = p := by cases p <;> simp [Addr.add_zero']
  simp [sliced, Result.andThen, this]
theorem run_min10 (n k : Nat) (hk : k = min n 10) (wx : World) : (Builtin.min_ #[3, 3] 3 #[.int .i64 (n : Int), .int .i64 10]).run Try.prog wx = .ok (.int .i64 (k : Int)) wx := by
  have : (if (10 : Int) < (n : Int) then (10 : Int) else n) = (k : Int) := by rw [hk]; split <;> omega
  simp [Builtin.min_, Builtin.min2, this]
theorem GBox.result1 {fn : Func} {W : World} {z : Nat} {a : Tmp} {d k : Int} {on : Bool} {v : Value} (h : GBox W z d k on v) (hf : fn.results = #[.cell a 24]) (tmps : Array Value) (h2 : tmps.getD a undef = .pointer (some ⟨z, 0, none⟩)) :
    (results fn tmps).run Try.prog W = .ok (.agg #[.int .i64 d, .int .i64 k, .bool on, v]) W := results_cell1 hf tmps _ _ h2 (grace_load h)
/-- A grace in new memory. -/
def GivesG (B : Nat) (g : GrS) (e : Ending) (w' : World) : Prop := ∃ p c, e = .returned (.agg #[.int .i64 g.done, .int .i64 g.asked, .bool g.on, .slice p g.nd.length c]) ∧ w'.ownsRow B 4 1 (.slice p g.nd.length c) g.nd.length (g.nd.map Value.bool)

set_option maxHeartbeats 8000000 in
theorem own12_c (d a : Int) (on : Bool) (v : Value) (xs : List Bool) (W : World) (h0 : ArgR W v (xs.map Value.bool)) (hx : xs.length ≤ 9223372036854775807) :
    Calls Try.prog 9 #[.agg #[.int .i64 d, .int .i64 a, .bool on, v]] W fun e w' => GivesG W.heap.size ⟨d, a, on, xs.take 10⟩ e w' ∧ Below W.heap.size W w' := by
  obtain ⟨p0, n0, c0, rfl, hn0, hp0⟩ := id h0
  rw [List.length_map] at hn0
  obtain ⟨k0, hk0⟩ : ∃ k, k = min n0 10 := ⟨_, rfl⟩
  have hnc0 : n0 ≤ c0 := by rcases hp0 with ⟨_, b, c⟩ | ⟨_, _, b, _⟩ <;> omega
  have HL := Lib.hid (show (xs.take 10).length = k0 by rw [List.length_take]; omega)
  have HC0 := Lib.hid (show ∀ Z : World, Below W.heap.size W Z → Calls Try.prog 38 #[.slice p0 k0 c0] Z fun e w' => (∃ p' c', e = .returned (.slice p' k0 c') ∧ w'.ownsRow Z.heap.size 4 1 (.slice p' k0 c') k0 ((xs.take 10).map Value.bool)) ∧ Below Z.heap.size Z w' from fun Z hb => by
    obtain ⟨p1, n1, c1, e, hn1, hp1⟩ := h0.below hb
    injection e with e1 e2 e3
    subst e1 e2 e3
    have h := cloneB _ _ _ Z (vals_cut10 hn1 hp1) (fun u hu => by obtain ⟨x, _, rfl⟩ := List.mem_map.1 (List.mem_of_mem_take hu); rfl) (by omega)
    rw [← List.map_take, ← hk0] at h
    refine h.mono ?_
    rintro e w' ⟨⟨v', rfl, ho⟩, hb⟩
    obtain ⟨p', c', rfl⟩ := owns_slice ho
    exact ⟨⟨p', c', rfl, ho⟩, hb⟩)
  have hs0 : ∀ wx, (Instr.slice 22 (.slice p0 n0 c0) none (some (.int .i64 (k0 : Int))) none).run Try.prog wx = .ok (.slice p0 k0 c0) wx := run_cutB p0 n0 c0 k0 (by omega)
  have hm0 := run_min10 n0 k0 hk0
  have hw0' : n0 ≤ 9223372036854775807 := by omega
  obtain ⟨wo, hwo⟩ : ∃ X, X = wSG W d a on (.slice p0 n0 c0) 0 0 false (.slice none 0 0) := ⟨_, rfl⟩
  have HG := Lib.hid (wSG_facts W d a on (.slice p0 n0 c0) 0 0 false (.slice none 0 0))
  have HSZ := Lib.hid (show wo.heap.size = W.heap.size + 2 by rw [hwo]; unfold wSG; simp)
  rw [← hwo] at HG
  unfold wSG at hwo
  obtain ⟨d0, d1, d2, d3⟩ := HG.out.1.cells
  have HCC := Lib.hid (HC0.out wo HG.out.2.2)
  clear hp0 hk0 hx hn0 h0 hnc0 HC0
  go_enter Try.func9, Try.ntmps9
  go_wp2_with fail
  rw [← hwo]
  clear hwo
  (with_reducible refine HCC.out.mono ?_)
  rintro e w1 ⟨⟨q, cq, rfl, ho⟩, hb1⟩
  have hz := HSZ.out
  have g1 := HG.out.1.below hb1
  have r1 := HG.out.2.1.below hb1
  have hB1 := below_then HG.out.2.2 HG.out.2.2.size hb1
  have hk2 := setK w1 W.heap.size 3 (.slice q k0 cq)
  have g2 : GBox (w1.setCell ⟨W.heap.size, 3, none⟩ (.slice q k0 cq)) W.heap.size d a on (.slice q k0 cq) := by
    unfold GBox; rw [heap_setCell_same w1 W.heap.size 3 _ _ _ g1]; rfl
  have r2 := r1.keeps hk2 (by omega)
  obtain ⟨d0, d1, d2, d3⟩ := g1.cells
  have m3 := g1.marks 3
  obtain ⟨w2, hw2⟩ : ∃ X : World, X = w1.setCell ⟨W.heap.size, 3, none⟩ (.slice q k0 cq) := ⟨_, rfl⟩
  rw [← hw2] at g2 r2 hk2
  have hp3 := r2.put d a on (.slice q k0 cq)
  have hk3 := GBox.putK w2 (W.heap.size + 1) d a on (.slice q k0 cq)
  obtain ⟨w3, hw3⟩ : ∃ X : World, X = ((((w2.setCell ⟨W.heap.size + 1, 0, none⟩ (.int .i64 d)).setCell ⟨W.heap.size + 1, 1, none⟩ (.int .i64 a)).setCell ⟨W.heap.size + 1, 2, none⟩ (.bool on)).setCell ⟨W.heap.size + 1, 3, none⟩ (.slice q k0 cq)) := ⟨_, rfl⟩
  rw [← hw3] at hp3 hk3
  have HFIN := Lib.hid (show GBox w3 (W.heap.size + 1) d a on (.slice q k0 cq) ∧ w3.ownsRow W.heap.size 4 1 (.slice q k0 cq) k0 ((xs.take 10).map Value.bool) ∧ Below W.heap.size W w3 from by
    refine ⟨hp3, (hk3.row (hk2.row ho (fun g hg e => by have := (ho.lt g hg).1; omega)) (fun g hg e => by have := (ho.lt g hg).1; omega)).mono (by omega), ?_⟩
    exact (hB1.trans (hk2.below hB1.size (fun k e => by omega))).trans (hk3.below (hB1.trans (hk2.below hB1.size (fun k e => by omega))).size (fun k e => by omega)))
  have HX := Lib.hid (And.intro g2 r2)
  have HW2 := Lib.hid hw2
  have HW3 := Lib.hid hw3
  clear hw2 hw3 hp3 hk3 g1 r1 g2 r2 hk2 ho hb1 hB1 hs0 hm0 HCC HG
  go_upto_region 2 with fail
  rw [← HW2.out]
  clear d0 d1 d2 d3 m3
  obtain ⟨d0, d1, d2, d3⟩ := HX.out.1.cells
  obtain ⟨e0, e1, e2, e3⟩ := HX.out.2.cells
  have m0 := HX.out.2.marks 0
  have m1 := HX.out.2.marks 1
  have m2 := HX.out.2.marks 2
  have m3 := HX.out.2.marks 3
  go_wp2
  rw [← HW3.out]
  refine bodyPost_ret (HFIN.out.1.result1 rfl _ rfl) rfl ⟨⟨q, cq, ?_, ?_⟩, HFIN.out.2.2⟩
  · simp only; rw [HL.out]
  · simp only; rw [HL.out]; exact HFIN.out.2.1

end Go.Proofs.Ytdmcijfjnegcgaa
/-
  Ask, Pick, Report of a grace that may be, in one form; what the statements of layer 12 reckon.
  Conditions: the grace may be.
-/
namespace Go.Proofs.Ytdmcijfjnegcgaa
set_option maxRecDepth 100000
open Go.RowKit Go.Shelf

theorem u64_rng (x : Int) : 0 ≤ IntKind.u64.wrap x ∧ IntKind.u64.wrap x ≤ 18446744073709551615 := by
  simp only [IntKind.wrap, IntKind.signed, IntKind.bits]
  simp
  omega
theorem many8 (mn : Int) : ∃ k : Nat, 1 ≤ k ∧ k ≤ 8 ∧ wrap64 (1 + wrap64 ((IntKind.u64.wrap mn).tmod 8)) = (k : Int) := by
  obtain ⟨h0, _⟩ := u64_rng mn
  rw [Int.tmod_eq_emod_of_nonneg h0]
  generalize IntKind.u64.wrap mn = u at h0
  refine ⟨(1 + u % 8).toNat, by omega, by omega, ?_⟩
  unfold wrap64
  omega
theorem pick8 (p : Int) {n : Nat} (hn : 1 ≤ n) (hn8 : n ≤ 8) : ∃ r : Nat, r < n ∧ wrap64 ((IntKind.u64.wrap p).tmod (n : Int)) = (r : Int) := by
  obtain ⟨h0, _⟩ := u64_rng p
  rw [Int.tmod_eq_emod_of_nonneg h0]
  generalize IntKind.u64.wrap p = u at h0
  have h1 := Int.emod_nonneg u (show (n : Int) ≠ 0 by omega)
  have h2 := Int.emod_lt_of_pos u (show (0 : Int) < n by omega)
  refine ⟨(u % n).toNat, by omega, ?_⟩
  unfold wrap64
  omega
/-- A grace in a box, and its row. -/
structure GzAt (W : World) (z : Nat) (g : GrS) (p : Option Addr) (c : Nat) : Prop where
  box : GBox W z g.done g.asked g.on (.slice p g.nd.length c)
  row : BoolsAt W (.slice p g.nd.length c) g.nd
theorem GzAt.below {W W' : World} {z : Nat} {g : GrS} {p : Option Addr} {c : Nat} (h : GzAt W z g p c) (hb : Below W.heap.size W W') : GzAt W' z g p c := ⟨h.box.below hb, bools_below h.row hb⟩
theorem GzAt.new (W : World) (g : GrS) (p : Option Addr) (c : Nat) (h : BoolsAt W (.slice p g.nd.length c) g.nd) : GzAt (W.alloc (.cells #[.int .i64 g.done, .int .i64 g.asked, .bool g.on, .slice p g.nd.length c] 24)) W.heap.size g p c := ⟨GBox.new _ _ _ _ _, bools_below h (below1 _ _)⟩
/-- A grace and no error, in new memory. -/
def OutG (B : Nat) (g : GrS) (e : Ending) (w : World) : Prop := ∃ nb, e = .returned (.tuple #[.agg #[.int .i64 g.done, .int .i64 g.asked, .bool g.on, .slice (some ⟨nb, 0, none⟩) g.nd.length g.nd.length], .int .i64 0]) ∧ BBlock w nb g.nd ∧ B ≤ nb
theorem outG_of {B : Nat} {E : Int} {g' : GrS} {w : World} {e : Ending} (hE : E = 0) (h : ∃ d a on p n cc x, e = .returned (.tuple #[.agg #[.int .i64 d, .int .i64 a, .bool on, .slice p n cc], .int .i64 x]) ∧ AnsG B E g' d a on p n cc x w) : OutG B g' e w := by
  obtain ⟨d, a, on, p, n, cc, x, rfl, hA⟩ := h
  rcases hA with h | ⟨_, rfl, rfl, rfl, rfl, nb, rfl, rfl, rfl, hb, hB⟩
  · exact absurd hE h.1
  · exact ⟨nb, rfl, hb, hB⟩
theorem outG_no {B : Nat} {E : Int} {g' : GrS} {w : World} {e : Ending} (hE : E ≠ 0) (h : ∃ d a on p n cc x, e = .returned (.tuple #[.agg #[.int .i64 d, .int .i64 a, .bool on, .slice p n cc], .int .i64 x]) ∧ AnsG B E g' d a on p n cc x w) : e = .returned (.tuple #[.agg #[.int .i64 0, .int .i64 0, .bool false, .slice none 0 0], .int .i64 E]) := by
  obtain ⟨d, a, on, p, n, cc, x, rfl, hA⟩ := h
  rcases hA with ⟨_, rfl, rfl, rfl, rfl, rfl, rfl, rfl⟩ | h
  · rfl
  · exact absurd h.1 hE
theorem errG_good {g : GrS} (hg : GoodG g) (e : Int) : errG g e = e := by unfold errG; rw [if_pos ((goodG_iff g).2 hg)]
theorem hasB_lt {n i : Nat} (h : i < n) : hasB n (i : Int) = true := (has_iff _ _).2 ⟨i, rfl, h⟩
theorem GoodG.lmax {g : GrS} (h : GoodG g) : g.nd.length ≤ 9223372036854775807 := by have := h.l8; omega
theorem pickOk (g a : GrS) (v : Value) (i : Nat) (q : Bool) (ha : a = pickG g i q) (hg : GoodG g) (hi : i < g.nd.length) (W : World) (hv : BoolsAt W v g.nd) :
    Calls Try.prog 19 #[.agg #[.int .i64 g.done, .int .i64 g.asked, .bool g.on, v], .int .i64 (i : Int), .bool q] W fun e w' => OutG W.heap.size a e w' ∧ Below W.heap.size W w' := by
  refine (gPick_c g v (i : Int) q W hv hg.lmax).mono ?_
  rintro e w' ⟨h, hb⟩
  rw [Int.toNat_natCast] at h
  rw [ha]
  exact ⟨outG_of (by rw [errG_good hg]; unfold pickE; rw [hasB_lt hi]; rfl) h, hb⟩
theorem reptOk (g a : GrS) (v : Value) (i : Nat) (ha : a = reportG g i) (hg : GoodG g) (ho : g.on = true) (hi : i < g.nd.length) (W : World) (hv : BoolsAt W v g.nd) :
    Calls Try.prog 18 #[.agg #[.int .i64 g.done, .int .i64 g.asked, .bool g.on, v], .int .i64 (i : Int)] W fun e w' => OutG W.heap.size a e w' ∧ Below W.heap.size W w' := by
  refine (gReport_c g v (i : Int) W hv hg.lmax).mono ?_
  rintro e w' ⟨h, hb⟩
  rw [Int.toNat_natCast] at h
  rw [ha]
  exact ⟨outG_of (by rw [errG_good hg]; unfold reportE; rw [hasB_lt hi, ho]; rfl) h, hb⟩
theorem reptNo (g : GrS) (v : Value) (i : Nat) (hg : GoodG g) (ho : g.on = false) (hi : i < g.nd.length) (W : World) (hv : BoolsAt W v g.nd) :
    Calls Try.prog 18 #[.agg #[.int .i64 g.done, .int .i64 g.asked, .bool g.on, v], .int .i64 (i : Int)] W fun e w' => e = .returned (.tuple #[.agg #[.int .i64 0, .int .i64 0, .bool false, .slice none 0 0], .int .i64 4]) ∧ Below W.heap.size W w' := by
  refine (gReport_c g v (i : Int) W hv hg.lmax).mono ?_
  rintro e w' ⟨h, hb⟩
  have hE : errG g (reportE g (i : Int)) = 4 := by rw [errG_good hg]; unfold reportE; rw [hasB_lt hi, ho]; rfl
  rw [hE] at h
  exact ⟨outG_no (by decide) h, hb⟩
theorem sameT (s : GrS) (v v' : Value) (W : World) (hn : BoolsAt W v s.nd) (hn' : BoolsAt W v' s.nd) (l1 : s.nd.length ≤ 9223372036854775807) :
    Calls Try.prog 35 #[.agg #[.int .i64 s.done, .int .i64 s.asked, .bool s.on, v], .agg #[.int .i64 s.done, .int .i64 s.asked, .bool s.on, v']] W fun e w' => e = .returned (.bool true) ∧ Below W.heap.size W w' := by
  have h := gsame_c s s v v' W hn hn' l1 l1
  rwa [(gsameB_iff s s).2 rfl] at h
theorem checkT (g : GrS) (v : Value) (hg : GoodG g) (W : World) (hn : BoolsAt W v g.nd) :
    Calls Try.prog 33 #[.agg #[.int .i64 g.done, .int .i64 g.asked, .bool g.on, v]] W fun e w' => e = .returned (.int .i64 0) ∧ Below W.heap.size W w' := by
  have h := gcheck_c g v W hn hg.lmax
  rwa [if_pos ((goodG_iff g).2 hg)] at h
theorem pick_off {g : GrS} (ho : g.on = true) (i : Nat) : pickG g i false = g := by unfold pickG; rw [if_pos ho, if_neg Bool.false_ne_true]
theorem pick_done (g : GrS) (i : Nat) : (pickG g i false).done = g.done := by
  unfold pickG
  split
  · rfl
  · split
    · rfl
    · rfl
theorem pick_yes {g : GrS} (ho : g.on = true) (i : Nat) : pickG g i true = reportG g i := by unfold pickG; rw [if_pos ho, if_pos rfl]
theorem report_done (g : GrS) (i : Nat) : g.done ≤ (reportG g i).done ∧ (reportG g i).done ≤ g.done + 1 ∧ (reportG g i).asked = g.asked := by
  unfold reportG
  split
  · exact ⟨by show g.done ≤ g.done + 1; omega, Int.le_refl _, rfl⟩
  · exact ⟨Int.le_refl _, by show g.done ≤ g.done + 1; omega, rfl⟩
theorem pick_bound (g : GrS) (i : Nat) (q : Bool) : g.done ≤ (pickG g i q).done ∧ (pickG g i q).done ≤ g.done + 1 ∧ (pickG g i q).asked = g.asked := by
  unfold pickG
  split
  · split
    · exact report_done g i
    · exact ⟨Int.le_refl _, by omega, rfl⟩
  · split
    · exact ⟨Int.le_refl _, by show g.done ≤ g.done + 1; omega, rfl⟩
    · exact ⟨Int.le_refl _, by omega, rfl⟩
theorem report_twice {g : GrS} (i : Nat) (h : (reportG g i).on = true) : reportG (reportG g i) i = reportG g i := by
  by_cases hl : lastB g.nd i = true
  · unfold reportG at h
    rw [if_pos hl] at h
    cases h
  · have e : reportG g i = ⟨g.done, g.asked, g.on, g.nd.set i false⟩ := by unfold reportG; rw [if_neg hl]
    have hl2 : lastB (g.nd.set i false) i ≠ true := fun h => hl ((last_iff _ _).2 fun j hj hb => by
      by_cases hji : j = i
      · exact hji
      · exact (last_iff _ _).1 h j (by rw [List.length_set]; exact hj) (by rw [getB_set, if_neg (fun e => hji e.1)]; exact hb))
    rw [e]
    unfold reportG
    rw [if_neg hl2, List.set_set]
theorem box_out {w5 : World} {a : GrS} {nb : Nat} (h : BBlock w5 nb a.nd) : ∃ X z, X = w5.alloc (.cells #[.int .i64 a.done, .int .i64 a.asked, .bool a.on, .slice (some ⟨nb, 0, none⟩) a.nd.length a.nd.length] 24) ∧ z = w5.heap.size ∧ GzAt X z a (some ⟨nb, 0, none⟩) a.nd.length ∧ Below w5.heap.size w5 X :=
  ⟨_, _, rfl, rfl, GzAt.new _ _ _ _ h.bools, below1 _ _⟩

end Go.Proofs.Ytdmcijfjnegcgaa
/-
  The reference of layer 12: Same; none, of the statements.
  Conditions: the ranges of Go's types.
-/
namespace Go.Proofs.Ytdmcijfjnegcgaa
set_option maxRecDepth 100000
open Go.RowKit Go.Shelf
attribute [local go_sem] Oper.semAt_some

/-- A place of a row of truth values. -/
theorem bools_at {W : World} {p : Option Addr} {n c : Nat} {bs : List Bool} (h : BoolsAt W (.slice p n c) bs) {j : Nat} (hj : j < bs.length) : ∃ b off, p = some ⟨b, off, none⟩ ∧ W.cell? ⟨b, off + j, none⟩ = some (.bool (bs.getD j false)) := by
  obtain ⟨q, cap, e, hc⟩ := h
  injection e with e1 e2 e3
  subst e1
  obtain ⟨b, off, e, hcs⟩ := hc (by intro e; rw [e] at hj; simp at hj)
  exact ⟨b, off, e, by rw [List.getD_eq_getElem?_getD, List.getElem?_eq_getElem hj]; exact hcs j hj⟩
theorem getB_lt {l : List Bool} {k : Nat} (h : k < l.length) : l.getD k false = l[k] := by rw [List.getD_eq_getElem?_getD, List.getElem?_eq_getElem h]; rfl

set_option maxHeartbeats 8000000 in
theorem rgsame_c (s t : GrS) (v v' : Value) (W : World) (hn : BoolsAt W v s.nd) (hn' : BoolsAt W v' t.nd) (l1 : s.nd.length ≤ 9223372036854775807) (l2 : t.nd.length ≤ 9223372036854775807) :
    Calls Try.prog 16 #[.agg #[.int .i64 s.done, .int .i64 s.asked, .bool s.on, v], .agg #[.int .i64 t.done, .int .i64 t.asked, .bool t.on, v']] W fun e w' => e = .returned (.bool (gsameB s t)) ∧ Below W.heap.size W w' := by
  obtain ⟨sd, sa, sw, sn⟩ := s
  obtain ⟨td, ta, tw, tn⟩ := t
  dsimp only at hn hn' l1 l2 ⊢
  have HF := Lib.hid (wSG_facts W sd sa sw v td ta tw v')
  obtain ⟨w0, hw0⟩ : ∃ X, X = wSG W sd sa sw v td ta tw v' := ⟨_, rfl⟩
  rw [← hw0] at HF
  unfold wSG at hw0
  have HV := Lib.hid (And.intro (bools_below hn HF.out.2.2) (bools_below hn' HF.out.2.2))
  obtain ⟨p, c, rfl, -⟩ := hn
  obtain ⟨p', c', rfl, -⟩ := hn'
  obtain ⟨d0, d1, d2, d3⟩ := HF.out.1.cells
  obtain ⟨e0, e1, e2, e3⟩ := HF.out.2.1.cells
  unfold gsameB
  dsimp only
  by_cases h1 : sd = td
  · have q1 : (sd != td) = false := by rw [bne_eq_false_iff_eq]; exact h1
    rw [decide_eq_true h1, Bool.true_and]
    clear h1
    by_cases h2 : sa = ta
    · have q2 : (sa != ta) = false := by rw [bne_eq_false_iff_eq]; exact h2
      rw [decide_eq_true h2, Bool.true_and]
      clear h2
      by_cases h3 : sw = tw
      · rw [decide_eq_true h3, Bool.true_and]
        subst h3
        by_cases hl : sn.length = tn.length
        · have q4 : ((sn.length : Int) != (tn.length : Int)) = false := by rw [hl]; simp
          have HL := Lib.hid hl
          clear hl
          obtain ⟨R, hR⟩ : ∃ R, R = decide (sn = tn) := ⟨_, rfl⟩
          rw [← hR]
          have HR := Lib.hid hR
          clear hR
          go_enter Try.func16, Try.ntmps16
          go_wp2_with fail
          rw [← hw0]
          clear hw0 d0 d1 d2 d3 e0 e1 e2 e3 q1 q2 q4
          go_loopw [38] (fun iv wr => ∃ k : Nat, k ≤ sn.length ∧ iv = .int .i64 (k : Int) ∧ Hid (sn.take k = tn.take k) ∧ Hid (Below w0.heap.size w0 wr)) (fun iv _ => sn.length - (intOf iv).toNat)
          case atStart => exact ⟨0, Nat.zero_le _, rfl, Lib.hid (by simp), Lib.hid (Below.refl _ _)⟩
          case round =>
            obtain ⟨k, hk, rfl, HE, HB⟩ := hrel
            by_cases hlt : k < sn.length
            · have hlt2 : k < tn.length := by have := HL.out; omega
              obtain ⟨b, off, rfl, a1⟩ := bools_at (bools_below HV.out.1 HB.out) hlt
              obtain ⟨b2, off2, rfl, a2⟩ := bools_at (bools_below HV.out.2 HB.out) hlt2
              obtain ⟨x, hx⟩ : ∃ x, x = sn.getD k false := ⟨_, rfl⟩
              obtain ⟨y, hy⟩ : ∃ y, y = tn.getD k false := ⟨_, rfl⟩
              rw [← hx] at a1
              rw [← hy] at a2
              have HX := Lib.hid (show x = sn[k] ∧ y = tn[k] by rw [hx, hy, getB_lt hlt, getB_lt hlt2]; exact ⟨rfl, rfl⟩)
              have hk0 : (0 : Int) ≤ (k : Int) := by omega
              have hkx : (k : Int) < (sn.length : Int) := by omega
              have hky : (k : Int) < (tn.length : Int) := by omega
              obtain ⟨e0, e1, e2, e3⟩ := (HF.out.2.1.below HB.out).cells
              clear hx hy
              by_cases he : x = y
              · have hq2 : (!(x == y)) = false := by rw [he]; simp
                have HE2 := Lib.hid (show sn.take (k + 1) = tn.take (k + 1) by rw [List.take_succ_eq_append_getElem hlt, List.take_succ_eq_append_getElem hlt2, HE.out, ← HX.out.1, ← HX.out.2, he])
                clear he
                go_wp2
                go_roundw
                case rel => exact ⟨k + 1, by omega, rfl, HE2, HB⟩
                case measure => first | omega | (simp [intOf]; omega)
              · have hq2 : (!(x == y)) = true := by simpa using he
                have hne : decide (sn = tn) = false := decide_eq_false (fun e => he (by rw [HX.out.1, HX.out.2]; simp only [e]))
                have HN := Lib.hid hne
                clear he hne
                go_wp2
                go_ret
                exact ⟨ret_bool (HN.out.symm.trans HR.out.symm), HF.out.2.2.trans (HB.out.mono HF.out.2.2.size)⟩
            · have hye : decide (sn = tn) = true := decide_eq_true (by
                have h := HE.out
                rwa [List.take_of_length_le (by omega), List.take_of_length_le (by have := HL.out; omega)] at h)
              have HN := Lib.hid hye
              clear hye
              go_wp2
              go_ret
              exact ⟨ret_bool (HN.out.symm.trans HR.out.symm), HF.out.2.2.trans (HB.out.mono HF.out.2.2.size)⟩
        · have q4 : ((sn.length : Int) != (tn.length : Int)) = true := by rw [bne_iff_ne]; omega
          rw [decide_eq_false (fun e => hl (by rw [e]))]
          clear hl
          go_enter Try.func16, Try.ntmps16
          go_wp2
          rw [← hw0]
          go_ret
          exact ⟨rfl, HF.out.2.2⟩
      · rw [decide_eq_false h3, Bool.false_and]
        obtain ⟨rfl, rfl⟩ | ⟨rfl, rfl⟩ : (sw = true ∧ tw = false) ∨ (sw = false ∧ tw = true) := by cases sw <;> cases tw <;> simp_all
        all_goals
          clear h3
          go_enter Try.func16, Try.ntmps16
          go_wp2
          rw [← hw0]
          go_ret
          exact ⟨rfl, HF.out.2.2⟩
    · have q2 : (sa != ta) = true := by rw [bne_iff_ne]; exact h2
      rw [decide_eq_false h2, Bool.false_and]
      clear h2
      go_enter Try.func16, Try.ntmps16
      go_wp2
      rw [← hw0]
      go_ret
      exact ⟨rfl, HF.out.2.2⟩
  · have q1 : (sd != td) = true := by rw [bne_iff_ne]; exact h1
    rw [decide_eq_false h1, Bool.false_and]
    clear h1
    go_enter Try.func16, Try.ntmps16
    go_wp2
    rw [← hw0]
    go_ret
    exact ⟨rfl, HF.out.2.2⟩

/-- The grace that says nothing. -/
def noG : GrS := ⟨0, 0, false, []⟩
theorem noG_at (W : World) : BoolsAt W (.slice none 0 0) noG.nd := ⟨none, 0, rfl, fun h => absurd rfl h⟩
set_option maxHeartbeats 4000000 in
theorem none_c (W : World) : Calls Try.prog 34 #[.agg #[.int .i64 0, .int .i64 0, .bool false, .slice none 0 0]] W fun e w' => e = .returned (.bool true) ∧ Below W.heap.size W w' := by
  obtain ⟨w0, hw0⟩ : ∃ X : World, X = W.alloc (.cells #[.int .i64 0, .int .i64 0, .bool false, .slice none 0 0] 24) := ⟨_, rfl⟩
  have HB := Lib.hid (show GBox w0 W.heap.size 0 0 false (.slice none 0 0) ∧ Below W.heap.size W w0 by rw [hw0]; exact ⟨GBox.new _ _ _ _ _, below1 _ _⟩)
  have HC := Lib.hid (show Calls Try.prog 16 #[.agg #[.int .i64 0, .int .i64 0, .bool false, .slice none 0 0], .agg #[.int .i64 0, .int .i64 0, .bool false, .slice none 0 0]] w0 fun e w' => e = .returned (.bool true) ∧ Below w0.heap.size w0 w' from rgsame_c noG noG (.slice none 0 0) (.slice none 0 0) w0 (noG_at _) (noG_at _) (by decide) (by decide))
  obtain ⟨d0, d1, d2, d3⟩ := HB.out.1.cells
  go_enter Try.func34, Try.ntmps34
  go_wp2_with fail
  rw [← hw0]
  clear hw0
  (with_reducible refine HC.out.mono ?_)
  rintro e w1 ⟨rfl, hb1⟩
  have HB1 := Lib.hid (below_then HB.out.2 HB.out.2.size hb1)
  go_wp2
  go_ret
  exact ⟨rfl, HB1.out⟩

end Go.Proofs.Ytdmcijfjnegcgaa
/-
  The reference of layer 12: Needed, Right, Next.
  Conditions: the ranges of Go's types.
-/
namespace Go.Proofs.Ytdmcijfjnegcgaa
set_option maxRecDepth 100000
open Go.RowKit Go.Shelf
attribute [local go_sem] Oper.semAt_some

set_option maxHeartbeats 8000000 in
theorem rneed_c (d a : Int) (on : Bool) (v : Value) (nd : List Bool) (W : World) (hv : BoolsAt W v nd) (hl : nd.length ≤ 9223372036854775807) :
    Calls Try.prog 39 #[.agg #[.int .i64 d, .int .i64 a, .bool on, v]] W fun e w' => e = .returned (.int .i64 (manyG nd : Int)) ∧ Below W.heap.size W w' := by
  obtain ⟨w0, hw0⟩ : ∃ X : World, X = W.alloc (.cells #[.int .i64 d, .int .i64 a, .bool on, v] 24) := ⟨_, rfl⟩
  have HB := Lib.hid (show GBox w0 W.heap.size d a on v ∧ Below W.heap.size W w0 by rw [hw0]; exact ⟨GBox.new _ _ _ _ _, below1 _ _⟩)
  have HV := Lib.hid (bools_below hv HB.out.2)
  obtain ⟨d0, d1, d2, d3⟩ := HB.out.1.cells
  obtain ⟨p, c, rfl, -⟩ := hv
  go_enter Try.func39, Try.ntmps39
  go_upto_region 1 with fail
  rw [← hw0]
  clear hw0
  go_wp2_with fail
  clear d0 d1 d2 d3
  go_loopw [3, 9] (fun sv iv wr => ∃ k : Nat, k ≤ nd.length ∧ iv = .int .i64 (k : Int) ∧ sv = .int .i64 ((trN nd k).length : Int) ∧ Hid (Below w0.heap.size w0 wr)) (fun _ iv _ => nd.length - (intOf iv).toNat)
  case atStart => exact ⟨0, Nat.zero_le _, rfl, rfl, Lib.hid (Below.refl _ _)⟩
  case round =>
    obtain ⟨k, hk, rfl, rfl, HK⟩ := hrel
    by_cases hlt : k < nd.length
    · obtain ⟨b, off, rfl, a1⟩ := bools_at (bools_below HV.out HK.out) hlt
      obtain ⟨m, hm⟩ : ∃ m, m = (trN nd k).length := ⟨_, rfl⟩
      have hmk : m ≤ k := by rw [hm]; exact trN_len nd k
      have hk0 : (0 : Int) ≤ (k : Int) := by omega
      have hkx : (k : Int) < (nd.length : Int) := by omega
      rw [← hm]
      cases hx : nd.getD k false with
      | true =>
        rw [hx] at a1
        have HM := Lib.hid (show (trN nd (k + 1)).length = m + 1 by rw [show trN nd (k + 1) = trN nd k ++ (if nd.getD k false = true then [(k : Int)] else []) from rfl, if_pos hx, List.length_append, hm]; rfl)
        clear hm hx
        go_wp2
        go_roundw
        case rel => exact ⟨k + 1, by omega, by go_num, by rw [HM.out]; go_num, HK⟩
        case measure => simp [intOf]; omega
      | false =>
        rw [hx] at a1
        have HM := Lib.hid (show (trN nd (k + 1)).length = m by rw [show trN nd (k + 1) = trN nd k ++ (if nd.getD k false = true then [(k : Int)] else []) from rfl, if_neg (by rw [hx]; exact Bool.false_ne_true), List.length_append, hm]; rfl)
        clear hm hx
        go_wp2
        go_roundw
        case rel => exact ⟨k + 1, by omega, by go_num, by rw [HM.out], HK⟩
        case measure => simp [intOf]; omega
    · obtain rfl : k = nd.length := by omega
      go_wp2
      go_ret
      exact ⟨rfl, HB.out.2.trans (HK.out.mono HB.out.2.size)⟩

set_option maxHeartbeats 8000000 in
theorem rright_c (g : GrS) (v : Value) (W : World) (hv : BoolsAt W v g.nd) (hl : g.nd.length ≤ 9223372036854775807) :
    Calls Try.prog 10 #[.agg #[.int .i64 g.done, .int .i64 g.asked, .bool g.on, v]] W fun e w' => e = .returned (.bool (mayG g)) ∧ Below W.heap.size W w' := by
  obtain ⟨R, hR⟩ : ∃ R, R = mayG g := ⟨_, rfl⟩
  rw [← hR]
  have HR := Lib.hid hR
  obtain ⟨d, a, on, nd⟩ := g
  dsimp only at hv hl ⊢
  obtain ⟨w0, hw0⟩ : ∃ X : World, X = W.alloc (.cells #[.int .i64 d, .int .i64 a, .bool on, v] 24) := ⟨_, rfl⟩
  have HB := Lib.hid (show GBox w0 W.heap.size d a on v ∧ Below W.heap.size W w0 by rw [hw0]; exact ⟨GBox.new _ _ _ _ _, below1 _ _⟩)
  have HC := Lib.hid (rneed_c d a on v nd w0 (bools_below hv HB.out.2) hl)
  obtain ⟨m, hm⟩ : ∃ m, m = manyG nd := ⟨_, rfl⟩
  rw [← hm] at HC
  have HM := Lib.hid hm
  obtain ⟨d0, d1, d2, d3⟩ := HB.out.1.cells
  obtain ⟨p, c, rfl, -⟩ := hv
  clear hR hm
  go_enter Try.func10, Try.ntmps10
  go_upto_region 1 with fail
  rw [← hw0]
  clear hw0
  have leaf : ∀ b : Bool, (mayG ⟨d, a, on, nd⟩ = true ↔ b = true) → Value.bool b = Value.bool R := fun b h => by
    have : b = mayG ⟨d, a, on, nd⟩ := by rw [Bool.eq_iff_iff]; exact h.symm
    rw [HR.out, this]
  have LF := Lib.hid leaf
  clear leaf
  have mg : mayG ⟨d, a, on, nd⟩ = true ↔ (1 ≤ nd.length ∧ nd.length ≤ 8 ∧ 0 ≤ d ∧ d ≤ a ∧ a ≤ 2147483645) ∧ (if on = true then 0 < (m : Int) ∧ 1 ≤ a - d ∧ a - d ≤ 2 else (m : Int) = 0 ∧ a - d ≤ 1) := by
    rw [HM.out]
    unfold mayG numsG mayCpus tellG
    dsimp only
    cases on <;> simp <;> omega
  have MG := Lib.hid mg
  clear mg
  by_cases c1 : nd.length < 1
  · go_wp2
    go_ret
    exact ⟨congrArg Ending.returned (LF.out false (by rw [MG.out]; simp; omega)), HB.out.2⟩
  · by_cases c2 : 8 < nd.length
    · go_wp2
      go_ret
      exact ⟨congrArg Ending.returned (LF.out false (by rw [MG.out]; simp; omega)), HB.out.2⟩
    · by_cases c3 : d < 0
      · go_wp2
        go_ret
        exact ⟨congrArg Ending.returned (LF.out false (by rw [MG.out]; simp; omega)), HB.out.2⟩
      · by_cases c4 : 2147483645 < a
        · go_wp2
          go_ret
          exact ⟨congrArg Ending.returned (LF.out false (by rw [MG.out]; simp; omega)), HB.out.2⟩
        · go_upto_region 3 with fail
          cases on with
          | true =>
            go_wp2_with fail
            (with_reducible refine HC.out.mono ?_)
            rintro e w1 ⟨rfl, hb1⟩
            have HB1 := Lib.hid (below_then HB.out.2 HB.out.2.size hb1)
            have g1 := HB.out.1.below hb1
            clear d0 d1 d2 d3
            obtain ⟨d0, d1, d2, d3⟩ := g1.cells
            clear hb1 g1
            by_cases c5 : (0 : Int) < (m : Int)
            · by_cases c6 : d < a
              · by_cases c7 : a ≤ d + 2
                · go_wp2
                  go_ret
                  exact ⟨congrArg Ending.returned (LF.out true (by rw [MG.out]; simp; omega)), HB1.out⟩
                · go_wp2
                  go_ret
                  exact ⟨congrArg Ending.returned (LF.out (decide (a ≤ d + 2)) (by rw [MG.out]; simp; omega)), HB1.out⟩
              · go_wp2
                go_ret
                exact ⟨congrArg Ending.returned (LF.out false (by rw [MG.out]; simp; omega)), HB1.out⟩
            · go_wp2
              go_ret
              exact ⟨congrArg Ending.returned (LF.out false (by rw [MG.out]; simp; omega)), HB1.out⟩
          | false =>
            go_wp2_with fail
            (with_reducible refine HC.out.mono ?_)
            rintro e w1 ⟨rfl, hb1⟩
            have HB1 := Lib.hid (below_then HB.out.2 HB.out.2.size hb1)
            have g1 := HB.out.1.below hb1
            clear d0 d1 d2 d3
            obtain ⟨d0, d1, d2, d3⟩ := g1.cells
            clear hb1 g1
            by_cases c5 : m = 0
            · have hq : ((m : Int) == 0) = true := by rw [c5]; rfl
              by_cases c6 : d ≤ a
              · by_cases c7 : a ≤ d + 1
                · go_wp2
                  go_ret
                  exact ⟨congrArg Ending.returned (LF.out true (by rw [MG.out]; simp; omega)), HB1.out⟩
                · go_wp2
                  go_ret
                  exact ⟨congrArg Ending.returned (LF.out (decide (a ≤ d + 1)) (by rw [MG.out]; simp; omega)), HB1.out⟩
              · go_wp2
                go_ret
                exact ⟨congrArg Ending.returned (LF.out false (by rw [MG.out]; simp; omega)), HB1.out⟩
            · have hq : ((m : Int) == 0) = false := by rw [beq_eq_false_iff_ne]; omega
              go_wp2
              go_ret
              exact ⟨congrArg Ending.returned (LF.out false (by rw [MG.out]; simp; omega)), HB1.out⟩

end Go.Proofs.Ytdmcijfjnegcgaa
/-
  The reference of layer 12: Next, Ask.
  Conditions: the grace may be.
-/
namespace Go.Proofs.Ytdmcijfjnegcgaa
set_option maxRecDepth 100000
open Go.RowKit Go.Shelf
attribute [local go_sem] Oper.semAt_some

set_option maxHeartbeats 4000000 in
theorem rnext_c (g : GrS) (v : Value) (hg : GoodG g) (W : World) :
    Calls Try.prog 14 #[.agg #[.int .i64 g.done, .int .i64 g.asked, .bool g.on, v]] W fun e w' => e = .returned (.int .i64 (nextG g)) ∧ Below W.heap.size W w' := by
  obtain ⟨w0, hw0⟩ : ∃ X : World, X = W.alloc (.cells #[.int .i64 g.done, .int .i64 g.asked, .bool g.on, v] 24) := ⟨_, rfl⟩
  have HB := Lib.hid (show GBox w0 W.heap.size g.done g.asked g.on v ∧ Below W.heap.size W w0 by rw [hw0]; exact ⟨GBox.new _ _ _ _ _, below1 _ _⟩)
  have h0 := hg.d0
  have h1 : g.done ≤ 2147483645 := by
    have := hg.a1
    cases ho : g.on with
    | true => have := hg.on1 ho; omega
    | false => have := hg.on0 ho; omega
  obtain ⟨d0, d1, d2, d3⟩ := HB.out.1.cells
  cases ho : g.on with
  | true =>
    have HN := Lib.hid (show nextG g = g.done + 2 by unfold nextG; rw [if_pos ho]; omega)
    rw [HN.out]
    rw [ho] at d2 hw0
    clear ho hg
    go_enter Try.func14, Try.ntmps14
    go_upto_region 1 with fail
    rw [← hw0]
    clear hw0
    go_wp2
    go_ret
    exact ⟨rfl, HB.out.2⟩
  | false =>
    have HN := Lib.hid (show nextG g = g.done + 1 by unfold nextG; rw [if_neg (by rw [ho]; exact Bool.false_ne_true)])
    rw [HN.out]
    rw [ho] at d2 hw0
    clear ho hg
    go_enter Try.func14, Try.ntmps14
    go_upto_region 1 with fail
    rw [← hw0]
    clear hw0
    go_wp2
    go_ret
    exact ⟨rfl, HB.out.2⟩

/-- A grace, in one form. -/
def aggG (g : GrS) (v : Value) : Value := .agg #[.int .i64 g.done, .int .i64 g.asked, .bool g.on, v]
set_option maxHeartbeats 8000000 in
theorem rask_c (g : GrS) (p : Option Addr) (n c : Nat) (hg : GoodG g) (W : World) :
    Calls Try.prog 13 #[.agg #[.int .i64 g.done, .int .i64 g.asked, .bool g.on, .slice p n c]] W fun e w' => ((askE g ≠ 0 ∧ e = .returned (.tuple #[.agg #[.int .i64 0, .int .i64 0, .bool false, .slice none 0 0], .bool false])) ∨ (askE g = 0 ∧ e = .returned (.tuple #[.agg #[.int .i64 (askG g).done, .int .i64 (askG g).asked, .bool (askG g).on, .slice p n c], .bool true]))) ∧ Below W.heap.size W w' := by
  have hnx := hg.next
  obtain ⟨N, hN⟩ : ∃ N, N = nextG g := ⟨_, rfl⟩
  have HN := Lib.hid hN
  have HC := Lib.hid (rnext_c g (.slice p n c) hg)
  rw [← hN] at HC hnx
  have HE := Lib.hid (show askE g = (if 2147483645 < N then 6 else 0) by rw [hN]; rfl)
  have HA := Lib.hid (show askG g = ⟨g.done, N, g.on, g.nd⟩ by rw [hN]; rfl)
  have hna := hnx.1
  obtain ⟨d, a, on, nd⟩ := g
  dsimp only at HC HA hna ⊢
  obtain ⟨w0, hw0⟩ : ∃ X : World, X = wSG W d a on (.slice p n c) 0 0 false (.slice none 0 0) := ⟨_, rfl⟩
  have HF := Lib.hid (wSG_facts W d a on (.slice p n c) 0 0 false (.slice none 0 0))
  rw [← hw0] at HF
  have HSZ := Lib.hid (show w0.heap.size = W.heap.size + 2 by rw [hw0]; unfold wSG; simp)
  unfold wSG at hw0
  obtain ⟨d0, d1, d2, d3⟩ := HF.out.1.cells
  have HW0 := Lib.hid hw0
  clear hN hnx hg hw0
  go_enter Try.func13, Try.ntmps13
  go_upto_region 1 with fail
  rw [← HW0.out]
  clear HW0
  go_wp2_with fail
  (with_reducible refine (HC.out w0).mono ?_)
  rintro e w1 ⟨rfl, hb1⟩
  have g1 := HF.out.1.below hb1
  have g2 := HF.out.2.1.below hb1
  have HB1 := Lib.hid (below_then HF.out.2.2 HF.out.2.2.size hb1)
  clear hb1 d0 d1 d2 d3
  obtain ⟨d0, d1, d2, d3⟩ := g1.cells
  obtain ⟨e0, e1, e2, e3⟩ := g2.cells
  have m0 := g2.marks 0
  have m1 := g2.marks 1
  have m2 := g2.marks 2
  have m3 := g2.marks 3
  have n1 := g1.marks 1
  by_cases c1 : 2147483645 < N
  · have HP := Lib.hid (g2.put 0 0 false (.slice none 0 0))
    have HK := Lib.hid (GBox.putK w1 (W.heap.size + 1) 0 0 false (.slice none 0 0))
    have HE6 := Lib.hid (show askE ⟨d, a, on, nd⟩ ≠ 0 by rw [HE.out, if_pos c1]; decide)
    clear HE HA g1 g2
    go_wp2
    exact bodyPost_ret (HP.out.result2 rfl _ rfl rfl) rfl ⟨.inl ⟨HE6.out, rfl⟩, HB1.out.trans (HK.out.below HB1.out.size (fun k e => by omega))⟩
  · have HE0 := Lib.hid (show askE ⟨d, a, on, nd⟩ = 0 by rw [HE.out, if_neg c1])
    by_cases c2 : a < N
    · obtain ⟨w2, hw2⟩ : ∃ X : World, X = w1.setCell ⟨W.heap.size, 1, none⟩ (.int .i64 N) := ⟨_, rfl⟩
      have hg2 : GBox w2 W.heap.size d N on (.slice p n c) := by rw [hw2]; unfold GBox; rw [heap_setCell_same w1 W.heap.size 1 _ _ _ g1]; rfl
      have hk2 : Keeps (fun k => k = W.heap.size) w1 w2 := by rw [hw2]; exact setK w1 W.heap.size 1 (.int .i64 N)
      have hz2 := g2.keeps hk2 (by omega)
      have HB2 := Lib.hid (HB1.out.trans (hk2.below HB1.out.size (fun k e => by omega)))
      have HP := Lib.hid (hz2.put d N on (.slice p n c))
      have HK := Lib.hid (GBox.putK w2 (W.heap.size + 1) d N on (.slice p n c))
      have HW2 := Lib.hid hw2
      have HX := Lib.hid (And.intro hg2 hz2)
      clear HE hw2 hg2 hk2 hz2 g1 g2
      go_upto_region 6 with fail
      rw [← HW2.out]
      clear HW2 d0 d1 d2 d3 e0 e1 e2 e3 m0 m1 m2 m3 n1
      obtain ⟨d0, d1, d2, d3⟩ := HX.out.1.cells
      obtain ⟨e0, e1, e2, e3⟩ := HX.out.2.cells
      have m0 := HX.out.2.marks 0
      have m1 := HX.out.2.marks 1
      have m2 := HX.out.2.marks 2
      have m3 := HX.out.2.marks 3
      go_wp2
      exact bodyPost_ret (HP.out.result2 rfl _ rfl rfl) rfl ⟨.inr ⟨HE0.out, by rw [HA.out]; rfl⟩, HB2.out.trans (HK.out.below HB2.out.size (fun k e => by omega))⟩
    · obtain rfl : a = N := by omega
      have HP := Lib.hid (g2.put d a on (.slice p n c))
      have HK := Lib.hid (GBox.putK w1 (W.heap.size + 1) d a on (.slice p n c))
      clear HE g1 g2
      go_wp2
      exact bodyPost_ret (HP.out.result2 rfl _ rfl rfl) rfl ⟨.inr ⟨HE0.out, by rw [HA.out]; rfl⟩, HB1.out.trans (HK.out.below HB1.out.size (fun k e => by omega))⟩

end Go.Proofs.Ytdmcijfjnegcgaa
/-
  The reference of layer 12: Begin.
  Conditions: the grace may be.
-/
namespace Go.Proofs.Ytdmcijfjnegcgaa
set_option maxRecDepth 100000
open Go.RowKit Go.Shelf
attribute [local go_sem] Oper.semAt_some

theorem owns_far {B : Nat} {E : TypeId} {W : World} {p : Option Addr} {n c : Nat} {xs : List Value} (h : W.ownsRow B E 1 (.slice p n c) n xs) : ∀ a : Addr, p = some a → B ≤ a.block := fun a e => by
  rcases h.2 with ⟨e2, _⟩ | ⟨g, cap, cur, e2, hB, _⟩
  · injection e2 with e2 _ _; rw [e] at e2; cases e2
  · injection e2 with e2 _ _; rw [e] at e2; injection e2 with e2; rw [e2]; exact hB
theorem bools_other {w w' : World} {p : Option Addr} {n c z : Nat} {bs : List Bool} (h : BoolsAt w (.slice p n c) bs) (hz : ∀ a : Addr, p = some a → a.block ≠ z) (hk : Keeps (fun k => k = z) w w') : BoolsAt w' (.slice p n c) bs := by
  obtain ⟨q, d, e, hc⟩ := h
  refine ⟨q, d, e, fun hne => ?_⟩
  obtain ⟨b, off, rfl, hcs⟩ := hc hne
  injection e with e1 e2 e3
  refine ⟨b, off, rfl, fun i hi => ?_⟩
  have h1 := hcs i hi
  have hb : b < w.heap.size := World.block_lt_of_cell? w _ h1
  have h2 := hk.block b hb (hz _ e1)
  simp only [World.cell?] at h1 ⊢
  rw [h2]; exact h1
theorem bools_lt {w : World} {p : Option Addr} {n c : Nat} {bs : List Bool} (h : BoolsAt w (.slice p n c) bs) (hne : bs ≠ []) : ∀ a : Addr, p = some a → a.block < w.heap.size := fun a e => by
  obtain ⟨q, d, e', hc⟩ := h
  injection e' with e1 e2 e3
  obtain ⟨b, off, rfl, hcs⟩ := hc hne
  rw [e] at e1
  injection e1 with e1
  rw [e1]
  exact World.block_lt_of_cell? w _ (hcs 0 (List.length_pos_iff.2 hne))
/-- A grace that a reference answers, whose row is new. -/
def RefO (B : Nat) (g : GrS) (e : Ending) (w : World) : Prop := ∃ p c, e = .returned (.agg #[.int .i64 g.done, .int .i64 g.asked, .bool g.on, .slice p g.nd.length c]) ∧ BoolsAt w (.slice p g.nd.length c) g.nd ∧ ∀ a : Addr, p = some a → B ≤ a.block
/-- A grace that a reference answers, whose row is new, or p's. -/
def RefX (B : Nat) (p : Option Addr) (g : GrS) (e : Ending) (w : World) : Prop := ∃ q c, e = .returned (.agg #[.int .i64 g.done, .int .i64 g.asked, .bool g.on, .slice q g.nd.length c]) ∧ BoolsAt w (.slice q g.nd.length c) g.nd ∧ (q = p ∨ ∀ a : Addr, q = some a → B ≤ a.block)
/-- A grace that a reference answers: its row reads so. -/
def RefG (g : GrS) (e : Ending) (w : World) : Prop := ∃ p c, e = .returned (.agg #[.int .i64 g.done, .int .i64 g.asked, .bool g.on, .slice p g.nd.length c]) ∧ BoolsAt w (.slice p g.nd.length c) g.nd
set_option maxHeartbeats 8000000 in
theorem rbegin_c (g : GrS) (p : Option Addr) (c : Nat) (hg : GoodG g) (W : World) :
    Calls Try.prog 15 #[.agg #[.int .i64 g.done, .int .i64 g.asked, .bool g.on, .slice p g.nd.length c]] W fun e w' => RefO (W.heap.size + 2) (beginG g) e w' ∧ Below W.heap.size W w' := by
  obtain ⟨n, hn⟩ : ∃ n, n = g.nd.length := ⟨_, rfl⟩
  have HBG := Lib.hid (show beginG g = ⟨g.done, g.asked, true, List.replicate n true⟩ by rw [hn]; rfl)
  have h8 : n ≤ 8 := by rw [hn]; exact hg.l8
  rw [← hn]
  obtain ⟨d, a, on, nd⟩ := g
  dsimp only at HBG ⊢
  obtain ⟨w0, hw0⟩ : ∃ X : World, X = wSG W d a on (.slice p n c) 0 0 false (.slice none 0 0) := ⟨_, rfl⟩
  have HF := Lib.hid (wSG_facts W d a on (.slice p n c) 0 0 false (.slice none 0 0))
  rw [← hw0] at HF
  have HSZ := Lib.hid (show w0.heap.size = W.heap.size + 2 by rw [hw0]; unfold wSG; simp)
  unfold wSG at hw0
  obtain ⟨d0, d1, d2, d3⟩ := HF.out.1.cells
  have HW0 := Lib.hid hw0
  obtain ⟨i1, hi1, hy0, hy1, hy2⟩ := info_parts cloneB_info
  have HI1 := Lib.hid (And.intro hi1 (And.intro hy0 (And.intro hy1 hy2)))
  clear hn hg hw0 hi1 hy0 hy1 hy2
  go_enter Try.func15, Try.ntmps15
  go_upto_region 1 with fail
  rw [← HW0.out]
  clear HW0
  go_wp2_with fail
  clear d0 d1 d2 d3
  go_loopw [3, 7] (fun pv kv wx => ∃ (k : Nat) (pq : Option Addr) (cq : Nat), k ≤ n ∧ kv = .int .i64 (k : Int) ∧ pv = .slice pq k cq ∧ Hid (wx.ownsRow w0.heap.size 4 1 (.slice pq k cq) k ((List.replicate k true).map Value.bool) ∧ Below w0.heap.size w0 wx)) (fun _ kv _ => n - (intOf kv).toNat)
  case atStart => exact ⟨0, none, 0, Nat.zero_le _, rfl, rfl, Lib.hid ⟨World.ownsRow_nil _ _ _ _, Below.refl _ _⟩⟩
  case round =>
    obtain ⟨k, pq, cq, hk, rfl, rfl, HP⟩ := hrel
    by_cases hkn : k < n
    · have HSZ2 := Lib.hid HP.out.2.size
      go_upto_region 4 with fail
      go_wp2_with (at_builtin; refine wpList_append_own _ rfl _ _ 22 rfl w0.heap.size 4 i1 (.bool false) 1 1 Try.underlying22 HI1.out.1 HI1.out.2.1 HI1.out.2.2.1 HI1.out.2.2.2 rfl (by decide) (.slice pq k cq) k _ rfl (HP.out.1.alloc _) ⟨wr.heap.size, 0, none⟩ 1 1 [.bool true] rfl rfl (cell_one_new _ _ _) (fun y hy => by rw [List.mem_singleton.1 hy]; rfl) (by unfold maxLen; omega) (by omega) (by have := HSZ2.out; simp; omega) ?_; intro v' w5 hown' hgrow _; obtain ⟨q6, d6, rfl⟩ := owns_slice hown')
      have HP2 := Lib.hid (show w5.ownsRow w0.heap.size 4 1 (.slice q6 (k + 1) d6) (k + 1) ((List.replicate (k + 1) true).map Value.bool) ∧ Below w0.heap.size w0 w5 from ⟨by
        have e : (List.replicate (k + 1) true).map Value.bool = (List.replicate k true).map Value.bool ++ [.bool true] := by rw [List.replicate_succ', List.map_append]; rfl
        rw [e]; exact hown', below_grown (below_then HP.out.2 HP.out.2.size (below1 wr (.cells #[.bool true] 4))) hgrow (fun r hr => (HP.out.1.lt r hr).1)⟩)
      clear hown' hgrow HP
      go_roundw
      case rel => exact ⟨k + 1, q6, d6, by omega, by go_num, rfl, HP2⟩
      case measure => simp [intOf]; omega
    · obtain rfl : k = n := by omega
      have g1 := HF.out.1.below HP.out.2
      have g2 := HF.out.2.1.below HP.out.2
      have HB1 := Lib.hid (HF.out.2.2.trans (HP.out.2.mono HF.out.2.2.size))
      obtain ⟨d0, d1, d2, d3⟩ := g1.cells
      have n2 := g1.marks 2
      have n3 := g1.marks 3
      obtain ⟨w2, hw2⟩ : ∃ X : World, X = (wr.setCell ⟨W.heap.size, 3, none⟩ (.slice pq k cq)).setCell ⟨W.heap.size, 2, none⟩ (.bool true) := ⟨_, rfl⟩
      have hgA : GBox (wr.setCell ⟨W.heap.size, 3, none⟩ (.slice pq k cq)) W.heap.size d a on (.slice pq k cq) := by unfold GBox; rw [heap_setCell_same wr W.heap.size 3 _ _ _ g1]; rfl
      have hgB : GBox w2 W.heap.size d a true (.slice pq k cq) := by rw [hw2]; unfold GBox; rw [heap_setCell_same _ W.heap.size 2 _ _ _ hgA]; rfl
      have hk2 : Keeps (fun k => k = W.heap.size) wr w2 := by rw [hw2]; exact (setK wr W.heap.size 3 (.slice pq k cq)).trans (setK _ W.heap.size 2 (.bool true))
      have hz2 := g2.keeps hk2 (by omega)
      have HB2 := Lib.hid (HB1.out.trans (hk2.below HB1.out.size (fun k e => by omega)))
      have HO2 := Lib.hid (hk2.row HP.out.1 (fun q hq e => by have := (HP.out.1.lt q hq).1; have := HSZ.out; omega))
      have HPT := Lib.hid (hz2.put d a true (.slice pq k cq))
      have HK := Lib.hid (GBox.putK w2 (W.heap.size + 1) d a true (.slice pq k cq))
      have HW2 := Lib.hid hw2
      have HX := Lib.hid (And.intro hgB hz2)
      clear hw2 hgA hgB hk2 hz2 g1 g2 HP
      go_upto_region 7 with fail
      rw [← HW2.out]
      clear HW2 d0 d1 d2 d3 n2 n3
      obtain ⟨d0, d1, d2, d3⟩ := HX.out.1.cells
      obtain ⟨e0, e1, e2, e3⟩ := HX.out.2.cells
      have m0 := HX.out.2.marks 0
      have m1 := HX.out.2.marks 1
      have m2 := HX.out.2.marks 2
      have m3 := HX.out.2.marks 3
      go_wp2
      refine bodyPost_ret (HPT.out.result1 rfl _ rfl) rfl ⟨⟨pq, cq, ?_, ?_, fun a e => by have := owns_far HO2.out a e; have := HSZ.out; omega⟩, HB2.out.trans (HK.out.below HB2.out.size (fun k e => by omega))⟩
      · rw [HBG.out]; simp
      · rw [HBG.out]
        have h := bools_of_owns (bs := List.replicate k true) (by simp) (HK.out.row HO2.out (fun q hq e => by have := (HO2.out.lt q hq).1; have := HSZ.out; omega))
        simpa using h

end Go.Proofs.Ytdmcijfjnegcgaa
/-
  The reference of layer 12: Report, Pick.
  Conditions: the grace may be; the CPU is there.
-/
namespace Go.Proofs.Ytdmcijfjnegcgaa
set_option maxRecDepth 100000
open Go.RowKit Go.Shelf
attribute [local go_sem] Oper.semAt_some

theorem rep_last' {g : GrS} {i : Nat} (h : lastB g.nd i = true) : reportG g i = ⟨g.done + 1, g.asked, false, g.nd.set i false⟩ := by unfold reportG; rw [if_pos h]
theorem rep_not' {g : GrS} {i : Nat} (h : ¬ lastB g.nd i = true) : reportG g i = ⟨g.done, g.asked, g.on, g.nd.set i false⟩ := by unfold reportG; rw [if_neg h]
theorem many_last (nd : List Bool) (i : Nat) : manyG (nd.set i false) = 0 ↔ lastB nd i = true := by
  rw [last_iff]
  constructor
  · intro h j hj hb
    refine Classical.byContradiction fun hne => ?_
    have : 0 < manyG (nd.set i false) := (many_pos _).2 ⟨j, by rw [List.length_set]; exact hj, by rw [getB_set, if_neg (fun e => hne e.1)]; exact hb⟩
    omega
  · intro h
    have : ¬ 0 < manyG (nd.set i false) := fun hp => by
      obtain ⟨j, hj, hb⟩ := (many_pos _).1 hp
      rw [List.length_set] at hj
      rw [getB_set] at hb
      split at hb
      · cases hb
      · rename_i hn
        have := h j hj hb
        subst this
        exact hn ⟨rfl, hj⟩
    omega

set_option maxHeartbeats 8000000 in
theorem rreport_c (g : GrS) (v : Value) (i : Nat) (hg : GoodG g) (ho : g.on = true) (hi : i < g.nd.length) (W : World) (hv : BoolsAt W v g.nd) :
    Calls Try.prog 21 #[.agg #[.int .i64 g.done, .int .i64 g.asked, .bool g.on, v], .int .i64 (i : Int)] W fun e w' => RefO (W.heap.size + 2) (reportG g i) e w' ∧ Below W.heap.size W w' := by
  obtain ⟨RG, hRG⟩ : ∃ r, r = reportG g i := ⟨_, rfl⟩
  rw [← hRG]
  have HRG := Lib.hid (show (lastB g.nd i = true → RG = ⟨g.done + 1, g.asked, false, g.nd.set i false⟩) ∧ (¬ lastB g.nd i = true → RG = ⟨g.done, g.asked, g.on, g.nd.set i false⟩) by rw [hRG]; exact ⟨rep_last', rep_not'⟩)
  have h8 := hg.l8
  have hd0 := hg.d0
  have hd1 : g.done ≤ 2147483645 := by have := hg.a1; have := hg.on1 ho; omega
  obtain ⟨b, off, hs⟩ : ∃ b off, ∃ c, v = .slice (some ⟨b, off, none⟩) g.nd.length c ∧ ∀ j (h : j < g.nd.length), W.cell? ⟨b, off + j, none⟩ = some (.bool g.nd[j]) := by
    obtain ⟨p, c, rfl, hc⟩ := hv
    obtain ⟨b, off, rfl, hcs⟩ := hc (by intro e; rw [e] at hi; simp at hi)
    exact ⟨b, off, c, rfl, hcs⟩
  obtain ⟨c, rfl, hcs⟩ := hs
  obtain ⟨d, a, on, nd⟩ := g
  dsimp only at *
  subst ho
  clear hRG hg hv
  obtain ⟨n, hn⟩ : ∃ n, n = nd.length := ⟨_, rfl⟩
  obtain ⟨w0, hw0⟩ : ∃ X : World, X = wSG W d a true (.slice (some ⟨b, off, none⟩) n c) 0 0 false (.slice none 0 0) := ⟨_, rfl⟩
  have HF := Lib.hid (wSG_facts W d a true (.slice (some ⟨b, off, none⟩) n c) 0 0 false (.slice none 0 0))
  rw [← hw0] at HF
  have HSZ := Lib.hid (show w0.heap.size = W.heap.size + 2 by rw [hw0]; unfold wSG; simp)
  unfold wSG at hw0
  have HCS := Lib.hid (show ∀ j u, (nd.map Value.bool)[j]? = some u → w0.cell? ((⟨b, off, none⟩ : Addr).add j) = some u from fun j u hj => by
    obtain ⟨hj1, rfl⟩ := List.getElem?_eq_some_iff.1 hj
    rw [List.length_map] at hj1
    rw [addr_add_off, List.getElem_map]
    exact below_cell HF.out.2.2 (hcs j hj1))
  obtain ⟨d0, d1, d2, d3⟩ := HF.out.1.cells
  have HW0 := Lib.hid hw0
  have HN := Lib.hid hn
  obtain ⟨i1, hi1, hy0, hy1, hy2⟩ := info_parts cloneB_info
  have HI1 := Lib.hid (And.intro hi1 (And.intro hy0 (And.intro hy1 hy2)))
  rw [← hn] at hi h8 ⊢
  clear hw0 hi1 hy0 hy1 hy2 hcs hn
  go_enter Try.func21, Try.ntmps21
  go_upto_region 1 with fail
  rw [← HW0.out]
  clear HW0
  have hszA : w0.heap.size ≤ (w0.alloc (.cells #[] 4)).heap.size := (below1 w0 _).size
  have HOA := Lib.hid (show (w0.alloc (.cells #[] 4)).ownsRow w0.heap.size 4 1 (.slice (some ⟨w0.heap.size, 0, none⟩) 0 0) 0 [] by
    have h : BBlock (w0.alloc (.cells #[] 4)) w0.heap.size [] := World.alloc_heap_new w0 _
    have := h.owns (B := w0.heap.size) (Nat.le_refl _) (by simp)
    simpa using this)
  have HCA := Lib.hid (show ∀ j u, (nd.map Value.bool)[j]? = some u → (w0.alloc (.cells #[] 4)).cell? ((⟨b, off, none⟩ : Addr).add j) = some u from fun j u hj => below_cell (below1 _ _) (HCS.out j u hj))
  clear d0 d1 d2 d3
  obtain ⟨d0, d1, d2, d3⟩ := (HF.out.1.below (below1 w0 (.cells #[] 4))).cells
  go_upto_region 2 with (at_builtin; refine wpList_append_own _ rfl _ _ 22 rfl w0.heap.size 4 i1 (.bool false) 1 1 Try.underlying22 HI1.out.1 HI1.out.2.1 HI1.out.2.2.1 HI1.out.2.2.2 rfl (by decide) (.slice (some ⟨w0.heap.size, 0, none⟩) 0 0) 0 _ rfl HOA.out ⟨b, off, none⟩ n c (nd.map Value.bool) rfl (by rw [List.length_map, HN.out]; omega) HCA.out (fun y hy => by obtain ⟨x, _, rfl⟩ := List.mem_map.1 hy; rfl) (by unfold maxLen; omega) (by omega) hszA ?_; intro v' w5 hown' hgrow _; obtain ⟨q6, d6, rfl⟩ := owns_slice hown'; obtain ⟨gq, rfl⟩ : ∃ q, q6 = some ⟨q, 0, none⟩ := by (obtain ⟨g, cap, e, _⟩ := hown'.form (by omega); injection e with e1 _ _; exact ⟨g, e1⟩))
  rw [Nat.zero_add, List.nil_append] at hown'
  have hgb : ∀ {k : Nat}, k < W.heap.size + 2 → w5.heap[k]? = (w0.alloc (.cells #[] 4)).heap[k]? := fun {k} hk => hgrow.block k (by have := HSZ.out; simp; omega) (fun e => by injection e with e; have e2 : k = w0.heap.size := e; have := HSZ.out; omega)
  have hb5 : Below (W.heap.size + 2) w0 w5 := ⟨hgrow.os, hgrow.tape, hgrow.output, Nat.le_trans hszA hgrow.size, fun k hk => (hgb hk).trans ((below1 w0 (.cells #[] 4)).block k (by have := HSZ.out; omega))⟩
  have g5 : GBox w5 W.heap.size d a true (.slice (some ⟨b, off, none⟩) n c) := (hb5.block _ (by omega)).trans HF.out.1
  have z5 : GBox w5 (W.heap.size + 1) 0 0 false (.slice none 0 0) := (hb5.block _ (by omega)).trans HF.out.2.1
  have hB5 : Below W.heap.size W w5 := HF.out.2.2.trans (hb5.mono (by omega))
  have hc1 := hown'.cellAt i (by omega)
  have hm1 := hown'.frozenAt i
  have hgq := (hown'.lt gq rfl).1
  rw [List.getElem?_map, List.getElem?_eq_getElem (by have := HN.out; omega)] at hc1
  obtain ⟨we, hwe⟩ : ∃ X : World, X = w5.setCell ⟨gq, i, none⟩ (.bool false) := ⟨_, rfl⟩
  have hke : Keeps (fun q => q = gq) w5 we := by rw [hwe]; exact Keeps.setCell w5 (S := (· = gq)) (p := ⟨gq, i, none⟩) rfl _
  have hN2 : we.ownsRow w0.heap.size 4 1 (.slice (some ⟨gq, 0, none⟩) n d6) n ((nd.set i false).map Value.bool) := by
    rw [hwe, List.map_set]
    exact (hown'.stored i _).1
  have ge := g5.keeps hke (fun e => by have := HSZ.out; omega)
  have ze := z5.keeps hke (fun e => by have := HSZ.out; omega)
  have hBe := hB5.trans (hke.below hB5.size (fun q e => by have := HSZ.out; omega))
  obtain ⟨wf, hwf⟩ : ∃ X : World, X = we.setCell ⟨W.heap.size, 3, none⟩ (.slice (some ⟨gq, 0, none⟩) n d6) := ⟨_, rfl⟩
  have hkf : Keeps (fun q => q = W.heap.size) we wf := by rw [hwf]; exact setK we W.heap.size 3 _
  have gf : GBox wf W.heap.size d a true (.slice (some ⟨gq, 0, none⟩) n d6) := by rw [hwf]; unfold GBox; rw [heap_setCell_same we W.heap.size 3 _ _ _ ge]; rfl
  have hNf := hkf.row hN2 (fun q hq e => by have := (hN2.lt q hq).1; have := HSZ.out; omega)
  have HFF := Lib.hid (And.intro gf (And.intro (ze.keeps hkf (by omega)) (And.intro hNf (hBe.trans (hkf.below hBe.size (fun q e => by omega))))))
  obtain ⟨m, hm⟩ : ∃ m, m = manyG (nd.set i false) := ⟨_, rfl⟩
  have HC := Lib.hid (rneed_c d a true (.slice (some ⟨gq, 0, none⟩) n d6) (nd.set i false) wf (bools_of_owns (by rw [List.length_set, HN.out]) hNf) (by rw [List.length_set, ← HN.out]; omega))
  rw [← hm] at HC
  have HM := Lib.hid hm
  have HWE := Lib.hid hwe
  have HWF := Lib.hid hwf
  have HGE := Lib.hid (And.intro ge hgq)
  obtain ⟨k0, k1, k2, k3⟩ := g5.cells
  clear d0 d1 d2 d3
  clear hgb hb5 g5 z5 hB5 hke hN2 ge ze hBe hkf gf hNf hm hwe hwf hgrow hown' hgq
  go_upto_region 3 with fail
  rw [← HWE.out]
  clear hc1 hm1 k0 k1 k2 k3 HWE
  obtain ⟨k0, k1, k2, k3⟩ := HGE.out.1.cells
  have y3 := HGE.out.1.marks 3
  go_upto_region 4 with fail
  rw [← HWF.out]
  clear HWF k0 k1 k2 k3 y3
  obtain ⟨f0, f1, f2, f3⟩ := HFF.out.1.cells
  go_wp2_with fail
  (with_reducible refine HC.out.mono ?_)
  rintro e w6 ⟨rfl, hb6⟩
  replace HFF := Lib.hid (And.intro (HFF.out.1.below hb6) (And.intro (HFF.out.2.1.below hb6) (And.intro (owns_below HFF.out.2.2.1 hb6) (below_then HFF.out.2.2.2 HFF.out.2.2.2.size hb6))))
  obtain ⟨wf, hwf⟩ : ∃ X, X = w6 := ⟨_, rfl⟩
  rw [← hwf] at HFF ⊢
  clear hwf hb6 f0 f1 f2 f3 HC HGE
  obtain ⟨f0, f1, f2, f3⟩ := HFF.out.1.cells
  by_cases hl : lastB nd i = true
  · have hq : ((m : Int) == 0) = true := by rw [beq_iff_eq]; have := (many_last nd i).2 hl; have := HM.out; omega
    have HRE := Lib.hid (HRG.out.1 hl)
    clear hl
    obtain ⟨wg, hwg⟩ : ∃ X : World, X = (wf.setCell ⟨W.heap.size, 0, none⟩ (.int .i64 (d + 1))).setCell ⟨W.heap.size, 2, none⟩ (.bool false) := ⟨_, rfl⟩
    have hgA : GBox (wf.setCell ⟨W.heap.size, 0, none⟩ (.int .i64 (d + 1))) W.heap.size (d + 1) a true (.slice (some ⟨gq, 0, none⟩) n d6) := by unfold GBox; rw [heap_setCell_same wf W.heap.size 0 _ _ _ HFF.out.1]; rfl
    have hgB : GBox wg W.heap.size (d + 1) a false (.slice (some ⟨gq, 0, none⟩) n d6) := by rw [hwg]; unfold GBox; rw [heap_setCell_same _ W.heap.size 2 _ _ _ hgA]; rfl
    have hkg : Keeps (fun k => k = W.heap.size) wf wg := by rw [hwg]; exact (setK wf W.heap.size 0 (.int .i64 (d + 1))).trans (setK _ W.heap.size 2 (.bool false))
    have HGX := Lib.hid (And.intro hgB (And.intro (HFF.out.2.1.keeps hkg (by omega)) (And.intro (hkg.row HFF.out.2.2.1 (fun q hq e => by have := (HFF.out.2.2.1.lt q hq).1; have := HSZ.out; omega)) (HFF.out.2.2.2.trans (hkg.below HFF.out.2.2.2.size (fun k e => by omega))))))
    have HWG := Lib.hid hwg
    have n0 := HFF.out.1.marks 0
    have n2 := HFF.out.1.marks 2
    clear hgA hgB hkg hwg
    go_upto_region 6 with fail
    rw [← HWG.out]
    clear HWG n0 n2 f0 f1 f2 f3
    obtain ⟨f0, f1, f2, f3⟩ := HGX.out.1.cells
    obtain ⟨e0, e1, e2, e3⟩ := HGX.out.2.1.cells
    have m0 := HGX.out.2.1.marks 0
    have m1 := HGX.out.2.1.marks 1
    have m2 := HGX.out.2.1.marks 2
    have m3 := HGX.out.2.1.marks 3
    have HPT := Lib.hid (HGX.out.2.1.put (d + 1) a false (.slice (some ⟨gq, 0, none⟩) n d6))
    have HKK := Lib.hid (GBox.putK wg (W.heap.size + 1) (d + 1) a false (.slice (some ⟨gq, 0, none⟩) n d6))
    go_wp2
    refine bodyPost_ret (HPT.out.result1 rfl _ rfl) rfl ⟨⟨some ⟨gq, 0, none⟩, d6, ?_, ?_, fun a e => by have := owns_far HGX.out.2.2.1 a e; have := HSZ.out; omega⟩, HGX.out.2.2.2.trans (HKK.out.below HGX.out.2.2.2.size (fun k e => by omega))⟩
    · rw [HRE.out]; simp only [List.length_set]; rw [← HN.out]
    · rw [HRE.out]
      have h := bools_of_owns (bs := nd.set i false) (by rw [List.length_set, HN.out]) (HKK.out.row HGX.out.2.2.1 (fun q hq e => by have := (HGX.out.2.2.1.lt q hq).1; have := HSZ.out; omega))
      simpa [HN.out] using h
  · have hq : ((m : Int) == 0) = false := by rw [beq_eq_false_iff_ne]; intro e; exact hl ((many_last nd i).1 (by have := HM.out; omega))
    have HRE := Lib.hid (HRG.out.2 hl)
    clear hl
    have HGX := Lib.hid HFF.out
    clear f0 f1 f2 f3
    obtain ⟨f0, f1, f2, f3⟩ := HGX.out.1.cells
    obtain ⟨e0, e1, e2, e3⟩ := HGX.out.2.1.cells
    have m0 := HGX.out.2.1.marks 0
    have m1 := HGX.out.2.1.marks 1
    have m2 := HGX.out.2.1.marks 2
    have m3 := HGX.out.2.1.marks 3
    have HPT := Lib.hid (HGX.out.2.1.put d a true (.slice (some ⟨gq, 0, none⟩) n d6))
    have HKK := Lib.hid (GBox.putK wf (W.heap.size + 1) d a true (.slice (some ⟨gq, 0, none⟩) n d6))
    go_wp2
    refine bodyPost_ret (HPT.out.result1 rfl _ rfl) rfl ⟨⟨some ⟨gq, 0, none⟩, d6, ?_, ?_, fun a e => by have := owns_far HGX.out.2.2.1 a e; have := HSZ.out; omega⟩, HGX.out.2.2.2.trans (HKK.out.below HGX.out.2.2.2.size (fun k e => by omega))⟩
    · rw [HRE.out]; simp only [List.length_set]; rw [← HN.out]
    · rw [HRE.out]
      have h := bools_of_owns (bs := nd.set i false) (by rw [List.length_set, HN.out]) (HKK.out.row HGX.out.2.2.1 (fun q hq e => by have := (HGX.out.2.2.1.lt q hq).1; have := HSZ.out; omega))
      simpa [HN.out] using h

end Go.Proofs.Ytdmcijfjnegcgaa
/-
  The reference of layer 12: Pick; spoil, of the statements.
  Conditions: the grace may be; the CPU is there.
-/
namespace Go.Proofs.Ytdmcijfjnegcgaa
set_option maxRecDepth 100000
open Go.RowKit Go.Shelf
attribute [local go_sem] Oper.semAt_some

set_option maxHeartbeats 8000000 in
theorem rpick_c (g : GrS) (p : Option Addr) (n c : Nat) (i : Nat) (q : Bool) (hn : n = g.nd.length) (hg : GoodG g) (hi : i < g.nd.length) (W : World) (hv : BoolsAt W (.slice p n c) g.nd) :
    Calls Try.prog 20 #[.agg #[.int .i64 g.done, .int .i64 g.asked, .bool g.on, .slice p n c], .int .i64 (i : Int), .bool q] W fun e w' => RefX W.heap.size p (pickG g i q) e w' ∧ Below W.heap.size W w' := by
  obtain ⟨RG, hRG⟩ : ∃ r, r = pickG g i q := ⟨_, rfl⟩
  rw [← hRG]
  have hne : g.nd ≠ [] := fun e => by rw [e] at hi; cases hi
  have HLV := Lib.hid (bools_lt hv hne)
  obtain ⟨w0, hw0⟩ : ∃ X : World, X = wSG W g.done g.asked g.on (.slice p n c) 0 0 false (.slice none 0 0) := ⟨_, rfl⟩
  have HF := Lib.hid (wSG_facts W g.done g.asked g.on (.slice p n c) 0 0 false (.slice none 0 0))
  rw [← hw0] at HF
  have HSZ := Lib.hid (show w0.heap.size = W.heap.size + 2 by rw [hw0]; unfold wSG; simp)
  unfold wSG at hw0
  have HV := Lib.hid (bools_below hv HF.out.2.2)
  have HI := Lib.hid (And.intro hi hn)
  have HG := Lib.hid hg
  obtain ⟨d0, d1, d2, d3⟩ := HF.out.1.cells
  clear hv hi hn hg hne
  go_enter Try.func20, Try.ntmps20
  have HW0 := Lib.hid hw0
  clear hw0
  go_upto_region 1 with fail
  rw [← HW0.out]
  clear HW0
  cases hon : g.on with
  | true =>
    rw [hon] at d2
    cases q with
    | true =>
      have HC := Lib.hid (show Calls Try.prog 21 #[.agg #[.int .i64 g.done, .int .i64 g.asked, .bool true, .slice p n c], .int .i64 (i : Int)] w0 fun e w' => RefO (w0.heap.size + 2) RG e w' ∧ Below w0.heap.size w0 w' by
        have h := rreport_c g (.slice p n c) i HG.out hon HI.out.1 w0 HV.out
        rwa [hon, ← pick_yes hon, ← hRG] at h)
      clear hon hRG
      go_wp2_with fail
      (with_reducible refine HC.out.mono ?_)
      rintro e w1 ⟨⟨pq, cq, rfl, hB, hfar⟩, hb1⟩
      have z1 := HF.out.2.1.below hb1
      have HB1 := Lib.hid (below_then HF.out.2.2 HF.out.2.2.size hb1)
      obtain ⟨e0, e1, e2, e3⟩ := z1.cells
      have m0 := z1.marks 0
      have m1 := z1.marks 1
      have m2 := z1.marks 2
      have m3 := z1.marks 3
      have HPT := Lib.hid (z1.put RG.done RG.asked RG.on (.slice pq RG.nd.length cq))
      have HKK := Lib.hid (GBox.putK w1 (W.heap.size + 1) RG.done RG.asked RG.on (.slice pq RG.nd.length cq))
      have HBL := Lib.hid (show ∀ w2, Keeps (fun k => k = W.heap.size + 1) w1 w2 → BoolsAt w2 (.slice pq RG.nd.length cq) RG.nd from fun w2 hk => bools_other hB (fun a e => by have := hfar a e; have := HSZ.out; omega) hk)
      have HFA := Lib.hid (show ∀ a : Addr, pq = some a → W.heap.size ≤ a.block from fun a e => by have := hfar a e; have := HSZ.out; omega)
      clear z1 hB hfar hb1 HC
      go_wp2
      exact bodyPost_ret (HPT.out.result1 rfl _ rfl) rfl ⟨⟨pq, cq, rfl, HBL.out _ HKK.out, .inr HFA.out⟩, HB1.out.trans (HKK.out.below HB1.out.size (fun k e => by omega))⟩
    | false =>
      have HR := Lib.hid (show RG = g by rw [hRG]; exact pick_off hon i)
      clear hRG
      have z1 := HF.out.2.1
      obtain ⟨e0, e1, e2, e3⟩ := z1.cells
      have m0 := z1.marks 0
      have m1 := z1.marks 1
      have m2 := z1.marks 2
      have m3 := z1.marks 3
      have HPT := Lib.hid (z1.put g.done g.asked true (.slice p n c))
      have HKK := Lib.hid (GBox.putK w0 (W.heap.size + 1) g.done g.asked true (.slice p n c))
      have HBL := Lib.hid (show ∀ w2, Keeps (fun k => k = W.heap.size + 1) w0 w2 → BoolsAt w2 (.slice p n c) g.nd from fun w2 hk => bools_other HV.out (fun a e => by have := HLV.out a e; omega) hk)
      have HON := Lib.hid hon
      clear z1 hon
      go_wp2
      refine bodyPost_ret (HPT.out.result1 rfl _ rfl) rfl ⟨⟨p, c, ?_, ?_, .inl rfl⟩, HF.out.2.2.trans (HKK.out.below HF.out.2.2.size (fun k e => by omega))⟩
      · rw [HR.out, HON.out, ← HI.out.2]
      · rw [HR.out, ← HI.out.2]; exact HBL.out _ HKK.out
  | false =>
    rw [hon] at d2
    by_cases hlt : g.done < g.asked
    · have HC := Lib.hid (show Calls Try.prog 15 #[.agg #[.int .i64 g.done, .int .i64 g.asked, .bool false, .slice p n c]] w0 fun e w' => RefO (w0.heap.size + 2) RG e w' ∧ Below w0.heap.size w0 w' by
        have h := rbegin_c g p c HG.out w0
        rw [hon, ← HI.out.2] at h
        rwa [hRG, show pickG g i q = beginG g by unfold pickG; rw [if_neg (by rw [hon]; exact Bool.false_ne_true), if_pos hlt]])
      clear hon hRG
      go_wp2_with fail
      (with_reducible refine HC.out.mono ?_)
      rintro e w1 ⟨⟨pq, cq, rfl, hB, hfar⟩, hb1⟩
      have z1 := HF.out.2.1.below hb1
      have HB1 := Lib.hid (below_then HF.out.2.2 HF.out.2.2.size hb1)
      obtain ⟨e0, e1, e2, e3⟩ := z1.cells
      have m0 := z1.marks 0
      have m1 := z1.marks 1
      have m2 := z1.marks 2
      have m3 := z1.marks 3
      have HPT := Lib.hid (z1.put RG.done RG.asked RG.on (.slice pq RG.nd.length cq))
      have HKK := Lib.hid (GBox.putK w1 (W.heap.size + 1) RG.done RG.asked RG.on (.slice pq RG.nd.length cq))
      have HBL := Lib.hid (show ∀ w2, Keeps (fun k => k = W.heap.size + 1) w1 w2 → BoolsAt w2 (.slice pq RG.nd.length cq) RG.nd from fun w2 hk => bools_other hB (fun a e => by have := hfar a e; have := HSZ.out; omega) hk)
      have HFA := Lib.hid (show ∀ a : Addr, pq = some a → W.heap.size ≤ a.block from fun a e => by have := hfar a e; have := HSZ.out; omega)
      clear z1 hB hfar hb1 HC
      go_wp2
      exact bodyPost_ret (HPT.out.result1 rfl _ rfl) rfl ⟨⟨pq, cq, rfl, HBL.out _ HKK.out, .inr HFA.out⟩, HB1.out.trans (HKK.out.below HB1.out.size (fun k e => by omega))⟩
    · have HR := Lib.hid (show RG = g by rw [hRG]; unfold pickG; rw [if_neg (by rw [hon]; exact Bool.false_ne_true), if_neg hlt])
      clear hRG
      have z1 := HF.out.2.1
      obtain ⟨e0, e1, e2, e3⟩ := z1.cells
      have m0 := z1.marks 0
      have m1 := z1.marks 1
      have m2 := z1.marks 2
      have m3 := z1.marks 3
      have HPT := Lib.hid (z1.put g.done g.asked false (.slice p n c))
      have HKK := Lib.hid (GBox.putK w0 (W.heap.size + 1) g.done g.asked false (.slice p n c))
      have HBL := Lib.hid (show ∀ w2, Keeps (fun k => k = W.heap.size + 1) w0 w2 → BoolsAt w2 (.slice p n c) g.nd from fun w2 hk => bools_other HV.out (fun a e => by have := HLV.out a e; omega) hk)
      have HON := Lib.hid hon
      clear z1 hon
      go_wp2
      refine bodyPost_ret (HPT.out.result1 rfl _ rfl) rfl ⟨⟨p, c, ?_, ?_, .inl rfl⟩, HF.out.2.2.trans (HKK.out.below HF.out.2.2.size (fun k e => by omega))⟩
      · rw [HR.out, HON.out, ← HI.out.2]
      · rw [HR.out, ← HI.out.2]; exact HBL.out _ HKK.out

set_option maxHeartbeats 8000000 in
theorem spoil_c (d a : Int) (on : Bool) (nb : Nat) (bs : List Bool) (n : Nat) (hn : n = bs.length) (h8 : n ≤ 8) (W : World) (hb : BBlock W nb bs) :
    Calls Try.prog 17 #[.agg #[.int .i64 d, .int .i64 a, .bool on, .slice (some ⟨nb, 0, none⟩) n n]] W fun e w' => e = .returned (.tuple #[]) ∧ Keeps (fun q => q = nb) W w' := by
  obtain ⟨w0, hw0⟩ : ∃ X : World, X = W.alloc (.cells #[.int .i64 d, .int .i64 a, .bool on, .slice (some ⟨nb, 0, none⟩) n n] 24) := ⟨_, rfl⟩
  have hb0 : Below W.heap.size W w0 := by rw [hw0]; exact below1 _ _
  have hx : GBox w0 W.heap.size d a on (.slice (some ⟨nb, 0, none⟩) n n) := by rw [hw0]; exact GBox.new _ _ _ _ _
  have HNE := Lib.hid (show nb ≠ W.heap.size by have := hb.lt; omega)
  have HI0 := Lib.hid (And.intro hx (And.intro (hb.below hb0) (Keeps.refl (fun q => q = nb) w0)))
  have HB0 := Lib.hid hb0
  obtain ⟨d0, d1, d2, d3⟩ := hx.cells
  have HW0 := Lib.hid hw0
  have HNB := Lib.hid hn
  clear hw0 hb0 hx hb hn
  go_enter Try.func17, Try.ntmps17
  go_upto_region 1 with fail
  rw [← HW0.out]
  clear HW0
  go_wp2_with fail
  clear d0 d1 d2 d3
  go_loopw [6] (fun iv wx => ∃ (k : Nat) (cs : List Bool), k ≤ n ∧ iv = .int .i64 (k : Int) ∧ cs.length = n ∧ Hid (GBox wx W.heap.size d a on (.slice (some ⟨nb, 0, none⟩) n n) ∧ BBlock wx nb cs ∧ Keeps (fun q => q = nb) w0 wx)) (fun iv _ => n - (intOf iv).toNat)
  case atStart => exact ⟨0, bs, Nat.zero_le _, rfl, HNB.out.symm, HI0⟩
  case round =>
    obtain ⟨k, cs, hk, rfl, hcs, HI⟩ := hrel
    clear HI0
    by_cases hkn : k < n
    · have hk0 : (0 : Int) ≤ (k : Int) := by omega
      have hkx : (k : Int) < (n : Int) := by omega
      obtain ⟨x, hx⟩ : ∃ x, x = cs[k]'(by omega) := ⟨_, rfl⟩
      have hc := HI.out.2.1.cell k (by omega)
      rw [← hx] at hc
      clear hx
      go_upto_region 4 with fail
      refine wpTwo_begin (T := fun w' => GBox w' W.heap.size d a on (.slice (some ⟨nb, 0, none⟩) n n)) (S := fun w' => w'.cell? ⟨nb, k, none⟩ = some (.bool x)) (late := fun j => [10].contains j) (by kernel_rfl) ?_
      obtain ⟨X0, hX0⟩ : ∃ X : World, X = wr.drew := ⟨_, rfl⟩
      rw [← hX0]
      have hbx : Below wr.heap.size wr X0 := by rw [hX0]; exact (Below.refl _ _).drew
      have hT0 := HI.out.1.below hbx
      have hS0 := below_cell hbx hc
      have HX := Lib.hid (And.intro (HI.out.2.1.below hbx) hbx)
      clear hX0 hbx hc
      refine wpTwo_takeT (i := 0) (v := .pointer (some ⟨W.heap.size, 3, none⟩)) rfl (by kernel_rfl) (by kernel_rfl) (by kernel_rfl) (fun _ _ _ h => h) ⟨by rfl, ?_⟩ hT0 ?_
      · rintro w hTw
        go_simp
      (try simp only [Act.put, List.getElem_toArray, List.getElem_cons_zero, List.setIfInBounds_toArray, List.set_cons_succ, List.set_cons_zero])
      refine wpTwo_takeT (i := 1) (v := .slice (some ⟨nb, 0, none⟩) n n) rfl (by kernel_rfl) (by kernel_rfl) (by kernel_rfl) (fun _ _ _ h => h) ⟨by rfl, ?_⟩ hT0 ?_
      · rintro w hTw
        obtain ⟨q0, q1, q2, q3⟩ := hTw.cells
        go_simp
      (try simp only [Act.put, List.getElem_toArray, List.getElem_cons_succ, List.getElem_cons_zero, List.setIfInBounds_toArray, List.set_cons_succ, List.set_cons_zero])
      refine wpTwo_takeT (i := 2) (v := .int .i64 (k : Int)) rfl (by kernel_rfl) (by kernel_rfl) (by kernel_rfl) (fun _ _ _ h => h) ⟨by rfl, ?_⟩ hT0 ?_
      · rintro w hTw
        go_simp
      (try simp only [Act.put, List.getElem_toArray, List.getElem_cons_succ, List.getElem_cons_zero, List.setIfInBounds_toArray, List.set_cons_succ, List.set_cons_zero])
      refine wpTwo_takeT (i := 3) (v := .pointer (some ⟨W.heap.size, 3, none⟩)) rfl (by kernel_rfl) (by kernel_rfl) (by kernel_rfl) (fun _ _ _ h => h) ⟨by rfl, ?_⟩ hT0 ?_
      · rintro w hTw
        go_simp
      (try simp only [Act.put, List.getElem_toArray, List.getElem_cons_succ, List.getElem_cons_zero, List.setIfInBounds_toArray, List.set_cons_succ, List.set_cons_zero])
      refine wpTwo_takeT (i := 4) (v := .slice (some ⟨nb, 0, none⟩) n n) rfl (by kernel_rfl) (by kernel_rfl) (by kernel_rfl) (fun _ _ _ h => h) ⟨by rfl, ?_⟩ hT0 ?_
      · rintro w hTw
        obtain ⟨q0, q1, q2, q3⟩ := hTw.cells
        go_simp
      (try simp only [Act.put, List.getElem_toArray, List.getElem_cons_succ, List.getElem_cons_zero, List.setIfInBounds_toArray, List.set_cons_succ, List.set_cons_zero])
      refine wpTwo_takeT (i := 5) (v := .int .i64 (k : Int)) rfl (by kernel_rfl) (by kernel_rfl) (by kernel_rfl) (fun _ _ _ h => h) ⟨by rfl, ?_⟩ hT0 ?_
      · rintro w hTw
        go_simp
      (try simp only [Act.put, List.getElem_toArray, List.getElem_cons_succ, List.getElem_cons_zero, List.setIfInBounds_toArray, List.set_cons_succ, List.set_cons_zero])
      refine wpTwo_takeT (i := 6) (v := .pointer (some ⟨nb, k, none⟩)) rfl (by kernel_rfl) (by kernel_rfl) (by kernel_rfl) (fun _ _ _ h => h) ⟨by rfl, ?_⟩ hT0 ?_
      · rintro w hTw
        go_simp
      (try simp only [Act.put, List.getElem_toArray, List.getElem_cons_succ, List.getElem_cons_zero, List.setIfInBounds_toArray, List.set_cons_succ, List.set_cons_zero])
      refine wpTwo_takeS (i := 7) (v := .bool x) (waits_all (by kernel_rfl)) rfl (by kernel_rfl) (by kernel_rfl) (by kernel_rfl) (fun _ _ _ h => h) ⟨by rfl, ?_⟩ ⟨hT0, hS0⟩ ?_
      · rintro w hTw
        have q0 := hTw.2
        go_simp
      (try simp only [Act.put, List.getElem_toArray, List.getElem_cons_succ, List.getElem_cons_zero, List.setIfInBounds_toArray, List.set_cons_succ, List.set_cons_zero])
      refine wpTwo_takeT (i := 8) (v := .bool (!x)) rfl (by kernel_rfl) (by kernel_rfl) (by kernel_rfl) (fun _ _ _ h => h) ⟨by rfl, ?_⟩ hT0 ?_
      · rintro w hTw
        go_simp
      (try simp only [Act.put, List.getElem_toArray, List.getElem_cons_succ, List.getElem_cons_zero, List.setIfInBounds_toArray, List.set_cons_succ, List.set_cons_zero])
      refine wpTwo_takeT (i := 9) (v := .pointer (some ⟨nb, k, none⟩)) rfl (by kernel_rfl) (by kernel_rfl) (by kernel_rfl) (fun _ _ _ h => h) ⟨by rfl, ?_⟩ hT0 ?_
      · rintro w hTw
        go_simp
      (try simp only [Act.put, List.getElem_toArray, List.getElem_cons_succ, List.getElem_cons_zero, List.setIfInBounds_toArray, List.set_cons_succ, List.set_cons_zero])
      obtain ⟨X1, hX1⟩ : ∃ X : World, X = X0.setCell ⟨nb, k, none⟩ (.bool (!x)) := ⟨_, rfl⟩
      have hke : Keeps (fun q => q = nb) X0 X1 := by rw [hX1]; exact Keeps.setCell X0 (S := (· = nb)) (p := ⟨nb, k, none⟩) rfl _
      have q0 := hS0
      have m0 : X0.frozen? ⟨nb, k, none⟩ = false := HX.out.1.free k
      have hTn := hT0.keeps hke (fun e => HNE.out e.symm)
      have HN2 := Lib.hid (show GBox X1 W.heap.size d a on (.slice (some ⟨nb, 0, none⟩) n n) ∧ BBlock X1 nb (cs.set k (!x)) ∧ Keeps (fun q => q = nb) w0 X1 from ⟨hTn, by rw [hX1]; exact HX.out.1.set k _, HI.out.2.2.trans ((Keeps.of_below HX.out.2).trans hke)⟩)
      have HX1 := Lib.hid hX1
      clear hX1 hke
      refine wpTwo_ready (rs := [10]) (by kernel_rfl) (by simp) ?_
      refine (AllTwo.cons rfl (fun K hK => ?_) AllTwo.nil)
      go_simp
      rw [← HX1.out]
      refine hK.out _ _ ⟨hTn, fun h => by cases h⟩ ?_
      clear hK K q0 m0 HX1 hS0 hT0 hTn
      (try simp only [Act.put])
      refine wpTwo_end (by kernel_rfl) ?_ _
      go_wp2
      go_roundw
      case rel => exact ⟨k + 1, cs.set k (!x), by omega, by go_num, by rw [List.length_set]; exact hcs, HN2⟩
      case measure => simp [intOf]; omega
    · go_wp2
      exact ⟨rfl, .tuple #[], (by simp [results, Try.results17, go_sem]), rfl, (Keeps.of_below HB0.out).trans HI.out.2.2⟩
set_option maxHeartbeats 4000000 in
theorem spoil_no (d a : Int) (on : Bool) (W : World) :
    Calls Try.prog 17 #[.agg #[.int .i64 d, .int .i64 a, .bool on, .slice none 0 0]] W fun e w' => e = .returned (.tuple #[]) ∧ Below W.heap.size W w' := by
  obtain ⟨w0, hw0⟩ : ∃ X : World, X = W.alloc (.cells #[.int .i64 d, .int .i64 a, .bool on, .slice none 0 0] 24) := ⟨_, rfl⟩
  have HB0 := Lib.hid (show Below W.heap.size W w0 by rw [hw0]; exact below1 _ _)
  have hx : GBox w0 W.heap.size d a on (.slice none 0 0) := by rw [hw0]; exact GBox.new _ _ _ _ _
  obtain ⟨d0, d1, d2, d3⟩ := hx.cells
  have HW0 := Lib.hid hw0
  clear hw0 hx
  go_enter Try.func17, Try.ntmps17
  go_upto_region 1 with fail
  rw [← HW0.out]
  clear HW0
  go_wp2_with fail
  refine wp_loop_rounds 1 ?_
  rw [rounds_succ]
  go_wp2
  exact ⟨rfl, .tuple #[], (by simp [results, Try.results17, go_sem]), rfl, HB0.out⟩

end Go.Proofs.Ytdmcijfjnegcgaa
/-
  The first test of the statements of layer 11: it is passed.
  Conditions: none.
-/
namespace Go.Proofs.Ytdmcijfjnegcgaa
set_option maxRecDepth 100000
open Go.RowKit Go.Shelf
attribute [local go_sem] Oper.semAt_some

theorem Two.open {now : Int} {ns os : List Int} {a : Value} {w : World} (h : Two now ns os a w) : ∃ g h : Nat, a = .agg #[.int .i64 now, .slice (some ⟨g, 0, none⟩) 2 2, .slice (some ⟨h, 0, none⟩) 2 2] ∧ Hid (Reads ⟨now, ns, os⟩ (.slice (some ⟨g, 0, none⟩) 2 2) (.slice (some ⟨h, 0, none⟩) 2 2) w) := h
/-- A box with readers, and its rows. -/
def BoxR (b : Nat) (s : RdS) (g h : Nat) (w : World) : Prop := RBox w b s.now (.slice (some ⟨g, 0, none⟩) 2 2) (.slice (some ⟨h, 0, none⟩) 2 2) ∧ Reads s (.slice (some ⟨g, 0, none⟩) 2 2) (.slice (some ⟨h, 0, none⟩) 2 2) w
theorem BoxR.below {b : Nat} {s : RdS} {g h : Nat} {w w' : World} (k : BoxR b s g h w) (hb : Below w.heap.size w w') : BoxR b s g h w' := ⟨k.1.below hb, k.2.below hb⟩

end Go.Proofs.Ytdmcijfjnegcgaa
/-
  ReaderBack, called with any readers, and CPU: it answers true; what was in memory stays.
  Conditions: the ranges of Go's types.
-/
namespace Go.Proofs.Ytdmcijfjnegcgaa
set_option maxRecDepth 100000
open Go.RowKit Go.Shelf
attribute [local go_sem] Oper.semAt_some

/-- Readers in a box, and their rows. -/
def BoxS (b : Nat) (s : RdS) (u v : Value) (w : World) : Prop := RBox w b s.now u v ∧ Reads s u v w
theorem BoxS.below {b : Nat} {s : RdS} {u v : Value} {w w' : World} (k : BoxS b s u v w) (hb : Below w.heap.size w w') : BoxS b s u v w' := ⟨k.1.below hb, k.2.below hb⟩
theorem BoxS.new {s : RdS} {u v : Value} {w : World} (k : Reads s u v w) : BoxS w.heap.size s u v (w.alloc (.cells #[.int .i64 s.now, u, v] 45)) := ⟨RBox.new _ _ _ _, k.below (below1 _ _)⟩
theorem i64_take {ys : List Int} (h : ∀ y ∈ ys, I64 y) : ∀ y ∈ ys.take 9, I64 y := fun y hy => h y (List.mem_of_mem_take hy)
theorem StepQ.fail {B : Nat} {s : RdS} {c : Int} {en : Bool} {nw : Int} {p1 : Option Addr} {n1 c1 : Nat} {p2 : Option Addr} {n2 c2 : Nat} {err : Int} {w : World} (h : StepQ B s c en nw p1 n1 c1 p2 n2 c2 err w) (he : err ≠ 0) : (mayB s.now s.ns s.os = false ∧ err = 210 ∨ Good s ∧ stepE s c en ≠ 0 ∧ err = stepE s c en) ∧ nw = 0 ∧ (p1 = none ∧ n1 = 0 ∧ c1 = 0) ∧ (p2 = none ∧ n2 = 0 ∧ c2 = 0) := by
  rcases h with h | h
  · exact h
  · exact absurd h.2.2.1 he
theorem StepQ.ok {B : Nat} {s : RdS} {c : Int} {en : Bool} {nw : Int} {p1 : Option Addr} {n1 c1 : Nat} {p2 : Option Addr} {n2 c2 : Nat} {err : Int} {w : World} (h : StepQ B s c en nw p1 n1 c1 p2 n2 c2 err w) (he : err = 0) : Good s ∧ stepE s c en = 0 ∧ nw = (stepS s c en).now ∧ Reads (stepS s c en) (.slice p1 n1 c1) (.slice p2 n2 c2) w ∧ n1 = (stepS s c en).ns.length ∧ n2 = (stepS s c en).os.length := by
  rcases h with h | ⟨h1, h2, h3, h4, g, hh, h5, h6, h7, ⟨rfl, rfl, rfl⟩, ⟨rfl, rfl, rfl⟩, h10, h11⟩
  · rcases h.1 with h | h
    · rw [h.2] at he; cases he
    · exact absurd (h.2.2.symm.trans he) h.2.1
  · exact ⟨h1, h2, h4, ⟨h10.nums, h11.nums⟩, rfl, rfl⟩

end Go.Proofs.Ytdmcijfjnegcgaa
namespace Go.Proofs.Ytdmcijfjnegcgaa
set_option maxRecDepth 100000
open Go.RowKit Go.Shelf
attribute [local go_sem] Oper.semAt_some

/-- Is a step passed, of readers that may be? -/
def psB (s : RdS) (t : Int) : Bool := passB s.now (oldM (secs (s.ns.zip s.os))) t
/-- A box with a reading. -/
def QBox (W : World) (z : Nat) (c : Int) (en : Bool) : Prop := W.heap[z]? = some (.cells #[.int .i64 c, .bool en] 102 (0, 0))
theorem QBox.below {W W' : World} {z : Nat} {c : Int} {en : Bool} (h : QBox W z c en) (hb : Below W.heap.size W W') : QBox W' z c en := (hb.block z (Array.getElem?_eq_some_iff.1 h).1).trans h
theorem QBox.new (W : World) (c : Int) (en : Bool) : QBox (W.alloc (.cells #[.int .i64 c, .bool en] 102)) W.heap.size c en := World.alloc_heap_new W _
theorem QBox.cells {W : World} {z : Nat} {c : Int} {en : Bool} (h : QBox W z c en) : W.cell? ⟨z, 0, none⟩ = some (.int .i64 c) ∧ W.cell? ⟨z, 1, none⟩ = some (.bool en) := by
  have h' : W.heap[z]? = _ := h
  simp [World.cell?, h']
theorem QBox.one {W : World} {z : Nat} {c : Int} {en : Bool} (h : QBox W z c en) : RgsAt W (.slice (some ⟨z, 0, none⟩) 1 1) [(c, en)] := ⟨_, _, rfl, fun _ => ⟨_, _, rfl, fun i hi => by
    obtain rfl : i = 0 := by simp at hi; omega
    simpa using h.cells⟩⟩
theorem quietB_out {s : RdS} {c : Int} (h : hasB s.ns.length c = false) : quietB s c = false := by unfold quietB; rw [h, Bool.false_and, Bool.and_false]
/-- Are the first so many CPUs quiet? -/
def calmTo (s : RdS) (j : Nat) : Bool := decide (∀ i, i < j → nN s i = 0)
theorem calmTo_zero (s : RdS) : calmTo s 0 = true := decide_eq_true (fun i h => absurd h (Nat.not_lt_zero i))
theorem calmTo_succ {s : RdS} (g : Good s) (j : Nat) (hj : j < s.ns.length) : calmTo s (j + 1) = (calmTo s j && quietB s (j : Int)) := by
  rw [quiet_iff g j hj]
  unfold calmTo
  rw [Bool.eq_iff_iff, Bool.and_eq_true, decide_eq_true_eq, decide_eq_true_eq, decide_eq_true_eq]
  constructor
  · exact fun h => ⟨fun i hi => h i (by omega), h j (by omega)⟩
  · rintro ⟨h1, h2⟩ i hi
    by_cases e : i = j
    · rw [e]; exact h2
    · exact h1 i (by omega)
theorem calmTo_all {s : RdS} (g : Good s) : psB s s.now = calmTo s s.ns.length := by
  unfold psB calmTo
  rw [Bool.eq_iff_iff, pass_now g, decide_eq_true_eq]
theorem Below.draw {W : World} (n : Nat) : Below W.heap.size W (W.drewN n) := below_drewN (Below.refl _ _) n

theorem StepQ.blocks {B : Nat} {s : RdS} {c : Int} {en : Bool} {nw : Int} {p1 : Option Addr} {n1 c1 : Nat} {p2 : Option Addr} {n2 c2 : Nat} {err : Int} {w : World} (h : StepQ B s c en nw p1 n1 c1 p2 n2 c2 err w) (he : err = 0) : ∃ g hh : Nat, B ≤ g ∧ B ≤ hh ∧ p1 = some ⟨g, 0, none⟩ ∧ p2 = some ⟨hh, 0, none⟩ := by
  rcases h with h | ⟨h1, h2, h3, h4, g, hh, h5, h6, h7, ⟨rfl, rfl, rfl⟩, ⟨rfl, rfl, rfl⟩, h10, h11⟩
  · rcases h.1 with h | h
    · rw [h.2] at he; cases he
    · exact absurd (h.2.2.symm.trans he) h.2.1
  · exact ⟨g, hh, h5, h6, rfl, rfl⟩
/-- A place of a row of numbers. -/
theorem nums_at {W : World} {p : Option Addr} {n c : Nat} {ns : List Int} (h : NumsAt W .i64 (.slice p n c) ns) {j : Nat} (hj : j < ns.length) : ∃ b off, p = some ⟨b, off, none⟩ ∧ W.cell? ⟨b, off + j, none⟩ = some (.int .i64 (ns.getD j 0)) := by
  obtain ⟨q, cap, e, hc⟩ := h
  injection e with e1 e2 e3
  subst e1
  obtain ⟨b, off, e, hcs⟩ := hc (by intro e; rw [e] at hj; simp at hj)
  exact ⟨b, off, e, by rw [getD_lt hj]; exact hcs j hj⟩
/-- .. whose Now is a letter. -/
def BoxT (b : Nat) (nw : Int) (s : RdS) (u v : Value) (w : World) : Prop := RBox w b nw u v ∧ Reads s u v w
theorem BoxT.below {b : Nat} {nw : Int} {s : RdS} {u v : Value} {w w' : World} (k : BoxT b nw s u v w) (hb : Below w.heap.size w w') : BoxT b nw s u v w' := ⟨k.1.below hb, k.2.below hb⟩
/-- Between two rounds. -/
def StaysI (W : World) (b : Nat) (s : RdS) (t : Int) (pd : Bool) (pu : Option Addr) (cu : Nat) (pv : Option Addr) (cv : Nat) (wr : World) : Prop :=
  Good s ∧ pd = psB s t ∧ BoxS b s (.slice pu s.ns.length cu) (.slice pv s.os.length cv) wr ∧ Below W.heap.size W wr

end Go.Proofs.Ytdmcijfjnegcgaa
