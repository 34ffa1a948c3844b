/-
  Does package seq do anything: it does.
  Conditions: none.
-/
import Derived.Test.YtaljpggajpoalaaSB9
import Derived.Test.YtaljpggajpoalaaSB10
import Derived.Test.YtaljpggajpoalaaSB3
import Derived.Test.YtaljpggajpoalaaSB4
import Derived.Test.YtaljpggajpoalaaSB5
import Derived.Test.YtaljpggajpoalaaSB2
/-
  told, of a writer of package seq.
  Conditions: the ranges of Go's types.
-/
namespace Go.Proofs.Ytaljpggajpoalaa
open Go.RowKit Go.Shelf
attribute [local go_sem] Oper.semAt_some

theorem WrBox.setV {w : World} {z : Nat} {s : WrM} {v : Value} (h : WrBox w z s v) (v' : Value) : WrBox (w.setCell ⟨z, 2, none⟩ v') z s v' := by
  have h' : w.heap[z]? = _ := h
  simp [WrBox, World.setCell, Array.getElem?_modify, h']
theorem WrBox.putK (w : World) (z : Nat) (s : WrM) (v : Value) : Keeps (fun k => k = z) w ((((((w.setCell ⟨z, 0, none⟩ (.int .i64 s.a)).setCell ⟨z, 1, none⟩ (.int .i64 s.f)).setCell ⟨z, 2, none⟩ (v)).setCell ⟨z, 3, none⟩ (.int .i64 s.p)).setCell ⟨z, 4, none⟩ (.int .u64 s.b)).setCell ⟨z, 5, none⟩ (.int .i64 s.w)) :=
  (((((Keeps.setCell w (S := (· = z)) (p := ⟨z, 0, none⟩) rfl _).trans (Keeps.setCell _ (S := (· = z)) (p := ⟨z, 1, none⟩) rfl _)).trans (Keeps.setCell _ (S := (· = z)) (p := ⟨z, 2, none⟩) rfl _)).trans (Keeps.setCell _ (S := (· = z)) (p := ⟨z, 3, none⟩) rfl _)).trans (Keeps.setCell _ (S := (· = z)) (p := ⟨z, 4, none⟩) rfl _)).trans (Keeps.setCell _ (S := (· = z)) (p := ⟨z, 5, none⟩) rfl _)
set_option maxRecDepth 100000 in
set_option maxHeartbeats 4000000 in
theorem wtold_c (r q : Nat) (ex : List Value) (s : WrM) (v : Value) (vs : List Int) (S : Nat → Prop) (W : World) (hR : WBox W r 102 ex s v q) (hV : VV S W v vs) (hn : vs.length ≤ 1099511627776) :
    Calls Try.prog 53 #[.pointer (some ⟨r, 0, none⟩)] W fun e w' => (∃ p c, e = .returned (wrV s (.slice p vs.length c)) ∧ w'.ownsRow W.heap.size 27 1 (.slice p vs.length c) vs.length (vs.map (Value.int .u64))) ∧ Below W.heap.size W w' := by
  obtain ⟨a, f, p, b, t⟩ := s
  obtain ⟨q0, c0, rfl, -, -⟩ := id hV
  have HNU := Lib.hid hV.nums
  obtain ⟨⟨h0, h1, h2, h3⟩, h4, h5, h7⟩ := hR.cells
  dsimp only at h0 h1 h3 h4 h5
  have hrl := hR.lt
  obtain ⟨w1, hw1⟩ : ∃ X : World, X = W.alloc (.cells #[.int .i64 0, .int .i64 0, .slice none 0 0, .int .i64 0, .int .u64 0, .int .i64 0] 34) := ⟨_, rfl⟩
  obtain ⟨w2, hw2⟩ : ∃ X : World, X = w1.alloc (.cells #[.int .i64 a, .int .i64 f, .slice q0 vs.length c0, .int .i64 p, .int .u64 b, .int .i64 t] 34) := ⟨_, rfl⟩
  have HZ := Lib.hid (show WrBox w1 W.heap.size ⟨0, 0, 0, 0, 0⟩ (.slice none 0 0) by rw [hw1]; exact World.alloc_heap_new _ _)
  have hs1 : w1.heap.size = W.heap.size + 1 := by rw [hw1, World.size_alloc]
  have HB1 : Below W.heap.size W w1 := by rw [hw1]; exact below1 _ _
  have hb2 : Below w1.heap.size w1 w2 := by rw [hw2]; exact below1 _ _
  have HZ2 := Lib.hid (HZ.out.below hb2)
  have HY2 := Lib.hid (show WrBox w2 (W.heap.size + 1) ⟨a, f, p, b, t⟩ (.slice q0 vs.length c0) by rw [hw2, ← hs1]; exact World.alloc_heap_new _ _)
  have HB2 := Lib.hid (below_then HB1 HB1.size hb2)
  have HL2 := Lib.hid (show W.heap.size + 1 < w2.heap.size by rw [hw2, World.size_alloc, hs1]; omega)
  have HOW := Lib.hid (fun (Z : World) (hz : Below W.heap.size W Z) => eown (.slice q0 vs.length c0) vs Z (nums_below HNU.out hz) hn)
  have HW := Lib.hid (And.intro hw1 hw2)
  obtain ⟨n, hnn⟩ : ∃ n, n = vs.length := ⟨_, rfl⟩
  rw [← hnn] at h2 HY2 HOW ⊢
  have HN := Lib.hid hnn
  rw [← HN.out] at HW
  clear hw1 hw2 HB1 hb2 hs1 hR hV hn HNU hnn
  go_enter Try.func53, Try.ntmps53
  go_wp2_with fail
  rw [← HW.out.1, ← HW.out.2]
  refine (HOW.out _ HB2.out).mono ?_
  rintro e w3 ⟨⟨p3, c3, rfl, ho⟩, hb3⟩
  clear h0 h1 h2 h3 h4 h5 h7 HW HZ HOW
  have HZ3 := Lib.hid (HZ2.out.below hb3)
  have HY3 := HY2.out.below hb3
  have HB3 := below_then HB2.out HB2.out.size hb3
  have HO3 := Lib.hid ho
  clear HZ2 HY2 ho hb3
  have hlt3 : W.heap.size + 1 < w3.heap.size := HY3.lt
  obtain ⟨w4, hw4⟩ : ∃ X : World, X = w3.setCell ⟨W.heap.size + 1, 2, none⟩ (.slice p3 n c3) := ⟨_, rfl⟩
  have hk4 : Keeps (fun k => k = W.heap.size + 1) w3 w4 := by rw [hw4]; exact Keeps.setCell w3 (S := (· = W.heap.size + 1)) (p := ⟨W.heap.size + 1, 2, none⟩) rfl _
  have HY4 := Lib.hid (show WrBox w4 (W.heap.size + 1) ⟨a, f, p, b, t⟩ (.slice p3 n c3) by rw [hw4]; exact HY3.setV _)
  have HZ4 := Lib.hid (show WrBox w4 W.heap.size ⟨0, 0, 0, 0, 0⟩ (.slice none 0 0) from (hk4.block W.heap.size (by omega) (by omega)).trans HZ3.out)
  have HG := Lib.hid (show ∀ g, (Value.slice p3 n c3).ownBlock = some g → g ≠ W.heap.size ∧ g ≠ W.heap.size + 1 from fun g hg => by have := (HO3.out.lt g hg).1; have := HB2.out.size; have h9 := HL2.out; omega)
  have HO4 := Lib.hid (hk4.row HO3.out (fun g hg => (HG.out g hg).2))
  have HB4 := Lib.hid (HB3.trans (hk4.below HB3.size (fun q hq => by omega)))
  obtain ⟨c0', c1', c2', c3', c4', c5'⟩ := HY3.cells
  have m5 := HY3.marks 2
  dsimp only at c0' c1' c3' c4' c5'
  have HW4 := Lib.hid hw4
  clear hk4 HZ3 HO3 HB3 HY3 hw4
  go_upto_region 3 with fail
  rw [← HW4.out]
  clear c0' c1' c2' c3' c4' c5' m5 HW4
  obtain ⟨c0', c1', c2', c3', c4', c5'⟩ := HY4.out.cells
  obtain ⟨d0, d1, d2, d3, d4, d5⟩ := HZ4.out.cells
  have m0 := HZ4.out.marks 0
  have m1 := HZ4.out.marks 1
  have m2 := HZ4.out.marks 2
  have m3 := HZ4.out.marks 3
  have m4 := HZ4.out.marks 4
  have m5 := HZ4.out.marks 5
  dsimp only at c0' c1' c3' c4' c5' d0 d1 d3 d4 d5
  have HP := Lib.hid (HZ4.out.put ⟨a, f, p, b, t⟩ (.slice p3 n c3))
  have HPB := Lib.hid (WrBox.putB HB4.out (Nat.le_refl _) ⟨a, f, p, b, t⟩ (.slice p3 n c3))
  have HPK := Lib.hid (WrBox.putK w4 W.heap.size ⟨a, f, p, b, t⟩ (.slice p3 n c3))
  dsimp only at HP HPB HPK
  go_wp2
  clear c0' c1' c2' c3' c4' c5' d0 d1 d2 d3 d4 d5 m0 m1 m2 m3 m4 m5
  revert HP HPB HPK
  generalize World.setCell _ ⟨W.heap.size, 5, none⟩ _ = w5
  intro HP HPB HPK
  obtain ⟨e0, e1, e2, e3, e4, e5⟩ := HP.out.cells
  refine bodyPost_ret (v := wrV ⟨a, f, p, b, t⟩ (.slice p3 n c3)) (by simp [results, Try.results53, go_sem, e0, e1, e2, e3, e4, e5, wrV]) rfl ⟨⟨p3, c3, rfl, ?_⟩, HPB.out⟩
  exact (HPK.out.row HO4.out (fun g hg => (HG.out g hg).1)).mono HB2.out.size

end Go.Proofs.Ytaljpggajpoalaa
/-
  StepWrite, of package seq: a step of a write that may be.
  Conditions: the ranges of Go's types.
-/
namespace Go.Proofs.Ytaljpggajpoalaa
open Go.RowKit Go.Shelf
attribute [local go_sem] Oper.semAt_some

/-- What StepWrite hands over. -/
def SWriteOk (B : Nat) (ms : List Bool) (x : (List Int × Bool) × WrM) (vs : List Int) (e : Ending) (w' : World) : Prop :=
  ∃ gw cw gl cl p c, e = .returned (.tuple #[.agg #[.slice (some ⟨gw, 0, none⟩) x.1.1.length cw, .slice (some ⟨gl, 0, none⟩) ms.length cl, .bool x.1.2], wrV x.2 (.slice p vs.length c), .int .i64 0]) ∧
  w'.ownsRow B 27 1 (.slice (some ⟨gw, 0, none⟩) x.1.1.length cw) x.1.1.length (x.1.1.map (Value.int .u64)) ∧ w'.ownsRow B 4 1 (.slice (some ⟨gl, 0, none⟩) ms.length cl) ms.length (ms.map Value.bool) ∧
  w'.ownsRow B 27 1 (.slice p vs.length c) vs.length (vs.map (Value.int .u64))
theorem WS.below {B q z gw gl cw cl r : Nat} {T : TypeId} {ex : List Value} {S : Nat → Prop} {ms : List Bool} {v : Value} {vs : List Int} {x : (List Int × Bool) × WrM} {w w' : World} (h : WS B q z gw gl cw cl r T ex S ms v vs x w) (hb : Below w.heap.size w w') : WS B q z gw gl cw cl r T ex S ms v vs x w' :=
  ⟨h.1.below hb, h.2.1.below hb, h.2.2.keeps (Keeps.of_below (S := fun _ => False) hb) (fun _ h => h.elim)⟩
theorem WrBox.row' {W : World} {z : Nat} {s : WrM} {w : Value} (h : WrBox W z s w) {B : Nat} {E : TypeId} {k n : Nat} {v : Value} {xs : List Value} (hr : W.ownsRow B E k v n xs) (hE : E ≠ 34) {g : Nat} (hg : v.ownBlock = some g) : z ≠ g := by
  rintro rfl
  have h' : W.heap[z]? = _ := h
  obtain ⟨c, f, h1⟩ := Lib.ownsRow_kind hr z hg
  rw [h'] at h1
  simp at h1
  exact hE h1.2.1.symm

set_option maxRecDepth 100000 in
set_option maxHeartbeats 8000000 in
theorem swrite_c (mv : Value) (us : List Int) (ms : List Bool) (u : Bool) (s : WrM) (rq : Option Addr) (rc : Nat) (vs : List Int) (W : World)
    (hM : MemAt W mv us ms u) (hr : rightB us ms = true) (hw : WRange us) (hV : VV (fun k => W.heap.size ≤ k) W (.slice rq vs.length rc) vs) (hR : rightWB s vs.length = true) (hsb : 0 ≤ s.b ∧ s.b ≤ 18446744073709551615) :
    Calls Try.prog 29 #[mv, wrV s (.slice rq vs.length rc)] W fun e w' => SWriteOk W.heap.size ms (stepW ms us u s vs) vs e w' ∧ Below W.heap.size W w' := by
  obtain ⟨fin, hfin⟩ : ∃ f, f = stepW ms us u s vs := ⟨_, rfl⟩
  rw [← hfin]
  have HM := Lib.hid hM
  obtain ⟨vw, vl, rfl, ⟨pw, cw0, rfl, hcw⟩, pl, cl0, rfl, hcl⟩ := hM
  clear hcw hcl
  have HAN := Lib.hid (fun (Z : World) (hb : Below W.heap.size W Z) => anew_yes _ us ms u Z (HM.out.below hb) hr)
  have HCP := Lib.hid (fun (Z : World) => checkWrite_c s rq vs.length rc hsb Z)
  rw [hR, if_pos rfl] at HCP
  obtain ⟨a, f, ph, b, t0⟩ := s
  have HALL := Lib.hid (And.intro hr (And.intro hw (And.intro hV (And.intro hR hfin))))
  obtain ⟨w0, hw0⟩ : ∃ X : World, X = (((W.alloc (.cells #[.slice pw us.length cw0, .slice pl ms.length cl0, .bool u] 44)).alloc (.cells #[.int .i64 a, .int .i64 f, .slice rq vs.length rc, .int .i64 ph, .int .u64 b, .int .i64 t0] 34)).alloc (.cells #[.slice none 0 0, .slice none 0 0, .bool false] 44)).alloc (.cells #[.int .i64 0, .int .i64 0, .slice none 0 0, .int .i64 0, .int .u64 0, .int .i64 0] 34) := ⟨_, rfl⟩
  unfold wrV at *
  dsimp only at *
  have HB0 := Lib.hid (show Below W.heap.size W w0 by rw [hw0]; exact ((((Below.refl _ _).alloc (Nat.le_refl _) _).alloc (by simp) _).alloc (by simp; omega) _).alloc (by simp; omega) _)
  have e1 := World.alloc_heap_new W (.cells #[.slice pw us.length cw0, .slice pl ms.length cl0, .bool u] 44)
  have e2 := World.alloc_heap_new (W.alloc (.cells #[.slice pw us.length cw0, .slice pl ms.length cl0, .bool u] 44)) (.cells #[.int .i64 a, .int .i64 f, .slice rq vs.length rc, .int .i64 ph, .int .u64 b, .int .i64 t0] 34)
  have e3 := World.alloc_heap_new ((W.alloc (.cells #[.slice pw us.length cw0, .slice pl ms.length cl0, .bool u] 44)).alloc (.cells #[.int .i64 a, .int .i64 f, .slice rq vs.length rc, .int .i64 ph, .int .u64 b, .int .i64 t0] 34)) (.cells #[.slice none 0 0, .slice none 0 0, .bool false] 44)
  have e4 := World.alloc_heap_new (((W.alloc (.cells #[.slice pw us.length cw0, .slice pl ms.length cl0, .bool u] 44)).alloc (.cells #[.int .i64 a, .int .i64 f, .slice rq vs.length rc, .int .i64 ph, .int .u64 b, .int .i64 t0] 34)).alloc (.cells #[.slice none 0 0, .slice none 0 0, .bool false] 44)) (.cells #[.int .i64 0, .int .i64 0, .slice none 0 0, .int .i64 0, .int .u64 0, .int .i64 0] 34)
  simp only [World.size_alloc] at e2 e3 e4
  have HZ0 := Lib.hid (show MBox w0 W.heap.size (.slice pw us.length cw0) (.slice pl ms.length cl0) u by rw [hw0]; exact (((MBox.new W _ _ u).alloc _).alloc _).alloc _)
  have HR0 := Lib.hid (show WrBox w0 (W.heap.size + 1) ⟨a, f, ph, b, t0⟩ (.slice rq vs.length rc) by
    have h : WrBox _ (W.heap.size + 1) ⟨a, f, ph, b, t0⟩ (.slice rq vs.length rc) := e2
    rw [hw0]
    exact (h.below (below1 _ _)).below (below1 _ _))
  have HY0 := Lib.hid (show MBox w0 (W.heap.size + 2) (.slice none 0 0) (.slice none 0 0) false by
    have h : MBox _ (W.heap.size + 2) (.slice none 0 0) (.slice none 0 0) false := e3
    rw [hw0]; exact h.alloc _)
  have HT0 := Lib.hid (show WrBox w0 (W.heap.size + 3) ⟨0, 0, 0, 0, 0⟩ (.slice none 0 0) by rw [hw0]; exact e4)
  have HW0 := Lib.hid hw0
  clear hr hw hV hR hsb hfin hw0 HM e1 e2 e3 e4
  go_enter Try.func29, Try.ntmps29
  go_wp2_with fail
  rw [← HW0.out]
  clear HW0
  refine (HAN.out _ HB0.out).mono ?_
  rintro e w1 ⟨⟨gw, cw, gl, cl, rfl, how, hol⟩, hb1⟩
  have HZ1 := Lib.hid (HZ0.out.below hb1)
  have HR1 := Lib.hid (HR0.out.below hb1)
  have HY1 := Lib.hid (HY0.out.below hb1)
  have HT1 := Lib.hid (HT0.out.below hb1)
  have HB1 := Lib.hid (below_then HB0.out HB0.out.size hb1)
  have HOW := Lib.hid (how.mono HB0.out.size)
  have HOL := Lib.hid (hol.mono HB0.out.size)
  have hgwl := (row_lt how).2
  have hs0 : W.heap.size + 3 < w0.heap.size := HT0.out.lt
  clear hb1 HAN HZ0 HR0 HY0 HT0 HB0 how hol
  obtain ⟨⟨hd0, hd1, hd2⟩, he0, he1, he2⟩ := mbox_cells HZ1.out
  obtain ⟨w2, hw2⟩ : ∃ X : World, X = ((w1.setCell ⟨W.heap.size, 0, none⟩ (.slice (some ⟨gw, 0, none⟩) us.length cw)).setCell ⟨W.heap.size, 1, none⟩ (.slice (some ⟨gl, 0, none⟩) ms.length cl)).setCell ⟨W.heap.size, 2, none⟩ (.bool u) := ⟨_, rfl⟩
  have hk2 : Keeps (fun k => k = W.heap.size) w1 w2 := by
    rw [hw2]
    exact ((Keeps.setCell w1 (S := (· = W.heap.size)) (p := ⟨W.heap.size, 0, none⟩) rfl _).trans (Keeps.setCell _ (S := (· = W.heap.size)) (p := ⟨W.heap.size, 1, none⟩) rfl _)).trans (Keeps.setCell _ (S := (· = W.heap.size)) (p := ⟨W.heap.size, 2, none⟩) rfl _)
  have HZ2 := Lib.hid (show MBox w2 W.heap.size (.slice (some ⟨gw, 0, none⟩) us.length cw) (.slice (some ⟨gl, 0, none⟩) ms.length cl) u by rw [hw2]; exact HZ1.out.set _ _ _)
  have HR2 := Lib.hid (show WrBox w2 (W.heap.size + 1) ⟨a, f, ph, b, t0⟩ (.slice rq vs.length rc) from (hk2.block (W.heap.size + 1) HR1.out.lt (by omega)).trans HR1.out)
  have HY2 := Lib.hid (HY1.out.keeps hk2 (by omega))
  have HT2 := Lib.hid (show WrBox w2 (W.heap.size + 3) ⟨0, 0, 0, 0, 0⟩ (.slice none 0 0) from (hk2.block (W.heap.size + 3) HT1.out.lt (by omega)).trans HT1.out)
  have HB2 := Lib.hid (HB1.out.trans (hk2.below HB1.out.size (fun k e => by omega)))
  have HOW2 := Lib.hid (hk2.row HOW.out (fun g hg e => HZ1.out.row HOW.out (by decide) hg e.symm))
  have HOL2 := Lib.hid (hk2.row HOL.out (fun g hg e => HZ1.out.row HOL.out (by decide) hg e.symm))
  have HG := Lib.hid (show W.heap.size + 3 < gw by omega)
  have HW2 := Lib.hid hw2
  clear hw2 hk2 HZ1 HR1 HY1 HT1 HB1 HOW HOL hgwl hs0
  go_upto_region 2 with fail
  rw [← HW2.out]
  clear hd0 hd1 hd2 he0 he1 he2 HW2
  obtain ⟨r0, r1, r2, r3, r4, r5⟩ := HR2.out.cells
  dsimp only at r0 r1 r3 r4 r5
  go_wp2_with fail
  refine (HCP.out w2).mono ?_
  rintro e w3 ⟨rfl, hb3⟩
  have HZ3 := Lib.hid (HZ2.out.below hb3)
  have hR3 := HR2.out.below hb3
  have HY3 := Lib.hid (HY2.out.below hb3)
  have HT3 := Lib.hid (HT2.out.below hb3)
  have HB3 := Lib.hid (below_then HB2.out HB2.out.size hb3)
  have HOW3 := Lib.hid (owns_below HOW2.out hb3)
  have HOL3 := Lib.hid (owns_below HOL2.out hb3)
  have HR3 := Lib.hid hR3
  clear hb3 hR3 HCP HZ2 HR2 HY2 HT2 HB2 HOW2 HOL2 r0 r1 r2 r3 r4 r5
  go_upto_region 7 with fail
  go_cut [9] (fun s9 wc => Hid (∃ r q, s9 = .pointer (some ⟨r, 0, none⟩) ∧ WBox wc r 102 [] ⟨a, f, ph, b, t0⟩ (.slice rq vs.length rc) q ∧ XBox wc q W.heap.size ∧ (w3.heap.size ≤ r ∧ w3.heap.size ≤ q) ∧ Below w3.heap.size w3 wc))
  case first =>
    obtain ⟨r0, r1, r2, r3, r4, r5⟩ := HR3.out.cells
    dsimp only at r0 r1 r3 r4 r5
    have HAC := Lib.hid (fun Z => accesses_c W.heap.size Z)
    clear HR3 HY3 HT3 HB3 HOW3 HOL3 HZ3 HALL
    unfold accV at HAC
    go_region_with (first | (go_at_call 46; refine (HAC.out _).mono ?_; rintro e w5 ⟨⟨rfl, hW5⟩, hb5⟩; have s0 := below_cell hb5 r0; have s1 := below_cell hb5 r1; have s2 := below_cell hb5 r2; have s3 := below_cell hb5 r3; have s4 := below_cell hb5 r4; have s5 := below_cell hb5 r5))
    all_goals (go_wp2_with fail; go_meet)
    all_goals
      have hb6 : Below w3.heap.size w3 w5 := ((Below.refl w3.heap.size w3).drew).trans hb5
      exact Lib.hid ⟨w5.heap.size, w3.heap.size, rfl, World.alloc_heap_new w5 _, ((below1 w5 _).block _ hW5.lt).trans hW5, ⟨hb6.size, Nat.le_refl _⟩, hb6.trans ((below1 w5 _).mono hb6.size)⟩
  case rest =>
    obtain ⟨r, q, rfl, hRB, hX, ⟨hr4, hq4⟩, hbc⟩ := hcut.out
    clear hcut HR3
    have HY5 := Lib.hid (HY3.out.below hbc)
    have HT5 := Lib.hid (HT3.out.below hbc)
    have HB5 := Lib.hid (below_then HB3.out HB3.out.size hbc)
    have HS5 := Lib.hid (show WS W.heap.size q W.heap.size gw gl cw cl r 102 [] (fun k => k = W.heap.size ∨ k = gw ∨ k = r) ms (.slice rq vs.length rc) vs ((us, u), ⟨a, f, ph, b, t0⟩) wc by
      obtain ⟨g1, g2, g3, g4, g5⟩ := HALL.out
      have hb9 := HB5.out
      refine ⟨⟨hX, HZ3.out.below hbc, owns_below HOW3.out hbc, owns_below HOL3.out hbc⟩, hRB, ((g3.keeps (Keeps.of_low hb9) (fun _ h => h)).weaken ?_)⟩
      have := HG.out
      have := HT3.out.lt
      rintro k (e | e | e) <;> show W.heap.size ≤ k <;> omega)
    have HRT := Lib.hid (show W.heap.size + 3 < r by have := HT3.out.lt; omega)
    have HSL := Lib.hid (show ∀ k, (k = W.heap.size ∨ k = gw ∨ k = r) → k < wc.heap.size by
      obtain ⟨hA, hR9, -⟩ := HS5.out
      rintro k (rfl | rfl | rfl)
      · exact hA.box.lt
      · exact (row_lt hA.words).1
      · exact hR9.lt)
    have HM8 := Lib.hid (fun (Z : World) (hb : Below wc.heap.size wc Z) => wdoes_c r Z)
    clear HY3 HT3 HB3 HZ3 HOW3 HOL3 hRB hX hr4 hq4 hbc
    obtain ⟨w5, hw5⟩ : ∃ X : World, X = wc := ⟨_, rfl⟩
    rw [← hw5] at HY5 HT5 HB5 HS5 HSL HM8
    rw [← hw5]
    clear hw5
    go_upto_region 8 with fail
    go_cut [] (fun wc => Hid (WS W.heap.size q W.heap.size gw gl cw cl r 102 [] (fun k => k = W.heap.size ∨ k = gw ∨ k = r) ms (.slice rq vs.length rc) vs fin wc ∧ Keeps (fun k => k = W.heap.size ∨ k = gw ∨ k = r) w5 wc))
    case first =>
      have HRD := Lib.hid (fun Z => wdoes_c r Z)
      have HST := Lib.hid (fun (Z : World) (mb : Nat) (hb : Below w5.heap.size w5 Z) (hX : Z.heap[mb]? = some (wmap r)) => wstep_c W.heap.size q W.heap.size gw gl cw cl r mb 102 [] (fun k => k = W.heap.size ∨ k = gw ∨ k = r) us ms u ⟨a, f, ph, b, t0⟩ (.slice rq vs.length rc) vs Z (HS5.out.below hb) hX (.inl rfl) HALL.out.1 HALL.out.2.1 HALL.out.2.2.2.1 (fun _ h => h))
      rw [← HALL.out.2.2.2.2] at HST
      clear HY5 HT5 HB5 HALL HM8
      go_region_with (first | (go_at_call 52; refine (HRD.out _).mono ?_; rintro e w6 ⟨⟨rfl, hX6⟩, hb6⟩) | (go_at_call 47; refine (HST.out w6 _ (((Below.refl w5.heap.size w5).drew).trans hb6) hX6).mono ?_; rintro e w7 ⟨rfl, hS7, hk7⟩))
      all_goals (go_wp2_with fail; go_meet)
      all_goals exact Lib.hid ⟨hS7, (Keeps.of_below (((Below.refl w5.heap.size w5).drew).trans hb6)).trans hk7⟩
    case rest =>
      obtain ⟨hS8, hk8⟩ := hcut.out
      clear hcut
      obtain ⟨w8, hw8⟩ : ∃ X : World, X = wc := ⟨_, rfl⟩
      rw [← hw8] at hS8 hk8
      rw [← hw8]
      clear hw8
      have HUP := Lib.hid (show ∀ k, (k = W.heap.size ∨ k = gw ∨ k = r) → W.heap.size ≤ k ∧ k ≠ W.heap.size + 2 ∧ k ≠ W.heap.size + 3 by
        have := HG.out
        have := HRT.out
        rintro k (e | e | e) <;> omega)
      have HB8 := Lib.hid (HB5.out.trans (hk8.below HB5.out.size (fun k e => (HUP.out k e).1)))
      have HRES := Lib.hid (HY5.out.keeps hk8 (fun e => (HUP.out _ e).2.1 rfl))
      have HRDB := Lib.hid (show WrBox w8 (W.heap.size + 3) ⟨0, 0, 0, 0, 0⟩ (.slice none 0 0) from (hk8.block (W.heap.size + 3) HT5.out.lt (fun e => (HUP.out _ e).2.2 rfl)).trans HT5.out)
      have HS8 := Lib.hid hS8
      have HLEN := Lib.hid (show vs.length ≤ 1099511627776 by have := (rightWB_parts HALL.out.2.2.2.1).1.2; omega)
      clear hS8 hk8 HY5 HT5 HB5 HS5 HSL HRT HG HALL HM8
      obtain ⟨⟨z0, z1, z2⟩, -⟩ := mbox_cells HS8.out.1.box
      obtain ⟨hRv, hVv⟩ := HS8.out.2
      have HTO := Lib.hid (fun (Z : World) (hb : Below w8.heap.size w8 Z) => wtold_c r q [] fin.2 (.slice rq vs.length rc) vs (fun k => k = W.heap.size ∨ k = gw ∨ k = r) Z (hRv.below hb) (hVv.keeps (Keeps.of_below (S := fun _ => False) hb) (fun _ h => h.elim)) HLEN.out)
      clear hRv hVv
      unfold wrV at HTO
      rw [show W.heap.size + 1 + 1 + 1 = W.heap.size + 3 from rfl, show W.heap.size + 1 + 1 = W.heap.size + 2 from rfl]
      go_upto_region 9 with fail
      go_region_with (first | (go_at_call 53; refine (HTO.out w8.drew (Below.refl _ _).drew).mono ?_; rintro e w9 ⟨⟨p9, c9, rfl, ho⟩, hb9⟩; have hb8 : Below w8.heap.size w8 w9 := ((Below.refl w8.heap.size w8).drew).trans hb9; have k0 := below_cell hb8 z0; have k1 := below_cell hb8 z1; have k2 := below_cell hb8 z2; have hy9 := HRES.out.below hb8; have hr9 := HRDB.out.below hb8; obtain ⟨⟨y0, y1, y2⟩, y3, y4, y5⟩ := mbox_cells hy9; obtain ⟨x0, x1, x2, x3, x4, x5⟩ := hr9.cells; have v0 := hr9.marks 0; have v1 := hr9.marks 1; have v2 := hr9.marks 2; have v3 := hr9.marks 3; have v4 := hr9.marks 4; have v5 := hr9.marks 5; dsimp only at x0 x1 x3 x4 x5))
      all_goals
        obtain ⟨wA, hwA⟩ : ∃ X : World, X = ((w9.setCell ⟨W.heap.size + 2, 0, none⟩ (.slice (some ⟨gw, 0, none⟩) fin.1.1.length cw)).setCell ⟨W.heap.size + 2, 1, none⟩ (.slice (some ⟨gl, 0, none⟩) ms.length cl)).setCell ⟨W.heap.size + 2, 2, none⟩ (.bool fin.1.2) := ⟨_, rfl⟩
        have hA : MBox wA (W.heap.size + 2) (.slice (some ⟨gw, 0, none⟩) fin.1.1.length cw) (.slice (some ⟨gl, 0, none⟩) ms.length cl) fin.1.2 := by rw [hwA]; exact hy9.set _ _ _
        have hAK : Keeps (fun k => k = W.heap.size + 2) w9 wA := by
          rw [hwA]
          exact ((Keeps.setCell w9 (S := (· = W.heap.size + 2)) (p := ⟨W.heap.size + 2, 0, none⟩) rfl _).trans (Keeps.setCell _ (S := (· = W.heap.size + 2)) (p := ⟨W.heap.size + 2, 1, none⟩) rfl _)).trans (Keeps.setCell _ (S := (· = W.heap.size + 2)) (p := ⟨W.heap.size + 2, 2, none⟩) rfl _)
        have hr10 : WrBox wA (W.heap.size + 3) ⟨0, 0, 0, 0, 0⟩ (.slice none 0 0) := (hAK.block (W.heap.size + 3) hr9.lt (by omega)).trans hr9
        have hP := hr10.put fin.2 (.slice p9 vs.length c9)
        have hPK := WrBox.putK wA (W.heap.size + 3) fin.2 (.slice p9 vs.length c9)
        rw [← hwA]
        clear k0 k1 k2 y0 y1 y2 y3 y4 y5 x0 x1 x2 x3 x4 x5 v0 v1 v2 v3 v4 v5 hwA
        revert hP hPK
        generalize World.setCell _ ⟨W.heap.size + 3, 5, none⟩ _ = wB
        intro hP hPK
        have hAB : MBox wB (W.heap.size + 2) (.slice (some ⟨gw, 0, none⟩) fin.1.1.length cw) (.slice (some ⟨gl, 0, none⟩) ms.length cl) fin.1.2 := hA.keeps hPK (by omega)
        have HPB := Lib.hid hP
        have HMB := Lib.hid hAB
        have HKB := Lib.hid (show Keeps (fun k => k = W.heap.size + 2 ∨ k = W.heap.size + 3) w8 wB from ((Keeps.of_below hb8).trans (hAK.sub fun k _ e => .inl e)).trans (hPK.sub fun k _ e => .inr e))
        have HO9 := Lib.hid (show wB.ownsRow w8.heap.size 27 1 (.slice p9 vs.length c9) vs.length (vs.map (Value.int .u64)) from (hPK.row (hAK.row ho (fun g hg e => by have := (ho.lt g hg).1; have h9 := HRDB.out.lt; have : w8.heap.size ≤ g := this; omega)) (fun g hg e => by have := (ho.lt g hg).1; have h9 := HRDB.out.lt; have : w8.heap.size ≤ g := this; omega)))
        clear hA hAK hr10 hP hPK hAB ho hb8 hb9 hy9 hr9 HTO z0 z1 z2
        obtain ⟨⟨y0, y1, y2⟩, -, -, -⟩ := mbox_cells HMB.out
        obtain ⟨x0, x1, x2, x3, x4, x5⟩ := HPB.out.cells
        go_wp2
        try simp only [Exit.jump]
        refine bodyPost_ret (v := .tuple #[.agg #[.slice (some ⟨gw, 0, none⟩) fin.1.1.length cw, .slice (some ⟨gl, 0, none⟩) ms.length cl, .bool fin.1.2], wrV fin.2 (.slice p9 vs.length c9), .int .i64 0]) (by simp [results, Try.results29, go_sem, y0, y1, y2, x0, x1, x2, x3, x4, x5, wrV]) rfl ⟨⟨gw, cw, gl, cl, p9, c9, rfl, ?_, ?_, ?_⟩, ?_⟩
        · exact HKB.out.row HS8.out.1.words (by intro g hg; simp only [Value.ownBlock, Option.some.injEq] at hg; subst hg; have := HUP.out gw (.inr (.inl rfl)); show ¬ (_ ∨ _); omega)
        · exact HKB.out.row HS8.out.1.lives (by intro g hg; have n1 := HRES.out.row HS8.out.1.lives (by decide) hg; have n2 := WrBox.row' HRDB.out HS8.out.1.lives (by decide) hg; show ¬ (_ ∨ _); omega)
        · exact HO9.out.mono HB8.out.size
        · exact HB8.out.trans (HKB.out.below HB8.out.size (fun k e => by omega))


end Go.Proofs.Ytaljpggajpoalaa
/-
  live(8), of the statements of layer 6: eight words, all live, of 0.
  Conditions: none.
-/
namespace Go.Proofs.Ytaljpggajpoalaa
open Go.RowKit Go.Shelf
attribute [local go_sem] Oper.semAt_some

set_option maxRecDepth 100000 in
set_option maxHeartbeats 8000000 in
theorem elive (W : World) : Calls Try.prog 34 #[.int .i64 8] W fun e w' => (∃ gw cw gl cl, e = .returned (.tuple #[.agg #[.slice (some ⟨gw, 0, none⟩) 8 cw, .slice (some ⟨gl, 0, none⟩) 8 cl, .bool false], .bool true]) ∧
      w'.ownsRow W.heap.size 27 1 (.slice (some ⟨gw, 0, none⟩) 8 cw) 8 ((List.replicate 8 0 : List Int).map (Value.int .u64)) ∧ w'.ownsRow W.heap.size 4 1 (.slice (some ⟨gl, 0, none⟩) 8 cl) 8 ((List.replicate 8 true).map Value.bool)) ∧ Below W.heap.size W w' := by
  have hB : Below W.heap.size W (W.alloc (.cells #[.slice none 0 0, .slice none 0 0, .bool false] 44)) := (Below.refl _ _).alloc (Nat.le_refl _) _
  have HR := Lib.hid (MBox.new W (.slice none 0 0) (.slice none 0 0) false)
  go_enter Try.func34, Try.ntmps34
  go_wp2_with fail
  refine (new_c _).mono ?_
  rintro e w1 ⟨⟨_, rfl, vw, vl, rfl, how, hol⟩, hb1⟩
  have HR1 := Lib.hid (HR.out.below hb1)
  have hB1 := below_then hB hB.size hb1
  clear hb1 hB HR
  obtain ⟨gw, cw, rfl, hgw, hgw3⟩ := own_form how (by decide)
  obtain ⟨gl, cl, rfl, hgl, hgl3⟩ := own_form hol (by decide)
  have hcapl := (own_cap hol).1
  have hb2 : Below w1.heap.size w1 (w1.alloc (.cells #[.slice (some ⟨gw, 0, none⟩) 8 cw, .slice (some ⟨gl, 0, none⟩) 8 cl, .bool false] 44)) := (Below.refl _ _).alloc (Nat.le_refl _) _
  have hmem : MemAt (w1.alloc (.cells #[.slice (some ⟨gw, 0, none⟩) 8 cw, .slice (some ⟨gl, 0, none⟩) 8 cl, .bool false] 44)) (.agg #[.slice (some ⟨gw, 0, none⟩) 8 cw, .slice (some ⟨gl, 0, none⟩) 8 cl, .bool false]) (List.replicate 8 0) (List.replicate 8 false) false :=
    ⟨_, _, rfl, nums_of_owns (by decide) (owns_below how hb2), bools_of_owns (by decide) (owns_below hol hb2)⟩
  have HLIVE := Lib.hid (live_yes _ _ _ false 0 8 _ hmem (by intro x y p n c e; injection e with e; injection e with e; injection e with _ e; injection e with e _; injection e with _ e1 e2; subst e1; subst e2; exact hcapl) (by decide) (by decide) (by decide) (by decide) (by decide))
  have HZ2 := Lib.hid (MBox.new w1 (.slice (some ⟨gw, 0, none⟩) 8 cw) (.slice (some ⟨gl, 0, none⟩) 8 cl) false)
  have HR2 := Lib.hid (HR1.out.below hb2)
  have hB2 := below_then hB1 hB1.size hb2
  have hzb : W.heap.size < w1.heap.size := HR1.out.lt
  obtain ⟨z, hz⟩ : ∃ z, z = w1.heap.size := ⟨_, rfl⟩
  have HZZ := Lib.hid hz
  clear hmem hb2 how hol hB1 HR1 hz
  go_wp2_with fail
  refine HLIVE.out.mono ?_
  rintro e w3 ⟨⟨_, rfl, vw2, vl2, rfl, how2, hol2⟩, hb3⟩
  obtain ⟨gw2, cw2, rfl, hgw2, hgw4⟩ := own_form how2 (by decide)
  obtain ⟨gl2, cl2, rfl, hgl2, hgl4⟩ := own_form hol2 (by decide)
  have e1 : fill (List.replicate 8 (0 : Int)) (Int.toNat 0) 0 (Int.toNat 8) = List.replicate 8 0 := by decide
  have e2 : fill (List.replicate 8 false) (Int.toNat 0) true (Int.toNat 8) = List.replicate 8 true := by decide
  rw [e1, e2]
  rw [e1] at how2
  rw [e2] at hol2
  rw [show (List.replicate 8 0 : List Int).length = 8 from rfl] at how2 ⊢
  rw [show (List.replicate 8 true : List Bool).length = 8 from rfl] at hol2 ⊢
  rw [World.size_alloc, ← HZZ.out] at hgw2 hgl2
  have hz3 := HZ2.out.below hb3
  rw [← HZZ.out] at hz3 hzb ⊢
  have hr3 := HR2.out.below hb3
  obtain ⟨⟨hd0, hd1, hd2⟩, he0, he1, he2⟩ := mbox_cells hz3
  obtain ⟨w4, hw4⟩ : ∃ w4 : World, w4 = ((w3.setCell ⟨z, 0, none⟩ (.slice (some ⟨gw2, 0, none⟩) 8 cw2)).setCell ⟨z, 1, none⟩ (.slice (some ⟨gl2, 0, none⟩) 8 cl2)).setCell ⟨z, 2, none⟩ (.bool false) := ⟨_, rfl⟩
  have hkz : Keeps (· = z) w3 w4 := by
    rw [hw4]
    exact ((Keeps.setCell w3 (S := (· = z)) (p := ⟨z, 0, none⟩) rfl _).trans (Keeps.setCell _ (S := (· = z)) (p := ⟨z, 1, none⟩) rfl _)).trans (Keeps.setCell _ (S := (· = z)) (p := ⟨z, 2, none⟩) rfl _)
  have HZ4 := Lib.hid (show MBox w4 z (.slice (some ⟨gw2, 0, none⟩) 8 cw2) (.slice (some ⟨gl2, 0, none⟩) 8 cl2) false by rw [hw4]; exact hz3.set _ _ _)
  have HR4 := Lib.hid (hr3.keeps hkz (fun e => by have e : W.heap.size = z := e; omega))
  have how4 := hkz.row how2 (fun q hq e => by have e : q = z := e; simp [Value.ownBlock] at hq; omega)
  have hol4 := hkz.row hol2 (fun q hq e => by have e : q = z := e; simp [Value.ownBlock] at hq; omega)
  have HOW := Lib.hid how4
  have HOL := Lib.hid hol4
  have HB4 := Lib.hid ((below_then hB2 hB2.size hb3).trans (hkz.below (below_then hB2 hB2.size hb3).size (fun q hq => by have e : q = z := hq; omega)))
  have HW4 := Lib.hid hw4
  have HGG := Lib.hid (show W.heap.size < gw2 ∧ W.heap.size < gl2 by omega)
  clear hw4 hkz how2 hol2 how4 hol4 hz3 hr3 hb3 hB2 e1 e2 HLIVE HZ2 HR2 hgw hgl hgw3 hgl3 hgw2 hgl2 hgw4 hgl4
  go_upto_region 3 with (fail)
  rw [← HW4.out]
  clear hd0 hd1 hd2 he0 he1 he2 HW4
  obtain ⟨⟨hd0, hd1, hd2⟩, _⟩ := mbox_cells HZ4.out
  obtain ⟨⟨r0, r1, r2⟩, q0, q1, q2⟩ := mbox_cells HR4.out
  have HPS := Lib.hid (HR4.out.set (.slice (some ⟨gw2, 0, none⟩) 8 cw2) (.slice (some ⟨gl2, 0, none⟩) 8 cl2) false)
  have HPK := Lib.hid (((Keeps.setCell w4 (S := (· = W.heap.size)) (p := ⟨W.heap.size, 0, none⟩) rfl (.slice (some ⟨gw2, 0, none⟩) 8 cw2)).trans (Keeps.setCell _ (S := (· = W.heap.size)) (p := ⟨W.heap.size, 1, none⟩) rfl (.slice (some ⟨gl2, 0, none⟩) 8 cl2))).trans (Keeps.setCell _ (S := (· = W.heap.size)) (p := ⟨W.heap.size, 2, none⟩) rfl (.bool false)))
  go_wp2
  clear hd0 hd1 hd2 r0 r1 r2 q0 q1 q2
  revert HPS HPK
  generalize World.setCell _ ⟨W.heap.size, 2, none⟩ _ = w5
  intro HPS HPK
  obtain ⟨⟨r0, r1, r2⟩, -, -, -⟩ := mbox_cells HPS.out
  exact bodyPost_ret (v := .tuple #[.agg #[.slice (some ⟨gw2, 0, none⟩) 8 cw2, .slice (some ⟨gl2, 0, none⟩) 8 cl2, .bool false], .bool true]) (by simp [results, Try.results34, go_sem, r0, r1, r2]) rfl ⟨⟨gw2, cw2, gl2, cl2, rfl, (HPK.out.row HOW.out (fun g hg e => by simp [Value.ownBlock] at hg; have e' : g = W.heap.size := e; have := HGG.out; omega)).mono (by rw [World.size_alloc, ← HZZ.out]; omega), (HPK.out.row HOL.out (fun g hg e => by simp [Value.ownBlock] at hg; have e' : g = W.heap.size := e; have := HGG.out; omega)).mono (by rw [World.size_alloc, ← HZZ.out]; omega)⟩, HB4.out.trans (HPK.out.below HB4.out.size (fun k e => Nat.le_of_eq e.symm))⟩

end Go.Proofs.Ytaljpggajpoalaa
namespace Go.Proofs.Ytaljpggajpoalaa
open Go.RowKit Go.Shelf
attribute [local go_sem] Oper.semAt_some

def wkPicks : List Bool := [false, false, true, false, false, false, true, true, true, true]
def wkStart (v : Value) : PlS := ⟨List.replicate 8 0, false, ⟨0, 1, 2, 0, 0, 0⟩, [], ⟨⟨0, 0, 4, 0, 0⟩, .slice none 0 0, []⟩, [⟨⟨0, 1, 0, 0, 0⟩, v, [7, 8]⟩]⟩
theorem wk_plays (v : Value) : (playM (List.replicate 8 true) (wkStart v) wkPicks).us = [2, 7, 8, 0, 0, 0, 0, 0] ∧ (playM (List.replicate 8 true) (wkStart v) wkPicks).u = false ∧ (playM (List.replicate 8 true) (wkStart v) wkPicks).s = ⟨0, 1, 2, 4, 2, 0⟩ ∧ (playM (List.replicate 8 true) (wkStart v) wkPicks).vs = [7, 8] := by
  refine ⟨?_, ?_, ?_, ?_⟩ <;> kernel_rfl
/-- A row of its own is below the blocks that are not yet there. -/
theorem VV.ownsLt {W : World} {B : Nat} {v : Value} {vs : List Int} {n : Nat} (h : W.ownsRow B 27 1 v n (vs.map (Value.int .u64))) (hn : n = vs.length) : VV (fun k => W.heap.size ≤ k) W v vs := by
  subst hn
  rcases h.2 with ⟨rfl, h0⟩ | ⟨g, cap, cur, rfl, hB, hb, h1, h2, _⟩
  · obtain rfl : vs = [] := List.eq_nil_of_length_eq_zero h0
    exact VV.nil _ W
  · refine ⟨_, _, rfl, ⟨h1, by unfold maxLen at h2; omega⟩, .inr ⟨g, 0, rfl, fun hs => by have := (Array.getElem?_eq_some_iff.1 hb).1; have hs' : W.heap.size ≤ g := hs; omega, fun i hi => ?_⟩⟩
    have h3 := h.cellAt i (by omega)
    rw [List.getElem?_eq_getElem (by simpa using hi)] at h3
    simpa using h3
theorem wk_play (mv : Value) (q' : Option Addr) (c' y pk : Nat) (B : Nat) (W : World) (hM : MemAt W mv (List.replicate 8 0) (List.replicate 8 true) false) (hV : W.ownsRow B 27 1 (.slice q' 2 c') 2 (([7, 8] : List Int).map (Value.int .u64)))
    (hy : W.heap[y]? = some (.cells #[.int .i64 0, .int .i64 1, .slice q' 2 c', .int .i64 0, .int .u64 0, .int .i64 0] 34 (0, 0))) (hp : W.heap[pk]? = some (.cells (wkPicks.map Value.bool).toArray 4 (0, 0))) :
    Calls Try.prog 32 #[mv, rdV ⟨0, 1, 2, 0, 0, 0⟩ (.slice none 0 0), .slice (some ⟨y, 0, none⟩) 1 1, .slice (some ⟨pk, 0, none⟩) 10 10] W fun e w' => (∃ gw cw gl cl p c, e = .returned (.tuple #[.agg #[.slice (some ⟨gw, 0, none⟩) 8 cw, .slice (some ⟨gl, 0, none⟩) 8 cl, .bool false], rdV ⟨0, 1, 2, 4, 2, 0⟩ (.slice p 2 c), .int .i64 0]) ∧ w'.cell? ⟨gw, 0, none⟩ = some (.int .u64 2) ∧ NumsAt w' .u64 (.slice p 2 c) [7, 8]) ∧ Below W.heap.size W w' := by
  have hyl := (Array.getElem?_eq_some_iff.1 hy).1
  have hpl := (Array.getElem?_eq_some_iff.1 hp).1
  refine (play_c mv (List.replicate 8 0) (List.replicate 8 true) false ⟨0, 1, 2, 0, 0, 0⟩ none 0 [] (some ⟨y, 0, none⟩) 1 [⟨⟨0, 1, 0, 0, 0⟩, .slice q' 2 c', [7, 8]⟩] (some ⟨pk, 0, none⟩) 10 wkPicks W hM (by decide) (by intro x hx; have := List.eq_of_mem_replicate hx; omega) (VV.nil _ W) (by decide) (by decide)
    (fun _ => ⟨y, 0, rfl, fun h => by have h' : W.heap.size ≤ y := h; omega, fun i hi => ?_⟩) (by show 1 ≤ _; omega) ⟨Nat.le_refl 1, by show 1 ≤ _; omega⟩ (by show (rightWB ⟨0, 1, 0, 0, 0⟩ 2 && true) = true; decide) (by intro x hx; simp at hx; subst hx; exact ⟨Int.le_refl 0, by show (0 : Int) ≤ _; omega⟩) (by intro x hx; simp at hx; subst hx; intro z hz; simp at hz; omega)
    (fun _ => ⟨pk, 0, rfl, fun h => by have h' : W.heap.size ≤ pk := h; omega, fun i hi => ?_⟩) (by decide)).mono fun e w' h => ?_
  · obtain rfl : i = 0 := by simp at hi; omega
    simp only [List.getElem_cons_zero]
    refine ⟨⟨?_, ?_, ?_, ?_, ?_, ?_⟩, VV.ownsLt hV rfl⟩ <;> simp [World.cell?, hy]
  · simp only [World.cell?, hp, Nat.zero_add]
    rw [List.getElem?_toArray, List.getElem?_map, List.getElem?_eq_getElem hi]
    rfl
  · obtain ⟨⟨gw, cw, gl, cl, p, c, he, h1, h2, h3⟩, hb⟩ := h
    obtain ⟨k1, k2, k3, k4⟩ := wk_plays (.slice q' 2 c')
    unfold wkStart at k1 k2 k3 k4
    rw [k1, k2, k3, k4] at he
    rw [k1] at h1
    rw [k4] at h3
    exact ⟨⟨gw, cw, gl, cl, p, c, he, h1.cellAt 0 (by decide), nums_of_owns rfl h3⟩, hb⟩

set_option maxRecDepth 100000 in
set_option maxHeartbeats 8000000 in
theorem ewakes (W : World) : Calls Try.prog 10 #[] W fun e w' => e = .returned (.bool true) ∧ Below W.heap.size W w' := by
  have HRD := Lib.hid (show ∀ Z : World, Calls Try.prog 12 #[.int .i64 0, .int .i64 1, .int .i64 2] Z fun e w' => e = .returned (.tuple #[.agg #[.int .i64 0, .int .i64 1, .int .i64 2, .int .i64 0, .int .u64 0, .slice none 0 0, .int .i64 0], .int .i64 0]) ∧ Below Z.heap.size Z w' from fun Z => by
    have h := read_c 0 1 2 Z
    rw [if_pos (by decide)] at h
    exact h)
  have HRN := Lib.hid (show ∀ Z : World, Calls Try.prog 12 #[.int .i64 0, .int .i64 0, .int .i64 1] Z fun e w' => e = .returned (.tuple #[.agg #[.int .i64 0, .int .i64 0, .int .i64 0, .int .i64 0, .int .u64 0, .slice none 0 0, .int .i64 0], .int .i64 2]) ∧ Below Z.heap.size Z w' from fun Z => by
    have h := read_c 0 0 1 Z
    rw [if_neg (by decide)] at h
    exact h)
  have HWY := Lib.hid (fun (Z : World) (y : Nat) (hv : NumsAt Z .u64 (.slice (some ⟨y, 0, none⟩) 2 2) [7, 8]) => write_yes 0 1 (some ⟨y, 0, none⟩) 2 2 [7, 8] (by decide) Z hv)
  go_enter Try.func10, Try.ntmps10
  go_wp2_with fail
  refine (elive _).mono ?_
  rintro e w1 ⟨⟨gw, cw, gl, cl, rfl, how, hol⟩, hb1⟩
  obtain ⟨z, hz⟩ : ∃ z, z = w1.heap.size := ⟨_, rfl⟩
  obtain ⟨w2, hw2⟩ : ∃ X : World, X = w1.alloc (.cells #[.slice (some ⟨gw, 0, none⟩) 8 cw, .slice (some ⟨gl, 0, none⟩) 8 cl, .bool false] 44) := ⟨_, rfl⟩
  have HW2 := Lib.hid (And.intro hz hw2)
  have hb2 : Below w1.heap.size w1 w2 := by rw [hw2]; exact below1 w1 _
  have HM2 := Lib.hid (show MBox w2 z (.slice (some ⟨gw, 0, none⟩) 8 cw) (.slice (some ⟨gl, 0, none⟩) 8 cl) false by rw [hw2, hz]; exact MBox.new _ _ _ _)
  have HO2 := Lib.hid (And.intro (owns_below how hb2) (owns_below hol hb2))
  have HB2 := Lib.hid (below_then hb1 hb1.size hb2)
  clear hz hw2 how hol hb1 hb2
  go_upto_region 2 with (fail)
  rw [← HW2.out.1, ← HW2.out.2]
  go_wp2_with fail
  refine (HRD.out _).mono ?_
  rintro e w3 ⟨rfl, hb3⟩
  obtain ⟨zr, hzr⟩ : ∃ z, z = w3.heap.size := ⟨_, rfl⟩
  obtain ⟨w4, hw4⟩ : ∃ X : World, X = w3.alloc (.cells #[.int .i64 0, .int .i64 1, .int .i64 2, .int .i64 0, .int .u64 0, .slice none 0 0, .int .i64 0] 29) := ⟨_, rfl⟩
  have hb4 : Below w2.heap.size w2 w4 := by rw [hw4]; exact hb3.trans ((below1 w3 _).mono hb3.size)
  have HR4 := Lib.hid (show RdBox w4 zr ⟨0, 1, 2, 0, 0, 0⟩ (.slice none 0 0) by rw [hw4, hzr]; exact World.alloc_heap_new _ _)
  have HM4 := Lib.hid (HM2.out.below hb4)
  have HO4 := Lib.hid (And.intro (owns_below HO2.out.1 hb4) (owns_below HO2.out.2 hb4))
  have HB4 := Lib.hid (below_then HB2.out HB2.out.size hb4)
  have HW4 := Lib.hid (And.intro hzr hw4)
  clear hzr hw4 hb3 hb4 HM2 HO2 HB2 HW2 HRD
  go_upto_region 3 with (fail)
  rw [← HW4.out.1, ← HW4.out.2]
  obtain ⟨w5, hw5⟩ : ∃ X : World, X = w4.alloc (.cells #[.int .u64 7, .int .u64 8] 27) := ⟨_, rfl⟩
  have hb5 : Below w4.heap.size w4 w5 := by rw [hw5]; exact below1 w4 _
  have hn5 : NumsAt w5 .u64 (.slice (some ⟨w4.heap.size, 0, none⟩) 2 2) [7, 8] := ⟨_, 2, rfl, fun _ => ⟨_, 0, rfl, fun i hi => by
    have hnew : w5.heap[w4.heap.size]? = some (.cells (([7, 8] : List Int).map (Value.int .u64)).toArray 27 (0, 0)) := by rw [hw5]; exact World.alloc_heap_new w4 _
    simp only [World.cell?, hnew, Nat.zero_add]
    rw [List.getElem?_toArray, List.getElem?_map, List.getElem?_eq_getElem hi]
    rfl⟩⟩
  have HWR := Lib.hid (HWY.out w5 w4.heap.size hn5)
  have HW5 := Lib.hid hw5
  have HR5 := Lib.hid (HR4.out.below hb5)
  have HM5 := Lib.hid (HM4.out.below hb5)
  have HO5 := Lib.hid (And.intro (owns_below HO4.out.1 hb5) (owns_below HO4.out.2 hb5))
  have HB5 := Lib.hid (below_then HB4.out HB4.out.size hb5)
  clear hw5 hb5 hn5 HW4 HR4 HM4 HO4 HB4 HWY
  go_wp2_with fail
  rw [← HW5.out]
  refine HWR.out.mono ?_
  rintro e w6 ⟨⟨q', c', rfl, hov⟩, hb6⟩
  unfold wrV
  obtain ⟨zw, hzw⟩ : ∃ z, z = w6.heap.size := ⟨_, rfl⟩
  obtain ⟨w7, hw7⟩ : ∃ X : World, X = w6.alloc (.cells #[.int .i64 0, .int .i64 1, .slice q' 2 c', .int .i64 0, .int .u64 0, .int .i64 0] 34) := ⟨_, rfl⟩
  have hb67 : Below w6.heap.size w6 w7 := by rw [hw7]; exact below1 w6 _
  have hb7 : Below w5.heap.size w5 w7 := hb6.trans (hb67.mono hb6.size)
  have HX7 := Lib.hid (show WrBox w7 zw ⟨0, 1, 0, 0, 0⟩ (.slice q' 2 c') by rw [hw7, hzw]; exact World.alloc_heap_new _ _)
  have HR7 := Lib.hid (HR5.out.below hb7)
  have HM7 := Lib.hid (HM5.out.below hb7)
  have HO7 := Lib.hid (And.intro (owns_below HO5.out.1 hb7) (owns_below HO5.out.2 hb7))
  have HV7 := Lib.hid (owns_below hov hb67)
  have HB7 := Lib.hid (below_then HB5.out HB5.out.size hb7)
  have HW7 := Lib.hid (And.intro hzw hw7)
  clear hzw hw7 hb6 hb67 hb7 hov HR5 HM5 HO5 HB5 HW5 HWR
  go_upto_region 4 with (fail)
  rw [← HW7.out.1, ← HW7.out.2]
  obtain ⟨w8, hw8⟩ : ∃ X : World, X = (w7.alloc (.cells #[.int .i64 0, .int .i64 1, .slice q' 2 c', .int .i64 0, .int .u64 0, .int .i64 0] 34)).alloc (.cells #[.bool false, .bool false, .bool true, .bool false, .bool false, .bool false, .bool true, .bool true, .bool true, .bool true] 4) := ⟨_, rfl⟩
  have hb8 : Below w7.heap.size w7 w8 := by rw [hw8]; exact below2 w7 _ _
  have hy8 : w8.heap[w7.heap.size]? = some (.cells #[.int .i64 0, .int .i64 1, .slice q' 2 c', .int .i64 0, .int .u64 0, .int .i64 0] 34 (0, 0)) := by
    rw [hw8, Below.heap_alloc _ _ _ (by simp)]; exact World.alloc_heap_new w7 _
  have hp8 : w8.heap[w7.heap.size + 1]? = some (.cells (wkPicks.map Value.bool).toArray 4 (0, 0)) := by
    have h := World.alloc_heap_new (w7.alloc (.cells #[.int .i64 0, .int .i64 1, .slice q' 2 c', .int .i64 0, .int .u64 0, .int .i64 0] 34)) (.cells #[.bool false, .bool false, .bool true, .bool false, .bool false, .bool false, .bool true, .bool true, .bool true, .bool true] 4)
    rw [World.size_alloc, ← hw8] at h
    exact h
  have HPL := Lib.hid (wk_play (.agg #[.slice (some ⟨gw, 0, none⟩) 8 cw, .slice (some ⟨gl, 0, none⟩) 8 cl, .bool false]) q' c' w7.heap.size (w7.heap.size + 1) _ w8 ⟨_, _, rfl, nums_of_owns (by decide) (owns_below HO7.out.1 hb8), bools_of_owns (by decide) (owns_below HO7.out.2 hb8)⟩ (owns_below HV7.out hb8) hy8 hp8)
  have HB8 := Lib.hid (below_then HB7.out HB7.out.size hb8)
  have HW8 := Lib.hid hw8
  unfold rdV at HPL
  dsimp only at HPL
  obtain ⟨⟨hd0, hd1, hd2⟩, -⟩ := mbox_cells HM7.out
  obtain ⟨r0, r1, r2, r3, r4, r5, r6⟩ := HR7.out.cells
  obtain ⟨x0, x1, x2, x3, x4, x5⟩ := HX7.out.cells
  dsimp only at r0 r1 r2 r3 r4 r6 x0 x1 x3 x4 x5
  clear hw8 hb8 hy8 hp8 HM7 HR7 HX7 HO7 HV7 HB7 HW7
  go_wp2_with fail
  rw [← HW8.out]
  refine HPL.out.mono ?_
  rintro e w9 ⟨⟨gx, cx, gy, cy, p, c, rfl, hx, hn⟩, hb9⟩
  clear hd0 hd1 hd2 r0 r1 r2 r3 r4 r5 r6 x0 x1 x2 x3 x4 x5 HPL HW8
  obtain ⟨w10, hw10⟩ : ∃ X : World, X = (w9.alloc (.cells #[.slice (some ⟨gx, 0, none⟩) 8 cx, .slice (some ⟨gy, 0, none⟩) 8 cy, .bool false] 44)).alloc (.cells #[.int .i64 0, .int .i64 1, .int .i64 2, .int .i64 4, .int .u64 2, .slice p 2 c, .int .i64 0] 29) := ⟨_, rfl⟩
  have hb10 : Below w9.heap.size w9 w10 := by rw [hw10]; exact below2 w9 _ _
  obtain ⟨zm, hzm⟩ : ∃ z, z = w9.heap.size := ⟨_, rfl⟩
  have HM10 := Lib.hid (show MBox w10 zm (.slice (some ⟨gx, 0, none⟩) 8 cx) (.slice (some ⟨gy, 0, none⟩) 8 cy) false by rw [hw10, hzm]; exact (MBox.new w9 _ _ _).alloc _)
  have HR10 := Lib.hid (show RdBox w10 (zm + 1) ⟨0, 1, 2, 4, 2, 0⟩ (.slice p 2 c) by
    have h := World.alloc_heap_new (w9.alloc (.cells #[.slice (some ⟨gx, 0, none⟩) 8 cx, .slice (some ⟨gy, 0, none⟩) 8 cy, .bool false] 44)) (.cells #[.int .i64 0, .int .i64 1, .int .i64 2, .int .i64 4, .int .u64 2, .slice p 2 c, .int .i64 0] 29)
    rw [World.size_alloc, ← hw10, ← hzm] at h
    exact h)
  have HX10 := Lib.hid (below_cell hb10 hx)
  have HN10 := Lib.hid (nums_below hn hb10)
  have HB10 := Lib.hid (below_then (below_then HB8.out HB8.out.size hb9) (Nat.le_trans HB8.out.size hb9.size) hb10)
  have HW10 := Lib.hid (And.intro hzm hw10)
  clear hzm hw10 hb9 hb10 hx hn HB8
  go_upto_region 5 with (fail)
  rw [← HW10.out.1, ← HW10.out.2]
  go_wp2_with fail
  refine (HRN.out _).mono ?_
  rintro e w11 ⟨rfl, hb11⟩
  obtain ⟨w12, hw12⟩ : ∃ X : World, X = w11.alloc (.cells #[.int .i64 0, .int .i64 0, .int .i64 0, .int .i64 0, .int .u64 0, .slice none 0 0, .int .i64 0] 29) := ⟨_, rfl⟩
  have hb12 : Below w10.heap.size w10 w12 := by rw [hw12]; exact hb11.trans ((below1 w11 _).mono hb11.size)
  have HM12 := Lib.hid (HM10.out.below hb12)
  have HR12 := Lib.hid (HR10.out.below hb12)
  have HX12 := Lib.hid (below_cell hb12 HX10.out)
  have HN12 := Lib.hid (nums_below HN10.out hb12)
  have HB12 := Lib.hid (below_then HB10.out HB10.out.size hb12)
  have HW12 := Lib.hid hw12
  clear hw12 hb11 hb12 HM10 HR10 HX10 HN10 HB10 HW10 HRN
  go_upto_region 6 with (fail)
  rw [← HW12.out]
  clear HW12
  obtain ⟨w13, hw13⟩ : ∃ X : World, X = w12.alloc (.cells #[.int .u64 7, .int .u64 8] 27) := ⟨_, rfl⟩
  have hb13 : Below w12.heap.size w12 w13 := by rw [hw13]; exact below1 w12 _
  have hn13 : NumsAt w13 .u64 (.slice (some ⟨w12.heap.size, 0, none⟩) 2 2) [7, 8] := ⟨_, 2, rfl, fun _ => ⟨_, 0, rfl, fun i hi => by
    have hnew : w13.heap[w12.heap.size]? = some (.cells (([7, 8] : List Int).map (Value.int .u64)).toArray 27 (0, 0)) := by rw [hw13]; exact World.alloc_heap_new w12 _
    simp only [World.cell?, hnew, Nat.zero_add]
    rw [List.getElem?_toArray, List.getElem?_map, List.getElem?_eq_getElem hi]
    rfl⟩⟩
  have HEQ := Lib.hid (equalW_same _ _ [7, 8] w13 (nums_below HN12.out hb13) hn13 (by decide))
  have HB13 := Lib.hid (below_then HB12.out HB12.out.size hb13)
  have HM13 := Lib.hid (HM12.out.below hb13)
  have HR13 := Lib.hid (HR12.out.below hb13)
  have HX13 := Lib.hid (below_cell hb13 HX12.out)
  obtain ⟨r0, r1, r2, r3, r4, r5, r6⟩ := HR12.out.cells
  dsimp only at r0 r1 r2 r3 r4 r6
  have HW13 := Lib.hid hw13
  clear hw13 hb13 hn13 HM12 HR12 HX12 HN12 HB12
  go_wp2_with fail
  rw [← HW13.out]
  refine HEQ.out.mono ?_
  rintro e w14 ⟨rfl, hb14⟩
  clear r0 r1 r2 r3 r4 r5 r6
  obtain ⟨r0, r1, r2, r3, r4, r5, r6⟩ := (HR13.out.below hb14).cells
  obtain ⟨⟨hd0, hd1, hd2⟩, -⟩ := mbox_cells (HM13.out.below hb14)
  dsimp only at r0 r1 r2 r3 r4 r6
  have hx := below_cell hb14 HX13.out
  have HB14 := Lib.hid (below_then HB13.out HB13.out.size hb14)
  clear hb14 HEQ HW13 HR13 HM13 HX13 HB13
  go_wp2
  go_ret
  exact ⟨rfl, HB14.out⟩

end Go.Proofs.Ytaljpggajpoalaa
