/-
  What the claims of layer 6 have in common.
-/
import Derived.Test.YtaljpggajpoalaaSB10
import Derived.Test.YtaljpggajpoalaaSB12
import Derived.Test.YtaljpggajpoalaaSB11
import Derived.Test.YtaljpggajpoalaaSB1
import Derived.Test.YtaljpggajpoalaaSB2
import Derived.Test.YtaljpggajpoalaaSB3
/-
  StepRead, of package seq, where the memory, or the read, may not be; ownRead of the statements.
  Conditions: the ranges of Go's types.
-/
namespace Go.Proofs.Ytaljpggajpoalaa
open Go.RowKit Go.Shelf
attribute [local go_sem] Oper.semAt_some

set_option maxRecDepth 100000 in
set_option maxHeartbeats 8000000 in
theorem sread_bad (mv : Value) (us : List Int) (ms : List Bool) (u : Bool) (s : RdM) (rq : Option Addr) (n rc : Nat) (W : World) (hM : MemAt W mv us ms u) (hw : us.length ≤ 9223372036854775807) (hr : rightB us ms = false) :
    Calls Try.prog 22 #[mv, rdV s (.slice rq n rc)] W fun e w' => e = .returned (.tuple #[memZ, rdV ⟨0, 0, 0, 0, 0, 0⟩ (.slice none 0 0), .int .i64 120]) ∧ Below W.heap.size W w' := by
  have HM := Lib.hid hM
  obtain ⟨vw, vl, rfl, ⟨pw, cw0, rfl, hcw⟩, pl, cl0, rfl, hcl⟩ := hM
  clear hcw hcl
  have HAN := Lib.hid (fun (Z : World) (hb : Below W.heap.size W Z) => anew_bad _ us ms u Z (HM.out.below hb) hw hr)
  obtain ⟨a, f, m, ph, b, t0⟩ := s
  obtain ⟨w0, hw0⟩ : ∃ X : World, X = (((W.alloc (.cells #[.slice pw us.length cw0, .slice pl ms.length cl0, .bool u] 44)).alloc (.cells #[.int .i64 a, .int .i64 f, .int .i64 m, .int .i64 ph, .int .u64 b, .slice rq n rc, .int .i64 t0] 29)).alloc (.cells #[.slice none 0 0, .slice none 0 0, .bool false] 44)).alloc (.cells #[.int .i64 0, .int .i64 0, .int .i64 0, .int .i64 0, .int .u64 0, .slice none 0 0, .int .i64 0] 29) := ⟨_, rfl⟩
  unfold rdV at *
  dsimp only at *
  have HB0 := Lib.hid (show Below W.heap.size W w0 by rw [hw0]; exact ((((Below.refl _ _).alloc (Nat.le_refl _) _).alloc (by simp) _).alloc (by simp; omega) _).alloc (by simp; omega) _)
  have e1 := World.alloc_heap_new W (.cells #[.slice pw us.length cw0, .slice pl ms.length cl0, .bool u] 44)
  have e2 := World.alloc_heap_new (W.alloc (.cells #[.slice pw us.length cw0, .slice pl ms.length cl0, .bool u] 44)) (.cells #[.int .i64 a, .int .i64 f, .int .i64 m, .int .i64 ph, .int .u64 b, .slice rq n rc, .int .i64 t0] 29)
  have e3 := World.alloc_heap_new ((W.alloc (.cells #[.slice pw us.length cw0, .slice pl ms.length cl0, .bool u] 44)).alloc (.cells #[.int .i64 a, .int .i64 f, .int .i64 m, .int .i64 ph, .int .u64 b, .slice rq n rc, .int .i64 t0] 29)) (.cells #[.slice none 0 0, .slice none 0 0, .bool false] 44)
  have e4 := World.alloc_heap_new (((W.alloc (.cells #[.slice pw us.length cw0, .slice pl ms.length cl0, .bool u] 44)).alloc (.cells #[.int .i64 a, .int .i64 f, .int .i64 m, .int .i64 ph, .int .u64 b, .slice rq n rc, .int .i64 t0] 29)).alloc (.cells #[.slice none 0 0, .slice none 0 0, .bool false] 44)) (.cells #[.int .i64 0, .int .i64 0, .int .i64 0, .int .i64 0, .int .u64 0, .slice none 0 0, .int .i64 0] 29)
  simp only [World.size_alloc] at e2 e3 e4
  have HZ0 := Lib.hid (show MBox w0 W.heap.size (.slice pw us.length cw0) (.slice pl ms.length cl0) u by rw [hw0]; exact (((MBox.new W _ _ u).alloc _).alloc _).alloc _)
  have HR0 := Lib.hid (show RdBox w0 (W.heap.size + 1) ⟨a, f, m, ph, b, t0⟩ (.slice rq n rc) by
    have h : RdBox _ (W.heap.size + 1) ⟨a, f, m, ph, b, t0⟩ (.slice rq n rc) := e2
    rw [hw0]
    exact (h.below (below1 _ _)).below (below1 _ _))
  have HY0 := Lib.hid (show MBox w0 (W.heap.size + 2) (.slice none 0 0) (.slice none 0 0) false by
    have h : MBox _ (W.heap.size + 2) (.slice none 0 0) (.slice none 0 0) false := e3
    rw [hw0]; exact h.alloc _)
  have HT0 := Lib.hid (show RdBox w0 (W.heap.size + 3) ⟨0, 0, 0, 0, 0, 0⟩ (.slice none 0 0) by rw [hw0]; exact e4)
  have HW0 := Lib.hid hw0
  clear hr hw hw0 HM e1 e2 e3 e4
  go_enter Try.func22, Try.ntmps22
  go_wp2_with fail
  rw [← HW0.out]
  clear HW0
  refine (HAN.out _ HB0.out).mono ?_
  rintro e w1 ⟨rfl, hb1⟩
  unfold memZ
  have HZ1 := Lib.hid (HZ0.out.below hb1)
  have HY1 := Lib.hid (HY0.out.below hb1)
  have HT1 := Lib.hid (HT0.out.below hb1)
  have HB1 := Lib.hid (below_then HB0.out HB0.out.size hb1)
  clear hb1 HAN HZ0 HR0 HY0 HT0 HB0
  obtain ⟨⟨hd0, hd1, hd2⟩, he0, he1, he2⟩ := mbox_cells HZ1.out
  obtain ⟨w2, hw2⟩ : ∃ X : World, X = ((w1.setCell ⟨W.heap.size, 0, none⟩ (.slice none 0 0)).setCell ⟨W.heap.size, 1, none⟩ (.slice none 0 0)).setCell ⟨W.heap.size, 2, none⟩ (.bool false) := ⟨_, rfl⟩
  have hk2 : Keeps (fun k => k = W.heap.size) w1 w2 := by
    rw [hw2]
    exact ((Keeps.setCell w1 (S := (· = W.heap.size)) (p := ⟨W.heap.size, 0, none⟩) rfl _).trans (Keeps.setCell _ (S := (· = W.heap.size)) (p := ⟨W.heap.size, 1, none⟩) rfl _)).trans (Keeps.setCell _ (S := (· = W.heap.size)) (p := ⟨W.heap.size, 2, none⟩) rfl _)
  have HY2 := Lib.hid (HY1.out.keeps hk2 (by omega))
  have HT2 := Lib.hid (show RdBox w2 (W.heap.size + 3) ⟨0, 0, 0, 0, 0, 0⟩ (.slice none 0 0) from (hk2.block (W.heap.size + 3) HT1.out.lt (by omega)).trans HT1.out)
  have HB2 := Lib.hid (HB1.out.trans (hk2.below HB1.out.size (fun k e => by omega)))
  have HW2 := Lib.hid hw2
  clear hw2 hk2 HZ1 HY1 HT1 HB1
  go_upto_region 2 with fail
  rw [← HW2.out]
  clear hd0 hd1 hd2 he0 he1 he2 HW2
  obtain ⟨wA, hwA⟩ : ∃ X : World, X = ((w2.setCell ⟨W.heap.size + 2, 0, none⟩ (.slice none 0 0)).setCell ⟨W.heap.size + 2, 1, none⟩ (.slice none 0 0)).setCell ⟨W.heap.size + 2, 2, none⟩ (.bool false) := ⟨_, rfl⟩
  have hA : MBox wA (W.heap.size + 2) (.slice none 0 0) (.slice none 0 0) false := by rw [hwA]; exact HY2.out.set _ _ _
  have hAK : Keeps (fun k => k = W.heap.size + 2) w2 wA := by
    rw [hwA]
    exact ((Keeps.setCell w2 (S := (· = W.heap.size + 2)) (p := ⟨W.heap.size + 2, 0, none⟩) rfl _).trans (Keeps.setCell _ (S := (· = W.heap.size + 2)) (p := ⟨W.heap.size + 2, 1, none⟩) rfl _)).trans (Keeps.setCell _ (S := (· = W.heap.size + 2)) (p := ⟨W.heap.size + 2, 2, none⟩) rfl _)
  have hr10 : RdBox wA (W.heap.size + 3) ⟨0, 0, 0, 0, 0, 0⟩ (.slice none 0 0) := (hAK.block (W.heap.size + 3) HT2.out.lt (by omega)).trans HT2.out
  have hP := hr10.put ⟨0, 0, 0, 0, 0, 0⟩ (.slice none 0 0)
  have hPK := RdBox.putK wA (W.heap.size + 3) ⟨0, 0, 0, 0, 0, 0⟩ (.slice none 0 0)
  obtain ⟨⟨y0, y1, y2⟩, y3, y4, y5⟩ := mbox_cells HY2.out
  obtain ⟨x0, x1, x2, x3, x4, x5, x6⟩ := HT2.out.cells
  have v0 := HT2.out.marks 0
  have v1 := HT2.out.marks 1
  have v2 := HT2.out.marks 2
  have v3 := HT2.out.marks 3
  have v4 := HT2.out.marks 4
  have v5 := HT2.out.marks 5
  have v6 := HT2.out.marks 6
  dsimp only at x0 x1 x2 x3 x4 x6 hP hPK
  have HP := Lib.hid hP
  have HPK := Lib.hid hPK
  have HAK := Lib.hid hAK
  have HA := Lib.hid hA
  have HWA := Lib.hid hwA
  clear hP hPK hAK hA hr10 hwA
  rw [show W.heap.size + 1 + 1 + 1 = W.heap.size + 3 from rfl, show W.heap.size + 1 + 1 = W.heap.size + 2 from rfl]
  go_wp2
  rw [← HWA.out]
  clear y0 y1 y2 y3 y4 y5 x0 x1 x2 x3 x4 x5 x6 v0 v1 v2 v3 v4 v5 v6 HWA
  revert HP HPK
  generalize World.setCell _ ⟨W.heap.size + 3, 6, none⟩ _ = wB
  intro HP HPK
  have hAB : MBox wB (W.heap.size + 2) (.slice none 0 0) (.slice none 0 0) false := HA.out.keeps HPK.out (by omega)
  obtain ⟨⟨y0, y1, y2⟩, -, -, -⟩ := mbox_cells hAB
  obtain ⟨x0, x1, x2, x3, x4, x5, x6⟩ := HP.out.cells
  exact bodyPost_ret (v := .tuple #[memZ, rdV ⟨0, 0, 0, 0, 0, 0⟩ (.slice none 0 0), .int .i64 120]) (by simp [results, Try.results22, go_sem, y0, y1, y2, x0, x1, x2, x3, x4, x5, x6, rdV, memZ]) rfl ⟨rfl, HB2.out.trans ((HAK.out.below HB2.out.size (fun k e => by omega)).trans (HPK.out.below (Nat.le_trans HB2.out.size HAK.out.size) (fun k e => by omega)))⟩

set_option maxRecDepth 100000 in
set_option maxHeartbeats 8000000 in
theorem sread_no (mv : Value) (us : List Int) (ms : List Bool) (u : Bool) (s : RdM) (rq : Option Addr) (n rc : Nat) (W : World) (hM : MemAt W mv us ms u) (hr : rightB us ms = true) (hR : rightRB s n = false) (hsb : 0 ≤ s.b ∧ s.b ≤ 18446744073709551615) :
    Calls Try.prog 22 #[mv, rdV s (.slice rq n rc)] W fun e w' => e = .returned (.tuple #[memZ, rdV ⟨0, 0, 0, 0, 0, 0⟩ (.slice none 0 0), .int .i64 160]) ∧ Below W.heap.size W w' := by
  have HM := Lib.hid hM
  obtain ⟨vw, vl, rfl, ⟨pw, cw0, rfl, hcw⟩, pl, cl0, rfl, hcl⟩ := hM
  clear hcw hcl
  have HAN := Lib.hid (fun (Z : World) (hb : Below W.heap.size W Z) => anew_yes _ us ms u Z (HM.out.below hb) hr)
  have HCP := Lib.hid (fun (Z : World) => checkRead_c s rq n rc hsb Z)
  rw [hR, if_neg (by decide)] at HCP
  obtain ⟨a, f, m, ph, b, t0⟩ := s
  obtain ⟨w0, hw0⟩ : ∃ X : World, X = (((W.alloc (.cells #[.slice pw us.length cw0, .slice pl ms.length cl0, .bool u] 44)).alloc (.cells #[.int .i64 a, .int .i64 f, .int .i64 m, .int .i64 ph, .int .u64 b, .slice rq n rc, .int .i64 t0] 29)).alloc (.cells #[.slice none 0 0, .slice none 0 0, .bool false] 44)).alloc (.cells #[.int .i64 0, .int .i64 0, .int .i64 0, .int .i64 0, .int .u64 0, .slice none 0 0, .int .i64 0] 29) := ⟨_, rfl⟩
  unfold rdV at *
  dsimp only at *
  have HB0 := Lib.hid (show Below W.heap.size W w0 by rw [hw0]; exact ((((Below.refl _ _).alloc (Nat.le_refl _) _).alloc (by simp) _).alloc (by simp; omega) _).alloc (by simp; omega) _)
  have e1 := World.alloc_heap_new W (.cells #[.slice pw us.length cw0, .slice pl ms.length cl0, .bool u] 44)
  have e2 := World.alloc_heap_new (W.alloc (.cells #[.slice pw us.length cw0, .slice pl ms.length cl0, .bool u] 44)) (.cells #[.int .i64 a, .int .i64 f, .int .i64 m, .int .i64 ph, .int .u64 b, .slice rq n rc, .int .i64 t0] 29)
  have e3 := World.alloc_heap_new ((W.alloc (.cells #[.slice pw us.length cw0, .slice pl ms.length cl0, .bool u] 44)).alloc (.cells #[.int .i64 a, .int .i64 f, .int .i64 m, .int .i64 ph, .int .u64 b, .slice rq n rc, .int .i64 t0] 29)) (.cells #[.slice none 0 0, .slice none 0 0, .bool false] 44)
  have e4 := World.alloc_heap_new (((W.alloc (.cells #[.slice pw us.length cw0, .slice pl ms.length cl0, .bool u] 44)).alloc (.cells #[.int .i64 a, .int .i64 f, .int .i64 m, .int .i64 ph, .int .u64 b, .slice rq n rc, .int .i64 t0] 29)).alloc (.cells #[.slice none 0 0, .slice none 0 0, .bool false] 44)) (.cells #[.int .i64 0, .int .i64 0, .int .i64 0, .int .i64 0, .int .u64 0, .slice none 0 0, .int .i64 0] 29)
  simp only [World.size_alloc] at e2 e3 e4
  have HZ0 := Lib.hid (show MBox w0 W.heap.size (.slice pw us.length cw0) (.slice pl ms.length cl0) u by rw [hw0]; exact (((MBox.new W _ _ u).alloc _).alloc _).alloc _)
  have HR0 := Lib.hid (show RdBox w0 (W.heap.size + 1) ⟨a, f, m, ph, b, t0⟩ (.slice rq n rc) by
    have h : RdBox _ (W.heap.size + 1) ⟨a, f, m, ph, b, t0⟩ (.slice rq n rc) := e2
    rw [hw0]
    exact (h.below (below1 _ _)).below (below1 _ _))
  have HY0 := Lib.hid (show MBox w0 (W.heap.size + 2) (.slice none 0 0) (.slice none 0 0) false by
    have h : MBox _ (W.heap.size + 2) (.slice none 0 0) (.slice none 0 0) false := e3
    rw [hw0]; exact h.alloc _)
  have HT0 := Lib.hid (show RdBox w0 (W.heap.size + 3) ⟨0, 0, 0, 0, 0, 0⟩ (.slice none 0 0) by rw [hw0]; exact e4)
  have HW0 := Lib.hid hw0
  clear hr hR hsb hw0 HM e1 e2 e3 e4
  go_enter Try.func22, Try.ntmps22
  go_wp2_with fail
  rw [← HW0.out]
  clear HW0
  refine (HAN.out _ HB0.out).mono ?_
  rintro e w1 ⟨⟨gw, cw, gl, cl, rfl, how, hol⟩, hb1⟩
  have HZ1 := Lib.hid (HZ0.out.below hb1)
  have HR1 := Lib.hid (HR0.out.below hb1)
  have HY1 := Lib.hid (HY0.out.below hb1)
  have HT1 := Lib.hid (HT0.out.below hb1)
  have HB1 := Lib.hid (below_then HB0.out HB0.out.size hb1)
  have HOW := Lib.hid (how.mono HB0.out.size)
  have HOL := Lib.hid (hol.mono HB0.out.size)
  have hgwl := (row_lt how).2
  have hs0 : W.heap.size + 3 < w0.heap.size := HT0.out.lt
  clear hb1 HAN HZ0 HR0 HY0 HT0 HB0 how hol
  obtain ⟨⟨hd0, hd1, hd2⟩, he0, he1, he2⟩ := mbox_cells HZ1.out
  obtain ⟨w2, hw2⟩ : ∃ X : World, X = ((w1.setCell ⟨W.heap.size, 0, none⟩ (.slice (some ⟨gw, 0, none⟩) us.length cw)).setCell ⟨W.heap.size, 1, none⟩ (.slice (some ⟨gl, 0, none⟩) ms.length cl)).setCell ⟨W.heap.size, 2, none⟩ (.bool u) := ⟨_, rfl⟩
  have hk2 : Keeps (fun k => k = W.heap.size) w1 w2 := by
    rw [hw2]
    exact ((Keeps.setCell w1 (S := (· = W.heap.size)) (p := ⟨W.heap.size, 0, none⟩) rfl _).trans (Keeps.setCell _ (S := (· = W.heap.size)) (p := ⟨W.heap.size, 1, none⟩) rfl _)).trans (Keeps.setCell _ (S := (· = W.heap.size)) (p := ⟨W.heap.size, 2, none⟩) rfl _)
  have HZ2 := Lib.hid (show MBox w2 W.heap.size (.slice (some ⟨gw, 0, none⟩) us.length cw) (.slice (some ⟨gl, 0, none⟩) ms.length cl) u by rw [hw2]; exact HZ1.out.set _ _ _)
  have HR2 := Lib.hid (show RdBox w2 (W.heap.size + 1) ⟨a, f, m, ph, b, t0⟩ (.slice rq n rc) from (hk2.block (W.heap.size + 1) HR1.out.lt (by omega)).trans HR1.out)
  have HY2 := Lib.hid (HY1.out.keeps hk2 (by omega))
  have HT2 := Lib.hid (show RdBox w2 (W.heap.size + 3) ⟨0, 0, 0, 0, 0, 0⟩ (.slice none 0 0) from (hk2.block (W.heap.size + 3) HT1.out.lt (by omega)).trans HT1.out)
  have HB2 := Lib.hid (HB1.out.trans (hk2.below HB1.out.size (fun k e => by omega)))
  have HOW2 := Lib.hid (hk2.row HOW.out (fun g hg e => HZ1.out.row HOW.out (by decide) hg e.symm))
  have HOL2 := Lib.hid (hk2.row HOL.out (fun g hg e => HZ1.out.row HOL.out (by decide) hg e.symm))
  have HG := Lib.hid (show W.heap.size + 3 < gw by omega)
  have HW2 := Lib.hid hw2
  clear hw2 hk2 HZ1 HR1 HY1 HT1 HB1 HOW HOL hgwl hs0
  go_upto_region 2 with fail
  rw [← HW2.out]
  clear hd0 hd1 hd2 he0 he1 he2 HW2
  obtain ⟨r0, r1, r2, r3, r4, r5, r6⟩ := HR2.out.cells
  dsimp only at r0 r1 r2 r3 r4 r6
  go_wp2_with fail
  refine (HCP.out w2).mono ?_
  rintro e w3 ⟨rfl, hb3⟩
  have HY3 := Lib.hid (HY2.out.below hb3)
  have HT3 := Lib.hid (HT2.out.below hb3)
  have HB3 := Lib.hid (below_then HB2.out HB2.out.size hb3)
  clear hb3 HCP HZ2 HR2 HY2 HT2 HB2 HOW2 HOL2 r0 r1 r2 r3 r4 r5 r6 HG
  obtain ⟨wA, hwA⟩ : ∃ X : World, X = ((w3.setCell ⟨W.heap.size + 2, 0, none⟩ (.slice none 0 0)).setCell ⟨W.heap.size + 2, 1, none⟩ (.slice none 0 0)).setCell ⟨W.heap.size + 2, 2, none⟩ (.bool false) := ⟨_, rfl⟩
  have hA : MBox wA (W.heap.size + 2) (.slice none 0 0) (.slice none 0 0) false := by rw [hwA]; exact HY3.out.set _ _ _
  have hAK : Keeps (fun k => k = W.heap.size + 2) w3 wA := by
    rw [hwA]
    exact ((Keeps.setCell w3 (S := (· = W.heap.size + 2)) (p := ⟨W.heap.size + 2, 0, none⟩) rfl _).trans (Keeps.setCell _ (S := (· = W.heap.size + 2)) (p := ⟨W.heap.size + 2, 1, none⟩) rfl _)).trans (Keeps.setCell _ (S := (· = W.heap.size + 2)) (p := ⟨W.heap.size + 2, 2, none⟩) rfl _)
  have hr10 : RdBox wA (W.heap.size + 3) ⟨0, 0, 0, 0, 0, 0⟩ (.slice none 0 0) := (hAK.block (W.heap.size + 3) HT3.out.lt (by omega)).trans HT3.out
  have hP := hr10.put ⟨0, 0, 0, 0, 0, 0⟩ (.slice none 0 0)
  have hPK := RdBox.putK wA (W.heap.size + 3) ⟨0, 0, 0, 0, 0, 0⟩ (.slice none 0 0)
  obtain ⟨⟨y0, y1, y2⟩, y3, y4, y5⟩ := mbox_cells HY3.out
  obtain ⟨x0, x1, x2, x3, x4, x5, x6⟩ := HT3.out.cells
  have v0 := HT3.out.marks 0
  have v1 := HT3.out.marks 1
  have v2 := HT3.out.marks 2
  have v3 := HT3.out.marks 3
  have v4 := HT3.out.marks 4
  have v5 := HT3.out.marks 5
  have v6 := HT3.out.marks 6
  dsimp only at x0 x1 x2 x3 x4 x6 hP hPK
  have HP := Lib.hid hP
  have HPK := Lib.hid hPK
  have HAK := Lib.hid hAK
  have HA := Lib.hid hA
  have HWA := Lib.hid hwA
  clear hP hPK hAK hA hr10 hwA
  rw [show W.heap.size + 1 + 1 + 1 = W.heap.size + 3 from rfl, show W.heap.size + 1 + 1 = W.heap.size + 2 from rfl]
  go_wp2
  rw [← HWA.out]
  clear y0 y1 y2 y3 y4 y5 x0 x1 x2 x3 x4 x5 x6 v0 v1 v2 v3 v4 v5 v6 HWA
  revert HP HPK
  generalize World.setCell _ ⟨W.heap.size + 3, 6, none⟩ _ = wB
  intro HP HPK
  have hAB : MBox wB (W.heap.size + 2) (.slice none 0 0) (.slice none 0 0) false := HA.out.keeps HPK.out (by omega)
  obtain ⟨⟨y0, y1, y2⟩, -, -, -⟩ := mbox_cells hAB
  obtain ⟨x0, x1, x2, x3, x4, x5, x6⟩ := HP.out.cells
  exact bodyPost_ret (v := .tuple #[memZ, rdV ⟨0, 0, 0, 0, 0, 0⟩ (.slice none 0 0), .int .i64 160]) (by simp [results, Try.results22, go_sem, y0, y1, y2, x0, x1, x2, x3, x4, x5, x6, rdV, memZ]) rfl ⟨rfl, HB3.out.trans ((HAK.out.below HB3.out.size (fun k e => by omega)).trans (HPK.out.below (Nat.le_trans HB3.out.size HAK.out.size) (fun k e => by omega)))⟩

set_option maxRecDepth 100000 in
set_option maxHeartbeats 8000000 in
theorem ownRead_c (s : RdM) (v : Value) (vs : List Int) (W : World) (hv : ArgR W v (vs.map (Value.int .u64))) (hvl : vs.length ≤ 9223372036854775807) :
    Calls Try.prog 19 #[rdV s v] W fun e w' => (∃ q c, e = .returned (rdV s (.slice q (vs.take 18).length c)) ∧ w'.ownsRow W.heap.size 27 1 (.slice q (vs.take 18).length c) (vs.take 18).length ((vs.take 18).map (Value.int .u64))) ∧ Below W.heap.size W w' := by
  obtain ⟨a, f, m, ph, b, t0⟩ := s
  obtain ⟨p0, n0, c0, rfl, hn0, hp0⟩ := hv
  have HCW : ∀ W' : World, Below W.heap.size W W' → Calls Try.prog 11 #[.slice p0 (min n0 18) c0] W' fun e w' => OwnsSl W'.heap.size 27 (min n0 18) ((vs.take 18).map (Value.int .u64)) e w' ∧ Below W'.heap.size W' w' := fun W' hb => by
    have := cloneW _ _ _ W' (vals_takeN 18 hn0 hp0 hb) (fun u hu => by obtain ⟨x, _, rfl⟩ := List.mem_map.1 (List.mem_of_mem_take hu); rfl) (by omega)
    rw [← List.map_take] at this
    exact this.mono fun _ _ h => ⟨h.1.sl, h.2⟩
  rw [List.length_map] at hn0
  have hl0 : (vs.take 18).length = min n0 18 := by rw [List.length_take, hn0]; omega
  rw [hl0]
  have hnc0 : n0 ≤ c0 := by rcases hp0 with ⟨_, b, c⟩ | ⟨_, _, b, _⟩ <;> omega
  obtain ⟨k, hk0⟩ : ∃ k, k = min n0 18 := ⟨_, rfl⟩
  rw [← hk0] at HCW ⊢
  have hs0 : ∀ wx, (Instr.slice 24 (.slice p0 n0 c0) none (some (.int .i64 (k : Int))) none).run Try.prog wx = .ok (.slice p0 k c0) wx := run_cut16 Try.underlying24 (fun wx => by go_simp) p0 n0 c0 k (by omega)
  have hm0 : ∀ wx, (Builtin.min_ #[3, 3] 3 #[.int .i64 (n0 : Int), .int .i64 18]).run Try.prog wx = .ok (.int .i64 (k : Int)) wx := fun wx => by
    have : (if (18 : Int) < (n0 : Int) then (18 : Int) else n0) = (k : Int) := by rw [hk0]; split <;> omega
    simp [Builtin.min_, Builtin.min2, this]
  have hw0 : n0 ≤ 9223372036854775807 := by omega
  have HCX := Lib.hid HCW
  clear hp0 hk0 hn0 hnc0 hvl HCW hl0
  obtain ⟨w1, hw1⟩ : ∃ X : World, X = W.alloc (.cells #[.int .i64 a, .int .i64 f, .int .i64 m, .int .i64 ph, .int .u64 b, .slice p0 n0 c0, .int .i64 t0] 29) := ⟨_, rfl⟩
  obtain ⟨w2, hw2⟩ : ∃ X : World, X = w1.alloc (.cells #[.int .i64 0, .int .i64 0, .int .i64 0, .int .i64 0, .int .u64 0, .slice none 0 0, .int .i64 0] 29) := ⟨_, rfl⟩
  have hs1 : w1.heap.size = W.heap.size + 1 := by rw [hw1, World.size_alloc]
  have hb1 : Below W.heap.size W w1 := by rw [hw1]; exact below1 _ _
  have hb2 : Below w1.heap.size w1 w2 := by rw [hw2]; exact below1 _ _
  have HY2 := Lib.hid (RdBox.below (show RdBox w1 W.heap.size ⟨a, f, m, ph, b, t0⟩ (.slice p0 n0 c0) by rw [hw1]; exact World.alloc_heap_new _ _) hb2)
  have HZ2 := Lib.hid (show RdBox w2 (W.heap.size + 1) ⟨0, 0, 0, 0, 0, 0⟩ (.slice none 0 0) by rw [hw2, ← hs1]; exact World.alloc_heap_new _ _)
  have HB2 := Lib.hid (below_then hb1 hb1.size hb2)
  have HW := Lib.hid (And.intro hw1 hw2)
  clear hs1 hb1 hb2 hw1 hw2
  unfold rdV
  dsimp only
  go_enter Try.func19, Try.ntmps19
  go_upto_region 1 with fail
  rw [← HW.out.1, ← HW.out.2]
  clear HW
  obtain ⟨c0', c1', c2', c3', c4', c5', c6'⟩ := HY2.out.cells
  dsimp only at c0' c1' c2' c3' c4' c6'
  go_wp2_with fail
  refine (HCX.out w2 HB2.out).mono ?_
  rintro e w3 ⟨⟨p3, c3, rfl, ho⟩, hb3⟩
  clear c0' c1' c2' c3' c4' c5' c6'
  have HY3 := HY2.out.below hb3
  have HZ3 := HZ2.out.below hb3
  have HB3 := below_then HB2.out HB2.out.size hb3
  have HL2 := HZ2.out.lt
  obtain ⟨w4, hw4⟩ : ∃ X : World, X = w3.setCell ⟨W.heap.size, 5, none⟩ (.slice p3 k c3) := ⟨_, rfl⟩
  have hk4 : Keeps (fun k => k = W.heap.size) w3 w4 := by rw [hw4]; exact Keeps.setCell w3 (S := (· = W.heap.size)) (p := ⟨W.heap.size, 5, none⟩) rfl _
  have HY4 := Lib.hid (show RdBox w4 W.heap.size ⟨a, f, m, ph, b, t0⟩ (.slice p3 k c3) by rw [hw4]; exact HY3.setV _)
  have HZ4 := Lib.hid (show RdBox w4 (W.heap.size + 1) ⟨0, 0, 0, 0, 0, 0⟩ (.slice none 0 0) from (hk4.block (W.heap.size + 1) HZ3.lt (by omega)).trans HZ3)
  have HG := Lib.hid (show ∀ g, (Value.slice p3 k c3).ownBlock = some g → g ≠ W.heap.size ∧ g ≠ W.heap.size + 1 from fun g hg => by have := (ho.lt g hg).1; omega)
  have HO4 := Lib.hid ((hk4.row ho (fun g hg => (HG.out g hg).1)).mono HB2.out.size)
  have HB4 := Lib.hid (HB3.trans (hk4.below HB3.size (fun q hq => by omega)))
  obtain ⟨c0', c1', c2', c3', c4', c5', c6'⟩ := HY3.cells
  have m5 := HY3.marks 5
  dsimp only at c0' c1' c2' c3' c4' c6'
  have HW4 := Lib.hid hw4
  clear hk4 HZ3 ho HB3 HY3 hw4 HL2 hb3 HY2 HZ2 HB2 HCX
  go_upto_region 2 with fail
  rw [← HW4.out]
  clear c0' c1' c2' c3' c4' c5' c6' m5 HW4
  obtain ⟨c0', c1', c2', c3', c4', c5', c6'⟩ := HY4.out.cells
  obtain ⟨d0, d1, d2, d3, d4, d5, d6⟩ := HZ4.out.cells
  have m0 := HZ4.out.marks 0
  have m1 := HZ4.out.marks 1
  have m2 := HZ4.out.marks 2
  have m3 := HZ4.out.marks 3
  have m4 := HZ4.out.marks 4
  have m5 := HZ4.out.marks 5
  have m6 := HZ4.out.marks 6
  dsimp only at c0' c1' c2' c3' c4' c6' d0 d1 d2 d3 d4 d6
  have HP := Lib.hid (HZ4.out.put ⟨a, f, m, ph, b, t0⟩ (.slice p3 k c3))
  have HPK := Lib.hid (RdBox.putK w4 (W.heap.size + 1) ⟨a, f, m, ph, b, t0⟩ (.slice p3 k c3))
  dsimp only at HP HPK
  go_wp2
  clear c0' c1' c2' c3' c4' c5' c6' d0 d1 d2 d3 d4 d5 d6 m0 m1 m2 m3 m4 m5 m6
  revert HP HPK
  generalize World.setCell _ ⟨W.heap.size + 1, 6, none⟩ _ = w5
  intro HP HPK
  obtain ⟨e0, e1, e2, e3, e4, e5, e6⟩ := HP.out.cells
  exact bodyPost_ret (v := rdV ⟨a, f, m, ph, b, t0⟩ (.slice p3 k c3)) (by simp [results, Try.results19, go_sem, e0, e1, e2, e3, e4, e5, e6, rdV]) rfl ⟨⟨p3, c3, rfl, HPK.out.row HO4.out (fun g hg => (HG.out g hg).2)⟩, HB4.out.trans (HPK.out.below HB4.out.size (fun k e => by omega))⟩

end Go.Proofs.Ytaljpggajpoalaa
/-
  StepWrite, of package seq, where the memory, or the write, may not be; ownWrite of the statements.
  Conditions: the ranges of Go's types.
-/
namespace Go.Proofs.Ytaljpggajpoalaa
open Go.RowKit Go.Shelf
attribute [local go_sem] Oper.semAt_some

set_option maxRecDepth 100000 in
set_option maxHeartbeats 8000000 in
theorem swrite_bad (mv : Value) (us : List Int) (ms : List Bool) (u : Bool) (s : WrM) (rq : Option Addr) (n rc : Nat) (W : World) (hM : MemAt W mv us ms u) (hw : us.length ≤ 9223372036854775807) (hr : rightB us ms = false) :
    Calls Try.prog 29 #[mv, wrV s (.slice rq n rc)] W fun e w' => e = .returned (.tuple #[memZ, wrV ⟨0, 0, 0, 0, 0⟩ (.slice none 0 0), .int .i64 120]) ∧ Below W.heap.size W w' := by
  have HM := Lib.hid hM
  obtain ⟨vw, vl, rfl, ⟨pw, cw0, rfl, hcw⟩, pl, cl0, rfl, hcl⟩ := hM
  clear hcw hcl
  have HAN := Lib.hid (fun (Z : World) (hb : Below W.heap.size W Z) => anew_bad _ us ms u Z (HM.out.below hb) hw hr)
  obtain ⟨a, f, ph, b, t0⟩ := s
  obtain ⟨w0, hw0⟩ : ∃ X : World, X = (((W.alloc (.cells #[.slice pw us.length cw0, .slice pl ms.length cl0, .bool u] 44)).alloc (.cells #[.int .i64 a, .int .i64 f, .slice rq n rc, .int .i64 ph, .int .u64 b, .int .i64 t0] 34)).alloc (.cells #[.slice none 0 0, .slice none 0 0, .bool false] 44)).alloc (.cells #[.int .i64 0, .int .i64 0, .slice none 0 0, .int .i64 0, .int .u64 0, .int .i64 0] 34) := ⟨_, rfl⟩
  unfold wrV at *
  dsimp only at *
  have HB0 := Lib.hid (show Below W.heap.size W w0 by rw [hw0]; exact ((((Below.refl _ _).alloc (Nat.le_refl _) _).alloc (by simp) _).alloc (by simp; omega) _).alloc (by simp; omega) _)
  have e1 := World.alloc_heap_new W (.cells #[.slice pw us.length cw0, .slice pl ms.length cl0, .bool u] 44)
  have e2 := World.alloc_heap_new (W.alloc (.cells #[.slice pw us.length cw0, .slice pl ms.length cl0, .bool u] 44)) (.cells #[.int .i64 a, .int .i64 f, .slice rq n rc, .int .i64 ph, .int .u64 b, .int .i64 t0] 34)
  have e3 := World.alloc_heap_new ((W.alloc (.cells #[.slice pw us.length cw0, .slice pl ms.length cl0, .bool u] 44)).alloc (.cells #[.int .i64 a, .int .i64 f, .slice rq n rc, .int .i64 ph, .int .u64 b, .int .i64 t0] 34)) (.cells #[.slice none 0 0, .slice none 0 0, .bool false] 44)
  have e4 := World.alloc_heap_new (((W.alloc (.cells #[.slice pw us.length cw0, .slice pl ms.length cl0, .bool u] 44)).alloc (.cells #[.int .i64 a, .int .i64 f, .slice rq n rc, .int .i64 ph, .int .u64 b, .int .i64 t0] 34)).alloc (.cells #[.slice none 0 0, .slice none 0 0, .bool false] 44)) (.cells #[.int .i64 0, .int .i64 0, .slice none 0 0, .int .i64 0, .int .u64 0, .int .i64 0] 34)
  simp only [World.size_alloc] at e2 e3 e4
  have HZ0 := Lib.hid (show MBox w0 W.heap.size (.slice pw us.length cw0) (.slice pl ms.length cl0) u by rw [hw0]; exact (((MBox.new W _ _ u).alloc _).alloc _).alloc _)
  have HR0 := Lib.hid (show WrBox w0 (W.heap.size + 1) ⟨a, f, ph, b, t0⟩ (.slice rq n rc) by
    have h : WrBox _ (W.heap.size + 1) ⟨a, f, ph, b, t0⟩ (.slice rq n rc) := e2
    rw [hw0]
    exact (h.below (below1 _ _)).below (below1 _ _))
  have HY0 := Lib.hid (show MBox w0 (W.heap.size + 2) (.slice none 0 0) (.slice none 0 0) false by
    have h : MBox _ (W.heap.size + 2) (.slice none 0 0) (.slice none 0 0) false := e3
    rw [hw0]; exact h.alloc _)
  have HT0 := Lib.hid (show WrBox w0 (W.heap.size + 3) ⟨0, 0, 0, 0, 0⟩ (.slice none 0 0) by rw [hw0]; exact e4)
  have HW0 := Lib.hid hw0
  clear hr hw hw0 HM e1 e2 e3 e4
  go_enter Try.func29, Try.ntmps29
  go_wp2_with fail
  rw [← HW0.out]
  clear HW0
  refine (HAN.out _ HB0.out).mono ?_
  rintro e w1 ⟨rfl, hb1⟩
  unfold memZ
  have HZ1 := Lib.hid (HZ0.out.below hb1)
  have HY1 := Lib.hid (HY0.out.below hb1)
  have HT1 := Lib.hid (HT0.out.below hb1)
  have HB1 := Lib.hid (below_then HB0.out HB0.out.size hb1)
  clear hb1 HAN HZ0 HR0 HY0 HT0 HB0
  obtain ⟨⟨hd0, hd1, hd2⟩, he0, he1, he2⟩ := mbox_cells HZ1.out
  obtain ⟨w2, hw2⟩ : ∃ X : World, X = ((w1.setCell ⟨W.heap.size, 0, none⟩ (.slice none 0 0)).setCell ⟨W.heap.size, 1, none⟩ (.slice none 0 0)).setCell ⟨W.heap.size, 2, none⟩ (.bool false) := ⟨_, rfl⟩
  have hk2 : Keeps (fun k => k = W.heap.size) w1 w2 := by
    rw [hw2]
    exact ((Keeps.setCell w1 (S := (· = W.heap.size)) (p := ⟨W.heap.size, 0, none⟩) rfl _).trans (Keeps.setCell _ (S := (· = W.heap.size)) (p := ⟨W.heap.size, 1, none⟩) rfl _)).trans (Keeps.setCell _ (S := (· = W.heap.size)) (p := ⟨W.heap.size, 2, none⟩) rfl _)
  have HY2 := Lib.hid (HY1.out.keeps hk2 (by omega))
  have HT2 := Lib.hid (show WrBox w2 (W.heap.size + 3) ⟨0, 0, 0, 0, 0⟩ (.slice none 0 0) from (hk2.block (W.heap.size + 3) HT1.out.lt (by omega)).trans HT1.out)
  have HB2 := Lib.hid (HB1.out.trans (hk2.below HB1.out.size (fun k e => by omega)))
  have HW2 := Lib.hid hw2
  clear hw2 hk2 HZ1 HY1 HT1 HB1
  go_upto_region 2 with fail
  rw [← HW2.out]
  clear hd0 hd1 hd2 he0 he1 he2 HW2
  obtain ⟨wA, hwA⟩ : ∃ X : World, X = ((w2.setCell ⟨W.heap.size + 2, 0, none⟩ (.slice none 0 0)).setCell ⟨W.heap.size + 2, 1, none⟩ (.slice none 0 0)).setCell ⟨W.heap.size + 2, 2, none⟩ (.bool false) := ⟨_, rfl⟩
  have hA : MBox wA (W.heap.size + 2) (.slice none 0 0) (.slice none 0 0) false := by rw [hwA]; exact HY2.out.set _ _ _
  have hAK : Keeps (fun k => k = W.heap.size + 2) w2 wA := by
    rw [hwA]
    exact ((Keeps.setCell w2 (S := (· = W.heap.size + 2)) (p := ⟨W.heap.size + 2, 0, none⟩) rfl _).trans (Keeps.setCell _ (S := (· = W.heap.size + 2)) (p := ⟨W.heap.size + 2, 1, none⟩) rfl _)).trans (Keeps.setCell _ (S := (· = W.heap.size + 2)) (p := ⟨W.heap.size + 2, 2, none⟩) rfl _)
  have hr10 : WrBox wA (W.heap.size + 3) ⟨0, 0, 0, 0, 0⟩ (.slice none 0 0) := (hAK.block (W.heap.size + 3) HT2.out.lt (by omega)).trans HT2.out
  have hP := hr10.put ⟨0, 0, 0, 0, 0⟩ (.slice none 0 0)
  have hPK := WrBox.putK wA (W.heap.size + 3) ⟨0, 0, 0, 0, 0⟩ (.slice none 0 0)
  obtain ⟨⟨y0, y1, y2⟩, y3, y4, y5⟩ := mbox_cells HY2.out
  obtain ⟨x0, x1, x2, x3, x4, x5⟩ := HT2.out.cells
  have v0 := HT2.out.marks 0
  have v1 := HT2.out.marks 1
  have v2 := HT2.out.marks 2
  have v3 := HT2.out.marks 3
  have v4 := HT2.out.marks 4
  have v5 := HT2.out.marks 5
  dsimp only at x0 x1 x3 x4 x5 hP hPK
  have HP := Lib.hid hP
  have HPK := Lib.hid hPK
  have HAK := Lib.hid hAK
  have HA := Lib.hid hA
  have HWA := Lib.hid hwA
  clear hP hPK hAK hA hr10 hwA
  rw [show W.heap.size + 1 + 1 + 1 = W.heap.size + 3 from rfl, show W.heap.size + 1 + 1 = W.heap.size + 2 from rfl]
  go_wp2
  rw [← HWA.out]
  clear y0 y1 y2 y3 y4 y5 x0 x1 x2 x3 x4 x5 v0 v1 v2 v3 v4 v5 HWA
  revert HP HPK
  generalize World.setCell _ ⟨W.heap.size + 3, 5, none⟩ _ = wB
  intro HP HPK
  have hAB : MBox wB (W.heap.size + 2) (.slice none 0 0) (.slice none 0 0) false := HA.out.keeps HPK.out (by omega)
  obtain ⟨⟨y0, y1, y2⟩, -, -, -⟩ := mbox_cells hAB
  obtain ⟨x0, x1, x2, x3, x4, x5⟩ := HP.out.cells
  exact bodyPost_ret (v := .tuple #[memZ, wrV ⟨0, 0, 0, 0, 0⟩ (.slice none 0 0), .int .i64 120]) (by simp [results, Try.results29, go_sem, y0, y1, y2, x0, x1, x2, x3, x4, x5, wrV, memZ]) rfl ⟨rfl, HB2.out.trans ((HAK.out.below HB2.out.size (fun k e => by omega)).trans (HPK.out.below (Nat.le_trans HB2.out.size HAK.out.size) (fun k e => by omega)))⟩

set_option maxRecDepth 100000 in
set_option maxHeartbeats 8000000 in
theorem swrite_no (mv : Value) (us : List Int) (ms : List Bool) (u : Bool) (s : WrM) (rq : Option Addr) (n rc : Nat) (W : World) (hM : MemAt W mv us ms u) (hr : rightB us ms = true) (hR : rightWB s n = false) (hsb : 0 ≤ s.b ∧ s.b ≤ 18446744073709551615) :
    Calls Try.prog 29 #[mv, wrV s (.slice rq n rc)] W fun e w' => e = .returned (.tuple #[memZ, wrV ⟨0, 0, 0, 0, 0⟩ (.slice none 0 0), .int .i64 160]) ∧ Below W.heap.size W w' := by
  have HM := Lib.hid hM
  obtain ⟨vw, vl, rfl, ⟨pw, cw0, rfl, hcw⟩, pl, cl0, rfl, hcl⟩ := hM
  clear hcw hcl
  have HAN := Lib.hid (fun (Z : World) (hb : Below W.heap.size W Z) => anew_yes _ us ms u Z (HM.out.below hb) hr)
  have HCP := Lib.hid (fun (Z : World) => checkWrite_c s rq n rc hsb Z)
  rw [hR, if_neg (by decide)] at HCP
  obtain ⟨a, f, ph, b, t0⟩ := s
  obtain ⟨w0, hw0⟩ : ∃ X : World, X = (((W.alloc (.cells #[.slice pw us.length cw0, .slice pl ms.length cl0, .bool u] 44)).alloc (.cells #[.int .i64 a, .int .i64 f, .slice rq n rc, .int .i64 ph, .int .u64 b, .int .i64 t0] 34)).alloc (.cells #[.slice none 0 0, .slice none 0 0, .bool false] 44)).alloc (.cells #[.int .i64 0, .int .i64 0, .slice none 0 0, .int .i64 0, .int .u64 0, .int .i64 0] 34) := ⟨_, rfl⟩
  unfold wrV at *
  dsimp only at *
  have HB0 := Lib.hid (show Below W.heap.size W w0 by rw [hw0]; exact ((((Below.refl _ _).alloc (Nat.le_refl _) _).alloc (by simp) _).alloc (by simp; omega) _).alloc (by simp; omega) _)
  have e1 := World.alloc_heap_new W (.cells #[.slice pw us.length cw0, .slice pl ms.length cl0, .bool u] 44)
  have e2 := World.alloc_heap_new (W.alloc (.cells #[.slice pw us.length cw0, .slice pl ms.length cl0, .bool u] 44)) (.cells #[.int .i64 a, .int .i64 f, .slice rq n rc, .int .i64 ph, .int .u64 b, .int .i64 t0] 34)
  have e3 := World.alloc_heap_new ((W.alloc (.cells #[.slice pw us.length cw0, .slice pl ms.length cl0, .bool u] 44)).alloc (.cells #[.int .i64 a, .int .i64 f, .slice rq n rc, .int .i64 ph, .int .u64 b, .int .i64 t0] 34)) (.cells #[.slice none 0 0, .slice none 0 0, .bool false] 44)
  have e4 := World.alloc_heap_new (((W.alloc (.cells #[.slice pw us.length cw0, .slice pl ms.length cl0, .bool u] 44)).alloc (.cells #[.int .i64 a, .int .i64 f, .slice rq n rc, .int .i64 ph, .int .u64 b, .int .i64 t0] 34)).alloc (.cells #[.slice none 0 0, .slice none 0 0, .bool false] 44)) (.cells #[.int .i64 0, .int .i64 0, .slice none 0 0, .int .i64 0, .int .u64 0, .int .i64 0] 34)
  simp only [World.size_alloc] at e2 e3 e4
  have HZ0 := Lib.hid (show MBox w0 W.heap.size (.slice pw us.length cw0) (.slice pl ms.length cl0) u by rw [hw0]; exact (((MBox.new W _ _ u).alloc _).alloc _).alloc _)
  have HR0 := Lib.hid (show WrBox w0 (W.heap.size + 1) ⟨a, f, ph, b, t0⟩ (.slice rq n rc) by
    have h : WrBox _ (W.heap.size + 1) ⟨a, f, ph, b, t0⟩ (.slice rq n rc) := e2
    rw [hw0]
    exact (h.below (below1 _ _)).below (below1 _ _))
  have HY0 := Lib.hid (show MBox w0 (W.heap.size + 2) (.slice none 0 0) (.slice none 0 0) false by
    have h : MBox _ (W.heap.size + 2) (.slice none 0 0) (.slice none 0 0) false := e3
    rw [hw0]; exact h.alloc _)
  have HT0 := Lib.hid (show WrBox w0 (W.heap.size + 3) ⟨0, 0, 0, 0, 0⟩ (.slice none 0 0) by rw [hw0]; exact e4)
  have HW0 := Lib.hid hw0
  clear hr hR hsb hw0 HM e1 e2 e3 e4
  go_enter Try.func29, Try.ntmps29
  go_wp2_with fail
  rw [← HW0.out]
  clear HW0
  refine (HAN.out _ HB0.out).mono ?_
  rintro e w1 ⟨⟨gw, cw, gl, cl, rfl, how, hol⟩, hb1⟩
  have HZ1 := Lib.hid (HZ0.out.below hb1)
  have HR1 := Lib.hid (HR0.out.below hb1)
  have HY1 := Lib.hid (HY0.out.below hb1)
  have HT1 := Lib.hid (HT0.out.below hb1)
  have HB1 := Lib.hid (below_then HB0.out HB0.out.size hb1)
  have HOW := Lib.hid (how.mono HB0.out.size)
  have HOL := Lib.hid (hol.mono HB0.out.size)
  have hgwl := (row_lt how).2
  have hs0 : W.heap.size + 3 < w0.heap.size := HT0.out.lt
  clear hb1 HAN HZ0 HR0 HY0 HT0 HB0 how hol
  obtain ⟨⟨hd0, hd1, hd2⟩, he0, he1, he2⟩ := mbox_cells HZ1.out
  obtain ⟨w2, hw2⟩ : ∃ X : World, X = ((w1.setCell ⟨W.heap.size, 0, none⟩ (.slice (some ⟨gw, 0, none⟩) us.length cw)).setCell ⟨W.heap.size, 1, none⟩ (.slice (some ⟨gl, 0, none⟩) ms.length cl)).setCell ⟨W.heap.size, 2, none⟩ (.bool u) := ⟨_, rfl⟩
  have hk2 : Keeps (fun k => k = W.heap.size) w1 w2 := by
    rw [hw2]
    exact ((Keeps.setCell w1 (S := (· = W.heap.size)) (p := ⟨W.heap.size, 0, none⟩) rfl _).trans (Keeps.setCell _ (S := (· = W.heap.size)) (p := ⟨W.heap.size, 1, none⟩) rfl _)).trans (Keeps.setCell _ (S := (· = W.heap.size)) (p := ⟨W.heap.size, 2, none⟩) rfl _)
  have HZ2 := Lib.hid (show MBox w2 W.heap.size (.slice (some ⟨gw, 0, none⟩) us.length cw) (.slice (some ⟨gl, 0, none⟩) ms.length cl) u by rw [hw2]; exact HZ1.out.set _ _ _)
  have HR2 := Lib.hid (show WrBox w2 (W.heap.size + 1) ⟨a, f, ph, b, t0⟩ (.slice rq n rc) from (hk2.block (W.heap.size + 1) HR1.out.lt (by omega)).trans HR1.out)
  have HY2 := Lib.hid (HY1.out.keeps hk2 (by omega))
  have HT2 := Lib.hid (show WrBox w2 (W.heap.size + 3) ⟨0, 0, 0, 0, 0⟩ (.slice none 0 0) from (hk2.block (W.heap.size + 3) HT1.out.lt (by omega)).trans HT1.out)
  have HB2 := Lib.hid (HB1.out.trans (hk2.below HB1.out.size (fun k e => by omega)))
  have HOW2 := Lib.hid (hk2.row HOW.out (fun g hg e => HZ1.out.row HOW.out (by decide) hg e.symm))
  have HOL2 := Lib.hid (hk2.row HOL.out (fun g hg e => HZ1.out.row HOL.out (by decide) hg e.symm))
  have HG := Lib.hid (show W.heap.size + 3 < gw by omega)
  have HW2 := Lib.hid hw2
  clear hw2 hk2 HZ1 HR1 HY1 HT1 HB1 HOW HOL hgwl hs0
  go_upto_region 2 with fail
  rw [← HW2.out]
  clear hd0 hd1 hd2 he0 he1 he2 HW2
  obtain ⟨r0, r1, r2, r3, r4, r5⟩ := HR2.out.cells
  dsimp only at r0 r1 r3 r4 r5
  go_wp2_with fail
  refine (HCP.out w2).mono ?_
  rintro e w3 ⟨rfl, hb3⟩
  have HY3 := Lib.hid (HY2.out.below hb3)
  have HT3 := Lib.hid (HT2.out.below hb3)
  have HB3 := Lib.hid (below_then HB2.out HB2.out.size hb3)
  clear hb3 HCP HZ2 HR2 HY2 HT2 HB2 HOW2 HOL2 r0 r1 r2 r3 r4 r5 HG
  obtain ⟨wA, hwA⟩ : ∃ X : World, X = ((w3.setCell ⟨W.heap.size + 2, 0, none⟩ (.slice none 0 0)).setCell ⟨W.heap.size + 2, 1, none⟩ (.slice none 0 0)).setCell ⟨W.heap.size + 2, 2, none⟩ (.bool false) := ⟨_, rfl⟩
  have hA : MBox wA (W.heap.size + 2) (.slice none 0 0) (.slice none 0 0) false := by rw [hwA]; exact HY3.out.set _ _ _
  have hAK : Keeps (fun k => k = W.heap.size + 2) w3 wA := by
    rw [hwA]
    exact ((Keeps.setCell w3 (S := (· = W.heap.size + 2)) (p := ⟨W.heap.size + 2, 0, none⟩) rfl _).trans (Keeps.setCell _ (S := (· = W.heap.size + 2)) (p := ⟨W.heap.size + 2, 1, none⟩) rfl _)).trans (Keeps.setCell _ (S := (· = W.heap.size + 2)) (p := ⟨W.heap.size + 2, 2, none⟩) rfl _)
  have hr10 : WrBox wA (W.heap.size + 3) ⟨0, 0, 0, 0, 0⟩ (.slice none 0 0) := (hAK.block (W.heap.size + 3) HT3.out.lt (by omega)).trans HT3.out
  have hP := hr10.put ⟨0, 0, 0, 0, 0⟩ (.slice none 0 0)
  have hPK := WrBox.putK wA (W.heap.size + 3) ⟨0, 0, 0, 0, 0⟩ (.slice none 0 0)
  obtain ⟨⟨y0, y1, y2⟩, y3, y4, y5⟩ := mbox_cells HY3.out
  obtain ⟨x0, x1, x2, x3, x4, x5⟩ := HT3.out.cells
  have v0 := HT3.out.marks 0
  have v1 := HT3.out.marks 1
  have v2 := HT3.out.marks 2
  have v3 := HT3.out.marks 3
  have v4 := HT3.out.marks 4
  have v5 := HT3.out.marks 5
  dsimp only at x0 x1 x3 x4 x5 hP hPK
  have HP := Lib.hid hP
  have HPK := Lib.hid hPK
  have HAK := Lib.hid hAK
  have HA := Lib.hid hA
  have HWA := Lib.hid hwA
  clear hP hPK hAK hA hr10 hwA
  rw [show W.heap.size + 1 + 1 + 1 = W.heap.size + 3 from rfl, show W.heap.size + 1 + 1 = W.heap.size + 2 from rfl]
  go_wp2
  rw [← HWA.out]
  clear y0 y1 y2 y3 y4 y5 x0 x1 x2 x3 x4 x5 v0 v1 v2 v3 v4 v5 HWA
  revert HP HPK
  generalize World.setCell _ ⟨W.heap.size + 3, 5, none⟩ _ = wB
  intro HP HPK
  have hAB : MBox wB (W.heap.size + 2) (.slice none 0 0) (.slice none 0 0) false := HA.out.keeps HPK.out (by omega)
  obtain ⟨⟨y0, y1, y2⟩, -, -, -⟩ := mbox_cells hAB
  obtain ⟨x0, x1, x2, x3, x4, x5⟩ := HP.out.cells
  exact bodyPost_ret (v := .tuple #[memZ, wrV ⟨0, 0, 0, 0, 0⟩ (.slice none 0 0), .int .i64 160]) (by simp [results, Try.results29, go_sem, y0, y1, y2, x0, x1, x2, x3, x4, x5, wrV, memZ]) rfl ⟨rfl, HB3.out.trans ((HAK.out.below HB3.out.size (fun k e => by omega)).trans (HPK.out.below (Nat.le_trans HB3.out.size HAK.out.size) (fun k e => by omega)))⟩

set_option maxRecDepth 100000 in
set_option maxHeartbeats 8000000 in
theorem ownWrite_c (s : WrM) (v : Value) (vs : List Int) (W : World) (hv : ArgR W v (vs.map (Value.int .u64))) (hvl : vs.length ≤ 9223372036854775807) :
    Calls Try.prog 26 #[wrV s v] W fun e w' => (∃ q c, e = .returned (wrV s (.slice q (vs.take 18).length c)) ∧ w'.ownsRow W.heap.size 27 1 (.slice q (vs.take 18).length c) (vs.take 18).length ((vs.take 18).map (Value.int .u64))) ∧ Below W.heap.size W w' := by
  obtain ⟨a, f, ph, b, t0⟩ := s
  obtain ⟨p0, n0, c0, rfl, hn0, hp0⟩ := hv
  have HCW : ∀ W' : World, Below W.heap.size W W' → Calls Try.prog 11 #[.slice p0 (min n0 18) c0] W' fun e w' => OwnsSl W'.heap.size 27 (min n0 18) ((vs.take 18).map (Value.int .u64)) e w' ∧ Below W'.heap.size W' w' := fun W' hb => by
    have := cloneW _ _ _ W' (vals_takeN 18 hn0 hp0 hb) (fun u hu => by obtain ⟨x, _, rfl⟩ := List.mem_map.1 (List.mem_of_mem_take hu); rfl) (by omega)
    rw [← List.map_take] at this
    exact this.mono fun _ _ h => ⟨h.1.sl, h.2⟩
  rw [List.length_map] at hn0
  have hl0 : (vs.take 18).length = min n0 18 := by rw [List.length_take, hn0]; omega
  rw [hl0]
  have hnc0 : n0 ≤ c0 := by rcases hp0 with ⟨_, b, c⟩ | ⟨_, _, b, _⟩ <;> omega
  obtain ⟨k, hk0⟩ : ∃ k, k = min n0 18 := ⟨_, rfl⟩
  rw [← hk0] at HCW ⊢
  have hs0 : ∀ wx, (Instr.slice 24 (.slice p0 n0 c0) none (some (.int .i64 (k : Int))) none).run Try.prog wx = .ok (.slice p0 k c0) wx := run_cut16 Try.underlying24 (fun wx => by go_simp) p0 n0 c0 k (by omega)
  have hm0 : ∀ wx, (Builtin.min_ #[3, 3] 3 #[.int .i64 (n0 : Int), .int .i64 18]).run Try.prog wx = .ok (.int .i64 (k : Int)) wx := fun wx => by
    have : (if (18 : Int) < (n0 : Int) then (18 : Int) else n0) = (k : Int) := by rw [hk0]; split <;> omega
    simp [Builtin.min_, Builtin.min2, this]
  have hw0 : n0 ≤ 9223372036854775807 := by omega
  have HCX := Lib.hid HCW
  clear hp0 hk0 hn0 hnc0 hvl HCW hl0
  obtain ⟨w1, hw1⟩ : ∃ X : World, X = W.alloc (.cells #[.int .i64 a, .int .i64 f, .slice p0 n0 c0, .int .i64 ph, .int .u64 b, .int .i64 t0] 34) := ⟨_, rfl⟩
  obtain ⟨w2, hw2⟩ : ∃ X : World, X = w1.alloc (.cells #[.int .i64 0, .int .i64 0, .slice none 0 0, .int .i64 0, .int .u64 0, .int .i64 0] 34) := ⟨_, rfl⟩
  have hs1 : w1.heap.size = W.heap.size + 1 := by rw [hw1, World.size_alloc]
  have hb1 : Below W.heap.size W w1 := by rw [hw1]; exact below1 _ _
  have hb2 : Below w1.heap.size w1 w2 := by rw [hw2]; exact below1 _ _
  have HY2 := Lib.hid (WrBox.below (show WrBox w1 W.heap.size ⟨a, f, ph, b, t0⟩ (.slice p0 n0 c0) by rw [hw1]; exact World.alloc_heap_new _ _) hb2)
  have HZ2 := Lib.hid (show WrBox w2 (W.heap.size + 1) ⟨0, 0, 0, 0, 0⟩ (.slice none 0 0) by rw [hw2, ← hs1]; exact World.alloc_heap_new _ _)
  have HB2 := Lib.hid (below_then hb1 hb1.size hb2)
  have HW := Lib.hid (And.intro hw1 hw2)
  clear hs1 hb1 hb2 hw1 hw2
  unfold wrV
  dsimp only
  go_enter Try.func26, Try.ntmps26
  go_upto_region 1 with fail
  rw [← HW.out.1, ← HW.out.2]
  clear HW
  obtain ⟨c0', c1', c2', c3', c4', c5'⟩ := HY2.out.cells
  dsimp only at c0' c1' c3' c4' c5'
  go_wp2_with fail
  refine (HCX.out w2 HB2.out).mono ?_
  rintro e w3 ⟨⟨p3, c3, rfl, ho⟩, hb3⟩
  clear c0' c1' c2' c3' c4' c5'
  have HY3 := HY2.out.below hb3
  have HZ3 := HZ2.out.below hb3
  have HB3 := below_then HB2.out HB2.out.size hb3
  have HL2 := HZ2.out.lt
  obtain ⟨w4, hw4⟩ : ∃ X : World, X = w3.setCell ⟨W.heap.size, 2, none⟩ (.slice p3 k c3) := ⟨_, rfl⟩
  have hk4 : Keeps (fun k => k = W.heap.size) w3 w4 := by rw [hw4]; exact Keeps.setCell w3 (S := (· = W.heap.size)) (p := ⟨W.heap.size, 2, none⟩) rfl _
  have HY4 := Lib.hid (show WrBox w4 W.heap.size ⟨a, f, ph, b, t0⟩ (.slice p3 k c3) by rw [hw4]; exact HY3.setV _)
  have HZ4 := Lib.hid (show WrBox w4 (W.heap.size + 1) ⟨0, 0, 0, 0, 0⟩ (.slice none 0 0) from (hk4.block (W.heap.size + 1) HZ3.lt (by omega)).trans HZ3)
  have HG := Lib.hid (show ∀ g, (Value.slice p3 k c3).ownBlock = some g → g ≠ W.heap.size ∧ g ≠ W.heap.size + 1 from fun g hg => by have := (ho.lt g hg).1; omega)
  have HO4 := Lib.hid ((hk4.row ho (fun g hg => (HG.out g hg).1)).mono HB2.out.size)
  have HB4 := Lib.hid (HB3.trans (hk4.below HB3.size (fun q hq => by omega)))
  obtain ⟨c0', c1', c2', c3', c4', c5'⟩ := HY3.cells
  have m5 := HY3.marks 2
  dsimp only at c0' c1' c3' c4' c5'
  have HW4 := Lib.hid hw4
  clear hk4 HZ3 ho HB3 HY3 hw4 HL2 hb3 HY2 HZ2 HB2 HCX
  go_upto_region 2 with fail
  rw [← HW4.out]
  clear c0' c1' c2' c3' c4' c5' m5 HW4
  obtain ⟨c0', c1', c2', c3', c4', c5'⟩ := HY4.out.cells
  obtain ⟨d0, d1, d2, d3, d4, d5⟩ := HZ4.out.cells
  have m0 := HZ4.out.marks 0
  have m1 := HZ4.out.marks 1
  have m2 := HZ4.out.marks 2
  have m3 := HZ4.out.marks 3
  have m4 := HZ4.out.marks 4
  have m5 := HZ4.out.marks 5
  dsimp only at c0' c1' c3' c4' c5' d0 d1 d3 d4 d5
  have HP := Lib.hid (HZ4.out.put ⟨a, f, ph, b, t0⟩ (.slice p3 k c3))
  have HPK := Lib.hid (WrBox.putK w4 (W.heap.size + 1) ⟨a, f, ph, b, t0⟩ (.slice p3 k c3))
  dsimp only at HP HPK
  go_wp2
  clear c0' c1' c2' c3' c4' c5' d0 d1 d2 d3 d4 d5 m0 m1 m2 m3 m4 m5
  revert HP HPK
  generalize World.setCell _ ⟨W.heap.size + 1, 5, none⟩ _ = w5
  intro HP HPK
  obtain ⟨e0, e1, e2, e3, e4, e5⟩ := HP.out.cells
  exact bodyPost_ret (v := wrV ⟨a, f, ph, b, t0⟩ (.slice p3 k c3)) (by simp [results, Try.results26, go_sem, e0, e1, e2, e3, e4, e5, wrV]) rfl ⟨⟨p3, c3, rfl, HPK.out.row HO4.out (fun g hg => (HG.out g hg).2)⟩, HB4.out.trans (HPK.out.below HB4.out.size (fun k e => by omega))⟩

end Go.Proofs.Ytaljpggajpoalaa
namespace Go.Proofs.Ytaljpggajpoalaa
end Go.Proofs.Ytaljpggajpoalaa
