/-
  The regions of the first test of the statements of layer 14 that draw their order: region 2.
  Conditions: none.
-/
import Derived.Test.YtdllhiihmpinoaaGreatVB13
namespace Go.Proofs.YtdllhiihmpinoaaGreat
set_option maxRecDepth 100000
open Go.RowKit Go.Shelf
attribute [local go_sem] Oper.semAt_some

noncomputable def wkOps2 : Array Oper := (regOps 2 (Tryz.f7.body.getD .skip)).getD #[]
set_option maxHeartbeats 32000000 in
theorem wk_reg2 (b : Nat) (r : RcS) (p1 : Option Addr) (n1 c1 : Nat) (p2 : Option Addr) (n2 c2 : Nat) (p3 : Option Addr) (n3 c3 : Nat) (p4 : Option Addr) (n4 c4 : Nat) (x0 x2 x18 x19 x20 x21 : Value) (wA : World) (hA : WkA b r (.slice p1 n1 c1) (.slice p2 n2 c2) (.slice p3 n3 c3) (.slice p4 n4 c4) wA) (hr : RcR r) (r' : RcS) (ws : List Int) (hE : runAE r wkL2 = 0) (hR : opsR r wkL2 = r') (hW : opsW r wkL2 = ws) (ops : Array Oper) (hops : ops = wkOps2) (Q : Exit → Act → World → Prop) (hQp : ∀ c (a : Act) i v w, Q (.panic c) (a.put i v) w → Q (.panic c) a w) (hQ : ∀ (zr tb : Nat) (q1 : Option Addr) (m1 e1 : Nat) (q2 : Option Addr) (m2 e2 : Nat) (q3 : Option Addr) (m3 e3 : Nat) (q4 : Option Addr) (m4 e4 : Nat) (q5 : Option Addr) (m5 e5 : Nat) (X : World), WkF wA zr r' ws (.slice q1 m1 e1) (.slice q2 m2 e2) (.slice q3 m3 e3) (.slice q4 m4 e4) (.slice q5 m5 e5) X → Q .normal { tmps := List.toArray (x0 :: .pointer (some ⟨b, 0, none⟩) :: x2 :: .pointer (some ⟨zr, 0, none⟩) :: .slice q5 m5 e5 :: .int .i64 0 :: undef :: undef :: undef :: undef :: undef :: undef :: undef :: undef :: undef :: undef :: undef :: undef :: x18 :: x19 :: x20 :: x21 :: .tuple #[.agg #[.int .i64 r'.s.now, .slice q1 m1 e1, .slice q2 m2 e2, .int .i64 r'.g.done, .int .i64 r'.g.asked, .bool r'.g.on, .slice q3 m3 e3, .slice q4 m4 e4], .slice q5 m5 e5, .int .i64 0] :: .agg #[.int .i64 r.s.now, .slice p1 n1 c1, .slice p2 n2 c2, .int .i64 r.g.done, .int .i64 r.g.asked, .bool r.g.on, .slice p3 n3 c3, .slice p4 n4 c4] :: .agg #[.int .i64 3, .int .i64 0, .int .u64 7] :: .agg #[.int .i64 4, .int .i64 0, .int .u64 0] :: .agg #[.int .i64 4, .int .i64 0, .int .u64 0] :: .agg #[.int .i64 4, .int .i64 1, .int .u64 0] :: .agg #[.int .i64 5, .int .i64 0, .int .u64 0] :: .slice (some ⟨tb, 0, none⟩) 5 5 :: .tuple #[.agg #[.int .i64 r'.s.now, .slice q1 m1 e1, .slice q2 m2 e2, .int .i64 r'.g.done, .int .i64 r'.g.asked, .bool r'.g.on, .slice q3 m3 e3, .slice q4 m4 e4], .slice q5 m5 e5, .int .i64 0] :: .agg #[.int .i64 r'.s.now, .slice q1 m1 e1, .slice q2 m2 e2, .int .i64 r'.g.done, .int .i64 r'.g.asked, .bool r'.g.on, .slice q3 m3 e3, .slice q4 m4 e4] :: .slice q5 m5 e5 :: .int .i64 0 :: undef :: undef :: undef :: undef :: undef :: undef :: undef :: undef :: undef :: undef :: undef :: undef :: undef :: undef :: undef :: undef :: undef :: undef :: undef :: undef :: undef :: undef :: undef :: undef :: undef :: undef :: undef :: undef :: undef :: undef :: undef :: undef :: undef :: undef :: undef :: undef :: undef :: undef :: undef :: undef :: undef :: undef :: undef :: undef :: undef :: undef :: undef :: undef :: undef :: undef :: undef :: undef :: undef :: undef :: undef :: undef :: undef :: undef :: undef :: undef :: undef :: undef :: undef :: undef :: undef :: undef :: undef :: undef :: undef :: undef :: undef :: undef :: undef :: undef :: undef :: undef :: undef :: undef :: undef :: undef :: undef :: []), defers := [] } X) :
    (Code.region 2 ops true).wp Tryz.prog Q { tmps := List.toArray (x0 :: .pointer (some ⟨b, 0, none⟩) :: x2 :: undef :: undef :: undef :: undef :: undef :: undef :: undef :: undef :: undef :: undef :: undef :: undef :: undef :: undef :: undef :: x18 :: x19 :: x20 :: x21 :: undef :: undef :: undef :: undef :: undef :: undef :: undef :: undef :: undef :: undef :: undef :: undef :: undef :: undef :: undef :: undef :: undef :: undef :: undef :: undef :: undef :: undef :: undef :: undef :: undef :: undef :: undef :: undef :: undef :: undef :: undef :: undef :: undef :: undef :: undef :: undef :: undef :: undef :: undef :: undef :: undef :: undef :: undef :: undef :: undef :: undef :: undef :: undef :: undef :: undef :: undef :: undef :: undef :: undef :: undef :: undef :: undef :: undef :: undef :: undef :: undef :: undef :: undef :: undef :: undef :: undef :: undef :: undef :: undef :: undef :: undef :: undef :: undef :: undef :: undef :: undef :: undef :: undef :: undef :: undef :: undef :: undef :: undef :: undef :: undef :: undef :: undef :: undef :: undef :: undef :: undef :: undef :: undef :: []), defers := [] } wA := by
  have HPL : ∀ (Z : World) (_ : Below wA.heap.size wA Z) (tb : Nat) (_ : OpsOut U.NoS Z (.slice (some ⟨tb, 0, none⟩) 5 5) wkL2), Calls Tryz.prog 15 #[.agg #[.int .i64 r.s.now, .slice p1 n1 c1, .slice p2 n2 c2, .int .i64 r.g.done, .int .i64 r.g.asked, .bool r.g.on, .slice p3 n3 c3, .slice p4 n4 c4], .slice (some ⟨tb, 0, none⟩) 5 5] Z fun e w' => WkQ Z.heap.size r' ws e w' ∧ Below Z.heap.size Z w' := fun Z hZ tb ht => wk_run wkL2 hE hR hW hr (by decide) _ _ _ _ _ Z (hA.2.below hZ) ht
  simp only [wkOps2, Tryz.f7, Option.getD, regOps, reduceIte, Nat.reduceEqDiff] at hops
  have S_1_2_3_4_5_6_7_12 : ∀ (tb : Nat) (q1 : Option Addr) (m1 : Nat) (e1 : Nat) (q2 : Option Addr) (m2 : Nat) (e2 : Nat) (q3 : Option Addr) (m3 : Nat) (e3 : Nat) (q4 : Option Addr) (m4 : Nat) (e4 : Nat) (q5 : Option Addr) (m5 : Nat) (e5 : Nat) (b0 : Nat) (e0 : Nat) (zr : Nat) (X : World) (fB : Below wA.heap.size wA X) (fL : OpsOut U.NoS X (.slice (some ⟨tb, 0, none⟩) 5 5) wkL2) (fW : RcIn (fun k => k < b0 ∨ e0 ≤ k) X (.slice q1 m1 e1) (.slice q2 m2 e2) (.slice q3 m3 e3) (.slice q4 m4 e4) r' ∧ X.ownsRow 0 35 1 (.slice q5 m5 e5) ws.length (ws.map (Value.int .u64))) (fE : e0 ≤ X.heap.size) (fR : RcBox X zr 0 (.slice none 0 0) (.slice none 0 0) 0 0 false (.slice none 0 0) (.slice none 0 0)) (fRz : wA.heap.size ≤ zr) (fZ : zr < b0 ∨ e0 ≤ zr), wpTwo Tryz.prog .any ops Q (WkB b r (.slice p1 n1 c1) (.slice p2 n2 c2) (.slice p3 n3 c3) (.slice p4 n4 c4)) (fun _ => True) (fun _ => false) 3 #[true, true, true, true, true, true, true, true, true, true, true, true, true, false, false, false] { tmps := List.toArray (x0 :: .pointer (some ⟨b, 0, none⟩) :: x2 :: .pointer (some ⟨zr, 0, none⟩) :: undef :: undef :: undef :: undef :: undef :: undef :: undef :: undef :: undef :: undef :: undef :: undef :: undef :: undef :: x18 :: x19 :: x20 :: x21 :: .tuple #[.agg #[.int .i64 r'.s.now, .slice q1 m1 e1, .slice q2 m2 e2, .int .i64 r'.g.done, .int .i64 r'.g.asked, .bool r'.g.on, .slice q3 m3 e3, .slice q4 m4 e4], .slice q5 m5 e5, .int .i64 0] :: .agg #[.int .i64 r.s.now, .slice p1 n1 c1, .slice p2 n2 c2, .int .i64 r.g.done, .int .i64 r.g.asked, .bool r.g.on, .slice p3 n3 c3, .slice p4 n4 c4] :: .agg #[.int .i64 3, .int .i64 0, .int .u64 7] :: .agg #[.int .i64 4, .int .i64 0, .int .u64 0] :: .agg #[.int .i64 4, .int .i64 0, .int .u64 0] :: .agg #[.int .i64 4, .int .i64 1, .int .u64 0] :: .agg #[.int .i64 5, .int .i64 0, .int .u64 0] :: .slice (some ⟨tb, 0, none⟩) 5 5 :: .tuple #[.agg #[.int .i64 r'.s.now, .slice q1 m1 e1, .slice q2 m2 e2, .int .i64 r'.g.done, .int .i64 r'.g.asked, .bool r'.g.on, .slice q3 m3 e3, .slice q4 m4 e4], .slice q5 m5 e5, .int .i64 0] :: .agg #[.int .i64 r'.s.now, .slice q1 m1 e1, .slice q2 m2 e2, .int .i64 r'.g.done, .int .i64 r'.g.asked, .bool r'.g.on, .slice q3 m3 e3, .slice q4 m4 e4] :: .slice q5 m5 e5 :: .int .i64 0 :: undef :: undef :: undef :: undef :: undef :: undef :: undef :: undef :: undef :: undef :: undef :: undef :: undef :: undef :: undef :: undef :: undef :: undef :: undef :: undef :: undef :: undef :: undef :: undef :: undef :: undef :: undef :: undef :: undef :: undef :: undef :: undef :: undef :: undef :: undef :: undef :: undef :: undef :: undef :: undef :: undef :: undef :: undef :: undef :: undef :: undef :: undef :: undef :: undef :: undef :: undef :: undef :: undef :: undef :: undef :: undef :: undef :: undef :: undef :: undef :: undef :: undef :: undef :: undef :: undef :: undef :: undef :: undef :: undef :: undef :: undef :: undef :: undef :: undef :: undef :: undef :: undef :: undef :: undef :: undef :: undef :: []), defers := [] } X := by
    subst hops
    intro tb q1 m1 e1 q2 m2 e2 q3 m3 e3 q4 m4 e4 q5 m5 e5 b0 e0 zr X fB fL fW fE fR fRz fZ
    have hT := (show WkB b r (.slice p1 n1 c1) (.slice p2 n2 c2) (.slice p3 n3 c3) (.slice p4 n4 c4) X from hA.1.below (fB))
    refine wpTwo_ready (rs := [13]) (by kernel_rfl) (by simp) ?_
    refine (AllTwo.cons rfl (fun K hK => ?_) AllTwo.nil)
    obtain ⟨d0, d1, d2, d3, d4, d5, d6, d7⟩ := fR.cells
    have v0 := fR.marks 0
    have v1 := fR.marks 1
    have v2 := fR.marks 2
    have v3 := fR.marks 3
    have v4 := fR.marks 4
    have v5 := fR.marks 5
    have v6 := fR.marks 6
    have v7 := fR.marks 7
    obtain ⟨Xa, hXa⟩ : ∃ Y : World, Y = ((((((((X.setCell ⟨zr, 0, none⟩ (.int .i64 r'.s.now)).setCell ⟨zr, 1, none⟩ (.slice q1 m1 e1)).setCell ⟨zr, 2, none⟩ (.slice q2 m2 e2)).setCell ⟨zr, 3, none⟩ (.int .i64 r'.g.done)).setCell ⟨zr, 4, none⟩ (.int .i64 r'.g.asked)).setCell ⟨zr, 5, none⟩ (.bool r'.g.on)).setCell ⟨zr, 6, none⟩ (.slice q3 m3 e3)).setCell ⟨zr, 7, none⟩ (.slice q4 m4 e4)) := ⟨_, rfl⟩
    have HFA := Lib.hid (wk_keep hA fB fR fRz fW fZ hXa)
    have hTa := HFA.out.1
    go_simp
    rw [← hXa]
    refine hK.out _ _ ⟨hTa, fun _ _ => trivial⟩ ?_
    clear hK K d0 d1 d2 d3 d4 d5 d6 d7 v0 v1 v2 v3 v4 v5 v6 v7 hXa
    (try simp only [Act.put])
    refine wpTwo_takeT (i := 14) (v := .slice q5 m5 e5) rfl (by kernel_rfl) (by kernel_rfl) (by kernel_rfl) (fun c a w h => hQp c a _ _ w h) ⟨by rfl, ?_⟩ hTa ?_
    · rintro w hTw
      go_simp
    (try simp only [Act.put, List.getElem_toArray, List.getElem_cons_succ, List.getElem_cons_zero, List.setIfInBounds_toArray, List.set_cons_succ, List.set_cons_zero])
    refine wpTwo_takeT (i := 15) (v := .int .i64 0) rfl (by kernel_rfl) (by kernel_rfl) (by kernel_rfl) (fun c a w h => hQp c a _ _ w h) ⟨by rfl, ?_⟩ hTa ?_
    · rintro w hTw
      go_simp
    (try simp only [Act.put, List.getElem_toArray, List.getElem_cons_succ, List.getElem_cons_zero, List.setIfInBounds_toArray, List.set_cons_succ, List.set_cons_zero])
    refine wpTwo_end (by kernel_rfl) ?_ _
    exact hQ zr tb q1 m1 e1 q2 m2 e2 q3 m3 e3 q4 m4 e4 q5 m5 e5 Xa HFA.out.2
  have S_1_2_3_4_5_6_7 : ∀ (tb : Nat) (q1 : Option Addr) (m1 : Nat) (e1 : Nat) (q2 : Option Addr) (m2 : Nat) (e2 : Nat) (q3 : Option Addr) (m3 : Nat) (e3 : Nat) (q4 : Option Addr) (m4 : Nat) (e4 : Nat) (q5 : Option Addr) (m5 : Nat) (e5 : Nat) (b0 : Nat) (e0 : Nat) (X : World) (fB : Below wA.heap.size wA X) (fL : OpsOut U.NoS X (.slice (some ⟨tb, 0, none⟩) 5 5) wkL2) (fW : RcIn (fun k => k < b0 ∨ e0 ≤ k) X (.slice q1 m1 e1) (.slice q2 m2 e2) (.slice q3 m3 e3) (.slice q4 m4 e4) r' ∧ X.ownsRow 0 35 1 (.slice q5 m5 e5) ws.length (ws.map (Value.int .u64))) (fE : e0 ≤ X.heap.size), wpTwo Tryz.prog .any ops Q (WkB b r (.slice p1 n1 c1) (.slice p2 n2 c2) (.slice p3 n3 c3) (.slice p4 n4 c4)) (fun _ => True) (fun _ => false) 4 #[true, true, true, true, true, true, true, true, true, true, true, true, false, false, false, false] { tmps := List.toArray (x0 :: .pointer (some ⟨b, 0, none⟩) :: x2 :: undef :: undef :: undef :: undef :: undef :: undef :: undef :: undef :: undef :: undef :: undef :: undef :: undef :: undef :: undef :: x18 :: x19 :: x20 :: x21 :: .tuple #[.agg #[.int .i64 r'.s.now, .slice q1 m1 e1, .slice q2 m2 e2, .int .i64 r'.g.done, .int .i64 r'.g.asked, .bool r'.g.on, .slice q3 m3 e3, .slice q4 m4 e4], .slice q5 m5 e5, .int .i64 0] :: .agg #[.int .i64 r.s.now, .slice p1 n1 c1, .slice p2 n2 c2, .int .i64 r.g.done, .int .i64 r.g.asked, .bool r.g.on, .slice p3 n3 c3, .slice p4 n4 c4] :: .agg #[.int .i64 3, .int .i64 0, .int .u64 7] :: .agg #[.int .i64 4, .int .i64 0, .int .u64 0] :: .agg #[.int .i64 4, .int .i64 0, .int .u64 0] :: .agg #[.int .i64 4, .int .i64 1, .int .u64 0] :: .agg #[.int .i64 5, .int .i64 0, .int .u64 0] :: .slice (some ⟨tb, 0, none⟩) 5 5 :: .tuple #[.agg #[.int .i64 r'.s.now, .slice q1 m1 e1, .slice q2 m2 e2, .int .i64 r'.g.done, .int .i64 r'.g.asked, .bool r'.g.on, .slice q3 m3 e3, .slice q4 m4 e4], .slice q5 m5 e5, .int .i64 0] :: .agg #[.int .i64 r'.s.now, .slice q1 m1 e1, .slice q2 m2 e2, .int .i64 r'.g.done, .int .i64 r'.g.asked, .bool r'.g.on, .slice q3 m3 e3, .slice q4 m4 e4] :: .slice q5 m5 e5 :: .int .i64 0 :: undef :: undef :: undef :: undef :: undef :: undef :: undef :: undef :: undef :: undef :: undef :: undef :: undef :: undef :: undef :: undef :: undef :: undef :: undef :: undef :: undef :: undef :: undef :: undef :: undef :: undef :: undef :: undef :: undef :: undef :: undef :: undef :: undef :: undef :: undef :: undef :: undef :: undef :: undef :: undef :: undef :: undef :: undef :: undef :: undef :: undef :: undef :: undef :: undef :: undef :: undef :: undef :: undef :: undef :: undef :: undef :: undef :: undef :: undef :: undef :: undef :: undef :: undef :: undef :: undef :: undef :: undef :: undef :: undef :: undef :: undef :: undef :: undef :: undef :: undef :: undef :: undef :: undef :: undef :: undef :: undef :: []), defers := [] } X := by
    subst hops
    intro tb q1 m1 e1 q2 m2 e2 q3 m3 e3 q4 m4 e4 q5 m5 e5 b0 e0 X fB fL fW fE
    have hT := (show WkB b r (.slice p1 n1 c1) (.slice p2 n2 c2) (.slice p3 n3 c3) (.slice p4 n4 c4) X from hA.1.below (fB))
    refine wpTwo_ready (rs := [12]) (by kernel_rfl) (by simp) ?_
    refine (AllTwo.cons rfl (fun K hK => ?_) AllTwo.nil)
    · refine step_val rfl (v := .pointer (some ⟨X.heap.size, 0, none⟩)) (w' := X.alloc (.cells #[.int .i64 0, .slice none 0 0, .slice none 0 0, .int .i64 0, .int .i64 0, .bool false, .slice none 0 0, .slice none 0 0] 30)) (by kernel_rfl) ?_
      obtain ⟨X1, hX⟩ : ∃ Y : World, Y = X.alloc (.cells #[.int .i64 0, .slice none 0 0, .slice none 0 0, .int .i64 0, .int .i64 0, .bool false, .slice none 0 0, .slice none 0 0] 30) := ⟨_, rfl⟩
      rw [← hX]
      have hb : Below X.heap.size X X1 := by rw [hX]; exact below1 _ _
      have hT1 := (show WkB b r (.slice p1 n1 c1) (.slice p2 n2 c2) (.slice p3 n3 c3) (.slice p4 n4 c4) X1 from hA.1.below ((below_then fB fB.size hb)))
      exact hK.out _ _ ⟨hT1, fun _ _ => trivial⟩ (S_1_2_3_4_5_6_7_12 tb q1 m1 e1 q2 m2 e2 q3 m3 e3 q4 m4 e4 q5 m5 e5 b0 e0 X.heap.size X1 (below_then fB fB.size hb) (fL.below hb) (⟨fW.1.below hb, owns_below fW.2 hb⟩) (Nat.le_trans fE hb.size) (by rw [hX]; exact RcBox.new _ _ _ _ _ _ _ _ _) (fB.size) (.inr fE))
  have S_1_2_3_4_5_6_12 : ∀ (tb : Nat) (zr : Nat) (X : World) (fB : Below wA.heap.size wA X) (fL : OpsOut U.NoS X (.slice (some ⟨tb, 0, none⟩) 5 5) wkL2) (fR : RcBox X zr 0 (.slice none 0 0) (.slice none 0 0) 0 0 false (.slice none 0 0) (.slice none 0 0)) (fRz : wA.heap.size ≤ zr), wpTwo Tryz.prog .any ops Q (WkB b r (.slice p1 n1 c1) (.slice p2 n2 c2) (.slice p3 n3 c3) (.slice p4 n4 c4)) (fun _ => True) (fun _ => false) 8 #[true, true, true, true, true, true, true, false, false, false, false, false, true, false, false, false] { tmps := List.toArray (x0 :: .pointer (some ⟨b, 0, none⟩) :: x2 :: .pointer (some ⟨zr, 0, none⟩) :: undef :: undef :: undef :: undef :: undef :: undef :: undef :: undef :: undef :: undef :: undef :: undef :: undef :: undef :: x18 :: x19 :: x20 :: x21 :: undef :: .agg #[.int .i64 r.s.now, .slice p1 n1 c1, .slice p2 n2 c2, .int .i64 r.g.done, .int .i64 r.g.asked, .bool r.g.on, .slice p3 n3 c3, .slice p4 n4 c4] :: .agg #[.int .i64 3, .int .i64 0, .int .u64 7] :: .agg #[.int .i64 4, .int .i64 0, .int .u64 0] :: .agg #[.int .i64 4, .int .i64 0, .int .u64 0] :: .agg #[.int .i64 4, .int .i64 1, .int .u64 0] :: .agg #[.int .i64 5, .int .i64 0, .int .u64 0] :: .slice (some ⟨tb, 0, none⟩) 5 5 :: undef :: undef :: undef :: undef :: undef :: undef :: undef :: undef :: undef :: undef :: undef :: undef :: undef :: undef :: undef :: undef :: undef :: undef :: undef :: undef :: undef :: undef :: undef :: undef :: undef :: undef :: undef :: undef :: undef :: undef :: undef :: undef :: undef :: undef :: undef :: undef :: undef :: undef :: undef :: undef :: undef :: undef :: undef :: undef :: undef :: undef :: undef :: undef :: undef :: undef :: undef :: undef :: undef :: undef :: undef :: undef :: undef :: undef :: undef :: undef :: undef :: undef :: undef :: undef :: undef :: undef :: undef :: undef :: undef :: undef :: undef :: undef :: undef :: undef :: undef :: undef :: undef :: undef :: undef :: undef :: undef :: undef :: undef :: undef :: undef :: []), defers := [] } X := by
    clear S_1_2_3_4_5_6_7
    subst hops
    intro tb zr X fB fL fR fRz
    have hT := (show WkB b r (.slice p1 n1 c1) (.slice p2 n2 c2) (.slice p3 n3 c3) (.slice p4 n4 c4) X from hA.1.below (fB))
    refine wpTwo_ready (rs := [7]) (by kernel_rfl) (by simp) ?_
    refine (AllTwo.cons rfl (fun K hK => ?_) AllTwo.nil)
    · refine step_ent rfl (f := 15) (args := #[.agg #[.int .i64 r.s.now, .slice p1 n1 c1, .slice p2 n2 c2, .int .i64 r.g.done, .int .i64 r.g.asked, .bool r.g.on, .slice p3 n3 c3, .slice p4 n4 c4], .slice (some ⟨tb, 0, none⟩) 5 5]) (w' := X) (by kernel_rfl) (HPL X fB tb fL) ?_
      rintro e X1 ⟨⟨q1, m1, e1, q2, m2, e2, q3, m3, e3, q4, m4, e4, q5, m5, e5, rfl, hin, hro⟩, hb⟩
      refine ⟨_, rfl, ?_⟩
      have hT1 := (show WkB b r (.slice p1 n1 c1) (.slice p2 n2 c2) (.slice p3 n3 c3) (.slice p4 n4 c4) X1 from hA.1.below ((below_then fB fB.size hb)))
      refine hK.out _ _ ⟨hT1, fun _ _ => trivial⟩ ?_
      (try simp only [Act.put, List.getElem_toArray, List.getElem_cons_succ, List.getElem_cons_zero, List.setIfInBounds_toArray, List.set_cons_succ, List.set_cons_zero])
      refine wpTwo_takeT (i := 8) (v := .tuple #[.agg #[.int .i64 r'.s.now, .slice q1 m1 e1, .slice q2 m2 e2, .int .i64 r'.g.done, .int .i64 r'.g.asked, .bool r'.g.on, .slice q3 m3 e3, .slice q4 m4 e4], .slice q5 m5 e5, .int .i64 0]) rfl (by kernel_rfl) (by kernel_rfl) (by kernel_rfl) (fun c a w h => hQp c a _ _ w h) ⟨by rfl, ?_⟩ hT1 ?_
      · rintro w hTw
        go_simp
      (try simp only [Act.put, List.getElem_toArray, List.getElem_cons_succ, List.getElem_cons_zero, List.setIfInBounds_toArray, List.set_cons_succ, List.set_cons_zero])
      refine wpTwo_takeT (i := 9) (v := .agg #[.int .i64 r'.s.now, .slice q1 m1 e1, .slice q2 m2 e2, .int .i64 r'.g.done, .int .i64 r'.g.asked, .bool r'.g.on, .slice q3 m3 e3, .slice q4 m4 e4]) rfl (by kernel_rfl) (by kernel_rfl) (by kernel_rfl) (fun c a w h => hQp c a _ _ w h) ⟨by rfl, ?_⟩ hT1 ?_
      · rintro w hTw
        go_simp
      (try simp only [Act.put, List.getElem_toArray, List.getElem_cons_succ, List.getElem_cons_zero, List.setIfInBounds_toArray, List.set_cons_succ, List.set_cons_zero])
      refine wpTwo_takeT (i := 10) (v := .slice q5 m5 e5) rfl (by kernel_rfl) (by kernel_rfl) (by kernel_rfl) (fun c a w h => hQp c a _ _ w h) ⟨by rfl, ?_⟩ hT1 ?_
      · rintro w hTw
        go_simp
      (try simp only [Act.put, List.getElem_toArray, List.getElem_cons_succ, List.getElem_cons_zero, List.setIfInBounds_toArray, List.set_cons_succ, List.set_cons_zero])
      refine wpTwo_takeT (i := 11) (v := .int .i64 0) rfl (by kernel_rfl) (by kernel_rfl) (by kernel_rfl) (fun c a w h => hQp c a _ _ w h) ⟨by rfl, ?_⟩ hT1 ?_
      · rintro w hTw
        go_simp
      (try simp only [Act.put, List.getElem_toArray, List.getElem_cons_succ, List.getElem_cons_zero, List.setIfInBounds_toArray, List.set_cons_succ, List.set_cons_zero])
      exact S_1_2_3_4_5_6_7_12 tb q1 m1 e1 q2 m2 e2 q3 m3 e3 q4 m4 e4 q5 m5 e5 X.heap.size X1.heap.size zr X1 (below_then fB fB.size hb) (fL.below hb) (⟨hin.apart (fun q h => h), hro⟩) (Nat.le_refl _) (fR.below hb) (fRz) (.inl fR.lt)
  have S_1_2_3_4_5_6 : ∀ (tb : Nat) (X : World) (fB : Below wA.heap.size wA X) (fL : OpsOut U.NoS X (.slice (some ⟨tb, 0, none⟩) 5 5) wkL2), wpTwo Tryz.prog .any ops Q (WkB b r (.slice p1 n1 c1) (.slice p2 n2 c2) (.slice p3 n3 c3) (.slice p4 n4 c4)) (fun _ => True) (fun _ => false) 9 #[true, true, true, true, true, true, true, false, false, false, false, false, false, false, false, false] { tmps := List.toArray (x0 :: .pointer (some ⟨b, 0, none⟩) :: x2 :: undef :: undef :: undef :: undef :: undef :: undef :: undef :: undef :: undef :: undef :: undef :: undef :: undef :: undef :: undef :: x18 :: x19 :: x20 :: x21 :: undef :: .agg #[.int .i64 r.s.now, .slice p1 n1 c1, .slice p2 n2 c2, .int .i64 r.g.done, .int .i64 r.g.asked, .bool r.g.on, .slice p3 n3 c3, .slice p4 n4 c4] :: .agg #[.int .i64 3, .int .i64 0, .int .u64 7] :: .agg #[.int .i64 4, .int .i64 0, .int .u64 0] :: .agg #[.int .i64 4, .int .i64 0, .int .u64 0] :: .agg #[.int .i64 4, .int .i64 1, .int .u64 0] :: .agg #[.int .i64 5, .int .i64 0, .int .u64 0] :: .slice (some ⟨tb, 0, none⟩) 5 5 :: undef :: undef :: undef :: undef :: undef :: undef :: undef :: undef :: undef :: undef :: undef :: undef :: undef :: undef :: undef :: undef :: undef :: undef :: undef :: undef :: undef :: undef :: undef :: undef :: undef :: undef :: undef :: undef :: undef :: undef :: undef :: undef :: undef :: undef :: undef :: undef :: undef :: undef :: undef :: undef :: undef :: undef :: undef :: undef :: undef :: undef :: undef :: undef :: undef :: undef :: undef :: undef :: undef :: undef :: undef :: undef :: undef :: undef :: undef :: undef :: undef :: undef :: undef :: undef :: undef :: undef :: undef :: undef :: undef :: undef :: undef :: undef :: undef :: undef :: undef :: undef :: undef :: undef :: undef :: undef :: undef :: undef :: undef :: undef :: undef :: []), defers := [] } X := by
    clear S_1_2_3_4_5_6_7_12
    subst hops
    intro tb X fB fL
    have hT := (show WkB b r (.slice p1 n1 c1) (.slice p2 n2 c2) (.slice p3 n3 c3) (.slice p4 n4 c4) X from hA.1.below (fB))
    refine wpTwo_ready (rs := [7, 12]) (by kernel_rfl) (by simp) ?_
    refine (AllTwo.cons rfl (fun K hK => ?_) (AllTwo.cons rfl (fun K hK => ?_) AllTwo.nil))
    · refine step_ent rfl (f := 15) (args := #[.agg #[.int .i64 r.s.now, .slice p1 n1 c1, .slice p2 n2 c2, .int .i64 r.g.done, .int .i64 r.g.asked, .bool r.g.on, .slice p3 n3 c3, .slice p4 n4 c4], .slice (some ⟨tb, 0, none⟩) 5 5]) (w' := X) (by kernel_rfl) (HPL X fB tb fL) ?_
      rintro e X1 ⟨⟨q1, m1, e1, q2, m2, e2, q3, m3, e3, q4, m4, e4, q5, m5, e5, rfl, hin, hro⟩, hb⟩
      refine ⟨_, rfl, ?_⟩
      have hT1 := (show WkB b r (.slice p1 n1 c1) (.slice p2 n2 c2) (.slice p3 n3 c3) (.slice p4 n4 c4) X1 from hA.1.below ((below_then fB fB.size hb)))
      refine hK.out _ _ ⟨hT1, fun _ _ => trivial⟩ ?_
      (try simp only [Act.put, List.getElem_toArray, List.getElem_cons_succ, List.getElem_cons_zero, List.setIfInBounds_toArray, List.set_cons_succ, List.set_cons_zero])
      refine wpTwo_takeT (i := 8) (v := .tuple #[.agg #[.int .i64 r'.s.now, .slice q1 m1 e1, .slice q2 m2 e2, .int .i64 r'.g.done, .int .i64 r'.g.asked, .bool r'.g.on, .slice q3 m3 e3, .slice q4 m4 e4], .slice q5 m5 e5, .int .i64 0]) rfl (by kernel_rfl) (by kernel_rfl) (by kernel_rfl) (fun c a w h => hQp c a _ _ w h) ⟨by rfl, ?_⟩ hT1 ?_
      · rintro w hTw
        go_simp
      (try simp only [Act.put, List.getElem_toArray, List.getElem_cons_succ, List.getElem_cons_zero, List.setIfInBounds_toArray, List.set_cons_succ, List.set_cons_zero])
      refine wpTwo_takeT (i := 9) (v := .agg #[.int .i64 r'.s.now, .slice q1 m1 e1, .slice q2 m2 e2, .int .i64 r'.g.done, .int .i64 r'.g.asked, .bool r'.g.on, .slice q3 m3 e3, .slice q4 m4 e4]) rfl (by kernel_rfl) (by kernel_rfl) (by kernel_rfl) (fun c a w h => hQp c a _ _ w h) ⟨by rfl, ?_⟩ hT1 ?_
      · rintro w hTw
        go_simp
      (try simp only [Act.put, List.getElem_toArray, List.getElem_cons_succ, List.getElem_cons_zero, List.setIfInBounds_toArray, List.set_cons_succ, List.set_cons_zero])
      refine wpTwo_takeT (i := 10) (v := .slice q5 m5 e5) rfl (by kernel_rfl) (by kernel_rfl) (by kernel_rfl) (fun c a w h => hQp c a _ _ w h) ⟨by rfl, ?_⟩ hT1 ?_
      · rintro w hTw
        go_simp
      (try simp only [Act.put, List.getElem_toArray, List.getElem_cons_succ, List.getElem_cons_zero, List.setIfInBounds_toArray, List.set_cons_succ, List.set_cons_zero])
      refine wpTwo_takeT (i := 11) (v := .int .i64 0) rfl (by kernel_rfl) (by kernel_rfl) (by kernel_rfl) (fun c a w h => hQp c a _ _ w h) ⟨by rfl, ?_⟩ hT1 ?_
      · rintro w hTw
        go_simp
      (try simp only [Act.put, List.getElem_toArray, List.getElem_cons_succ, List.getElem_cons_zero, List.setIfInBounds_toArray, List.set_cons_succ, List.set_cons_zero])
      exact S_1_2_3_4_5_6_7 tb q1 m1 e1 q2 m2 e2 q3 m3 e3 q4 m4 e4 q5 m5 e5 X.heap.size X1.heap.size X1 (below_then fB fB.size hb) (fL.below hb) (⟨hin.apart (fun q h => h), hro⟩) (Nat.le_refl _)
    · refine step_val rfl (v := .pointer (some ⟨X.heap.size, 0, none⟩)) (w' := X.alloc (.cells #[.int .i64 0, .slice none 0 0, .slice none 0 0, .int .i64 0, .int .i64 0, .bool false, .slice none 0 0, .slice none 0 0] 30)) (by kernel_rfl) ?_
      obtain ⟨X1, hX⟩ : ∃ Y : World, Y = X.alloc (.cells #[.int .i64 0, .slice none 0 0, .slice none 0 0, .int .i64 0, .int .i64 0, .bool false, .slice none 0 0, .slice none 0 0] 30) := ⟨_, rfl⟩
      rw [← hX]
      have hb : Below X.heap.size X X1 := by rw [hX]; exact below1 _ _
      have hT1 := (show WkB b r (.slice p1 n1 c1) (.slice p2 n2 c2) (.slice p3 n3 c3) (.slice p4 n4 c4) X1 from hA.1.below ((below_then fB fB.size hb)))
      exact hK.out _ _ ⟨hT1, fun _ _ => trivial⟩ (S_1_2_3_4_5_6_12 tb X.heap.size X1 (below_then fB fB.size hb) (fL.below hb) (by rw [hX]; exact RcBox.new _ _ _ _ _ _ _ _ _) (fB.size))
  have S_1_2_3_4_5_12 : ∀ (zr : Nat) (X : World) (fB : Below wA.heap.size wA X) (fR : RcBox X zr 0 (.slice none 0 0) (.slice none 0 0) 0 0 false (.slice none 0 0) (.slice none 0 0)) (fRz : wA.heap.size ≤ zr), wpTwo Tryz.prog .any ops Q (WkB b r (.slice p1 n1 c1) (.slice p2 n2 c2) (.slice p3 n3 c3) (.slice p4 n4 c4)) (fun _ => True) (fun _ => false) 9 #[true, true, true, true, true, true, false, false, false, false, false, false, true, false, false, false] { tmps := List.toArray (x0 :: .pointer (some ⟨b, 0, none⟩) :: x2 :: .pointer (some ⟨zr, 0, none⟩) :: undef :: undef :: undef :: undef :: undef :: undef :: undef :: undef :: undef :: undef :: undef :: undef :: undef :: undef :: x18 :: x19 :: x20 :: x21 :: undef :: .agg #[.int .i64 r.s.now, .slice p1 n1 c1, .slice p2 n2 c2, .int .i64 r.g.done, .int .i64 r.g.asked, .bool r.g.on, .slice p3 n3 c3, .slice p4 n4 c4] :: .agg #[.int .i64 3, .int .i64 0, .int .u64 7] :: .agg #[.int .i64 4, .int .i64 0, .int .u64 0] :: .agg #[.int .i64 4, .int .i64 0, .int .u64 0] :: .agg #[.int .i64 4, .int .i64 1, .int .u64 0] :: .agg #[.int .i64 5, .int .i64 0, .int .u64 0] :: undef :: undef :: undef :: undef :: undef :: undef :: undef :: undef :: undef :: undef :: undef :: undef :: undef :: undef :: undef :: undef :: undef :: undef :: undef :: undef :: undef :: undef :: undef :: undef :: undef :: undef :: undef :: undef :: undef :: undef :: undef :: undef :: undef :: undef :: undef :: undef :: undef :: undef :: undef :: undef :: undef :: undef :: undef :: undef :: undef :: undef :: undef :: undef :: undef :: undef :: undef :: undef :: undef :: undef :: undef :: undef :: undef :: undef :: undef :: undef :: undef :: undef :: undef :: undef :: undef :: undef :: undef :: undef :: undef :: undef :: undef :: undef :: undef :: undef :: undef :: undef :: undef :: undef :: undef :: undef :: undef :: undef :: undef :: undef :: undef :: undef :: []), defers := [] } X := by
    clear S_1_2_3_4_5_6_7_12 S_1_2_3_4_5_6_7 S_1_2_3_4_5_6
    subst hops
    intro zr X fB fR fRz
    have hT := (show WkB b r (.slice p1 n1 c1) (.slice p2 n2 c2) (.slice p3 n3 c3) (.slice p4 n4 c4) X from hA.1.below (fB))
    refine wpTwo_ready (rs := [6]) (by kernel_rfl) (by simp) ?_
    refine (AllTwo.cons rfl (fun K hK => ?_) AllTwo.nil)
    · refine step_val rfl (v := .slice (some ⟨X.heap.size, 0, none⟩) 5 5) (w' := X.alloc (.cells #[.int .i64 3, .int .i64 0, .int .u64 7, .int .i64 4, .int .i64 0, .int .u64 0, .int .i64 4, .int .i64 0, .int .u64 0, .int .i64 4, .int .i64 1, .int .u64 0, .int .i64 5, .int .i64 0, .int .u64 0] 37)) (by kernel_rfl) ?_
      obtain ⟨X1, hX⟩ : ∃ Y : World, Y = X.alloc (.cells #[.int .i64 3, .int .i64 0, .int .u64 7, .int .i64 4, .int .i64 0, .int .u64 0, .int .i64 4, .int .i64 0, .int .u64 0, .int .i64 4, .int .i64 1, .int .u64 0, .int .i64 5, .int .i64 0, .int .u64 0] 37) := ⟨_, rfl⟩
      rw [← hX]
      have hb : Below X.heap.size X X1 := by rw [hX]; exact below1 _ _
      have hT1 := (show WkB b r (.slice p1 n1 c1) (.slice p2 n2 c2) (.slice p3 n3 c3) (.slice p4 n4 c4) X1 from hA.1.below ((below_then fB fB.size hb)))
      exact hK.out _ _ ⟨hT1, fun _ _ => trivial⟩ (S_1_2_3_4_5_6_12 X.heap.size zr X1 (below_then fB fB.size hb) (ops_block (l := wkL2) (by rw [hX]; exact World.alloc_heap_new _ _) (fun i hi => by
        have hi : i < 5 := hi
        have : i = 0 ∨ i = 1 ∨ i = 2 ∨ i = 3 ∨ i = 4 := by omega
        rcases this with rfl | rfl | rfl | rfl | rfl <;> exact ⟨rfl, rfl, rfl⟩)) (fR.below hb) (fRz))
  have S_1_2_3_4_5 : ∀  (X : World) (fB : Below wA.heap.size wA X), wpTwo Tryz.prog .any ops Q (WkB b r (.slice p1 n1 c1) (.slice p2 n2 c2) (.slice p3 n3 c3) (.slice p4 n4 c4)) (fun _ => True) (fun _ => false) 10 #[true, true, true, true, true, true, false, false, false, false, false, false, false, false, false, false] { tmps := List.toArray (x0 :: .pointer (some ⟨b, 0, none⟩) :: x2 :: undef :: undef :: undef :: undef :: undef :: undef :: undef :: undef :: undef :: undef :: undef :: undef :: undef :: undef :: undef :: x18 :: x19 :: x20 :: x21 :: undef :: .agg #[.int .i64 r.s.now, .slice p1 n1 c1, .slice p2 n2 c2, .int .i64 r.g.done, .int .i64 r.g.asked, .bool r.g.on, .slice p3 n3 c3, .slice p4 n4 c4] :: .agg #[.int .i64 3, .int .i64 0, .int .u64 7] :: .agg #[.int .i64 4, .int .i64 0, .int .u64 0] :: .agg #[.int .i64 4, .int .i64 0, .int .u64 0] :: .agg #[.int .i64 4, .int .i64 1, .int .u64 0] :: .agg #[.int .i64 5, .int .i64 0, .int .u64 0] :: undef :: undef :: undef :: undef :: undef :: undef :: undef :: undef :: undef :: undef :: undef :: undef :: undef :: undef :: undef :: undef :: undef :: undef :: undef :: undef :: undef :: undef :: undef :: undef :: undef :: undef :: undef :: undef :: undef :: undef :: undef :: undef :: undef :: undef :: undef :: undef :: undef :: undef :: undef :: undef :: undef :: undef :: undef :: undef :: undef :: undef :: undef :: undef :: undef :: undef :: undef :: undef :: undef :: undef :: undef :: undef :: undef :: undef :: undef :: undef :: undef :: undef :: undef :: undef :: undef :: undef :: undef :: undef :: undef :: undef :: undef :: undef :: undef :: undef :: undef :: undef :: undef :: undef :: undef :: undef :: undef :: undef :: undef :: undef :: undef :: undef :: []), defers := [] } X := by
    clear S_1_2_3_4_5_6_7_12 S_1_2_3_4_5_6_7 S_1_2_3_4_5_6_12
    subst hops
    intro X fB
    have hT := (show WkB b r (.slice p1 n1 c1) (.slice p2 n2 c2) (.slice p3 n3 c3) (.slice p4 n4 c4) X from hA.1.below (fB))
    refine wpTwo_ready (rs := [6, 12]) (by kernel_rfl) (by simp) ?_
    refine (AllTwo.cons rfl (fun K hK => ?_) (AllTwo.cons rfl (fun K hK => ?_) AllTwo.nil))
    · refine step_val rfl (v := .slice (some ⟨X.heap.size, 0, none⟩) 5 5) (w' := X.alloc (.cells #[.int .i64 3, .int .i64 0, .int .u64 7, .int .i64 4, .int .i64 0, .int .u64 0, .int .i64 4, .int .i64 0, .int .u64 0, .int .i64 4, .int .i64 1, .int .u64 0, .int .i64 5, .int .i64 0, .int .u64 0] 37)) (by kernel_rfl) ?_
      obtain ⟨X1, hX⟩ : ∃ Y : World, Y = X.alloc (.cells #[.int .i64 3, .int .i64 0, .int .u64 7, .int .i64 4, .int .i64 0, .int .u64 0, .int .i64 4, .int .i64 0, .int .u64 0, .int .i64 4, .int .i64 1, .int .u64 0, .int .i64 5, .int .i64 0, .int .u64 0] 37) := ⟨_, rfl⟩
      rw [← hX]
      have hb : Below X.heap.size X X1 := by rw [hX]; exact below1 _ _
      have hT1 := (show WkB b r (.slice p1 n1 c1) (.slice p2 n2 c2) (.slice p3 n3 c3) (.slice p4 n4 c4) X1 from hA.1.below ((below_then fB fB.size hb)))
      exact hK.out _ _ ⟨hT1, fun _ _ => trivial⟩ (S_1_2_3_4_5_6 X.heap.size X1 (below_then fB fB.size hb) (ops_block (l := wkL2) (by rw [hX]; exact World.alloc_heap_new _ _) (fun i hi => by
        have hi : i < 5 := hi
        have : i = 0 ∨ i = 1 ∨ i = 2 ∨ i = 3 ∨ i = 4 := by omega
        rcases this with rfl | rfl | rfl | rfl | rfl <;> exact ⟨rfl, rfl, rfl⟩)))
    · refine step_val rfl (v := .pointer (some ⟨X.heap.size, 0, none⟩)) (w' := X.alloc (.cells #[.int .i64 0, .slice none 0 0, .slice none 0 0, .int .i64 0, .int .i64 0, .bool false, .slice none 0 0, .slice none 0 0] 30)) (by kernel_rfl) ?_
      obtain ⟨X1, hX⟩ : ∃ Y : World, Y = X.alloc (.cells #[.int .i64 0, .slice none 0 0, .slice none 0 0, .int .i64 0, .int .i64 0, .bool false, .slice none 0 0, .slice none 0 0] 30) := ⟨_, rfl⟩
      rw [← hX]
      have hb : Below X.heap.size X X1 := by rw [hX]; exact below1 _ _
      have hT1 := (show WkB b r (.slice p1 n1 c1) (.slice p2 n2 c2) (.slice p3 n3 c3) (.slice p4 n4 c4) X1 from hA.1.below ((below_then fB fB.size hb)))
      exact hK.out _ _ ⟨hT1, fun _ _ => trivial⟩ (S_1_2_3_4_5_12 X.heap.size X1 (below_then fB fB.size hb) (by rw [hX]; exact RcBox.new _ _ _ _ _ _ _ _ _) (fB.size))
  have S_1_2_3_4_12 : ∀ (zr : Nat) (X : World) (fB : Below wA.heap.size wA X) (fR : RcBox X zr 0 (.slice none 0 0) (.slice none 0 0) 0 0 false (.slice none 0 0) (.slice none 0 0)) (fRz : wA.heap.size ≤ zr), wpTwo Tryz.prog .any ops Q (WkB b r (.slice p1 n1 c1) (.slice p2 n2 c2) (.slice p3 n3 c3) (.slice p4 n4 c4)) (fun _ => True) (fun _ => false) 10 #[true, true, true, true, true, false, false, false, false, false, false, false, true, false, false, false] { tmps := List.toArray (x0 :: .pointer (some ⟨b, 0, none⟩) :: x2 :: .pointer (some ⟨zr, 0, none⟩) :: undef :: undef :: undef :: undef :: undef :: undef :: undef :: undef :: undef :: undef :: undef :: undef :: undef :: undef :: x18 :: x19 :: x20 :: x21 :: undef :: .agg #[.int .i64 r.s.now, .slice p1 n1 c1, .slice p2 n2 c2, .int .i64 r.g.done, .int .i64 r.g.asked, .bool r.g.on, .slice p3 n3 c3, .slice p4 n4 c4] :: .agg #[.int .i64 3, .int .i64 0, .int .u64 7] :: .agg #[.int .i64 4, .int .i64 0, .int .u64 0] :: .agg #[.int .i64 4, .int .i64 0, .int .u64 0] :: .agg #[.int .i64 4, .int .i64 1, .int .u64 0] :: undef :: undef :: undef :: undef :: undef :: undef :: undef :: undef :: undef :: undef :: undef :: undef :: undef :: undef :: undef :: undef :: undef :: undef :: undef :: undef :: undef :: undef :: undef :: undef :: undef :: undef :: undef :: undef :: undef :: undef :: undef :: undef :: undef :: undef :: undef :: undef :: undef :: undef :: undef :: undef :: undef :: undef :: undef :: undef :: undef :: undef :: undef :: undef :: undef :: undef :: undef :: undef :: undef :: undef :: undef :: undef :: undef :: undef :: undef :: undef :: undef :: undef :: undef :: undef :: undef :: undef :: undef :: undef :: undef :: undef :: undef :: undef :: undef :: undef :: undef :: undef :: undef :: undef :: undef :: undef :: undef :: undef :: undef :: undef :: undef :: undef :: undef :: []), defers := [] } X := by
    clear S_1_2_3_4_5_6_7_12 S_1_2_3_4_5_6_7 S_1_2_3_4_5_6_12 S_1_2_3_4_5_6 S_1_2_3_4_5
    subst hops
    intro zr X fB fR fRz
    have hT := (show WkB b r (.slice p1 n1 c1) (.slice p2 n2 c2) (.slice p3 n3 c3) (.slice p4 n4 c4) X from hA.1.below (fB))
    refine wpTwo_ready (rs := [5]) (by kernel_rfl) (by simp) ?_
    refine (AllTwo.cons rfl (fun K hK => ?_) AllTwo.nil)
    · refine step_ent rfl (f := 28) (args := #[.int .i64 5, .int .i64 0, .int .u64 0]) (w' := X) (by kernel_rfl) (op_c 5 0 0 X) ?_
      rintro e X1 ⟨rfl, hb⟩
      refine ⟨_, rfl, ?_⟩
      have hT1 := (show WkB b r (.slice p1 n1 c1) (.slice p2 n2 c2) (.slice p3 n3 c3) (.slice p4 n4 c4) X1 from hA.1.below ((below_then fB fB.size hb)))
      exact hK.out _ _ ⟨hT1, fun _ _ => trivial⟩ (S_1_2_3_4_5_12 zr X1 (below_then fB fB.size hb) (fR.below hb) (fRz))
  have S_1_2_3_4 : ∀  (X : World) (fB : Below wA.heap.size wA X), wpTwo Tryz.prog .any ops Q (WkB b r (.slice p1 n1 c1) (.slice p2 n2 c2) (.slice p3 n3 c3) (.slice p4 n4 c4)) (fun _ => True) (fun _ => false) 11 #[true, true, true, true, true, false, false, false, false, false, false, false, false, false, false, false] { tmps := List.toArray (x0 :: .pointer (some ⟨b, 0, none⟩) :: x2 :: undef :: undef :: undef :: undef :: undef :: undef :: undef :: undef :: undef :: undef :: undef :: undef :: undef :: undef :: undef :: x18 :: x19 :: x20 :: x21 :: undef :: .agg #[.int .i64 r.s.now, .slice p1 n1 c1, .slice p2 n2 c2, .int .i64 r.g.done, .int .i64 r.g.asked, .bool r.g.on, .slice p3 n3 c3, .slice p4 n4 c4] :: .agg #[.int .i64 3, .int .i64 0, .int .u64 7] :: .agg #[.int .i64 4, .int .i64 0, .int .u64 0] :: .agg #[.int .i64 4, .int .i64 0, .int .u64 0] :: .agg #[.int .i64 4, .int .i64 1, .int .u64 0] :: undef :: undef :: undef :: undef :: undef :: undef :: undef :: undef :: undef :: undef :: undef :: undef :: undef :: undef :: undef :: undef :: undef :: undef :: undef :: undef :: undef :: undef :: undef :: undef :: undef :: undef :: undef :: undef :: undef :: undef :: undef :: undef :: undef :: undef :: undef :: undef :: undef :: undef :: undef :: undef :: undef :: undef :: undef :: undef :: undef :: undef :: undef :: undef :: undef :: undef :: undef :: undef :: undef :: undef :: undef :: undef :: undef :: undef :: undef :: undef :: undef :: undef :: undef :: undef :: undef :: undef :: undef :: undef :: undef :: undef :: undef :: undef :: undef :: undef :: undef :: undef :: undef :: undef :: undef :: undef :: undef :: undef :: undef :: undef :: undef :: undef :: undef :: []), defers := [] } X := by
    clear S_1_2_3_4_5_6_7_12 S_1_2_3_4_5_6_7 S_1_2_3_4_5_6_12 S_1_2_3_4_5_6 S_1_2_3_4_5_12
    subst hops
    intro X fB
    have hT := (show WkB b r (.slice p1 n1 c1) (.slice p2 n2 c2) (.slice p3 n3 c3) (.slice p4 n4 c4) X from hA.1.below (fB))
    refine wpTwo_ready (rs := [5, 12]) (by kernel_rfl) (by simp) ?_
    refine (AllTwo.cons rfl (fun K hK => ?_) (AllTwo.cons rfl (fun K hK => ?_) AllTwo.nil))
    · refine step_ent rfl (f := 28) (args := #[.int .i64 5, .int .i64 0, .int .u64 0]) (w' := X) (by kernel_rfl) (op_c 5 0 0 X) ?_
      rintro e X1 ⟨rfl, hb⟩
      refine ⟨_, rfl, ?_⟩
      have hT1 := (show WkB b r (.slice p1 n1 c1) (.slice p2 n2 c2) (.slice p3 n3 c3) (.slice p4 n4 c4) X1 from hA.1.below ((below_then fB fB.size hb)))
      exact hK.out _ _ ⟨hT1, fun _ _ => trivial⟩ (S_1_2_3_4_5 X1 (below_then fB fB.size hb))
    · refine step_val rfl (v := .pointer (some ⟨X.heap.size, 0, none⟩)) (w' := X.alloc (.cells #[.int .i64 0, .slice none 0 0, .slice none 0 0, .int .i64 0, .int .i64 0, .bool false, .slice none 0 0, .slice none 0 0] 30)) (by kernel_rfl) ?_
      obtain ⟨X1, hX⟩ : ∃ Y : World, Y = X.alloc (.cells #[.int .i64 0, .slice none 0 0, .slice none 0 0, .int .i64 0, .int .i64 0, .bool false, .slice none 0 0, .slice none 0 0] 30) := ⟨_, rfl⟩
      rw [← hX]
      have hb : Below X.heap.size X X1 := by rw [hX]; exact below1 _ _
      have hT1 := (show WkB b r (.slice p1 n1 c1) (.slice p2 n2 c2) (.slice p3 n3 c3) (.slice p4 n4 c4) X1 from hA.1.below ((below_then fB fB.size hb)))
      exact hK.out _ _ ⟨hT1, fun _ _ => trivial⟩ (S_1_2_3_4_12 X.heap.size X1 (below_then fB fB.size hb) (by rw [hX]; exact RcBox.new _ _ _ _ _ _ _ _ _) (fB.size))
  have S_1_2_3_12 : ∀ (zr : Nat) (X : World) (fB : Below wA.heap.size wA X) (fR : RcBox X zr 0 (.slice none 0 0) (.slice none 0 0) 0 0 false (.slice none 0 0) (.slice none 0 0)) (fRz : wA.heap.size ≤ zr), wpTwo Tryz.prog .any ops Q (WkB b r (.slice p1 n1 c1) (.slice p2 n2 c2) (.slice p3 n3 c3) (.slice p4 n4 c4)) (fun _ => True) (fun _ => false) 11 #[true, true, true, true, false, false, false, false, false, false, false, false, true, false, false, false] { tmps := List.toArray (x0 :: .pointer (some ⟨b, 0, none⟩) :: x2 :: .pointer (some ⟨zr, 0, none⟩) :: undef :: undef :: undef :: undef :: undef :: undef :: undef :: undef :: undef :: undef :: undef :: undef :: undef :: undef :: x18 :: x19 :: x20 :: x21 :: undef :: .agg #[.int .i64 r.s.now, .slice p1 n1 c1, .slice p2 n2 c2, .int .i64 r.g.done, .int .i64 r.g.asked, .bool r.g.on, .slice p3 n3 c3, .slice p4 n4 c4] :: .agg #[.int .i64 3, .int .i64 0, .int .u64 7] :: .agg #[.int .i64 4, .int .i64 0, .int .u64 0] :: .agg #[.int .i64 4, .int .i64 0, .int .u64 0] :: undef :: undef :: undef :: undef :: undef :: undef :: undef :: undef :: undef :: undef :: undef :: undef :: undef :: undef :: undef :: undef :: undef :: undef :: undef :: undef :: undef :: undef :: undef :: undef :: undef :: undef :: undef :: undef :: undef :: undef :: undef :: undef :: undef :: undef :: undef :: undef :: undef :: undef :: undef :: undef :: undef :: undef :: undef :: undef :: undef :: undef :: undef :: undef :: undef :: undef :: undef :: undef :: undef :: undef :: undef :: undef :: undef :: undef :: undef :: undef :: undef :: undef :: undef :: undef :: undef :: undef :: undef :: undef :: undef :: undef :: undef :: undef :: undef :: undef :: undef :: undef :: undef :: undef :: undef :: undef :: undef :: undef :: undef :: undef :: undef :: undef :: undef :: undef :: []), defers := [] } X := by
    clear S_1_2_3_4_5_6_7_12 S_1_2_3_4_5_6_7 S_1_2_3_4_5_6_12 S_1_2_3_4_5_6 S_1_2_3_4_5_12 S_1_2_3_4_5 S_1_2_3_4
    subst hops
    intro zr X fB fR fRz
    have hT := (show WkB b r (.slice p1 n1 c1) (.slice p2 n2 c2) (.slice p3 n3 c3) (.slice p4 n4 c4) X from hA.1.below (fB))
    refine wpTwo_ready (rs := [4]) (by kernel_rfl) (by simp) ?_
    refine (AllTwo.cons rfl (fun K hK => ?_) AllTwo.nil)
    · refine step_ent rfl (f := 28) (args := #[.int .i64 4, .int .i64 1, .int .u64 0]) (w' := X) (by kernel_rfl) (op_c 4 1 0 X) ?_
      rintro e X1 ⟨rfl, hb⟩
      refine ⟨_, rfl, ?_⟩
      have hT1 := (show WkB b r (.slice p1 n1 c1) (.slice p2 n2 c2) (.slice p3 n3 c3) (.slice p4 n4 c4) X1 from hA.1.below ((below_then fB fB.size hb)))
      exact hK.out _ _ ⟨hT1, fun _ _ => trivial⟩ (S_1_2_3_4_12 zr X1 (below_then fB fB.size hb) (fR.below hb) (fRz))
  have S_1_2_3 : ∀  (X : World) (fB : Below wA.heap.size wA X), wpTwo Tryz.prog .any ops Q (WkB b r (.slice p1 n1 c1) (.slice p2 n2 c2) (.slice p3 n3 c3) (.slice p4 n4 c4)) (fun _ => True) (fun _ => false) 12 #[true, true, true, true, false, false, false, false, false, false, false, false, false, false, false, false] { tmps := List.toArray (x0 :: .pointer (some ⟨b, 0, none⟩) :: x2 :: undef :: undef :: undef :: undef :: undef :: undef :: undef :: undef :: undef :: undef :: undef :: undef :: undef :: undef :: undef :: x18 :: x19 :: x20 :: x21 :: undef :: .agg #[.int .i64 r.s.now, .slice p1 n1 c1, .slice p2 n2 c2, .int .i64 r.g.done, .int .i64 r.g.asked, .bool r.g.on, .slice p3 n3 c3, .slice p4 n4 c4] :: .agg #[.int .i64 3, .int .i64 0, .int .u64 7] :: .agg #[.int .i64 4, .int .i64 0, .int .u64 0] :: .agg #[.int .i64 4, .int .i64 0, .int .u64 0] :: undef :: undef :: undef :: undef :: undef :: undef :: undef :: undef :: undef :: undef :: undef :: undef :: undef :: undef :: undef :: undef :: undef :: undef :: undef :: undef :: undef :: undef :: undef :: undef :: undef :: undef :: undef :: undef :: undef :: undef :: undef :: undef :: undef :: undef :: undef :: undef :: undef :: undef :: undef :: undef :: undef :: undef :: undef :: undef :: undef :: undef :: undef :: undef :: undef :: undef :: undef :: undef :: undef :: undef :: undef :: undef :: undef :: undef :: undef :: undef :: undef :: undef :: undef :: undef :: undef :: undef :: undef :: undef :: undef :: undef :: undef :: undef :: undef :: undef :: undef :: undef :: undef :: undef :: undef :: undef :: undef :: undef :: undef :: undef :: undef :: undef :: undef :: undef :: []), defers := [] } X := by
    clear S_1_2_3_4_5_6_7_12 S_1_2_3_4_5_6_7 S_1_2_3_4_5_6_12 S_1_2_3_4_5_6 S_1_2_3_4_5_12 S_1_2_3_4_5 S_1_2_3_4_12
    subst hops
    intro X fB
    have hT := (show WkB b r (.slice p1 n1 c1) (.slice p2 n2 c2) (.slice p3 n3 c3) (.slice p4 n4 c4) X from hA.1.below (fB))
    refine wpTwo_ready (rs := [4, 12]) (by kernel_rfl) (by simp) ?_
    refine (AllTwo.cons rfl (fun K hK => ?_) (AllTwo.cons rfl (fun K hK => ?_) AllTwo.nil))
    · refine step_ent rfl (f := 28) (args := #[.int .i64 4, .int .i64 1, .int .u64 0]) (w' := X) (by kernel_rfl) (op_c 4 1 0 X) ?_
      rintro e X1 ⟨rfl, hb⟩
      refine ⟨_, rfl, ?_⟩
      have hT1 := (show WkB b r (.slice p1 n1 c1) (.slice p2 n2 c2) (.slice p3 n3 c3) (.slice p4 n4 c4) X1 from hA.1.below ((below_then fB fB.size hb)))
      exact hK.out _ _ ⟨hT1, fun _ _ => trivial⟩ (S_1_2_3_4 X1 (below_then fB fB.size hb))
    · refine step_val rfl (v := .pointer (some ⟨X.heap.size, 0, none⟩)) (w' := X.alloc (.cells #[.int .i64 0, .slice none 0 0, .slice none 0 0, .int .i64 0, .int .i64 0, .bool false, .slice none 0 0, .slice none 0 0] 30)) (by kernel_rfl) ?_
      obtain ⟨X1, hX⟩ : ∃ Y : World, Y = X.alloc (.cells #[.int .i64 0, .slice none 0 0, .slice none 0 0, .int .i64 0, .int .i64 0, .bool false, .slice none 0 0, .slice none 0 0] 30) := ⟨_, rfl⟩
      rw [← hX]
      have hb : Below X.heap.size X X1 := by rw [hX]; exact below1 _ _
      have hT1 := (show WkB b r (.slice p1 n1 c1) (.slice p2 n2 c2) (.slice p3 n3 c3) (.slice p4 n4 c4) X1 from hA.1.below ((below_then fB fB.size hb)))
      exact hK.out _ _ ⟨hT1, fun _ _ => trivial⟩ (S_1_2_3_12 X.heap.size X1 (below_then fB fB.size hb) (by rw [hX]; exact RcBox.new _ _ _ _ _ _ _ _ _) (fB.size))
  have S_1_2_12 : ∀ (zr : Nat) (X : World) (fB : Below wA.heap.size wA X) (fR : RcBox X zr 0 (.slice none 0 0) (.slice none 0 0) 0 0 false (.slice none 0 0) (.slice none 0 0)) (fRz : wA.heap.size ≤ zr), wpTwo Tryz.prog .any ops Q (WkB b r (.slice p1 n1 c1) (.slice p2 n2 c2) (.slice p3 n3 c3) (.slice p4 n4 c4)) (fun _ => True) (fun _ => false) 12 #[true, true, true, false, false, false, false, false, false, false, false, false, true, false, false, false] { tmps := List.toArray (x0 :: .pointer (some ⟨b, 0, none⟩) :: x2 :: .pointer (some ⟨zr, 0, none⟩) :: undef :: undef :: undef :: undef :: undef :: undef :: undef :: undef :: undef :: undef :: undef :: undef :: undef :: undef :: x18 :: x19 :: x20 :: x21 :: undef :: .agg #[.int .i64 r.s.now, .slice p1 n1 c1, .slice p2 n2 c2, .int .i64 r.g.done, .int .i64 r.g.asked, .bool r.g.on, .slice p3 n3 c3, .slice p4 n4 c4] :: .agg #[.int .i64 3, .int .i64 0, .int .u64 7] :: .agg #[.int .i64 4, .int .i64 0, .int .u64 0] :: undef :: undef :: undef :: undef :: undef :: undef :: undef :: undef :: undef :: undef :: undef :: undef :: undef :: undef :: undef :: undef :: undef :: undef :: undef :: undef :: undef :: undef :: undef :: undef :: undef :: undef :: undef :: undef :: undef :: undef :: undef :: undef :: undef :: undef :: undef :: undef :: undef :: undef :: undef :: undef :: undef :: undef :: undef :: undef :: undef :: undef :: undef :: undef :: undef :: undef :: undef :: undef :: undef :: undef :: undef :: undef :: undef :: undef :: undef :: undef :: undef :: undef :: undef :: undef :: undef :: undef :: undef :: undef :: undef :: undef :: undef :: undef :: undef :: undef :: undef :: undef :: undef :: undef :: undef :: undef :: undef :: undef :: undef :: undef :: undef :: undef :: undef :: undef :: undef :: []), defers := [] } X := by
    clear S_1_2_3_4_5_6_7_12 S_1_2_3_4_5_6_7 S_1_2_3_4_5_6_12 S_1_2_3_4_5_6 S_1_2_3_4_5_12 S_1_2_3_4_5 S_1_2_3_4_12 S_1_2_3_4 S_1_2_3
    subst hops
    intro zr X fB fR fRz
    have hT := (show WkB b r (.slice p1 n1 c1) (.slice p2 n2 c2) (.slice p3 n3 c3) (.slice p4 n4 c4) X from hA.1.below (fB))
    refine wpTwo_ready (rs := [3]) (by kernel_rfl) (by simp) ?_
    refine (AllTwo.cons rfl (fun K hK => ?_) AllTwo.nil)
    · refine step_ent rfl (f := 28) (args := #[.int .i64 4, .int .i64 0, .int .u64 0]) (w' := X) (by kernel_rfl) (op_c 4 0 0 X) ?_
      rintro e X1 ⟨rfl, hb⟩
      refine ⟨_, rfl, ?_⟩
      have hT1 := (show WkB b r (.slice p1 n1 c1) (.slice p2 n2 c2) (.slice p3 n3 c3) (.slice p4 n4 c4) X1 from hA.1.below ((below_then fB fB.size hb)))
      exact hK.out _ _ ⟨hT1, fun _ _ => trivial⟩ (S_1_2_3_12 zr X1 (below_then fB fB.size hb) (fR.below hb) (fRz))
  have S_1_2 : ∀  (X : World) (fB : Below wA.heap.size wA X), wpTwo Tryz.prog .any ops Q (WkB b r (.slice p1 n1 c1) (.slice p2 n2 c2) (.slice p3 n3 c3) (.slice p4 n4 c4)) (fun _ => True) (fun _ => false) 13 #[true, true, true, false, false, false, false, false, false, false, false, false, false, false, false, false] { tmps := List.toArray (x0 :: .pointer (some ⟨b, 0, none⟩) :: x2 :: undef :: undef :: undef :: undef :: undef :: undef :: undef :: undef :: undef :: undef :: undef :: undef :: undef :: undef :: undef :: x18 :: x19 :: x20 :: x21 :: undef :: .agg #[.int .i64 r.s.now, .slice p1 n1 c1, .slice p2 n2 c2, .int .i64 r.g.done, .int .i64 r.g.asked, .bool r.g.on, .slice p3 n3 c3, .slice p4 n4 c4] :: .agg #[.int .i64 3, .int .i64 0, .int .u64 7] :: .agg #[.int .i64 4, .int .i64 0, .int .u64 0] :: undef :: undef :: undef :: undef :: undef :: undef :: undef :: undef :: undef :: undef :: undef :: undef :: undef :: undef :: undef :: undef :: undef :: undef :: undef :: undef :: undef :: undef :: undef :: undef :: undef :: undef :: undef :: undef :: undef :: undef :: undef :: undef :: undef :: undef :: undef :: undef :: undef :: undef :: undef :: undef :: undef :: undef :: undef :: undef :: undef :: undef :: undef :: undef :: undef :: undef :: undef :: undef :: undef :: undef :: undef :: undef :: undef :: undef :: undef :: undef :: undef :: undef :: undef :: undef :: undef :: undef :: undef :: undef :: undef :: undef :: undef :: undef :: undef :: undef :: undef :: undef :: undef :: undef :: undef :: undef :: undef :: undef :: undef :: undef :: undef :: undef :: undef :: undef :: undef :: []), defers := [] } X := by
    clear S_1_2_3_4_5_6_7_12 S_1_2_3_4_5_6_7 S_1_2_3_4_5_6_12 S_1_2_3_4_5_6 S_1_2_3_4_5_12 S_1_2_3_4_5 S_1_2_3_4_12 S_1_2_3_4 S_1_2_3_12
    subst hops
    intro X fB
    have hT := (show WkB b r (.slice p1 n1 c1) (.slice p2 n2 c2) (.slice p3 n3 c3) (.slice p4 n4 c4) X from hA.1.below (fB))
    refine wpTwo_ready (rs := [3, 12]) (by kernel_rfl) (by simp) ?_
    refine (AllTwo.cons rfl (fun K hK => ?_) (AllTwo.cons rfl (fun K hK => ?_) AllTwo.nil))
    · refine step_ent rfl (f := 28) (args := #[.int .i64 4, .int .i64 0, .int .u64 0]) (w' := X) (by kernel_rfl) (op_c 4 0 0 X) ?_
      rintro e X1 ⟨rfl, hb⟩
      refine ⟨_, rfl, ?_⟩
      have hT1 := (show WkB b r (.slice p1 n1 c1) (.slice p2 n2 c2) (.slice p3 n3 c3) (.slice p4 n4 c4) X1 from hA.1.below ((below_then fB fB.size hb)))
      exact hK.out _ _ ⟨hT1, fun _ _ => trivial⟩ (S_1_2_3 X1 (below_then fB fB.size hb))
    · refine step_val rfl (v := .pointer (some ⟨X.heap.size, 0, none⟩)) (w' := X.alloc (.cells #[.int .i64 0, .slice none 0 0, .slice none 0 0, .int .i64 0, .int .i64 0, .bool false, .slice none 0 0, .slice none 0 0] 30)) (by kernel_rfl) ?_
      obtain ⟨X1, hX⟩ : ∃ Y : World, Y = X.alloc (.cells #[.int .i64 0, .slice none 0 0, .slice none 0 0, .int .i64 0, .int .i64 0, .bool false, .slice none 0 0, .slice none 0 0] 30) := ⟨_, rfl⟩
      rw [← hX]
      have hb : Below X.heap.size X X1 := by rw [hX]; exact below1 _ _
      have hT1 := (show WkB b r (.slice p1 n1 c1) (.slice p2 n2 c2) (.slice p3 n3 c3) (.slice p4 n4 c4) X1 from hA.1.below ((below_then fB fB.size hb)))
      exact hK.out _ _ ⟨hT1, fun _ _ => trivial⟩ (S_1_2_12 X.heap.size X1 (below_then fB fB.size hb) (by rw [hX]; exact RcBox.new _ _ _ _ _ _ _ _ _) (fB.size))
  have S_1_12 : ∀ (zr : Nat) (X : World) (fB : Below wA.heap.size wA X) (fR : RcBox X zr 0 (.slice none 0 0) (.slice none 0 0) 0 0 false (.slice none 0 0) (.slice none 0 0)) (fRz : wA.heap.size ≤ zr), wpTwo Tryz.prog .any ops Q (WkB b r (.slice p1 n1 c1) (.slice p2 n2 c2) (.slice p3 n3 c3) (.slice p4 n4 c4)) (fun _ => True) (fun _ => false) 13 #[true, true, false, false, false, false, false, false, false, false, false, false, true, false, false, false] { tmps := List.toArray (x0 :: .pointer (some ⟨b, 0, none⟩) :: x2 :: .pointer (some ⟨zr, 0, none⟩) :: undef :: undef :: undef :: undef :: undef :: undef :: undef :: undef :: undef :: undef :: undef :: undef :: undef :: undef :: x18 :: x19 :: x20 :: x21 :: undef :: .agg #[.int .i64 r.s.now, .slice p1 n1 c1, .slice p2 n2 c2, .int .i64 r.g.done, .int .i64 r.g.asked, .bool r.g.on, .slice p3 n3 c3, .slice p4 n4 c4] :: .agg #[.int .i64 3, .int .i64 0, .int .u64 7] :: undef :: undef :: undef :: undef :: undef :: undef :: undef :: undef :: undef :: undef :: undef :: undef :: undef :: undef :: undef :: undef :: undef :: undef :: undef :: undef :: undef :: undef :: undef :: undef :: undef :: undef :: undef :: undef :: undef :: undef :: undef :: undef :: undef :: undef :: undef :: undef :: undef :: undef :: undef :: undef :: undef :: undef :: undef :: undef :: undef :: undef :: undef :: undef :: undef :: undef :: undef :: undef :: undef :: undef :: undef :: undef :: undef :: undef :: undef :: undef :: undef :: undef :: undef :: undef :: undef :: undef :: undef :: undef :: undef :: undef :: undef :: undef :: undef :: undef :: undef :: undef :: undef :: undef :: undef :: undef :: undef :: undef :: undef :: undef :: undef :: undef :: undef :: undef :: undef :: undef :: []), defers := [] } X := by
    clear S_1_2_3_4_5_6_7_12 S_1_2_3_4_5_6_7 S_1_2_3_4_5_6_12 S_1_2_3_4_5_6 S_1_2_3_4_5_12 S_1_2_3_4_5 S_1_2_3_4_12 S_1_2_3_4 S_1_2_3_12 S_1_2_3 S_1_2
    subst hops
    intro zr X fB fR fRz
    have hT := (show WkB b r (.slice p1 n1 c1) (.slice p2 n2 c2) (.slice p3 n3 c3) (.slice p4 n4 c4) X from hA.1.below (fB))
    refine wpTwo_ready (rs := [2]) (by kernel_rfl) (by simp) ?_
    refine (AllTwo.cons rfl (fun K hK => ?_) AllTwo.nil)
    · refine step_ent rfl (f := 28) (args := #[.int .i64 4, .int .i64 0, .int .u64 0]) (w' := X) (by kernel_rfl) (op_c 4 0 0 X) ?_
      rintro e X1 ⟨rfl, hb⟩
      refine ⟨_, rfl, ?_⟩
      have hT1 := (show WkB b r (.slice p1 n1 c1) (.slice p2 n2 c2) (.slice p3 n3 c3) (.slice p4 n4 c4) X1 from hA.1.below ((below_then fB fB.size hb)))
      exact hK.out _ _ ⟨hT1, fun _ _ => trivial⟩ (S_1_2_12 zr X1 (below_then fB fB.size hb) (fR.below hb) (fRz))
  have S_1 : ∀  (X : World) (fB : Below wA.heap.size wA X), wpTwo Tryz.prog .any ops Q (WkB b r (.slice p1 n1 c1) (.slice p2 n2 c2) (.slice p3 n3 c3) (.slice p4 n4 c4)) (fun _ => True) (fun _ => false) 14 #[true, true, false, false, false, false, false, false, false, false, false, false, false, false, false, false] { tmps := List.toArray (x0 :: .pointer (some ⟨b, 0, none⟩) :: x2 :: undef :: undef :: undef :: undef :: undef :: undef :: undef :: undef :: undef :: undef :: undef :: undef :: undef :: undef :: undef :: x18 :: x19 :: x20 :: x21 :: undef :: .agg #[.int .i64 r.s.now, .slice p1 n1 c1, .slice p2 n2 c2, .int .i64 r.g.done, .int .i64 r.g.asked, .bool r.g.on, .slice p3 n3 c3, .slice p4 n4 c4] :: .agg #[.int .i64 3, .int .i64 0, .int .u64 7] :: undef :: undef :: undef :: undef :: undef :: undef :: undef :: undef :: undef :: undef :: undef :: undef :: undef :: undef :: undef :: undef :: undef :: undef :: undef :: undef :: undef :: undef :: undef :: undef :: undef :: undef :: undef :: undef :: undef :: undef :: undef :: undef :: undef :: undef :: undef :: undef :: undef :: undef :: undef :: undef :: undef :: undef :: undef :: undef :: undef :: undef :: undef :: undef :: undef :: undef :: undef :: undef :: undef :: undef :: undef :: undef :: undef :: undef :: undef :: undef :: undef :: undef :: undef :: undef :: undef :: undef :: undef :: undef :: undef :: undef :: undef :: undef :: undef :: undef :: undef :: undef :: undef :: undef :: undef :: undef :: undef :: undef :: undef :: undef :: undef :: undef :: undef :: undef :: undef :: undef :: []), defers := [] } X := by
    clear S_1_2_3_4_5_6_7_12 S_1_2_3_4_5_6_7 S_1_2_3_4_5_6_12 S_1_2_3_4_5_6 S_1_2_3_4_5_12 S_1_2_3_4_5 S_1_2_3_4_12 S_1_2_3_4 S_1_2_3_12 S_1_2_3 S_1_2_12
    subst hops
    intro X fB
    have hT := (show WkB b r (.slice p1 n1 c1) (.slice p2 n2 c2) (.slice p3 n3 c3) (.slice p4 n4 c4) X from hA.1.below (fB))
    refine wpTwo_ready (rs := [2, 12]) (by kernel_rfl) (by simp) ?_
    refine (AllTwo.cons rfl (fun K hK => ?_) (AllTwo.cons rfl (fun K hK => ?_) AllTwo.nil))
    · refine step_ent rfl (f := 28) (args := #[.int .i64 4, .int .i64 0, .int .u64 0]) (w' := X) (by kernel_rfl) (op_c 4 0 0 X) ?_
      rintro e X1 ⟨rfl, hb⟩
      refine ⟨_, rfl, ?_⟩
      have hT1 := (show WkB b r (.slice p1 n1 c1) (.slice p2 n2 c2) (.slice p3 n3 c3) (.slice p4 n4 c4) X1 from hA.1.below ((below_then fB fB.size hb)))
      exact hK.out _ _ ⟨hT1, fun _ _ => trivial⟩ (S_1_2 X1 (below_then fB fB.size hb))
    · refine step_val rfl (v := .pointer (some ⟨X.heap.size, 0, none⟩)) (w' := X.alloc (.cells #[.int .i64 0, .slice none 0 0, .slice none 0 0, .int .i64 0, .int .i64 0, .bool false, .slice none 0 0, .slice none 0 0] 30)) (by kernel_rfl) ?_
      obtain ⟨X1, hX⟩ : ∃ Y : World, Y = X.alloc (.cells #[.int .i64 0, .slice none 0 0, .slice none 0 0, .int .i64 0, .int .i64 0, .bool false, .slice none 0 0, .slice none 0 0] 30) := ⟨_, rfl⟩
      rw [← hX]
      have hb : Below X.heap.size X X1 := by rw [hX]; exact below1 _ _
      have hT1 := (show WkB b r (.slice p1 n1 c1) (.slice p2 n2 c2) (.slice p3 n3 c3) (.slice p4 n4 c4) X1 from hA.1.below ((below_then fB fB.size hb)))
      exact hK.out _ _ ⟨hT1, fun _ _ => trivial⟩ (S_1_12 X.heap.size X1 (below_then fB fB.size hb) (by rw [hX]; exact RcBox.new _ _ _ _ _ _ _ _ _) (fB.size))
  have S_12 : ∀ (zr : Nat) (X : World) (fB : Below wA.heap.size wA X) (fR : RcBox X zr 0 (.slice none 0 0) (.slice none 0 0) 0 0 false (.slice none 0 0) (.slice none 0 0)) (fRz : wA.heap.size ≤ zr), wpTwo Tryz.prog .any ops Q (WkB b r (.slice p1 n1 c1) (.slice p2 n2 c2) (.slice p3 n3 c3) (.slice p4 n4 c4)) (fun _ => True) (fun _ => false) 14 #[true, false, false, false, false, false, false, false, false, false, false, false, true, false, false, false] { tmps := List.toArray (x0 :: .pointer (some ⟨b, 0, none⟩) :: x2 :: .pointer (some ⟨zr, 0, none⟩) :: undef :: undef :: undef :: undef :: undef :: undef :: undef :: undef :: undef :: undef :: undef :: undef :: undef :: undef :: x18 :: x19 :: x20 :: x21 :: undef :: .agg #[.int .i64 r.s.now, .slice p1 n1 c1, .slice p2 n2 c2, .int .i64 r.g.done, .int .i64 r.g.asked, .bool r.g.on, .slice p3 n3 c3, .slice p4 n4 c4] :: undef :: undef :: undef :: undef :: undef :: undef :: undef :: undef :: undef :: undef :: undef :: undef :: undef :: undef :: undef :: undef :: undef :: undef :: undef :: undef :: undef :: undef :: undef :: undef :: undef :: undef :: undef :: undef :: undef :: undef :: undef :: undef :: undef :: undef :: undef :: undef :: undef :: undef :: undef :: undef :: undef :: undef :: undef :: undef :: undef :: undef :: undef :: undef :: undef :: undef :: undef :: undef :: undef :: undef :: undef :: undef :: undef :: undef :: undef :: undef :: undef :: undef :: undef :: undef :: undef :: undef :: undef :: undef :: undef :: undef :: undef :: undef :: undef :: undef :: undef :: undef :: undef :: undef :: undef :: undef :: undef :: undef :: undef :: undef :: undef :: undef :: undef :: undef :: undef :: undef :: undef :: []), defers := [] } X := by
    clear S_1_2_3_4_5_6_7_12 S_1_2_3_4_5_6_7 S_1_2_3_4_5_6_12 S_1_2_3_4_5_6 S_1_2_3_4_5_12 S_1_2_3_4_5 S_1_2_3_4_12 S_1_2_3_4 S_1_2_3_12 S_1_2_3 S_1_2_12 S_1_2 S_1
    subst hops
    intro zr X fB fR fRz
    have hT := (show WkB b r (.slice p1 n1 c1) (.slice p2 n2 c2) (.slice p3 n3 c3) (.slice p4 n4 c4) X from hA.1.below (fB))
    refine wpTwo_ready (rs := [1]) (by kernel_rfl) (by simp) ?_
    refine (AllTwo.cons rfl (fun K hK => ?_) AllTwo.nil)
    · refine step_ent rfl (f := 28) (args := #[.int .i64 3, .int .i64 0, .int .u64 7]) (w' := X) (by kernel_rfl) (op_c 3 0 7 X) ?_
      rintro e X1 ⟨rfl, hb⟩
      refine ⟨_, rfl, ?_⟩
      have hT1 := (show WkB b r (.slice p1 n1 c1) (.slice p2 n2 c2) (.slice p3 n3 c3) (.slice p4 n4 c4) X1 from hA.1.below ((below_then fB fB.size hb)))
      exact hK.out _ _ ⟨hT1, fun _ _ => trivial⟩ (S_1_12 zr X1 (below_then fB fB.size hb) (fR.below hb) (fRz))
  have S_o : ∀  (X : World) (fB : Below wA.heap.size wA X), wpTwo Tryz.prog .any ops Q (WkB b r (.slice p1 n1 c1) (.slice p2 n2 c2) (.slice p3 n3 c3) (.slice p4 n4 c4)) (fun _ => True) (fun _ => false) 15 #[true, false, false, false, false, false, false, false, false, false, false, false, false, false, false, false] { tmps := List.toArray (x0 :: .pointer (some ⟨b, 0, none⟩) :: x2 :: undef :: undef :: undef :: undef :: undef :: undef :: undef :: undef :: undef :: undef :: undef :: undef :: undef :: undef :: undef :: x18 :: x19 :: x20 :: x21 :: undef :: .agg #[.int .i64 r.s.now, .slice p1 n1 c1, .slice p2 n2 c2, .int .i64 r.g.done, .int .i64 r.g.asked, .bool r.g.on, .slice p3 n3 c3, .slice p4 n4 c4] :: undef :: undef :: undef :: undef :: undef :: undef :: undef :: undef :: undef :: undef :: undef :: undef :: undef :: undef :: undef :: undef :: undef :: undef :: undef :: undef :: undef :: undef :: undef :: undef :: undef :: undef :: undef :: undef :: undef :: undef :: undef :: undef :: undef :: undef :: undef :: undef :: undef :: undef :: undef :: undef :: undef :: undef :: undef :: undef :: undef :: undef :: undef :: undef :: undef :: undef :: undef :: undef :: undef :: undef :: undef :: undef :: undef :: undef :: undef :: undef :: undef :: undef :: undef :: undef :: undef :: undef :: undef :: undef :: undef :: undef :: undef :: undef :: undef :: undef :: undef :: undef :: undef :: undef :: undef :: undef :: undef :: undef :: undef :: undef :: undef :: undef :: undef :: undef :: undef :: undef :: undef :: []), defers := [] } X := by
    clear S_1_2_3_4_5_6_7_12 S_1_2_3_4_5_6_7 S_1_2_3_4_5_6_12 S_1_2_3_4_5_6 S_1_2_3_4_5_12 S_1_2_3_4_5 S_1_2_3_4_12 S_1_2_3_4 S_1_2_3_12 S_1_2_3 S_1_2_12 S_1_2 S_1_12
    subst hops
    intro X fB
    have hT := (show WkB b r (.slice p1 n1 c1) (.slice p2 n2 c2) (.slice p3 n3 c3) (.slice p4 n4 c4) X from hA.1.below (fB))
    refine wpTwo_ready (rs := [1, 12]) (by kernel_rfl) (by simp) ?_
    refine (AllTwo.cons rfl (fun K hK => ?_) (AllTwo.cons rfl (fun K hK => ?_) AllTwo.nil))
    · refine step_ent rfl (f := 28) (args := #[.int .i64 3, .int .i64 0, .int .u64 7]) (w' := X) (by kernel_rfl) (op_c 3 0 7 X) ?_
      rintro e X1 ⟨rfl, hb⟩
      refine ⟨_, rfl, ?_⟩
      have hT1 := (show WkB b r (.slice p1 n1 c1) (.slice p2 n2 c2) (.slice p3 n3 c3) (.slice p4 n4 c4) X1 from hA.1.below ((below_then fB fB.size hb)))
      exact hK.out _ _ ⟨hT1, fun _ _ => trivial⟩ (S_1 X1 (below_then fB fB.size hb))
    · refine step_val rfl (v := .pointer (some ⟨X.heap.size, 0, none⟩)) (w' := X.alloc (.cells #[.int .i64 0, .slice none 0 0, .slice none 0 0, .int .i64 0, .int .i64 0, .bool false, .slice none 0 0, .slice none 0 0] 30)) (by kernel_rfl) ?_
      obtain ⟨X1, hX⟩ : ∃ Y : World, Y = X.alloc (.cells #[.int .i64 0, .slice none 0 0, .slice none 0 0, .int .i64 0, .int .i64 0, .bool false, .slice none 0 0, .slice none 0 0] 30) := ⟨_, rfl⟩
      rw [← hX]
      have hb : Below X.heap.size X X1 := by rw [hX]; exact below1 _ _
      have hT1 := (show WkB b r (.slice p1 n1 c1) (.slice p2 n2 c2) (.slice p3 n3 c3) (.slice p4 n4 c4) X1 from hA.1.below ((below_then fB fB.size hb)))
      exact hK.out _ _ ⟨hT1, fun _ _ => trivial⟩ (S_12 X.heap.size X1 (below_then fB fB.size hb) (by rw [hX]; exact RcBox.new _ _ _ _ _ _ _ _ _) (fB.size))
  clear S_1_2_3_4_5_6_7_12 S_1_2_3_4_5_6_7 S_1_2_3_4_5_6_12 S_1_2_3_4_5_6 S_1_2_3_4_5_12 S_1_2_3_4_5 S_1_2_3_4_12 S_1_2_3_4 S_1_2_3_12 S_1_2_3 S_1_2_12 S_1_2 S_1_12 S_1 S_12
  subst hops
  refine wpTwo_begin (T := (WkB b r (.slice p1 n1 c1) (.slice p2 n2 c2) (.slice p3 n3 c3) (.slice p4 n4 c4))) (S := fun _ => True) (late := fun _ => false) (by kernel_rfl) ?_
  obtain ⟨X0, hX0⟩ : ∃ X : World, X = wA.drew := ⟨_, rfl⟩
  rw [← hX0]
  have fB : Below wA.heap.size wA X0 := by rw [hX0]; exact (Below.refl _ _).drew
  have hT := (show WkB b r (.slice p1 n1 c1) (.slice p2 n2 c2) (.slice p3 n3 c3) (.slice p4 n4 c4) X0 from hA.1.below (fB))
  clear hX0
  refine wpTwo_takeT (i := 0) (v := .agg #[.int .i64 r.s.now, .slice p1 n1 c1, .slice p2 n2 c2, .int .i64 r.g.done, .int .i64 r.g.asked, .bool r.g.on, .slice p3 n3 c3, .slice p4 n4 c4]) rfl (by kernel_rfl) (by kernel_rfl) (by kernel_rfl) (fun c a w h => hQp c a _ _ w h) ⟨by rfl, ?_⟩ hT ?_
  · rintro w hTw
    obtain ⟨t0', t1', t2', t3', t4', t5', t6', t7'⟩ := hTw.cells
    go_simp
  (try simp only [Act.put, List.getElem_toArray, List.getElem_cons_zero, List.setIfInBounds_toArray, List.set_cons_succ, List.set_cons_zero])
  exact S_o X0 fB

end Go.Proofs.YtdllhiihmpinoaaGreat
