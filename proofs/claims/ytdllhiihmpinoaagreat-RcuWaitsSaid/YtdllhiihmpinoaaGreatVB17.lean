/-
  Package rcu: Settle, out of what its turn does; what it answers where a section is open.
  Conditions: the ranges of Go's types.
-/
import Derived.Test.YtdllhiihmpinoaaGreatVB13
import Derived.Test.YtdllhiihmpinoaaGreatVB12
/-
  The regions of the first test of the statements of layer 14 that draw their order: region 4.
  Conditions: none.
-/
namespace Go.Proofs.YtdllhiihmpinoaaGreat
set_option maxRecDepth 100000
open Go.RowKit Go.Shelf
attribute [local go_sem] Oper.semAt_some

noncomputable def wkOps4 : Array Oper := (regOps 4 (Tryz.f7.body.getD .skip)).getD #[]
set_option maxHeartbeats 32000000 in
theorem wk_reg4 (b : Nat) (r : RcS) (p1 : Option Addr) (n1 c1 : Nat) (p2 : Option Addr) (n2 c2 : Nat) (p3 : Option Addr) (n3 c3 : Nat) (p4 : Option Addr) (n4 c4 : Nat) (x0 x1 x2 x3 x4 x5 x7 x8 x18 x19 x20 x21 x22 x23 x24 x25 x26 x27 x28 x29 x30 x31 x32 x33 x34 x35 x36 x37 x38 x39 x40 x41 x42 x43 x44 x45 : Value) (wA : World) (hA : WkA b r (.slice p1 n1 c1) (.slice p2 n2 c2) (.slice p3 n3 c3) (.slice p4 n4 c4) wA) (hr : RcR r) (hE : stepAE r (5, 0, 0) = 4) (ops : Array Oper) (hops : ops = wkOps4) (Q : Exit → Act → World → Prop) (hQp : ∀ c (a : Act) i v w, Q (.panic c) (a.put i v) w → Q (.panic c) a w) (hQ : ∀ (zr : Nat) (X : World), Below wA.heap.size wA X → Q .normal { tmps := List.toArray (x0 :: x1 :: x2 :: x3 :: x4 :: x5 :: .pointer (some ⟨b, 0, none⟩) :: x7 :: x8 :: .pointer (some ⟨zr, 0, none⟩) :: .int .u64 0 :: .int .i64 4 :: undef :: undef :: undef :: undef :: undef :: undef :: x18 :: x19 :: x20 :: x21 :: x22 :: x23 :: x24 :: x25 :: x26 :: x27 :: x28 :: x29 :: x30 :: x31 :: x32 :: x33 :: x34 :: x35 :: x36 :: x37 :: x38 :: x39 :: x40 :: x41 :: x42 :: x43 :: x44 :: x45 :: .tuple #[.agg #[.int .i64 0, .slice none 0 0, .slice none 0 0, .int .i64 0, .int .i64 0, .bool false, .slice none 0 0, .slice none 0 0], .int .u64 0, .int .i64 4] :: .agg #[.int .i64 r.s.now, .slice p1 n1 c1, .slice p2 n2 c2, .int .i64 r.g.done, .int .i64 r.g.asked, .bool r.g.on, .slice p3 n3 c3, .slice p4 n4 c4] :: .agg #[.int .i64 5, .int .i64 0, .int .u64 0] :: .tuple #[.agg #[.int .i64 0, .slice none 0 0, .slice none 0 0, .int .i64 0, .int .i64 0, .bool false, .slice none 0 0, .slice none 0 0], .int .u64 0, .int .i64 4] :: .agg #[.int .i64 0, .slice none 0 0, .slice none 0 0, .int .i64 0, .int .i64 0, .bool false, .slice none 0 0, .slice none 0 0] :: .int .u64 0 :: .int .i64 4 :: undef :: undef :: undef :: undef :: undef :: undef :: undef :: undef :: undef :: undef :: undef :: undef :: undef :: undef :: undef :: undef :: undef :: undef :: undef :: undef :: undef :: undef :: undef :: undef :: undef :: undef :: undef :: undef :: undef :: undef :: undef :: undef :: undef :: undef :: undef :: undef :: undef :: undef :: undef :: undef :: undef :: undef :: undef :: undef :: undef :: undef :: undef :: undef :: undef :: undef :: undef :: undef :: undef :: undef :: undef :: undef :: undef :: undef :: undef :: undef :: undef :: undef :: []), defers := [] } X) :
    (Code.region 4 ops true).wp Tryz.prog Q { tmps := List.toArray (x0 :: x1 :: x2 :: x3 :: x4 :: x5 :: .pointer (some ⟨b, 0, none⟩) :: x7 :: x8 :: undef :: undef :: undef :: undef :: undef :: undef :: undef :: undef :: undef :: x18 :: x19 :: x20 :: x21 :: x22 :: x23 :: x24 :: x25 :: x26 :: x27 :: x28 :: x29 :: x30 :: x31 :: x32 :: x33 :: x34 :: x35 :: x36 :: x37 :: x38 :: x39 :: x40 :: x41 :: x42 :: x43 :: x44 :: x45 :: undef :: undef :: undef :: undef :: undef :: undef :: undef :: undef :: undef :: undef :: undef :: undef :: undef :: undef :: undef :: undef :: undef :: undef :: undef :: undef :: undef :: undef :: undef :: undef :: undef :: undef :: undef :: undef :: undef :: undef :: undef :: undef :: undef :: undef :: undef :: undef :: undef :: undef :: undef :: undef :: undef :: undef :: undef :: undef :: undef :: undef :: undef :: undef :: undef :: undef :: undef :: undef :: undef :: undef :: undef :: undef :: undef :: undef :: undef :: undef :: undef :: undef :: undef :: undef :: undef :: undef :: undef :: undef :: undef :: []), defers := [] } wA := by
  have HPL : ∀ (Z : World) (_ : Below wA.heap.size wA Z), Calls Tryz.prog 11 #[.agg #[.int .i64 r.s.now, .slice p1 n1 c1, .slice p2 n2 c2, .int .i64 r.g.done, .int .i64 r.g.asked, .bool r.g.on, .slice p3 n3 c3, .slice p4 n4 c4], .agg #[.int .i64 5, .int .i64 0, .int .u64 0]] Z fun e w' => e = .returned (.tuple #[.agg #[.int .i64 0, .slice none 0 0, .slice none 0 0, .int .i64 0, .int .i64 0, .bool false, .slice none 0 0, .slice none 0 0], .int .u64 0, .int .i64 4]) ∧ Below Z.heap.size Z w' := fun Z hZ => wk_step 5 0 0 4 (by decide) hE hr _ _ _ _ Z (hA.2.below hZ)
  simp only [wkOps4, Tryz.f7, Option.getD, regOps, reduceIte, Nat.reduceEqDiff] at hops
  have S_1_2_7 : ∀ (zr : Nat) (X : World) (fB : Below wA.heap.size wA X) (fR : RcBox X zr 0 (.slice none 0 0) (.slice none 0 0) 0 0 false (.slice none 0 0) (.slice none 0 0)) (fRz : wA.heap.size ≤ zr), wpTwo Tryz.prog .any ops Q (WkB b r (.slice p1 n1 c1) (.slice p2 n2 c2) (.slice p3 n3 c3) (.slice p4 n4 c4)) (fun _ => True) (fun _ => false) 3 #[true, true, true, true, true, true, true, true, false, false, false] { tmps := List.toArray (x0 :: x1 :: x2 :: x3 :: x4 :: x5 :: .pointer (some ⟨b, 0, none⟩) :: x7 :: x8 :: .pointer (some ⟨zr, 0, none⟩) :: undef :: undef :: undef :: undef :: undef :: undef :: undef :: undef :: x18 :: x19 :: x20 :: x21 :: x22 :: x23 :: x24 :: x25 :: x26 :: x27 :: x28 :: x29 :: x30 :: x31 :: x32 :: x33 :: x34 :: x35 :: x36 :: x37 :: x38 :: x39 :: x40 :: x41 :: x42 :: x43 :: x44 :: x45 :: .tuple #[.agg #[.int .i64 0, .slice none 0 0, .slice none 0 0, .int .i64 0, .int .i64 0, .bool false, .slice none 0 0, .slice none 0 0], .int .u64 0, .int .i64 4] :: .agg #[.int .i64 r.s.now, .slice p1 n1 c1, .slice p2 n2 c2, .int .i64 r.g.done, .int .i64 r.g.asked, .bool r.g.on, .slice p3 n3 c3, .slice p4 n4 c4] :: .agg #[.int .i64 5, .int .i64 0, .int .u64 0] :: .tuple #[.agg #[.int .i64 0, .slice none 0 0, .slice none 0 0, .int .i64 0, .int .i64 0, .bool false, .slice none 0 0, .slice none 0 0], .int .u64 0, .int .i64 4] :: .agg #[.int .i64 0, .slice none 0 0, .slice none 0 0, .int .i64 0, .int .i64 0, .bool false, .slice none 0 0, .slice none 0 0] :: .int .u64 0 :: .int .i64 4 :: undef :: undef :: undef :: undef :: undef :: undef :: undef :: undef :: undef :: undef :: undef :: undef :: undef :: undef :: undef :: undef :: undef :: undef :: undef :: undef :: undef :: undef :: undef :: undef :: undef :: undef :: undef :: undef :: undef :: undef :: undef :: undef :: undef :: undef :: undef :: undef :: undef :: undef :: undef :: undef :: undef :: undef :: undef :: undef :: undef :: undef :: undef :: undef :: undef :: undef :: undef :: undef :: undef :: undef :: undef :: undef :: undef :: undef :: undef :: undef :: undef :: undef :: []), defers := [] } X := by
    subst hops
    intro zr X fB fR fRz
    have hT := (show WkB b r (.slice p1 n1 c1) (.slice p2 n2 c2) (.slice p3 n3 c3) (.slice p4 n4 c4) X from hA.1.below (fB))
    refine wpTwo_ready (rs := [8]) (by kernel_rfl) (by simp) ?_
    refine (AllTwo.cons rfl (fun K hK => ?_) AllTwo.nil)
    obtain ⟨d0, d1, d2, d3, d4, d5, d6, d7⟩ := fR.cells
    have v0 := fR.marks 0
    have v1 := fR.marks 1
    have v2 := fR.marks 2
    have v3 := fR.marks 3
    have v4 := fR.marks 4
    have v5 := fR.marks 5
    have v6 := fR.marks 6
    have v7 := fR.marks 7
    obtain ⟨Xa, hXa⟩ : ∃ Y : World, Y = ((((((((X.setCell ⟨zr, 0, none⟩ (.int .i64 0)).setCell ⟨zr, 1, none⟩ (.slice none 0 0)).setCell ⟨zr, 2, none⟩ (.slice none 0 0)).setCell ⟨zr, 3, none⟩ (.int .i64 0)).setCell ⟨zr, 4, none⟩ (.int .i64 0)).setCell ⟨zr, 5, none⟩ (.bool false)).setCell ⟨zr, 6, none⟩ (.slice none 0 0)).setCell ⟨zr, 7, none⟩ (.slice none 0 0)) := ⟨_, rfl⟩
    have HFA := Lib.hid (show WkB b r (.slice p1 n1 c1) (.slice p2 n2 c2) (.slice p3 n3 c3) (.slice p4 n4 c4) Xa ∧ Below wA.heap.size wA Xa from by
      have hk : Keeps (fun k => k = zr) X Xa := by rw [hXa]; exact RcBox.putAllK X zr _ _ _ _ _ _ _ _
      have hbl := fB.trans (hk.below fB.size (fun k e => by omega))
      exact ⟨hA.1.below hbl, hbl⟩)
    have hTa := HFA.out.1
    go_simp
    rw [← hXa]
    refine hK.out _ _ ⟨hTa, fun _ _ => trivial⟩ ?_
    clear hK K d0 d1 d2 d3 d4 d5 d6 d7 v0 v1 v2 v3 v4 v5 v6 v7 hXa
    (try simp only [Act.put])
    refine wpTwo_takeT (i := 9) (v := .int .u64 0) rfl (by kernel_rfl) (by kernel_rfl) (by kernel_rfl) (fun c a w h => hQp c a _ _ w h) ⟨by rfl, ?_⟩ hTa ?_
    · rintro w hTw
      go_simp
    (try simp only [Act.put, List.getElem_toArray, List.getElem_cons_succ, List.getElem_cons_zero, List.setIfInBounds_toArray, List.set_cons_succ, List.set_cons_zero])
    refine wpTwo_takeT (i := 10) (v := .int .i64 4) rfl (by kernel_rfl) (by kernel_rfl) (by kernel_rfl) (fun c a w h => hQp c a _ _ w h) ⟨by rfl, ?_⟩ hTa ?_
    · rintro w hTw
      go_simp
    (try simp only [Act.put, List.getElem_toArray, List.getElem_cons_succ, List.getElem_cons_zero, List.setIfInBounds_toArray, List.set_cons_succ, List.set_cons_zero])
    refine wpTwo_end (by kernel_rfl) ?_ _
    exact hQ zr Xa HFA.out.2
  have S_1_2 : ∀  (X : World) (fB : Below wA.heap.size wA X), wpTwo Tryz.prog .any ops Q (WkB b r (.slice p1 n1 c1) (.slice p2 n2 c2) (.slice p3 n3 c3) (.slice p4 n4 c4)) (fun _ => True) (fun _ => false) 4 #[true, true, true, true, true, true, true, false, false, false, false] { tmps := List.toArray (x0 :: x1 :: x2 :: x3 :: x4 :: x5 :: .pointer (some ⟨b, 0, none⟩) :: x7 :: x8 :: undef :: undef :: undef :: undef :: undef :: undef :: undef :: undef :: undef :: x18 :: x19 :: x20 :: x21 :: x22 :: x23 :: x24 :: x25 :: x26 :: x27 :: x28 :: x29 :: x30 :: x31 :: x32 :: x33 :: x34 :: x35 :: x36 :: x37 :: x38 :: x39 :: x40 :: x41 :: x42 :: x43 :: x44 :: x45 :: .tuple #[.agg #[.int .i64 0, .slice none 0 0, .slice none 0 0, .int .i64 0, .int .i64 0, .bool false, .slice none 0 0, .slice none 0 0], .int .u64 0, .int .i64 4] :: .agg #[.int .i64 r.s.now, .slice p1 n1 c1, .slice p2 n2 c2, .int .i64 r.g.done, .int .i64 r.g.asked, .bool r.g.on, .slice p3 n3 c3, .slice p4 n4 c4] :: .agg #[.int .i64 5, .int .i64 0, .int .u64 0] :: .tuple #[.agg #[.int .i64 0, .slice none 0 0, .slice none 0 0, .int .i64 0, .int .i64 0, .bool false, .slice none 0 0, .slice none 0 0], .int .u64 0, .int .i64 4] :: .agg #[.int .i64 0, .slice none 0 0, .slice none 0 0, .int .i64 0, .int .i64 0, .bool false, .slice none 0 0, .slice none 0 0] :: .int .u64 0 :: .int .i64 4 :: undef :: undef :: undef :: undef :: undef :: undef :: undef :: undef :: undef :: undef :: undef :: undef :: undef :: undef :: undef :: undef :: undef :: undef :: undef :: undef :: undef :: undef :: undef :: undef :: undef :: undef :: undef :: undef :: undef :: undef :: undef :: undef :: undef :: undef :: undef :: undef :: undef :: undef :: undef :: undef :: undef :: undef :: undef :: undef :: undef :: undef :: undef :: undef :: undef :: undef :: undef :: undef :: undef :: undef :: undef :: undef :: undef :: undef :: undef :: undef :: undef :: undef :: []), defers := [] } X := by
    subst hops
    intro X fB
    have hT := (show WkB b r (.slice p1 n1 c1) (.slice p2 n2 c2) (.slice p3 n3 c3) (.slice p4 n4 c4) X from hA.1.below (fB))
    refine wpTwo_ready (rs := [7]) (by kernel_rfl) (by simp) ?_
    refine (AllTwo.cons rfl (fun K hK => ?_) AllTwo.nil)
    · refine step_val rfl (v := .pointer (some ⟨X.heap.size, 0, none⟩)) (w' := X.alloc (.cells #[.int .i64 0, .slice none 0 0, .slice none 0 0, .int .i64 0, .int .i64 0, .bool false, .slice none 0 0, .slice none 0 0] 30)) (by kernel_rfl) ?_
      obtain ⟨X1, hX⟩ : ∃ Y : World, Y = X.alloc (.cells #[.int .i64 0, .slice none 0 0, .slice none 0 0, .int .i64 0, .int .i64 0, .bool false, .slice none 0 0, .slice none 0 0] 30) := ⟨_, rfl⟩
      rw [← hX]
      have hb : Below X.heap.size X X1 := by rw [hX]; exact below1 _ _
      have hT1 := (show WkB b r (.slice p1 n1 c1) (.slice p2 n2 c2) (.slice p3 n3 c3) (.slice p4 n4 c4) X1 from hA.1.below ((below_then fB fB.size hb)))
      exact hK.out _ _ ⟨hT1, fun _ _ => trivial⟩ (S_1_2_7 X.heap.size X1 (below_then fB fB.size hb) (by rw [hX]; exact RcBox.new _ _ _ _ _ _ _ _ _) (fB.size))
  have S_1_7 : ∀ (zr : Nat) (X : World) (fB : Below wA.heap.size wA X) (fR : RcBox X zr 0 (.slice none 0 0) (.slice none 0 0) 0 0 false (.slice none 0 0) (.slice none 0 0)) (fRz : wA.heap.size ≤ zr), wpTwo Tryz.prog .any ops Q (WkB b r (.slice p1 n1 c1) (.slice p2 n2 c2) (.slice p3 n3 c3) (.slice p4 n4 c4)) (fun _ => True) (fun _ => false) 8 #[true, true, false, false, false, false, false, true, false, false, false] { tmps := List.toArray (x0 :: x1 :: x2 :: x3 :: x4 :: x5 :: .pointer (some ⟨b, 0, none⟩) :: x7 :: x8 :: .pointer (some ⟨zr, 0, none⟩) :: undef :: undef :: undef :: undef :: undef :: undef :: undef :: undef :: x18 :: x19 :: x20 :: x21 :: x22 :: x23 :: x24 :: x25 :: x26 :: x27 :: x28 :: x29 :: x30 :: x31 :: x32 :: x33 :: x34 :: x35 :: x36 :: x37 :: x38 :: x39 :: x40 :: x41 :: x42 :: x43 :: x44 :: x45 :: undef :: .agg #[.int .i64 r.s.now, .slice p1 n1 c1, .slice p2 n2 c2, .int .i64 r.g.done, .int .i64 r.g.asked, .bool r.g.on, .slice p3 n3 c3, .slice p4 n4 c4] :: .agg #[.int .i64 5, .int .i64 0, .int .u64 0] :: undef :: undef :: undef :: undef :: undef :: undef :: undef :: undef :: undef :: undef :: undef :: undef :: undef :: undef :: undef :: undef :: undef :: undef :: undef :: undef :: undef :: undef :: undef :: undef :: undef :: undef :: undef :: undef :: undef :: undef :: undef :: undef :: undef :: undef :: undef :: undef :: undef :: undef :: undef :: undef :: undef :: undef :: undef :: undef :: undef :: undef :: undef :: undef :: undef :: undef :: undef :: undef :: undef :: undef :: undef :: undef :: undef :: undef :: undef :: undef :: undef :: undef :: undef :: undef :: undef :: undef :: []), defers := [] } X := by
    clear S_1_2
    subst hops
    intro zr X fB fR fRz
    have hT := (show WkB b r (.slice p1 n1 c1) (.slice p2 n2 c2) (.slice p3 n3 c3) (.slice p4 n4 c4) X from hA.1.below (fB))
    refine wpTwo_ready (rs := [2]) (by kernel_rfl) (by simp) ?_
    refine (AllTwo.cons rfl (fun K hK => ?_) AllTwo.nil)
    · refine step_ent rfl (f := 11) (args := #[.agg #[.int .i64 r.s.now, .slice p1 n1 c1, .slice p2 n2 c2, .int .i64 r.g.done, .int .i64 r.g.asked, .bool r.g.on, .slice p3 n3 c3, .slice p4 n4 c4], .agg #[.int .i64 5, .int .i64 0, .int .u64 0]]) (w' := X) (by kernel_rfl) (HPL X fB) ?_
      rintro e X1 ⟨rfl, hb⟩
      refine ⟨_, rfl, ?_⟩
      have hT1 := (show WkB b r (.slice p1 n1 c1) (.slice p2 n2 c2) (.slice p3 n3 c3) (.slice p4 n4 c4) X1 from hA.1.below ((below_then fB fB.size hb)))
      refine hK.out _ _ ⟨hT1, fun _ _ => trivial⟩ ?_
      (try simp only [Act.put, List.getElem_toArray, List.getElem_cons_succ, List.getElem_cons_zero, List.setIfInBounds_toArray, List.set_cons_succ, List.set_cons_zero])
      refine wpTwo_takeT (i := 3) (v := .tuple #[.agg #[.int .i64 0, .slice none 0 0, .slice none 0 0, .int .i64 0, .int .i64 0, .bool false, .slice none 0 0, .slice none 0 0], .int .u64 0, .int .i64 4]) rfl (by kernel_rfl) (by kernel_rfl) (by kernel_rfl) (fun c a w h => hQp c a _ _ w h) ⟨by rfl, ?_⟩ hT1 ?_
      · rintro w hTw
        go_simp
      (try simp only [Act.put, List.getElem_toArray, List.getElem_cons_succ, List.getElem_cons_zero, List.setIfInBounds_toArray, List.set_cons_succ, List.set_cons_zero])
      refine wpTwo_takeT (i := 4) (v := .agg #[.int .i64 0, .slice none 0 0, .slice none 0 0, .int .i64 0, .int .i64 0, .bool false, .slice none 0 0, .slice none 0 0]) rfl (by kernel_rfl) (by kernel_rfl) (by kernel_rfl) (fun c a w h => hQp c a _ _ w h) ⟨by rfl, ?_⟩ hT1 ?_
      · rintro w hTw
        go_simp
      (try simp only [Act.put, List.getElem_toArray, List.getElem_cons_succ, List.getElem_cons_zero, List.setIfInBounds_toArray, List.set_cons_succ, List.set_cons_zero])
      refine wpTwo_takeT (i := 5) (v := .int .u64 0) rfl (by kernel_rfl) (by kernel_rfl) (by kernel_rfl) (fun c a w h => hQp c a _ _ w h) ⟨by rfl, ?_⟩ hT1 ?_
      · rintro w hTw
        go_simp
      (try simp only [Act.put, List.getElem_toArray, List.getElem_cons_succ, List.getElem_cons_zero, List.setIfInBounds_toArray, List.set_cons_succ, List.set_cons_zero])
      refine wpTwo_takeT (i := 6) (v := .int .i64 4) rfl (by kernel_rfl) (by kernel_rfl) (by kernel_rfl) (fun c a w h => hQp c a _ _ w h) ⟨by rfl, ?_⟩ hT1 ?_
      · rintro w hTw
        go_simp
      (try simp only [Act.put, List.getElem_toArray, List.getElem_cons_succ, List.getElem_cons_zero, List.setIfInBounds_toArray, List.set_cons_succ, List.set_cons_zero])
      exact S_1_2_7 zr X1 (below_then fB fB.size hb) (fR.below hb) (fRz)
  have S_1 : ∀  (X : World) (fB : Below wA.heap.size wA X), wpTwo Tryz.prog .any ops Q (WkB b r (.slice p1 n1 c1) (.slice p2 n2 c2) (.slice p3 n3 c3) (.slice p4 n4 c4)) (fun _ => True) (fun _ => false) 9 #[true, true, false, false, false, false, false, false, false, false, false] { tmps := List.toArray (x0 :: x1 :: x2 :: x3 :: x4 :: x5 :: .pointer (some ⟨b, 0, none⟩) :: x7 :: x8 :: undef :: undef :: undef :: undef :: undef :: undef :: undef :: undef :: undef :: x18 :: x19 :: x20 :: x21 :: x22 :: x23 :: x24 :: x25 :: x26 :: x27 :: x28 :: x29 :: x30 :: x31 :: x32 :: x33 :: x34 :: x35 :: x36 :: x37 :: x38 :: x39 :: x40 :: x41 :: x42 :: x43 :: x44 :: x45 :: undef :: .agg #[.int .i64 r.s.now, .slice p1 n1 c1, .slice p2 n2 c2, .int .i64 r.g.done, .int .i64 r.g.asked, .bool r.g.on, .slice p3 n3 c3, .slice p4 n4 c4] :: .agg #[.int .i64 5, .int .i64 0, .int .u64 0] :: undef :: undef :: undef :: undef :: undef :: undef :: undef :: undef :: undef :: undef :: undef :: undef :: undef :: undef :: undef :: undef :: undef :: undef :: undef :: undef :: undef :: undef :: undef :: undef :: undef :: undef :: undef :: undef :: undef :: undef :: undef :: undef :: undef :: undef :: undef :: undef :: undef :: undef :: undef :: undef :: undef :: undef :: undef :: undef :: undef :: undef :: undef :: undef :: undef :: undef :: undef :: undef :: undef :: undef :: undef :: undef :: undef :: undef :: undef :: undef :: undef :: undef :: undef :: undef :: undef :: undef :: []), defers := [] } X := by
    clear S_1_2_7
    subst hops
    intro X fB
    have hT := (show WkB b r (.slice p1 n1 c1) (.slice p2 n2 c2) (.slice p3 n3 c3) (.slice p4 n4 c4) X from hA.1.below (fB))
    refine wpTwo_ready (rs := [2, 7]) (by kernel_rfl) (by simp) ?_
    refine (AllTwo.cons rfl (fun K hK => ?_) (AllTwo.cons rfl (fun K hK => ?_) AllTwo.nil))
    · refine step_ent rfl (f := 11) (args := #[.agg #[.int .i64 r.s.now, .slice p1 n1 c1, .slice p2 n2 c2, .int .i64 r.g.done, .int .i64 r.g.asked, .bool r.g.on, .slice p3 n3 c3, .slice p4 n4 c4], .agg #[.int .i64 5, .int .i64 0, .int .u64 0]]) (w' := X) (by kernel_rfl) (HPL X fB) ?_
      rintro e X1 ⟨rfl, hb⟩
      refine ⟨_, rfl, ?_⟩
      have hT1 := (show WkB b r (.slice p1 n1 c1) (.slice p2 n2 c2) (.slice p3 n3 c3) (.slice p4 n4 c4) X1 from hA.1.below ((below_then fB fB.size hb)))
      refine hK.out _ _ ⟨hT1, fun _ _ => trivial⟩ ?_
      (try simp only [Act.put, List.getElem_toArray, List.getElem_cons_succ, List.getElem_cons_zero, List.setIfInBounds_toArray, List.set_cons_succ, List.set_cons_zero])
      refine wpTwo_takeT (i := 3) (v := .tuple #[.agg #[.int .i64 0, .slice none 0 0, .slice none 0 0, .int .i64 0, .int .i64 0, .bool false, .slice none 0 0, .slice none 0 0], .int .u64 0, .int .i64 4]) rfl (by kernel_rfl) (by kernel_rfl) (by kernel_rfl) (fun c a w h => hQp c a _ _ w h) ⟨by rfl, ?_⟩ hT1 ?_
      · rintro w hTw
        go_simp
      (try simp only [Act.put, List.getElem_toArray, List.getElem_cons_succ, List.getElem_cons_zero, List.setIfInBounds_toArray, List.set_cons_succ, List.set_cons_zero])
      refine wpTwo_takeT (i := 4) (v := .agg #[.int .i64 0, .slice none 0 0, .slice none 0 0, .int .i64 0, .int .i64 0, .bool false, .slice none 0 0, .slice none 0 0]) rfl (by kernel_rfl) (by kernel_rfl) (by kernel_rfl) (fun c a w h => hQp c a _ _ w h) ⟨by rfl, ?_⟩ hT1 ?_
      · rintro w hTw
        go_simp
      (try simp only [Act.put, List.getElem_toArray, List.getElem_cons_succ, List.getElem_cons_zero, List.setIfInBounds_toArray, List.set_cons_succ, List.set_cons_zero])
      refine wpTwo_takeT (i := 5) (v := .int .u64 0) rfl (by kernel_rfl) (by kernel_rfl) (by kernel_rfl) (fun c a w h => hQp c a _ _ w h) ⟨by rfl, ?_⟩ hT1 ?_
      · rintro w hTw
        go_simp
      (try simp only [Act.put, List.getElem_toArray, List.getElem_cons_succ, List.getElem_cons_zero, List.setIfInBounds_toArray, List.set_cons_succ, List.set_cons_zero])
      refine wpTwo_takeT (i := 6) (v := .int .i64 4) rfl (by kernel_rfl) (by kernel_rfl) (by kernel_rfl) (fun c a w h => hQp c a _ _ w h) ⟨by rfl, ?_⟩ hT1 ?_
      · rintro w hTw
        go_simp
      (try simp only [Act.put, List.getElem_toArray, List.getElem_cons_succ, List.getElem_cons_zero, List.setIfInBounds_toArray, List.set_cons_succ, List.set_cons_zero])
      exact S_1_2 X1 (below_then fB fB.size hb)
    · refine step_val rfl (v := .pointer (some ⟨X.heap.size, 0, none⟩)) (w' := X.alloc (.cells #[.int .i64 0, .slice none 0 0, .slice none 0 0, .int .i64 0, .int .i64 0, .bool false, .slice none 0 0, .slice none 0 0] 30)) (by kernel_rfl) ?_
      obtain ⟨X1, hX⟩ : ∃ Y : World, Y = X.alloc (.cells #[.int .i64 0, .slice none 0 0, .slice none 0 0, .int .i64 0, .int .i64 0, .bool false, .slice none 0 0, .slice none 0 0] 30) := ⟨_, rfl⟩
      rw [← hX]
      have hb : Below X.heap.size X X1 := by rw [hX]; exact below1 _ _
      have hT1 := (show WkB b r (.slice p1 n1 c1) (.slice p2 n2 c2) (.slice p3 n3 c3) (.slice p4 n4 c4) X1 from hA.1.below ((below_then fB fB.size hb)))
      exact hK.out _ _ ⟨hT1, fun _ _ => trivial⟩ (S_1_7 X.heap.size X1 (below_then fB fB.size hb) (by rw [hX]; exact RcBox.new _ _ _ _ _ _ _ _ _) (fB.size))
  have S_7 : ∀ (zr : Nat) (X : World) (fB : Below wA.heap.size wA X) (fR : RcBox X zr 0 (.slice none 0 0) (.slice none 0 0) 0 0 false (.slice none 0 0) (.slice none 0 0)) (fRz : wA.heap.size ≤ zr), wpTwo Tryz.prog .any ops Q (WkB b r (.slice p1 n1 c1) (.slice p2 n2 c2) (.slice p3 n3 c3) (.slice p4 n4 c4)) (fun _ => True) (fun _ => false) 9 #[true, false, false, false, false, false, false, true, false, false, false] { tmps := List.toArray (x0 :: x1 :: x2 :: x3 :: x4 :: x5 :: .pointer (some ⟨b, 0, none⟩) :: x7 :: x8 :: .pointer (some ⟨zr, 0, none⟩) :: undef :: undef :: undef :: undef :: undef :: undef :: undef :: undef :: x18 :: x19 :: x20 :: x21 :: x22 :: x23 :: x24 :: x25 :: x26 :: x27 :: x28 :: x29 :: x30 :: x31 :: x32 :: x33 :: x34 :: x35 :: x36 :: x37 :: x38 :: x39 :: x40 :: x41 :: x42 :: x43 :: x44 :: x45 :: undef :: .agg #[.int .i64 r.s.now, .slice p1 n1 c1, .slice p2 n2 c2, .int .i64 r.g.done, .int .i64 r.g.asked, .bool r.g.on, .slice p3 n3 c3, .slice p4 n4 c4] :: undef :: undef :: undef :: undef :: undef :: undef :: undef :: undef :: undef :: undef :: undef :: undef :: undef :: undef :: undef :: undef :: undef :: undef :: undef :: undef :: undef :: undef :: undef :: undef :: undef :: undef :: undef :: undef :: undef :: undef :: undef :: undef :: undef :: undef :: undef :: undef :: undef :: undef :: undef :: undef :: undef :: undef :: undef :: undef :: undef :: undef :: undef :: undef :: undef :: undef :: undef :: undef :: undef :: undef :: undef :: undef :: undef :: undef :: undef :: undef :: undef :: undef :: undef :: undef :: undef :: undef :: undef :: []), defers := [] } X := by
    clear S_1_2_7 S_1_2 S_1
    subst hops
    intro zr X fB fR fRz
    have hT := (show WkB b r (.slice p1 n1 c1) (.slice p2 n2 c2) (.slice p3 n3 c3) (.slice p4 n4 c4) X from hA.1.below (fB))
    refine wpTwo_ready (rs := [1]) (by kernel_rfl) (by simp) ?_
    refine (AllTwo.cons rfl (fun K hK => ?_) AllTwo.nil)
    · refine step_ent rfl (f := 28) (args := #[.int .i64 5, .int .i64 0, .int .u64 0]) (w' := X) (by kernel_rfl) (op_c 5 0 0 X) ?_
      rintro e X1 ⟨rfl, hb⟩
      refine ⟨_, rfl, ?_⟩
      have hT1 := (show WkB b r (.slice p1 n1 c1) (.slice p2 n2 c2) (.slice p3 n3 c3) (.slice p4 n4 c4) X1 from hA.1.below ((below_then fB fB.size hb)))
      exact hK.out _ _ ⟨hT1, fun _ _ => trivial⟩ (S_1_7 zr X1 (below_then fB fB.size hb) (fR.below hb) (fRz))
  have S_o : ∀  (X : World) (fB : Below wA.heap.size wA X), wpTwo Tryz.prog .any ops Q (WkB b r (.slice p1 n1 c1) (.slice p2 n2 c2) (.slice p3 n3 c3) (.slice p4 n4 c4)) (fun _ => True) (fun _ => false) 10 #[true, false, false, false, false, false, false, false, false, false, false] { tmps := List.toArray (x0 :: x1 :: x2 :: x3 :: x4 :: x5 :: .pointer (some ⟨b, 0, none⟩) :: x7 :: x8 :: undef :: undef :: undef :: undef :: undef :: undef :: undef :: undef :: undef :: x18 :: x19 :: x20 :: x21 :: x22 :: x23 :: x24 :: x25 :: x26 :: x27 :: x28 :: x29 :: x30 :: x31 :: x32 :: x33 :: x34 :: x35 :: x36 :: x37 :: x38 :: x39 :: x40 :: x41 :: x42 :: x43 :: x44 :: x45 :: undef :: .agg #[.int .i64 r.s.now, .slice p1 n1 c1, .slice p2 n2 c2, .int .i64 r.g.done, .int .i64 r.g.asked, .bool r.g.on, .slice p3 n3 c3, .slice p4 n4 c4] :: undef :: undef :: undef :: undef :: undef :: undef :: undef :: undef :: undef :: undef :: undef :: undef :: undef :: undef :: undef :: undef :: undef :: undef :: undef :: undef :: undef :: undef :: undef :: undef :: undef :: undef :: undef :: undef :: undef :: undef :: undef :: undef :: undef :: undef :: undef :: undef :: undef :: undef :: undef :: undef :: undef :: undef :: undef :: undef :: undef :: undef :: undef :: undef :: undef :: undef :: undef :: undef :: undef :: undef :: undef :: undef :: undef :: undef :: undef :: undef :: undef :: undef :: undef :: undef :: undef :: undef :: undef :: []), defers := [] } X := by
    clear S_1_2_7 S_1_2 S_1_7
    subst hops
    intro X fB
    have hT := (show WkB b r (.slice p1 n1 c1) (.slice p2 n2 c2) (.slice p3 n3 c3) (.slice p4 n4 c4) X from hA.1.below (fB))
    refine wpTwo_ready (rs := [1, 7]) (by kernel_rfl) (by simp) ?_
    refine (AllTwo.cons rfl (fun K hK => ?_) (AllTwo.cons rfl (fun K hK => ?_) AllTwo.nil))
    · refine step_ent rfl (f := 28) (args := #[.int .i64 5, .int .i64 0, .int .u64 0]) (w' := X) (by kernel_rfl) (op_c 5 0 0 X) ?_
      rintro e X1 ⟨rfl, hb⟩
      refine ⟨_, rfl, ?_⟩
      have hT1 := (show WkB b r (.slice p1 n1 c1) (.slice p2 n2 c2) (.slice p3 n3 c3) (.slice p4 n4 c4) X1 from hA.1.below ((below_then fB fB.size hb)))
      exact hK.out _ _ ⟨hT1, fun _ _ => trivial⟩ (S_1 X1 (below_then fB fB.size hb))
    · refine step_val rfl (v := .pointer (some ⟨X.heap.size, 0, none⟩)) (w' := X.alloc (.cells #[.int .i64 0, .slice none 0 0, .slice none 0 0, .int .i64 0, .int .i64 0, .bool false, .slice none 0 0, .slice none 0 0] 30)) (by kernel_rfl) ?_
      obtain ⟨X1, hX⟩ : ∃ Y : World, Y = X.alloc (.cells #[.int .i64 0, .slice none 0 0, .slice none 0 0, .int .i64 0, .int .i64 0, .bool false, .slice none 0 0, .slice none 0 0] 30) := ⟨_, rfl⟩
      rw [← hX]
      have hb : Below X.heap.size X X1 := by rw [hX]; exact below1 _ _
      have hT1 := (show WkB b r (.slice p1 n1 c1) (.slice p2 n2 c2) (.slice p3 n3 c3) (.slice p4 n4 c4) X1 from hA.1.below ((below_then fB fB.size hb)))
      exact hK.out _ _ ⟨hT1, fun _ _ => trivial⟩ (S_7 X.heap.size X1 (below_then fB fB.size hb) (by rw [hX]; exact RcBox.new _ _ _ _ _ _ _ _ _) (fB.size))
  clear S_1_2_7 S_1_2 S_1_7 S_1 S_7
  subst hops
  refine wpTwo_begin (T := (WkB b r (.slice p1 n1 c1) (.slice p2 n2 c2) (.slice p3 n3 c3) (.slice p4 n4 c4))) (S := fun _ => True) (late := fun _ => false) (by kernel_rfl) ?_
  obtain ⟨X0, hX0⟩ : ∃ X : World, X = wA.drew := ⟨_, rfl⟩
  rw [← hX0]
  have fB : Below wA.heap.size wA X0 := by rw [hX0]; exact (Below.refl _ _).drew
  have hT := (show WkB b r (.slice p1 n1 c1) (.slice p2 n2 c2) (.slice p3 n3 c3) (.slice p4 n4 c4) X0 from hA.1.below (fB))
  clear hX0
  refine wpTwo_takeT (i := 0) (v := .agg #[.int .i64 r.s.now, .slice p1 n1 c1, .slice p2 n2 c2, .int .i64 r.g.done, .int .i64 r.g.asked, .bool r.g.on, .slice p3 n3 c3, .slice p4 n4 c4]) rfl (by kernel_rfl) (by kernel_rfl) (by kernel_rfl) (fun c a w h => hQp c a _ _ w h) ⟨by rfl, ?_⟩ hT ?_
  · rintro w hTw
    obtain ⟨t0', t1', t2', t3', t4', t5', t6', t7'⟩ := hTw.cells
    go_simp
  (try simp only [Act.put, List.getElem_toArray, List.getElem_cons_zero, List.setIfInBounds_toArray, List.set_cons_succ, List.set_cons_zero])
  exact S_o X0 fB

end Go.Proofs.YtdllhiihmpinoaaGreat
/-
  The regions of the first test of the statements of layer 14 that draw their order: region 5.
  Conditions: none.
-/
namespace Go.Proofs.YtdllhiihmpinoaaGreat
set_option maxRecDepth 100000
open Go.RowKit Go.Shelf
attribute [local go_sem] Oper.semAt_some

noncomputable def wkOps5 : Array Oper := (regOps 5 (Tryz.f7.body.getD .skip)).getD #[]
set_option maxHeartbeats 32000000 in
theorem wk_reg5 (b : Nat) (r : RcS) (p1 : Option Addr) (n1 c1 : Nat) (p2 : Option Addr) (n2 c2 : Nat) (p3 : Option Addr) (n3 c3 : Nat) (p4 : Option Addr) (n4 c4 : Nat) (x0 x1 x2 x3 x4 x5 x7 x8 x9 x10 x11 x18 x19 x20 x21 x22 x23 x24 x25 x26 x27 x28 x29 x30 x31 x32 x33 x34 x35 x36 x37 x38 x39 x40 x41 x42 x43 x44 x45 x46 x47 x48 x49 x50 x51 x52 : Value) (wA : World) (hA : WkA b r (.slice p1 n1 c1) (.slice p2 n2 c2) (.slice p3 n3 c3) (.slice p4 n4 c4) wA) (hr : RcR r) (r' : RcS) (ws : List Int) (hE : runAE r wkL5 = 0) (hR : opsR r wkL5 = r') (hW : opsW r wkL5 = ws) (ops : Array Oper) (hops : ops = wkOps5) (Q : Exit → Act → World → Prop) (hQp : ∀ c (a : Act) i v w, Q (.panic c) (a.put i v) w → Q (.panic c) a w) (hQ : ∀ (zr tb : Nat) (q1 : Option Addr) (m1 e1 : Nat) (q2 : Option Addr) (m2 e2 : Nat) (q3 : Option Addr) (m3 e3 : Nat) (q4 : Option Addr) (m4 e4 : Nat) (q5 : Option Addr) (m5 e5 : Nat) (X : World), WkF wA zr r' ws (.slice q1 m1 e1) (.slice q2 m2 e2) (.slice q3 m3 e3) (.slice q4 m4 e4) (.slice q5 m5 e5) X → Q .normal { tmps := List.toArray (x0 :: x1 :: x2 :: x3 :: x4 :: x5 :: .pointer (some ⟨b, 0, none⟩) :: x7 :: x8 :: x9 :: x10 :: x11 :: .pointer (some ⟨zr, 0, none⟩) :: .slice q5 m5 e5 :: .int .i64 0 :: undef :: undef :: undef :: x18 :: x19 :: x20 :: x21 :: x22 :: x23 :: x24 :: x25 :: x26 :: x27 :: x28 :: x29 :: x30 :: x31 :: x32 :: x33 :: x34 :: x35 :: x36 :: x37 :: x38 :: x39 :: x40 :: x41 :: x42 :: x43 :: x44 :: x45 :: x46 :: x47 :: x48 :: x49 :: x50 :: x51 :: x52 :: .tuple #[.agg #[.int .i64 r'.s.now, .slice q1 m1 e1, .slice q2 m2 e2, .int .i64 r'.g.done, .int .i64 r'.g.asked, .bool r'.g.on, .slice q3 m3 e3, .slice q4 m4 e4], .slice q5 m5 e5, .int .i64 0] :: .agg #[.int .i64 r.s.now, .slice p1 n1 c1, .slice p2 n2 c2, .int .i64 r.g.done, .int .i64 r.g.asked, .bool r.g.on, .slice p3 n3 c3, .slice p4 n4 c4] :: .agg #[.int .i64 2, .int .i64 1, .int .u64 0] :: .agg #[.int .i64 4, .int .i64 1, .int .u64 0] :: .agg #[.int .i64 5, .int .i64 0, .int .u64 0] :: .slice (some ⟨tb, 0, none⟩) 3 3 :: .tuple #[.agg #[.int .i64 r'.s.now, .slice q1 m1 e1, .slice q2 m2 e2, .int .i64 r'.g.done, .int .i64 r'.g.asked, .bool r'.g.on, .slice q3 m3 e3, .slice q4 m4 e4], .slice q5 m5 e5, .int .i64 0] :: .agg #[.int .i64 r'.s.now, .slice q1 m1 e1, .slice q2 m2 e2, .int .i64 r'.g.done, .int .i64 r'.g.asked, .bool r'.g.on, .slice q3 m3 e3, .slice q4 m4 e4] :: .slice q5 m5 e5 :: .int .i64 0 :: undef :: undef :: undef :: undef :: undef :: undef :: undef :: undef :: undef :: undef :: undef :: undef :: undef :: undef :: undef :: undef :: undef :: undef :: undef :: undef :: undef :: undef :: undef :: undef :: undef :: undef :: undef :: undef :: undef :: undef :: undef :: undef :: undef :: undef :: undef :: undef :: undef :: undef :: undef :: undef :: undef :: undef :: undef :: undef :: undef :: undef :: undef :: undef :: undef :: undef :: undef :: undef :: []), defers := [] } X) :
    (Code.region 5 ops true).wp Tryz.prog Q { tmps := List.toArray (x0 :: x1 :: x2 :: x3 :: x4 :: x5 :: .pointer (some ⟨b, 0, none⟩) :: x7 :: x8 :: x9 :: x10 :: x11 :: undef :: undef :: undef :: undef :: undef :: undef :: x18 :: x19 :: x20 :: x21 :: x22 :: x23 :: x24 :: x25 :: x26 :: x27 :: x28 :: x29 :: x30 :: x31 :: x32 :: x33 :: x34 :: x35 :: x36 :: x37 :: x38 :: x39 :: x40 :: x41 :: x42 :: x43 :: x44 :: x45 :: x46 :: x47 :: x48 :: x49 :: x50 :: x51 :: x52 :: undef :: undef :: undef :: undef :: undef :: undef :: undef :: undef :: undef :: undef :: undef :: undef :: undef :: undef :: undef :: undef :: undef :: undef :: undef :: undef :: undef :: undef :: undef :: undef :: undef :: undef :: undef :: undef :: undef :: undef :: undef :: undef :: undef :: undef :: undef :: undef :: undef :: undef :: undef :: undef :: undef :: undef :: undef :: undef :: undef :: undef :: undef :: undef :: undef :: undef :: undef :: undef :: undef :: undef :: undef :: undef :: undef :: undef :: undef :: undef :: undef :: undef :: []), defers := [] } wA := by
  have HPL : ∀ (Z : World) (_ : Below wA.heap.size wA Z) (tb : Nat) (_ : OpsOut U.NoS Z (.slice (some ⟨tb, 0, none⟩) 3 3) wkL5), Calls Tryz.prog 15 #[.agg #[.int .i64 r.s.now, .slice p1 n1 c1, .slice p2 n2 c2, .int .i64 r.g.done, .int .i64 r.g.asked, .bool r.g.on, .slice p3 n3 c3, .slice p4 n4 c4], .slice (some ⟨tb, 0, none⟩) 3 3] Z fun e w' => WkQ Z.heap.size r' ws e w' ∧ Below Z.heap.size Z w' := fun Z hZ tb ht => wk_run wkL5 hE hR hW hr (by decide) _ _ _ _ _ Z (hA.2.below hZ) ht
  simp only [wkOps5, Tryz.f7, Option.getD, regOps, reduceIte, Nat.reduceEqDiff] at hops
  have S_1_2_3_4_5_10 : ∀ (tb : Nat) (q1 : Option Addr) (m1 : Nat) (e1 : Nat) (q2 : Option Addr) (m2 : Nat) (e2 : Nat) (q3 : Option Addr) (m3 : Nat) (e3 : Nat) (q4 : Option Addr) (m4 : Nat) (e4 : Nat) (q5 : Option Addr) (m5 : Nat) (e5 : Nat) (b0 : Nat) (e0 : Nat) (zr : Nat) (X : World) (fB : Below wA.heap.size wA X) (fL : OpsOut U.NoS X (.slice (some ⟨tb, 0, none⟩) 3 3) wkL5) (fW : RcIn (fun k => k < b0 ∨ e0 ≤ k) X (.slice q1 m1 e1) (.slice q2 m2 e2) (.slice q3 m3 e3) (.slice q4 m4 e4) r' ∧ X.ownsRow 0 35 1 (.slice q5 m5 e5) ws.length (ws.map (Value.int .u64))) (fE : e0 ≤ X.heap.size) (fR : RcBox X zr 0 (.slice none 0 0) (.slice none 0 0) 0 0 false (.slice none 0 0) (.slice none 0 0)) (fRz : wA.heap.size ≤ zr) (fZ : zr < b0 ∨ e0 ≤ zr), wpTwo Tryz.prog .any ops Q (WkB b r (.slice p1 n1 c1) (.slice p2 n2 c2) (.slice p3 n3 c3) (.slice p4 n4 c4)) (fun _ => True) (fun _ => false) 3 #[true, true, true, true, true, true, true, true, true, true, true, false, false, false] { tmps := List.toArray (x0 :: x1 :: x2 :: x3 :: x4 :: x5 :: .pointer (some ⟨b, 0, none⟩) :: x7 :: x8 :: x9 :: x10 :: x11 :: .pointer (some ⟨zr, 0, none⟩) :: undef :: undef :: undef :: undef :: undef :: x18 :: x19 :: x20 :: x21 :: x22 :: x23 :: x24 :: x25 :: x26 :: x27 :: x28 :: x29 :: x30 :: x31 :: x32 :: x33 :: x34 :: x35 :: x36 :: x37 :: x38 :: x39 :: x40 :: x41 :: x42 :: x43 :: x44 :: x45 :: x46 :: x47 :: x48 :: x49 :: x50 :: x51 :: x52 :: .tuple #[.agg #[.int .i64 r'.s.now, .slice q1 m1 e1, .slice q2 m2 e2, .int .i64 r'.g.done, .int .i64 r'.g.asked, .bool r'.g.on, .slice q3 m3 e3, .slice q4 m4 e4], .slice q5 m5 e5, .int .i64 0] :: .agg #[.int .i64 r.s.now, .slice p1 n1 c1, .slice p2 n2 c2, .int .i64 r.g.done, .int .i64 r.g.asked, .bool r.g.on, .slice p3 n3 c3, .slice p4 n4 c4] :: .agg #[.int .i64 2, .int .i64 1, .int .u64 0] :: .agg #[.int .i64 4, .int .i64 1, .int .u64 0] :: .agg #[.int .i64 5, .int .i64 0, .int .u64 0] :: .slice (some ⟨tb, 0, none⟩) 3 3 :: .tuple #[.agg #[.int .i64 r'.s.now, .slice q1 m1 e1, .slice q2 m2 e2, .int .i64 r'.g.done, .int .i64 r'.g.asked, .bool r'.g.on, .slice q3 m3 e3, .slice q4 m4 e4], .slice q5 m5 e5, .int .i64 0] :: .agg #[.int .i64 r'.s.now, .slice q1 m1 e1, .slice q2 m2 e2, .int .i64 r'.g.done, .int .i64 r'.g.asked, .bool r'.g.on, .slice q3 m3 e3, .slice q4 m4 e4] :: .slice q5 m5 e5 :: .int .i64 0 :: undef :: undef :: undef :: undef :: undef :: undef :: undef :: undef :: undef :: undef :: undef :: undef :: undef :: undef :: undef :: undef :: undef :: undef :: undef :: undef :: undef :: undef :: undef :: undef :: undef :: undef :: undef :: undef :: undef :: undef :: undef :: undef :: undef :: undef :: undef :: undef :: undef :: undef :: undef :: undef :: undef :: undef :: undef :: undef :: undef :: undef :: undef :: undef :: undef :: undef :: undef :: undef :: []), defers := [] } X := by
    subst hops
    intro tb q1 m1 e1 q2 m2 e2 q3 m3 e3 q4 m4 e4 q5 m5 e5 b0 e0 zr X fB fL fW fE fR fRz fZ
    have hT := (show WkB b r (.slice p1 n1 c1) (.slice p2 n2 c2) (.slice p3 n3 c3) (.slice p4 n4 c4) X from hA.1.below (fB))
    refine wpTwo_ready (rs := [11]) (by kernel_rfl) (by simp) ?_
    refine (AllTwo.cons rfl (fun K hK => ?_) AllTwo.nil)
    obtain ⟨d0, d1, d2, d3, d4, d5, d6, d7⟩ := fR.cells
    have v0 := fR.marks 0
    have v1 := fR.marks 1
    have v2 := fR.marks 2
    have v3 := fR.marks 3
    have v4 := fR.marks 4
    have v5 := fR.marks 5
    have v6 := fR.marks 6
    have v7 := fR.marks 7
    obtain ⟨Xa, hXa⟩ : ∃ Y : World, Y = ((((((((X.setCell ⟨zr, 0, none⟩ (.int .i64 r'.s.now)).setCell ⟨zr, 1, none⟩ (.slice q1 m1 e1)).setCell ⟨zr, 2, none⟩ (.slice q2 m2 e2)).setCell ⟨zr, 3, none⟩ (.int .i64 r'.g.done)).setCell ⟨zr, 4, none⟩ (.int .i64 r'.g.asked)).setCell ⟨zr, 5, none⟩ (.bool r'.g.on)).setCell ⟨zr, 6, none⟩ (.slice q3 m3 e3)).setCell ⟨zr, 7, none⟩ (.slice q4 m4 e4)) := ⟨_, rfl⟩
    have HFA := Lib.hid (wk_keep hA fB fR fRz fW fZ hXa)
    have hTa := HFA.out.1
    go_simp
    rw [← hXa]
    refine hK.out _ _ ⟨hTa, fun _ _ => trivial⟩ ?_
    clear hK K d0 d1 d2 d3 d4 d5 d6 d7 v0 v1 v2 v3 v4 v5 v6 v7 hXa
    (try simp only [Act.put])
    refine wpTwo_takeT (i := 12) (v := .slice q5 m5 e5) rfl (by kernel_rfl) (by kernel_rfl) (by kernel_rfl) (fun c a w h => hQp c a _ _ w h) ⟨by rfl, ?_⟩ hTa ?_
    · rintro w hTw
      go_simp
    (try simp only [Act.put, List.getElem_toArray, List.getElem_cons_succ, List.getElem_cons_zero, List.setIfInBounds_toArray, List.set_cons_succ, List.set_cons_zero])
    refine wpTwo_takeT (i := 13) (v := .int .i64 0) rfl (by kernel_rfl) (by kernel_rfl) (by kernel_rfl) (fun c a w h => hQp c a _ _ w h) ⟨by rfl, ?_⟩ hTa ?_
    · rintro w hTw
      go_simp
    (try simp only [Act.put, List.getElem_toArray, List.getElem_cons_succ, List.getElem_cons_zero, List.setIfInBounds_toArray, List.set_cons_succ, List.set_cons_zero])
    refine wpTwo_end (by kernel_rfl) ?_ _
    exact hQ zr tb q1 m1 e1 q2 m2 e2 q3 m3 e3 q4 m4 e4 q5 m5 e5 Xa HFA.out.2
  have S_1_2_3_4_5 : ∀ (tb : Nat) (q1 : Option Addr) (m1 : Nat) (e1 : Nat) (q2 : Option Addr) (m2 : Nat) (e2 : Nat) (q3 : Option Addr) (m3 : Nat) (e3 : Nat) (q4 : Option Addr) (m4 : Nat) (e4 : Nat) (q5 : Option Addr) (m5 : Nat) (e5 : Nat) (b0 : Nat) (e0 : Nat) (X : World) (fB : Below wA.heap.size wA X) (fL : OpsOut U.NoS X (.slice (some ⟨tb, 0, none⟩) 3 3) wkL5) (fW : RcIn (fun k => k < b0 ∨ e0 ≤ k) X (.slice q1 m1 e1) (.slice q2 m2 e2) (.slice q3 m3 e3) (.slice q4 m4 e4) r' ∧ X.ownsRow 0 35 1 (.slice q5 m5 e5) ws.length (ws.map (Value.int .u64))) (fE : e0 ≤ X.heap.size), wpTwo Tryz.prog .any ops Q (WkB b r (.slice p1 n1 c1) (.slice p2 n2 c2) (.slice p3 n3 c3) (.slice p4 n4 c4)) (fun _ => True) (fun _ => false) 4 #[true, true, true, true, true, true, true, true, true, true, false, false, false, false] { tmps := List.toArray (x0 :: x1 :: x2 :: x3 :: x4 :: x5 :: .pointer (some ⟨b, 0, none⟩) :: x7 :: x8 :: x9 :: x10 :: x11 :: undef :: undef :: undef :: undef :: undef :: undef :: x18 :: x19 :: x20 :: x21 :: x22 :: x23 :: x24 :: x25 :: x26 :: x27 :: x28 :: x29 :: x30 :: x31 :: x32 :: x33 :: x34 :: x35 :: x36 :: x37 :: x38 :: x39 :: x40 :: x41 :: x42 :: x43 :: x44 :: x45 :: x46 :: x47 :: x48 :: x49 :: x50 :: x51 :: x52 :: .tuple #[.agg #[.int .i64 r'.s.now, .slice q1 m1 e1, .slice q2 m2 e2, .int .i64 r'.g.done, .int .i64 r'.g.asked, .bool r'.g.on, .slice q3 m3 e3, .slice q4 m4 e4], .slice q5 m5 e5, .int .i64 0] :: .agg #[.int .i64 r.s.now, .slice p1 n1 c1, .slice p2 n2 c2, .int .i64 r.g.done, .int .i64 r.g.asked, .bool r.g.on, .slice p3 n3 c3, .slice p4 n4 c4] :: .agg #[.int .i64 2, .int .i64 1, .int .u64 0] :: .agg #[.int .i64 4, .int .i64 1, .int .u64 0] :: .agg #[.int .i64 5, .int .i64 0, .int .u64 0] :: .slice (some ⟨tb, 0, none⟩) 3 3 :: .tuple #[.agg #[.int .i64 r'.s.now, .slice q1 m1 e1, .slice q2 m2 e2, .int .i64 r'.g.done, .int .i64 r'.g.asked, .bool r'.g.on, .slice q3 m3 e3, .slice q4 m4 e4], .slice q5 m5 e5, .int .i64 0] :: .agg #[.int .i64 r'.s.now, .slice q1 m1 e1, .slice q2 m2 e2, .int .i64 r'.g.done, .int .i64 r'.g.asked, .bool r'.g.on, .slice q3 m3 e3, .slice q4 m4 e4] :: .slice q5 m5 e5 :: .int .i64 0 :: undef :: undef :: undef :: undef :: undef :: undef :: undef :: undef :: undef :: undef :: undef :: undef :: undef :: undef :: undef :: undef :: undef :: undef :: undef :: undef :: undef :: undef :: undef :: undef :: undef :: undef :: undef :: undef :: undef :: undef :: undef :: undef :: undef :: undef :: undef :: undef :: undef :: undef :: undef :: undef :: undef :: undef :: undef :: undef :: undef :: undef :: undef :: undef :: undef :: undef :: undef :: undef :: []), defers := [] } X := by
    subst hops
    intro tb q1 m1 e1 q2 m2 e2 q3 m3 e3 q4 m4 e4 q5 m5 e5 b0 e0 X fB fL fW fE
    have hT := (show WkB b r (.slice p1 n1 c1) (.slice p2 n2 c2) (.slice p3 n3 c3) (.slice p4 n4 c4) X from hA.1.below (fB))
    refine wpTwo_ready (rs := [10]) (by kernel_rfl) (by simp) ?_
    refine (AllTwo.cons rfl (fun K hK => ?_) AllTwo.nil)
    · refine step_val rfl (v := .pointer (some ⟨X.heap.size, 0, none⟩)) (w' := X.alloc (.cells #[.int .i64 0, .slice none 0 0, .slice none 0 0, .int .i64 0, .int .i64 0, .bool false, .slice none 0 0, .slice none 0 0] 30)) (by kernel_rfl) ?_
      obtain ⟨X1, hX⟩ : ∃ Y : World, Y = X.alloc (.cells #[.int .i64 0, .slice none 0 0, .slice none 0 0, .int .i64 0, .int .i64 0, .bool false, .slice none 0 0, .slice none 0 0] 30) := ⟨_, rfl⟩
      rw [← hX]
      have hb : Below X.heap.size X X1 := by rw [hX]; exact below1 _ _
      have hT1 := (show WkB b r (.slice p1 n1 c1) (.slice p2 n2 c2) (.slice p3 n3 c3) (.slice p4 n4 c4) X1 from hA.1.below ((below_then fB fB.size hb)))
      exact hK.out _ _ ⟨hT1, fun _ _ => trivial⟩ (S_1_2_3_4_5_10 tb q1 m1 e1 q2 m2 e2 q3 m3 e3 q4 m4 e4 q5 m5 e5 b0 e0 X.heap.size X1 (below_then fB fB.size hb) (fL.below hb) (⟨fW.1.below hb, owns_below fW.2 hb⟩) (Nat.le_trans fE hb.size) (by rw [hX]; exact RcBox.new _ _ _ _ _ _ _ _ _) (fB.size) (.inr fE))
  have S_1_2_3_4_10 : ∀ (tb : Nat) (zr : Nat) (X : World) (fB : Below wA.heap.size wA X) (fL : OpsOut U.NoS X (.slice (some ⟨tb, 0, none⟩) 3 3) wkL5) (fR : RcBox X zr 0 (.slice none 0 0) (.slice none 0 0) 0 0 false (.slice none 0 0) (.slice none 0 0)) (fRz : wA.heap.size ≤ zr), wpTwo Tryz.prog .any ops Q (WkB b r (.slice p1 n1 c1) (.slice p2 n2 c2) (.slice p3 n3 c3) (.slice p4 n4 c4)) (fun _ => True) (fun _ => false) 8 #[true, true, true, true, true, false, false, false, false, false, true, false, false, false] { tmps := List.toArray (x0 :: x1 :: x2 :: x3 :: x4 :: x5 :: .pointer (some ⟨b, 0, none⟩) :: x7 :: x8 :: x9 :: x10 :: x11 :: .pointer (some ⟨zr, 0, none⟩) :: undef :: undef :: undef :: undef :: undef :: x18 :: x19 :: x20 :: x21 :: x22 :: x23 :: x24 :: x25 :: x26 :: x27 :: x28 :: x29 :: x30 :: x31 :: x32 :: x33 :: x34 :: x35 :: x36 :: x37 :: x38 :: x39 :: x40 :: x41 :: x42 :: x43 :: x44 :: x45 :: x46 :: x47 :: x48 :: x49 :: x50 :: x51 :: x52 :: undef :: .agg #[.int .i64 r.s.now, .slice p1 n1 c1, .slice p2 n2 c2, .int .i64 r.g.done, .int .i64 r.g.asked, .bool r.g.on, .slice p3 n3 c3, .slice p4 n4 c4] :: .agg #[.int .i64 2, .int .i64 1, .int .u64 0] :: .agg #[.int .i64 4, .int .i64 1, .int .u64 0] :: .agg #[.int .i64 5, .int .i64 0, .int .u64 0] :: .slice (some ⟨tb, 0, none⟩) 3 3 :: undef :: undef :: undef :: undef :: undef :: undef :: undef :: undef :: undef :: undef :: undef :: undef :: undef :: undef :: undef :: undef :: undef :: undef :: undef :: undef :: undef :: undef :: undef :: undef :: undef :: undef :: undef :: undef :: undef :: undef :: undef :: undef :: undef :: undef :: undef :: undef :: undef :: undef :: undef :: undef :: undef :: undef :: undef :: undef :: undef :: undef :: undef :: undef :: undef :: undef :: undef :: undef :: undef :: undef :: undef :: undef :: []), defers := [] } X := by
    clear S_1_2_3_4_5
    subst hops
    intro tb zr X fB fL fR fRz
    have hT := (show WkB b r (.slice p1 n1 c1) (.slice p2 n2 c2) (.slice p3 n3 c3) (.slice p4 n4 c4) X from hA.1.below (fB))
    refine wpTwo_ready (rs := [5]) (by kernel_rfl) (by simp) ?_
    refine (AllTwo.cons rfl (fun K hK => ?_) AllTwo.nil)
    · refine step_ent rfl (f := 15) (args := #[.agg #[.int .i64 r.s.now, .slice p1 n1 c1, .slice p2 n2 c2, .int .i64 r.g.done, .int .i64 r.g.asked, .bool r.g.on, .slice p3 n3 c3, .slice p4 n4 c4], .slice (some ⟨tb, 0, none⟩) 3 3]) (w' := X) (by kernel_rfl) (HPL X fB tb fL) ?_
      rintro e X1 ⟨⟨q1, m1, e1, q2, m2, e2, q3, m3, e3, q4, m4, e4, q5, m5, e5, rfl, hin, hro⟩, hb⟩
      refine ⟨_, rfl, ?_⟩
      have hT1 := (show WkB b r (.slice p1 n1 c1) (.slice p2 n2 c2) (.slice p3 n3 c3) (.slice p4 n4 c4) X1 from hA.1.below ((below_then fB fB.size hb)))
      refine hK.out _ _ ⟨hT1, fun _ _ => trivial⟩ ?_
      (try simp only [Act.put, List.getElem_toArray, List.getElem_cons_succ, List.getElem_cons_zero, List.setIfInBounds_toArray, List.set_cons_succ, List.set_cons_zero])
      refine wpTwo_takeT (i := 6) (v := .tuple #[.agg #[.int .i64 r'.s.now, .slice q1 m1 e1, .slice q2 m2 e2, .int .i64 r'.g.done, .int .i64 r'.g.asked, .bool r'.g.on, .slice q3 m3 e3, .slice q4 m4 e4], .slice q5 m5 e5, .int .i64 0]) rfl (by kernel_rfl) (by kernel_rfl) (by kernel_rfl) (fun c a w h => hQp c a _ _ w h) ⟨by rfl, ?_⟩ hT1 ?_
      · rintro w hTw
        go_simp
      (try simp only [Act.put, List.getElem_toArray, List.getElem_cons_succ, List.getElem_cons_zero, List.setIfInBounds_toArray, List.set_cons_succ, List.set_cons_zero])
      refine wpTwo_takeT (i := 7) (v := .agg #[.int .i64 r'.s.now, .slice q1 m1 e1, .slice q2 m2 e2, .int .i64 r'.g.done, .int .i64 r'.g.asked, .bool r'.g.on, .slice q3 m3 e3, .slice q4 m4 e4]) rfl (by kernel_rfl) (by kernel_rfl) (by kernel_rfl) (fun c a w h => hQp c a _ _ w h) ⟨by rfl, ?_⟩ hT1 ?_
      · rintro w hTw
        go_simp
      (try simp only [Act.put, List.getElem_toArray, List.getElem_cons_succ, List.getElem_cons_zero, List.setIfInBounds_toArray, List.set_cons_succ, List.set_cons_zero])
      refine wpTwo_takeT (i := 8) (v := .slice q5 m5 e5) rfl (by kernel_rfl) (by kernel_rfl) (by kernel_rfl) (fun c a w h => hQp c a _ _ w h) ⟨by rfl, ?_⟩ hT1 ?_
      · rintro w hTw
        go_simp
      (try simp only [Act.put, List.getElem_toArray, List.getElem_cons_succ, List.getElem_cons_zero, List.setIfInBounds_toArray, List.set_cons_succ, List.set_cons_zero])
      refine wpTwo_takeT (i := 9) (v := .int .i64 0) rfl (by kernel_rfl) (by kernel_rfl) (by kernel_rfl) (fun c a w h => hQp c a _ _ w h) ⟨by rfl, ?_⟩ hT1 ?_
      · rintro w hTw
        go_simp
      (try simp only [Act.put, List.getElem_toArray, List.getElem_cons_succ, List.getElem_cons_zero, List.setIfInBounds_toArray, List.set_cons_succ, List.set_cons_zero])
      exact S_1_2_3_4_5_10 tb q1 m1 e1 q2 m2 e2 q3 m3 e3 q4 m4 e4 q5 m5 e5 X.heap.size X1.heap.size zr X1 (below_then fB fB.size hb) (fL.below hb) (⟨hin.apart (fun q h => h), hro⟩) (Nat.le_refl _) (fR.below hb) (fRz) (.inl fR.lt)
  have S_1_2_3_4 : ∀ (tb : Nat) (X : World) (fB : Below wA.heap.size wA X) (fL : OpsOut U.NoS X (.slice (some ⟨tb, 0, none⟩) 3 3) wkL5), wpTwo Tryz.prog .any ops Q (WkB b r (.slice p1 n1 c1) (.slice p2 n2 c2) (.slice p3 n3 c3) (.slice p4 n4 c4)) (fun _ => True) (fun _ => false) 9 #[true, true, true, true, true, false, false, false, false, false, false, false, false, false] { tmps := List.toArray (x0 :: x1 :: x2 :: x3 :: x4 :: x5 :: .pointer (some ⟨b, 0, none⟩) :: x7 :: x8 :: x9 :: x10 :: x11 :: undef :: undef :: undef :: undef :: undef :: undef :: x18 :: x19 :: x20 :: x21 :: x22 :: x23 :: x24 :: x25 :: x26 :: x27 :: x28 :: x29 :: x30 :: x31 :: x32 :: x33 :: x34 :: x35 :: x36 :: x37 :: x38 :: x39 :: x40 :: x41 :: x42 :: x43 :: x44 :: x45 :: x46 :: x47 :: x48 :: x49 :: x50 :: x51 :: x52 :: undef :: .agg #[.int .i64 r.s.now, .slice p1 n1 c1, .slice p2 n2 c2, .int .i64 r.g.done, .int .i64 r.g.asked, .bool r.g.on, .slice p3 n3 c3, .slice p4 n4 c4] :: .agg #[.int .i64 2, .int .i64 1, .int .u64 0] :: .agg #[.int .i64 4, .int .i64 1, .int .u64 0] :: .agg #[.int .i64 5, .int .i64 0, .int .u64 0] :: .slice (some ⟨tb, 0, none⟩) 3 3 :: undef :: undef :: undef :: undef :: undef :: undef :: undef :: undef :: undef :: undef :: undef :: undef :: undef :: undef :: undef :: undef :: undef :: undef :: undef :: undef :: undef :: undef :: undef :: undef :: undef :: undef :: undef :: undef :: undef :: undef :: undef :: undef :: undef :: undef :: undef :: undef :: undef :: undef :: undef :: undef :: undef :: undef :: undef :: undef :: undef :: undef :: undef :: undef :: undef :: undef :: undef :: undef :: undef :: undef :: undef :: undef :: []), defers := [] } X := by
    clear S_1_2_3_4_5_10
    subst hops
    intro tb X fB fL
    have hT := (show WkB b r (.slice p1 n1 c1) (.slice p2 n2 c2) (.slice p3 n3 c3) (.slice p4 n4 c4) X from hA.1.below (fB))
    refine wpTwo_ready (rs := [5, 10]) (by kernel_rfl) (by simp) ?_
    refine (AllTwo.cons rfl (fun K hK => ?_) (AllTwo.cons rfl (fun K hK => ?_) AllTwo.nil))
    · refine step_ent rfl (f := 15) (args := #[.agg #[.int .i64 r.s.now, .slice p1 n1 c1, .slice p2 n2 c2, .int .i64 r.g.done, .int .i64 r.g.asked, .bool r.g.on, .slice p3 n3 c3, .slice p4 n4 c4], .slice (some ⟨tb, 0, none⟩) 3 3]) (w' := X) (by kernel_rfl) (HPL X fB tb fL) ?_
      rintro e X1 ⟨⟨q1, m1, e1, q2, m2, e2, q3, m3, e3, q4, m4, e4, q5, m5, e5, rfl, hin, hro⟩, hb⟩
      refine ⟨_, rfl, ?_⟩
      have hT1 := (show WkB b r (.slice p1 n1 c1) (.slice p2 n2 c2) (.slice p3 n3 c3) (.slice p4 n4 c4) X1 from hA.1.below ((below_then fB fB.size hb)))
      refine hK.out _ _ ⟨hT1, fun _ _ => trivial⟩ ?_
      (try simp only [Act.put, List.getElem_toArray, List.getElem_cons_succ, List.getElem_cons_zero, List.setIfInBounds_toArray, List.set_cons_succ, List.set_cons_zero])
      refine wpTwo_takeT (i := 6) (v := .tuple #[.agg #[.int .i64 r'.s.now, .slice q1 m1 e1, .slice q2 m2 e2, .int .i64 r'.g.done, .int .i64 r'.g.asked, .bool r'.g.on, .slice q3 m3 e3, .slice q4 m4 e4], .slice q5 m5 e5, .int .i64 0]) rfl (by kernel_rfl) (by kernel_rfl) (by kernel_rfl) (fun c a w h => hQp c a _ _ w h) ⟨by rfl, ?_⟩ hT1 ?_
      · rintro w hTw
        go_simp
      (try simp only [Act.put, List.getElem_toArray, List.getElem_cons_succ, List.getElem_cons_zero, List.setIfInBounds_toArray, List.set_cons_succ, List.set_cons_zero])
      refine wpTwo_takeT (i := 7) (v := .agg #[.int .i64 r'.s.now, .slice q1 m1 e1, .slice q2 m2 e2, .int .i64 r'.g.done, .int .i64 r'.g.asked, .bool r'.g.on, .slice q3 m3 e3, .slice q4 m4 e4]) rfl (by kernel_rfl) (by kernel_rfl) (by kernel_rfl) (fun c a w h => hQp c a _ _ w h) ⟨by rfl, ?_⟩ hT1 ?_
      · rintro w hTw
        go_simp
      (try simp only [Act.put, List.getElem_toArray, List.getElem_cons_succ, List.getElem_cons_zero, List.setIfInBounds_toArray, List.set_cons_succ, List.set_cons_zero])
      refine wpTwo_takeT (i := 8) (v := .slice q5 m5 e5) rfl (by kernel_rfl) (by kernel_rfl) (by kernel_rfl) (fun c a w h => hQp c a _ _ w h) ⟨by rfl, ?_⟩ hT1 ?_
      · rintro w hTw
        go_simp
      (try simp only [Act.put, List.getElem_toArray, List.getElem_cons_succ, List.getElem_cons_zero, List.setIfInBounds_toArray, List.set_cons_succ, List.set_cons_zero])
      refine wpTwo_takeT (i := 9) (v := .int .i64 0) rfl (by kernel_rfl) (by kernel_rfl) (by kernel_rfl) (fun c a w h => hQp c a _ _ w h) ⟨by rfl, ?_⟩ hT1 ?_
      · rintro w hTw
        go_simp
      (try simp only [Act.put, List.getElem_toArray, List.getElem_cons_succ, List.getElem_cons_zero, List.setIfInBounds_toArray, List.set_cons_succ, List.set_cons_zero])
      exact S_1_2_3_4_5 tb q1 m1 e1 q2 m2 e2 q3 m3 e3 q4 m4 e4 q5 m5 e5 X.heap.size X1.heap.size X1 (below_then fB fB.size hb) (fL.below hb) (⟨hin.apart (fun q h => h), hro⟩) (Nat.le_refl _)
    · refine step_val rfl (v := .pointer (some ⟨X.heap.size, 0, none⟩)) (w' := X.alloc (.cells #[.int .i64 0, .slice none 0 0, .slice none 0 0, .int .i64 0, .int .i64 0, .bool false, .slice none 0 0, .slice none 0 0] 30)) (by kernel_rfl) ?_
      obtain ⟨X1, hX⟩ : ∃ Y : World, Y = X.alloc (.cells #[.int .i64 0, .slice none 0 0, .slice none 0 0, .int .i64 0, .int .i64 0, .bool false, .slice none 0 0, .slice none 0 0] 30) := ⟨_, rfl⟩
      rw [← hX]
      have hb : Below X.heap.size X X1 := by rw [hX]; exact below1 _ _
      have hT1 := (show WkB b r (.slice p1 n1 c1) (.slice p2 n2 c2) (.slice p3 n3 c3) (.slice p4 n4 c4) X1 from hA.1.below ((below_then fB fB.size hb)))
      exact hK.out _ _ ⟨hT1, fun _ _ => trivial⟩ (S_1_2_3_4_10 tb X.heap.size X1 (below_then fB fB.size hb) (fL.below hb) (by rw [hX]; exact RcBox.new _ _ _ _ _ _ _ _ _) (fB.size))
  have S_1_2_3_10 : ∀ (zr : Nat) (X : World) (fB : Below wA.heap.size wA X) (fR : RcBox X zr 0 (.slice none 0 0) (.slice none 0 0) 0 0 false (.slice none 0 0) (.slice none 0 0)) (fRz : wA.heap.size ≤ zr), wpTwo Tryz.prog .any ops Q (WkB b r (.slice p1 n1 c1) (.slice p2 n2 c2) (.slice p3 n3 c3) (.slice p4 n4 c4)) (fun _ => True) (fun _ => false) 9 #[true, true, true, true, false, false, false, false, false, false, true, false, false, false] { tmps := List.toArray (x0 :: x1 :: x2 :: x3 :: x4 :: x5 :: .pointer (some ⟨b, 0, none⟩) :: x7 :: x8 :: x9 :: x10 :: x11 :: .pointer (some ⟨zr, 0, none⟩) :: undef :: undef :: undef :: undef :: undef :: x18 :: x19 :: x20 :: x21 :: x22 :: x23 :: x24 :: x25 :: x26 :: x27 :: x28 :: x29 :: x30 :: x31 :: x32 :: x33 :: x34 :: x35 :: x36 :: x37 :: x38 :: x39 :: x40 :: x41 :: x42 :: x43 :: x44 :: x45 :: x46 :: x47 :: x48 :: x49 :: x50 :: x51 :: x52 :: undef :: .agg #[.int .i64 r.s.now, .slice p1 n1 c1, .slice p2 n2 c2, .int .i64 r.g.done, .int .i64 r.g.asked, .bool r.g.on, .slice p3 n3 c3, .slice p4 n4 c4] :: .agg #[.int .i64 2, .int .i64 1, .int .u64 0] :: .agg #[.int .i64 4, .int .i64 1, .int .u64 0] :: .agg #[.int .i64 5, .int .i64 0, .int .u64 0] :: undef :: undef :: undef :: undef :: undef :: undef :: undef :: undef :: undef :: undef :: undef :: undef :: undef :: undef :: undef :: undef :: undef :: undef :: undef :: undef :: undef :: undef :: undef :: undef :: undef :: undef :: undef :: undef :: undef :: undef :: undef :: undef :: undef :: undef :: undef :: undef :: undef :: undef :: undef :: undef :: undef :: undef :: undef :: undef :: undef :: undef :: undef :: undef :: undef :: undef :: undef :: undef :: undef :: undef :: undef :: undef :: undef :: []), defers := [] } X := by
    clear S_1_2_3_4_5_10 S_1_2_3_4_5 S_1_2_3_4
    subst hops
    intro zr X fB fR fRz
    have hT := (show WkB b r (.slice p1 n1 c1) (.slice p2 n2 c2) (.slice p3 n3 c3) (.slice p4 n4 c4) X from hA.1.below (fB))
    refine wpTwo_ready (rs := [4]) (by kernel_rfl) (by simp) ?_
    refine (AllTwo.cons rfl (fun K hK => ?_) AllTwo.nil)
    · refine step_val rfl (v := .slice (some ⟨X.heap.size, 0, none⟩) 3 3) (w' := X.alloc (.cells #[.int .i64 2, .int .i64 1, .int .u64 0, .int .i64 4, .int .i64 1, .int .u64 0, .int .i64 5, .int .i64 0, .int .u64 0] 37)) (by kernel_rfl) ?_
      obtain ⟨X1, hX⟩ : ∃ Y : World, Y = X.alloc (.cells #[.int .i64 2, .int .i64 1, .int .u64 0, .int .i64 4, .int .i64 1, .int .u64 0, .int .i64 5, .int .i64 0, .int .u64 0] 37) := ⟨_, rfl⟩
      rw [← hX]
      have hb : Below X.heap.size X X1 := by rw [hX]; exact below1 _ _
      have hT1 := (show WkB b r (.slice p1 n1 c1) (.slice p2 n2 c2) (.slice p3 n3 c3) (.slice p4 n4 c4) X1 from hA.1.below ((below_then fB fB.size hb)))
      exact hK.out _ _ ⟨hT1, fun _ _ => trivial⟩ (S_1_2_3_4_10 X.heap.size zr X1 (below_then fB fB.size hb) (ops_block (l := wkL5) (by rw [hX]; exact World.alloc_heap_new _ _) (fun i hi => by
        have hi : i < 3 := hi
        have : i = 0 ∨ i = 1 ∨ i = 2 := by omega
        rcases this with rfl | rfl | rfl <;> exact ⟨rfl, rfl, rfl⟩)) (fR.below hb) (fRz))
  have S_1_2_3 : ∀  (X : World) (fB : Below wA.heap.size wA X), wpTwo Tryz.prog .any ops Q (WkB b r (.slice p1 n1 c1) (.slice p2 n2 c2) (.slice p3 n3 c3) (.slice p4 n4 c4)) (fun _ => True) (fun _ => false) 10 #[true, true, true, true, false, false, false, false, false, false, false, false, false, false] { tmps := List.toArray (x0 :: x1 :: x2 :: x3 :: x4 :: x5 :: .pointer (some ⟨b, 0, none⟩) :: x7 :: x8 :: x9 :: x10 :: x11 :: undef :: undef :: undef :: undef :: undef :: undef :: x18 :: x19 :: x20 :: x21 :: x22 :: x23 :: x24 :: x25 :: x26 :: x27 :: x28 :: x29 :: x30 :: x31 :: x32 :: x33 :: x34 :: x35 :: x36 :: x37 :: x38 :: x39 :: x40 :: x41 :: x42 :: x43 :: x44 :: x45 :: x46 :: x47 :: x48 :: x49 :: x50 :: x51 :: x52 :: undef :: .agg #[.int .i64 r.s.now, .slice p1 n1 c1, .slice p2 n2 c2, .int .i64 r.g.done, .int .i64 r.g.asked, .bool r.g.on, .slice p3 n3 c3, .slice p4 n4 c4] :: .agg #[.int .i64 2, .int .i64 1, .int .u64 0] :: .agg #[.int .i64 4, .int .i64 1, .int .u64 0] :: .agg #[.int .i64 5, .int .i64 0, .int .u64 0] :: undef :: undef :: undef :: undef :: undef :: undef :: undef :: undef :: undef :: undef :: undef :: undef :: undef :: undef :: undef :: undef :: undef :: undef :: undef :: undef :: undef :: undef :: undef :: undef :: undef :: undef :: undef :: undef :: undef :: undef :: undef :: undef :: undef :: undef :: undef :: undef :: undef :: undef :: undef :: undef :: undef :: undef :: undef :: undef :: undef :: undef :: undef :: undef :: undef :: undef :: undef :: undef :: undef :: undef :: undef :: undef :: undef :: []), defers := [] } X := by
    clear S_1_2_3_4_5_10 S_1_2_3_4_5 S_1_2_3_4_10
    subst hops
    intro X fB
    have hT := (show WkB b r (.slice p1 n1 c1) (.slice p2 n2 c2) (.slice p3 n3 c3) (.slice p4 n4 c4) X from hA.1.below (fB))
    refine wpTwo_ready (rs := [4, 10]) (by kernel_rfl) (by simp) ?_
    refine (AllTwo.cons rfl (fun K hK => ?_) (AllTwo.cons rfl (fun K hK => ?_) AllTwo.nil))
    · refine step_val rfl (v := .slice (some ⟨X.heap.size, 0, none⟩) 3 3) (w' := X.alloc (.cells #[.int .i64 2, .int .i64 1, .int .u64 0, .int .i64 4, .int .i64 1, .int .u64 0, .int .i64 5, .int .i64 0, .int .u64 0] 37)) (by kernel_rfl) ?_
      obtain ⟨X1, hX⟩ : ∃ Y : World, Y = X.alloc (.cells #[.int .i64 2, .int .i64 1, .int .u64 0, .int .i64 4, .int .i64 1, .int .u64 0, .int .i64 5, .int .i64 0, .int .u64 0] 37) := ⟨_, rfl⟩
      rw [← hX]
      have hb : Below X.heap.size X X1 := by rw [hX]; exact below1 _ _
      have hT1 := (show WkB b r (.slice p1 n1 c1) (.slice p2 n2 c2) (.slice p3 n3 c3) (.slice p4 n4 c4) X1 from hA.1.below ((below_then fB fB.size hb)))
      exact hK.out _ _ ⟨hT1, fun _ _ => trivial⟩ (S_1_2_3_4 X.heap.size X1 (below_then fB fB.size hb) (ops_block (l := wkL5) (by rw [hX]; exact World.alloc_heap_new _ _) (fun i hi => by
        have hi : i < 3 := hi
        have : i = 0 ∨ i = 1 ∨ i = 2 := by omega
        rcases this with rfl | rfl | rfl <;> exact ⟨rfl, rfl, rfl⟩)))
    · refine step_val rfl (v := .pointer (some ⟨X.heap.size, 0, none⟩)) (w' := X.alloc (.cells #[.int .i64 0, .slice none 0 0, .slice none 0 0, .int .i64 0, .int .i64 0, .bool false, .slice none 0 0, .slice none 0 0] 30)) (by kernel_rfl) ?_
      obtain ⟨X1, hX⟩ : ∃ Y : World, Y = X.alloc (.cells #[.int .i64 0, .slice none 0 0, .slice none 0 0, .int .i64 0, .int .i64 0, .bool false, .slice none 0 0, .slice none 0 0] 30) := ⟨_, rfl⟩
      rw [← hX]
      have hb : Below X.heap.size X X1 := by rw [hX]; exact below1 _ _
      have hT1 := (show WkB b r (.slice p1 n1 c1) (.slice p2 n2 c2) (.slice p3 n3 c3) (.slice p4 n4 c4) X1 from hA.1.below ((below_then fB fB.size hb)))
      exact hK.out _ _ ⟨hT1, fun _ _ => trivial⟩ (S_1_2_3_10 X.heap.size X1 (below_then fB fB.size hb) (by rw [hX]; exact RcBox.new _ _ _ _ _ _ _ _ _) (fB.size))
  have S_1_2_10 : ∀ (zr : Nat) (X : World) (fB : Below wA.heap.size wA X) (fR : RcBox X zr 0 (.slice none 0 0) (.slice none 0 0) 0 0 false (.slice none 0 0) (.slice none 0 0)) (fRz : wA.heap.size ≤ zr), wpTwo Tryz.prog .any ops Q (WkB b r (.slice p1 n1 c1) (.slice p2 n2 c2) (.slice p3 n3 c3) (.slice p4 n4 c4)) (fun _ => True) (fun _ => false) 10 #[true, true, true, false, false, false, false, false, false, false, true, false, false, false] { tmps := List.toArray (x0 :: x1 :: x2 :: x3 :: x4 :: x5 :: .pointer (some ⟨b, 0, none⟩) :: x7 :: x8 :: x9 :: x10 :: x11 :: .pointer (some ⟨zr, 0, none⟩) :: undef :: undef :: undef :: undef :: undef :: x18 :: x19 :: x20 :: x21 :: x22 :: x23 :: x24 :: x25 :: x26 :: x27 :: x28 :: x29 :: x30 :: x31 :: x32 :: x33 :: x34 :: x35 :: x36 :: x37 :: x38 :: x39 :: x40 :: x41 :: x42 :: x43 :: x44 :: x45 :: x46 :: x47 :: x48 :: x49 :: x50 :: x51 :: x52 :: undef :: .agg #[.int .i64 r.s.now, .slice p1 n1 c1, .slice p2 n2 c2, .int .i64 r.g.done, .int .i64 r.g.asked, .bool r.g.on, .slice p3 n3 c3, .slice p4 n4 c4] :: .agg #[.int .i64 2, .int .i64 1, .int .u64 0] :: .agg #[.int .i64 4, .int .i64 1, .int .u64 0] :: undef :: undef :: undef :: undef :: undef :: undef :: undef :: undef :: undef :: undef :: undef :: undef :: undef :: undef :: undef :: undef :: undef :: undef :: undef :: undef :: undef :: undef :: undef :: undef :: undef :: undef :: undef :: undef :: undef :: undef :: undef :: undef :: undef :: undef :: undef :: undef :: undef :: undef :: undef :: undef :: undef :: undef :: undef :: undef :: undef :: undef :: undef :: undef :: undef :: undef :: undef :: undef :: undef :: undef :: undef :: undef :: undef :: undef :: []), defers := [] } X := by
    clear S_1_2_3_4_5_10 S_1_2_3_4_5 S_1_2_3_4_10 S_1_2_3_4 S_1_2_3
    subst hops
    intro zr X fB fR fRz
    have hT := (show WkB b r (.slice p1 n1 c1) (.slice p2 n2 c2) (.slice p3 n3 c3) (.slice p4 n4 c4) X from hA.1.below (fB))
    refine wpTwo_ready (rs := [3]) (by kernel_rfl) (by simp) ?_
    refine (AllTwo.cons rfl (fun K hK => ?_) AllTwo.nil)
    · refine step_ent rfl (f := 28) (args := #[.int .i64 5, .int .i64 0, .int .u64 0]) (w' := X) (by kernel_rfl) (op_c 5 0 0 X) ?_
      rintro e X1 ⟨rfl, hb⟩
      refine ⟨_, rfl, ?_⟩
      have hT1 := (show WkB b r (.slice p1 n1 c1) (.slice p2 n2 c2) (.slice p3 n3 c3) (.slice p4 n4 c4) X1 from hA.1.below ((below_then fB fB.size hb)))
      exact hK.out _ _ ⟨hT1, fun _ _ => trivial⟩ (S_1_2_3_10 zr X1 (below_then fB fB.size hb) (fR.below hb) (fRz))
  have S_1_2 : ∀  (X : World) (fB : Below wA.heap.size wA X), wpTwo Tryz.prog .any ops Q (WkB b r (.slice p1 n1 c1) (.slice p2 n2 c2) (.slice p3 n3 c3) (.slice p4 n4 c4)) (fun _ => True) (fun _ => false) 11 #[true, true, true, false, false, false, false, false, false, false, false, false, false, false] { tmps := List.toArray (x0 :: x1 :: x2 :: x3 :: x4 :: x5 :: .pointer (some ⟨b, 0, none⟩) :: x7 :: x8 :: x9 :: x10 :: x11 :: undef :: undef :: undef :: undef :: undef :: undef :: x18 :: x19 :: x20 :: x21 :: x22 :: x23 :: x24 :: x25 :: x26 :: x27 :: x28 :: x29 :: x30 :: x31 :: x32 :: x33 :: x34 :: x35 :: x36 :: x37 :: x38 :: x39 :: x40 :: x41 :: x42 :: x43 :: x44 :: x45 :: x46 :: x47 :: x48 :: x49 :: x50 :: x51 :: x52 :: undef :: .agg #[.int .i64 r.s.now, .slice p1 n1 c1, .slice p2 n2 c2, .int .i64 r.g.done, .int .i64 r.g.asked, .bool r.g.on, .slice p3 n3 c3, .slice p4 n4 c4] :: .agg #[.int .i64 2, .int .i64 1, .int .u64 0] :: .agg #[.int .i64 4, .int .i64 1, .int .u64 0] :: undef :: undef :: undef :: undef :: undef :: undef :: undef :: undef :: undef :: undef :: undef :: undef :: undef :: undef :: undef :: undef :: undef :: undef :: undef :: undef :: undef :: undef :: undef :: undef :: undef :: undef :: undef :: undef :: undef :: undef :: undef :: undef :: undef :: undef :: undef :: undef :: undef :: undef :: undef :: undef :: undef :: undef :: undef :: undef :: undef :: undef :: undef :: undef :: undef :: undef :: undef :: undef :: undef :: undef :: undef :: undef :: undef :: undef :: []), defers := [] } X := by
    clear S_1_2_3_4_5_10 S_1_2_3_4_5 S_1_2_3_4_10 S_1_2_3_4 S_1_2_3_10
    subst hops
    intro X fB
    have hT := (show WkB b r (.slice p1 n1 c1) (.slice p2 n2 c2) (.slice p3 n3 c3) (.slice p4 n4 c4) X from hA.1.below (fB))
    refine wpTwo_ready (rs := [3, 10]) (by kernel_rfl) (by simp) ?_
    refine (AllTwo.cons rfl (fun K hK => ?_) (AllTwo.cons rfl (fun K hK => ?_) AllTwo.nil))
    · refine step_ent rfl (f := 28) (args := #[.int .i64 5, .int .i64 0, .int .u64 0]) (w' := X) (by kernel_rfl) (op_c 5 0 0 X) ?_
      rintro e X1 ⟨rfl, hb⟩
      refine ⟨_, rfl, ?_⟩
      have hT1 := (show WkB b r (.slice p1 n1 c1) (.slice p2 n2 c2) (.slice p3 n3 c3) (.slice p4 n4 c4) X1 from hA.1.below ((below_then fB fB.size hb)))
      exact hK.out _ _ ⟨hT1, fun _ _ => trivial⟩ (S_1_2_3 X1 (below_then fB fB.size hb))
    · refine step_val rfl (v := .pointer (some ⟨X.heap.size, 0, none⟩)) (w' := X.alloc (.cells #[.int .i64 0, .slice none 0 0, .slice none 0 0, .int .i64 0, .int .i64 0, .bool false, .slice none 0 0, .slice none 0 0] 30)) (by kernel_rfl) ?_
      obtain ⟨X1, hX⟩ : ∃ Y : World, Y = X.alloc (.cells #[.int .i64 0, .slice none 0 0, .slice none 0 0, .int .i64 0, .int .i64 0, .bool false, .slice none 0 0, .slice none 0 0] 30) := ⟨_, rfl⟩
      rw [← hX]
      have hb : Below X.heap.size X X1 := by rw [hX]; exact below1 _ _
      have hT1 := (show WkB b r (.slice p1 n1 c1) (.slice p2 n2 c2) (.slice p3 n3 c3) (.slice p4 n4 c4) X1 from hA.1.below ((below_then fB fB.size hb)))
      exact hK.out _ _ ⟨hT1, fun _ _ => trivial⟩ (S_1_2_10 X.heap.size X1 (below_then fB fB.size hb) (by rw [hX]; exact RcBox.new _ _ _ _ _ _ _ _ _) (fB.size))
  have S_1_10 : ∀ (zr : Nat) (X : World) (fB : Below wA.heap.size wA X) (fR : RcBox X zr 0 (.slice none 0 0) (.slice none 0 0) 0 0 false (.slice none 0 0) (.slice none 0 0)) (fRz : wA.heap.size ≤ zr), wpTwo Tryz.prog .any ops Q (WkB b r (.slice p1 n1 c1) (.slice p2 n2 c2) (.slice p3 n3 c3) (.slice p4 n4 c4)) (fun _ => True) (fun _ => false) 11 #[true, true, false, false, false, false, false, false, false, false, true, false, false, false] { tmps := List.toArray (x0 :: x1 :: x2 :: x3 :: x4 :: x5 :: .pointer (some ⟨b, 0, none⟩) :: x7 :: x8 :: x9 :: x10 :: x11 :: .pointer (some ⟨zr, 0, none⟩) :: undef :: undef :: undef :: undef :: undef :: x18 :: x19 :: x20 :: x21 :: x22 :: x23 :: x24 :: x25 :: x26 :: x27 :: x28 :: x29 :: x30 :: x31 :: x32 :: x33 :: x34 :: x35 :: x36 :: x37 :: x38 :: x39 :: x40 :: x41 :: x42 :: x43 :: x44 :: x45 :: x46 :: x47 :: x48 :: x49 :: x50 :: x51 :: x52 :: undef :: .agg #[.int .i64 r.s.now, .slice p1 n1 c1, .slice p2 n2 c2, .int .i64 r.g.done, .int .i64 r.g.asked, .bool r.g.on, .slice p3 n3 c3, .slice p4 n4 c4] :: .agg #[.int .i64 2, .int .i64 1, .int .u64 0] :: undef :: undef :: undef :: undef :: undef :: undef :: undef :: undef :: undef :: undef :: undef :: undef :: undef :: undef :: undef :: undef :: undef :: undef :: undef :: undef :: undef :: undef :: undef :: undef :: undef :: undef :: undef :: undef :: undef :: undef :: undef :: undef :: undef :: undef :: undef :: undef :: undef :: undef :: undef :: undef :: undef :: undef :: undef :: undef :: undef :: undef :: undef :: undef :: undef :: undef :: undef :: undef :: undef :: undef :: undef :: undef :: undef :: undef :: undef :: []), defers := [] } X := by
    clear S_1_2_3_4_5_10 S_1_2_3_4_5 S_1_2_3_4_10 S_1_2_3_4 S_1_2_3_10 S_1_2_3 S_1_2
    subst hops
    intro zr X fB fR fRz
    have hT := (show WkB b r (.slice p1 n1 c1) (.slice p2 n2 c2) (.slice p3 n3 c3) (.slice p4 n4 c4) X from hA.1.below (fB))
    refine wpTwo_ready (rs := [2]) (by kernel_rfl) (by simp) ?_
    refine (AllTwo.cons rfl (fun K hK => ?_) AllTwo.nil)
    · refine step_ent rfl (f := 28) (args := #[.int .i64 4, .int .i64 1, .int .u64 0]) (w' := X) (by kernel_rfl) (op_c 4 1 0 X) ?_
      rintro e X1 ⟨rfl, hb⟩
      refine ⟨_, rfl, ?_⟩
      have hT1 := (show WkB b r (.slice p1 n1 c1) (.slice p2 n2 c2) (.slice p3 n3 c3) (.slice p4 n4 c4) X1 from hA.1.below ((below_then fB fB.size hb)))
      exact hK.out _ _ ⟨hT1, fun _ _ => trivial⟩ (S_1_2_10 zr X1 (below_then fB fB.size hb) (fR.below hb) (fRz))
  have S_1 : ∀  (X : World) (fB : Below wA.heap.size wA X), wpTwo Tryz.prog .any ops Q (WkB b r (.slice p1 n1 c1) (.slice p2 n2 c2) (.slice p3 n3 c3) (.slice p4 n4 c4)) (fun _ => True) (fun _ => false) 12 #[true, true, false, false, false, false, false, false, false, false, false, false, false, false] { tmps := List.toArray (x0 :: x1 :: x2 :: x3 :: x4 :: x5 :: .pointer (some ⟨b, 0, none⟩) :: x7 :: x8 :: x9 :: x10 :: x11 :: undef :: undef :: undef :: undef :: undef :: undef :: x18 :: x19 :: x20 :: x21 :: x22 :: x23 :: x24 :: x25 :: x26 :: x27 :: x28 :: x29 :: x30 :: x31 :: x32 :: x33 :: x34 :: x35 :: x36 :: x37 :: x38 :: x39 :: x40 :: x41 :: x42 :: x43 :: x44 :: x45 :: x46 :: x47 :: x48 :: x49 :: x50 :: x51 :: x52 :: undef :: .agg #[.int .i64 r.s.now, .slice p1 n1 c1, .slice p2 n2 c2, .int .i64 r.g.done, .int .i64 r.g.asked, .bool r.g.on, .slice p3 n3 c3, .slice p4 n4 c4] :: .agg #[.int .i64 2, .int .i64 1, .int .u64 0] :: undef :: undef :: undef :: undef :: undef :: undef :: undef :: undef :: undef :: undef :: undef :: undef :: undef :: undef :: undef :: undef :: undef :: undef :: undef :: undef :: undef :: undef :: undef :: undef :: undef :: undef :: undef :: undef :: undef :: undef :: undef :: undef :: undef :: undef :: undef :: undef :: undef :: undef :: undef :: undef :: undef :: undef :: undef :: undef :: undef :: undef :: undef :: undef :: undef :: undef :: undef :: undef :: undef :: undef :: undef :: undef :: undef :: undef :: undef :: []), defers := [] } X := by
    clear S_1_2_3_4_5_10 S_1_2_3_4_5 S_1_2_3_4_10 S_1_2_3_4 S_1_2_3_10 S_1_2_3 S_1_2_10
    subst hops
    intro X fB
    have hT := (show WkB b r (.slice p1 n1 c1) (.slice p2 n2 c2) (.slice p3 n3 c3) (.slice p4 n4 c4) X from hA.1.below (fB))
    refine wpTwo_ready (rs := [2, 10]) (by kernel_rfl) (by simp) ?_
    refine (AllTwo.cons rfl (fun K hK => ?_) (AllTwo.cons rfl (fun K hK => ?_) AllTwo.nil))
    · refine step_ent rfl (f := 28) (args := #[.int .i64 4, .int .i64 1, .int .u64 0]) (w' := X) (by kernel_rfl) (op_c 4 1 0 X) ?_
      rintro e X1 ⟨rfl, hb⟩
      refine ⟨_, rfl, ?_⟩
      have hT1 := (show WkB b r (.slice p1 n1 c1) (.slice p2 n2 c2) (.slice p3 n3 c3) (.slice p4 n4 c4) X1 from hA.1.below ((below_then fB fB.size hb)))
      exact hK.out _ _ ⟨hT1, fun _ _ => trivial⟩ (S_1_2 X1 (below_then fB fB.size hb))
    · refine step_val rfl (v := .pointer (some ⟨X.heap.size, 0, none⟩)) (w' := X.alloc (.cells #[.int .i64 0, .slice none 0 0, .slice none 0 0, .int .i64 0, .int .i64 0, .bool false, .slice none 0 0, .slice none 0 0] 30)) (by kernel_rfl) ?_
      obtain ⟨X1, hX⟩ : ∃ Y : World, Y = X.alloc (.cells #[.int .i64 0, .slice none 0 0, .slice none 0 0, .int .i64 0, .int .i64 0, .bool false, .slice none 0 0, .slice none 0 0] 30) := ⟨_, rfl⟩
      rw [← hX]
      have hb : Below X.heap.size X X1 := by rw [hX]; exact below1 _ _
      have hT1 := (show WkB b r (.slice p1 n1 c1) (.slice p2 n2 c2) (.slice p3 n3 c3) (.slice p4 n4 c4) X1 from hA.1.below ((below_then fB fB.size hb)))
      exact hK.out _ _ ⟨hT1, fun _ _ => trivial⟩ (S_1_10 X.heap.size X1 (below_then fB fB.size hb) (by rw [hX]; exact RcBox.new _ _ _ _ _ _ _ _ _) (fB.size))
  have S_10 : ∀ (zr : Nat) (X : World) (fB : Below wA.heap.size wA X) (fR : RcBox X zr 0 (.slice none 0 0) (.slice none 0 0) 0 0 false (.slice none 0 0) (.slice none 0 0)) (fRz : wA.heap.size ≤ zr), wpTwo Tryz.prog .any ops Q (WkB b r (.slice p1 n1 c1) (.slice p2 n2 c2) (.slice p3 n3 c3) (.slice p4 n4 c4)) (fun _ => True) (fun _ => false) 12 #[true, false, false, false, false, false, false, false, false, false, true, false, false, false] { tmps := List.toArray (x0 :: x1 :: x2 :: x3 :: x4 :: x5 :: .pointer (some ⟨b, 0, none⟩) :: x7 :: x8 :: x9 :: x10 :: x11 :: .pointer (some ⟨zr, 0, none⟩) :: undef :: undef :: undef :: undef :: undef :: x18 :: x19 :: x20 :: x21 :: x22 :: x23 :: x24 :: x25 :: x26 :: x27 :: x28 :: x29 :: x30 :: x31 :: x32 :: x33 :: x34 :: x35 :: x36 :: x37 :: x38 :: x39 :: x40 :: x41 :: x42 :: x43 :: x44 :: x45 :: x46 :: x47 :: x48 :: x49 :: x50 :: x51 :: x52 :: undef :: .agg #[.int .i64 r.s.now, .slice p1 n1 c1, .slice p2 n2 c2, .int .i64 r.g.done, .int .i64 r.g.asked, .bool r.g.on, .slice p3 n3 c3, .slice p4 n4 c4] :: undef :: undef :: undef :: undef :: undef :: undef :: undef :: undef :: undef :: undef :: undef :: undef :: undef :: undef :: undef :: undef :: undef :: undef :: undef :: undef :: undef :: undef :: undef :: undef :: undef :: undef :: undef :: undef :: undef :: undef :: undef :: undef :: undef :: undef :: undef :: undef :: undef :: undef :: undef :: undef :: undef :: undef :: undef :: undef :: undef :: undef :: undef :: undef :: undef :: undef :: undef :: undef :: undef :: undef :: undef :: undef :: undef :: undef :: undef :: undef :: []), defers := [] } X := by
    clear S_1_2_3_4_5_10 S_1_2_3_4_5 S_1_2_3_4_10 S_1_2_3_4 S_1_2_3_10 S_1_2_3 S_1_2_10 S_1_2 S_1
    subst hops
    intro zr X fB fR fRz
    have hT := (show WkB b r (.slice p1 n1 c1) (.slice p2 n2 c2) (.slice p3 n3 c3) (.slice p4 n4 c4) X from hA.1.below (fB))
    refine wpTwo_ready (rs := [1]) (by kernel_rfl) (by simp) ?_
    refine (AllTwo.cons rfl (fun K hK => ?_) AllTwo.nil)
    · refine step_ent rfl (f := 28) (args := #[.int .i64 2, .int .i64 1, .int .u64 0]) (w' := X) (by kernel_rfl) (op_c 2 1 0 X) ?_
      rintro e X1 ⟨rfl, hb⟩
      refine ⟨_, rfl, ?_⟩
      have hT1 := (show WkB b r (.slice p1 n1 c1) (.slice p2 n2 c2) (.slice p3 n3 c3) (.slice p4 n4 c4) X1 from hA.1.below ((below_then fB fB.size hb)))
      exact hK.out _ _ ⟨hT1, fun _ _ => trivial⟩ (S_1_10 zr X1 (below_then fB fB.size hb) (fR.below hb) (fRz))
  have S_o : ∀  (X : World) (fB : Below wA.heap.size wA X), wpTwo Tryz.prog .any ops Q (WkB b r (.slice p1 n1 c1) (.slice p2 n2 c2) (.slice p3 n3 c3) (.slice p4 n4 c4)) (fun _ => True) (fun _ => false) 13 #[true, false, false, false, false, false, false, false, false, false, false, false, false, false] { tmps := List.toArray (x0 :: x1 :: x2 :: x3 :: x4 :: x5 :: .pointer (some ⟨b, 0, none⟩) :: x7 :: x8 :: x9 :: x10 :: x11 :: undef :: undef :: undef :: undef :: undef :: undef :: x18 :: x19 :: x20 :: x21 :: x22 :: x23 :: x24 :: x25 :: x26 :: x27 :: x28 :: x29 :: x30 :: x31 :: x32 :: x33 :: x34 :: x35 :: x36 :: x37 :: x38 :: x39 :: x40 :: x41 :: x42 :: x43 :: x44 :: x45 :: x46 :: x47 :: x48 :: x49 :: x50 :: x51 :: x52 :: undef :: .agg #[.int .i64 r.s.now, .slice p1 n1 c1, .slice p2 n2 c2, .int .i64 r.g.done, .int .i64 r.g.asked, .bool r.g.on, .slice p3 n3 c3, .slice p4 n4 c4] :: undef :: undef :: undef :: undef :: undef :: undef :: undef :: undef :: undef :: undef :: undef :: undef :: undef :: undef :: undef :: undef :: undef :: undef :: undef :: undef :: undef :: undef :: undef :: undef :: undef :: undef :: undef :: undef :: undef :: undef :: undef :: undef :: undef :: undef :: undef :: undef :: undef :: undef :: undef :: undef :: undef :: undef :: undef :: undef :: undef :: undef :: undef :: undef :: undef :: undef :: undef :: undef :: undef :: undef :: undef :: undef :: undef :: undef :: undef :: undef :: []), defers := [] } X := by
    clear S_1_2_3_4_5_10 S_1_2_3_4_5 S_1_2_3_4_10 S_1_2_3_4 S_1_2_3_10 S_1_2_3 S_1_2_10 S_1_2 S_1_10
    subst hops
    intro X fB
    have hT := (show WkB b r (.slice p1 n1 c1) (.slice p2 n2 c2) (.slice p3 n3 c3) (.slice p4 n4 c4) X from hA.1.below (fB))
    refine wpTwo_ready (rs := [1, 10]) (by kernel_rfl) (by simp) ?_
    refine (AllTwo.cons rfl (fun K hK => ?_) (AllTwo.cons rfl (fun K hK => ?_) AllTwo.nil))
    · refine step_ent rfl (f := 28) (args := #[.int .i64 2, .int .i64 1, .int .u64 0]) (w' := X) (by kernel_rfl) (op_c 2 1 0 X) ?_
      rintro e X1 ⟨rfl, hb⟩
      refine ⟨_, rfl, ?_⟩
      have hT1 := (show WkB b r (.slice p1 n1 c1) (.slice p2 n2 c2) (.slice p3 n3 c3) (.slice p4 n4 c4) X1 from hA.1.below ((below_then fB fB.size hb)))
      exact hK.out _ _ ⟨hT1, fun _ _ => trivial⟩ (S_1 X1 (below_then fB fB.size hb))
    · refine step_val rfl (v := .pointer (some ⟨X.heap.size, 0, none⟩)) (w' := X.alloc (.cells #[.int .i64 0, .slice none 0 0, .slice none 0 0, .int .i64 0, .int .i64 0, .bool false, .slice none 0 0, .slice none 0 0] 30)) (by kernel_rfl) ?_
      obtain ⟨X1, hX⟩ : ∃ Y : World, Y = X.alloc (.cells #[.int .i64 0, .slice none 0 0, .slice none 0 0, .int .i64 0, .int .i64 0, .bool false, .slice none 0 0, .slice none 0 0] 30) := ⟨_, rfl⟩
      rw [← hX]
      have hb : Below X.heap.size X X1 := by rw [hX]; exact below1 _ _
      have hT1 := (show WkB b r (.slice p1 n1 c1) (.slice p2 n2 c2) (.slice p3 n3 c3) (.slice p4 n4 c4) X1 from hA.1.below ((below_then fB fB.size hb)))
      exact hK.out _ _ ⟨hT1, fun _ _ => trivial⟩ (S_10 X.heap.size X1 (below_then fB fB.size hb) (by rw [hX]; exact RcBox.new _ _ _ _ _ _ _ _ _) (fB.size))
  clear S_1_2_3_4_5_10 S_1_2_3_4_5 S_1_2_3_4_10 S_1_2_3_4 S_1_2_3_10 S_1_2_3 S_1_2_10 S_1_2 S_1_10 S_1 S_10
  subst hops
  refine wpTwo_begin (T := (WkB b r (.slice p1 n1 c1) (.slice p2 n2 c2) (.slice p3 n3 c3) (.slice p4 n4 c4))) (S := fun _ => True) (late := fun _ => false) (by kernel_rfl) ?_
  obtain ⟨X0, hX0⟩ : ∃ X : World, X = wA.drew := ⟨_, rfl⟩
  rw [← hX0]
  have fB : Below wA.heap.size wA X0 := by rw [hX0]; exact (Below.refl _ _).drew
  have hT := (show WkB b r (.slice p1 n1 c1) (.slice p2 n2 c2) (.slice p3 n3 c3) (.slice p4 n4 c4) X0 from hA.1.below (fB))
  clear hX0
  refine wpTwo_takeT (i := 0) (v := .agg #[.int .i64 r.s.now, .slice p1 n1 c1, .slice p2 n2 c2, .int .i64 r.g.done, .int .i64 r.g.asked, .bool r.g.on, .slice p3 n3 c3, .slice p4 n4 c4]) rfl (by kernel_rfl) (by kernel_rfl) (by kernel_rfl) (fun c a w h => hQp c a _ _ w h) ⟨by rfl, ?_⟩ hT ?_
  · rintro w hTw
    obtain ⟨t0', t1', t2', t3', t4', t5', t6', t7'⟩ := hTw.cells
    go_simp
  (try simp only [Act.put, List.getElem_toArray, List.getElem_cons_zero, List.setIfInBounds_toArray, List.set_cons_succ, List.set_cons_zero])
  exact S_o X0 fB

end Go.Proofs.YtdllhiihmpinoaaGreat
namespace Go.Proofs.YtdllhiihmpinoaaGreat
set_option maxRecDepth 100000
open Go.RowKit Go.Shelf
attribute [local go_sem] Oper.semAt_some

set_option maxHeartbeats 32000000 in
theorem rSettle_c (E : Int) (r' : RcS) (ws : List Int) (r : RcS) (u v nv qv : Value) (W : World) (hi : RcIn U.NoS W u v nv qv r)
    (C : ∀ (z rb : Nat) (W0 : World), VtBox W0 z 0 nilV nilV 0 0 false nilV nilV nilV → z + 2 ≤ W0.heap.size → RcBox W0 rb r.s.now u v r.g.done r.g.asked r.g.on nv qv → rb < z → RcIn (fun k => z ≤ k) W0 u v nv qv r → Calls Tryz.prog 47 #[.pointer (some ⟨z, 0, none⟩), .pointer (some ⟨rb, 0, none⟩)] W0 fun e w' => OsQ z (z + 2) E r' ws e W0 w') :
    Calls Tryz.prog 17 #[.agg #[.int .i64 r.s.now, u, v, .int .i64 r.g.done, .int .i64 r.g.asked, .bool r.g.on, nv, qv]] W fun e w' => RunQ2 W.heap.size E r' ws e w' ∧ Below W.heap.size W w' := by
  have hmf : ∀ (fn : Fn) (first cap : Array Value) (w : World), (Instr.makeFunc fn first cap).run Tryz.prog w = .ok (.func fn first cap) w := fun _ _ _ _ => rfl
  obtain ⟨wa, hwa⟩ : ∃ X : World, X = W.alloc (.cells #[.int .i64 r.s.now, u, v, .int .i64 r.g.done, .int .i64 r.g.asked, .bool r.g.on, nv, qv] 30) := ⟨_, rfl⟩
  obtain ⟨w0, hw0⟩ : ∃ X : World, X = wa.alloc (.cells #[.int .i64 0, .slice none 0 0, .slice none 0 0, .int .i64 0, .int .i64 0, .bool false, .slice none 0 0, .slice none 0 0] 30) := ⟨_, rfl⟩
  obtain ⟨-, ba, xa⟩ := rc_boxed hi hwa
  have b0 : Below wa.heap.size wa w0 := by rw [hw0]; exact below1 _ _
  have sa : wa.heap.size = W.heap.size + 1 := by rw [hwa]; simp
  have s0 : w0.heap.size = W.heap.size + 2 := by rw [hw0, World.size_alloc, sa]
  have hbW := below_then ba ba.size b0
  have x0 : RcBox w0 (W.heap.size + 1) 0 nilV nilV 0 0 false nilV nilV := by
    have : RcBox w0 wa.heap.size 0 nilV nilV 0 0 false nilV nilV := by rw [hw0]; exact RcBox.new _ _ _ _ _ _ _ _ _
    rwa [sa] at this
  have HF := Lib.hid (show RcBox w0 (W.heap.size + 1) 0 nilV nilV 0 0 false nilV nilV ∧ Below W.heap.size W w0 ∧ w0.heap.size = W.heap.size + 2 from ⟨x0, hbW, s0⟩)
  have HT := Lib.hid (tried_ans 47 #[.pointer (some ⟨W.heap.size, 0, none⟩)] w0 (fun _ _ => rfl) E r' ws (fun W0 kb hz hb => by
    have h1 := below_then hbW hbW.size hb
    exact C w0.heap.size W.heap.size W0 kb hz ((xa.below b0).below hb) (by omega) ((hi.apart (T := fun k => w0.heap.size ≤ k) (fun q hq => .inr (by omega))).below h1)))
  obtain ⟨p1, c1, p2, c2, p3, c3, p4, c4, rfl, rfl, rfl, rfl⟩ := hi.sl
  have HW := Lib.hid (show w0 = (W.alloc (.cells #[.int .i64 r.s.now, .slice p1 r.s.ns.length c1, .slice p2 r.s.os.length c2, .int .i64 r.g.done, .int .i64 r.g.asked, .bool r.g.on, .slice p3 r.g.nd.length c3, .slice p4 r.qs.length c4] 30)).alloc (.cells #[.int .i64 0, .slice none 0 0, .slice none 0 0, .int .i64 0, .int .i64 0, .bool false, .slice none 0 0, .slice none 0 0] 30) by rw [hw0, hwa])
  clear hi hwa hw0 ba xa b0 sa s0 hbW x0 C
  go_enter Tryz.func17, Tryz.ntmps17
  go_upto_region 1 with fail
  rw [← HW.out]
  clear HW
  go_wp2_with fail
  (with_reducible refine HT.out.mono ?_)
  rintro e w1 ⟨⟨now, u, v, d, a, on, nv, qv, lv, x, rfl, hA⟩, hb1⟩
  obtain ⟨⟨q1, m1, e1, rfl⟩, ⟨q2, m2, e2, rfl⟩, ⟨q3, m3, e3, rfl⟩, ⟨q4, m4, e4, rfl⟩, ⟨q5, m5, e5, rfl⟩⟩ := hA.1
  obtain ⟨z7, hz7⟩ : ∃ x, x = w1.heap.size := ⟨_, rfl⟩
  obtain ⟨w2, hw2⟩ : ∃ X : World, X = w1.alloc (.cells #[.int .i64 now, .slice q1 m1 e1, .slice q2 m2 e2, .int .i64 d, .int .i64 a, .bool on, .slice q3 m3 e3, .slice q4 m4 e4, .slice q5 m5 e5] 91) := ⟨_, rfl⟩
  have hb2 : Below w1.heap.size w1 w2 := by rw [hw2]; exact below1 _ _
  have hv2 : VtBox w2 z7 now (.slice q1 m1 e1) (.slice q2 m2 e2) d a on (.slice q3 m3 e3) (.slice q4 m4 e4) (.slice q5 m5 e5) := by rw [hw2, hz7]; exact VtBox.new _ _ _ _ _ _ _ _ _ _
  have hx2 := (HF.out.1.below hb1).below hb2
  have hB2 := below_then (below_then HF.out.2.1 HF.out.2.1.size hb1) (below_then HF.out.2.1 HF.out.2.1.size hb1).size hb2
  have hz27 : W.heap.size + 1 < z7 := by rw [hz7]; have := hb1.size; have := HF.out.2.2; omega
  obtain ⟨w3, hw3⟩ : ∃ X : World, X = ((((((((w2.setCell ⟨W.heap.size + 1, 0, none⟩ (.int .i64 now)).setCell ⟨W.heap.size + 1, 1, none⟩ (.slice q1 m1 e1)).setCell ⟨W.heap.size + 1, 2, none⟩ (.slice q2 m2 e2)).setCell ⟨W.heap.size + 1, 3, none⟩ (.int .i64 d)).setCell ⟨W.heap.size + 1, 4, none⟩ (.int .i64 a)).setCell ⟨W.heap.size + 1, 5, none⟩ (.bool on)).setCell ⟨W.heap.size + 1, 6, none⟩ (.slice q3 m3 e3)).setCell ⟨W.heap.size + 1, 7, none⟩ (.slice q4 m4 e4)) := ⟨_, rfl⟩
  have hput := hx2.putAll now (.slice q1 m1 e1) (.slice q2 m2 e2) d a on (.slice q3 m3 e3) (.slice q4 m4 e4)
  have hkp := RcBox.putAllK w2 (W.heap.size + 1) now (.slice q1 m1 e1) (.slice q2 m2 e2) d a on (.slice q3 m3 e3) (.slice q4 m4 e4)
  rw [← hw3] at hput hkp
  have HR := Lib.hid (show RcBox w3.drew (W.heap.size + 1) now (.slice q1 m1 e1) (.slice q2 m2 e2) d a on (.slice q3 m3 e3) (.slice q4 m4 e4) ∧ Below W.heap.size W w3.drew ∧ AnsX W.heap.size E r' ws now (.slice q1 m1 e1) (.slice q2 m2 e2) d a on (.slice q3 m3 e3) (.slice q4 m4 e4) (.slice q5 m5 e5) x w3.drew from
    ⟨hput.below ((Below.refl _ _).drew), (hB2.trans (hkp.below hB2.size (fun k e => by omega))).drew, ((((hA.below hb2).keeps hkp (fun k e => by have := HF.out.2.2; omega)).mono (by have := HF.out.2.2; omega))).below ((Below.refl _ _).drew)⟩)
  obtain ⟨t0, t1, t2, t3, t4, t5, t6, t7, t8⟩ := hv2.cells
  obtain ⟨d0, d1, d2, d3, d4, d5, d6, d7⟩ := hx2.cells
  have k0 := hx2.marks 0
  have k1 := hx2.marks 1
  have k2 := hx2.marks 2
  have k3 := hx2.marks 3
  have k4 := hx2.marks 4
  have k5 := hx2.marks 5
  have k6 := hx2.marks 6
  have k7 := hx2.marks 7
  have hne : ¬ z7 = W.heap.size + 1 := by omega
  unfold nilV at d1 d2 d6 d7
  have HW2 := Lib.hid (And.intro hw2 (And.intro hz7 hw3))
  clear hb2 hv2 hx2 hB2 hput hkp hA hb1 hw2 hz7 hw3 HT hz27
  go_upto_region 2 with fail
  rw [← HW2.out.1, ← HW2.out.2.1]
  go_region
  go_wp2
  rw [← HW2.out.2.2]
  refine bodyPost_ret (v := .tuple #[.agg #[.int .i64 now, .slice q1 m1 e1, .slice q2 m2 e2, .int .i64 d, .int .i64 a, .bool on, .slice q3 m3 e3, .slice q4 m4 e4], .slice q5 m5 e5, .int .i64 x]) (results_cttt rfl _ _ _ rfl rfl rfl HR.out.1.load) rfl ⟨⟨_, _, _, _, _, _, _, _, _, _, rfl, HR.out.2.2⟩, HR.out.2.1⟩


set_option maxHeartbeats 16000000 in
theorem set1_open (r : RcS) (u v nv qv : Value) (hr : RcR r) (hm : rmayB r = true) (ho : openB r.s = true) (z rb : Nat) (W : World) (kb : VtBox W z 0 nilV nilV 0 0 false nilV nilV nilV) (hz : z + 2 ≤ W.heap.size) (hrb : RcBox W rb r.s.now u v r.g.done r.g.asked r.g.on nv qv) (hrz : rb < z)
    (hi : RcIn (fun k => z ≤ k) W u v nv qv r) (r' : RcS) (ws : List Int) :
    Calls Tryz.prog 47 #[.pointer (some ⟨z, 0, none⟩), .pointer (some ⟨rb, 0, none⟩)] W fun e w' => OsQ z (z + 2) 241 r' ws e W w' := by
  obtain ⟨d0, d1, d2, d3, d4, d5, d6, d7⟩ := hrb.cells
  have HC := Lib.hid (rhold_ok z (z + 2) r u v nv qv W kb hi hr hm (by omega) hz)
  have HX := Lib.hid (And.intro hrb (And.intro hrz (And.intro hi (And.intro hr (And.intro (rmay_facts hm).1 ho)))))
  obtain ⟨p1, c1, p2, c2, p3, c3, p4, c4, rfl, rfl, rfl, rfl⟩ := hi.sl
  clear hm hi hr ho kb hrb hrz hz
  go_enter Tryz.func47, Tryz.ntmps47
  go_wp2_with fail
  (with_reducible refine HC.out.mono ?_)
  rintro e w1 ⟨rfl, hk1, u1, v1, nv1, qb, qc, hv1⟩
  have hx1 := HX.out.1.keeps hk1 (by have := HX.out.2.1; omega)
  have hi1 := (HX.out.2.2.1.keeps (hk1.sub fun k _ e => by omega)).noS
  have HO := Lib.hid (ropen_c _ _ _ _ r w1 hi1 HX.out.2.2.2.1 HX.out.2.2.2.2.1)
  have HV := Lib.hid (And.intro hv1 hk1)
  obtain ⟨e0, e1, e2, e3, e4, e5, e6, e7⟩ := hx1.cells
  clear hk1 hv1 hx1 hi1 HC d0 d1 d2 d3 d4 d5 d6 d7
  go_wp2_with fail
  (with_reducible refine HO.out.mono ?_)
  rintro e w2 ⟨rfl, hb2⟩
  rw [HX.out.2.2.2.2.2]
  have HF := Lib.hid (show OsQ z (z + 2) 241 r' ws (woe 241) W w2 from ⟨(HV.out.2.sub fun k _ e => .inl e).trans (Keeps.of_below hb2), .inl ⟨by decide, rfl, VtAny.keeps HV.out.1.any (Keeps.of_below (S := fun _ => False) hb2) id⟩⟩)
  clear hb2 e0 e1 e2 e3 e4 e5 e6 e7 HO HV
  go_wp2
  exact ⟨rfl, HF.out⟩

end Go.Proofs.YtdllhiihmpinoaaGreat
