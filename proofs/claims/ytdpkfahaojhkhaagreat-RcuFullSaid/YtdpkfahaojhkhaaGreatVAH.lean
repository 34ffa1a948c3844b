/-
  RcuFull answers true of all inputs, and leaves its arguments as they were.
  Conditions: none.
-/
import Derived.Test.YtdpkfahaojhkhaaGreatVA18
import Derived.Test.YtdpkfahaojhkhaaGreatVA1
import Derived.Test.YtdpkfahaojhkhaaGreatVA17
/-
  A step of the loops of the statements of layer 14: the regions that draw their order.
  Conditions: as each has them.
-/
namespace Go.Proofs.YtdpkfahaojhkhaaGreat
set_option maxRecDepth 100000
open Go.RowKit Go.Shelf
attribute [local go_sem] Oper.semAt_some

/-- A region's operations, wherever it lies. -/
def regDeep (id : Nat) : Code → Option (Array Oper)
  | .region i ops _ => if i = id then some ops else none
  | .seq a b => match regDeep id a with
    | some o => some o
    | none => regDeep id b
  | .cond _ a b => match regDeep id a with
    | some o => some o
    | none => regDeep id b
  | .block _ a => regDeep id a
  | .loop a => regDeep id a
  | .scope a => regDeep id a
  | .rangeFunc _ _ a b => match regDeep id a with
    | some o => some o
    | none => regDeep id b
  | _ => none
/-- What a step has answered, of whatever outcome. -/
def StF (S : Nat → Prop) (E : Int) (r' : RcS) (now d a : Int) (on : Bool) (u v nv qv : Value) (x : Int) (X : World) : Prop :=
  (E ≠ 0 ∧ x = E ∧ now = 0 ∧ u = nilV ∧ v = nilV ∧ d = 0 ∧ a = 0 ∧ on = false ∧ nv = nilV ∧ qv = nilV) ∨ (E = 0 ∧ x = 0 ∧ now = r'.s.now ∧ d = r'.g.done ∧ a = r'.g.asked ∧ on = r'.g.on ∧ RcIn S X u v nv qv r')
theorem StF.below {S : Nat → Prop} {E : Int} {r' : RcS} {now d a : Int} {on : Bool} {u v nv qv : Value} {x : Int} {X Y : World} (h : StF S E r' now d a on u v nv qv x X) (hb : Below X.heap.size X Y) : StF S E r' now d a on u v nv qv x Y := h.imp id (fun ⟨h1, h2, h3, h4, h5, h6, h7⟩ => ⟨h1, h2, h3, h4, h5, h6, h7.below hb⟩)
theorem StF.keeps {S : Nat → Prop} {E : Int} {r' : RcS} {now d a : Int} {on : Bool} {u v nv qv : Value} {x : Int} {X Y : World} (h : StF S E r' now d a on u v nv qv x X) (hb : Keeps S X Y) : StF S E r' now d a on u v nv qv x Y := h.imp id (fun ⟨h1, h2, h3, h4, h5, h6, h7⟩ => ⟨h1, h2, h3, h4, h5, h6, h7.keeps hb⟩)
theorem StF.apart {S T : Nat → Prop} {E : Int} {r' : RcS} {now d a : Int} {on : Bool} {u v nv qv : Value} {x : Int} {X : World} (h : StF S E r' now d a on u v nv qv x X) (hT : ∀ q, T q → S q ∨ X.heap.size ≤ q) : StF T E r' now d a on u v nv qv x X := h.imp id (fun ⟨h1, h2, h3, h4, h5, h6, h7⟩ => ⟨h1, h2, h3, h4, h5, h6, h7.apart hT⟩)
def StW (B : Nat) (E : Int) (r' : RcS) (e : Ending) (w' : World) : Prop := ∃ now d a on q1 m1 e1 q2 m2 e2 q3 m3 e3 q4 m4 e4 yt xe, e = .returned (.tuple #[.agg #[.int .i64 now, .slice q1 m1 e1, .slice q2 m2 e2, .int .i64 d, .int .i64 a, .bool on, .slice q3 m3 e3, .slice q4 m4 e4], .int .u64 yt, .int .i64 xe]) ∧ StF (fun k => k < B) E r' now d a on (.slice q1 m1 e1) (.slice q2 m2 e2) (.slice q3 m3 e3) (.slice q4 m4 e4) xe w'
theorem st_run {r r' : RcS} {E : Int} (hr : RcR r) (k c x0 : Int) (hE : stepAE r (k, c, x0) = E) (hR : opR r (k, c, x0) = r') (u v nv qv : Value) (W : World) (hi : RcIn U.NoS W u v nv qv r) :
    Calls Tryz.prog 12 #[.agg #[.int .i64 r.s.now, u, v, .int .i64 r.g.done, .int .i64 r.g.asked, .bool r.g.on, nv, qv], .agg #[.int .i64 k, .int .i64 c, .int .u64 x0]] W fun e w' => StW W.heap.size E r' e w' ∧ Below W.heap.size W w' := by
  refine (rStep_c r u v nv qv k c x0 W hi hr).mono ?_
  rintro e w' ⟨⟨now, u', v', d, a, on, nv', qv', x, rfl, hA⟩, hb⟩
  refine ⟨?_, hb⟩
  rw [hE, hR] at hA
  obtain ⟨⟨⟨q1, m1, e1, rfl⟩, ⟨q2, m2, e2, rfl⟩, ⟨q3, m3, e3, rfl⟩, ⟨q4, m4, e4, rfl⟩, -⟩, h⟩ := hA
  refine ⟨_, _, _, _, _, _, _, _, _, _, _, _, _, _, _, _, _, _, rfl, ?_⟩
  rcases h with ⟨h1, h2, h3, h4, h5, h6, h7, h8, h9, h10, -⟩ | ⟨h1, h2, h3, h4, h5, h6, h7, -⟩
  · exact .inl ⟨h1, h2, h3, h4, h5, h6, h7, h8, h9, h10⟩
  · exact .inr ⟨h1, h2, h3, h4, h5, h6, h7⟩
def StO (B : World) (z : Nat) (E : Int) (r' : RcS) (now d a : Int) (on : Bool) (u v nv qv : Value) (x : Int) (X : World) : Prop := RcBox X z now u v d a on nv qv ∧ StF (fun k => k < B.heap.size) E r' now d a on u v nv qv x X ∧ B.heap.size ≤ z ∧ Below B.heap.size B X

noncomputable def full_reg10_ops : Array Oper := (regDeep 10 (Tryz.f7.body.getD .skip)).getD #[]
set_option maxHeartbeats 32000000 in
theorem full_reg10 (b M : Nat) (r : RcS) (p1 : Option Addr) (n1 c1 : Nat) (p2 : Option Addr) (n2 c2 : Nat) (p3 : Option Addr) (n3 c3 : Nat) (p4 : Option Addr) (n4 c4 : Nat) (x0 x2 x3 x4 x6 x7 x8 x9 x10 x11 x12 x13 x14 x15 x16 x17 x18 x19 x20 x21 x22 x23 x24 x25 x26 x27 x28 x29 x30 x31 x32 x33 x34 x35 x36 x37 x38 x39 x40 x41 x42 x43 x44 x45 x46 x47 x48 x49 x50 x51 x52 x53 x54 x55 x56 x57 x58 x59 x60 x61 x62 x63 x64 x65 x66 x67 x68 x69 x70 x71 x72 x73 x74 x75 x76 x77 x78 x79 x80 x81 x82 x83 x84 x85 x86 x87 x88 x89 x90 x91 x92 : Value) (wA : World) (hA : WkA b r (.slice p1 n1 c1) (.slice p2 n2 c2) (.slice p3 n3 c3) (.slice p4 n4 c4) wA) (hr : RcR r) (E : Int) (r' : RcS) (hE : stepAE r (3, (M : Int), 1) = E) (hR : opR r (3, (M : Int), 1) = r') (ops : Array Oper) (hops : ops = full_reg10_ops) (Q : Exit → Act → World → Prop) (hQp : ∀ c (a : Act) i v w, Q (.panic c) (a.put i v) w → Q (.panic c) a w)
    (hQ : ∀ (zr : Nat) (now d a : Int) (on : Bool) (q1 : Option Addr) (m1 e1 : Nat) (q2 : Option Addr) (m2 e2 : Nat) (q3 : Option Addr) (m3 e3 : Nat) (q4 : Option Addr) (m4 e4 : Nat) (yt xe : Int) (X : World), StO wA zr E r' now d a on (.slice q1 m1 e1) (.slice q2 m2 e2) (.slice q3 m3 e3) (.slice q4 m4 e4) xe X → Q .normal { tmps := List.toArray (x0 :: .int .i64 (M : Int) :: x2 :: x3 :: x4 :: .pointer (some ⟨b, 0, none⟩) :: x6 :: .pointer (some ⟨zr, 0, none⟩) :: .int .u64 yt :: .int .i64 xe :: x10 :: x11 :: x12 :: x13 :: x14 :: x15 :: x16 :: x17 :: x18 :: x19 :: x20 :: x21 :: x22 :: x23 :: x24 :: x25 :: x26 :: x27 :: x28 :: x29 :: x30 :: x31 :: x32 :: x33 :: x34 :: x35 :: x36 :: x37 :: x38 :: x39 :: x40 :: x41 :: .tuple #[.agg #[.int .i64 now, .slice q1 m1 e1, .slice q2 m2 e2, .int .i64 d, .int .i64 a, .bool on, .slice q3 m3 e3, .slice q4 m4 e4], .int .u64 yt, .int .i64 xe] :: .agg #[.int .i64 r.s.now, .slice p1 n1 c1, .slice p2 n2 c2, .int .i64 r.g.done, .int .i64 r.g.asked, .bool r.g.on, .slice p3 n3 c3, .slice p4 n4 c4] :: .int .i64 (M : Int) :: .agg #[.int .i64 3, .int .i64 (M : Int), .int .u64 1] :: .tuple #[.agg #[.int .i64 now, .slice q1 m1 e1, .slice q2 m2 e2, .int .i64 d, .int .i64 a, .bool on, .slice q3 m3 e3, .slice q4 m4 e4], .int .u64 yt, .int .i64 xe] :: .agg #[.int .i64 now, .slice q1 m1 e1, .slice q2 m2 e2, .int .i64 d, .int .i64 a, .bool on, .slice q3 m3 e3, .slice q4 m4 e4] :: .int .u64 yt :: .int .i64 xe :: x50 :: x51 :: x52 :: x53 :: x54 :: x55 :: x56 :: x57 :: x58 :: x59 :: x60 :: x61 :: x62 :: x63 :: x64 :: x65 :: x66 :: x67 :: x68 :: x69 :: x70 :: x71 :: x72 :: x73 :: x74 :: x75 :: x76 :: x77 :: x78 :: x79 :: x80 :: x81 :: x82 :: x83 :: x84 :: x85 :: x86 :: x87 :: x88 :: x89 :: x90 :: x91 :: x92 :: []), defers := [] } X) :
    (Code.region 10 ops true).wp Tryz.prog Q { tmps := List.toArray (x0 :: .int .i64 (M : Int) :: x2 :: x3 :: x4 :: .pointer (some ⟨b, 0, none⟩) :: x6 :: x7 :: x8 :: x9 :: x10 :: x11 :: x12 :: x13 :: x14 :: x15 :: x16 :: x17 :: x18 :: x19 :: x20 :: x21 :: x22 :: x23 :: x24 :: x25 :: x26 :: x27 :: x28 :: x29 :: x30 :: x31 :: x32 :: x33 :: x34 :: x35 :: x36 :: x37 :: x38 :: x39 :: x40 :: x41 :: x42 :: x43 :: x44 :: x45 :: x46 :: x47 :: x48 :: x49 :: x50 :: x51 :: x52 :: x53 :: x54 :: x55 :: x56 :: x57 :: x58 :: x59 :: x60 :: x61 :: x62 :: x63 :: x64 :: x65 :: x66 :: x67 :: x68 :: x69 :: x70 :: x71 :: x72 :: x73 :: x74 :: x75 :: x76 :: x77 :: x78 :: x79 :: x80 :: x81 :: x82 :: x83 :: x84 :: x85 :: x86 :: x87 :: x88 :: x89 :: x90 :: x91 :: x92 :: []), defers := [] } wA := by
  have HPL : ∀ (Z : World) (_ : Below wA.heap.size wA Z), Calls Tryz.prog 12 #[.agg #[.int .i64 r.s.now, .slice p1 n1 c1, .slice p2 n2 c2, .int .i64 r.g.done, .int .i64 r.g.asked, .bool r.g.on, .slice p3 n3 c3, .slice p4 n4 c4], .agg #[.int .i64 3, .int .i64 (M : Int), .int .u64 1]] Z fun e w' => StW Z.heap.size E r' e w' ∧ Below Z.heap.size Z w' := fun Z hZ => st_run hr 3 (M : Int) 1 hE hR _ _ _ _ Z (hA.2.below hZ)
  simp only [full_reg10_ops, Tryz.f7, Option.getD, regDeep, reduceIte, Nat.reduceEqDiff] at hops
  have S_2_3_8 : ∀ (now : Int) (d : Int) (a : Int) (on : Bool) (q1 : Option Addr) (m1 : Nat) (e1 : Nat) (q2 : Option Addr) (m2 : Nat) (e2 : Nat) (q3 : Option Addr) (m3 : Nat) (e3 : Nat) (q4 : Option Addr) (m4 : Nat) (e4 : Nat) (yt : Int) (xe : Int) (b0 : Nat) (e0 : Nat) (zr : Nat) (X : World) (fB : Below wA.heap.size wA X) (fW : StF (fun k => k < b0 ∨ e0 ≤ k) E r' now d a on (.slice q1 m1 e1) (.slice q2 m2 e2) (.slice q3 m3 e3) (.slice q4 m4 e4) xe X) (fE : e0 ≤ X.heap.size) (fb : wA.heap.size ≤ b0) (fR : RcBox X zr 0 (.slice none 0 0) (.slice none 0 0) 0 0 false (.slice none 0 0) (.slice none 0 0)) (fRz : wA.heap.size ≤ zr) (fZ : zr < b0 ∨ e0 ≤ zr), wpTwo Tryz.prog .any ops Q (WkB b r (.slice p1 n1 c1) (.slice p2 n2 c2) (.slice p3 n3 c3) (.slice p4 n4 c4)) (fun _ => True) (fun _ => false) 3 #[true, true, true, true, true, true, true, true, true, false, false, false] { tmps := List.toArray (x0 :: .int .i64 (M : Int) :: x2 :: x3 :: x4 :: .pointer (some ⟨b, 0, none⟩) :: x6 :: .pointer (some ⟨zr, 0, none⟩) :: x8 :: x9 :: x10 :: x11 :: x12 :: x13 :: x14 :: x15 :: x16 :: x17 :: x18 :: x19 :: x20 :: x21 :: x22 :: x23 :: x24 :: x25 :: x26 :: x27 :: x28 :: x29 :: x30 :: x31 :: x32 :: x33 :: x34 :: x35 :: x36 :: x37 :: x38 :: x39 :: x40 :: x41 :: .tuple #[.agg #[.int .i64 now, .slice q1 m1 e1, .slice q2 m2 e2, .int .i64 d, .int .i64 a, .bool on, .slice q3 m3 e3, .slice q4 m4 e4], .int .u64 yt, .int .i64 xe] :: .agg #[.int .i64 r.s.now, .slice p1 n1 c1, .slice p2 n2 c2, .int .i64 r.g.done, .int .i64 r.g.asked, .bool r.g.on, .slice p3 n3 c3, .slice p4 n4 c4] :: .int .i64 (M : Int) :: .agg #[.int .i64 3, .int .i64 (M : Int), .int .u64 1] :: .tuple #[.agg #[.int .i64 now, .slice q1 m1 e1, .slice q2 m2 e2, .int .i64 d, .int .i64 a, .bool on, .slice q3 m3 e3, .slice q4 m4 e4], .int .u64 yt, .int .i64 xe] :: .agg #[.int .i64 now, .slice q1 m1 e1, .slice q2 m2 e2, .int .i64 d, .int .i64 a, .bool on, .slice q3 m3 e3, .slice q4 m4 e4] :: .int .u64 yt :: .int .i64 xe :: x50 :: x51 :: x52 :: x53 :: x54 :: x55 :: x56 :: x57 :: x58 :: x59 :: x60 :: x61 :: x62 :: x63 :: x64 :: x65 :: x66 :: x67 :: x68 :: x69 :: x70 :: x71 :: x72 :: x73 :: x74 :: x75 :: x76 :: x77 :: x78 :: x79 :: x80 :: x81 :: x82 :: x83 :: x84 :: x85 :: x86 :: x87 :: x88 :: x89 :: x90 :: x91 :: x92 :: []), defers := [] } X := by
    subst hops
    intro now d a on q1 m1 e1 q2 m2 e2 q3 m3 e3 q4 m4 e4 yt xe b0 e0 zr X fB fW fE fb fR fRz fZ
    have hT := (show WkB b r (.slice p1 n1 c1) (.slice p2 n2 c2) (.slice p3 n3 c3) (.slice p4 n4 c4) X from hA.1.below (fB))
    refine wpTwo_ready (rs := [9]) (by kernel_rfl) (by simp) ?_
    refine (AllTwo.cons rfl (fun K hK => ?_) AllTwo.nil)
    obtain ⟨d0, d1, d2, d3, d4, d5, d6, d7⟩ := fR.cells
    have v0 := fR.marks 0
    have v1 := fR.marks 1
    have v2 := fR.marks 2
    have v3 := fR.marks 3
    have v4 := fR.marks 4
    have v5 := fR.marks 5
    have v6 := fR.marks 6
    have v7 := fR.marks 7
    obtain ⟨Xa, hXa⟩ : ∃ Y : World, Y = ((((((((X.setCell ⟨zr, 0, none⟩ (.int .i64 now)).setCell ⟨zr, 1, none⟩ (.slice q1 m1 e1)).setCell ⟨zr, 2, none⟩ (.slice q2 m2 e2)).setCell ⟨zr, 3, none⟩ (.int .i64 d)).setCell ⟨zr, 4, none⟩ (.int .i64 a)).setCell ⟨zr, 5, none⟩ (.bool on)).setCell ⟨zr, 6, none⟩ (.slice q3 m3 e3)).setCell ⟨zr, 7, none⟩ (.slice q4 m4 e4)) := ⟨_, rfl⟩
    have HFA := Lib.hid (show WkB b r (.slice p1 n1 c1) (.slice p2 n2 c2) (.slice p3 n3 c3) (.slice p4 n4 c4) Xa ∧ StO wA zr E r' now d a on (.slice q1 m1 e1) (.slice q2 m2 e2) (.slice q3 m3 e3) (.slice q4 m4 e4) xe Xa from by
      have hk : Keeps (fun k => k = zr) X Xa := by rw [hXa]; exact RcBox.putAllK X zr _ _ _ _ _ _ _ _
      have hbl := fB.trans (hk.below fB.size (fun k e => by omega))
      exact ⟨hA.1.below hbl, by rw [hXa]; exact fR.putAll _ _ _ _ _ _ _ _, (fW.keeps (hk.sub fun k _ e => by subst e; exact fZ)).apart (fun q h => .inl (.inl (Nat.lt_of_lt_of_le h fb))), fRz, hbl⟩)
    have hTa := HFA.out.1
    go_simp
    rw [← hXa]
    refine hK.out _ _ ⟨hTa, fun _ _ => trivial⟩ ?_
    clear hK K d0 d1 d2 d3 d4 d5 d6 d7 v0 v1 v2 v3 v4 v5 v6 v7 hXa
    (try simp only [Act.put])
    refine wpTwo_takeT (i := 10) (v := .int .u64 yt) rfl (by kernel_rfl) (by kernel_rfl) (by kernel_rfl) (fun c a w h => hQp c a _ _ w h) ⟨by rfl, ?_⟩ hTa ?_
    · rintro w hTw
      go_simp
    (try simp only [Act.put, List.getElem_toArray, List.getElem_cons_succ, List.getElem_cons_zero, List.setIfInBounds_toArray, List.set_cons_succ, List.set_cons_zero])
    refine wpTwo_takeT (i := 11) (v := .int .i64 xe) rfl (by kernel_rfl) (by kernel_rfl) (by kernel_rfl) (fun c a w h => hQp c a _ _ w h) ⟨by rfl, ?_⟩ hTa ?_
    · rintro w hTw
      go_simp
    (try simp only [Act.put, List.getElem_toArray, List.getElem_cons_succ, List.getElem_cons_zero, List.setIfInBounds_toArray, List.set_cons_succ, List.set_cons_zero])
    refine wpTwo_end (by kernel_rfl) ?_ _
    exact hQ zr now d a on q1 m1 e1 q2 m2 e2 q3 m3 e3 q4 m4 e4 yt xe Xa HFA.out.2
  have S_2_3 : ∀ (now : Int) (d : Int) (a : Int) (on : Bool) (q1 : Option Addr) (m1 : Nat) (e1 : Nat) (q2 : Option Addr) (m2 : Nat) (e2 : Nat) (q3 : Option Addr) (m3 : Nat) (e3 : Nat) (q4 : Option Addr) (m4 : Nat) (e4 : Nat) (yt : Int) (xe : Int) (b0 : Nat) (e0 : Nat) (X : World) (fB : Below wA.heap.size wA X) (fW : StF (fun k => k < b0 ∨ e0 ≤ k) E r' now d a on (.slice q1 m1 e1) (.slice q2 m2 e2) (.slice q3 m3 e3) (.slice q4 m4 e4) xe X) (fE : e0 ≤ X.heap.size) (fb : wA.heap.size ≤ b0), wpTwo Tryz.prog .any ops Q (WkB b r (.slice p1 n1 c1) (.slice p2 n2 c2) (.slice p3 n3 c3) (.slice p4 n4 c4)) (fun _ => True) (fun _ => false) 4 #[true, true, true, true, true, true, true, true, false, false, false, false] { tmps := List.toArray (x0 :: .int .i64 (M : Int) :: x2 :: x3 :: x4 :: .pointer (some ⟨b, 0, none⟩) :: x6 :: x7 :: x8 :: x9 :: x10 :: x11 :: x12 :: x13 :: x14 :: x15 :: x16 :: x17 :: x18 :: x19 :: x20 :: x21 :: x22 :: x23 :: x24 :: x25 :: x26 :: x27 :: x28 :: x29 :: x30 :: x31 :: x32 :: x33 :: x34 :: x35 :: x36 :: x37 :: x38 :: x39 :: x40 :: x41 :: .tuple #[.agg #[.int .i64 now, .slice q1 m1 e1, .slice q2 m2 e2, .int .i64 d, .int .i64 a, .bool on, .slice q3 m3 e3, .slice q4 m4 e4], .int .u64 yt, .int .i64 xe] :: .agg #[.int .i64 r.s.now, .slice p1 n1 c1, .slice p2 n2 c2, .int .i64 r.g.done, .int .i64 r.g.asked, .bool r.g.on, .slice p3 n3 c3, .slice p4 n4 c4] :: .int .i64 (M : Int) :: .agg #[.int .i64 3, .int .i64 (M : Int), .int .u64 1] :: .tuple #[.agg #[.int .i64 now, .slice q1 m1 e1, .slice q2 m2 e2, .int .i64 d, .int .i64 a, .bool on, .slice q3 m3 e3, .slice q4 m4 e4], .int .u64 yt, .int .i64 xe] :: .agg #[.int .i64 now, .slice q1 m1 e1, .slice q2 m2 e2, .int .i64 d, .int .i64 a, .bool on, .slice q3 m3 e3, .slice q4 m4 e4] :: .int .u64 yt :: .int .i64 xe :: x50 :: x51 :: x52 :: x53 :: x54 :: x55 :: x56 :: x57 :: x58 :: x59 :: x60 :: x61 :: x62 :: x63 :: x64 :: x65 :: x66 :: x67 :: x68 :: x69 :: x70 :: x71 :: x72 :: x73 :: x74 :: x75 :: x76 :: x77 :: x78 :: x79 :: x80 :: x81 :: x82 :: x83 :: x84 :: x85 :: x86 :: x87 :: x88 :: x89 :: x90 :: x91 :: x92 :: []), defers := [] } X := by
    subst hops
    intro now d a on q1 m1 e1 q2 m2 e2 q3 m3 e3 q4 m4 e4 yt xe b0 e0 X fB fW fE fb
    have hT := (show WkB b r (.slice p1 n1 c1) (.slice p2 n2 c2) (.slice p3 n3 c3) (.slice p4 n4 c4) X from hA.1.below (fB))
    refine wpTwo_ready (rs := [8]) (by kernel_rfl) (by simp) ?_
    refine (AllTwo.cons rfl (fun K hK => ?_) AllTwo.nil)
    · refine step_val rfl (v := .pointer (some ⟨X.heap.size, 0, none⟩)) (w' := X.alloc (.cells #[.int .i64 0, .slice none 0 0, .slice none 0 0, .int .i64 0, .int .i64 0, .bool false, .slice none 0 0, .slice none 0 0] 30)) (by kernel_rfl) ?_
      obtain ⟨X1, hX⟩ : ∃ Y : World, Y = X.alloc (.cells #[.int .i64 0, .slice none 0 0, .slice none 0 0, .int .i64 0, .int .i64 0, .bool false, .slice none 0 0, .slice none 0 0] 30) := ⟨_, rfl⟩
      rw [← hX]
      have hb : Below X.heap.size X X1 := by rw [hX]; exact below1 _ _
      have hT1 := (show WkB b r (.slice p1 n1 c1) (.slice p2 n2 c2) (.slice p3 n3 c3) (.slice p4 n4 c4) X1 from hA.1.below ((below_then fB fB.size hb)))
      exact hK.out _ _ ⟨hT1, fun _ _ => trivial⟩ (S_2_3_8 now d a on q1 m1 e1 q2 m2 e2 q3 m3 e3 q4 m4 e4 yt xe b0 e0 X.heap.size X1 (below_then fB fB.size hb) (fW.below hb) (Nat.le_trans fE hb.size) (fb) (by rw [hX]; exact RcBox.new _ _ _ _ _ _ _ _ _) (fB.size) (.inr fE))
  have S_2_8 : ∀ (zr : Nat) (X : World) (fB : Below wA.heap.size wA X) (fR : RcBox X zr 0 (.slice none 0 0) (.slice none 0 0) 0 0 false (.slice none 0 0) (.slice none 0 0)) (fRz : wA.heap.size ≤ zr), wpTwo Tryz.prog .any ops Q (WkB b r (.slice p1 n1 c1) (.slice p2 n2 c2) (.slice p3 n3 c3) (.slice p4 n4 c4)) (fun _ => True) (fun _ => false) 8 #[true, true, true, false, false, false, false, false, true, false, false, false] { tmps := List.toArray (x0 :: .int .i64 (M : Int) :: x2 :: x3 :: x4 :: .pointer (some ⟨b, 0, none⟩) :: x6 :: .pointer (some ⟨zr, 0, none⟩) :: x8 :: x9 :: x10 :: x11 :: x12 :: x13 :: x14 :: x15 :: x16 :: x17 :: x18 :: x19 :: x20 :: x21 :: x22 :: x23 :: x24 :: x25 :: x26 :: x27 :: x28 :: x29 :: x30 :: x31 :: x32 :: x33 :: x34 :: x35 :: x36 :: x37 :: x38 :: x39 :: x40 :: x41 :: x42 :: .agg #[.int .i64 r.s.now, .slice p1 n1 c1, .slice p2 n2 c2, .int .i64 r.g.done, .int .i64 r.g.asked, .bool r.g.on, .slice p3 n3 c3, .slice p4 n4 c4] :: .int .i64 (M : Int) :: .agg #[.int .i64 3, .int .i64 (M : Int), .int .u64 1] :: x46 :: x47 :: x48 :: x49 :: x50 :: x51 :: x52 :: x53 :: x54 :: x55 :: x56 :: x57 :: x58 :: x59 :: x60 :: x61 :: x62 :: x63 :: x64 :: x65 :: x66 :: x67 :: x68 :: x69 :: x70 :: x71 :: x72 :: x73 :: x74 :: x75 :: x76 :: x77 :: x78 :: x79 :: x80 :: x81 :: x82 :: x83 :: x84 :: x85 :: x86 :: x87 :: x88 :: x89 :: x90 :: x91 :: x92 :: []), defers := [] } X := by
    clear S_2_3
    subst hops
    intro zr X fB fR fRz
    have hT := (show WkB b r (.slice p1 n1 c1) (.slice p2 n2 c2) (.slice p3 n3 c3) (.slice p4 n4 c4) X from hA.1.below (fB))
    refine wpTwo_ready (rs := [3]) (by kernel_rfl) (by simp) ?_
    refine (AllTwo.cons rfl (fun K hK => ?_) AllTwo.nil)
    · refine step_ent rfl (f := 12) (args := #[.agg #[.int .i64 r.s.now, .slice p1 n1 c1, .slice p2 n2 c2, .int .i64 r.g.done, .int .i64 r.g.asked, .bool r.g.on, .slice p3 n3 c3, .slice p4 n4 c4], .agg #[.int .i64 3, .int .i64 (M : Int), .int .u64 1]]) (w' := X) (by kernel_rfl) (HPL X fB) ?_
      rintro e X1 ⟨⟨now, d, a, on, q1, m1, e1, q2, m2, e2, q3, m3, e3, q4, m4, e4, yt, xe, rfl, hin⟩, hb⟩
      refine ⟨_, rfl, ?_⟩
      have hT1 := (show WkB b r (.slice p1 n1 c1) (.slice p2 n2 c2) (.slice p3 n3 c3) (.slice p4 n4 c4) X1 from hA.1.below ((below_then fB fB.size hb)))
      refine hK.out _ _ ⟨hT1, fun _ _ => trivial⟩ ?_
      (try simp only [Act.put, List.getElem_toArray, List.getElem_cons_succ, List.getElem_cons_zero, List.setIfInBounds_toArray, List.set_cons_succ, List.set_cons_zero])
      refine wpTwo_takeT (i := 4) (v := .tuple #[.agg #[.int .i64 now, .slice q1 m1 e1, .slice q2 m2 e2, .int .i64 d, .int .i64 a, .bool on, .slice q3 m3 e3, .slice q4 m4 e4], .int .u64 yt, .int .i64 xe]) rfl (by kernel_rfl) (by kernel_rfl) (by kernel_rfl) (fun c a w h => hQp c a _ _ w h) ⟨by rfl, ?_⟩ hT1 ?_
      · rintro w hTw
        go_simp
      (try simp only [Act.put, List.getElem_toArray, List.getElem_cons_succ, List.getElem_cons_zero, List.setIfInBounds_toArray, List.set_cons_succ, List.set_cons_zero])
      refine wpTwo_takeT (i := 5) (v := .agg #[.int .i64 now, .slice q1 m1 e1, .slice q2 m2 e2, .int .i64 d, .int .i64 a, .bool on, .slice q3 m3 e3, .slice q4 m4 e4]) rfl (by kernel_rfl) (by kernel_rfl) (by kernel_rfl) (fun c a w h => hQp c a _ _ w h) ⟨by rfl, ?_⟩ hT1 ?_
      · rintro w hTw
        go_simp
      (try simp only [Act.put, List.getElem_toArray, List.getElem_cons_succ, List.getElem_cons_zero, List.setIfInBounds_toArray, List.set_cons_succ, List.set_cons_zero])
      refine wpTwo_takeT (i := 6) (v := .int .u64 yt) rfl (by kernel_rfl) (by kernel_rfl) (by kernel_rfl) (fun c a w h => hQp c a _ _ w h) ⟨by rfl, ?_⟩ hT1 ?_
      · rintro w hTw
        go_simp
      (try simp only [Act.put, List.getElem_toArray, List.getElem_cons_succ, List.getElem_cons_zero, List.setIfInBounds_toArray, List.set_cons_succ, List.set_cons_zero])
      refine wpTwo_takeT (i := 7) (v := .int .i64 xe) rfl (by kernel_rfl) (by kernel_rfl) (by kernel_rfl) (fun c a w h => hQp c a _ _ w h) ⟨by rfl, ?_⟩ hT1 ?_
      · rintro w hTw
        go_simp
      (try simp only [Act.put, List.getElem_toArray, List.getElem_cons_succ, List.getElem_cons_zero, List.setIfInBounds_toArray, List.set_cons_succ, List.set_cons_zero])
      exact S_2_3_8 now d a on q1 m1 e1 q2 m2 e2 q3 m3 e3 q4 m4 e4 yt xe X.heap.size X1.heap.size zr X1 (below_then fB fB.size hb) (hin.apart (fun q h => h)) (Nat.le_refl _) (fB.size) (fR.below hb) (fRz) (.inl fR.lt)
  have S_2 : ∀  (X : World) (fB : Below wA.heap.size wA X), wpTwo Tryz.prog .any ops Q (WkB b r (.slice p1 n1 c1) (.slice p2 n2 c2) (.slice p3 n3 c3) (.slice p4 n4 c4)) (fun _ => True) (fun _ => false) 9 #[true, true, true, false, false, false, false, false, false, false, false, false] { tmps := List.toArray (x0 :: .int .i64 (M : Int) :: x2 :: x3 :: x4 :: .pointer (some ⟨b, 0, none⟩) :: x6 :: x7 :: x8 :: x9 :: x10 :: x11 :: x12 :: x13 :: x14 :: x15 :: x16 :: x17 :: x18 :: x19 :: x20 :: x21 :: x22 :: x23 :: x24 :: x25 :: x26 :: x27 :: x28 :: x29 :: x30 :: x31 :: x32 :: x33 :: x34 :: x35 :: x36 :: x37 :: x38 :: x39 :: x40 :: x41 :: x42 :: .agg #[.int .i64 r.s.now, .slice p1 n1 c1, .slice p2 n2 c2, .int .i64 r.g.done, .int .i64 r.g.asked, .bool r.g.on, .slice p3 n3 c3, .slice p4 n4 c4] :: .int .i64 (M : Int) :: .agg #[.int .i64 3, .int .i64 (M : Int), .int .u64 1] :: x46 :: x47 :: x48 :: x49 :: x50 :: x51 :: x52 :: x53 :: x54 :: x55 :: x56 :: x57 :: x58 :: x59 :: x60 :: x61 :: x62 :: x63 :: x64 :: x65 :: x66 :: x67 :: x68 :: x69 :: x70 :: x71 :: x72 :: x73 :: x74 :: x75 :: x76 :: x77 :: x78 :: x79 :: x80 :: x81 :: x82 :: x83 :: x84 :: x85 :: x86 :: x87 :: x88 :: x89 :: x90 :: x91 :: x92 :: []), defers := [] } X := by
    clear S_2_3_8
    subst hops
    intro X fB
    have hT := (show WkB b r (.slice p1 n1 c1) (.slice p2 n2 c2) (.slice p3 n3 c3) (.slice p4 n4 c4) X from hA.1.below (fB))
    refine wpTwo_ready (rs := [3, 8]) (by kernel_rfl) (by simp) ?_
    refine (AllTwo.cons rfl (fun K hK => ?_) (AllTwo.cons rfl (fun K hK => ?_) AllTwo.nil))
    · refine step_ent rfl (f := 12) (args := #[.agg #[.int .i64 r.s.now, .slice p1 n1 c1, .slice p2 n2 c2, .int .i64 r.g.done, .int .i64 r.g.asked, .bool r.g.on, .slice p3 n3 c3, .slice p4 n4 c4], .agg #[.int .i64 3, .int .i64 (M : Int), .int .u64 1]]) (w' := X) (by kernel_rfl) (HPL X fB) ?_
      rintro e X1 ⟨⟨now, d, a, on, q1, m1, e1, q2, m2, e2, q3, m3, e3, q4, m4, e4, yt, xe, rfl, hin⟩, hb⟩
      refine ⟨_, rfl, ?_⟩
      have hT1 := (show WkB b r (.slice p1 n1 c1) (.slice p2 n2 c2) (.slice p3 n3 c3) (.slice p4 n4 c4) X1 from hA.1.below ((below_then fB fB.size hb)))
      refine hK.out _ _ ⟨hT1, fun _ _ => trivial⟩ ?_
      (try simp only [Act.put, List.getElem_toArray, List.getElem_cons_succ, List.getElem_cons_zero, List.setIfInBounds_toArray, List.set_cons_succ, List.set_cons_zero])
      refine wpTwo_takeT (i := 4) (v := .tuple #[.agg #[.int .i64 now, .slice q1 m1 e1, .slice q2 m2 e2, .int .i64 d, .int .i64 a, .bool on, .slice q3 m3 e3, .slice q4 m4 e4], .int .u64 yt, .int .i64 xe]) rfl (by kernel_rfl) (by kernel_rfl) (by kernel_rfl) (fun c a w h => hQp c a _ _ w h) ⟨by rfl, ?_⟩ hT1 ?_
      · rintro w hTw
        go_simp
      (try simp only [Act.put, List.getElem_toArray, List.getElem_cons_succ, List.getElem_cons_zero, List.setIfInBounds_toArray, List.set_cons_succ, List.set_cons_zero])
      refine wpTwo_takeT (i := 5) (v := .agg #[.int .i64 now, .slice q1 m1 e1, .slice q2 m2 e2, .int .i64 d, .int .i64 a, .bool on, .slice q3 m3 e3, .slice q4 m4 e4]) rfl (by kernel_rfl) (by kernel_rfl) (by kernel_rfl) (fun c a w h => hQp c a _ _ w h) ⟨by rfl, ?_⟩ hT1 ?_
      · rintro w hTw
        go_simp
      (try simp only [Act.put, List.getElem_toArray, List.getElem_cons_succ, List.getElem_cons_zero, List.setIfInBounds_toArray, List.set_cons_succ, List.set_cons_zero])
      refine wpTwo_takeT (i := 6) (v := .int .u64 yt) rfl (by kernel_rfl) (by kernel_rfl) (by kernel_rfl) (fun c a w h => hQp c a _ _ w h) ⟨by rfl, ?_⟩ hT1 ?_
      · rintro w hTw
        go_simp
      (try simp only [Act.put, List.getElem_toArray, List.getElem_cons_succ, List.getElem_cons_zero, List.setIfInBounds_toArray, List.set_cons_succ, List.set_cons_zero])
      refine wpTwo_takeT (i := 7) (v := .int .i64 xe) rfl (by kernel_rfl) (by kernel_rfl) (by kernel_rfl) (fun c a w h => hQp c a _ _ w h) ⟨by rfl, ?_⟩ hT1 ?_
      · rintro w hTw
        go_simp
      (try simp only [Act.put, List.getElem_toArray, List.getElem_cons_succ, List.getElem_cons_zero, List.setIfInBounds_toArray, List.set_cons_succ, List.set_cons_zero])
      exact S_2_3 now d a on q1 m1 e1 q2 m2 e2 q3 m3 e3 q4 m4 e4 yt xe X.heap.size X1.heap.size X1 (below_then fB fB.size hb) (hin.apart (fun q h => h)) (Nat.le_refl _) (fB.size)
    · refine step_val rfl (v := .pointer (some ⟨X.heap.size, 0, none⟩)) (w' := X.alloc (.cells #[.int .i64 0, .slice none 0 0, .slice none 0 0, .int .i64 0, .int .i64 0, .bool false, .slice none 0 0, .slice none 0 0] 30)) (by kernel_rfl) ?_
      obtain ⟨X1, hX⟩ : ∃ Y : World, Y = X.alloc (.cells #[.int .i64 0, .slice none 0 0, .slice none 0 0, .int .i64 0, .int .i64 0, .bool false, .slice none 0 0, .slice none 0 0] 30) := ⟨_, rfl⟩
      rw [← hX]
      have hb : Below X.heap.size X X1 := by rw [hX]; exact below1 _ _
      have hT1 := (show WkB b r (.slice p1 n1 c1) (.slice p2 n2 c2) (.slice p3 n3 c3) (.slice p4 n4 c4) X1 from hA.1.below ((below_then fB fB.size hb)))
      exact hK.out _ _ ⟨hT1, fun _ _ => trivial⟩ (S_2_8 X.heap.size X1 (below_then fB fB.size hb) (by rw [hX]; exact RcBox.new _ _ _ _ _ _ _ _ _) (fB.size))
  have S_8 : ∀ (zr : Nat) (X : World) (fB : Below wA.heap.size wA X) (fR : RcBox X zr 0 (.slice none 0 0) (.slice none 0 0) 0 0 false (.slice none 0 0) (.slice none 0 0)) (fRz : wA.heap.size ≤ zr), wpTwo Tryz.prog .any ops Q (WkB b r (.slice p1 n1 c1) (.slice p2 n2 c2) (.slice p3 n3 c3) (.slice p4 n4 c4)) (fun _ => True) (fun _ => false) 9 #[true, true, false, false, false, false, false, false, true, false, false, false] { tmps := List.toArray (x0 :: .int .i64 (M : Int) :: x2 :: x3 :: x4 :: .pointer (some ⟨b, 0, none⟩) :: x6 :: .pointer (some ⟨zr, 0, none⟩) :: x8 :: x9 :: x10 :: x11 :: x12 :: x13 :: x14 :: x15 :: x16 :: x17 :: x18 :: x19 :: x20 :: x21 :: x22 :: x23 :: x24 :: x25 :: x26 :: x27 :: x28 :: x29 :: x30 :: x31 :: x32 :: x33 :: x34 :: x35 :: x36 :: x37 :: x38 :: x39 :: x40 :: x41 :: x42 :: .agg #[.int .i64 r.s.now, .slice p1 n1 c1, .slice p2 n2 c2, .int .i64 r.g.done, .int .i64 r.g.asked, .bool r.g.on, .slice p3 n3 c3, .slice p4 n4 c4] :: .int .i64 (M : Int) :: x45 :: x46 :: x47 :: x48 :: x49 :: x50 :: x51 :: x52 :: x53 :: x54 :: x55 :: x56 :: x57 :: x58 :: x59 :: x60 :: x61 :: x62 :: x63 :: x64 :: x65 :: x66 :: x67 :: x68 :: x69 :: x70 :: x71 :: x72 :: x73 :: x74 :: x75 :: x76 :: x77 :: x78 :: x79 :: x80 :: x81 :: x82 :: x83 :: x84 :: x85 :: x86 :: x87 :: x88 :: x89 :: x90 :: x91 :: x92 :: []), defers := [] } X := by
    clear S_2_3_8 S_2_3 S_2
    subst hops
    intro zr X fB fR fRz
    have hT := (show WkB b r (.slice p1 n1 c1) (.slice p2 n2 c2) (.slice p3 n3 c3) (.slice p4 n4 c4) X from hA.1.below (fB))
    refine wpTwo_ready (rs := [2]) (by kernel_rfl) (by simp) ?_
    refine (AllTwo.cons rfl (fun K hK => ?_) AllTwo.nil)
    · refine step_ent rfl (f := 29) (args := #[.int .i64 3, .int .i64 (M : Int), .int .u64 1]) (w' := X) (by kernel_rfl) (op_c 3 (M : Int) 1 X) ?_
      rintro e X1 ⟨rfl, hb⟩
      refine ⟨_, rfl, ?_⟩
      have hT1 := (show WkB b r (.slice p1 n1 c1) (.slice p2 n2 c2) (.slice p3 n3 c3) (.slice p4 n4 c4) X1 from hA.1.below ((below_then fB fB.size hb)))
      exact hK.out _ _ ⟨hT1, fun _ _ => trivial⟩ (S_2_8 zr X1 (below_then fB fB.size hb) (fR.below hb) (fRz))
  have S_o : ∀  (X : World) (fB : Below wA.heap.size wA X), wpTwo Tryz.prog .any ops Q (WkB b r (.slice p1 n1 c1) (.slice p2 n2 c2) (.slice p3 n3 c3) (.slice p4 n4 c4)) (fun _ => True) (fun _ => false) 10 #[true, true, false, false, false, false, false, false, false, false, false, false] { tmps := List.toArray (x0 :: .int .i64 (M : Int) :: x2 :: x3 :: x4 :: .pointer (some ⟨b, 0, none⟩) :: x6 :: x7 :: x8 :: x9 :: x10 :: x11 :: x12 :: x13 :: x14 :: x15 :: x16 :: x17 :: x18 :: x19 :: x20 :: x21 :: x22 :: x23 :: x24 :: x25 :: x26 :: x27 :: x28 :: x29 :: x30 :: x31 :: x32 :: x33 :: x34 :: x35 :: x36 :: x37 :: x38 :: x39 :: x40 :: x41 :: x42 :: .agg #[.int .i64 r.s.now, .slice p1 n1 c1, .slice p2 n2 c2, .int .i64 r.g.done, .int .i64 r.g.asked, .bool r.g.on, .slice p3 n3 c3, .slice p4 n4 c4] :: .int .i64 (M : Int) :: x45 :: x46 :: x47 :: x48 :: x49 :: x50 :: x51 :: x52 :: x53 :: x54 :: x55 :: x56 :: x57 :: x58 :: x59 :: x60 :: x61 :: x62 :: x63 :: x64 :: x65 :: x66 :: x67 :: x68 :: x69 :: x70 :: x71 :: x72 :: x73 :: x74 :: x75 :: x76 :: x77 :: x78 :: x79 :: x80 :: x81 :: x82 :: x83 :: x84 :: x85 :: x86 :: x87 :: x88 :: x89 :: x90 :: x91 :: x92 :: []), defers := [] } X := by
    clear S_2_3_8 S_2_3 S_2_8
    subst hops
    intro X fB
    have hT := (show WkB b r (.slice p1 n1 c1) (.slice p2 n2 c2) (.slice p3 n3 c3) (.slice p4 n4 c4) X from hA.1.below (fB))
    refine wpTwo_ready (rs := [2, 8]) (by kernel_rfl) (by simp) ?_
    refine (AllTwo.cons rfl (fun K hK => ?_) (AllTwo.cons rfl (fun K hK => ?_) AllTwo.nil))
    · refine step_ent rfl (f := 29) (args := #[.int .i64 3, .int .i64 (M : Int), .int .u64 1]) (w' := X) (by kernel_rfl) (op_c 3 (M : Int) 1 X) ?_
      rintro e X1 ⟨rfl, hb⟩
      refine ⟨_, rfl, ?_⟩
      have hT1 := (show WkB b r (.slice p1 n1 c1) (.slice p2 n2 c2) (.slice p3 n3 c3) (.slice p4 n4 c4) X1 from hA.1.below ((below_then fB fB.size hb)))
      exact hK.out _ _ ⟨hT1, fun _ _ => trivial⟩ (S_2 X1 (below_then fB fB.size hb))
    · refine step_val rfl (v := .pointer (some ⟨X.heap.size, 0, none⟩)) (w' := X.alloc (.cells #[.int .i64 0, .slice none 0 0, .slice none 0 0, .int .i64 0, .int .i64 0, .bool false, .slice none 0 0, .slice none 0 0] 30)) (by kernel_rfl) ?_
      obtain ⟨X1, hX⟩ : ∃ Y : World, Y = X.alloc (.cells #[.int .i64 0, .slice none 0 0, .slice none 0 0, .int .i64 0, .int .i64 0, .bool false, .slice none 0 0, .slice none 0 0] 30) := ⟨_, rfl⟩
      rw [← hX]
      have hb : Below X.heap.size X X1 := by rw [hX]; exact below1 _ _
      have hT1 := (show WkB b r (.slice p1 n1 c1) (.slice p2 n2 c2) (.slice p3 n3 c3) (.slice p4 n4 c4) X1 from hA.1.below ((below_then fB fB.size hb)))
      exact hK.out _ _ ⟨hT1, fun _ _ => trivial⟩ (S_8 X.heap.size X1 (below_then fB fB.size hb) (by rw [hX]; exact RcBox.new _ _ _ _ _ _ _ _ _) (fB.size))
  clear S_2_3_8 S_2_3 S_2_8 S_2 S_8
  subst hops
  refine wpTwo_begin (T := (WkB b r (.slice p1 n1 c1) (.slice p2 n2 c2) (.slice p3 n3 c3) (.slice p4 n4 c4))) (S := fun _ => True) (late := fun _ => false) (by kernel_rfl) ?_
  obtain ⟨X0, hX0⟩ : ∃ X : World, X = wA.drew := ⟨_, rfl⟩
  rw [← hX0]
  have fB : Below wA.heap.size wA X0 := by rw [hX0]; exact (Below.refl _ _).drew
  have hT := (show WkB b r (.slice p1 n1 c1) (.slice p2 n2 c2) (.slice p3 n3 c3) (.slice p4 n4 c4) X0 from hA.1.below (fB))
  clear hX0
  refine wpTwo_takeT (i := 0) (v := .agg #[.int .i64 r.s.now, .slice p1 n1 c1, .slice p2 n2 c2, .int .i64 r.g.done, .int .i64 r.g.asked, .bool r.g.on, .slice p3 n3 c3, .slice p4 n4 c4]) rfl (by kernel_rfl) (by kernel_rfl) (by kernel_rfl) (fun c a w h => hQp c a _ _ w h) ⟨by rfl, ?_⟩ hT ?_
  · rintro w hTw
    obtain ⟨t0', t1', t2', t3', t4', t5', t6', t7'⟩ := hTw.cells
    go_simp
  (try simp only [Act.put, List.getElem_toArray, List.getElem_cons_zero, List.setIfInBounds_toArray, List.set_cons_succ, List.set_cons_zero])
  refine wpTwo_takeT (i := 1) (v := .int .i64 (M : Int)) rfl (by kernel_rfl) (by kernel_rfl) (by kernel_rfl) (fun c a w h => hQp c a _ _ w h) ⟨by rfl, ?_⟩ hT ?_
  · rintro w hTw
    go_simp
  (try simp only [Act.put, List.getElem_toArray, List.getElem_cons_succ, List.getElem_cons_zero, List.setIfInBounds_toArray, List.set_cons_succ, List.set_cons_zero])
  exact S_o X0 fB

noncomputable def full_reg15_ops : Array Oper := (regDeep 15 (Tryz.f7.body.getD .skip)).getD #[]
set_option maxHeartbeats 32000000 in
theorem full_reg15 (b M : Nat) (r : RcS) (p1 : Option Addr) (n1 c1 : Nat) (p2 : Option Addr) (n2 c2 : Nat) (p3 : Option Addr) (n3 c3 : Nat) (p4 : Option Addr) (n4 c4 : Nat) (x0 x2 x3 x4 x6 x7 x8 x9 x10 x11 x12 x13 x14 x15 x16 x17 x18 x19 x20 x21 x22 x23 x24 x25 x26 x27 x28 x29 x30 x31 x32 x33 x34 x35 x36 x37 x38 x39 x40 x41 x42 x43 x44 x45 x46 x47 x48 x49 x50 x51 x52 x53 x54 x55 x56 x57 x58 x59 x60 x61 x62 x63 x64 x65 x66 x67 x68 x69 x70 x71 x72 x73 x74 x75 x76 x77 x78 x79 x80 x81 x82 x83 x84 x85 x86 x87 x88 x89 x90 x91 x92 : Value) (wA : World) (hA : WkA b r (.slice p1 n1 c1) (.slice p2 n2 c2) (.slice p3 n3 c3) (.slice p4 n4 c4) wA) (hr : RcR r) (E : Int) (r' : RcS) (hE : stepAE r (3, (M : Int), 1) = E) (hR : opR r (3, (M : Int), 1) = r') (ops : Array Oper) (hops : ops = full_reg15_ops) (Q : Exit → Act → World → Prop) (hQp : ∀ c (a : Act) i v w, Q (.panic c) (a.put i v) w → Q (.panic c) a w)
    (hQ : ∀ (zr : Nat) (now d a : Int) (on : Bool) (q1 : Option Addr) (m1 e1 : Nat) (q2 : Option Addr) (m2 e2 : Nat) (q3 : Option Addr) (m3 e3 : Nat) (q4 : Option Addr) (m4 e4 : Nat) (yt xe : Int) (X : World), StO wA zr E r' now d a on (.slice q1 m1 e1) (.slice q2 m2 e2) (.slice q3 m3 e3) (.slice q4 m4 e4) xe X → Q .normal { tmps := List.toArray (x0 :: .int .i64 (M : Int) :: x2 :: x3 :: x4 :: .pointer (some ⟨b, 0, none⟩) :: x6 :: x7 :: x8 :: x9 :: .pointer (some ⟨zr, 0, none⟩) :: .int .u64 yt :: .int .i64 xe :: x13 :: x14 :: x15 :: x16 :: x17 :: x18 :: x19 :: x20 :: x21 :: x22 :: x23 :: x24 :: x25 :: x26 :: x27 :: x28 :: x29 :: x30 :: x31 :: x32 :: x33 :: x34 :: x35 :: x36 :: x37 :: x38 :: x39 :: x40 :: x41 :: x42 :: x43 :: x44 :: x45 :: x46 :: x47 :: x48 :: x49 :: x50 :: x51 :: x52 :: x53 :: x54 :: x55 :: x56 :: x57 :: x58 :: x59 :: x60 :: x61 :: .tuple #[.agg #[.int .i64 now, .slice q1 m1 e1, .slice q2 m2 e2, .int .i64 d, .int .i64 a, .bool on, .slice q3 m3 e3, .slice q4 m4 e4], .int .u64 yt, .int .i64 xe] :: .agg #[.int .i64 r.s.now, .slice p1 n1 c1, .slice p2 n2 c2, .int .i64 r.g.done, .int .i64 r.g.asked, .bool r.g.on, .slice p3 n3 c3, .slice p4 n4 c4] :: .int .i64 (M : Int) :: .agg #[.int .i64 3, .int .i64 (M : Int), .int .u64 1] :: .tuple #[.agg #[.int .i64 now, .slice q1 m1 e1, .slice q2 m2 e2, .int .i64 d, .int .i64 a, .bool on, .slice q3 m3 e3, .slice q4 m4 e4], .int .u64 yt, .int .i64 xe] :: .agg #[.int .i64 now, .slice q1 m1 e1, .slice q2 m2 e2, .int .i64 d, .int .i64 a, .bool on, .slice q3 m3 e3, .slice q4 m4 e4] :: .int .u64 yt :: .int .i64 xe :: x70 :: x71 :: x72 :: x73 :: x74 :: x75 :: x76 :: x77 :: x78 :: x79 :: x80 :: x81 :: x82 :: x83 :: x84 :: x85 :: x86 :: x87 :: x88 :: x89 :: x90 :: x91 :: x92 :: []), defers := [] } X) :
    (Code.region 15 ops true).wp Tryz.prog Q { tmps := List.toArray (x0 :: .int .i64 (M : Int) :: x2 :: x3 :: x4 :: .pointer (some ⟨b, 0, none⟩) :: x6 :: x7 :: x8 :: x9 :: x10 :: x11 :: x12 :: x13 :: x14 :: x15 :: x16 :: x17 :: x18 :: x19 :: x20 :: x21 :: x22 :: x23 :: x24 :: x25 :: x26 :: x27 :: x28 :: x29 :: x30 :: x31 :: x32 :: x33 :: x34 :: x35 :: x36 :: x37 :: x38 :: x39 :: x40 :: x41 :: x42 :: x43 :: x44 :: x45 :: x46 :: x47 :: x48 :: x49 :: x50 :: x51 :: x52 :: x53 :: x54 :: x55 :: x56 :: x57 :: x58 :: x59 :: x60 :: x61 :: x62 :: x63 :: x64 :: x65 :: x66 :: x67 :: x68 :: x69 :: x70 :: x71 :: x72 :: x73 :: x74 :: x75 :: x76 :: x77 :: x78 :: x79 :: x80 :: x81 :: x82 :: x83 :: x84 :: x85 :: x86 :: x87 :: x88 :: x89 :: x90 :: x91 :: x92 :: []), defers := [] } wA := by
  have HPL : ∀ (Z : World) (_ : Below wA.heap.size wA Z), Calls Tryz.prog 12 #[.agg #[.int .i64 r.s.now, .slice p1 n1 c1, .slice p2 n2 c2, .int .i64 r.g.done, .int .i64 r.g.asked, .bool r.g.on, .slice p3 n3 c3, .slice p4 n4 c4], .agg #[.int .i64 3, .int .i64 (M : Int), .int .u64 1]] Z fun e w' => StW Z.heap.size E r' e w' ∧ Below Z.heap.size Z w' := fun Z hZ => st_run hr 3 (M : Int) 1 hE hR _ _ _ _ Z (hA.2.below hZ)
  simp only [full_reg15_ops, Tryz.f7, Option.getD, regDeep, reduceIte, Nat.reduceEqDiff] at hops
  have S_2_3_8 : ∀ (now : Int) (d : Int) (a : Int) (on : Bool) (q1 : Option Addr) (m1 : Nat) (e1 : Nat) (q2 : Option Addr) (m2 : Nat) (e2 : Nat) (q3 : Option Addr) (m3 : Nat) (e3 : Nat) (q4 : Option Addr) (m4 : Nat) (e4 : Nat) (yt : Int) (xe : Int) (b0 : Nat) (e0 : Nat) (zr : Nat) (X : World) (fB : Below wA.heap.size wA X) (fW : StF (fun k => k < b0 ∨ e0 ≤ k) E r' now d a on (.slice q1 m1 e1) (.slice q2 m2 e2) (.slice q3 m3 e3) (.slice q4 m4 e4) xe X) (fE : e0 ≤ X.heap.size) (fb : wA.heap.size ≤ b0) (fR : RcBox X zr 0 (.slice none 0 0) (.slice none 0 0) 0 0 false (.slice none 0 0) (.slice none 0 0)) (fRz : wA.heap.size ≤ zr) (fZ : zr < b0 ∨ e0 ≤ zr), wpTwo Tryz.prog .any ops Q (WkB b r (.slice p1 n1 c1) (.slice p2 n2 c2) (.slice p3 n3 c3) (.slice p4 n4 c4)) (fun _ => True) (fun _ => false) 3 #[true, true, true, true, true, true, true, true, true, false, false, false] { tmps := List.toArray (x0 :: .int .i64 (M : Int) :: x2 :: x3 :: x4 :: .pointer (some ⟨b, 0, none⟩) :: x6 :: x7 :: x8 :: x9 :: .pointer (some ⟨zr, 0, none⟩) :: x11 :: x12 :: x13 :: x14 :: x15 :: x16 :: x17 :: x18 :: x19 :: x20 :: x21 :: x22 :: x23 :: x24 :: x25 :: x26 :: x27 :: x28 :: x29 :: x30 :: x31 :: x32 :: x33 :: x34 :: x35 :: x36 :: x37 :: x38 :: x39 :: x40 :: x41 :: x42 :: x43 :: x44 :: x45 :: x46 :: x47 :: x48 :: x49 :: x50 :: x51 :: x52 :: x53 :: x54 :: x55 :: x56 :: x57 :: x58 :: x59 :: x60 :: x61 :: .tuple #[.agg #[.int .i64 now, .slice q1 m1 e1, .slice q2 m2 e2, .int .i64 d, .int .i64 a, .bool on, .slice q3 m3 e3, .slice q4 m4 e4], .int .u64 yt, .int .i64 xe] :: .agg #[.int .i64 r.s.now, .slice p1 n1 c1, .slice p2 n2 c2, .int .i64 r.g.done, .int .i64 r.g.asked, .bool r.g.on, .slice p3 n3 c3, .slice p4 n4 c4] :: .int .i64 (M : Int) :: .agg #[.int .i64 3, .int .i64 (M : Int), .int .u64 1] :: .tuple #[.agg #[.int .i64 now, .slice q1 m1 e1, .slice q2 m2 e2, .int .i64 d, .int .i64 a, .bool on, .slice q3 m3 e3, .slice q4 m4 e4], .int .u64 yt, .int .i64 xe] :: .agg #[.int .i64 now, .slice q1 m1 e1, .slice q2 m2 e2, .int .i64 d, .int .i64 a, .bool on, .slice q3 m3 e3, .slice q4 m4 e4] :: .int .u64 yt :: .int .i64 xe :: x70 :: x71 :: x72 :: x73 :: x74 :: x75 :: x76 :: x77 :: x78 :: x79 :: x80 :: x81 :: x82 :: x83 :: x84 :: x85 :: x86 :: x87 :: x88 :: x89 :: x90 :: x91 :: x92 :: []), defers := [] } X := by
    subst hops
    intro now d a on q1 m1 e1 q2 m2 e2 q3 m3 e3 q4 m4 e4 yt xe b0 e0 zr X fB fW fE fb fR fRz fZ
    have hT := (show WkB b r (.slice p1 n1 c1) (.slice p2 n2 c2) (.slice p3 n3 c3) (.slice p4 n4 c4) X from hA.1.below (fB))
    refine wpTwo_ready (rs := [9]) (by kernel_rfl) (by simp) ?_
    refine (AllTwo.cons rfl (fun K hK => ?_) AllTwo.nil)
    obtain ⟨d0, d1, d2, d3, d4, d5, d6, d7⟩ := fR.cells
    have v0 := fR.marks 0
    have v1 := fR.marks 1
    have v2 := fR.marks 2
    have v3 := fR.marks 3
    have v4 := fR.marks 4
    have v5 := fR.marks 5
    have v6 := fR.marks 6
    have v7 := fR.marks 7
    obtain ⟨Xa, hXa⟩ : ∃ Y : World, Y = ((((((((X.setCell ⟨zr, 0, none⟩ (.int .i64 now)).setCell ⟨zr, 1, none⟩ (.slice q1 m1 e1)).setCell ⟨zr, 2, none⟩ (.slice q2 m2 e2)).setCell ⟨zr, 3, none⟩ (.int .i64 d)).setCell ⟨zr, 4, none⟩ (.int .i64 a)).setCell ⟨zr, 5, none⟩ (.bool on)).setCell ⟨zr, 6, none⟩ (.slice q3 m3 e3)).setCell ⟨zr, 7, none⟩ (.slice q4 m4 e4)) := ⟨_, rfl⟩
    have HFA := Lib.hid (show WkB b r (.slice p1 n1 c1) (.slice p2 n2 c2) (.slice p3 n3 c3) (.slice p4 n4 c4) Xa ∧ StO wA zr E r' now d a on (.slice q1 m1 e1) (.slice q2 m2 e2) (.slice q3 m3 e3) (.slice q4 m4 e4) xe Xa from by
      have hk : Keeps (fun k => k = zr) X Xa := by rw [hXa]; exact RcBox.putAllK X zr _ _ _ _ _ _ _ _
      have hbl := fB.trans (hk.below fB.size (fun k e => by omega))
      exact ⟨hA.1.below hbl, by rw [hXa]; exact fR.putAll _ _ _ _ _ _ _ _, (fW.keeps (hk.sub fun k _ e => by subst e; exact fZ)).apart (fun q h => .inl (.inl (Nat.lt_of_lt_of_le h fb))), fRz, hbl⟩)
    have hTa := HFA.out.1
    go_simp
    rw [← hXa]
    refine hK.out _ _ ⟨hTa, fun _ _ => trivial⟩ ?_
    clear hK K d0 d1 d2 d3 d4 d5 d6 d7 v0 v1 v2 v3 v4 v5 v6 v7 hXa
    (try simp only [Act.put])
    refine wpTwo_takeT (i := 10) (v := .int .u64 yt) rfl (by kernel_rfl) (by kernel_rfl) (by kernel_rfl) (fun c a w h => hQp c a _ _ w h) ⟨by rfl, ?_⟩ hTa ?_
    · rintro w hTw
      go_simp
    (try simp only [Act.put, List.getElem_toArray, List.getElem_cons_succ, List.getElem_cons_zero, List.setIfInBounds_toArray, List.set_cons_succ, List.set_cons_zero])
    refine wpTwo_takeT (i := 11) (v := .int .i64 xe) rfl (by kernel_rfl) (by kernel_rfl) (by kernel_rfl) (fun c a w h => hQp c a _ _ w h) ⟨by rfl, ?_⟩ hTa ?_
    · rintro w hTw
      go_simp
    (try simp only [Act.put, List.getElem_toArray, List.getElem_cons_succ, List.getElem_cons_zero, List.setIfInBounds_toArray, List.set_cons_succ, List.set_cons_zero])
    refine wpTwo_end (by kernel_rfl) ?_ _
    exact hQ zr now d a on q1 m1 e1 q2 m2 e2 q3 m3 e3 q4 m4 e4 yt xe Xa HFA.out.2
  have S_2_3 : ∀ (now : Int) (d : Int) (a : Int) (on : Bool) (q1 : Option Addr) (m1 : Nat) (e1 : Nat) (q2 : Option Addr) (m2 : Nat) (e2 : Nat) (q3 : Option Addr) (m3 : Nat) (e3 : Nat) (q4 : Option Addr) (m4 : Nat) (e4 : Nat) (yt : Int) (xe : Int) (b0 : Nat) (e0 : Nat) (X : World) (fB : Below wA.heap.size wA X) (fW : StF (fun k => k < b0 ∨ e0 ≤ k) E r' now d a on (.slice q1 m1 e1) (.slice q2 m2 e2) (.slice q3 m3 e3) (.slice q4 m4 e4) xe X) (fE : e0 ≤ X.heap.size) (fb : wA.heap.size ≤ b0), wpTwo Tryz.prog .any ops Q (WkB b r (.slice p1 n1 c1) (.slice p2 n2 c2) (.slice p3 n3 c3) (.slice p4 n4 c4)) (fun _ => True) (fun _ => false) 4 #[true, true, true, true, true, true, true, true, false, false, false, false] { tmps := List.toArray (x0 :: .int .i64 (M : Int) :: x2 :: x3 :: x4 :: .pointer (some ⟨b, 0, none⟩) :: x6 :: x7 :: x8 :: x9 :: x10 :: x11 :: x12 :: x13 :: x14 :: x15 :: x16 :: x17 :: x18 :: x19 :: x20 :: x21 :: x22 :: x23 :: x24 :: x25 :: x26 :: x27 :: x28 :: x29 :: x30 :: x31 :: x32 :: x33 :: x34 :: x35 :: x36 :: x37 :: x38 :: x39 :: x40 :: x41 :: x42 :: x43 :: x44 :: x45 :: x46 :: x47 :: x48 :: x49 :: x50 :: x51 :: x52 :: x53 :: x54 :: x55 :: x56 :: x57 :: x58 :: x59 :: x60 :: x61 :: .tuple #[.agg #[.int .i64 now, .slice q1 m1 e1, .slice q2 m2 e2, .int .i64 d, .int .i64 a, .bool on, .slice q3 m3 e3, .slice q4 m4 e4], .int .u64 yt, .int .i64 xe] :: .agg #[.int .i64 r.s.now, .slice p1 n1 c1, .slice p2 n2 c2, .int .i64 r.g.done, .int .i64 r.g.asked, .bool r.g.on, .slice p3 n3 c3, .slice p4 n4 c4] :: .int .i64 (M : Int) :: .agg #[.int .i64 3, .int .i64 (M : Int), .int .u64 1] :: .tuple #[.agg #[.int .i64 now, .slice q1 m1 e1, .slice q2 m2 e2, .int .i64 d, .int .i64 a, .bool on, .slice q3 m3 e3, .slice q4 m4 e4], .int .u64 yt, .int .i64 xe] :: .agg #[.int .i64 now, .slice q1 m1 e1, .slice q2 m2 e2, .int .i64 d, .int .i64 a, .bool on, .slice q3 m3 e3, .slice q4 m4 e4] :: .int .u64 yt :: .int .i64 xe :: x70 :: x71 :: x72 :: x73 :: x74 :: x75 :: x76 :: x77 :: x78 :: x79 :: x80 :: x81 :: x82 :: x83 :: x84 :: x85 :: x86 :: x87 :: x88 :: x89 :: x90 :: x91 :: x92 :: []), defers := [] } X := by
    subst hops
    intro now d a on q1 m1 e1 q2 m2 e2 q3 m3 e3 q4 m4 e4 yt xe b0 e0 X fB fW fE fb
    have hT := (show WkB b r (.slice p1 n1 c1) (.slice p2 n2 c2) (.slice p3 n3 c3) (.slice p4 n4 c4) X from hA.1.below (fB))
    refine wpTwo_ready (rs := [8]) (by kernel_rfl) (by simp) ?_
    refine (AllTwo.cons rfl (fun K hK => ?_) AllTwo.nil)
    · refine step_val rfl (v := .pointer (some ⟨X.heap.size, 0, none⟩)) (w' := X.alloc (.cells #[.int .i64 0, .slice none 0 0, .slice none 0 0, .int .i64 0, .int .i64 0, .bool false, .slice none 0 0, .slice none 0 0] 30)) (by kernel_rfl) ?_
      obtain ⟨X1, hX⟩ : ∃ Y : World, Y = X.alloc (.cells #[.int .i64 0, .slice none 0 0, .slice none 0 0, .int .i64 0, .int .i64 0, .bool false, .slice none 0 0, .slice none 0 0] 30) := ⟨_, rfl⟩
      rw [← hX]
      have hb : Below X.heap.size X X1 := by rw [hX]; exact below1 _ _
      have hT1 := (show WkB b r (.slice p1 n1 c1) (.slice p2 n2 c2) (.slice p3 n3 c3) (.slice p4 n4 c4) X1 from hA.1.below ((below_then fB fB.size hb)))
      exact hK.out _ _ ⟨hT1, fun _ _ => trivial⟩ (S_2_3_8 now d a on q1 m1 e1 q2 m2 e2 q3 m3 e3 q4 m4 e4 yt xe b0 e0 X.heap.size X1 (below_then fB fB.size hb) (fW.below hb) (Nat.le_trans fE hb.size) (fb) (by rw [hX]; exact RcBox.new _ _ _ _ _ _ _ _ _) (fB.size) (.inr fE))
  have S_2_8 : ∀ (zr : Nat) (X : World) (fB : Below wA.heap.size wA X) (fR : RcBox X zr 0 (.slice none 0 0) (.slice none 0 0) 0 0 false (.slice none 0 0) (.slice none 0 0)) (fRz : wA.heap.size ≤ zr), wpTwo Tryz.prog .any ops Q (WkB b r (.slice p1 n1 c1) (.slice p2 n2 c2) (.slice p3 n3 c3) (.slice p4 n4 c4)) (fun _ => True) (fun _ => false) 8 #[true, true, true, false, false, false, false, false, true, false, false, false] { tmps := List.toArray (x0 :: .int .i64 (M : Int) :: x2 :: x3 :: x4 :: .pointer (some ⟨b, 0, none⟩) :: x6 :: x7 :: x8 :: x9 :: .pointer (some ⟨zr, 0, none⟩) :: x11 :: x12 :: x13 :: x14 :: x15 :: x16 :: x17 :: x18 :: x19 :: x20 :: x21 :: x22 :: x23 :: x24 :: x25 :: x26 :: x27 :: x28 :: x29 :: x30 :: x31 :: x32 :: x33 :: x34 :: x35 :: x36 :: x37 :: x38 :: x39 :: x40 :: x41 :: x42 :: x43 :: x44 :: x45 :: x46 :: x47 :: x48 :: x49 :: x50 :: x51 :: x52 :: x53 :: x54 :: x55 :: x56 :: x57 :: x58 :: x59 :: x60 :: x61 :: x62 :: .agg #[.int .i64 r.s.now, .slice p1 n1 c1, .slice p2 n2 c2, .int .i64 r.g.done, .int .i64 r.g.asked, .bool r.g.on, .slice p3 n3 c3, .slice p4 n4 c4] :: .int .i64 (M : Int) :: .agg #[.int .i64 3, .int .i64 (M : Int), .int .u64 1] :: x66 :: x67 :: x68 :: x69 :: x70 :: x71 :: x72 :: x73 :: x74 :: x75 :: x76 :: x77 :: x78 :: x79 :: x80 :: x81 :: x82 :: x83 :: x84 :: x85 :: x86 :: x87 :: x88 :: x89 :: x90 :: x91 :: x92 :: []), defers := [] } X := by
    clear S_2_3
    subst hops
    intro zr X fB fR fRz
    have hT := (show WkB b r (.slice p1 n1 c1) (.slice p2 n2 c2) (.slice p3 n3 c3) (.slice p4 n4 c4) X from hA.1.below (fB))
    refine wpTwo_ready (rs := [3]) (by kernel_rfl) (by simp) ?_
    refine (AllTwo.cons rfl (fun K hK => ?_) AllTwo.nil)
    · refine step_ent rfl (f := 12) (args := #[.agg #[.int .i64 r.s.now, .slice p1 n1 c1, .slice p2 n2 c2, .int .i64 r.g.done, .int .i64 r.g.asked, .bool r.g.on, .slice p3 n3 c3, .slice p4 n4 c4], .agg #[.int .i64 3, .int .i64 (M : Int), .int .u64 1]]) (w' := X) (by kernel_rfl) (HPL X fB) ?_
      rintro e X1 ⟨⟨now, d, a, on, q1, m1, e1, q2, m2, e2, q3, m3, e3, q4, m4, e4, yt, xe, rfl, hin⟩, hb⟩
      refine ⟨_, rfl, ?_⟩
      have hT1 := (show WkB b r (.slice p1 n1 c1) (.slice p2 n2 c2) (.slice p3 n3 c3) (.slice p4 n4 c4) X1 from hA.1.below ((below_then fB fB.size hb)))
      refine hK.out _ _ ⟨hT1, fun _ _ => trivial⟩ ?_
      (try simp only [Act.put, List.getElem_toArray, List.getElem_cons_succ, List.getElem_cons_zero, List.setIfInBounds_toArray, List.set_cons_succ, List.set_cons_zero])
      refine wpTwo_takeT (i := 4) (v := .tuple #[.agg #[.int .i64 now, .slice q1 m1 e1, .slice q2 m2 e2, .int .i64 d, .int .i64 a, .bool on, .slice q3 m3 e3, .slice q4 m4 e4], .int .u64 yt, .int .i64 xe]) rfl (by kernel_rfl) (by kernel_rfl) (by kernel_rfl) (fun c a w h => hQp c a _ _ w h) ⟨by rfl, ?_⟩ hT1 ?_
      · rintro w hTw
        go_simp
      (try simp only [Act.put, List.getElem_toArray, List.getElem_cons_succ, List.getElem_cons_zero, List.setIfInBounds_toArray, List.set_cons_succ, List.set_cons_zero])
      refine wpTwo_takeT (i := 5) (v := .agg #[.int .i64 now, .slice q1 m1 e1, .slice q2 m2 e2, .int .i64 d, .int .i64 a, .bool on, .slice q3 m3 e3, .slice q4 m4 e4]) rfl (by kernel_rfl) (by kernel_rfl) (by kernel_rfl) (fun c a w h => hQp c a _ _ w h) ⟨by rfl, ?_⟩ hT1 ?_
      · rintro w hTw
        go_simp
      (try simp only [Act.put, List.getElem_toArray, List.getElem_cons_succ, List.getElem_cons_zero, List.setIfInBounds_toArray, List.set_cons_succ, List.set_cons_zero])
      refine wpTwo_takeT (i := 6) (v := .int .u64 yt) rfl (by kernel_rfl) (by kernel_rfl) (by kernel_rfl) (fun c a w h => hQp c a _ _ w h) ⟨by rfl, ?_⟩ hT1 ?_
      · rintro w hTw
        go_simp
      (try simp only [Act.put, List.getElem_toArray, List.getElem_cons_succ, List.getElem_cons_zero, List.setIfInBounds_toArray, List.set_cons_succ, List.set_cons_zero])
      refine wpTwo_takeT (i := 7) (v := .int .i64 xe) rfl (by kernel_rfl) (by kernel_rfl) (by kernel_rfl) (fun c a w h => hQp c a _ _ w h) ⟨by rfl, ?_⟩ hT1 ?_
      · rintro w hTw
        go_simp
      (try simp only [Act.put, List.getElem_toArray, List.getElem_cons_succ, List.getElem_cons_zero, List.setIfInBounds_toArray, List.set_cons_succ, List.set_cons_zero])
      exact S_2_3_8 now d a on q1 m1 e1 q2 m2 e2 q3 m3 e3 q4 m4 e4 yt xe X.heap.size X1.heap.size zr X1 (below_then fB fB.size hb) (hin.apart (fun q h => h)) (Nat.le_refl _) (fB.size) (fR.below hb) (fRz) (.inl fR.lt)
  have S_2 : ∀  (X : World) (fB : Below wA.heap.size wA X), wpTwo Tryz.prog .any ops Q (WkB b r (.slice p1 n1 c1) (.slice p2 n2 c2) (.slice p3 n3 c3) (.slice p4 n4 c4)) (fun _ => True) (fun _ => false) 9 #[true, true, true, false, false, false, false, false, false, false, false, false] { tmps := List.toArray (x0 :: .int .i64 (M : Int) :: x2 :: x3 :: x4 :: .pointer (some ⟨b, 0, none⟩) :: x6 :: x7 :: x8 :: x9 :: x10 :: x11 :: x12 :: x13 :: x14 :: x15 :: x16 :: x17 :: x18 :: x19 :: x20 :: x21 :: x22 :: x23 :: x24 :: x25 :: x26 :: x27 :: x28 :: x29 :: x30 :: x31 :: x32 :: x33 :: x34 :: x35 :: x36 :: x37 :: x38 :: x39 :: x40 :: x41 :: x42 :: x43 :: x44 :: x45 :: x46 :: x47 :: x48 :: x49 :: x50 :: x51 :: x52 :: x53 :: x54 :: x55 :: x56 :: x57 :: x58 :: x59 :: x60 :: x61 :: x62 :: .agg #[.int .i64 r.s.now, .slice p1 n1 c1, .slice p2 n2 c2, .int .i64 r.g.done, .int .i64 r.g.asked, .bool r.g.on, .slice p3 n3 c3, .slice p4 n4 c4] :: .int .i64 (M : Int) :: .agg #[.int .i64 3, .int .i64 (M : Int), .int .u64 1] :: x66 :: x67 :: x68 :: x69 :: x70 :: x71 :: x72 :: x73 :: x74 :: x75 :: x76 :: x77 :: x78 :: x79 :: x80 :: x81 :: x82 :: x83 :: x84 :: x85 :: x86 :: x87 :: x88 :: x89 :: x90 :: x91 :: x92 :: []), defers := [] } X := by
    clear S_2_3_8
    subst hops
    intro X fB
    have hT := (show WkB b r (.slice p1 n1 c1) (.slice p2 n2 c2) (.slice p3 n3 c3) (.slice p4 n4 c4) X from hA.1.below (fB))
    refine wpTwo_ready (rs := [3, 8]) (by kernel_rfl) (by simp) ?_
    refine (AllTwo.cons rfl (fun K hK => ?_) (AllTwo.cons rfl (fun K hK => ?_) AllTwo.nil))
    · refine step_ent rfl (f := 12) (args := #[.agg #[.int .i64 r.s.now, .slice p1 n1 c1, .slice p2 n2 c2, .int .i64 r.g.done, .int .i64 r.g.asked, .bool r.g.on, .slice p3 n3 c3, .slice p4 n4 c4], .agg #[.int .i64 3, .int .i64 (M : Int), .int .u64 1]]) (w' := X) (by kernel_rfl) (HPL X fB) ?_
      rintro e X1 ⟨⟨now, d, a, on, q1, m1, e1, q2, m2, e2, q3, m3, e3, q4, m4, e4, yt, xe, rfl, hin⟩, hb⟩
      refine ⟨_, rfl, ?_⟩
      have hT1 := (show WkB b r (.slice p1 n1 c1) (.slice p2 n2 c2) (.slice p3 n3 c3) (.slice p4 n4 c4) X1 from hA.1.below ((below_then fB fB.size hb)))
      refine hK.out _ _ ⟨hT1, fun _ _ => trivial⟩ ?_
      (try simp only [Act.put, List.getElem_toArray, List.getElem_cons_succ, List.getElem_cons_zero, List.setIfInBounds_toArray, List.set_cons_succ, List.set_cons_zero])
      refine wpTwo_takeT (i := 4) (v := .tuple #[.agg #[.int .i64 now, .slice q1 m1 e1, .slice q2 m2 e2, .int .i64 d, .int .i64 a, .bool on, .slice q3 m3 e3, .slice q4 m4 e4], .int .u64 yt, .int .i64 xe]) rfl (by kernel_rfl) (by kernel_rfl) (by kernel_rfl) (fun c a w h => hQp c a _ _ w h) ⟨by rfl, ?_⟩ hT1 ?_
      · rintro w hTw
        go_simp
      (try simp only [Act.put, List.getElem_toArray, List.getElem_cons_succ, List.getElem_cons_zero, List.setIfInBounds_toArray, List.set_cons_succ, List.set_cons_zero])
      refine wpTwo_takeT (i := 5) (v := .agg #[.int .i64 now, .slice q1 m1 e1, .slice q2 m2 e2, .int .i64 d, .int .i64 a, .bool on, .slice q3 m3 e3, .slice q4 m4 e4]) rfl (by kernel_rfl) (by kernel_rfl) (by kernel_rfl) (fun c a w h => hQp c a _ _ w h) ⟨by rfl, ?_⟩ hT1 ?_
      · rintro w hTw
        go_simp
      (try simp only [Act.put, List.getElem_toArray, List.getElem_cons_succ, List.getElem_cons_zero, List.setIfInBounds_toArray, List.set_cons_succ, List.set_cons_zero])
      refine wpTwo_takeT (i := 6) (v := .int .u64 yt) rfl (by kernel_rfl) (by kernel_rfl) (by kernel_rfl) (fun c a w h => hQp c a _ _ w h) ⟨by rfl, ?_⟩ hT1 ?_
      · rintro w hTw
        go_simp
      (try simp only [Act.put, List.getElem_toArray, List.getElem_cons_succ, List.getElem_cons_zero, List.setIfInBounds_toArray, List.set_cons_succ, List.set_cons_zero])
      refine wpTwo_takeT (i := 7) (v := .int .i64 xe) rfl (by kernel_rfl) (by kernel_rfl) (by kernel_rfl) (fun c a w h => hQp c a _ _ w h) ⟨by rfl, ?_⟩ hT1 ?_
      · rintro w hTw
        go_simp
      (try simp only [Act.put, List.getElem_toArray, List.getElem_cons_succ, List.getElem_cons_zero, List.setIfInBounds_toArray, List.set_cons_succ, List.set_cons_zero])
      exact S_2_3 now d a on q1 m1 e1 q2 m2 e2 q3 m3 e3 q4 m4 e4 yt xe X.heap.size X1.heap.size X1 (below_then fB fB.size hb) (hin.apart (fun q h => h)) (Nat.le_refl _) (fB.size)
    · refine step_val rfl (v := .pointer (some ⟨X.heap.size, 0, none⟩)) (w' := X.alloc (.cells #[.int .i64 0, .slice none 0 0, .slice none 0 0, .int .i64 0, .int .i64 0, .bool false, .slice none 0 0, .slice none 0 0] 30)) (by kernel_rfl) ?_
      obtain ⟨X1, hX⟩ : ∃ Y : World, Y = X.alloc (.cells #[.int .i64 0, .slice none 0 0, .slice none 0 0, .int .i64 0, .int .i64 0, .bool false, .slice none 0 0, .slice none 0 0] 30) := ⟨_, rfl⟩
      rw [← hX]
      have hb : Below X.heap.size X X1 := by rw [hX]; exact below1 _ _
      have hT1 := (show WkB b r (.slice p1 n1 c1) (.slice p2 n2 c2) (.slice p3 n3 c3) (.slice p4 n4 c4) X1 from hA.1.below ((below_then fB fB.size hb)))
      exact hK.out _ _ ⟨hT1, fun _ _ => trivial⟩ (S_2_8 X.heap.size X1 (below_then fB fB.size hb) (by rw [hX]; exact RcBox.new _ _ _ _ _ _ _ _ _) (fB.size))
  have S_8 : ∀ (zr : Nat) (X : World) (fB : Below wA.heap.size wA X) (fR : RcBox X zr 0 (.slice none 0 0) (.slice none 0 0) 0 0 false (.slice none 0 0) (.slice none 0 0)) (fRz : wA.heap.size ≤ zr), wpTwo Tryz.prog .any ops Q (WkB b r (.slice p1 n1 c1) (.slice p2 n2 c2) (.slice p3 n3 c3) (.slice p4 n4 c4)) (fun _ => True) (fun _ => false) 9 #[true, true, false, false, false, false, false, false, true, false, false, false] { tmps := List.toArray (x0 :: .int .i64 (M : Int) :: x2 :: x3 :: x4 :: .pointer (some ⟨b, 0, none⟩) :: x6 :: x7 :: x8 :: x9 :: .pointer (some ⟨zr, 0, none⟩) :: x11 :: x12 :: x13 :: x14 :: x15 :: x16 :: x17 :: x18 :: x19 :: x20 :: x21 :: x22 :: x23 :: x24 :: x25 :: x26 :: x27 :: x28 :: x29 :: x30 :: x31 :: x32 :: x33 :: x34 :: x35 :: x36 :: x37 :: x38 :: x39 :: x40 :: x41 :: x42 :: x43 :: x44 :: x45 :: x46 :: x47 :: x48 :: x49 :: x50 :: x51 :: x52 :: x53 :: x54 :: x55 :: x56 :: x57 :: x58 :: x59 :: x60 :: x61 :: x62 :: .agg #[.int .i64 r.s.now, .slice p1 n1 c1, .slice p2 n2 c2, .int .i64 r.g.done, .int .i64 r.g.asked, .bool r.g.on, .slice p3 n3 c3, .slice p4 n4 c4] :: .int .i64 (M : Int) :: x65 :: x66 :: x67 :: x68 :: x69 :: x70 :: x71 :: x72 :: x73 :: x74 :: x75 :: x76 :: x77 :: x78 :: x79 :: x80 :: x81 :: x82 :: x83 :: x84 :: x85 :: x86 :: x87 :: x88 :: x89 :: x90 :: x91 :: x92 :: []), defers := [] } X := by
    clear S_2_3_8 S_2_3 S_2
    subst hops
    intro zr X fB fR fRz
    have hT := (show WkB b r (.slice p1 n1 c1) (.slice p2 n2 c2) (.slice p3 n3 c3) (.slice p4 n4 c4) X from hA.1.below (fB))
    refine wpTwo_ready (rs := [2]) (by kernel_rfl) (by simp) ?_
    refine (AllTwo.cons rfl (fun K hK => ?_) AllTwo.nil)
    · refine step_ent rfl (f := 29) (args := #[.int .i64 3, .int .i64 (M : Int), .int .u64 1]) (w' := X) (by kernel_rfl) (op_c 3 (M : Int) 1 X) ?_
      rintro e X1 ⟨rfl, hb⟩
      refine ⟨_, rfl, ?_⟩
      have hT1 := (show WkB b r (.slice p1 n1 c1) (.slice p2 n2 c2) (.slice p3 n3 c3) (.slice p4 n4 c4) X1 from hA.1.below ((below_then fB fB.size hb)))
      exact hK.out _ _ ⟨hT1, fun _ _ => trivial⟩ (S_2_8 zr X1 (below_then fB fB.size hb) (fR.below hb) (fRz))
  have S_o : ∀  (X : World) (fB : Below wA.heap.size wA X), wpTwo Tryz.prog .any ops Q (WkB b r (.slice p1 n1 c1) (.slice p2 n2 c2) (.slice p3 n3 c3) (.slice p4 n4 c4)) (fun _ => True) (fun _ => false) 10 #[true, true, false, false, false, false, false, false, false, false, false, false] { tmps := List.toArray (x0 :: .int .i64 (M : Int) :: x2 :: x3 :: x4 :: .pointer (some ⟨b, 0, none⟩) :: x6 :: x7 :: x8 :: x9 :: x10 :: x11 :: x12 :: x13 :: x14 :: x15 :: x16 :: x17 :: x18 :: x19 :: x20 :: x21 :: x22 :: x23 :: x24 :: x25 :: x26 :: x27 :: x28 :: x29 :: x30 :: x31 :: x32 :: x33 :: x34 :: x35 :: x36 :: x37 :: x38 :: x39 :: x40 :: x41 :: x42 :: x43 :: x44 :: x45 :: x46 :: x47 :: x48 :: x49 :: x50 :: x51 :: x52 :: x53 :: x54 :: x55 :: x56 :: x57 :: x58 :: x59 :: x60 :: x61 :: x62 :: .agg #[.int .i64 r.s.now, .slice p1 n1 c1, .slice p2 n2 c2, .int .i64 r.g.done, .int .i64 r.g.asked, .bool r.g.on, .slice p3 n3 c3, .slice p4 n4 c4] :: .int .i64 (M : Int) :: x65 :: x66 :: x67 :: x68 :: x69 :: x70 :: x71 :: x72 :: x73 :: x74 :: x75 :: x76 :: x77 :: x78 :: x79 :: x80 :: x81 :: x82 :: x83 :: x84 :: x85 :: x86 :: x87 :: x88 :: x89 :: x90 :: x91 :: x92 :: []), defers := [] } X := by
    clear S_2_3_8 S_2_3 S_2_8
    subst hops
    intro X fB
    have hT := (show WkB b r (.slice p1 n1 c1) (.slice p2 n2 c2) (.slice p3 n3 c3) (.slice p4 n4 c4) X from hA.1.below (fB))
    refine wpTwo_ready (rs := [2, 8]) (by kernel_rfl) (by simp) ?_
    refine (AllTwo.cons rfl (fun K hK => ?_) (AllTwo.cons rfl (fun K hK => ?_) AllTwo.nil))
    · refine step_ent rfl (f := 29) (args := #[.int .i64 3, .int .i64 (M : Int), .int .u64 1]) (w' := X) (by kernel_rfl) (op_c 3 (M : Int) 1 X) ?_
      rintro e X1 ⟨rfl, hb⟩
      refine ⟨_, rfl, ?_⟩
      have hT1 := (show WkB b r (.slice p1 n1 c1) (.slice p2 n2 c2) (.slice p3 n3 c3) (.slice p4 n4 c4) X1 from hA.1.below ((below_then fB fB.size hb)))
      exact hK.out _ _ ⟨hT1, fun _ _ => trivial⟩ (S_2 X1 (below_then fB fB.size hb))
    · refine step_val rfl (v := .pointer (some ⟨X.heap.size, 0, none⟩)) (w' := X.alloc (.cells #[.int .i64 0, .slice none 0 0, .slice none 0 0, .int .i64 0, .int .i64 0, .bool false, .slice none 0 0, .slice none 0 0] 30)) (by kernel_rfl) ?_
      obtain ⟨X1, hX⟩ : ∃ Y : World, Y = X.alloc (.cells #[.int .i64 0, .slice none 0 0, .slice none 0 0, .int .i64 0, .int .i64 0, .bool false, .slice none 0 0, .slice none 0 0] 30) := ⟨_, rfl⟩
      rw [← hX]
      have hb : Below X.heap.size X X1 := by rw [hX]; exact below1 _ _
      have hT1 := (show WkB b r (.slice p1 n1 c1) (.slice p2 n2 c2) (.slice p3 n3 c3) (.slice p4 n4 c4) X1 from hA.1.below ((below_then fB fB.size hb)))
      exact hK.out _ _ ⟨hT1, fun _ _ => trivial⟩ (S_8 X.heap.size X1 (below_then fB fB.size hb) (by rw [hX]; exact RcBox.new _ _ _ _ _ _ _ _ _) (fB.size))
  clear S_2_3_8 S_2_3 S_2_8 S_2 S_8
  subst hops
  refine wpTwo_begin (T := (WkB b r (.slice p1 n1 c1) (.slice p2 n2 c2) (.slice p3 n3 c3) (.slice p4 n4 c4))) (S := fun _ => True) (late := fun _ => false) (by kernel_rfl) ?_
  obtain ⟨X0, hX0⟩ : ∃ X : World, X = wA.drew := ⟨_, rfl⟩
  rw [← hX0]
  have fB : Below wA.heap.size wA X0 := by rw [hX0]; exact (Below.refl _ _).drew
  have hT := (show WkB b r (.slice p1 n1 c1) (.slice p2 n2 c2) (.slice p3 n3 c3) (.slice p4 n4 c4) X0 from hA.1.below (fB))
  clear hX0
  refine wpTwo_takeT (i := 0) (v := .agg #[.int .i64 r.s.now, .slice p1 n1 c1, .slice p2 n2 c2, .int .i64 r.g.done, .int .i64 r.g.asked, .bool r.g.on, .slice p3 n3 c3, .slice p4 n4 c4]) rfl (by kernel_rfl) (by kernel_rfl) (by kernel_rfl) (fun c a w h => hQp c a _ _ w h) ⟨by rfl, ?_⟩ hT ?_
  · rintro w hTw
    obtain ⟨t0', t1', t2', t3', t4', t5', t6', t7'⟩ := hTw.cells
    go_simp
  (try simp only [Act.put, List.getElem_toArray, List.getElem_cons_zero, List.setIfInBounds_toArray, List.set_cons_succ, List.set_cons_zero])
  refine wpTwo_takeT (i := 1) (v := .int .i64 (M : Int)) rfl (by kernel_rfl) (by kernel_rfl) (by kernel_rfl) (fun c a w h => hQp c a _ _ w h) ⟨by rfl, ?_⟩ hT ?_
  · rintro w hTw
    go_simp
  (try simp only [Act.put, List.getElem_toArray, List.getElem_cons_succ, List.getElem_cons_zero, List.setIfInBounds_toArray, List.set_cons_succ, List.set_cons_zero])
  exact S_o X0 fB

end Go.Proofs.YtdpkfahaojhkhaaGreat
/-
  RcuFull: so many callbacks can be queued, and no more.
  Conditions: the Rcu is one that came in.
-/
namespace Go.Proofs.YtdpkfahaojhkhaaGreat
set_option maxRecDepth 100000
open Go.RowKit Go.Shelf
attribute [local go_sem] Oper.semAt_some

theorem part_n (x : Int) (n : Nat) (h0 : 0 < n) (h1 : n ≤ 100) : ∃ M : Nat, M < n ∧ wrap64 ((IntKind.u64.wrap x).tmod (n : Int)) = (M : Int) := by
  have h0' : 0 ≤ IntKind.u64.wrap x := by simp [IntKind.wrap, IntKind.signed, IntKind.bits]; omega
  have h1' : (IntKind.u64.wrap x).tmod (n : Int) = IntKind.u64.wrap x % (n : Int) := Int.tmod_eq_emod_of_nonneg h0'
  have h2 : 0 ≤ IntKind.u64.wrap x % (n : Int) := Int.emod_nonneg _ (by omega)
  have h3 : IntKind.u64.wrap x % (n : Int) < n := Int.emod_lt_of_pos _ (by omega)
  refine ⟨(IntKind.u64.wrap x % (n : Int)).toNat, by omega, ?_⟩
  rw [h1', Int.toNat_of_nonneg h2]
  first | (unfold wrap64; omega) | (simp [wrap64]; omega)
theorem call_rc {r : RcS} {M : Nat} (hM : M < r.qs.length) (hm : rmayB r = true) : stepAE r (3, (M : Int), 1) = callE r M ∧ opR r (3, (M : Int), 1) = callR r M 1 := by
  have hh : hasB r.qs.length (M : Int) = true := by
    unfold hasB
    simp only [Bool.and_eq_true, decide_eq_true_eq]
    omega
  constructor
  · unfold stepAE opE
    rw [if_pos hm, if_neg (by simp), if_neg (by rw [hh]; decide), if_neg (by simp), if_neg (by simp), if_pos rfl, Int.toNat_natCast]
  · unfold opR
    rw [if_neg (by simp), if_neg (by simp), if_pos rfl, Int.toNat_natCast]
theorem callR_q {r : RcS} {M : Nat} (hM : M < r.qs.length) (x : Int) : (callR r M x).qs.length = r.qs.length ∧ (qAt (callR r M x) M).2.length = (qAt r M).2.length + 1 := by
  constructor
  · simp [callR]
  · have h1 : M < (callR r M x).qs.length := by simpa [callR] using hM
    rw [qAt_lt h1]
    simp [callR]
theorem callE_one (r : RcS) (M : Nat) : callE r M = 0 ∨ callE r M = 6 := by
  unfold callE
  split
  · exact .inr rfl
  · split
    · exact .inr rfl
    · exact .inl rfl
theorem callE_ask {r : RcS} {M : Nat} (h : callE r M ≠ 0) (hl : (qAt r M).2.length < 16) (hg : GoodR r) : 2147483643 ≤ r.g.asked := by
  have h1 : askE r.g ≠ 0 := by
    intro e
    unfold callE at h
    rw [if_neg (by rw [e]; decide), if_neg (by omega)] at h
    exact h rfl
  obtain ⟨-, g2, -⟩ := rmay_facts hg.may
  have hgg := (goodG_iff r.g).1 g2
  unfold askE nextG at h1
  cases ho : r.g.on with
  | true => have := hgg.on1 ho; rw [ho] at h1; simp at h1; omega
  | false => have := hgg.on0 ho; rw [ho] at h1; simp at h1; omega
theorem callE_full {r : RcS} {M : Nat} (hl : (qAt r M).2.length = 16) : callE r M = 6 := by
  unfold callE
  rw [if_pos hl]
  split <;> rfl

/-- Between two calls. -/
structure FuI (W : World) (z n M : Nat) (k0 : Nat) (j : Nat) (wr : World) : Prop where
  ex : ∃ r p1 l1 c1 p2 l2 c2 p3 l3 c3 p4 c4, GoodR r ∧ r.qs.length = n ∧ (qAt r M).2.length = k0 + j ∧ WkA z r (.slice p1 l1 c1) (.slice p2 l2 c2) (.slice p3 l3 c3) (.slice p4 n c4) wr
  kp : Below W.heap.size W wr
  zW : W.heap.size ≤ z

set_option maxHeartbeats 64000000 in
theorem rcuFull_c (r : RcS) (u v nv qv : Value) (cpu : Int) (W : World) (hA : ArgRc W u v nv qv r) (hr : RcR (ownRc r)) :
    Calls Tryz.prog 7 #[.agg #[.int .i64 r.s.now, u, v, .int .i64 r.g.done, .int .i64 r.g.asked, .bool r.g.on, nv, qv], .int .i64 cpu] W fun e w' => e = .returned (.bool true) ∧ Below W.heap.size W w' := by
  obtain ⟨s, hs⟩ : ∃ s, s = ownRc r := ⟨_, rfl⟩
  obtain ⟨wA, hwA⟩ : ∃ X : World, X = W.alloc (.cells #[.int .i64 r.s.now, u, v, .int .i64 r.g.done, .int .i64 r.g.asked, .bool r.g.on, nv, qv] 30) := ⟨_, rfl⟩
  have hbA : Below W.heap.size W wA := by rw [hwA]; exact below1 _ _
  have HA := Lib.hid (show RcBox wA W.heap.size r.s.now u v r.g.done r.g.asked r.g.on nv qv ∧ ArgRc wA u v nv qv r ∧ Below W.heap.size W wA from ⟨by rw [hwA]; exact RcBox.new W _ _ _ _ _ _ _ _, hA.below hbA, hbA⟩)
  have HWK := Lib.hid (wakes_c wA)
  have HR := Lib.hid (show RcR s from by rw [hs]; exact hr)
  have HS := Lib.hid hs
  obtain ⟨x1, y1, z1, rfl, -⟩ := hA.nest
  obtain ⟨x2, y2, z2, rfl, -⟩ := hA.opened
  obtain ⟨x3, y3, z3, rfl, -⟩ := hA.needs
  obtain ⟨x4, y4, z4, rfl, -⟩ := hA.queues
  clear hA hr hbA hs
  go_enter Tryz.func7, Tryz.ntmps7
  go_wp2_with fail
  rw [← hwA]
  clear hwA
  (with_reducible refine HWK.out.mono ?_)
  rintro e w1 ⟨rfl, hb1⟩
  have HA1 := Lib.hid (show RcBox w1 W.heap.size _ _ _ _ _ _ _ _ ∧ ArgRc w1 _ _ _ _ r ∧ Below W.heap.size W w1 from ⟨HA.out.1.below hb1, HA.out.2.1.below hb1, below_then HA.out.2.2 HA.out.2.2.size hb1⟩)
  have hO := own14_c r _ _ _ _ w1 HA1.out.2.1
  rw [← HS.out] at hO
  have HO := Lib.hid hO
  obtain ⟨d0, d1, d2, d3, d4, d5, d6, d7⟩ := HA1.out.1.cells
  clear hb1 hO HWK HA HS
  go_wp2_with fail
  (with_reducible refine HO.out.mono ?_)
  rintro e w2 ⟨⟨p1, c1, p2, c2, p3, c3, p4, c4, rfl, hin⟩, hb2⟩
  obtain ⟨l1, hl1⟩ : ∃ x, x = s.s.ns.length := ⟨_, rfl⟩
  obtain ⟨l2, hl2⟩ : ∃ x, x = s.s.os.length := ⟨_, rfl⟩
  obtain ⟨l3, hl3⟩ : ∃ x, x = s.g.nd.length := ⟨_, rfl⟩
  obtain ⟨n, hn⟩ : ∃ x, x = s.qs.length := ⟨_, rfl⟩
  rw [← hl1, ← hl2, ← hl3, ← hn] at hin ⊢
  have HLN := Lib.hid (And.intro hl1 hn)
  clear hl1 hl2 hl3 hn d0 d1 d2 d3 d4 d5 d6 d7 HO
  obtain ⟨z, hz⟩ : ∃ z, z = w2.heap.size := ⟨_, rfl⟩
  obtain ⟨w3, hw3⟩ : ∃ X : World, X = w2.alloc (.cells #[.int .i64 s.s.now, .slice p1 l1 c1, .slice p2 l2 c2, .int .i64 s.g.done, .int .i64 s.g.asked, .bool s.g.on, .slice p3 l3 c3, .slice p4 n c4] 30) := ⟨_, rfl⟩
  have hb3 : Below w2.heap.size w2 w3 := by rw [hw3]; exact below1 _ _
  have HW3 := Lib.hid (And.intro hw3 hz)
  have HB3 := Lib.hid (show WkA z s (.slice p1 l1 c1) (.slice p2 l2 c2) (.slice p3 l3 c3) (.slice p4 n c4) w3 ∧ Below W.heap.size W w3 ∧ W.heap.size ≤ z from ⟨⟨by rw [hw3, hz]; exact RcBox.new w2 _ _ _ _ _ _ _ _, hin.noS.below hb3⟩, below_then HA1.out.2.2 HA1.out.2.2.size (below_then hb2 hb2.size hb3), by rw [hz]; exact Nat.le_trans HA1.out.2.2.size hb2.size⟩)
  have HCK := Lib.hid (rcheck_c _ _ _ _ s w3 HB3.out.1.2 HR.out)
  clear hw3 hz hb3 hb2 hin HA1
  go_upto_region 4 with fail
  rw [← HW3.out.1, ← HW3.out.2]
  clear HW3
  obtain ⟨d0, d1, d2, d3, d4, d5, d6, d7⟩ := HB3.out.1.1.cells
  go_wp2_with fail
  (with_reducible refine HCK.out.mono ?_)
  rintro e w4 ⟨rfl, hb4⟩
  have HB4 := Lib.hid (show WkA z s (.slice p1 l1 c1) (.slice p2 l2 c2) (.slice p3 l3 c3) (.slice p4 n c4) w4 ∧ Below W.heap.size W w4 ∧ W.heap.size ≤ z from ⟨HB3.out.1.below hb4, below_then HB3.out.2.1 HB3.out.2.1.size hb4, HB3.out.2.2⟩)
  clear d0 d1 d2 d3 d4 d5 d6 d7 hb4 HB3 HCK
  obtain ⟨d0, d1, d2, d3, d4, d5, d6, d7⟩ := HB4.out.1.1.cells
  cases hm : rmayB s with
  | false =>
    have hc := rwaiting_c _ _ _ _ s w4 HB4.out.1.2 HR.out
    rw [hm, if_neg Bool.false_ne_true] at hc
    rw [if_neg Bool.false_ne_true]
    have HC := Lib.hid hc
    clear hc hm
    go_wp2_with fail
    (with_reducible refine HC.out.mono ?_)
    rintro e w5 ⟨rfl, hb5⟩
    have HB := Lib.hid (below_then HB4.out.2.1 HB4.out.2.1.size hb5)
    clear hb5 HB4 HC d0 d1 d2 d3 d4 d5 d6 d7
    go_wp2
    go_ret
    exact ⟨rfl, HB.out⟩
  | true =>
    rw [if_pos rfl]
    have hg : GoodR s := ⟨hm, HR.out.pe⟩
    have hn18 : 1 ≤ n ∧ n ≤ 8 := by
      obtain ⟨g1, -, g3, -⟩ := rmay_facts hm
      have := g1.l1
      have := g1.l8
      have := HLN.out.2
      omega
    obtain ⟨M, hMn, hMe⟩ := part_n cpu n (by omega) (by omega)
    have hMs : M < s.qs.length := by have := HLN.out.2; omega
    obtain ⟨b4, off4, rfl, lv, hx, hy, hcb⟩ := queue_at HB4.out.1.2.queues M hMs
    obtain ⟨lp, lc, rfl, -⟩ := id hcb
    obtain ⟨k0, hk0⟩ : ∃ k, k = s.qs[M].2.length := ⟨_, rfl⟩
    rw [← hk0] at hx hcb
    have hk16 : k0 ≤ 16 := by
      obtain ⟨-, -, -, -, g5⟩ := rmay_facts hm
      have := (U.may_parts (g5 _ (List.getElem_mem hMs)).1).2.1
      omega
    have hn64 : IntKind.u64.wrap (n : Int) = (n : Int) := by simp [IntKind.wrap, IntKind.signed, IntKind.bits]; omega
    have hn0 : ¬ ((n : Int) = 0) := by omega
    have hM0 : (0 : Int) ≤ (M : Int) := by omega
    have hMn' : (M : Int) < (n : Int) := by omega
    have hn9 : n ≤ 9223372036854775807 := by omega
    obtain ⟨K, hK⟩ : ∃ K : Nat, K = 16 - k0 := ⟨_, rfl⟩
    have hKe : (16 : Int) - (k0 : Int) = (K : Int) := by omega
    have hK16 : K ≤ 16 := by omega
    have hk0m : k0 ≤ 9223372036854775807 := by omega
    have HI4 := Lib.hid (show FuI W z n M k0 0 w4 from ⟨⟨s, p1, l1, c1, p2, l2, c2, p3, l3, c3, some ⟨b4, off4, none⟩, c4, hg, HLN.out.2.symm, by rw [qAt_lt hMs, ← hk0]; rfl, HB4.out.1⟩, HB4.out.2.1, HB4.out.2.2⟩)
    have HKM := Lib.hid (show k0 + K = 16 ∧ M < n ∧ n ≤ 8 from by omega)
    clear hy hm hg hn18 hcb hk0 hk16 hK HB4 HR HLN
    clear hMs
    go_upto_region 9 with fail

    rw [hMe]
    clear hx d0 d1 d2 d3 d4 d5 d6 d7 hMe hn64 hn0 hKe
    go_loopw [40] (fun iv wr => ∃ j : Nat, j ≤ K ∧ iv = .int .i64 (j : Int) ∧ Hid (FuI W z n M k0 j wr)) (fun iv _ => K - (intOf iv).toNat)
    case atStart => exact ⟨0, Nat.zero_le _, rfl, HI4⟩
    case round =>
      clear HI4
      obtain ⟨j, hj, rfl, HI⟩ := hrel
      obtain ⟨r1, p1, l1, c1, p2, l2, c2, p3, l3, c3, p4, c4, hg, hq, hl, hwk⟩ := HI.out.ex
      have hMs : M < r1.qs.length := by have := HKM.out; omega
      obtain ⟨E, hE⟩ : ∃ E, stepAE r1 (3, (M : Int), 1) = E := ⟨_, rfl⟩
      obtain ⟨r2, hR⟩ : ∃ r2, opR r1 (3, (M : Int), 1) = r2 := ⟨_, rfl⟩
      have HX := Lib.hid (show GoodR r1 ∧ r1.qs.length = n ∧ (qAt r1 M).2.length = k0 + j ∧ WkA z r1 (.slice p1 l1 c1) (.slice p2 l2 c2) (.slice p3 l3 c3) (.slice p4 n c4) wr ∧ E = callE r1 M ∧ r2 = callR r1 M 1 ∧ M < r1.qs.length from ⟨hg, hq, hl, hwk, by rw [← hE, (call_rc hMs hg.may).1], by rw [← hR, (call_rc hMs hg.may).2], hMs⟩)
      have HE := Lib.hid (And.intro hE hR)
      clear hg hq hl hwk hE hR hMs
      by_cases hlt : j < K
      · have hlt' : (j : Int) < (K : Int) := by omega
        have hj0 : (0 : Int) ≤ (j : Int) := by omega
        go_upto_region 10 with fail
        refine full_reg10 z M r1 p1 l1 c1 p2 l2 c2 p3 l3 c3 p4 n c4 _ _ _ _ _ _ _ _ _ _ _ _ _ _ _ _ _ _ _ _ _ _ _ _ _ _ _ _ _ _ _ _ _ _ _ _ _ _ _ _ _ _ _ _ _ _ _ _ _ _ _ _ _ _ _ _ _ _ _ _ _ _ _ _ _ _ _ _ _ _ _ _ _ _ _ _ _ _ _ _ _ _ _ _ _ _ _ _ _ _ _ wr HX.out.2.2.2.1 HX.out.1.rcr E r2 HE.out.1 HE.out.2 _ (by kernel_rfl) _ (fun c a i v w h => by cases i <;> exact h) ?_
        intro zr now d a on q1 m1 e1 q2 m2 e2 q3 m3 e3 q4 m4 e4 yt xe X hO
        have HO := Lib.hid hO
        have HZ := Lib.hid (show WkA z r1 (.slice p1 l1 c1) (.slice p2 l2 c2) (.slice p3 l3 c3) (.slice p4 n c4) X ∧ Below W.heap.size W X ∧ z < zr from ⟨HX.out.2.2.2.1.below hO.2.2.2, below_then HI.out.kp HI.out.kp.size hO.2.2.2, Nat.lt_of_lt_of_le HX.out.2.2.2.1.1.lt hO.2.2.1⟩)
        clear hO HE
        rcases callE_one r1 M with h0 | h6
        · have hE0 : E = 0 := HX.out.2.2.2.2.1.trans h0
          obtain ⟨-, hxe, hnow, hd, ha, hon, hin⟩ := HO.out.2.1.resolve_left (fun h => h.1 hE0)
          subst hxe
          obtain rfl : m4 = n := by
            obtain ⟨p', c', e', -⟩ := hin.queues
            injection e' with _ e' _
            rw [e', HX.out.2.2.2.2.2.1, (callR_q HX.out.2.2.2.2.2.2 1).1, HX.out.2.1]
          obtain ⟨X', hX'⟩ : ∃ Y : World, Y = (((((((X.setCell ⟨z, 0, none⟩ (.int .i64 now)).setCell ⟨z, 1, none⟩ (.slice q1 m1 e1)).setCell ⟨z, 2, none⟩ (.slice q2 m2 e2)).setCell ⟨z, 3, none⟩ (.int .i64 d)).setCell ⟨z, 4, none⟩ (.int .i64 a)).setCell ⟨z, 5, none⟩ (.bool on)).setCell ⟨z, 6, none⟩ (.slice q3 m3 e3)).setCell ⟨z, 7, none⟩ (.slice q4 m4 e4) := ⟨_, rfl⟩
          have HN := Lib.hid (show FuI W z m4 M k0 (j + 1) X' from by
            have hk : Keeps (fun k => k = z) X X' := by rw [hX']; exact RcBox.putAllK X z _ _ _ _ _ _ _ _
            have hzW := HI.out.zW
            have hge : GoodR r2 := by rw [HX.out.2.2.2.2.2.1]; exact HX.out.1.call HX.out.2.2.2.2.2.2 h0 1
            have hbx : RcBox X' z r2.s.now (.slice q1 m1 e1) (.slice q2 m2 e2) r2.g.done r2.g.asked r2.g.on (.slice q3 m3 e3) (.slice q4 m4 e4) := by
              rw [hX', ← hnow, ← hd, ← ha, ← hon]
              exact HZ.out.1.1.putAll _ _ _ _ _ _ _ _
            refine ⟨⟨r2, q1, m1, e1, q2, m2, e2, q3, m3, e3, q4, e4, hge, by rw [HX.out.2.2.2.2.2.1, (callR_q HX.out.2.2.2.2.2.2 1).1, HX.out.2.1], by rw [HX.out.2.2.2.2.2.1, (callR_q HX.out.2.2.2.2.2.2 1).2, HX.out.2.2.1]; omega, hbx, ?_⟩, HZ.out.2.1.trans (hk.below HZ.out.2.1.size (fun k e => by omega)), hzW⟩
            have hin2 := HO.out.2.1.resolve_left (fun h => h.1 hE0)
            have hinS : RcIn (fun k => k = z) X (.slice q1 m1 e1) (.slice q2 m2 e2) (.slice q3 m3 e3) (.slice q4 m4 e4) r2 := hin2.2.2.2.2.2.2.apart (fun q e => .inl (by subst e; exact HX.out.2.2.2.1.1.lt))
            exact (hinS.keeps hk).noS)
          obtain ⟨f0, f1, f2, f3, f4, f5, f6, f7⟩ := HO.out.1.cells
          obtain ⟨d0, d1, d2, d3, d4, d5, d6, d7⟩ := HZ.out.1.1.cells
          have v0 := HZ.out.1.1.marks 0
          have v1 := HZ.out.1.1.marks 1
          have v2 := HZ.out.1.1.marks 2
          have v3 := HZ.out.1.1.marks 3
          have v4 := HZ.out.1.1.marks 4
          have v5 := HZ.out.1.1.marks 5
          have v6 := HZ.out.1.1.marks 6
          have v7 := HZ.out.1.1.marks 7
          have HXW := Lib.hid hX'
          clear hX' hin hnow hd ha hon hE0 h0 HI HO HZ HX
          go_wp2
          rw [← HXW.out]
          go_roundw
          case rel => exact ⟨j + 1, by omega, by go_num, HN⟩
          case measure => simp [intOf]; omega
        · have hE6 : E = 6 := HX.out.2.2.2.2.1.trans h6
          have hask : (2147483643 : Int) ≤ r1.g.asked := callE_ask (by rw [h6]; decide) (by have := HX.out.2.2.1; have := HKM.out.1; omega) HX.out.1
          obtain ⟨-, hxe, -⟩ := HO.out.2.1.resolve_right (fun h => by rw [hE6] at h; exact absurd h.1 (by decide))
          rw [hE6] at hxe
          subst hxe
          obtain ⟨d0, d1, d2, d3, d4, d5, d6, d7⟩ := HZ.out.1.1.cells
          have HB := Lib.hid HZ.out.2.1
          clear HO HZ HX HI h6 hE6
          go_wp2
          go_ret
          exact ⟨rfl, HB.out⟩
      · obtain rfl : j = K := by omega
        go_upto_region 15 with fail
        refine full_reg15 z M r1 p1 l1 c1 p2 l2 c2 p3 l3 c3 p4 n c4 _ _ _ _ _ _ _ _ _ _ _ _ _ _ _ _ _ _ _ _ _ _ _ _ _ _ _ _ _ _ _ _ _ _ _ _ _ _ _ _ _ _ _ _ _ _ _ _ _ _ _ _ _ _ _ _ _ _ _ _ _ _ _ _ _ _ _ _ _ _ _ _ _ _ _ _ _ _ _ _ _ _ _ _ _ _ _ _ _ _ _ wr HX.out.2.2.2.1 HX.out.1.rcr E r2 HE.out.1 HE.out.2 _ (by kernel_rfl) _ (fun c a i v w h => by cases i <;> exact h) ?_
        intro zr now d a on q1 m1 e1 q2 m2 e2 q3 m3 e3 q4 m4 e4 yt xe X hO
        have h16 : (qAt r1 M).2.length = 16 := by rw [HX.out.2.2.1]; exact HKM.out.1
        have hE6 : E = 6 := HX.out.2.2.2.2.1.trans (callE_full h16)
        obtain ⟨-, hxe, -, -, -, -, -, -, -, hqv⟩ := hO.2.1.resolve_right (fun h => by rw [hE6] at h; exact absurd h.1 (by decide))
        rw [hE6] at hxe
        subst hxe
        unfold nilV at hqv
        injection hqv with hq1 hq2 hq3
        subst hq1 hq2 hq3
        have HZ := Lib.hid (show WkA z r1 (.slice p1 l1 c1) (.slice p2 l2 c2) (.slice p3 l3 c3) (.slice p4 n c4) X ∧ Below W.heap.size W X from ⟨HX.out.2.2.2.1.below hO.2.2.2, below_then HI.out.kp HI.out.kp.size hO.2.2.2⟩)
        obtain ⟨f0, f1, f2, f3, f4, f5, f6, f7⟩ := hO.1.cells
        obtain ⟨b5, off5, rfl, lv, hx, hy, hcb⟩ := queue_at HZ.out.1.2.queues M HX.out.2.2.2.2.2.2
        obtain ⟨lp, lc, rfl, -⟩ := id hcb
        rw [show r1.qs[M]'(HX.out.2.2.2.2.2.2) = qAt r1 M from (qAt_lt _).symm, h16] at hx
        have hc := rcheck_c _ _ _ _ r1 X HZ.out.1.2 HX.out.1.rcr
        rw [if_pos HX.out.1.may] at hc
        have HC := Lib.hid hc
        obtain ⟨d0, d1, d2, d3, d4, d5, d6, d7⟩ := HZ.out.1.1.cells
        clear hO hy hcb h16 hE6 hc HX HI HE
        go_wp2_with fail
        (with_reducible refine HC.out.mono ?_)
        rintro e X2 ⟨rfl, hb⟩
        have HB := Lib.hid (below_then HZ.out.2 HZ.out.2.size hb)
        clear hb HC HZ f0 f1 f2 f3 f4 f5 f6 f7 hx d0 d1 d2 d3 d4 d5 d6 d7
        go_wp2
        go_ret
        exact ⟨rfl, HB.out⟩


end Go.Proofs.YtdpkfahaojhkhaaGreat
namespace Go.Proofs.YtdpkfahaojhkhaaGreat
open Go.RowKit Go.Shelf
open Go.ChangeShapes Go.WideShapes Go.ChangeAt Go.Deep
open Go.ChangeMaps (open_string shut_string)

set_option maxRecDepth 100000 in
theorem rcuFull_lifted (os : Os) (started : os.Started) (H : Type) (enc : TypeId × Value → H) :
    ReturnsInHanded {} Tryz.checked os 7 .any (Rows.rcuFullSpec.pre6 enc Tryz.prog Tryz.f7 Rows.rcuFullRow.domain false) (Rows.rcuFullSpec.post enc Tryz.prog Tryz.f7 false true false false) := by
  refine returnsInHanded_of_change (C := Tryz.checked) own started (by kernel_rfl) Tryz.func7
    (ChangeSpec.witness6 (enc := enc) (C := Tryz.checked) false ⟨#[], #[.agg #[.int .i64 0, .slice none 0 0, .slice none 0 0, .int .i64 0, .int .i64 0, .bool false, .slice none 0 0, .slice none 0 0], .int .i64 0], []⟩ 8 (by kernel_rfl) (by kernel_rfl) (by kernel_rfl) (by kernel_rfl)) ?_
  intro W base args ds gs before hval0 hW hcnd _
  have hval : ∀ (j : Nat) t v, Tryz.f7.params[j]? = some t → args[j]? = some v → Value.okWide Tryz.prog W .any base t v := hval0
  have hW' := hW
  obtain ⟨p, q, hA0, hV, rfl, hfz, hnd⟩ := hW
  have hA : DataW.TrodAll enc Tryz.prog W 0 (fun _ => true) true Tryz.f7.params.toList args.toList ds p := hA0
  rw [Tryz.params7] at hA hval
  have hA2 := hA
  obtain ⟨v0, vs0, d0, ds0, pp0, qq0, hargs, rfl, rfl, h0, r0⟩ := trodAll_cons hA
  obtain ⟨v1, vs1, d1, ds1, pp1, qq1, rfl, rfl, rfl, h1, r1⟩ := trodAll_cons r0
  obtain ⟨rfl, rfl, rfl⟩ := trodAll_nil r1
  obtain rfl : args = #[v0, v1] := by cases args; simp_all
  obtain ⟨rfl, rfl⟩ := trodVars_none hV
  obtain ⟨s0, ua0, ub0, uc0, ud0, rfl, a0, g0⟩ := rcu_open (hval 0 30 v0 rfl rfl) h0
  obtain ⟨a1, rfl, rfl, rfl, w1⟩ := open_int Tryz.underlying3 (hval 1 3 v1 rfl rfl) h1
  clear hA0 hval0
  simp only [List.append_nil] at hW'
  refine (rcuFull_c s0 ua0 ub0 uc0 ud0 a1 W a0 g0).mono fun e W' ⟨he, hb⟩ => ?_
  subst he
  exact ⟨_, rfl, _, _, _, [], _, [], hW', trodAll_cons_mk (shut_bool Tryz.underlying4 _) trodAll_mk0, trodAll_stays laidOut hb (by kernel_rfl) hA2 (fun x hx => by simpa using hW'.lt x (by simpa using hx)), rfl, hb.frame _, fun h => by cases h⟩

theorem rcuFull_holds : Rows.RcuFullSaid :=
  OpenClaim.holds_of_wide 7 Tryz.f7 rfl rfl rfl rfl rfl rfl rfl ⟨rfl, rfl, rfl, rfl, rfl⟩ rfl rfl rfl rfl rfl (by kernel_rfl) Tryz.func7 (by kernel_rfl)
    (of_decide_eq_true (by kernel_rfl)) (by unfold Func.isWrapper; first | (rw [if_pos (by decide +kernel)]; kernel_rfl) | (rw [if_neg (by decide +kernel)]; exact ⟨rfl, rfl⟩))
    (fun os started H enc _ => rcuFull_lifted os started H enc)

end Go.Proofs.YtdpkfahaojhkhaaGreat
