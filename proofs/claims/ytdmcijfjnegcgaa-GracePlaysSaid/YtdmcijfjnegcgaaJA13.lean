/-
  The region of GracePlays that draws its order and has its arguments in memory of its own.
  Conditions: what came in stands in its boxes.
-/
import Derived.Test.YtdmcijfjnegcgaaJA12
import Derived.Test.YtdmcijfjnegcgaaJA6
namespace Go.Proofs.Ytdmcijfjnegcgaa
set_option maxRecDepth 100000
open Go.RowKit Go.Shelf
attribute [local go_sem] Oper.semAt_some

/-- What it leaves. -/
structure GpO (B : World) (s : RdS) (g : GrS) (z7 z8 : Nat) (p7 : Option Addr) (c7 : Nat) (q7 : Option Addr) (d7 : Nat) (p8 : Option Addr) (c8 : Nat) (w : World) : Prop where
  rb : RBox w z7 s.now (.slice p7 s.ns.length c7) (.slice q7 s.os.length d7)
  gb : GBox w z8 g.done g.asked g.on (.slice p8 g.nd.length c8)
  ro : OwnR 0 s (.slice p7 s.ns.length c7) (.slice q7 s.os.length d7) w
  rg : w.ownsRow 0 4 1 (.slice p8 g.nd.length c8) g.nd.length (g.nd.map Value.bool)
  b : Below B.heap.size B w
theorem GpO.below {B : World} {s : RdS} {g : GrS} {z7 z8 : Nat} {p7 : Option Addr} {c7 : Nat} {q7 : Option Addr} {d7 : Nat} {p8 : Option Addr} {c8 : Nat} {w w' : World} (h : GpO B s g z7 z8 p7 c7 q7 d7 p8 c8 w) (hb : Below w.heap.size w w') : GpO B s g z7 z8 p7 c7 q7 d7 p8 c8 w' :=
  ⟨h.rb.below hb, h.gb.below hb, h.ro.below hb, owns_below h.rg hb, below_then h.b h.b.size hb⟩
def GpT (z3 : Nat) (now : Int) (p0 : Option Addr) (n0 c0 : Nat) (q0 : Option Addr) (m0 e0 : Nat) (d a : Int) (on : Bool) (pg : Option Addr) (ng cg : Nat) (w : World) : Prop := RBox w z3 now (.slice p0 n0 c0) (.slice q0 m0 e0) ∧ GBox w (z3 + 1) d a on (.slice pg ng cg)
noncomputable def gpOps : Array Oper := (regOps 3 (Try.f4.body.getD .skip)).getD #[]

set_option maxHeartbeats 32000000 in
theorem gp_reg3 (s : RdS) (g : GrS) (tp : Option Addr) (tn tc z3 : Nat) (now : Int) (p0 : Option Addr) (n0 c0 : Nat) (q0 : Option Addr) (m0 e0 : Nat) (d a : Int) (on : Bool) (pg : Option Addr) (ng cg : Nat) (wA : World) (hA : GpT z3 now p0 n0 c0 q0 m0 e0 d a on pg ng cg wA)
    (HR : ∀ Z : World, Below wA.heap.size wA Z → Calls Try.prog 22 #[.agg #[.int .i64 now, .slice p0 n0 c0, .slice q0 m0 e0]] Z fun e w' => GivesR Z.heap.size s e w' ∧ Below Z.heap.size Z w')
    (HO : ∀ Z : World, Below wA.heap.size wA Z → Calls Try.prog 9 #[.agg #[.int .i64 d, .int .i64 a, .bool on, .slice pg ng cg]] Z fun e w' => GivesG Z.heap.size g e w' ∧ Below Z.heap.size Z w')
    (ops : Array Oper) (hops : ops = gpOps) (Q : Exit → Act → World → Prop) (hQp : ∀ c (a : Act) i v w, Q (.panic c) (a.put i v) w → Q (.panic c) a w)
    (hQ : ∀ (z7 z8 : Nat) (p7 : Option Addr) (c7 : Nat) (q7 : Option Addr) (d7 : Nat) (p8 : Option Addr) (c8 : Nat) (X : World), GpO wA s g z7 z8 p7 c7 q7 d7 p8 c8 X → Q .normal { tmps := List.toArray (.agg #[.int .i64 now, .slice p0 n0 c0, .slice q0 m0 e0] :: .agg #[.int .i64 d, .int .i64 a, .bool on, .slice pg ng cg] :: .slice tp tn tc :: .pointer (some ⟨z3, 0, none⟩) :: .pointer (some ⟨z3 + 1, 0, none⟩) :: undef :: .bool false :: .pointer (some ⟨z7, 0, none⟩) :: .pointer (some ⟨z8, 0, none⟩) :: undef :: undef :: undef :: undef :: undef :: undef :: undef :: undef :: .bool true :: .bool false :: .agg #[.int .i64 now, .slice p0 n0 c0, .slice q0 m0 e0] :: .agg #[.int .i64 s.now, .slice p7 s.ns.length c7, .slice q7 s.os.length d7] :: .agg #[.int .i64 d, .int .i64 a, .bool on, .slice pg ng cg] :: .agg #[.int .i64 g.done, .int .i64 g.asked, .bool g.on, .slice p8 g.nd.length c8] :: undef :: undef :: undef :: undef :: undef :: undef :: undef :: undef :: undef :: undef :: undef :: undef :: undef :: undef :: undef :: undef :: undef :: undef :: undef :: undef :: undef :: undef :: undef :: undef :: undef :: undef :: undef :: undef :: undef :: undef :: undef :: undef :: undef :: undef :: undef :: undef :: undef :: undef :: undef :: undef :: undef :: undef :: undef :: undef :: undef :: undef :: undef :: undef :: undef :: undef :: undef :: undef :: undef :: undef :: undef :: undef :: undef :: undef :: undef :: undef :: undef :: undef :: undef :: undef :: undef :: undef :: undef :: []), defers := [] } X) :
    (Code.region 3 ops true).wp Try.prog Q { tmps := List.toArray (.agg #[.int .i64 now, .slice p0 n0 c0, .slice q0 m0 e0] :: .agg #[.int .i64 d, .int .i64 a, .bool on, .slice pg ng cg] :: .slice tp tn tc :: .pointer (some ⟨z3, 0, none⟩) :: .pointer (some ⟨z3 + 1, 0, none⟩) :: undef :: .bool false :: undef :: undef :: undef :: undef :: undef :: undef :: undef :: undef :: undef :: undef :: .bool true :: .bool false :: undef :: undef :: undef :: undef :: undef :: undef :: undef :: undef :: undef :: undef :: undef :: undef :: undef :: undef :: undef :: undef :: undef :: undef :: undef :: undef :: undef :: undef :: undef :: undef :: undef :: undef :: undef :: undef :: undef :: undef :: undef :: undef :: undef :: undef :: undef :: undef :: undef :: undef :: undef :: undef :: undef :: undef :: undef :: undef :: undef :: undef :: undef :: undef :: undef :: undef :: undef :: undef :: undef :: undef :: undef :: undef :: undef :: undef :: undef :: undef :: undef :: undef :: undef :: undef :: undef :: undef :: undef :: undef :: undef :: undef :: undef :: []), defers := [] } wA := by
  simp only [gpOps, Try.f4, Option.getD, regOps, reduceIte, Nat.reduceEqDiff] at hops
  have S_1_3_4_5 : ∀ (p7 : Option Addr) (c7 : Nat) (q7 : Option Addr) (d7 : Nat) (p8 : Option Addr) (c8 : Nat) (z7 : Nat) (z8 : Nat) (X : World) (fB : Below wA.heap.size wA X) (fO : OwnR 0 s (.slice p7 s.ns.length c7) (.slice q7 s.os.length d7) X) (fQ : X.ownsRow 0 4 1 (.slice p8 g.nd.length c8) g.nd.length (g.nd.map Value.bool)) (fR : RBox X z7 0 (.slice none 0 0) (.slice none 0 0)) (fRz : wA.heap.size ≤ z7) (fG : GBox X z8 0 0 false (.slice none 0 0)) (fGz : wA.heap.size ≤ z8), wpTwo Try.prog .any ops Q (GpT z3 now p0 n0 c0 q0 m0 e0 d a on pg ng cg) (fun _ => True) (fun _ => false) 2 #[true, true, true, true, true, true, false, false] { tmps := List.toArray (.agg #[.int .i64 now, .slice p0 n0 c0, .slice q0 m0 e0] :: .agg #[.int .i64 d, .int .i64 a, .bool on, .slice pg ng cg] :: .slice tp tn tc :: .pointer (some ⟨z3, 0, none⟩) :: .pointer (some ⟨z3 + 1, 0, none⟩) :: undef :: .bool false :: .pointer (some ⟨z7, 0, none⟩) :: .pointer (some ⟨z8, 0, none⟩) :: undef :: undef :: undef :: undef :: undef :: undef :: undef :: undef :: .bool true :: .bool false :: .agg #[.int .i64 now, .slice p0 n0 c0, .slice q0 m0 e0] :: .agg #[.int .i64 s.now, .slice p7 s.ns.length c7, .slice q7 s.os.length d7] :: .agg #[.int .i64 d, .int .i64 a, .bool on, .slice pg ng cg] :: .agg #[.int .i64 g.done, .int .i64 g.asked, .bool g.on, .slice p8 g.nd.length c8] :: undef :: undef :: undef :: undef :: undef :: undef :: undef :: undef :: undef :: undef :: undef :: undef :: undef :: undef :: undef :: undef :: undef :: undef :: undef :: undef :: undef :: undef :: undef :: undef :: undef :: undef :: undef :: undef :: undef :: undef :: undef :: undef :: undef :: undef :: undef :: undef :: undef :: undef :: undef :: undef :: undef :: undef :: undef :: undef :: undef :: undef :: undef :: undef :: undef :: undef :: undef :: undef :: undef :: undef :: undef :: undef :: undef :: undef :: undef :: undef :: undef :: undef :: undef :: undef :: undef :: undef :: undef :: []), defers := [] } X := by
    subst hops
    intro p7 c7 q7 d7 p8 c8 z7 z8 X fB fO fQ fR fRz fG fGz
    have hT := (show GpT z3 now p0 n0 c0 q0 m0 e0 d a on pg ng cg X from ⟨hA.1.below (fB), hA.2.below (fB)⟩)
    refine wpTwo_ready (rs := [6]) (by kernel_rfl) (by simp) ?_
    refine (AllTwo.cons rfl (fun K hK => ?_) AllTwo.nil)
    obtain ⟨d0, d1, d2⟩ := fR.cells
    have v0 := fR.marks 0
    have v1 := fR.marks 1
    have v2 := fR.marks 2
    obtain ⟨Xa, hXa⟩ : ∃ Y : World, Y = ((X.setCell ⟨z7, 0, none⟩ (.int .i64 s.now)).setCell ⟨z7, 1, none⟩ (.slice p7 s.ns.length c7)).setCell ⟨z7, 2, none⟩ (.slice q7 s.os.length d7) := ⟨_, rfl⟩
    have hka : Keeps (fun q => q = z7) X Xa := by rw [hXa]; exact RBox.putK X z7 _ _ _
    have hpa : RBox Xa z7 s.now (.slice p7 s.ns.length c7) (.slice q7 s.os.length d7) := by rw [hXa]; exact fR.put _ _ _
    have hba : Below wA.heap.size wA Xa := fB.trans (hka.below fB.size (fun k e => by omega))
    have hga : GBox Xa z8 0 0 false (.slice none 0 0) := fG.keeps hka (fun e => ne_of_types (show X.heap[z7]? = _ from fR) (show X.heap[z8]? = _ from fG) (by decide) e.symm)
    have hoa : OwnR 0 s (.slice p7 s.ns.length c7) (.slice q7 s.os.length d7) Xa := ⟨hka.row fO.1 (fun q hq e => ne_rowi (show X.heap[z7]? = _ from fR) (by decide) fO.1 hq e), hka.row fO.2 (fun q hq e => ne_rowi (show X.heap[z7]? = _ from fR) (by decide) fO.2 hq e)⟩
    have hqa := hka.row fQ (fun q hq e => by
      obtain ⟨c, f, h⟩ := Lib.ownsRow_kind fQ q hq
      exact ne_of_types (show X.heap[z7]? = _ from fR) h (by decide) e.symm)
    have hTa : (GpT z3 now p0 n0 c0 q0 m0 e0 d a on pg ng cg) Xa := (show GpT z3 now p0 n0 c0 q0 m0 e0 d a on pg ng cg Xa from ⟨hA.1.below (hba), hA.2.below (hba)⟩)
    go_simp
    rw [← hXa]
    refine hK.out _ _ ⟨hTa, fun _ _ => trivial⟩ ?_
    clear hK K d0 d1 d2 v0 v1 v2 hXa hT
    (try simp only [Act.put])
    refine wpTwo_ready (rs := [7]) (by kernel_rfl) (by simp) ?_
    refine (AllTwo.cons rfl (fun K hK => ?_) AllTwo.nil)
    obtain ⟨d0, d1, d2, d3⟩ := hga.cells
    have v0 := hga.marks 0
    have v1 := hga.marks 1
    have v2 := hga.marks 2
    have v3 := hga.marks 3
    obtain ⟨Xb, hXb⟩ : ∃ Y : World, Y = (((Xa.setCell ⟨z8, 0, none⟩ (.int .i64 g.done)).setCell ⟨z8, 1, none⟩ (.int .i64 g.asked)).setCell ⟨z8, 2, none⟩ (.bool g.on)).setCell ⟨z8, 3, none⟩ (.slice p8 g.nd.length c8) := ⟨_, rfl⟩
    have hkb : Keeps (fun q => q = z8) Xa Xb := by rw [hXb]; exact GBox.putK Xa z8 _ _ _ _
    have hpb : GBox Xb z8 g.done g.asked g.on (.slice p8 g.nd.length c8) := by rw [hXb]; exact hga.put _ _ _ _
    have hbb : Below wA.heap.size wA Xb := hba.trans (hkb.below hba.size (fun k e => by omega))
    have HFB : GpO wA s g z7 z8 p7 c7 q7 d7 p8 c8 Xb := ⟨hpa.keeps hkb (fun e => ne_of_types (show Xa.heap[z7]? = _ from hpa) (show Xa.heap[z8]? = _ from hga) (by decide) e), hpb, ⟨hkb.row hoa.1 (fun q hq e => ne_rowi (show Xa.heap[z8]? = _ from hga) (by decide) hoa.1 hq e), hkb.row hoa.2 (fun q hq e => ne_rowi (show Xa.heap[z8]? = _ from hga) (by decide) hoa.2 hq e)⟩, hkb.row hqa (fun q hq e => by
      obtain ⟨c, f, h⟩ := Lib.ownsRow_kind hqa q hq
      exact ne_of_types (show Xa.heap[z8]? = _ from hga) h (by decide) e.symm), hbb⟩
    have hTb : (GpT z3 now p0 n0 c0 q0 m0 e0 d a on pg ng cg) Xb := (show GpT z3 now p0 n0 c0 q0 m0 e0 d a on pg ng cg Xb from ⟨hA.1.below (hbb), hA.2.below (hbb)⟩)
    go_simp
    rw [← hXb]
    refine hK.out _ _ ⟨hTb, fun _ _ => trivial⟩ ?_
    clear hK K d0 d1 d2 d3 v0 v1 v2 v3 hXb hkb hpb hTa hga
    (try simp only [Act.put])
    refine wpTwo_end (by kernel_rfl) ?_ _
    exact hQ z7 z8 p7 c7 q7 d7 p8 c8 Xb HFB
  have S_1_3_4 : ∀ (p7 : Option Addr) (c7 : Nat) (q7 : Option Addr) (d7 : Nat) (p8 : Option Addr) (c8 : Nat) (z7 : Nat) (X : World) (fB : Below wA.heap.size wA X) (fO : OwnR 0 s (.slice p7 s.ns.length c7) (.slice q7 s.os.length d7) X) (fQ : X.ownsRow 0 4 1 (.slice p8 g.nd.length c8) g.nd.length (g.nd.map Value.bool)) (fR : RBox X z7 0 (.slice none 0 0) (.slice none 0 0)) (fRz : wA.heap.size ≤ z7), wpTwo Try.prog .any ops Q (GpT z3 now p0 n0 c0 q0 m0 e0 d a on pg ng cg) (fun _ => True) (fun _ => false) 3 #[true, true, true, true, true, false, false, false] { tmps := List.toArray (.agg #[.int .i64 now, .slice p0 n0 c0, .slice q0 m0 e0] :: .agg #[.int .i64 d, .int .i64 a, .bool on, .slice pg ng cg] :: .slice tp tn tc :: .pointer (some ⟨z3, 0, none⟩) :: .pointer (some ⟨z3 + 1, 0, none⟩) :: undef :: .bool false :: .pointer (some ⟨z7, 0, none⟩) :: undef :: undef :: undef :: undef :: undef :: undef :: undef :: undef :: undef :: .bool true :: .bool false :: .agg #[.int .i64 now, .slice p0 n0 c0, .slice q0 m0 e0] :: .agg #[.int .i64 s.now, .slice p7 s.ns.length c7, .slice q7 s.os.length d7] :: .agg #[.int .i64 d, .int .i64 a, .bool on, .slice pg ng cg] :: .agg #[.int .i64 g.done, .int .i64 g.asked, .bool g.on, .slice p8 g.nd.length c8] :: undef :: undef :: undef :: undef :: undef :: undef :: undef :: undef :: undef :: undef :: undef :: undef :: undef :: undef :: undef :: undef :: undef :: undef :: undef :: undef :: undef :: undef :: undef :: undef :: undef :: undef :: undef :: undef :: undef :: undef :: undef :: undef :: undef :: undef :: undef :: undef :: undef :: undef :: undef :: undef :: undef :: undef :: undef :: undef :: undef :: undef :: undef :: undef :: undef :: undef :: undef :: undef :: undef :: undef :: undef :: undef :: undef :: undef :: undef :: undef :: undef :: undef :: undef :: undef :: undef :: undef :: undef :: []), defers := [] } X := by
    subst hops
    intro p7 c7 q7 d7 p8 c8 z7 X fB fO fQ fR fRz
    have hT := (show GpT z3 now p0 n0 c0 q0 m0 e0 d a on pg ng cg X from ⟨hA.1.below (fB), hA.2.below (fB)⟩)
    refine wpTwo_ready (rs := [5]) (by kernel_rfl) (by simp) ?_
    refine (AllTwo.cons rfl (fun K hK => ?_) AllTwo.nil)
    · refine step_val rfl (v := .pointer (some ⟨X.heap.size, 0, none⟩)) (w' := X.alloc (.cells #[.int .i64 0, .int .i64 0, .bool false, .slice none 0 0] 24)) (by kernel_rfl) ?_
      obtain ⟨X1, hX⟩ : ∃ Y : World, Y = X.alloc (.cells #[.int .i64 0, .int .i64 0, .bool false, .slice none 0 0] 24) := ⟨_, rfl⟩
      rw [← hX]
      have hb : Below X.heap.size X X1 := by rw [hX]; exact below1 _ _
      have hT1 := (show GpT z3 now p0 n0 c0 q0 m0 e0 d a on pg ng cg X1 from ⟨hA.1.below ((below_then fB fB.size hb)), hA.2.below ((below_then fB fB.size hb))⟩)
      exact hK.out _ _ ⟨hT1, fun _ _ => trivial⟩ (S_1_3_4_5 p7 c7 q7 d7 p8 c8 z7 X.heap.size X1 (below_then fB fB.size hb) (fO.below hb) (owns_below fQ hb) (fR.below hb) (fRz) (by rw [hX]; exact GBox.new _ _ _ _ _) (fB.size))
  have S_1_3_5 : ∀ (p7 : Option Addr) (c7 : Nat) (q7 : Option Addr) (d7 : Nat) (p8 : Option Addr) (c8 : Nat) (z8 : Nat) (X : World) (fB : Below wA.heap.size wA X) (fO : OwnR 0 s (.slice p7 s.ns.length c7) (.slice q7 s.os.length d7) X) (fQ : X.ownsRow 0 4 1 (.slice p8 g.nd.length c8) g.nd.length (g.nd.map Value.bool)) (fG : GBox X z8 0 0 false (.slice none 0 0)) (fGz : wA.heap.size ≤ z8), wpTwo Try.prog .any ops Q (GpT z3 now p0 n0 c0 q0 m0 e0 d a on pg ng cg) (fun _ => True) (fun _ => false) 3 #[true, true, true, true, false, true, false, false] { tmps := List.toArray (.agg #[.int .i64 now, .slice p0 n0 c0, .slice q0 m0 e0] :: .agg #[.int .i64 d, .int .i64 a, .bool on, .slice pg ng cg] :: .slice tp tn tc :: .pointer (some ⟨z3, 0, none⟩) :: .pointer (some ⟨z3 + 1, 0, none⟩) :: undef :: .bool false :: undef :: .pointer (some ⟨z8, 0, none⟩) :: undef :: undef :: undef :: undef :: undef :: undef :: undef :: undef :: .bool true :: .bool false :: .agg #[.int .i64 now, .slice p0 n0 c0, .slice q0 m0 e0] :: .agg #[.int .i64 s.now, .slice p7 s.ns.length c7, .slice q7 s.os.length d7] :: .agg #[.int .i64 d, .int .i64 a, .bool on, .slice pg ng cg] :: .agg #[.int .i64 g.done, .int .i64 g.asked, .bool g.on, .slice p8 g.nd.length c8] :: undef :: undef :: undef :: undef :: undef :: undef :: undef :: undef :: undef :: undef :: undef :: undef :: undef :: undef :: undef :: undef :: undef :: undef :: undef :: undef :: undef :: undef :: undef :: undef :: undef :: undef :: undef :: undef :: undef :: undef :: undef :: undef :: undef :: undef :: undef :: undef :: undef :: undef :: undef :: undef :: undef :: undef :: undef :: undef :: undef :: undef :: undef :: undef :: undef :: undef :: undef :: undef :: undef :: undef :: undef :: undef :: undef :: undef :: undef :: undef :: undef :: undef :: undef :: undef :: undef :: undef :: undef :: []), defers := [] } X := by
    clear S_1_3_4
    subst hops
    intro p7 c7 q7 d7 p8 c8 z8 X fB fO fQ fG fGz
    have hT := (show GpT z3 now p0 n0 c0 q0 m0 e0 d a on pg ng cg X from ⟨hA.1.below (fB), hA.2.below (fB)⟩)
    refine wpTwo_ready (rs := [4]) (by kernel_rfl) (by simp) ?_
    refine (AllTwo.cons rfl (fun K hK => ?_) AllTwo.nil)
    · refine step_val rfl (v := .pointer (some ⟨X.heap.size, 0, none⟩)) (w' := X.alloc (.cells #[.int .i64 0, .slice none 0 0, .slice none 0 0] 45)) (by kernel_rfl) ?_
      obtain ⟨X1, hX⟩ : ∃ Y : World, Y = X.alloc (.cells #[.int .i64 0, .slice none 0 0, .slice none 0 0] 45) := ⟨_, rfl⟩
      rw [← hX]
      have hb : Below X.heap.size X X1 := by rw [hX]; exact below1 _ _
      have hT1 := (show GpT z3 now p0 n0 c0 q0 m0 e0 d a on pg ng cg X1 from ⟨hA.1.below ((below_then fB fB.size hb)), hA.2.below ((below_then fB fB.size hb))⟩)
      exact hK.out _ _ ⟨hT1, fun _ _ => trivial⟩ (S_1_3_4_5 p7 c7 q7 d7 p8 c8 X.heap.size z8 X1 (below_then fB fB.size hb) (fO.below hb) (owns_below fQ hb) (by rw [hX]; exact RBox.new _ _ _ _) (fB.size) (fG.below hb) (fGz))
  have S_1_4_5 : ∀ (p7 : Option Addr) (c7 : Nat) (q7 : Option Addr) (d7 : Nat) (z7 : Nat) (z8 : Nat) (X : World) (fB : Below wA.heap.size wA X) (fO : OwnR 0 s (.slice p7 s.ns.length c7) (.slice q7 s.os.length d7) X) (fR : RBox X z7 0 (.slice none 0 0) (.slice none 0 0)) (fRz : wA.heap.size ≤ z7) (fG : GBox X z8 0 0 false (.slice none 0 0)) (fGz : wA.heap.size ≤ z8), wpTwo Try.prog .any ops Q (GpT z3 now p0 n0 c0 q0 m0 e0 d a on pg ng cg) (fun _ => True) (fun _ => false) 3 #[true, true, true, false, true, true, false, false] { tmps := List.toArray (.agg #[.int .i64 now, .slice p0 n0 c0, .slice q0 m0 e0] :: .agg #[.int .i64 d, .int .i64 a, .bool on, .slice pg ng cg] :: .slice tp tn tc :: .pointer (some ⟨z3, 0, none⟩) :: .pointer (some ⟨z3 + 1, 0, none⟩) :: undef :: .bool false :: .pointer (some ⟨z7, 0, none⟩) :: .pointer (some ⟨z8, 0, none⟩) :: undef :: undef :: undef :: undef :: undef :: undef :: undef :: undef :: .bool true :: .bool false :: .agg #[.int .i64 now, .slice p0 n0 c0, .slice q0 m0 e0] :: .agg #[.int .i64 s.now, .slice p7 s.ns.length c7, .slice q7 s.os.length d7] :: .agg #[.int .i64 d, .int .i64 a, .bool on, .slice pg ng cg] :: undef :: undef :: undef :: undef :: undef :: undef :: undef :: undef :: undef :: undef :: undef :: undef :: undef :: undef :: undef :: undef :: undef :: undef :: undef :: undef :: undef :: undef :: undef :: undef :: undef :: undef :: undef :: undef :: undef :: undef :: undef :: undef :: undef :: undef :: undef :: undef :: undef :: undef :: undef :: undef :: undef :: undef :: undef :: undef :: undef :: undef :: undef :: undef :: undef :: undef :: undef :: undef :: undef :: undef :: undef :: undef :: undef :: undef :: undef :: undef :: undef :: undef :: undef :: undef :: undef :: undef :: undef :: undef :: []), defers := [] } X := by
    clear S_1_3_4 S_1_3_5
    subst hops
    intro p7 c7 q7 d7 z7 z8 X fB fO fR fRz fG fGz
    have hT := (show GpT z3 now p0 n0 c0 q0 m0 e0 d a on pg ng cg X from ⟨hA.1.below (fB), hA.2.below (fB)⟩)
    refine wpTwo_ready (rs := [3]) (by kernel_rfl) (by simp) ?_
    refine (AllTwo.cons rfl (fun K hK => ?_) AllTwo.nil)
    · refine step_ent rfl (f := 9) (args := #[.agg #[.int .i64 d, .int .i64 a, .bool on, .slice pg ng cg]]) (w' := X) (by kernel_rfl) (HO X fB) ?_
      rintro e X1 ⟨⟨p8, c8, rfl, ho⟩, hb⟩
      refine ⟨_, rfl, ?_⟩
      have hT1 := (show GpT z3 now p0 n0 c0 q0 m0 e0 d a on pg ng cg X1 from ⟨hA.1.below ((below_then fB fB.size hb)), hA.2.below ((below_then fB fB.size hb))⟩)
      exact hK.out _ _ ⟨hT1, fun _ _ => trivial⟩ (S_1_3_4_5 p7 c7 q7 d7 p8 c8 z7 z8 X1 (below_then fB fB.size hb) (fO.below hb) (ho.mono (Nat.zero_le _)) (fR.below hb) (fRz) (fG.below hb) (fGz))
  have S_1_3 : ∀ (p7 : Option Addr) (c7 : Nat) (q7 : Option Addr) (d7 : Nat) (p8 : Option Addr) (c8 : Nat) (X : World) (fB : Below wA.heap.size wA X) (fO : OwnR 0 s (.slice p7 s.ns.length c7) (.slice q7 s.os.length d7) X) (fQ : X.ownsRow 0 4 1 (.slice p8 g.nd.length c8) g.nd.length (g.nd.map Value.bool)), wpTwo Try.prog .any ops Q (GpT z3 now p0 n0 c0 q0 m0 e0 d a on pg ng cg) (fun _ => True) (fun _ => false) 4 #[true, true, true, true, false, false, false, false] { tmps := List.toArray (.agg #[.int .i64 now, .slice p0 n0 c0, .slice q0 m0 e0] :: .agg #[.int .i64 d, .int .i64 a, .bool on, .slice pg ng cg] :: .slice tp tn tc :: .pointer (some ⟨z3, 0, none⟩) :: .pointer (some ⟨z3 + 1, 0, none⟩) :: undef :: .bool false :: undef :: undef :: undef :: undef :: undef :: undef :: undef :: undef :: undef :: undef :: .bool true :: .bool false :: .agg #[.int .i64 now, .slice p0 n0 c0, .slice q0 m0 e0] :: .agg #[.int .i64 s.now, .slice p7 s.ns.length c7, .slice q7 s.os.length d7] :: .agg #[.int .i64 d, .int .i64 a, .bool on, .slice pg ng cg] :: .agg #[.int .i64 g.done, .int .i64 g.asked, .bool g.on, .slice p8 g.nd.length c8] :: undef :: undef :: undef :: undef :: undef :: undef :: undef :: undef :: undef :: undef :: undef :: undef :: undef :: undef :: undef :: undef :: undef :: undef :: undef :: undef :: undef :: undef :: undef :: undef :: undef :: undef :: undef :: undef :: undef :: undef :: undef :: undef :: undef :: undef :: undef :: undef :: undef :: undef :: undef :: undef :: undef :: undef :: undef :: undef :: undef :: undef :: undef :: undef :: undef :: undef :: undef :: undef :: undef :: undef :: undef :: undef :: undef :: undef :: undef :: undef :: undef :: undef :: undef :: undef :: undef :: undef :: undef :: []), defers := [] } X := by
    clear S_1_3_4_5 S_1_4_5
    subst hops
    intro p7 c7 q7 d7 p8 c8 X fB fO fQ
    have hT := (show GpT z3 now p0 n0 c0 q0 m0 e0 d a on pg ng cg X from ⟨hA.1.below (fB), hA.2.below (fB)⟩)
    refine wpTwo_ready (rs := [4, 5]) (by kernel_rfl) (by simp) ?_
    refine (AllTwo.cons rfl (fun K hK => ?_) (AllTwo.cons rfl (fun K hK => ?_) AllTwo.nil))
    · refine step_val rfl (v := .pointer (some ⟨X.heap.size, 0, none⟩)) (w' := X.alloc (.cells #[.int .i64 0, .slice none 0 0, .slice none 0 0] 45)) (by kernel_rfl) ?_
      obtain ⟨X1, hX⟩ : ∃ Y : World, Y = X.alloc (.cells #[.int .i64 0, .slice none 0 0, .slice none 0 0] 45) := ⟨_, rfl⟩
      rw [← hX]
      have hb : Below X.heap.size X X1 := by rw [hX]; exact below1 _ _
      have hT1 := (show GpT z3 now p0 n0 c0 q0 m0 e0 d a on pg ng cg X1 from ⟨hA.1.below ((below_then fB fB.size hb)), hA.2.below ((below_then fB fB.size hb))⟩)
      exact hK.out _ _ ⟨hT1, fun _ _ => trivial⟩ (S_1_3_4 p7 c7 q7 d7 p8 c8 X.heap.size X1 (below_then fB fB.size hb) (fO.below hb) (owns_below fQ hb) (by rw [hX]; exact RBox.new _ _ _ _) (fB.size))
    · refine step_val rfl (v := .pointer (some ⟨X.heap.size, 0, none⟩)) (w' := X.alloc (.cells #[.int .i64 0, .int .i64 0, .bool false, .slice none 0 0] 24)) (by kernel_rfl) ?_
      obtain ⟨X1, hX⟩ : ∃ Y : World, Y = X.alloc (.cells #[.int .i64 0, .int .i64 0, .bool false, .slice none 0 0] 24) := ⟨_, rfl⟩
      rw [← hX]
      have hb : Below X.heap.size X X1 := by rw [hX]; exact below1 _ _
      have hT1 := (show GpT z3 now p0 n0 c0 q0 m0 e0 d a on pg ng cg X1 from ⟨hA.1.below ((below_then fB fB.size hb)), hA.2.below ((below_then fB fB.size hb))⟩)
      exact hK.out _ _ ⟨hT1, fun _ _ => trivial⟩ (S_1_3_5 p7 c7 q7 d7 p8 c8 X.heap.size X1 (below_then fB fB.size hb) (fO.below hb) (owns_below fQ hb) (by rw [hX]; exact GBox.new _ _ _ _ _) (fB.size))
  have S_1_4 : ∀ (p7 : Option Addr) (c7 : Nat) (q7 : Option Addr) (d7 : Nat) (z7 : Nat) (X : World) (fB : Below wA.heap.size wA X) (fO : OwnR 0 s (.slice p7 s.ns.length c7) (.slice q7 s.os.length d7) X) (fR : RBox X z7 0 (.slice none 0 0) (.slice none 0 0)) (fRz : wA.heap.size ≤ z7), wpTwo Try.prog .any ops Q (GpT z3 now p0 n0 c0 q0 m0 e0 d a on pg ng cg) (fun _ => True) (fun _ => false) 4 #[true, true, true, false, true, false, false, false] { tmps := List.toArray (.agg #[.int .i64 now, .slice p0 n0 c0, .slice q0 m0 e0] :: .agg #[.int .i64 d, .int .i64 a, .bool on, .slice pg ng cg] :: .slice tp tn tc :: .pointer (some ⟨z3, 0, none⟩) :: .pointer (some ⟨z3 + 1, 0, none⟩) :: undef :: .bool false :: .pointer (some ⟨z7, 0, none⟩) :: undef :: undef :: undef :: undef :: undef :: undef :: undef :: undef :: undef :: .bool true :: .bool false :: .agg #[.int .i64 now, .slice p0 n0 c0, .slice q0 m0 e0] :: .agg #[.int .i64 s.now, .slice p7 s.ns.length c7, .slice q7 s.os.length d7] :: .agg #[.int .i64 d, .int .i64 a, .bool on, .slice pg ng cg] :: undef :: undef :: undef :: undef :: undef :: undef :: undef :: undef :: undef :: undef :: undef :: undef :: undef :: undef :: undef :: undef :: undef :: undef :: undef :: undef :: undef :: undef :: undef :: undef :: undef :: undef :: undef :: undef :: undef :: undef :: undef :: undef :: undef :: undef :: undef :: undef :: undef :: undef :: undef :: undef :: undef :: undef :: undef :: undef :: undef :: undef :: undef :: undef :: undef :: undef :: undef :: undef :: undef :: undef :: undef :: undef :: undef :: undef :: undef :: undef :: undef :: undef :: undef :: undef :: undef :: undef :: undef :: undef :: []), defers := [] } X := by
    clear S_1_3_4_5 S_1_3_5 S_1_3
    subst hops
    intro p7 c7 q7 d7 z7 X fB fO fR fRz
    have hT := (show GpT z3 now p0 n0 c0 q0 m0 e0 d a on pg ng cg X from ⟨hA.1.below (fB), hA.2.below (fB)⟩)
    refine wpTwo_ready (rs := [3, 5]) (by kernel_rfl) (by simp) ?_
    refine (AllTwo.cons rfl (fun K hK => ?_) (AllTwo.cons rfl (fun K hK => ?_) AllTwo.nil))
    · refine step_ent rfl (f := 9) (args := #[.agg #[.int .i64 d, .int .i64 a, .bool on, .slice pg ng cg]]) (w' := X) (by kernel_rfl) (HO X fB) ?_
      rintro e X1 ⟨⟨p8, c8, rfl, ho⟩, hb⟩
      refine ⟨_, rfl, ?_⟩
      have hT1 := (show GpT z3 now p0 n0 c0 q0 m0 e0 d a on pg ng cg X1 from ⟨hA.1.below ((below_then fB fB.size hb)), hA.2.below ((below_then fB fB.size hb))⟩)
      exact hK.out _ _ ⟨hT1, fun _ _ => trivial⟩ (S_1_3_4 p7 c7 q7 d7 p8 c8 z7 X1 (below_then fB fB.size hb) (fO.below hb) (ho.mono (Nat.zero_le _)) (fR.below hb) (fRz))
    · refine step_val rfl (v := .pointer (some ⟨X.heap.size, 0, none⟩)) (w' := X.alloc (.cells #[.int .i64 0, .int .i64 0, .bool false, .slice none 0 0] 24)) (by kernel_rfl) ?_
      obtain ⟨X1, hX⟩ : ∃ Y : World, Y = X.alloc (.cells #[.int .i64 0, .int .i64 0, .bool false, .slice none 0 0] 24) := ⟨_, rfl⟩
      rw [← hX]
      have hb : Below X.heap.size X X1 := by rw [hX]; exact below1 _ _
      have hT1 := (show GpT z3 now p0 n0 c0 q0 m0 e0 d a on pg ng cg X1 from ⟨hA.1.below ((below_then fB fB.size hb)), hA.2.below ((below_then fB fB.size hb))⟩)
      exact hK.out _ _ ⟨hT1, fun _ _ => trivial⟩ (S_1_4_5 p7 c7 q7 d7 z7 X.heap.size X1 (below_then fB fB.size hb) (fO.below hb) (fR.below hb) (fRz) (by rw [hX]; exact GBox.new _ _ _ _ _) (fB.size))
  have S_1_5 : ∀ (p7 : Option Addr) (c7 : Nat) (q7 : Option Addr) (d7 : Nat) (z8 : Nat) (X : World) (fB : Below wA.heap.size wA X) (fO : OwnR 0 s (.slice p7 s.ns.length c7) (.slice q7 s.os.length d7) X) (fG : GBox X z8 0 0 false (.slice none 0 0)) (fGz : wA.heap.size ≤ z8), wpTwo Try.prog .any ops Q (GpT z3 now p0 n0 c0 q0 m0 e0 d a on pg ng cg) (fun _ => True) (fun _ => false) 4 #[true, true, true, false, false, true, false, false] { tmps := List.toArray (.agg #[.int .i64 now, .slice p0 n0 c0, .slice q0 m0 e0] :: .agg #[.int .i64 d, .int .i64 a, .bool on, .slice pg ng cg] :: .slice tp tn tc :: .pointer (some ⟨z3, 0, none⟩) :: .pointer (some ⟨z3 + 1, 0, none⟩) :: undef :: .bool false :: undef :: .pointer (some ⟨z8, 0, none⟩) :: undef :: undef :: undef :: undef :: undef :: undef :: undef :: undef :: .bool true :: .bool false :: .agg #[.int .i64 now, .slice p0 n0 c0, .slice q0 m0 e0] :: .agg #[.int .i64 s.now, .slice p7 s.ns.length c7, .slice q7 s.os.length d7] :: .agg #[.int .i64 d, .int .i64 a, .bool on, .slice pg ng cg] :: undef :: undef :: undef :: undef :: undef :: undef :: undef :: undef :: undef :: undef :: undef :: undef :: undef :: undef :: undef :: undef :: undef :: undef :: undef :: undef :: undef :: undef :: undef :: undef :: undef :: undef :: undef :: undef :: undef :: undef :: undef :: undef :: undef :: undef :: undef :: undef :: undef :: undef :: undef :: undef :: undef :: undef :: undef :: undef :: undef :: undef :: undef :: undef :: undef :: undef :: undef :: undef :: undef :: undef :: undef :: undef :: undef :: undef :: undef :: undef :: undef :: undef :: undef :: undef :: undef :: undef :: undef :: undef :: []), defers := [] } X := by
    clear S_1_3_4_5 S_1_3_4 S_1_3 S_1_4
    subst hops
    intro p7 c7 q7 d7 z8 X fB fO fG fGz
    have hT := (show GpT z3 now p0 n0 c0 q0 m0 e0 d a on pg ng cg X from ⟨hA.1.below (fB), hA.2.below (fB)⟩)
    refine wpTwo_ready (rs := [3, 4]) (by kernel_rfl) (by simp) ?_
    refine (AllTwo.cons rfl (fun K hK => ?_) (AllTwo.cons rfl (fun K hK => ?_) AllTwo.nil))
    · refine step_ent rfl (f := 9) (args := #[.agg #[.int .i64 d, .int .i64 a, .bool on, .slice pg ng cg]]) (w' := X) (by kernel_rfl) (HO X fB) ?_
      rintro e X1 ⟨⟨p8, c8, rfl, ho⟩, hb⟩
      refine ⟨_, rfl, ?_⟩
      have hT1 := (show GpT z3 now p0 n0 c0 q0 m0 e0 d a on pg ng cg X1 from ⟨hA.1.below ((below_then fB fB.size hb)), hA.2.below ((below_then fB fB.size hb))⟩)
      exact hK.out _ _ ⟨hT1, fun _ _ => trivial⟩ (S_1_3_5 p7 c7 q7 d7 p8 c8 z8 X1 (below_then fB fB.size hb) (fO.below hb) (ho.mono (Nat.zero_le _)) (fG.below hb) (fGz))
    · refine step_val rfl (v := .pointer (some ⟨X.heap.size, 0, none⟩)) (w' := X.alloc (.cells #[.int .i64 0, .slice none 0 0, .slice none 0 0] 45)) (by kernel_rfl) ?_
      obtain ⟨X1, hX⟩ : ∃ Y : World, Y = X.alloc (.cells #[.int .i64 0, .slice none 0 0, .slice none 0 0] 45) := ⟨_, rfl⟩
      rw [← hX]
      have hb : Below X.heap.size X X1 := by rw [hX]; exact below1 _ _
      have hT1 := (show GpT z3 now p0 n0 c0 q0 m0 e0 d a on pg ng cg X1 from ⟨hA.1.below ((below_then fB fB.size hb)), hA.2.below ((below_then fB fB.size hb))⟩)
      exact hK.out _ _ ⟨hT1, fun _ _ => trivial⟩ (S_1_4_5 p7 c7 q7 d7 X.heap.size z8 X1 (below_then fB fB.size hb) (fO.below hb) (by rw [hX]; exact RBox.new _ _ _ _) (fB.size) (fG.below hb) (fGz))
  have S_4_5 : ∀ (z7 : Nat) (z8 : Nat) (X : World) (fB : Below wA.heap.size wA X) (fR : RBox X z7 0 (.slice none 0 0) (.slice none 0 0)) (fRz : wA.heap.size ≤ z7) (fG : GBox X z8 0 0 false (.slice none 0 0)) (fGz : wA.heap.size ≤ z8), wpTwo Try.prog .any ops Q (GpT z3 now p0 n0 c0 q0 m0 e0 d a on pg ng cg) (fun _ => True) (fun _ => false) 4 #[true, false, true, false, true, true, false, false] { tmps := List.toArray (.agg #[.int .i64 now, .slice p0 n0 c0, .slice q0 m0 e0] :: .agg #[.int .i64 d, .int .i64 a, .bool on, .slice pg ng cg] :: .slice tp tn tc :: .pointer (some ⟨z3, 0, none⟩) :: .pointer (some ⟨z3 + 1, 0, none⟩) :: undef :: .bool false :: .pointer (some ⟨z7, 0, none⟩) :: .pointer (some ⟨z8, 0, none⟩) :: undef :: undef :: undef :: undef :: undef :: undef :: undef :: undef :: .bool true :: .bool false :: .agg #[.int .i64 now, .slice p0 n0 c0, .slice q0 m0 e0] :: undef :: .agg #[.int .i64 d, .int .i64 a, .bool on, .slice pg ng cg] :: undef :: undef :: undef :: undef :: undef :: undef :: undef :: undef :: undef :: undef :: undef :: undef :: undef :: undef :: undef :: undef :: undef :: undef :: undef :: undef :: undef :: undef :: undef :: undef :: undef :: undef :: undef :: undef :: undef :: undef :: undef :: undef :: undef :: undef :: undef :: undef :: undef :: undef :: undef :: undef :: undef :: undef :: undef :: undef :: undef :: undef :: undef :: undef :: undef :: undef :: undef :: undef :: undef :: undef :: undef :: undef :: undef :: undef :: undef :: undef :: undef :: undef :: undef :: undef :: undef :: undef :: undef :: undef :: []), defers := [] } X := by
    clear S_1_3_4_5 S_1_3_4 S_1_3_5 S_1_3 S_1_4 S_1_5
    subst hops
    intro z7 z8 X fB fR fRz fG fGz
    have hT := (show GpT z3 now p0 n0 c0 q0 m0 e0 d a on pg ng cg X from ⟨hA.1.below (fB), hA.2.below (fB)⟩)
    refine wpTwo_ready (rs := [1]) (by kernel_rfl) (by simp) ?_
    refine (AllTwo.cons rfl (fun K hK => ?_) AllTwo.nil)
    · refine step_ent rfl (f := 22) (args := #[.agg #[.int .i64 now, .slice p0 n0 c0, .slice q0 m0 e0]]) (w' := X) (by kernel_rfl) (HR X fB) ?_
      rintro e X1 ⟨⟨p7, c7, q7, d7, rfl, ho⟩, hb⟩
      refine ⟨_, rfl, ?_⟩
      have hT1 := (show GpT z3 now p0 n0 c0 q0 m0 e0 d a on pg ng cg X1 from ⟨hA.1.below ((below_then fB fB.size hb)), hA.2.below ((below_then fB fB.size hb))⟩)
      exact hK.out _ _ ⟨hT1, fun _ _ => trivial⟩ (S_1_4_5 p7 c7 q7 d7 z7 z8 X1 (below_then fB fB.size hb) (⟨ho.1.mono (Nat.zero_le _), ho.2.mono (Nat.zero_le _)⟩) (fR.below hb) (fRz) (fG.below hb) (fGz))
  have S_1 : ∀ (p7 : Option Addr) (c7 : Nat) (q7 : Option Addr) (d7 : Nat) (X : World) (fB : Below wA.heap.size wA X) (fO : OwnR 0 s (.slice p7 s.ns.length c7) (.slice q7 s.os.length d7) X), wpTwo Try.prog .any ops Q (GpT z3 now p0 n0 c0 q0 m0 e0 d a on pg ng cg) (fun _ => True) (fun _ => false) 5 #[true, true, true, false, false, false, false, false] { tmps := List.toArray (.agg #[.int .i64 now, .slice p0 n0 c0, .slice q0 m0 e0] :: .agg #[.int .i64 d, .int .i64 a, .bool on, .slice pg ng cg] :: .slice tp tn tc :: .pointer (some ⟨z3, 0, none⟩) :: .pointer (some ⟨z3 + 1, 0, none⟩) :: undef :: .bool false :: undef :: undef :: undef :: undef :: undef :: undef :: undef :: undef :: undef :: undef :: .bool true :: .bool false :: .agg #[.int .i64 now, .slice p0 n0 c0, .slice q0 m0 e0] :: .agg #[.int .i64 s.now, .slice p7 s.ns.length c7, .slice q7 s.os.length d7] :: .agg #[.int .i64 d, .int .i64 a, .bool on, .slice pg ng cg] :: undef :: undef :: undef :: undef :: undef :: undef :: undef :: undef :: undef :: undef :: undef :: undef :: undef :: undef :: undef :: undef :: undef :: undef :: undef :: undef :: undef :: undef :: undef :: undef :: undef :: undef :: undef :: undef :: undef :: undef :: undef :: undef :: undef :: undef :: undef :: undef :: undef :: undef :: undef :: undef :: undef :: undef :: undef :: undef :: undef :: undef :: undef :: undef :: undef :: undef :: undef :: undef :: undef :: undef :: undef :: undef :: undef :: undef :: undef :: undef :: undef :: undef :: undef :: undef :: undef :: undef :: undef :: undef :: []), defers := [] } X := by
    clear S_1_3_4_5 S_1_3_4 S_1_3_5 S_1_4_5 S_4_5
    subst hops
    intro p7 c7 q7 d7 X fB fO
    have hT := (show GpT z3 now p0 n0 c0 q0 m0 e0 d a on pg ng cg X from ⟨hA.1.below (fB), hA.2.below (fB)⟩)
    refine wpTwo_ready (rs := [3, 4, 5]) (by kernel_rfl) (by simp) ?_
    refine (AllTwo.cons rfl (fun K hK => ?_) (AllTwo.cons rfl (fun K hK => ?_) (AllTwo.cons rfl (fun K hK => ?_) AllTwo.nil)))
    · refine step_ent rfl (f := 9) (args := #[.agg #[.int .i64 d, .int .i64 a, .bool on, .slice pg ng cg]]) (w' := X) (by kernel_rfl) (HO X fB) ?_
      rintro e X1 ⟨⟨p8, c8, rfl, ho⟩, hb⟩
      refine ⟨_, rfl, ?_⟩
      have hT1 := (show GpT z3 now p0 n0 c0 q0 m0 e0 d a on pg ng cg X1 from ⟨hA.1.below ((below_then fB fB.size hb)), hA.2.below ((below_then fB fB.size hb))⟩)
      exact hK.out _ _ ⟨hT1, fun _ _ => trivial⟩ (S_1_3 p7 c7 q7 d7 p8 c8 X1 (below_then fB fB.size hb) (fO.below hb) (ho.mono (Nat.zero_le _)))
    · refine step_val rfl (v := .pointer (some ⟨X.heap.size, 0, none⟩)) (w' := X.alloc (.cells #[.int .i64 0, .slice none 0 0, .slice none 0 0] 45)) (by kernel_rfl) ?_
      obtain ⟨X1, hX⟩ : ∃ Y : World, Y = X.alloc (.cells #[.int .i64 0, .slice none 0 0, .slice none 0 0] 45) := ⟨_, rfl⟩
      rw [← hX]
      have hb : Below X.heap.size X X1 := by rw [hX]; exact below1 _ _
      have hT1 := (show GpT z3 now p0 n0 c0 q0 m0 e0 d a on pg ng cg X1 from ⟨hA.1.below ((below_then fB fB.size hb)), hA.2.below ((below_then fB fB.size hb))⟩)
      exact hK.out _ _ ⟨hT1, fun _ _ => trivial⟩ (S_1_4 p7 c7 q7 d7 X.heap.size X1 (below_then fB fB.size hb) (fO.below hb) (by rw [hX]; exact RBox.new _ _ _ _) (fB.size))
    · refine step_val rfl (v := .pointer (some ⟨X.heap.size, 0, none⟩)) (w' := X.alloc (.cells #[.int .i64 0, .int .i64 0, .bool false, .slice none 0 0] 24)) (by kernel_rfl) ?_
      obtain ⟨X1, hX⟩ : ∃ Y : World, Y = X.alloc (.cells #[.int .i64 0, .int .i64 0, .bool false, .slice none 0 0] 24) := ⟨_, rfl⟩
      rw [← hX]
      have hb : Below X.heap.size X X1 := by rw [hX]; exact below1 _ _
      have hT1 := (show GpT z3 now p0 n0 c0 q0 m0 e0 d a on pg ng cg X1 from ⟨hA.1.below ((below_then fB fB.size hb)), hA.2.below ((below_then fB fB.size hb))⟩)
      exact hK.out _ _ ⟨hT1, fun _ _ => trivial⟩ (S_1_5 p7 c7 q7 d7 X.heap.size X1 (below_then fB fB.size hb) (fO.below hb) (by rw [hX]; exact GBox.new _ _ _ _ _) (fB.size))
  have S_4 : ∀ (z7 : Nat) (X : World) (fB : Below wA.heap.size wA X) (fR : RBox X z7 0 (.slice none 0 0) (.slice none 0 0)) (fRz : wA.heap.size ≤ z7), wpTwo Try.prog .any ops Q (GpT z3 now p0 n0 c0 q0 m0 e0 d a on pg ng cg) (fun _ => True) (fun _ => false) 5 #[true, false, true, false, true, false, false, false] { tmps := List.toArray (.agg #[.int .i64 now, .slice p0 n0 c0, .slice q0 m0 e0] :: .agg #[.int .i64 d, .int .i64 a, .bool on, .slice pg ng cg] :: .slice tp tn tc :: .pointer (some ⟨z3, 0, none⟩) :: .pointer (some ⟨z3 + 1, 0, none⟩) :: undef :: .bool false :: .pointer (some ⟨z7, 0, none⟩) :: undef :: undef :: undef :: undef :: undef :: undef :: undef :: undef :: undef :: .bool true :: .bool false :: .agg #[.int .i64 now, .slice p0 n0 c0, .slice q0 m0 e0] :: undef :: .agg #[.int .i64 d, .int .i64 a, .bool on, .slice pg ng cg] :: undef :: undef :: undef :: undef :: undef :: undef :: undef :: undef :: undef :: undef :: undef :: undef :: undef :: undef :: undef :: undef :: undef :: undef :: undef :: undef :: undef :: undef :: undef :: undef :: undef :: undef :: undef :: undef :: undef :: undef :: undef :: undef :: undef :: undef :: undef :: undef :: undef :: undef :: undef :: undef :: undef :: undef :: undef :: undef :: undef :: undef :: undef :: undef :: undef :: undef :: undef :: undef :: undef :: undef :: undef :: undef :: undef :: undef :: undef :: undef :: undef :: undef :: undef :: undef :: undef :: undef :: undef :: undef :: []), defers := [] } X := by
    clear S_1_3_4_5 S_1_3_4 S_1_3_5 S_1_4_5 S_1_3 S_1_5 S_1
    subst hops
    intro z7 X fB fR fRz
    have hT := (show GpT z3 now p0 n0 c0 q0 m0 e0 d a on pg ng cg X from ⟨hA.1.below (fB), hA.2.below (fB)⟩)
    refine wpTwo_ready (rs := [1, 5]) (by kernel_rfl) (by simp) ?_
    refine (AllTwo.cons rfl (fun K hK => ?_) (AllTwo.cons rfl (fun K hK => ?_) AllTwo.nil))
    · refine step_ent rfl (f := 22) (args := #[.agg #[.int .i64 now, .slice p0 n0 c0, .slice q0 m0 e0]]) (w' := X) (by kernel_rfl) (HR X fB) ?_
      rintro e X1 ⟨⟨p7, c7, q7, d7, rfl, ho⟩, hb⟩
      refine ⟨_, rfl, ?_⟩
      have hT1 := (show GpT z3 now p0 n0 c0 q0 m0 e0 d a on pg ng cg X1 from ⟨hA.1.below ((below_then fB fB.size hb)), hA.2.below ((below_then fB fB.size hb))⟩)
      exact hK.out _ _ ⟨hT1, fun _ _ => trivial⟩ (S_1_4 p7 c7 q7 d7 z7 X1 (below_then fB fB.size hb) (⟨ho.1.mono (Nat.zero_le _), ho.2.mono (Nat.zero_le _)⟩) (fR.below hb) (fRz))
    · refine step_val rfl (v := .pointer (some ⟨X.heap.size, 0, none⟩)) (w' := X.alloc (.cells #[.int .i64 0, .int .i64 0, .bool false, .slice none 0 0] 24)) (by kernel_rfl) ?_
      obtain ⟨X1, hX⟩ : ∃ Y : World, Y = X.alloc (.cells #[.int .i64 0, .int .i64 0, .bool false, .slice none 0 0] 24) := ⟨_, rfl⟩
      rw [← hX]
      have hb : Below X.heap.size X X1 := by rw [hX]; exact below1 _ _
      have hT1 := (show GpT z3 now p0 n0 c0 q0 m0 e0 d a on pg ng cg X1 from ⟨hA.1.below ((below_then fB fB.size hb)), hA.2.below ((below_then fB fB.size hb))⟩)
      exact hK.out _ _ ⟨hT1, fun _ _ => trivial⟩ (S_4_5 z7 X.heap.size X1 (below_then fB fB.size hb) (fR.below hb) (fRz) (by rw [hX]; exact GBox.new _ _ _ _ _) (fB.size))
  have S_5 : ∀ (z8 : Nat) (X : World) (fB : Below wA.heap.size wA X) (fG : GBox X z8 0 0 false (.slice none 0 0)) (fGz : wA.heap.size ≤ z8), wpTwo Try.prog .any ops Q (GpT z3 now p0 n0 c0 q0 m0 e0 d a on pg ng cg) (fun _ => True) (fun _ => false) 5 #[true, false, true, false, false, true, false, false] { tmps := List.toArray (.agg #[.int .i64 now, .slice p0 n0 c0, .slice q0 m0 e0] :: .agg #[.int .i64 d, .int .i64 a, .bool on, .slice pg ng cg] :: .slice tp tn tc :: .pointer (some ⟨z3, 0, none⟩) :: .pointer (some ⟨z3 + 1, 0, none⟩) :: undef :: .bool false :: undef :: .pointer (some ⟨z8, 0, none⟩) :: undef :: undef :: undef :: undef :: undef :: undef :: undef :: undef :: .bool true :: .bool false :: .agg #[.int .i64 now, .slice p0 n0 c0, .slice q0 m0 e0] :: undef :: .agg #[.int .i64 d, .int .i64 a, .bool on, .slice pg ng cg] :: undef :: undef :: undef :: undef :: undef :: undef :: undef :: undef :: undef :: undef :: undef :: undef :: undef :: undef :: undef :: undef :: undef :: undef :: undef :: undef :: undef :: undef :: undef :: undef :: undef :: undef :: undef :: undef :: undef :: undef :: undef :: undef :: undef :: undef :: undef :: undef :: undef :: undef :: undef :: undef :: undef :: undef :: undef :: undef :: undef :: undef :: undef :: undef :: undef :: undef :: undef :: undef :: undef :: undef :: undef :: undef :: undef :: undef :: undef :: undef :: undef :: undef :: undef :: undef :: undef :: undef :: undef :: undef :: []), defers := [] } X := by
    clear S_1_3_4_5 S_1_3_4 S_1_3_5 S_1_4_5 S_1_3 S_1_4 S_1 S_4
    subst hops
    intro z8 X fB fG fGz
    have hT := (show GpT z3 now p0 n0 c0 q0 m0 e0 d a on pg ng cg X from ⟨hA.1.below (fB), hA.2.below (fB)⟩)
    refine wpTwo_ready (rs := [1, 4]) (by kernel_rfl) (by simp) ?_
    refine (AllTwo.cons rfl (fun K hK => ?_) (AllTwo.cons rfl (fun K hK => ?_) AllTwo.nil))
    · refine step_ent rfl (f := 22) (args := #[.agg #[.int .i64 now, .slice p0 n0 c0, .slice q0 m0 e0]]) (w' := X) (by kernel_rfl) (HR X fB) ?_
      rintro e X1 ⟨⟨p7, c7, q7, d7, rfl, ho⟩, hb⟩
      refine ⟨_, rfl, ?_⟩
      have hT1 := (show GpT z3 now p0 n0 c0 q0 m0 e0 d a on pg ng cg X1 from ⟨hA.1.below ((below_then fB fB.size hb)), hA.2.below ((below_then fB fB.size hb))⟩)
      exact hK.out _ _ ⟨hT1, fun _ _ => trivial⟩ (S_1_5 p7 c7 q7 d7 z8 X1 (below_then fB fB.size hb) (⟨ho.1.mono (Nat.zero_le _), ho.2.mono (Nat.zero_le _)⟩) (fG.below hb) (fGz))
    · refine step_val rfl (v := .pointer (some ⟨X.heap.size, 0, none⟩)) (w' := X.alloc (.cells #[.int .i64 0, .slice none 0 0, .slice none 0 0] 45)) (by kernel_rfl) ?_
      obtain ⟨X1, hX⟩ : ∃ Y : World, Y = X.alloc (.cells #[.int .i64 0, .slice none 0 0, .slice none 0 0] 45) := ⟨_, rfl⟩
      rw [← hX]
      have hb : Below X.heap.size X X1 := by rw [hX]; exact below1 _ _
      have hT1 := (show GpT z3 now p0 n0 c0 q0 m0 e0 d a on pg ng cg X1 from ⟨hA.1.below ((below_then fB fB.size hb)), hA.2.below ((below_then fB fB.size hb))⟩)
      exact hK.out _ _ ⟨hT1, fun _ _ => trivial⟩ (S_4_5 X.heap.size z8 X1 (below_then fB fB.size hb) (by rw [hX]; exact RBox.new _ _ _ _) (fB.size) (fG.below hb) (fGz))
  have S_o : ∀  (X : World) (fB : Below wA.heap.size wA X), wpTwo Try.prog .any ops Q (GpT z3 now p0 n0 c0 q0 m0 e0 d a on pg ng cg) (fun _ => True) (fun _ => false) 6 #[true, false, true, false, false, false, false, false] { tmps := List.toArray (.agg #[.int .i64 now, .slice p0 n0 c0, .slice q0 m0 e0] :: .agg #[.int .i64 d, .int .i64 a, .bool on, .slice pg ng cg] :: .slice tp tn tc :: .pointer (some ⟨z3, 0, none⟩) :: .pointer (some ⟨z3 + 1, 0, none⟩) :: undef :: .bool false :: undef :: undef :: undef :: undef :: undef :: undef :: undef :: undef :: undef :: undef :: .bool true :: .bool false :: .agg #[.int .i64 now, .slice p0 n0 c0, .slice q0 m0 e0] :: undef :: .agg #[.int .i64 d, .int .i64 a, .bool on, .slice pg ng cg] :: undef :: undef :: undef :: undef :: undef :: undef :: undef :: undef :: undef :: undef :: undef :: undef :: undef :: undef :: undef :: undef :: undef :: undef :: undef :: undef :: undef :: undef :: undef :: undef :: undef :: undef :: undef :: undef :: undef :: undef :: undef :: undef :: undef :: undef :: undef :: undef :: undef :: undef :: undef :: undef :: undef :: undef :: undef :: undef :: undef :: undef :: undef :: undef :: undef :: undef :: undef :: undef :: undef :: undef :: undef :: undef :: undef :: undef :: undef :: undef :: undef :: undef :: undef :: undef :: undef :: undef :: undef :: undef :: []), defers := [] } X := by
    clear S_1_3_4_5 S_1_3_4 S_1_3_5 S_1_4_5 S_1_3 S_1_4 S_1_5 S_4_5
    subst hops
    intro X fB
    have hT := (show GpT z3 now p0 n0 c0 q0 m0 e0 d a on pg ng cg X from ⟨hA.1.below (fB), hA.2.below (fB)⟩)
    refine wpTwo_ready (rs := [1, 4, 5]) (by kernel_rfl) (by simp) ?_
    refine (AllTwo.cons rfl (fun K hK => ?_) (AllTwo.cons rfl (fun K hK => ?_) (AllTwo.cons rfl (fun K hK => ?_) AllTwo.nil)))
    · refine step_ent rfl (f := 22) (args := #[.agg #[.int .i64 now, .slice p0 n0 c0, .slice q0 m0 e0]]) (w' := X) (by kernel_rfl) (HR X fB) ?_
      rintro e X1 ⟨⟨p7, c7, q7, d7, rfl, ho⟩, hb⟩
      refine ⟨_, rfl, ?_⟩
      have hT1 := (show GpT z3 now p0 n0 c0 q0 m0 e0 d a on pg ng cg X1 from ⟨hA.1.below ((below_then fB fB.size hb)), hA.2.below ((below_then fB fB.size hb))⟩)
      exact hK.out _ _ ⟨hT1, fun _ _ => trivial⟩ (S_1 p7 c7 q7 d7 X1 (below_then fB fB.size hb) (⟨ho.1.mono (Nat.zero_le _), ho.2.mono (Nat.zero_le _)⟩))
    · refine step_val rfl (v := .pointer (some ⟨X.heap.size, 0, none⟩)) (w' := X.alloc (.cells #[.int .i64 0, .slice none 0 0, .slice none 0 0] 45)) (by kernel_rfl) ?_
      obtain ⟨X1, hX⟩ : ∃ Y : World, Y = X.alloc (.cells #[.int .i64 0, .slice none 0 0, .slice none 0 0] 45) := ⟨_, rfl⟩
      rw [← hX]
      have hb : Below X.heap.size X X1 := by rw [hX]; exact below1 _ _
      have hT1 := (show GpT z3 now p0 n0 c0 q0 m0 e0 d a on pg ng cg X1 from ⟨hA.1.below ((below_then fB fB.size hb)), hA.2.below ((below_then fB fB.size hb))⟩)
      exact hK.out _ _ ⟨hT1, fun _ _ => trivial⟩ (S_4 X.heap.size X1 (below_then fB fB.size hb) (by rw [hX]; exact RBox.new _ _ _ _) (fB.size))
    · refine step_val rfl (v := .pointer (some ⟨X.heap.size, 0, none⟩)) (w' := X.alloc (.cells #[.int .i64 0, .int .i64 0, .bool false, .slice none 0 0] 24)) (by kernel_rfl) ?_
      obtain ⟨X1, hX⟩ : ∃ Y : World, Y = X.alloc (.cells #[.int .i64 0, .int .i64 0, .bool false, .slice none 0 0] 24) := ⟨_, rfl⟩
      rw [← hX]
      have hb : Below X.heap.size X X1 := by rw [hX]; exact below1 _ _
      have hT1 := (show GpT z3 now p0 n0 c0 q0 m0 e0 d a on pg ng cg X1 from ⟨hA.1.below ((below_then fB fB.size hb)), hA.2.below ((below_then fB fB.size hb))⟩)
      exact hK.out _ _ ⟨hT1, fun _ _ => trivial⟩ (S_5 X.heap.size X1 (below_then fB fB.size hb) (by rw [hX]; exact GBox.new _ _ _ _ _) (fB.size))
  clear S_1_3_4_5 S_1_3_4 S_1_3_5 S_1_4_5 S_1_3 S_1_4 S_1_5 S_4_5 S_1 S_4 S_5
  subst hops
  refine wpTwo_begin (T := (GpT z3 now p0 n0 c0 q0 m0 e0 d a on pg ng cg)) (S := fun _ => True) (late := fun _ => false) (by kernel_rfl) ?_
  obtain ⟨X0, hX0⟩ : ∃ X : World, X = wA.drew := ⟨_, rfl⟩
  rw [← hX0]
  have fB : Below wA.heap.size wA X0 := by rw [hX0]; exact (Below.refl _ _).drew
  have hT := (show GpT z3 now p0 n0 c0 q0 m0 e0 d a on pg ng cg X0 from ⟨hA.1.below (fB), hA.2.below (fB)⟩)
  clear hX0
  refine wpTwo_takeT (i := 0) (v := .agg #[.int .i64 now, .slice p0 n0 c0, .slice q0 m0 e0]) rfl (by kernel_rfl) (by kernel_rfl) (by kernel_rfl) (fun c a w h => hQp c a _ _ w h) ⟨by rfl, ?_⟩ hT ?_
  · rintro w hTw
    obtain ⟨t0', t1', t2'⟩ := hTw.1.cells
    go_simp
  (try simp only [Act.put, List.getElem_toArray, List.getElem_cons_zero, List.setIfInBounds_toArray, List.set_cons_succ, List.set_cons_zero])
  refine wpTwo_takeT (i := 2) (v := .agg #[.int .i64 d, .int .i64 a, .bool on, .slice pg ng cg]) rfl (by kernel_rfl) (by kernel_rfl) (by kernel_rfl) (fun c a w h => hQp c a _ _ w h) ⟨by rfl, ?_⟩ hT ?_
  · rintro w hTw
    obtain ⟨t0', t1', t2', t3'⟩ := hTw.2.cells
    go_simp
  (try simp only [Act.put, List.getElem_toArray, List.getElem_cons_succ, List.getElem_cons_zero, List.setIfInBounds_toArray, List.set_cons_succ, List.set_cons_zero])
  exact S_o X0 fB

end Go.Proofs.Ytdmcijfjnegcgaa
