/-
  What the statement on laid locks and steps calls, in the form in which its walk calls it; what stays while new memory is made.
  Conditions: as each has them.
-/
import Derived.Test.YtcnpmkigiklnnaaKS16
import Derived.Test.YtcnpmkigiklnnaaKS4
import Derived.Test.YtcnpmkigiklnnaaKS5
import Derived.Test.YtcnpmkigiklnnaaKS12
import Derived.Test.YtcnpmkigiklnnaaKS1
import Derived.Lib.Hide
import Derived.Test.YtcnpmkigiklnnaaKS3
import Derived.Test.YtcnpmkigiklnnaaKS13
import Derived.Test.YtcnpmkigiklnnaaKS15
/-
  Step, of the document's answers of layer 5, where there is nothing to do.
  Conditions: the memory lies in rows of its own.
-/
namespace Go.Proofs.Ytcnpmkigiklnnaa
open Go.RowKit Go.Shelf
attribute [local go_sem] Oper.semAt_some

set_option maxRecDepth 100000 in
set_option maxHeartbeats 16000000 in
theorem rstep_no (px py : Option Addr) (nu cw nl cl : Nat) (f : Bool) (a p t : Int) (W : World) (hh : hasS ⟨a, p, t⟩ = false) :
    Calls Try.prog 23 #[.agg #[.slice px nu cw, .slice py nl cl, .bool f], .agg #[.int .i64 a, .int .i64 p, .int .u64 t]] W fun e w' => e = .returned (.tuple #[.agg #[.slice px nu cw, .slice py nl cl, .bool f], .agg #[.int .i64 a, .int .i64 p, .int .u64 t]]) ∧ Below W.heap.size W w' := by
  have HHS := Lib.hid (show ∀ Z : World, Calls Try.prog 12 #[.agg #[.int .i64 a, .int .i64 p, .int .u64 t]] Z fun e w' => e = .returned (.bool false) ∧ Below Z.heap.size Z w' from fun Z => by
    have := qrhas ⟨a, p, t⟩ Z
    rwa [hh] at this)
  obtain ⟨hzs, hbZ, n0, n1, n2, n3⟩ := rstep_new W (.slice px nu cw) (.slice py nl cl) f a p t
  obtain ⟨z, hz⟩ : ∃ z, z = W.heap.size := ⟨_, rfl⟩
  obtain ⟨Zz, hZz⟩ : ∃ Z : World, Z = (((W.alloc (.cells #[.slice px nu cw, .slice py nl cl, .bool f] 46)).alloc (.cells #[.int .i64 a, .int .i64 p, .int .u64 t] 24)).alloc (.cells #[.slice none 0 0, .slice none 0 0, .bool false] 46)).alloc (.cells #[.int .i64 0, .int .i64 0, .int .u64 0] 24) := ⟨_, rfl⟩
  rw [← hZz] at hzs hbZ n0 n1 n2 n3
  rw [← hz] at hzs n0 n1 n2 n3
  have HZW := Lib.hid hz
  have HBZ := Lib.hid hbZ
  have HN := Lib.hid (And.intro n0 (And.intro n1 (And.intro n2 n3)))
  have HZE := Lib.hid (And.intro hZz hz)
  obtain ⟨s0, s1, s2⟩ := n1.cells
  clear hh hzs hbZ n0 n1 n2 n3 hZz hz
  go_enter Try.func23, Try.ntmps23
  go_upto_region 1 with (fail)
  rw [← HZE.out.1, ← HZE.out.2]
  go_wp2_with fail
  refine (HHS.out _).mono ?_
  rintro e w1 ⟨rfl, hb⟩
  have HTT := Lib.hid (And.intro (HN.out.1.below hb) (HN.out.2.1.below hb))
  have HM1 := Lib.hid (HN.out.2.2.1.below hb)
  have HS1 := Lib.hid (HN.out.2.2.2.below hb)
  have HB1 := Lib.hid (below_then HBZ.out HBZ.out.size hb)
  clear hb s0 s1 s2 HN HBZ HHS HZE
  go_upto_region 2 with (fail)
  refine wpTwo_begin (T := fun w' => MBox w' z (.slice px nu cw) (.slice py nl cl) f ∧ SpBox w' (z + 1) a p t) (S := fun _ => True) (late := fun j => [2, 3].contains j) (by kernel_rfl) ?_
  obtain ⟨X0, hX0⟩ : ∃ X : World, X = w1.drew := ⟨_, rfl⟩
  rw [← hX0]
  have hb : Below w1.heap.size w1 X0 := by rw [hX0]; exact (Below.refl _ _).drew
  have hT1 := And.intro (HTT.out.1.below hb) (HTT.out.2.below hb)
  have HM1 := Lib.hid (HM1.out.below hb)
  have HS1 := Lib.hid (HS1.out.below hb)
  have HB1 := Lib.hid (below_then HB1.out HB1.out.size hb)
  clear hX0 hb HTT
  refine wpTwo_takeT (i := 0) (v := .agg #[.slice px nu cw, .slice py nl cl, .bool f]) rfl (by kernel_rfl) (by kernel_rfl) (by kernel_rfl) (fun _ _ _ h => h) ⟨by rfl, ?_⟩ hT1 ?_
  · rintro w hTw
    obtain ⟨⟨t0, t1, t2⟩, _⟩ := mbox_cells hTw.1
    go_simp
  (try simp only [Act.put, List.getElem_toArray, List.getElem_cons_zero, List.setIfInBounds_toArray, List.set_cons_succ, List.set_cons_zero])
  refine wpTwo_takeT (i := 1) (v := .agg #[.int .i64 a, .int .i64 p, .int .u64 t]) rfl (by kernel_rfl) (by kernel_rfl) (by kernel_rfl) (fun _ _ _ h => h) ⟨by rfl, ?_⟩ hT1 ?_
  · rintro w hTw
    obtain ⟨t0, t1, t2⟩ := hTw.2.cells
    go_simp
  (try simp only [Act.put, List.getElem_toArray, List.getElem_cons_succ, List.getElem_cons_zero, List.setIfInBounds_toArray, List.set_cons_succ, List.set_cons_zero])
  refine wpTwo_ready (rs := [2]) (by kernel_rfl) (by simp) ?_
  refine (AllTwo.cons rfl (fun K hK => ?_) AllTwo.nil)
  obtain ⟨⟨d0, d1, d2⟩, e0, e1, e2⟩ := mbox_cells HM1.out
  obtain ⟨X2, hX2⟩ : ∃ X : World, X = ((X0.setCell ⟨z + 1 + 1, 0, none⟩ (.slice px nu cw)).setCell ⟨z + 1 + 1, 1, none⟩ (.slice py nl cl)).setCell ⟨z + 1 + 1, 2, none⟩ (.bool f) := ⟨_, rfl⟩
  have hk : Keeps (fun q => q = z + 2) X0 X2 := by rw [hX2]; exact ((Keeps.setCell X0 (S := fun q => q = z + 2) (p := ⟨z + 2, 0, none⟩) rfl _).trans (Keeps.setCell _ (S := fun q => q = z + 2) (p := ⟨z + 2, 1, none⟩) rfl _)).trans (Keeps.setCell _ (S := fun q => q = z + 2) (p := ⟨z + 2, 2, none⟩) rfl _)
  have hT2 := And.intro (hT1.1.keeps hk (fun e => by have e : z = z + 2 := e; omega)) (hT1.2.keeps hk (fun e => by have e : z + 1 = z + 2 := e; omega))
  have HM2 := Lib.hid (show MBox X2 (z + 2) (.slice px nu cw) (.slice py nl cl) f by rw [hX2]; exact HM1.out.set _ _ _)
  have HS2 := Lib.hid (HS1.out.keeps hk (fun e => by have e : z + 3 = z + 2 := e; omega))
  have HB2 := Lib.hid (HB1.out.trans (hk.below HB1.out.size (fun q hq => by have e : q = z + 2 := hq; have := HZW.out; omega)))
  go_simp
  rw [← hX2]
  refine hK.out _ _ ⟨hT2, fun _ _ => trivial⟩ ?_
  clear hK K d0 d1 d2 e0 e1 e2 hX2 hk HM1 HS1 HB1 hT1
  (try simp only [Act.put, List.getElem_toArray, List.getElem_cons_succ, List.getElem_cons_zero, List.setIfInBounds_toArray, List.set_cons_succ, List.set_cons_zero])
  refine wpTwo_ready (rs := [3]) (by kernel_rfl) (by simp) ?_
  refine (AllTwo.cons rfl (fun K hK => ?_) AllTwo.nil)
  obtain ⟨d0, d1, d2⟩ := HS2.out.cells
  have e0 := HS2.out.free 0
  have e1 := HS2.out.free 1
  have e2 := HS2.out.free 2
  obtain ⟨X3, hX3⟩ : ∃ X : World, X = ((X2.setCell ⟨z + 1 + 1 + 1, 0, none⟩ (.int .i64 a)).setCell ⟨z + 1 + 1 + 1, 1, none⟩ (.int .i64 p)).setCell ⟨z + 1 + 1 + 1, 2, none⟩ (.int .u64 t) := ⟨_, rfl⟩
  have hk : Keeps (fun q => q = z + 3) X2 X3 := by rw [hX3]; exact ((Keeps.setCell X2 (S := fun q => q = z + 3) (p := ⟨z + 3, 0, none⟩) rfl _).trans (Keeps.setCell _ (S := fun q => q = z + 3) (p := ⟨z + 3, 1, none⟩) rfl _)).trans (Keeps.setCell _ (S := fun q => q = z + 3) (p := ⟨z + 3, 2, none⟩) rfl _)
  have hT3 := And.intro (hT2.1.keeps hk (fun e => by have e : z = z + 3 := e; omega)) (hT2.2.keeps hk (fun e => by have e : z + 1 = z + 3 := e; omega))
  have HM3 := Lib.hid (HM2.out.keeps hk (fun e => by have e : z + 2 = z + 3 := e; omega))
  have HS3 := Lib.hid (show SpBox X3 (z + 3) a p t by
    unfold SpBox
    rw [hX3, heap_setCell_same _ (z + 3) 2 _ _ _ (heap_setCell_same _ (z + 3) 1 _ _ _ (heap_setCell_same X2 (z + 3) 0 _ _ _ HS2.out))]; rfl)
  have HB3 := Lib.hid (HB2.out.trans (hk.below HB2.out.size (fun q hq => by have e : q = z + 3 := hq; have := HZW.out; omega)))
  go_simp
  rw [← hX3]
  refine hK.out _ _ ⟨hT3, fun _ _ => trivial⟩ ?_
  clear hK K d0 d1 d2 e0 e1 e2 hX3 hk
  (try simp only [Act.put, List.getElem_toArray, List.getElem_cons_succ, List.getElem_cons_zero, List.setIfInBounds_toArray, List.set_cons_succ, List.set_cons_zero])
  refine wpTwo_end (by kernel_rfl) ?_ _
  obtain ⟨⟨d0, d1, d2⟩, _⟩ := mbox_cells HM3.out
  obtain ⟨d3, d4, d5⟩ := HS3.out.cells
  go_wp2
  refine bodyPost_ret (v := .tuple #[.agg #[.slice px nu cw, .slice py nl cl, .bool f], .agg #[.int .i64 a, .int .i64 p, .int .u64 t]]) (by simp [results, Try.results23, go_sem, d0, d1, d2, d3, d4, d5]) rfl ?_
  exact ⟨rfl, HB3.out⟩

end Go.Proofs.Ytcnpmkigiklnnaa
/-
  memory.New, called with 2: two words, all free, of 0; what was in memory stays.
  Conditions: none.
-/
namespace Go.Proofs.Ytcnpmkigiklnnaa
open Go.RowKit Go.Shelf

/-- What New hands over. -/
def NewOk2 (B : Nat) (e : Ending) (w' : World) : Prop :=
  ∃ v', e = .returned (.tuple #[v', .int .i64 0]) ∧ OwnsMem w' B v' (List.replicate 2 0) (List.replicate 2 false) false

set_option maxRecDepth 100000 in
set_option maxHeartbeats 4000000 in
theorem new2_c (W : World) : Calls Try.prog 45 #[.int .i64 2] W fun e w' => NewOk2 W.heap.size e w' ∧ Below W.heap.size W w' := by
  obtain ⟨i0, hi, hz0, hz1, hz2⟩ := info_parts word_info
  obtain ⟨i1, hj, hy0, hy1, hy2⟩ := info_parts bool_info
  obtain ⟨c8, hc8⟩ : ∃ c : Array Value, c = madeCells (Value.int .u64 0).cells 2 := ⟨_, rfl⟩
  obtain ⟨b8, hb8⟩ : ∃ c : Array Value, c = madeCells (Value.bool false).cells 2 := ⟨_, rfl⟩
  have hm1 : ∀ w, (Instr.makeSlice 43 (.int .i64 2) (.int .i64 2)).run Try.prog w = .ok (.slice (some ⟨w.heap.size, 0, none⟩) 2 2) (w.alloc (.cells c8 22)) := fun w => by
    have := run_make (P := Try.prog) w 43 22 i0 (.int .u64 0) Try.underlying43 hi hz0 .i64 .i64 2 2 (by decide) (by decide) (by rw [hz2]; decide) (by decide)
    rw [this, hc8, hz1]; rfl
  have hm2 : ∀ w, (Instr.makeSlice 44 (.int .i64 2) (.int .i64 2)).run Try.prog w = .ok (.slice (some ⟨w.heap.size, 0, none⟩) 2 2) (w.alloc (.cells b8 4)) := fun w => by
    have := run_make (P := Try.prog) w 44 4 i1 (.bool false) Try.underlying44 hj hy0 .i64 .i64 2 2 (by decide) (by decide) (by rw [hy2]; decide) (by decide)
    rw [this, hb8, hy1]; rfl
  have HC := Lib.hid (show c8.toList = (List.replicate 2 (0 : Int)).map (Value.int .u64) by rw [hc8, List.map_replicate]; exact toList_madeCells_one _ 2)
  have HB := Lib.hid (show b8.toList = (List.replicate 2 false).map Value.bool by rw [hb8, List.map_replicate]; exact toList_madeCells_one _ 2)
  have HC8 := Lib.hid (show c8.size = 2 * 1 by rw [hc8, size_madeCells])
  have HB8 := Lib.hid (show b8.size = 2 * 1 by rw [hb8, size_madeCells])
  clear hc8 hb8 hi hj hz0 hz1 hz2 hy0 hy1 hy2
  go_enter Try.func45, Try.ntmps45
  go_wp2
  go_region
  all_goals go_wp2
  · have ho1 := (World.ownsRow_lit (base := W.heap.size) (e := 22) (size := 1) (W.alloc (.cells #[.slice (some ⟨W.heap.size + 1, 0, none⟩) 2 2, .slice (some ⟨W.heap.size + 1 + 1, 0, none⟩) 2 2, .bool false] 46)) c8 2 (by simp) (by decide) HC8.out).alloc (.cells b8 4)
    have ho2 := World.ownsRow_lit (base := W.heap.size) (e := 4) (size := 1) ((W.alloc (.cells #[.slice (some ⟨W.heap.size + 1, 0, none⟩) 2 2, .slice (some ⟨W.heap.size + 1 + 1, 0, none⟩) 2 2, .bool false] 46)).alloc (.cells c8 22)) b8 2 (by simp; omega) (by decide) HB8.out
    rw [World.size_alloc] at ho1
    rw [World.size_alloc, World.size_alloc] at ho2
    refine bodyPost_ret (v := .tuple #[.agg #[.slice (some ⟨W.heap.size + 1, 0, none⟩) 2 2, .slice (some ⟨W.heap.size + 1 + 1, 0, none⟩) 2 2, .bool false], .int .i64 0]) (by simp [results, Try.results45, go_sem]) rfl ⟨⟨_, rfl, _, _, rfl, ?_, ?_⟩, ((((Below.refl _ _).alloc (Nat.le_refl _) _).alloc (by simp) _).alloc (by simp; omega) _).drew⟩
    · rw [HC.out] at ho1; exact ho1.drew
    · rw [HB.out] at ho2; exact ho2.drew
  · have ho1 := (World.ownsRow_lit (base := W.heap.size) (e := 4) (size := 1) (W.alloc (.cells #[.slice (some ⟨W.heap.size + 1 + 1, 0, none⟩) 2 2, .slice (some ⟨W.heap.size + 1, 0, none⟩) 2 2, .bool false] 46)) b8 2 (by simp) (by decide) HB8.out).alloc (.cells c8 22)
    have ho2 := World.ownsRow_lit (base := W.heap.size) (e := 22) (size := 1) ((W.alloc (.cells #[.slice (some ⟨W.heap.size + 1 + 1, 0, none⟩) 2 2, .slice (some ⟨W.heap.size + 1, 0, none⟩) 2 2, .bool false] 46)).alloc (.cells b8 4)) c8 2 (by simp; omega) (by decide) HC8.out
    rw [World.size_alloc] at ho1
    rw [World.size_alloc, World.size_alloc] at ho2
    refine bodyPost_ret (v := .tuple #[.agg #[.slice (some ⟨W.heap.size + 1 + 1, 0, none⟩) 2 2, .slice (some ⟨W.heap.size + 1, 0, none⟩) 2 2, .bool false], .int .i64 0]) (by simp [results, Try.results45, go_sem]) rfl ⟨⟨_, rfl, _, _, rfl, ?_, ?_⟩, ((((Below.refl _ _).alloc (Nat.le_refl _) _).alloc (by simp) _).alloc (by simp; omega) _).drew⟩
    · rw [HC.out] at ho2; exact ho2.drew
    · rw [HB.out] at ho1; exact ho1.drew

theorem lay_two : layM [0, 0] [true, true] false 0 = (([0, 0], false), ((0, true), (0, true))) := by kernel_rfl
theorem qlay_two (v : Value) (W : World) (hv : MemAt W v [0, 0] [true, true] false) :
    Calls Try.prog 20 #[v, .int .i64 0] W fun e w' => (∃ gw cw gl cl, e = .returned (.tuple #[.agg #[.slice (some ⟨gw, 0, none⟩) 2 cw, .slice (some ⟨gl, 0, none⟩) 2 cl, .bool false], .int .i64 0]) ∧
      w'.ownsRow W.heap.size 22 1 (.slice (some ⟨gw, 0, none⟩) 2 cw) 2 (([0, 0] : List Int).map (Value.int .u64)) ∧ w'.ownsRow W.heap.size 4 1 (.slice (some ⟨gl, 0, none⟩) 2 cl) 2 ([true, true].map Value.bool)) ∧ Below W.heap.size W w' :=
  (qlay v [0, 0] [true, true] false 0 W hv (by decide) (by decide)).mono fun e w' h => by
    rw [lay_two] at h
    obtain ⟨⟨_, _, x, y, he, h1, h2⟩ | ⟨h, _⟩, h3⟩ := h
    · obtain ⟨gw, cw, rfl, _⟩ := own_form h1 (by decide)
      obtain ⟨gl, cl, rfl, _⟩ := own_form h2 (by decide)
      exact ⟨⟨gw, cw, gl, cl, he, h1, h2⟩, h3⟩
    · cases h

set_option maxRecDepth 100000 in
set_option maxHeartbeats 8000000 in
theorem qlaid (W : World) : Calls Try.prog 31 #[] W fun e w' => (∃ gw cw gl cl, e = .returned (.tuple #[.agg #[.slice (some ⟨gw, 0, none⟩) 2 cw, .slice (some ⟨gl, 0, none⟩) 2 cl, .bool false], .bool true]) ∧
      w'.ownsRow W.heap.size 22 1 (.slice (some ⟨gw, 0, none⟩) 2 cw) 2 (([0, 0] : List Int).map (Value.int .u64)) ∧ w'.ownsRow W.heap.size 4 1 (.slice (some ⟨gl, 0, none⟩) 2 cl) 2 ([true, true].map Value.bool)) ∧ Below W.heap.size W w' := by
  have hB : Below W.heap.size W (W.alloc (.cells #[.slice none 0 0, .slice none 0 0, .bool false] 46)) := (Below.refl _ _).alloc (Nat.le_refl _) _
  have HR := Lib.hid (MBox.new W (.slice none 0 0) (.slice none 0 0) false)
  go_enter Try.func31, Try.ntmps31
  go_wp2_with fail
  refine (new2_c _).mono ?_
  rintro e w1 ⟨⟨_, rfl, vw, vl, rfl, how, hol⟩, hb1⟩
  have HR1 := Lib.hid (HR.out.below hb1)
  have hB1 := below_then hB hB.size hb1
  clear hb1 hB HR
  obtain ⟨gw, cw, rfl, hgw, hgw3⟩ := own_form how (by decide)
  obtain ⟨gl, cl, rfl, hgl, hgl3⟩ := own_form hol (by decide)
  have hcapl := (own_cap hol).1
  have hb2 : Below w1.heap.size w1 (w1.alloc (.cells #[.slice (some ⟨gw, 0, none⟩) 2 cw, .slice (some ⟨gl, 0, none⟩) 2 cl, .bool false] 46)) := (Below.refl _ _).alloc (Nat.le_refl _) _
  have hmem : MemAt (w1.alloc (.cells #[.slice (some ⟨gw, 0, none⟩) 2 cw, .slice (some ⟨gl, 0, none⟩) 2 cl, .bool false] 46)) (.agg #[.slice (some ⟨gw, 0, none⟩) 2 cw, .slice (some ⟨gl, 0, none⟩) 2 cl, .bool false]) (List.replicate 2 0) (List.replicate 2 false) false :=
    ⟨_, _, rfl, nums_of_owns (by decide) (owns_below how hb2), bools_of_owns (by decide) (owns_below hol hb2)⟩
  have HLIVE := Lib.hid (live_yes _ _ _ false 0 2 _ hmem (by intro x y p n c e; injection e with e; injection e with e; injection e with _ e; injection e with e _; injection e with _ e1 e2; subst e1; subst e2; exact hcapl) (by decide) (by decide) (by decide) (by decide) (by decide))
  have HZ2 := Lib.hid (MBox.new w1 (.slice (some ⟨gw, 0, none⟩) 2 cw) (.slice (some ⟨gl, 0, none⟩) 2 cl) false)
  have HR2 := Lib.hid (HR1.out.below hb2)
  have hB2 := below_then hB1 hB1.size hb2
  have hzb : W.heap.size < w1.heap.size := HR1.out.lt
  obtain ⟨z, hz⟩ : ∃ z, z = w1.heap.size := ⟨_, rfl⟩
  have HZZ := Lib.hid hz
  clear hmem hb2 how hol hB1 HR1 hz
  go_wp2_with fail
  refine HLIVE.out.mono ?_
  rintro e w3 ⟨⟨_, rfl, vw2, vl2, rfl, how2, hol2⟩, hb3⟩
  obtain ⟨gw2, cw2, rfl, hgw2, hgw4⟩ := own_form how2 (by decide)
  obtain ⟨gl2, cl2, rfl, hgl2, hgl4⟩ := own_form hol2 (by decide)
  have e1 : fill (List.replicate 2 (0 : Int)) (Int.toNat 0) 0 (Int.toNat 2) = [0, 0] := by decide
  have e2 : fill (List.replicate 2 false) (Int.toNat 0) true (Int.toNat 2) = [true, true] := by decide
  rw [e1, e2]
  rw [e1] at how2
  rw [e2] at hol2
  rw [show ([0, 0] : List Int).length = 2 from rfl] at how2 ⊢
  rw [show ([true, true] : List Bool).length = 2 from rfl] at hol2 ⊢
  rw [World.size_alloc, ← HZZ.out] at hgw2 hgl2
  have hz3 := HZ2.out.below hb3
  rw [← HZZ.out] at hz3 hzb ⊢
  have hr3 := HR2.out.below hb3
  obtain ⟨⟨hd0, hd1, hd2⟩, he0, he1, he2⟩ := mbox_cells hz3
  obtain ⟨w4, hw4⟩ : ∃ w4 : World, w4 = ((w3.setCell ⟨z, 0, none⟩ (.slice (some ⟨gw2, 0, none⟩) 2 cw2)).setCell ⟨z, 1, none⟩ (.slice (some ⟨gl2, 0, none⟩) 2 cl2)).setCell ⟨z, 2, none⟩ (.bool false) := ⟨_, rfl⟩
  have hkz : Keeps (· = z) w3 w4 := by
    rw [hw4]
    exact ((Keeps.setCell w3 (S := (· = z)) (p := ⟨z, 0, none⟩) rfl _).trans (Keeps.setCell _ (S := (· = z)) (p := ⟨z, 1, none⟩) rfl _)).trans (Keeps.setCell _ (S := (· = z)) (p := ⟨z, 2, none⟩) rfl _)
  have HZ4 := Lib.hid (show MBox w4 z (.slice (some ⟨gw2, 0, none⟩) 2 cw2) (.slice (some ⟨gl2, 0, none⟩) 2 cl2) false by rw [hw4]; exact hz3.set _ _ _)
  have HR4 := Lib.hid (hr3.keeps hkz (fun e => by have e : W.heap.size = z := e; omega))
  have how4 := hkz.row how2 (fun q hq e => by have e : q = z := e; simp [Value.ownBlock] at hq; omega)
  have hol4 := hkz.row hol2 (fun q hq e => by have e : q = z := e; simp [Value.ownBlock] at hq; omega)
  have HLAY := Lib.hid (qlay_two (.agg #[.slice (some ⟨gw2, 0, none⟩) 2 cw2, .slice (some ⟨gl2, 0, none⟩) 2 cl2, .bool false]) w4 ⟨_, _, rfl, nums_of_owns (by decide) how4, bools_of_owns (by decide) hol4⟩)
  have HB4 := Lib.hid ((below_then hB2 hB2.size hb3).trans (hkz.below (below_then hB2 hB2.size hb3).size (fun q hq => by have e : q = z := hq; omega)))
  have HW4 := Lib.hid hw4
  clear hw4 hkz how2 hol2 how4 hol4 hz3 hr3 hb3 hB2 e1 e2 HLIVE HZ2 HR2 hgw hgl hgw3 hgl3 hgw2 hgl2 hgw4 hgl4
  go_upto_region 3 with (fail)
  rw [← HW4.out]
  clear hd0 hd1 hd2 he0 he1 he2
  obtain ⟨⟨hd0, hd1, hd2⟩, _⟩ := mbox_cells HZ4.out
  go_wp2_with fail
  refine HLAY.out.mono ?_
  rintro e w5 ⟨⟨gw3, cw3, gl3, cl3, rfl, how, hol⟩, hb5⟩
  have hz5 := HZ4.out.below hb5
  have hr5 := HR4.out.below hb5
  have hB5 := below_then HB4.out HB4.out.size hb5
  have hz4 := HZ4.out.lt
  clear hd0 hd1 hd2
  obtain ⟨⟨hd0, hd1, hd2⟩, he0, he1, he2⟩ := mbox_cells hz5
  obtain ⟨w6, hw6⟩ : ∃ w6 : World, w6 = ((w5.setCell ⟨z, 0, none⟩ (.slice (some ⟨gw3, 0, none⟩) 2 cw3)).setCell ⟨z, 1, none⟩ (.slice (some ⟨gl3, 0, none⟩) 2 cl3)).setCell ⟨z, 2, none⟩ (.bool false) := ⟨_, rfl⟩
  have hkz : Keeps (· = z) w5 w6 := by
    rw [hw6]
    exact ((Keeps.setCell w5 (S := (· = z)) (p := ⟨z, 0, none⟩) rfl _).trans (Keeps.setCell _ (S := (· = z)) (p := ⟨z, 1, none⟩) rfl _)).trans (Keeps.setCell _ (S := (· = z)) (p := ⟨z, 2, none⟩) rfl _)
  have hz6 : MBox w6 z (.slice (some ⟨gw3, 0, none⟩) 2 cw3) (.slice (some ⟨gl3, 0, none⟩) 2 cl3) false := by rw [hw6]; exact hz5.set _ _ _
  have hr6 := hr5.keeps hkz (fun e => by have e : W.heap.size = z := e; omega)
  have HOW := Lib.hid (hkz.row how (fun q hq e => by have e : q = z := e; have := (how.lt q hq).1; omega))
  have HOL := Lib.hid (hkz.row hol (fun q hq e => by have e : q = z := e; have := (hol.lt q hq).1; omega))
  have HB6 := Lib.hid (hB5.trans (hkz.below hB5.size (fun q hq => by have e : q = z := hq; omega)))
  have HW6 := Lib.hid hw6
  have HR6 := Lib.hid hr6
  have HZ6 := Lib.hid hz6
  have hw4s := HB4.out.size
  clear hw6 hkz how hol hz5 hr5 hb5 hB5 HLAY hr6 hz6
  go_upto_region 4 with (fail)
  rw [← HW6.out]
  clear hd0 hd1 hd2 he0 he1 he2
  obtain ⟨⟨hd0, hd1, hd2⟩, _⟩ := mbox_cells HZ6.out
  obtain ⟨⟨hr0, hr1, hr2⟩, hs0, hs1, hs2⟩ := mbox_cells HR6.out
  go_wp2
  obtain ⟨w7, hw7⟩ : ∃ w7 : World, w7 = ((w6.setCell ⟨W.heap.size, 0, none⟩ (.slice (some ⟨gw3, 0, none⟩) 2 cw3)).setCell ⟨W.heap.size, 1, none⟩ (.slice (some ⟨gl3, 0, none⟩) 2 cl3)).setCell ⟨W.heap.size, 2, none⟩ (.bool false) := ⟨_, rfl⟩
  rw [← hw7]
  have hk : Keeps (· = W.heap.size) w6 w7 := by
    rw [hw7]
    exact ((Keeps.setCell w6 (S := (· = W.heap.size)) (p := ⟨W.heap.size, 0, none⟩) rfl _).trans (Keeps.setCell _ (S := (· = W.heap.size)) (p := ⟨W.heap.size, 1, none⟩) rfl _)).trans (Keeps.setCell _ (S := (· = W.heap.size)) (p := ⟨W.heap.size, 2, none⟩) rfl _)
  have hM : MBox w7 W.heap.size (.slice (some ⟨gw3, 0, none⟩) 2 cw3) (.slice (some ⟨gl3, 0, none⟩) 2 cl3) false := by rw [hw7]; exact HR6.out.set _ _ _
  obtain ⟨⟨r0, r1, r2⟩, _⟩ := mbox_cells hM
  have hrow : ∀ {E : TypeId} {s m : Nat} {u : Value} {us : List Value}, w6.ownsRow w4.heap.size E s u m us → w7.ownsRow W.heap.size E s u m us := fun hr => (hk.row hr (fun q hq e => by have e : q = W.heap.size := e; have := (hr.lt q hq).1; omega)).mono (by omega)
  refine bodyPost_ret (v := .tuple #[.agg #[.slice (some ⟨gw3, 0, none⟩) 2 cw3, .slice (some ⟨gl3, 0, none⟩) 2 cl3, .bool false], .bool true]) (by simp [results, Try.results31, go_sem, r0, r1, r2]) rfl ?_
  exact ⟨⟨_, _, _, _, rfl, hrow HOW.out, hrow HOL.out⟩, HB6.out.trans (hk.below HB6.out.size (fun q hq => by have e : q = W.heap.size := hq; omega))⟩

end Go.Proofs.Ytcnpmkigiklnnaa
/-
  slices.Clone, slices.Equal and slices.Index at rows of ints; what was in memory stays.
  Conditions: a row that is cloned has at most 2 to the power 40 elements.
-/
namespace Go.Proofs.Ytcnpmkigiklnnaa
open Go.RowKit Go.Shelf

theorem cloneI_info : (Try.prog.info? 3).map (fun i => (i.zero, i.size, i.bytes)) = some (some (.int .i64 0), 1, 8) := by kernel_rfl

set_option maxHeartbeats 2000000 in
theorem cloneI (v : Value) (n : Nat) (xs : List Value) (W : World) (hv : ValsAt W v 1 n xs) (h1 : ∀ u ∈ xs, u.oneCell' = true) (hn : n ≤ 1099511627776) :
    Calls Try.prog 25 #[v] W fun e w' => OwnsNew W.heap.size 3 1 n xs e w' ∧ Below W.heap.size W w' := by
  obtain ⟨hlen, p, cap, rfl, ⟨rfl, rfl, rfl⟩ | ⟨ad, rfl, hcells⟩⟩ := hv
  · obtain rfl : xs = [] := List.eq_nil_of_length_eq_zero (by omega)
    have hcmp := fun w => Lib.run_eql_slice_nil (P := Try.prog) w 58 3 none 0 0 0 0 Try.underlying58
    go_enter Try.func25, Try.ntmps25
    go_wp2
    go_ret
    exact ⟨⟨_, rfl, World.ownsRow_nil _ _ _ _⟩, Below.refl _ _⟩
  · have hcmp := fun w => Lib.run_eql_slice_nil (P := Try.prog) w 58 3 (some ad) n cap 0 0 Try.underlying58
    obtain ⟨i0, hi, hz0, hz1, hz2⟩ := info_parts cloneI_info
    have hown := World.ownsRow_lit (base := W.heap.size) (e := 3) (size := 1) W #[] 0 (Nat.le_refl _) (by decide) rfl
    have hnews : ∀ j u, xs[j]? = some u → (W.alloc (Obj.cells #[] 3)).cell? (ad.add j) = some u := fun j u hj => by
      have h0 := hcells j u hj
      rw [World.cell?_alloc_lt _ _ _ (World.block_lt_of_cell? W _ h0)]
      exact h0
    have HN := Lib.hid hnews
    have H1 := Lib.hid h1
    have HO := Lib.hid hown
    clear hnews h1 hown hcells
    go_enter Try.func25, Try.ntmps25
    go_wp2_with (at_builtin; refine wpList_append_own _ rfl _ _ 58 rfl W.heap.size 3 i0 (.int .i64 0) 1 8 Try.underlying58 hi hz0 hz1 hz2 rfl (by decide) _ _ _ rfl HO.out ad n cap xs rfl hlen HN.out H1.out (by unfold maxLen; omega) (by omega) (by simp) ?_; intro v' w1 hown' hgrow _)
    go_ret
    rw [Nat.zero_add, List.nil_append] at hown'
    exact ⟨⟨v', rfl, hown'⟩, below_grown ((Below.refl _ _).alloc (Nat.le_refl _) _) hgrow (fun k e => by cases e; exact Nat.le_refl _)⟩

set_option maxHeartbeats 4000000 in
theorem equalI_c (v0 v1 : Value) (xs ys : List Int) (W : World) (hv0 : NumsAt W .i64 v0 xs) (hv1 : NumsAt W .i64 v1 ys) (hl0 : xs.length ≤ 9223372036854775807) (hl1 : ys.length ≤ 9223372036854775807) :
    Calls Try.prog 29 #[v0, v1] W fun e w' => e = .returned (.bool (decide (xs = ys))) ∧ Below W.heap.size W w' := by
  obtain ⟨p0, cap0, rfl, hc0⟩ := hv0
  obtain ⟨p1, cap1, rfl, hc1⟩ := hv1
  go_enter Try.func29, Try.ntmps29
  by_cases hlen : xs.length = ys.length
  · have hne : ((xs.length : Int) != (ys.length : Int)) = false := by rw [bne_eq_false_iff_eq]; omega
    have HL := Lib.hid hlen
    clear hlen
    go_wp2
    clear hne
    go_loopw [13] (fun iv wr => ∃ i : Nat, i ≤ xs.length ∧ iv = .int .i64 i ∧ xs.take i = ys.take i ∧ Below W.heap.size W wr) (fun iv _ => xs.length - (intOf iv).toNat)
    case atStart => exact ⟨0, Nat.zero_le _, rfl, rfl, Below.refl _ _⟩
    case round =>
      obtain ⟨i, hi, rfl, heq, hB⟩ := hrel
      by_cases hlt : i < xs.length
      · obtain ⟨b0, off0, rfl, hcs0⟩ := hc0 (by intro e; rw [e] at hlt; cases hlt)
        have hlt1 : i < ys.length := by have := HL.out; omega
        obtain ⟨b1, off1, rfl, hcs1⟩ := hc1 (by intro e; rw [e] at hlt1; cases hlt1)
        have hx := hcs0 i hlt
        have hy := hcs1 i hlt1
        have ha := List.take_succ_eq_append_getElem hlt
        have hb := List.take_succ_eq_append_getElem hlt1
        obtain ⟨x, hxe⟩ : ∃ x, x = xs[i] := ⟨_, rfl⟩
        obtain ⟨y, hye⟩ : ∃ y, y = ys[i] := ⟨_, rfl⟩
        rw [← hxe] at hx ha
        rw [← hye] at hy hb
        have hx' := (hB.cell (World.block_lt_of_cell? W _ hx)).trans hx
        have hy' := (hB.cell (World.block_lt_of_cell? W _ hy)).trans hy
        have HE := Lib.hid heq
        have HA := Lib.hid ha
        have HB := Lib.hid hb
        have HXY := Lib.hid (And.intro hxe hye)
        clear hx hy hcs0 hcs1 heq ha hb hxe hye
        by_cases hxy : x = y
        · subst hxy
          go_wp2
          go_quiet (fail)
          go_wp2
          all_goals
            go_roundw
            case rel => exact ⟨i + 1, by omega, by go_num, by rw [HA.out, HB.out, HE.out], below_drewN hB _⟩
            case measure => simp [intOf]; omega
        · have hne : (x != y) = true := by rw [bne_iff_ne]; exact hxy
          have hr : decide (xs = ys) = false := by
            rw [decide_eq_false_iff_not]
            intro e
            subst e
            exact hxy (HXY.out.1.trans HXY.out.2.symm)
          have HR := Lib.hid hr
          clear hr hxy
          go_wp2
          go_quiet (fail)
          go_wp2
          all_goals go_ret
          all_goals exact ⟨ret_bool HR.out.symm, below_drewN hB _⟩
      · have heq2 : xs = ys := by rwa [List.take_of_length_le (by omega), List.take_of_length_le (by have := HL.out; omega)] at heq
        have HE := Lib.hid heq2
        clear heq heq2
        go_wp2
        go_ret
        exact ⟨ret_bool (by simp [HE.out]), hB⟩
  · have hne : ((xs.length : Int) != (ys.length : Int)) = true := by rw [bne_iff_ne]; omega
    have hr : decide (xs = ys) = false := by rw [decide_eq_false_iff_not]; intro e; rw [e] at hlen; exact hlen rfl
    have HR := Lib.hid hr
    clear hr hlen
    go_wp2
    go_ret
    exact ⟨ret_bool HR.out.symm, Below.refl _ _⟩

/-- The first n of a row that reads so. -/
theorem vals_nums {W : World} {p : Option Addr} {n c : Nat} {ns : List Int} (h : NumsAt W .i64 (.slice p n c) ns) (hz : n = 0 → p = none → c = 0) : ValsAt W (.slice p n c) 1 n (ns.map (Value.int .i64)) := by
  obtain ⟨q, cap, e, hc⟩ := h
  injection e with e1 e2 e3
  subst e1 e2 e3
  refine ⟨by simp, p, c, rfl, ?_⟩
  by_cases hne : ns = []
  · subst hne
    cases p with
    | none => exact .inl ⟨rfl, rfl, hz rfl rfl⟩
    | some a => exact .inr ⟨a, rfl, fun j u hj => by simp at hj⟩
  · obtain ⟨b, off, rfl, hcs⟩ := hc hne
    refine .inr ⟨_, rfl, fun j u hj => ?_⟩
    rw [List.getElem?_map] at hj
    obtain ⟨x, hx, rfl⟩ := Option.map_eq_some_iff.1 hj
    obtain ⟨hlt, rfl⟩ := List.getElem?_eq_some_iff.1 hx
    rw [addr_add_off]
    exact hcs j hlt

set_option maxHeartbeats 4000000 in
theorem index_yes (v : Value) (l : List Int) (x : Int) (m : Nat) (W : World) (hv : NumsAt W .i64 v l) (hl : l.length ≤ 9223372036854775807) (hm : m < l.length) (hx : l[m] = x) (hn : x ∉ l.take m) :
    Calls Try.prog 48 #[v, .int .i64 x] W fun e w' => e = .returned (.int .i64 (m : Int)) ∧ w' = W := by
  obtain ⟨p, cap, rfl, hc⟩ := hv
  obtain ⟨b, off, rfl, hcs⟩ := hc (by intro e; rw [e] at hm; cases hm)
  obtain ⟨n, hn0⟩ : ∃ n, n = l.length := ⟨_, rfl⟩
  rw [← hn0] at hl ⊢
  have HN := Lib.hid hn0
  have HX := Lib.hid hx
  have HJ := Lib.hid hn
  have HCS := Lib.hid hcs
  rw [← hn0] at hm
  clear hx hn hcs hc hn0
  go_enter Try.func48, Try.ntmps48
  go_wp2
  go_loop [8] (fun iv => ∃ i : Nat, i ≤ m ∧ iv = .int .i64 i) (fun iv => n - (intOf iv).toNat)
  case atStart => exact ⟨0, Nat.zero_le _, rfl⟩
  case round =>
    obtain ⟨i, hi, rfl⟩ := hrel
    have hlt : i < n := by omega
    have hil : i < l.length := by have := HN.out; omega
    have hc := HCS.out i hil
    obtain ⟨y, hy⟩ : ∃ y, y = l[i] := ⟨_, rfl⟩
    rw [← hy] at hc
    by_cases him : i = m
    · have hyx : y = x := by subst him; rw [hy]; exact HX.out
      subst hyx
      have HI := Lib.hid him
      clear him hy
      go_wp2
      go_ret
      exact ⟨ret_int (by rw [HI.out]), rfl⟩
    · have hne : y ≠ x := by
        intro e
        apply HJ.out
        rw [List.mem_iff_getElem]
        exact ⟨i, by rw [List.length_take]; omega, by rw [List.getElem_take, ← hy, e]⟩
      have hne' : ((x : Int) == y) = false := by rw [beq_eq_false_iff_ne]; exact fun e => hne e.symm
      clear hy hne
      go_wp2
      go_round
      case rel => exact ⟨i + 1, by omega, by go_num⟩
      case measure => simp [intOf]; omega
set_option maxHeartbeats 4000000 in
theorem index_no (v : Value) (l : List Int) (x : Int) (W : World) (hv : NumsAt W .i64 v l) (hl : l.length ≤ 9223372036854775807) (hn : x ∉ l) :
    Calls Try.prog 48 #[v, .int .i64 x] W fun e w' => e = .returned (.int .i64 (-1)) ∧ w' = W := by
  obtain ⟨p, cap, rfl, hc⟩ := hv
  obtain ⟨n, hn0⟩ : ∃ n, n = l.length := ⟨_, rfl⟩
  rw [← hn0] at hl ⊢
  have HN := Lib.hid hn0
  have HJ := Lib.hid hn
  clear hn hn0
  go_enter Try.func48, Try.ntmps48
  go_wp2
  go_loop [8] (fun iv => ∃ i : Nat, i ≤ n ∧ iv = .int .i64 i) (fun iv => n - (intOf iv).toNat)
  case atStart => exact ⟨0, Nat.zero_le _, rfl⟩
  case round =>
    obtain ⟨i, hi, rfl⟩ := hrel
    by_cases hlt : i < n
    · have hil : i < l.length := by have := HN.out; omega
      obtain ⟨b, off, rfl, hcs⟩ := hc (by intro e; rw [e] at hil; cases hil)
      have hcc := hcs i hil
      have hne : l[i] ≠ x := fun e => HJ.out (e ▸ List.getElem_mem hil)
      obtain ⟨y, hy⟩ : ∃ y, y = l[i] := ⟨_, rfl⟩
      rw [← hy] at hcc hne
      have hne' : ((x : Int) == y) = false := by rw [beq_eq_false_iff_ne]; exact fun e => hne e.symm
      clear hy hne hcs
      go_wp2
      go_round
      case rel => exact ⟨i + 1, by omega, by go_num⟩
      case measure => simp [intOf]; omega
    · go_wp2
      go_ret
      exact ⟨rfl, rfl⟩

end Go.Proofs.Ytcnpmkigiklnnaa
/-
  Does package spin do anything: it does.
  Conditions: none.
-/
namespace Go.Proofs.Ytcnpmkigiklnnaa
open Go.RowKit Go.Shelf
attribute [local go_sem] Oper.semAt_some

def wkPicks : List Int := [0, 1, 0, 1, 1, 1, 1, 0, 0, 1, 1]
theorem wk_plays : playR [true, true] 2 wkPicks ⟨[0, 0], false, [⟨0, 0, 0⟩, ⟨0, 0, 0⟩]⟩ [] = (⟨[2, 2], false, [⟨0, 5, 0⟩, ⟨0, 5, 1⟩]⟩, [0, 1]) := by kernel_rfl

/-- What Play hands over there. -/
theorem wk_play (v v1 v2 : Value) (W : World) (hv : MemAt W v [0, 0] [true, true] false) (hS : SpinsAt W v1 [⟨0, 0, 0⟩, ⟨0, 0, 0⟩]) (hN : NumsAt W .i64 v2 wkPicks) :
    Calls Try.prog 26 #[v, v1, v2] W fun e w' => (∃ gx cx y g gh ch, e = .returned (.tuple #[.agg #[.slice (some ⟨gx, 0, none⟩) 2 cx, y, .bool false], .slice (some ⟨g, 0, none⟩) 2 2, .slice (some ⟨gh, 0, none⟩) 2 ch, .int .i64 0]) ∧
      (w'.cell? ⟨gx, 0, none⟩ = some (.int .u64 2) ∧ w'.cell? ⟨gx, 1, none⟩ = some (.int .u64 2)) ∧ (w'.cell? ⟨g, 1, none⟩ = some (.int .i64 5) ∧ w'.cell? ⟨g, 4, none⟩ = some (.int .i64 5)) ∧ NumsAt w' .i64 (.slice (some ⟨gh, 0, none⟩) 2 ch) [0, 1] ∧ ∃ p n c, y = .slice p n c) ∧ Below W.heap.size W w' :=
  (qplay v v1 v2 [0, 0] [true, true] false [⟨0, 0, 0⟩, ⟨0, 0, 0⟩] wkPicks W hv (by decide) (by intro x hx; simp at hx; subst hx; decide) hS (by decide) (by intro s hs; simp at hs; subst hs; decide) (by intro s hs; simp at hs; subst hs; constructor <;> simp) hN (by decide)).mono fun e w' h => by
    rw [show ([⟨0, 0, 0⟩, ⟨0, 0, 0⟩] : List SpM).length = 2 from rfl, wk_plays] at h
    obtain ⟨⟨x, y, g, vh, he, h1, h2, h3, _, h4⟩, h5⟩ := h
    obtain ⟨gx, cx, rfl, _⟩ := own_form h1 (by decide)
    obtain ⟨gh, ch, rfl, _⟩ := own_form h4 (by decide)
    exact ⟨⟨gx, cx, y, g, gh, ch, he, ⟨h1.cellAt 0 (by decide), h1.cellAt 1 (by decide)⟩, ⟨h3.cellAt 1 (by decide), h3.cellAt 4 (by decide)⟩, nums_of_owns (by decide) h4, own_any h2⟩, h5⟩

set_option maxRecDepth 100000 in
set_option maxHeartbeats 8000000 in
theorem qwakes (W : World) : Calls Try.prog 8 #[] W fun e w' => e = .returned (.bool true) ∧ Below W.heap.size W w' := by
  have HASK := Lib.hid (show ∀ Z : World, Calls Try.prog 17 #[.int .i64 0] Z fun e w' => e = .returned (.agg #[.int .i64 0, .int .i64 0, .int .u64 0]) ∧ Below Z.heap.size Z w' from fun Z => qask 0 Z)
  go_enter Try.func8, Try.ntmps8
  go_wp2_with fail
  refine (qlaid _).mono ?_
  rintro e w1 ⟨⟨gw, cw, gl, cl, rfl, how, hol⟩, hb1⟩
  have hmb := (MBox.new w1 (.slice (some ⟨gw, 0, none⟩) 2 cw) (.slice (some ⟨gl, 0, none⟩) 2 cl) false)
  obtain ⟨z, hz⟩ : ∃ z, z = w1.heap.size := ⟨_, rfl⟩
  obtain ⟨w2, hw2⟩ : ∃ w2 : World, w2 = w1.alloc (.cells #[.slice (some ⟨gw, 0, none⟩) 2 cw, .slice (some ⟨gl, 0, none⟩) 2 cl, .bool false] 46) := ⟨_, rfl⟩
  have HW2 := Lib.hid (And.intro hz hw2)
  have hb2 : Below w1.heap.size w1 w2 := by rw [hw2]; exact below1 w1 _
  rw [← hw2, ← hz] at hmb
  have HM2 := Lib.hid hmb
  have HO2 := Lib.hid (And.intro (owns_below how hb2) (owns_below hol hb2))
  have HB2 := Lib.hid (below_then hb1 hb1.size hb2)
  clear hz hw2 hmb how hol hb1 hb2
  go_upto_region 2 with (fail)
  rw [← HW2.out.1, ← HW2.out.2]
  go_wp2_with fail
  refine (HASK.out _).mono ?_
  rintro e w3 ⟨rfl, hb3⟩
  have HM3 := Lib.hid (HM2.out.below hb3)
  have HO3 := Lib.hid (And.intro (owns_below HO2.out.1 hb3) (owns_below HO2.out.2 hb3))
  have HB3 := Lib.hid (below_then HB2.out HB2.out.size hb3)
  clear hb3 HM2 HO2 HB2 HW2
  go_wp2_with fail
  refine (HASK.out _).mono ?_
  rintro e w4 ⟨rfl, hb4⟩
  have HO4 := Lib.hid (And.intro (owns_below HO3.out.1 hb4) (owns_below HO3.out.2 hb4))
  have HB4 := Lib.hid (below_then HB3.out HB3.out.size hb4)
  have hm4 := HM3.out.below hb4
  obtain ⟨⟨hd0, hd1, hd2⟩, _⟩ := mbox_cells (hm4.alloc (.cells #[.int .i64 0, .int .i64 0, .int .u64 0, .int .i64 0, .int .i64 0, .int .u64 0] 24))
  clear hb4 HM3 HO3 HB3 hm4
  go_wp2_with fail
  obtain ⟨w5, hw5⟩ : ∃ w5 : World, w5 = (w4.alloc (.cells #[.int .i64 0, .int .i64 0, .int .u64 0, .int .i64 0, .int .i64 0, .int .u64 0] 24)).alloc (.cells #[.int .i64 0, .int .i64 1, .int .i64 0, .int .i64 1, .int .i64 1, .int .i64 1, .int .i64 1, .int .i64 0, .int .i64 0, .int .i64 1, .int .i64 1] 3) := ⟨_, rfl⟩
  have hb5 : Below w4.heap.size w4 w5 := by rw [hw5]; exact below2 w4 _ _
  have h5a : w5.heap[w4.heap.size]? = some (.cells (flatS [⟨0, 0, 0⟩, ⟨0, 0, 0⟩]).toArray 24 (0, 0)) := by
    rw [hw5]
    exact ((below1 (w4.alloc (.cells #[.int .i64 0, .int .i64 0, .int .u64 0, .int .i64 0, .int .i64 0, .int .u64 0] 24)) (.cells #[.int .i64 0, .int .i64 1, .int .i64 0, .int .i64 1, .int .i64 1, .int .i64 1, .int .i64 1, .int .i64 0, .int .i64 0, .int .i64 1, .int .i64 1] 3)).block _ (by simp)).trans (World.alloc_heap_new w4 _)
  have h5b : w5.heap[w4.heap.size + 1]? = some (.cells (wkPicks.map (Value.int .i64)).toArray 3 (0, 0)) := by
    have := World.alloc_heap_new (w4.alloc (.cells #[.int .i64 0, .int .i64 0, .int .u64 0, .int .i64 0, .int .i64 0, .int .u64 0] 24)) (.cells #[.int .i64 0, .int .i64 1, .int .i64 0, .int .i64 1, .int .i64 1, .int .i64 1, .int .i64 1, .int .i64 0, .int .i64 0, .int .i64 1, .int .i64 1] 3)
    rw [World.size_alloc, ← hw5] at this
    exact this
  have hS : SpinsAt w5 (.slice (some ⟨w4.heap.size, 0, none⟩) 2 2) [⟨0, 0, 0⟩, ⟨0, 0, 0⟩] := ⟨_, 2, rfl, fun _ => ⟨_, 0, rfl, fun j u hj => by
    simp only [World.cell?, h5a, Nat.zero_add]
    simpa using hj⟩⟩
  have hN : NumsAt w5 .i64 (.slice (some ⟨w4.heap.size + 1, 0, none⟩) 11 11) wkPicks := ⟨_, 11, rfl, fun _ => ⟨_, 0, rfl, fun i hi => by
    simp only [World.cell?, h5b, Nat.zero_add]
    simp [hi]⟩⟩
  have HPLAY := Lib.hid (wk_play (.agg #[.slice (some ⟨gw, 0, none⟩) 2 cw, .slice (some ⟨gl, 0, none⟩) 2 cl, .bool false]) _ _ w5 ⟨_, _, rfl, nums_of_owns (by decide) (owns_below HO4.out.1 hb5), bools_of_owns (by decide) (owns_below HO4.out.2 hb5)⟩ hS hN)
  have HB5 := Lib.hid (below_then HB4.out HB4.out.size hb5)
  rw [← hw5]
  clear hw5 hb5 h5a h5b hS hN HO4 HB4 hd0 hd1 hd2
  refine HPLAY.out.mono ?_
  rintro e w6 ⟨⟨gx, cx, y, g, gh, ch, rfl, ⟨x0, x1⟩, ⟨y0, y1⟩, hn, py, ny, cy, rfl⟩, hb6⟩
  have HB6 := Lib.hid (below_then HB5.out HB5.out.size hb6)
  have HNU := Lib.hid hn
  clear hb6 hn HPLAY HB5
  obtain ⟨w7, hw7⟩ : ∃ w7 : World, w7 = w6.alloc (.cells #[.slice (some ⟨gx, 0, none⟩) 2 cx, .slice py ny cy, .bool false] 46) := ⟨_, rfl⟩
  have hb7 : Below w6.heap.size w6 w7 := by rw [hw7]; exact below1 w6 _
  have x0 := below_cell hb7 x0
  have x1 := below_cell hb7 x1
  have y0 := below_cell hb7 y0
  have y1 := below_cell hb7 y1
  have HNU := Lib.hid (nums_below HNU.out hb7)
  have HB7 := Lib.hid (below_then HB6.out HB6.out.size hb7)
  have HM7 := Lib.hid (show MBox w7 w6.heap.size (.slice (some ⟨gx, 0, none⟩) 2 cx) (.slice py ny cy) false by rw [hw7]; exact MBox.new w6 _ _ _)
  have HW7 := Lib.hid hw7
  clear hw7 hb7 HB6
  go_upto_region 4 with (fail)
  rw [← HW7.out]
  obtain ⟨⟨hd0, hd1, hd2⟩, _⟩ := mbox_cells HM7.out
  clear HW7 HM7
  have HY := Lib.hid (And.intro y0 y1)
  go_wp2_with fail
  have hE : NumsAt (w7.alloc (.cells #[.int .i64 0, .int .i64 1] 3)) .i64 (.slice (some ⟨w7.heap.size, 0, none⟩) 2 2) [0, 1] := ⟨_, 2, rfl, fun _ => ⟨_, 0, rfl, fun i hi => by
    have hnew := World.alloc_heap_new w7 (.cells (([0, 1] : List Int).map (Value.int .i64)).toArray 3)
    have hnew' : (w7.alloc (.cells #[.int .i64 0, .int .i64 1] 3)).heap[w7.heap.size]? = some (.cells (([0, 1] : List Int).map (Value.int .i64)).toArray 3 (0, 0)) := hnew
    simp only [World.cell?, hnew', Nat.zero_add]
    rw [List.getElem?_toArray, List.getElem?_map, List.getElem?_eq_getElem hi]
    rfl⟩⟩
  have hb8 := below1 w7 (.cells #[.int .i64 0, .int .i64 1] 3)
  refine (equalI_c _ _ [0, 1] [0, 1] _ (nums_below HNU.out hb8) hE (by decide) (by decide)).mono ?_
  rintro e w9 ⟨rfl, hb9⟩
  have hb79 := below_then hb8 hb8.size hb9
  have y0 := below_cell hb79 HY.out.1
  have y1 := below_cell hb79 HY.out.2
  have HB9 := Lib.hid (below_then HB7.out HB7.out.size hb79)
  clear hb8 hb9 hb79 hE HNU
  rw [show decide (([0, 1] : List Int) = [0, 1]) = true from rfl]
  go_wp2
  go_ret
  exact ⟨rfl, HB9.out⟩

end Go.Proofs.Ytcnpmkigiklnnaa
namespace Go.Proofs.Ytcnpmkigiklnnaa
open Go.RowKit Go.Shelf

theorem incI_small {k : Nat} (h : k ≤ 100) : incI (k : Int) = ((k + 1 : Nat) : Int) := by
  unfold incI wrap64
  omega
theorem thereB_one {n k : Nat} : thereB n (k : Int) 1 = decide (k < n) := by
  rw [Bool.eq_iff_iff, thereB_iff, decide_eq_true_iff]
  omega
theorem liveAt_nat {ws : List Int} {ls : List Bool} {k : Nat} : liveAt ws ls (k : Int) = (decide (k < ws.length) && ls.getD k false) := by
  unfold liveAt
  rw [thereB_one, Int.toNat_natCast]
theorem lay_live {us : List Int} {ms : List Bool} {k : Nat} (f : Bool) (hk : k ≤ 100) (h0 : k + 1 < us.length) (h1 : ms.getD k false = true) (h2 : ms.getD (k + 1) false = true) :
    layM us ms f (k : Int) = (((us.set k 0).set (k + 1) 0, f), ((us.getD k 0, true), ((us.set k 0).getD (k + 1) 0, true))) := by
  have a1 : liveAt us ms (k : Int) = true := by rw [liveAt_nat, h1]; simp; omega
  have a2 : liveAt (us.set k 0) ms ((k + 1 : Nat) : Int) = true := by rw [liveAt_nat, h2]; simp; omega
  unfold layM
  rw [incI_small hk]
  have e1 : accM us ms f 2 (k : Int) 0 0 = (us.set k 0, f, (us.getD k 0, true)) := by
    unfold accM
    rw [if_pos a1, if_neg (by decide), if_pos (.inl rfl), Int.toNat_natCast]
  simp only [e1]
  have e2 : accM (us.set k 0) ms f 2 ((k + 1 : Nat) : Int) 0 0 = ((us.set k 0).set (k + 1) 0, f, ((us.set k 0).getD (k + 1) 0, true)) := by
    unfold accM
    rw [if_pos a2, if_neg (by decide), if_pos (.inl rfl), Int.toNat_natCast]
  simp only [e2]
/-- Lay, where both words are live. -/
theorem qlay_yes (v : Value) (us : List Int) (ms : List Bool) (f : Bool) (k : Nat) (W : World) (hv : MemAt W v us ms f) (hr : rightB us ms = true) (hk : k ≤ 100) (h0 : k + 1 < us.length) (h1 : ms.getD k false = true) (h2 : ms.getD (k + 1) false = true) :
    Calls Try.prog 20 #[v, .int .i64 (k : Int)] W fun e w' => LiveOk W.heap.size ((us.set k 0).set (k + 1) 0) ms f e w' ∧ Below W.heap.size W w' := by
  refine (qlay v us ms f (k : Int) W hv hr (by omega)).mono fun e w' h => ?_
  rw [lay_live f hk h0 h1 h2] at h
  obtain ⟨⟨_, _, x, y, rfl, hx, hy⟩ | ⟨hh, _⟩, hb⟩ := h
  · exact ⟨⟨_, rfl, x, y, rfl, by simpa using hx, hy⟩, hb⟩
  · simp at hh
/-- Lay, where one is not. -/
theorem qlay_no (v : Value) (us : List Int) (ms : List Bool) (f : Bool) (q : Int) (W : World) (hv : MemAt W v us ms f) (hr : rightB us ms = true) (hq : -9223372036854775808 ≤ q ∧ q ≤ 9223372036854775807) (h : liveAt us ms q = false ∨ (∃ k : Nat, q = (k : Int) ∧ k ≤ 100 ∧ liveAt us ms ((k + 1 : Nat) : Int) = false)) :
    Calls Try.prog 20 #[v, .int .i64 q] W fun e w' => e = .returned (.tuple #[.agg #[.slice none 0 0, .slice none 0 0, .bool false], .int .i64 2]) ∧ Below W.heap.size W w' := by
  refine (qlay v us ms f q W hv hr hq).mono fun e w' h' => ?_
  obtain ⟨⟨g0, g1, _⟩ | ⟨_, he⟩, hb⟩ := h'
  · exfalso
    rcases h with h | ⟨k, rfl, hk, h⟩
    · unfold layM accM at g0
      simp only [h, Bool.false_eq_true, if_false] at g0
    · unfold layM at g1
      rw [incI_small hk] at g1
      have : liveAt (accM us ms f 2 (k : Int) 0 0).1 ms ((k + 1 : Nat) : Int) = false := by
        rw [liveAt_nat, accM_length]
        rw [liveAt_nat] at h
        exact h
      simp only at g1
      generalize (accM us ms f 2 (k : Int) 0 0) = r at g1 this
      unfold accM at g1
      simp only [this, Bool.false_eq_true, if_false] at g1
  · exact ⟨he, hb⟩
theorem stepP_stay {ms : List Bool} {us : List Int} {f : Bool} {s : SpM} (h : hasS s = false) : stepP ms ⟨us, f, [s]⟩ 0 = ⟨us, f, [s]⟩ := by
  unfold stepP stepM
  simp [h]
/-- The document's Step. -/
theorem rstep_c (vx vy : Value) (us : List Int) (ms : List Bool) (f : Bool) (a p t : Int) (B : Nat) (W : World) (h0 : W.ownsRow B 22 1 vx us.length (us.map (Value.int .u64))) (h1 : W.ownsRow B 4 1 vy ms.length (ms.map Value.bool)) (hB : B ≤ W.heap.size) (hr : rightB us ms = true)
    {us2 : List Int} {f2 : Bool} {a2 p2 t2 : Int} (hP : stepP ms ⟨us, f, [⟨a, p, t⟩]⟩ 0 = ⟨us2, f2, [⟨a2, p2, t2⟩]⟩) :
    Calls Try.prog 23 #[.agg #[vx, vy, .bool f], .agg #[.int .i64 a, .int .i64 p, .int .u64 t]] W fun e w' => (∃ x y, e = .returned (.tuple #[.agg #[x, y, .bool f2], .agg #[.int .i64 a2, .int .i64 p2, .int .u64 t2]]) ∧
      w'.ownsRow B 22 1 x us2.length (us2.map (Value.int .u64)) ∧ w'.ownsRow B 4 1 y ms.length (ms.map Value.bool)) ∧ Below W.heap.size W w' := by
  cases hh : hasS ⟨a, p, t⟩ with
  | true =>
    have := rstep_yes B vx vy us ms f a p t W h0 h1 hB hr hh
    rw [hP] at this
    exact this
  | false =>
    rw [stepP_stay hh] at hP
    injection hP with e1 e2 e3
    injection e3 with e3
    injection e3 with e3 e4 e5
    subst e1 e2 e3 e4 e5
    obtain ⟨px, cx, rfl⟩ := owns_slice h0
    obtain ⟨py, cy, rfl⟩ := owns_slice h1
    refine (rstep_no px py us.length cx ms.length cy f a p t W hh).mono fun e w' ⟨he, hb⟩ => ⟨⟨_, _, he, owns_below h0 hb, owns_below h1 hb⟩, hb⟩
/-- What stays as long as only blocks from z on change. -/
def Stab (z : Nat) (F : World → Prop) : Prop := ∀ w w', F w → Keeps (fun q => z ≤ q) w w' → F w'
theorem Stab.below {z : Nat} {F : World → Prop} (h : Stab z F) {w w' : World} (hf : F w) (hb : Below w.heap.size w w') : F w' := h _ _ hf (Keeps.of_below hb)
theorem Stab.at {z y : Nat} {F : World → Prop} (h : Stab z F) {w w' : World} (hf : F w) (hk : Keeps (fun q => q = y) w w') (hy : z ≤ y) : F w' := h _ _ hf (hk.sub fun q _ e => by have e : q = y := e; rw [e]; exact hy)
/-- A memory and one who wants a lock are given variables. -/
def putMS (w : World) (x y : Value) (f : Bool) (a p t : Int) : World := (w.alloc (.cells #[x, y, .bool f] 46)).alloc (.cells #[.int .i64 a, .int .i64 p, .int .u64 t] 24)
theorem putMS_size (w : World) (x y : Value) (f : Bool) (a p t : Int) : (putMS w x y f a p t).heap.size = w.heap.size + 2 := by simp [putMS]
theorem putMS_below (w : World) (x y : Value) (f : Bool) (a p t : Int) : Below w.heap.size w (putMS w x y f a p t) := below2 w _ _
theorem putMS_mbox (w : World) (x y : Value) (f : Bool) (a p t : Int) : MBox (putMS w x y f a p t) w.heap.size x y f := (MBox.new w x y f).alloc _
theorem putMS_sbox (w : World) (x y : Value) (f : Bool) (a p t : Int) : SpBox (putMS w x y f a p t) (w.heap.size + 1) a p t := by
  have h1 : SpBox (putMS w x y f a p t) (w.alloc (.cells #[x, y, .bool f] 46)).heap.size a p t := World.alloc_heap_new _ _
  rw [World.size_alloc] at h1
  exact h1
theorem putMS_var {B : Nat} {w : World} {x y : Value} {us : List Int} {ms : List Bool} (f : Bool) (a p t : Int) (h0 : w.ownsRow B 22 1 x us.length (us.map (Value.int .u64))) (h1 : w.ownsRow B 4 1 y ms.length (ms.map Value.bool)) (hB : B ≤ w.heap.size) :
    PVar (putMS w x y f a p t) B (putMS w x y f a p t).heap.size w.heap.size x y us ms f :=
  ⟨putMS_mbox _ _ _ _ _ _ _, owns_below h0 (putMS_below _ _ _ _ _ _ _), owns_below h1 (putMS_below _ _ _ _ _ _ _), hB, by rw [putMS_size]; omega, fun g hg => by have := owns_lt h0 g hg; rw [putMS_size]; omega, fun g hg => by have := owns_lt h1 g hg; rw [putMS_size]; omega⟩
theorem putMS_nil {B : Nat} (w : World) (a p t : Int) (hB : B ≤ w.heap.size) : PVar (putMS w (.slice none 0 0) (.slice none 0 0) false a p t) B (putMS w (.slice none 0 0) (.slice none 0 0) false a p t).heap.size w.heap.size (.slice none 0 0) (.slice none 0 0) [] [] false :=
  ⟨putMS_mbox _ _ _ _ _ _ _, World.ownsRow_nil _ _ _ _, World.ownsRow_nil _ _ _ _, hB, by rw [putMS_size]; omega, fun g hg => by simp [Value.ownBlock] at hg, fun g hg => by simp [Value.ownBlock] at hg⟩
theorem PVar.set {w : World} {lo hi z g n c : Nat} {y : Value} {us : List Int} {ms : List Bool} {f : Bool} (h : PVar w lo hi z (.slice (some ⟨g, 0, none⟩) n c) y us ms f) (k : Nat) (v : Int) :
    PVar (w.setCell ⟨g, k, none⟩ (.int .u64 v)) lo hi z (.slice (some ⟨g, 0, none⟩) n c) y (us.set k v) ms f := by
  have hw := h.words
  have hk : Keeps (fun q => q = g) w (w.setCell ⟨g, k, none⟩ (.int .u64 v)) := Keeps.setCell w (S := fun q => q = g) (p := ⟨g, k, none⟩) rfl _
  have hn : n = us.length := by
    rcases hw.2 with ⟨hh, _⟩ | ⟨g', cap, cur, hh, _⟩
    · cases hh
    · injection hh
  subst hn
  have hs := (hw.stored k (.int .u64 v)).1
  rw [← List.map_set] at hs
  refine ⟨h.box.keeps hk (fun e => ?_), by rw [List.length_set]; exact hs, hk.row h.lives (fun g' hg' e => ?_), h.from', h.to', h.wlt, h.llt⟩
  · exact h.box.row hw (by decide) rfl e
  · have e' : g' = g := e
    subst e'
    exact owns_ne hw h.lives (by decide) rfl hg' rfl
theorem qs_step (v : Value) (us : List Int) (ms : List Bool) (f : Bool) (a p t : Int) (W : World) (hv : MemAt W v us ms f) (hr : rightB us ms = true) (hW : WRange us) (hs : rightS ⟨a, p, t⟩ = true) (hsr : SpR ⟨a, p, t⟩)
    {us2 : List Int} {f2 : Bool} {a2 p2 t2 : Int} (hP : stepP ms ⟨us, f, [⟨a, p, t⟩]⟩ 0 = ⟨us2, f2, [⟨a2, p2, t2⟩]⟩) :
    Calls Try.prog 21 #[v, .agg #[.int .i64 a, .int .i64 p, .int .u64 t]] W fun e w' => (∃ x y, e = .returned (.tuple #[.agg #[x, y, .bool f2], .agg #[.int .i64 a2, .int .i64 p2, .int .u64 t2], .int .i64 0]) ∧
      w'.ownsRow W.heap.size 22 1 x us2.length (us2.map (Value.int .u64)) ∧ w'.ownsRow W.heap.size 4 1 y ms.length (ms.map Value.bool)) ∧ Below W.heap.size W w' := by
  have := qstep_ok v us ms f a p t W hv hr hW hs hsr
  rw [hP] at this
  exact this
theorem stepP_form (ms : List Bool) (us : List Int) (f : Bool) (s : SpM) : ∃ us2 f2 a2 p2 t2, stepP ms ⟨us, f, [s]⟩ 0 = ⟨us2, f2, [⟨a2, p2, t2⟩]⟩ ∧ us2.length = us.length := by
  refine ⟨_, _, _, _, _, rfl, ?_⟩
  unfold stepM
  split
  · exact accM_length _ _ _ _ _ _ _
  · rfl
/-- Where a lock can't be laid. -/
theorem lay_cases (us : List Int) (ms : List Bool) (q : Int) (h16 : us.length ≤ 16) (hlen : ms.length = us.length) :
    (q < 0 ∧ liveAt us ms q = false) ∨ (∃ k : Nat, q = (k : Int) ∧ us.length ≤ k + 1 ∧ (liveAt us ms q = false ∨ (∃ k : Nat, q = (k : Int) ∧ k ≤ 100 ∧ liveAt us ms ((k + 1 : Nat) : Int) = false))) ∨
    (∃ k : Nat, q = (k : Int) ∧ k ≤ 100 ∧ k + 1 < us.length ∧ ms[k]? = some false ∧ liveAt us ms q = false) ∨
    (∃ k : Nat, q = (k : Int) ∧ k ≤ 100 ∧ k + 1 < us.length ∧ ms[k]? = some true ∧ ms[k + 1]? = some false ∧ liveAt us ms ((k + 1 : Nat) : Int) = false) ∨
    (∃ k : Nat, q = (k : Int) ∧ k ≤ 100 ∧ k + 1 < us.length ∧ ms[k]? = some true ∧ ms[k + 1]? = some true) := by
  by_cases h0 : q < 0
  · have ht : thereB us.length q 1 = false := by
      rw [Bool.eq_false_iff]
      intro e
      have := thereB_iff.1 e
      omega
    exact .inl ⟨h0, by unfold liveAt; rw [ht, Bool.false_and]⟩
  obtain ⟨k, rfl⟩ := Int.eq_ofNat_of_zero_le (show 0 ≤ q by omega)
  by_cases h1 : us.length ≤ k + 1
  · refine .inr (.inl ⟨k, rfl, h1, ?_⟩)
    by_cases h2 : us.length ≤ k
    · left; rw [liveAt_nat]; simp; omega
    · exact .inr ⟨k, rfl, by omega, by rw [liveAt_nat]; simp; omega⟩
  · obtain ⟨b, hb⟩ : ∃ b, ms[k]? = some b := ⟨_, List.getElem?_eq_getElem (by omega)⟩
    obtain ⟨c, hc⟩ : ∃ c, ms[k + 1]? = some c := ⟨_, List.getElem?_eq_getElem (by omega)⟩
    cases b with
    | false => exact .inr (.inr (.inl ⟨k, rfl, by omega, by omega, hb, by rw [liveAt_nat, List.getD_eq_getElem?_getD, hb]; simp⟩))
    | true =>
      cases c with
      | false => exact .inr (.inr (.inr (.inl ⟨k, rfl, by omega, by omega, hb, hc, by rw [liveAt_nat, List.getD_eq_getElem?_getD, hc]; simp⟩)))
      | true => exact .inr (.inr (.inr (.inr ⟨k, rfl, by omega, by omega, hb, hc⟩)))
/-- Where a lock can't be laid, case by case. -/
def LayNo (us : List Int) (ms : List Bool) (q : Int) : Prop :=
  (q < 0 ∧ liveAt us ms q = false) ∨ (∃ k : Nat, q = (k : Int) ∧ us.length ≤ k + 1 ∧ (liveAt us ms q = false ∨ (∃ k : Nat, q = (k : Int) ∧ k ≤ 100 ∧ liveAt us ms ((k + 1 : Nat) : Int) = false))) ∨
    (∃ k : Nat, q = (k : Int) ∧ k ≤ 100 ∧ k + 1 < us.length ∧ ms[k]? = some false ∧ liveAt us ms q = false) ∨
    (∃ k : Nat, q = (k : Int) ∧ k ≤ 100 ∧ k + 1 < us.length ∧ ms[k]? = some true ∧ ms[k + 1]? = some false ∧ liveAt us ms ((k + 1 : Nat) : Int) = false)
theorem layno_live {us : List Int} {ms : List Bool} {q : Int} (h : LayNo us ms q) : liveAt us ms q = false ∨ (∃ k : Nat, q = (k : Int) ∧ k ≤ 100 ∧ liveAt us ms ((k + 1 : Nat) : Int) = false) := by
  rcases h with ⟨_, h⟩ | ⟨_, _, _, h⟩ | ⟨_, _, _, _, _, h⟩ | ⟨k, e, hk, _, _, _, h⟩
  · exact .inl h
  · exact h
  · exact .inl h
  · exact .inr ⟨k, e, hk, h⟩
/-- A truth value of a variable's memory. -/
theorem PVar.lv {w : World} {lo hi z g n c : Nat} {x : Value} {us : List Int} {ms : List Bool} {f : Bool} (h : PVar w lo hi z x (.slice (some ⟨g, 0, none⟩) n c) us ms f) {k : Nat} {b : Bool} (hk : ms[k]? = some b) : w.cell? ⟨g, k, none⟩ = some (.bool b) := by
  obtain ⟨hlt, rfl⟩ := List.getElem?_eq_some_iff.1 hk
  have hn : n = ms.length := by
    rcases h.lives.2 with ⟨hh, _⟩ | ⟨g', cap, cur, hh, _⟩
    · cases hh
    · injection hh
  subst hn
  have hl := h.lives
  have hw1 := hl.cellAt k (by omega)
  have hwi : k < (ms.map Value.bool).length := by rw [List.length_map]; exact hlt
  rw [List.getElem?_eq_getElem hwi, List.getElem_map] at hw1
  exact hw1
theorem PVar.word {w : World} {lo hi z g n c : Nat} {y : Value} {us : List Int} {ms : List Bool} {f : Bool} (h : PVar w lo hi z (.slice (some ⟨g, 0, none⟩) n c) y us ms f) {k : Nat} (hk : k < us.length) : w.cell? ⟨g, k, none⟩ = some (.int .u64 us[k]) := by
  have hn : n = us.length := by
    rcases h.words.2 with ⟨hh, _⟩ | ⟨g', cap, cur, hh, _⟩
    · cases hh
    · injection hh
  subst hn
  have hl := h.words
  have hw1 := hl.cellAt k (by omega)
  have hwi : k < (us.map (Value.int .u64)).length := by rw [List.length_map]; exact hk
  rw [List.getElem?_eq_getElem hwi, List.getElem_map] at hw1
  exact hw1
theorem PVar.wfree {w : World} {lo hi z g n c : Nat} {y : Value} {us : List Int} {ms : List Bool} {f : Bool} (h : PVar w lo hi z (.slice (some ⟨g, 0, none⟩) n c) y us ms f) (k : Nat) : w.frozen? ⟨g, k, none⟩ = false := by
  have hn : n = us.length := by
    rcases h.words.2 with ⟨hh, _⟩ | ⟨g', cap, cur, hh, _⟩
    · cases hh
    · injection hh
  subst hn
  have hl := h.words
  exact hl.frozenAt k
theorem run_cmp_spin (a p t a' p' t' : Int) (w : World) : (Op.equalIn 10000 24 (.agg #[.int .i64 a, .int .i64 p, .int .u64 t]) (.agg #[.int .i64 a', .int .i64 p', .int .u64 t'])).run Try.prog w = .ok (decide (a = a' ∧ p = p' ∧ t = t')) w := by
  rw [Op.equalIn]
  have hst : Try.prog.stoodInHeld 24 = false := by kernel_rfl
  have hpr : ∀ w, Sem.run Try.prog program w = .ok Try.prog w := fun _ => rfl
  simp only [Sem.run_bind, run_underlying Try.underlying24, Result.andThen_ok, hpr, hst, Bool.false_eq_true, if_false]
  have p0 : ∀ (a p t : Int) w, (part 3 #[.int .i64 a, .int .i64 p, .int .u64 t] 0).run Try.prog w = .ok (.int .i64 a) w := fun a p t w => by kernel_rfl
  have p1 : ∀ (a p t : Int) w, (part 3 #[.int .i64 a, .int .i64 p, .int .u64 t] 1).run Try.prog w = .ok (.int .i64 p) w := fun a p t w => by kernel_rfl
  have p2 : ∀ (a p t : Int) w, (part 22 #[.int .i64 a, .int .i64 p, .int .u64 t] 2).run Try.prog w = .ok (.int .u64 t) w := fun a p t w => by kernel_rfl
  have e0 : ∀ (p q : Int) w, (Op.equalIn 9999 3 (.int .i64 p) (.int .i64 q)).run Try.prog w = .ok (p == q) w := fun p q w => by rw [run_equalIn_int w 9998 3 .i64 .i64 p q Try.underlying3]
  have e1 : ∀ (p q : Int) w, (Op.equalIn 9999 22 (.int .u64 p) (.int .u64 q)).run Try.prog w = .ok (p == q) w := fun p q w => by rw [run_equalIn_int w 9998 22 .u64 .u64 p q Try.underlying22]
  simp [Sem.run_bind, Result.andThen_ok, p0, p1, p2, e0, e1]
  clear p0 p1 p2 e0 e1 hst hpr
  by_cases h0 : a = a' <;> by_cases h1 : p = p' <;> by_cases h2 : t = t' <;> simp [*]
theorem run_neq_spin (a p t a' p' t' : Int) (w : World) : (binOp .neq 24 (.agg #[.int .i64 a, .int .i64 p, .int .u64 t]) (.agg #[.int .i64 a', .int .i64 p', .int .u64 t'])).run Try.prog w = .ok (.bool (!decide (a = a' ∧ p = p' ∧ t = t'))) w := by
  rw [run_neq_struct]
  have := run_cmp_spin a p t a' p' t' w
  simp [this]
theorem run_neq_same (a p t : Int) (w : World) : (binOp .neq 24 (.agg #[.int .i64 a, .int .i64 p, .int .u64 t]) (.agg #[.int .i64 a, .int .i64 p, .int .u64 t])).run Try.prog w = .ok (.bool false) w := by
  rw [run_neq_spin]; simp

end Go.Proofs.Ytcnpmkigiklnnaa
