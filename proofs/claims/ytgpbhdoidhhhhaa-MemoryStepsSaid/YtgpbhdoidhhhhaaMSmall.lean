/-
  small, the chapter's memory: eight words, of which three are live; and whether two memories are the same that read so, and whether one says nothing.
  Conditions: as each has them.
-/
import Derived.Test.YtgpbhdoidhhhhaaMNew
import Derived.Test.YtgpbhdoidhhhhaaMLive
import Derived.Test.YtgpbhdoidhhhhaaMEqual
namespace Go.Proofs.Ytgpbhdoidhhhhaa
open Go.RowKit Go.Shelf

set_option maxRecDepth 100000 in
set_option maxHeartbeats 2000000 in
theorem same_c (v0 v1 : Value) (ws : List Int) (ls : List Bool) (f0 f1 : Bool) (W : World) (h0 : MemAt W v0 ws ls f0) (h1 : MemAt W v1 ws ls f1) (hw : ws.length ≤ 9223372036854775807) (hl : ls.length ≤ 9223372036854775807) :
    Calls Try.prog 27 #[v0, v1] W fun e w' => e = .returned (.bool (f0 == f1)) ∧ Below W.heap.size W w' := by
  obtain ⟨vw, vl, rfl, ⟨p0, c0, rfl, hw0⟩, q0, d0, rfl, hl0⟩ := h0
  obtain ⟨uw, ul, rfl, ⟨p1, c1, rfl, hw1⟩, q1, d1, rfl, hl1⟩ := h1
  have HW0 := Lib.hid (show NumsAt W .u64 (.slice p0 ws.length c0) ws from ⟨_, _, rfl, hw0⟩)
  have HW1 := Lib.hid (show NumsAt W .u64 (.slice p1 ws.length c1) ws from ⟨_, _, rfl, hw1⟩)
  have HL0 := Lib.hid (show BoolsAt W (.slice q0 ls.length d0) ls from ⟨_, _, rfl, hl0⟩)
  have HL1 := Lib.hid (show BoolsAt W (.slice q1 ls.length d1) ls from ⟨_, _, rfl, hl1⟩)
  clear hw0 hw1 hl0 hl1
  have hB : Below W.heap.size W ((W.alloc (.cells #[.slice p0 ws.length c0, .slice q0 ls.length d0, .bool f0] 25)).alloc (.cells #[.slice p1 ws.length c1, .slice q1 ls.length d1, .bool f1] 25)) := ((Below.refl _ _).alloc (Nat.le_refl _) _).alloc (by simp) _
  have HZ0 := Lib.hid ((MBox.new W (.slice p0 ws.length c0) (.slice q0 ls.length d0) f0).alloc (.cells #[.slice p1 ws.length c1, .slice q1 ls.length d1, .bool f1] 25))
  have HZ1 := MBox.new (W.alloc (.cells #[.slice p0 ws.length c0, .slice q0 ls.length d0, .bool f0] 25)) (.slice p1 ws.length c1) (.slice q1 ls.length d1) f1
  rw [World.size_alloc] at HZ1
  have HZ1' := Lib.hid HZ1
  clear HZ1
  go_enter Try.func27, Try.ntmps27
  go_wp2_with fail
  refine (equalW_same _ _ ws _ (nums_below HW0.out hB) (nums_below HW1.out hB) hw).mono ?_
  rintro e w1 ⟨rfl, hb1⟩
  have HY0 := Lib.hid (HZ0.out.below hb1)
  have HY1 := Lib.hid (HZ1'.out.below hb1)
  obtain ⟨⟨ha0, ha1, ha2⟩, _⟩ := mbox_cells HY0.out
  obtain ⟨⟨hb0, hb1', hb2⟩, _⟩ := mbox_cells HY1.out
  have hB1 := below_then hB hB.size hb1
  clear hb1 hB
  go_wp2_with fail
  refine (equalB_same _ _ ls _ (bools_below HL0.out hB1) (bools_below HL1.out hB1) hl).mono ?_
  rintro e w2 ⟨rfl, hb3⟩
  clear ha0 ha1 ha2 hb0 hb1' hb2
  obtain ⟨⟨ha0, ha1, ha2⟩, _⟩ := mbox_cells (HY0.out.below hb3)
  obtain ⟨⟨hb0, hb1', hb2⟩, _⟩ := mbox_cells (HY1.out.below hb3)
  have hB2 := below_then hB1 hB1.size hb3
  clear hb3 hB1
  go_wp2
  go_ret
  exact ⟨ret_bool (by simp), hB2⟩

set_option maxRecDepth 100000 in
theorem none_c (W : World) : Calls Try.prog 26 #[memZ] W fun e w' => e = .returned (.bool true) ∧ Below W.heap.size W w' := by
  unfold memZ
  go_enter Try.func26, Try.ntmps26
  go_wp2
  go_ret
  exact ⟨rfl, (Below.refl _ _).alloc (Nat.le_refl _) _⟩

/-- The chapter's memory. -/
def smallW : List Int := [0, 0, 0, 0, 0, 0, 0, 0]
def smallL : List Bool := [false, false, true, true, true, false, false, false]
def SmallOk (B : Nat) (e : Ending) (w' : World) : Prop :=
  ∃ gw cw gl cl, e = .returned (.tuple #[.agg #[.slice (some ⟨gw, 0, none⟩) 8 cw, .slice (some ⟨gl, 0, none⟩) 8 cl, .bool false], .bool true]) ∧
  w'.ownsRow B 42 1 (.slice (some ⟨gw, 0, none⟩) 8 cw) 8 (smallW.map (Value.int .u64)) ∧ w'.ownsRow B 4 1 (.slice (some ⟨gl, 0, none⟩) 8 cl) 8 (smallL.map Value.bool)

set_option maxRecDepth 100000 in
set_option maxHeartbeats 4000000 in
theorem small_c (W : World) : Calls Try.prog 29 #[] W fun e w' => SmallOk W.heap.size e w' ∧ Below W.heap.size W w' := by
  have hB : Below W.heap.size W (W.alloc (.cells #[.slice none 0 0, .slice none 0 0, .bool false] 25)) := (Below.refl _ _).alloc (Nat.le_refl _) _
  have HR := Lib.hid (MBox.new W (.slice none 0 0) (.slice none 0 0) false)
  go_enter Try.func29, Try.ntmps29
  go_wp2_with fail
  refine (new_c _).mono ?_
  rintro e w1 ⟨⟨_, rfl, vw, vl, rfl, how, hol⟩, hb1⟩
  have HR1 := Lib.hid (HR.out.below hb1)
  have hB1 := below_then hB hB.size hb1
  clear hb1 hB HR
  obtain ⟨gw, cw, rfl, hgw, hgw3⟩ := own_form how (by decide)
  obtain ⟨gl, cl, rfl, hgl, hgl3⟩ := own_form hol (by decide)
  have hcapl := (own_cap hol).1
  have hws : (w1.alloc (.cells #[.slice (some ⟨gw, 0, none⟩) 8 cw, .slice (some ⟨gl, 0, none⟩) 8 cl, .bool false] 25)).heap.size = w1.heap.size + 1 := by simp
  have hb2 : Below w1.heap.size w1 (w1.alloc (.cells #[.slice (some ⟨gw, 0, none⟩) 8 cw, .slice (some ⟨gl, 0, none⟩) 8 cl, .bool false] 25)) := (Below.refl _ _).alloc (Nat.le_refl _) _
  have hmem : MemAt (w1.alloc (.cells #[.slice (some ⟨gw, 0, none⟩) 8 cw, .slice (some ⟨gl, 0, none⟩) 8 cl, .bool false] 25)) (.agg #[.slice (some ⟨gw, 0, none⟩) 8 cw, .slice (some ⟨gl, 0, none⟩) 8 cl, .bool false]) (List.replicate 8 0) (List.replicate 8 false) false :=
    ⟨_, _, rfl, nums_of_owns (by decide) (owns_below how hb2), bools_of_owns (by decide) (owns_below hol hb2)⟩
  have HLIVE := Lib.hid (live_yes _ _ _ false 2 3 _ hmem (by intro x y p n c e; injection e with e; injection e with e; injection e with _ e; injection e with e _; injection e with _ e1 e2; subst e1; subst e2; exact hcapl) (by decide) (by decide) (by decide) (by decide) (by decide))
  have HZ2 := Lib.hid (MBox.new w1 (.slice (some ⟨gw, 0, none⟩) 8 cw) (.slice (some ⟨gl, 0, none⟩) 8 cl) false)
  have HR2 := Lib.hid (HR1.out.below hb2)
  have hB2 := below_then hB1 hB1.size hb2
  clear hmem hb2 how hol hB1 HR1
  go_wp2_with fail
  refine HLIVE.out.mono ?_
  rintro e w3 ⟨⟨_, rfl, vw2, vl2, rfl, how2, hol2⟩, hb3⟩
  obtain ⟨gw2, cw2, rfl, hgw2, hgw4⟩ := own_form how2 (by decide)
  obtain ⟨gl2, cl2, rfl, hgl2, hgl4⟩ := own_form hol2 (by decide)
  have e1 : fill (List.replicate 8 (0 : Int)) (Int.toNat 2) 0 (Int.toNat 3) = smallW := by decide
  have e2 : fill (List.replicate 8 false) (Int.toNat 2) true (Int.toNat 3) = smallL := by decide
  rw [e1, e2]
  rw [e1] at how2
  rw [e2] at hol2
  rw [show smallW.length = 8 from rfl] at how2 ⊢
  rw [show smallL.length = 8 from rfl] at hol2 ⊢
  rw [World.size_alloc] at hgw2 hgl2 hgw hgl
  obtain ⟨⟨hd0, hd1, hd2⟩, he0, he1, he2⟩ := mbox_cells (HZ2.out.below hb3)
  obtain ⟨⟨hr0, hr1, hr2⟩, hs0, hs1, hs2⟩ := mbox_cells (HR2.out.below hb3)
  have hB3 := below_then hB2 hB2.size hb3
  have hszW : W.heap.size < w1.heap.size := by omega
  have hk1 : Keeps (fun q => q = w1.heap.size ∨ q = W.heap.size) w3 ((((((w3.setCell ⟨w1.heap.size, 0, none⟩ (.slice (some ⟨gw2, 0, none⟩) 8 cw2)).setCell ⟨w1.heap.size, 1, none⟩ (.slice (some ⟨gl2, 0, none⟩) 8 cl2)).setCell ⟨w1.heap.size, 2, none⟩ (.bool false)).setCell ⟨W.heap.size, 0, none⟩ (.slice (some ⟨gw2, 0, none⟩) 8 cw2)).setCell ⟨W.heap.size, 1, none⟩ (.slice (some ⟨gl2, 0, none⟩) 8 cl2)).setCell ⟨W.heap.size, 2, none⟩ (.bool false)) :=
    (((((Keeps.setCell w3 (p := ⟨w1.heap.size, 0, none⟩) (.inl rfl) _).trans (Keeps.setCell _ (p := ⟨w1.heap.size, 1, none⟩) (.inl rfl) _)).trans (Keeps.setCell _ (p := ⟨w1.heap.size, 2, none⟩) (.inl rfl) _)).trans (Keeps.setCell _ (p := ⟨W.heap.size, 0, none⟩) (.inr rfl) _)).trans (Keeps.setCell _ (p := ⟨W.heap.size, 1, none⟩) (.inr rfl) _)).trans (Keeps.setCell _ (p := ⟨W.heap.size, 2, none⟩) (.inr rfl) _)
  have ho1 := (hk1.row how2 (by intro g hg; simp [Value.ownBlock] at hg; omega)).mono (base' := W.heap.size) (by simp; omega)
  have ho2 := (hk1.row hol2 (by intro g hg; simp [Value.ownBlock] at hg; omega)).mono (base' := W.heap.size) (by simp; omega)
  have hBe := hB3.trans (hk1.below hB3.size (by intro q hq; omega))
  have hne1 : W.heap.size ≠ w1.heap.size := by omega
  have hne2 : w1.heap.size ≠ W.heap.size := by omega
  clear hk1 how2 hol2 hb3 hB3 hB2 e1 e2
  go_wp2
  exact bodyPost_ret (v := .tuple #[.agg #[.slice (some ⟨gw2, 0, none⟩) 8 cw2, .slice (some ⟨gl2, 0, none⟩) 8 cl2, .bool false], .bool true]) (by simp [results, Try.results29, go_sem, hr0, hr1, hr2]) rfl ⟨⟨gw2, cw2, gl2, cl2, rfl, ho1, ho2⟩, hBe⟩

end Go.Proofs.Ytgpbhdoidhhhhaa
