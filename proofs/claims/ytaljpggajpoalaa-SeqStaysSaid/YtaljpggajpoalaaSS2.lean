/-
  SeqStays: a read changes nothing but by faults, and may be.
  Conditions: the ranges of Go's types.
-/
import Derived.Test.YtaljpggajpoalaaSS1
namespace Go.Proofs.Ytaljpggajpoalaa
open Go.RowKit Go.Shelf
attribute [local go_sem] Oper.semAt_some

set_option maxRecDepth 100000 in
set_option maxHeartbeats 8000000 in
theorem stays_law (v0 v1 : Value) (f : Bool) (ws : List Int) (ls : List Bool) (s : RdM) (rv : Value) (rs : List Int) (steps : Int) (W : World) (h0 : ArgR W v0 (ws.map (Value.int .u64))) (h1 : ArgR W v1 (ls.map Value.bool)) (hw : ws.length ≤ 9223372036854775807) (hl : ls.length ≤ 9223372036854775807) (hwr : WRange ws)
    (h2 : ArgR W rv (rs.map (Value.int .u64))) (hrl : rs.length ≤ 9223372036854775807) (hb : 0 ≤ s.b ∧ s.b ≤ 18446744073709551615) (hst : -9223372036854775808 ≤ steps ∧ steps ≤ 9223372036854775807) :
    Calls Try.prog 8 #[.agg #[v0, v1, .bool f], rdV s rv, .int .i64 steps] W fun e w' => e = .returned (.bool true) ∧ Below W.heap.size W w' := by
  have HA := Lib.hid (And.intro h0 (And.intro h1 h2))
  obtain ⟨p0, n0, c0, rfl, -, -⟩ := h0
  obtain ⟨p1, n1, c1, rfl, -, -⟩ := h1
  obtain ⟨p2, n2, c2, rfl, -, -⟩ := h2
  obtain ⟨us, hus⟩ : ∃ x, x = ws.take 48 := ⟨_, rfl⟩
  obtain ⟨ms, hms⟩ : ∃ x, x = ls.take 48 := ⟨_, rfl⟩
  obtain ⟨vs, hvs⟩ : ∃ x, x = rs.take 18 := ⟨_, rfl⟩
  have HOW := Lib.hid (fun (Z : World) (hb : Below W.heap.size W Z) => hus ▸ hms ▸ own_c (.slice p0 n0 c0) (.slice p1 n1 c1) f ws ls Z (HA.out.1.below hb) (HA.out.2.1.below hb) hw hl)
  have HOR := Lib.hid (fun (Z : World) (hb : Below W.heap.size W Z) => hvs ▸ ownRead_c s (.slice p2 n2 c2) rs Z (HA.out.2.2.below hb) hrl)
  have HRG := Lib.hid (show WRange us ∧ us.length ≤ 48 ∧ vs.length ≤ 18 ∧ ms.length ≤ 48 from ⟨fun x hx => hwr x (List.mem_of_mem_take (hus ▸ hx)), by rw [hus, List.length_take]; omega, by rw [hvs, List.length_take]; omega, by rw [hms, List.length_take]; omega⟩)
  have HSB := Lib.hid hb
  obtain ⟨a, g, m, ph, b, t0⟩ := s
  dsimp only at *
  obtain ⟨w0, hw0⟩ : ∃ X : World, X = (W.alloc (.cells #[.slice p0 n0 c0, .slice p1 n1 c1, .bool f] 44)).alloc (.cells #[.int .i64 a, .int .i64 g, .int .i64 m, .int .i64 ph, .int .u64 b, .slice p2 n2 c2, .int .i64 t0] 29) := ⟨_, rfl⟩
  have HM0 := Lib.hid (show MBox w0 W.heap.size (.slice p0 n0 c0) (.slice p1 n1 c1) f by rw [hw0]; exact (MBox.new W _ _ f).alloc _)
  have HR0 := Lib.hid (show RdBox w0 (W.heap.size + 1) ⟨a, g, m, ph, b, t0⟩ (.slice p2 n2 c2) by
    have h := World.alloc_heap_new (W.alloc (.cells #[.slice p0 n0 c0, .slice p1 n1 c1, .bool f] 44)) (.cells #[.int .i64 a, .int .i64 g, .int .i64 m, .int .i64 ph, .int .u64 b, .slice p2 n2 c2, .int .i64 t0] 29)
    rw [World.size_alloc, ← hw0] at h
    exact h)
  have HB0 := Lib.hid (show Below W.heap.size W w0 by rw [hw0]; exact below2 _ _ _)
  have HW0 := Lib.hid hw0
  have hst1 := hst.1
  have hst2 := hst.2
  clear hw0 hus hms hvs hw hl hwr hrl hb HA hst
  unfold rdV at *
  dsimp only at *
  go_enter Try.func8, Try.ntmps8
  go_wp2_with fail
  rw [← HW0.out]
  clear HW0
  refine (ewakes w0).mono ?_
  rintro e w1 ⟨rfl, hb1⟩
  have HM1 := Lib.hid (HM0.out.below hb1)
  have HR1 := Lib.hid (HR0.out.below hb1)
  have HB1 := Lib.hid (below_then HB0.out HB0.out.size hb1)
  clear hb1 HM0 HR0 HB0
  go_upto_region 3 with fail
  go_cut [7, 8] (fun s7 s8 wc => ∃ zm zr : Nat, s7 = .pointer (some ⟨zm, 0, none⟩) ∧ s8 = .pointer (some ⟨zr, 0, none⟩) ∧ W.heap.size ≤ zm ∧ W.heap.size ≤ zr ∧ Hid (StV W.heap.size wc zm zr us ms f ⟨a, g, m, ph, b, t0⟩ vs) ∧ Hid (Below W.heap.size W wc))
  case first =>
    refine wpTwo_begin (T := fun w' => MBox w' W.heap.size (.slice p0 n0 c0) (.slice p1 n1 c1) f ∧ RdBox w' (W.heap.size + 1) ⟨a, g, m, ph, b, t0⟩ (.slice p2 n2 c2)) (S := fun _ => True) (late := fun _ => false) (by kernel_rfl) ?_
    obtain ⟨X0, hX0⟩ : ∃ X : World, X = w1.drew := ⟨_, rfl⟩
    rw [← hX0]
    have hb : Below w1.heap.size w1 X0 := by rw [hX0]; exact (Below.refl _ _).drew
    have hT0 := And.intro (HM1.out.below hb) (HR1.out.below hb)
    have HB0 := Lib.hid (below_then HB1.out HB1.out.size hb)
    have HZA := Lib.hid (show W.heap.size + 1 < w1.heap.size from HR1.out.lt)
    clear hX0 hb HM1 HR1
    refine wpTwo_takeT (i := 0) (v := .agg #[.slice p0 n0 c0, .slice p1 n1 c1, .bool f]) rfl (by kernel_rfl) (by kernel_rfl) (by kernel_rfl) (fun _ _ _ h => h) ⟨by rfl, ?_⟩ hT0 ?_
    · rintro w hTw
      obtain ⟨⟨t1, t2, t3⟩, _⟩ := mbox_cells hTw.1
      go_simp
    (try simp only [Act.put, List.getElem_toArray, List.getElem_cons_zero, List.setIfInBounds_toArray, List.set_cons_succ, List.set_cons_zero])
    refine wpTwo_takeT (i := 2) (v := .agg #[.int .i64 a, .int .i64 g, .int .i64 m, .int .i64 ph, .int .u64 b, .slice p2 n2 c2, .int .i64 t0]) rfl (by kernel_rfl) (by kernel_rfl) (by kernel_rfl) (fun _ _ _ h => h) ⟨by rfl, ?_⟩ hT0 ?_
    · rintro w hTw
      obtain ⟨t1, t2, t3, t4, t5, t6, t7⟩ := hTw.2.cells
      go_simp
    (try simp only [Act.put, List.getElem_toArray, List.getElem_cons_succ, List.getElem_cons_zero, List.setIfInBounds_toArray, List.set_cons_succ, List.set_cons_zero])
    refine wpTwo_ready (rs := [1, 4, 5]) (by kernel_rfl) (by simp) ?_
    refine (AllTwo.cons rfl (fun K hK => ?_) (AllTwo.cons rfl (fun K hK => ?_) (AllTwo.cons rfl (fun K hK => ?_) AllTwo.nil)))
    · go_simp
      refine (HOW.out X0 HB0.out).mono ?_
      rintro e X1 ⟨⟨_, rfl, vx, vy, rfl, ho1, ho2⟩, hb⟩
      obtain ⟨px, cx, rfl⟩ := own_slice ho1
      obtain ⟨py, cy, rfl⟩ := own_slice ho2
      have hT1 := And.intro (hT0.1.below hb) (hT0.2.below hb)
      have HB1 := Lib.hid (below_then HB0.out HB0.out.size hb)
      have HO1 := Lib.hid (And.intro (ho1.mono HB0.out.size) (ho2.mono HB0.out.size))
      clear hb ho1 ho2
      go_wp2_with fail
      refine hK.out _ _ ⟨hT1, fun _ _ => trivial⟩ ?_
      clear hK K
      (try simp only [Act.put, List.getElem_toArray, List.getElem_cons_succ, List.getElem_cons_zero, List.setIfInBounds_toArray, List.set_cons_succ, List.set_cons_zero])
      refine wpTwo_ready (rs := [3, 4, 5]) (by kernel_rfl) (by simp) ?_
      refine (AllTwo.cons rfl (fun K hK => ?_) (AllTwo.cons rfl (fun K hK => ?_) (AllTwo.cons rfl (fun K hK => ?_) AllTwo.nil)))
      · go_simp
        refine (HOR.out X1 HB1.out).mono ?_
        rintro e X2 ⟨⟨pv, cv, rfl, ho⟩, hb⟩
        have hT2 := And.intro (hT1.1.below hb) (hT1.2.below hb)
        have HO2 := Lib.hid (And.intro (owns_below HO1.out.1 hb) (owns_below HO1.out.2 hb))
        have HB2 := Lib.hid (below_then HB1.out HB1.out.size hb)
        have HP2 := Lib.hid (ho.mono HB1.out.size)
        clear hb ho
        go_wp2_with fail
        refine hK.out _ _ ⟨hT2, fun _ _ => trivial⟩ ?_
        clear hK K
        (try simp only [Act.put, List.getElem_toArray, List.getElem_cons_succ, List.getElem_cons_zero, List.setIfInBounds_toArray, List.set_cons_succ, List.set_cons_zero])
        refine wpTwo_ready (rs := [4, 5]) (by kernel_rfl) (by simp) ?_
        refine (AllTwo.cons rfl (fun K hK => ?_) (AllTwo.cons rfl (fun K hK => ?_) AllTwo.nil))
        · go_simp
          obtain ⟨y7, hy⟩ : ∃ q, q = X2.heap.size := ⟨_, rfl⟩
          obtain ⟨X3, hX⟩ : ∃ X : World, X = X2.alloc (.cells #[.slice none 0 0, .slice none 0 0, .bool false] 44) := ⟨_, rfl⟩
          rw [← hX, ← hy]
          have hb : Below X2.heap.size X2 X3 := by rw [hX]; exact below1 _ _
          have hl7 : W.heap.size + 2 ≤ y7 := by rw [hy]; exact hT2.2.lt
          have hT3 := And.intro (hT2.1.below hb) (hT2.2.below hb)
          have HO3 := Lib.hid (And.intro (owns_below HO2.out.1 hb) (owns_below HO2.out.2 hb))
          have HP3 := Lib.hid (owns_below HP2.out hb)
          have HB3 := Lib.hid (below_then HB2.out HB2.out.size hb)
          have HA3 := Lib.hid (show MBox X3 y7 (.slice none 0 0) (.slice none 0 0) false by rw [hX, hy]; exact MBox.new _ _ _ _)
          clear hb hX hy
          refine hK.out _ _ ⟨hT3, fun _ _ => trivial⟩ ?_
          clear hK K
          (try simp only [Act.put, List.getElem_toArray, List.getElem_cons_succ, List.getElem_cons_zero, List.setIfInBounds_toArray, List.set_cons_succ, List.set_cons_zero])
          refine wpTwo_ready (rs := [5]) (by kernel_rfl) (by simp) ?_
          refine (AllTwo.cons rfl (fun K hK => ?_) AllTwo.nil)
          · go_simp
            obtain ⟨y8, hy⟩ : ∃ q, q = X3.heap.size := ⟨_, rfl⟩
            obtain ⟨X4, hX⟩ : ∃ X : World, X = X3.alloc (.cells #[.int .i64 0, .int .i64 0, .int .i64 0, .int .i64 0, .int .u64 0, .slice none 0 0, .int .i64 0] 29) := ⟨_, rfl⟩
            rw [← hX, ← hy]
            have hb : Below X3.heap.size X3 X4 := by rw [hX]; exact below1 _ _
            have hl8 : W.heap.size + 2 ≤ y8 := by rw [hy]; exact hT3.2.lt
            have hT4 := And.intro (hT3.1.below hb) (hT3.2.below hb)
            have HO4 := Lib.hid (And.intro (owns_below HO3.out.1 hb) (owns_below HO3.out.2 hb))
            have HP4 := Lib.hid (owns_below HP3.out hb)
            have HA4 := Lib.hid (HA3.out.below hb)
            have HB4 := Lib.hid (below_then HB3.out HB3.out.size hb)
            have HG4 := Lib.hid (show RdBox X4 y8 ⟨0, 0, 0, 0, 0, 0⟩ (.slice none 0 0) by rw [hX, hy]; exact World.alloc_heap_new _ _)
            clear hb hX hy
            refine hK.out _ _ ⟨hT4, fun _ _ => trivial⟩ ?_
            clear hK K
            (try simp only [Act.put, List.getElem_toArray, List.getElem_cons_succ, List.getElem_cons_zero, List.setIfInBounds_toArray, List.set_cons_succ, List.set_cons_zero])
            refine wpTwo_ready (rs := [6]) (by kernel_rfl) (by simp) ?_
            refine (AllTwo.cons rfl (fun K hK => ?_) AllTwo.nil)
            obtain ⟨⟨d0, d1, d2⟩, e0, e1, e2⟩ := mbox_cells HA4.out
            have hn1 : y7 ≠ y8 := mbox_rdbox HA4.out HG4.out
            obtain ⟨Xa, hXa⟩ : ∃ X : World, X = ((X4.setCell ⟨y7, 0, none⟩ (.slice px us.length cx)).setCell ⟨y7, 1, none⟩ (.slice py ms.length cy)).setCell ⟨y7, 2, none⟩ (.bool f) := ⟨_, rfl⟩
            have hka : Keeps (fun q => q = y7) X4 Xa := by rw [hXa]; exact ((Keeps.setCell X4 (S := fun q => q = y7) (p := ⟨y7, 0, none⟩) rfl _).trans (Keeps.setCell _ (S := fun q => q = y7) (p := ⟨y7, 1, none⟩) rfl _)).trans (Keeps.setCell _ (S := fun q => q = y7) (p := ⟨y7, 2, none⟩) rfl _)
            have hTa := And.intro (hT4.1.keeps hka (by intro e; have e : W.heap.size = y7 := e; omega)) (show RdBox Xa (W.heap.size + 1) ⟨a, g, m, ph, b, t0⟩ (.slice p2 n2 c2) from (hka.block (W.heap.size + 1) hT4.2.lt (by intro e; have e : W.heap.size + 1 = y7 := e; omega)).trans hT4.2)
            have HAa := Lib.hid (show MBox Xa y7 (.slice px us.length cx) (.slice py ms.length cy) f by rw [hXa]; exact HA4.out.set _ _ _)
            have HGa := Lib.hid (show RdBox Xa y8 ⟨0, 0, 0, 0, 0, 0⟩ (.slice none 0 0) from (hka.block y8 HG4.out.lt (fun e => hn1 e.symm)).trans HG4.out)
            have HOa := Lib.hid (And.intro (hka.row HO4.out.1 (fun g hg e => HA4.out.row HO4.out.1 (by decide) hg e.symm)) (And.intro (hka.row HO4.out.2 (fun g hg e => HA4.out.row HO4.out.2 (by decide) hg e.symm)) (hka.row HP4.out (fun g hg e => HA4.out.row HP4.out (by decide) hg e.symm))))
            have HBa := Lib.hid (HB4.out.trans (hka.below HB4.out.size (fun q hq => by have e : q = y7 := hq; omega)))
            go_simp
            rw [← hXa]
            refine hK.out _ _ ⟨hTa, fun _ _ => trivial⟩ ?_
            clear hK K d0 d1 d2 e0 e1 e2 hXa hka
            (try simp only [Act.put, List.getElem_toArray, List.getElem_cons_succ, List.getElem_cons_zero, List.setIfInBounds_toArray, List.set_cons_succ, List.set_cons_zero])
            refine wpTwo_ready (rs := [7]) (by kernel_rfl) (by simp) ?_
            refine (AllTwo.cons rfl (fun K hK => ?_) AllTwo.nil)
            obtain ⟨d0, d1, d2, d3, d4, d5, d6⟩ := HGa.out.cells
            dsimp only at d0 d1 d2 d3 d4 d6
            have v0 := HGa.out.marks 0
            have v1 := HGa.out.marks 1
            have v2 := HGa.out.marks 2
            have v3 := HGa.out.marks 3
            have v4 := HGa.out.marks 4
            have v5 := HGa.out.marks 5
            have v6 := HGa.out.marks 6
            obtain ⟨Xb, hXb⟩ : ∃ X : World, X = ((((((Xa.setCell ⟨y8, 0, none⟩ (.int .i64 a)).setCell ⟨y8, 1, none⟩ (.int .i64 g)).setCell ⟨y8, 2, none⟩ (.int .i64 m)).setCell ⟨y8, 3, none⟩ (.int .i64 ph)).setCell ⟨y8, 4, none⟩ (.int .u64 b)).setCell ⟨y8, 5, none⟩ (.slice pv vs.length cv)).setCell ⟨y8, 6, none⟩ (.int .i64 t0) := ⟨_, rfl⟩
            have hkb : Keeps (fun q => q = y8) Xa Xb := by rw [hXb]; exact RdBox.putK Xa y8 ⟨a, g, m, ph, b, t0⟩ (.slice pv vs.length cv)
            have hTb := And.intro (hTa.1.keeps hkb (by intro e; have e : W.heap.size = y8 := e; omega)) (show RdBox Xb (W.heap.size + 1) ⟨a, g, m, ph, b, t0⟩ (.slice p2 n2 c2) from (hkb.block (W.heap.size + 1) hTa.2.lt (by intro e; have e : W.heap.size + 1 = y8 := e; omega)).trans hTa.2)
            have HF := Lib.hid (show StV W.heap.size Xb y7 y8 us ms f ⟨a, g, m, ph, b, t0⟩ vs from ⟨px, cx, py, cy, pv, cv, HAa.out.keeps hkb hn1, by rw [hXb]; exact HGa.out.put ⟨a, g, m, ph, b, t0⟩ (.slice pv vs.length cv), hkb.row HOa.out.1 (fun g hg e => RdBox.row HGa.out HOa.out.1 (by decide) hg e.symm), hkb.row HOa.out.2.1 (fun g hg e => RdBox.row HGa.out HOa.out.2.1 (by decide) hg e.symm), hkb.row HOa.out.2.2 (fun g hg e => RdBox.row HGa.out HOa.out.2.2 (by decide) hg e.symm)⟩)
            have HBb := Lib.hid (HBa.out.trans (hkb.below HBa.out.size (fun q hq => by have e : q = y8 := hq; omega)))
            go_simp
            rw [← hXb]
            refine hK.out _ _ ⟨hTb, fun _ _ => trivial⟩ ?_
            clear hK K d0 d1 d2 d3 d4 d5 d6 v0 v1 v2 v3 v4 v5 v6 hXb hkb
            (try simp only [Act.put, List.getElem_toArray, List.getElem_cons_succ, List.getElem_cons_zero, List.setIfInBounds_toArray, List.set_cons_succ, List.set_cons_zero])
            refine wpTwo_end (by kernel_rfl) ?_ _
            go_wp2
            go_meet
            exact ⟨y7, y8, rfl, rfl, by omega, by omega, HF, HBb⟩
        · go_simp
          obtain ⟨y8, hy⟩ : ∃ q, q = X2.heap.size := ⟨_, rfl⟩
          obtain ⟨X3, hX⟩ : ∃ X : World, X = X2.alloc (.cells #[.int .i64 0, .int .i64 0, .int .i64 0, .int .i64 0, .int .u64 0, .slice none 0 0, .int .i64 0] 29) := ⟨_, rfl⟩
          rw [← hX, ← hy]
          have hb : Below X2.heap.size X2 X3 := by rw [hX]; exact below1 _ _
          have hl8 : W.heap.size + 2 ≤ y8 := by rw [hy]; exact hT2.2.lt
          have hT3 := And.intro (hT2.1.below hb) (hT2.2.below hb)
          have HO3 := Lib.hid (And.intro (owns_below HO2.out.1 hb) (owns_below HO2.out.2 hb))
          have HP3 := Lib.hid (owns_below HP2.out hb)
          have HB3 := Lib.hid (below_then HB2.out HB2.out.size hb)
          have HG3 := Lib.hid (show RdBox X3 y8 ⟨0, 0, 0, 0, 0, 0⟩ (.slice none 0 0) by rw [hX, hy]; exact World.alloc_heap_new _ _)
          clear hb hX hy
          refine hK.out _ _ ⟨hT3, fun _ _ => trivial⟩ ?_
          clear hK K
          (try simp only [Act.put, List.getElem_toArray, List.getElem_cons_succ, List.getElem_cons_zero, List.setIfInBounds_toArray, List.set_cons_succ, List.set_cons_zero])
          refine wpTwo_ready (rs := [4]) (by kernel_rfl) (by simp) ?_
          refine (AllTwo.cons rfl (fun K hK => ?_) AllTwo.nil)
          · go_simp
            obtain ⟨y7, hy⟩ : ∃ q, q = X3.heap.size := ⟨_, rfl⟩
            obtain ⟨X4, hX⟩ : ∃ X : World, X = X3.alloc (.cells #[.slice none 0 0, .slice none 0 0, .bool false] 44) := ⟨_, rfl⟩
            rw [← hX, ← hy]
            have hb : Below X3.heap.size X3 X4 := by rw [hX]; exact below1 _ _
            have hl7 : W.heap.size + 2 ≤ y7 := by rw [hy]; exact hT3.2.lt
            have hT4 := And.intro (hT3.1.below hb) (hT3.2.below hb)
            have HO4 := Lib.hid (And.intro (owns_below HO3.out.1 hb) (owns_below HO3.out.2 hb))
            have HP4 := Lib.hid (owns_below HP3.out hb)
            have HG4 := Lib.hid (HG3.out.below hb)
            have HB4 := Lib.hid (below_then HB3.out HB3.out.size hb)
            have HA4 := Lib.hid (show MBox X4 y7 (.slice none 0 0) (.slice none 0 0) false by rw [hX, hy]; exact MBox.new _ _ _ _)
            clear hb hX hy
            refine hK.out _ _ ⟨hT4, fun _ _ => trivial⟩ ?_
            clear hK K
            (try simp only [Act.put, List.getElem_toArray, List.getElem_cons_succ, List.getElem_cons_zero, List.setIfInBounds_toArray, List.set_cons_succ, List.set_cons_zero])
            refine wpTwo_ready (rs := [6]) (by kernel_rfl) (by simp) ?_
            refine (AllTwo.cons rfl (fun K hK => ?_) AllTwo.nil)
            obtain ⟨⟨d0, d1, d2⟩, e0, e1, e2⟩ := mbox_cells HA4.out
            have hn1 : y7 ≠ y8 := mbox_rdbox HA4.out HG4.out
            obtain ⟨Xa, hXa⟩ : ∃ X : World, X = ((X4.setCell ⟨y7, 0, none⟩ (.slice px us.length cx)).setCell ⟨y7, 1, none⟩ (.slice py ms.length cy)).setCell ⟨y7, 2, none⟩ (.bool f) := ⟨_, rfl⟩
            have hka : Keeps (fun q => q = y7) X4 Xa := by rw [hXa]; exact ((Keeps.setCell X4 (S := fun q => q = y7) (p := ⟨y7, 0, none⟩) rfl _).trans (Keeps.setCell _ (S := fun q => q = y7) (p := ⟨y7, 1, none⟩) rfl _)).trans (Keeps.setCell _ (S := fun q => q = y7) (p := ⟨y7, 2, none⟩) rfl _)
            have hTa := And.intro (hT4.1.keeps hka (by intro e; have e : W.heap.size = y7 := e; omega)) (show RdBox Xa (W.heap.size + 1) ⟨a, g, m, ph, b, t0⟩ (.slice p2 n2 c2) from (hka.block (W.heap.size + 1) hT4.2.lt (by intro e; have e : W.heap.size + 1 = y7 := e; omega)).trans hT4.2)
            have HAa := Lib.hid (show MBox Xa y7 (.slice px us.length cx) (.slice py ms.length cy) f by rw [hXa]; exact HA4.out.set _ _ _)
            have HGa := Lib.hid (show RdBox Xa y8 ⟨0, 0, 0, 0, 0, 0⟩ (.slice none 0 0) from (hka.block y8 HG4.out.lt (fun e => hn1 e.symm)).trans HG4.out)
            have HOa := Lib.hid (And.intro (hka.row HO4.out.1 (fun g hg e => HA4.out.row HO4.out.1 (by decide) hg e.symm)) (And.intro (hka.row HO4.out.2 (fun g hg e => HA4.out.row HO4.out.2 (by decide) hg e.symm)) (hka.row HP4.out (fun g hg e => HA4.out.row HP4.out (by decide) hg e.symm))))
            have HBa := Lib.hid (HB4.out.trans (hka.below HB4.out.size (fun q hq => by have e : q = y7 := hq; omega)))
            go_simp
            rw [← hXa]
            refine hK.out _ _ ⟨hTa, fun _ _ => trivial⟩ ?_
            clear hK K d0 d1 d2 e0 e1 e2 hXa hka
            (try simp only [Act.put, List.getElem_toArray, List.getElem_cons_succ, List.getElem_cons_zero, List.setIfInBounds_toArray, List.set_cons_succ, List.set_cons_zero])
            refine wpTwo_ready (rs := [7]) (by kernel_rfl) (by simp) ?_
            refine (AllTwo.cons rfl (fun K hK => ?_) AllTwo.nil)
            obtain ⟨d0, d1, d2, d3, d4, d5, d6⟩ := HGa.out.cells
            dsimp only at d0 d1 d2 d3 d4 d6
            have v0 := HGa.out.marks 0
            have v1 := HGa.out.marks 1
            have v2 := HGa.out.marks 2
            have v3 := HGa.out.marks 3
            have v4 := HGa.out.marks 4
            have v5 := HGa.out.marks 5
            have v6 := HGa.out.marks 6
            obtain ⟨Xb, hXb⟩ : ∃ X : World, X = ((((((Xa.setCell ⟨y8, 0, none⟩ (.int .i64 a)).setCell ⟨y8, 1, none⟩ (.int .i64 g)).setCell ⟨y8, 2, none⟩ (.int .i64 m)).setCell ⟨y8, 3, none⟩ (.int .i64 ph)).setCell ⟨y8, 4, none⟩ (.int .u64 b)).setCell ⟨y8, 5, none⟩ (.slice pv vs.length cv)).setCell ⟨y8, 6, none⟩ (.int .i64 t0) := ⟨_, rfl⟩
            have hkb : Keeps (fun q => q = y8) Xa Xb := by rw [hXb]; exact RdBox.putK Xa y8 ⟨a, g, m, ph, b, t0⟩ (.slice pv vs.length cv)
            have hTb := And.intro (hTa.1.keeps hkb (by intro e; have e : W.heap.size = y8 := e; omega)) (show RdBox Xb (W.heap.size + 1) ⟨a, g, m, ph, b, t0⟩ (.slice p2 n2 c2) from (hkb.block (W.heap.size + 1) hTa.2.lt (by intro e; have e : W.heap.size + 1 = y8 := e; omega)).trans hTa.2)
            have HF := Lib.hid (show StV W.heap.size Xb y7 y8 us ms f ⟨a, g, m, ph, b, t0⟩ vs from ⟨px, cx, py, cy, pv, cv, HAa.out.keeps hkb hn1, by rw [hXb]; exact HGa.out.put ⟨a, g, m, ph, b, t0⟩ (.slice pv vs.length cv), hkb.row HOa.out.1 (fun g hg e => RdBox.row HGa.out HOa.out.1 (by decide) hg e.symm), hkb.row HOa.out.2.1 (fun g hg e => RdBox.row HGa.out HOa.out.2.1 (by decide) hg e.symm), hkb.row HOa.out.2.2 (fun g hg e => RdBox.row HGa.out HOa.out.2.2 (by decide) hg e.symm)⟩)
            have HBb := Lib.hid (HBa.out.trans (hkb.below HBa.out.size (fun q hq => by have e : q = y8 := hq; omega)))
            go_simp
            rw [← hXb]
            refine hK.out _ _ ⟨hTb, fun _ _ => trivial⟩ ?_
            clear hK K d0 d1 d2 d3 d4 d5 d6 v0 v1 v2 v3 v4 v5 v6 hXb hkb
            (try simp only [Act.put, List.getElem_toArray, List.getElem_cons_succ, List.getElem_cons_zero, List.setIfInBounds_toArray, List.set_cons_succ, List.set_cons_zero])
            refine wpTwo_end (by kernel_rfl) ?_ _
            go_wp2
            go_meet
            exact ⟨y7, y8, rfl, rfl, by omega, by omega, HF, HBb⟩
      · go_simp
        obtain ⟨y7, hy⟩ : ∃ q, q = X1.heap.size := ⟨_, rfl⟩
        obtain ⟨X2, hX⟩ : ∃ X : World, X = X1.alloc (.cells #[.slice none 0 0, .slice none 0 0, .bool false] 44) := ⟨_, rfl⟩
        rw [← hX, ← hy]
        have hb : Below X1.heap.size X1 X2 := by rw [hX]; exact below1 _ _
        have hl7 : W.heap.size + 2 ≤ y7 := by rw [hy]; exact hT1.2.lt
        have hT2 := And.intro (hT1.1.below hb) (hT1.2.below hb)
        have HO2 := Lib.hid (And.intro (owns_below HO1.out.1 hb) (owns_below HO1.out.2 hb))
        have HB2 := Lib.hid (below_then HB1.out HB1.out.size hb)
        have HA2 := Lib.hid (show MBox X2 y7 (.slice none 0 0) (.slice none 0 0) false by rw [hX, hy]; exact MBox.new _ _ _ _)
        clear hb hX hy
        refine hK.out _ _ ⟨hT2, fun _ _ => trivial⟩ ?_
        clear hK K
        (try simp only [Act.put, List.getElem_toArray, List.getElem_cons_succ, List.getElem_cons_zero, List.setIfInBounds_toArray, List.set_cons_succ, List.set_cons_zero])
        refine wpTwo_ready (rs := [3, 5]) (by kernel_rfl) (by simp) ?_
        refine (AllTwo.cons rfl (fun K hK => ?_) (AllTwo.cons rfl (fun K hK => ?_) AllTwo.nil))
        · go_simp
          refine (HOR.out X2 HB2.out).mono ?_
          rintro e X3 ⟨⟨pv, cv, rfl, ho⟩, hb⟩
          have hT3 := And.intro (hT2.1.below hb) (hT2.2.below hb)
          have HO3 := Lib.hid (And.intro (owns_below HO2.out.1 hb) (owns_below HO2.out.2 hb))
          have HA3 := Lib.hid (HA2.out.below hb)
          have HB3 := Lib.hid (below_then HB2.out HB2.out.size hb)
          have HP3 := Lib.hid (ho.mono HB2.out.size)
          clear hb ho
          go_wp2_with fail
          refine hK.out _ _ ⟨hT3, fun _ _ => trivial⟩ ?_
          clear hK K
          (try simp only [Act.put, List.getElem_toArray, List.getElem_cons_succ, List.getElem_cons_zero, List.setIfInBounds_toArray, List.set_cons_succ, List.set_cons_zero])
          refine wpTwo_ready (rs := [5]) (by kernel_rfl) (by simp) ?_
          refine (AllTwo.cons rfl (fun K hK => ?_) AllTwo.nil)
          · go_simp
            obtain ⟨y8, hy⟩ : ∃ q, q = X3.heap.size := ⟨_, rfl⟩
            obtain ⟨X4, hX⟩ : ∃ X : World, X = X3.alloc (.cells #[.int .i64 0, .int .i64 0, .int .i64 0, .int .i64 0, .int .u64 0, .slice none 0 0, .int .i64 0] 29) := ⟨_, rfl⟩
            rw [← hX, ← hy]
            have hb : Below X3.heap.size X3 X4 := by rw [hX]; exact below1 _ _
            have hl8 : W.heap.size + 2 ≤ y8 := by rw [hy]; exact hT3.2.lt
            have hT4 := And.intro (hT3.1.below hb) (hT3.2.below hb)
            have HO4 := Lib.hid (And.intro (owns_below HO3.out.1 hb) (owns_below HO3.out.2 hb))
            have HA4 := Lib.hid (HA3.out.below hb)
            have HP4 := Lib.hid (owns_below HP3.out hb)
            have HB4 := Lib.hid (below_then HB3.out HB3.out.size hb)
            have HG4 := Lib.hid (show RdBox X4 y8 ⟨0, 0, 0, 0, 0, 0⟩ (.slice none 0 0) by rw [hX, hy]; exact World.alloc_heap_new _ _)
            clear hb hX hy
            refine hK.out _ _ ⟨hT4, fun _ _ => trivial⟩ ?_
            clear hK K
            (try simp only [Act.put, List.getElem_toArray, List.getElem_cons_succ, List.getElem_cons_zero, List.setIfInBounds_toArray, List.set_cons_succ, List.set_cons_zero])
            refine wpTwo_ready (rs := [6]) (by kernel_rfl) (by simp) ?_
            refine (AllTwo.cons rfl (fun K hK => ?_) AllTwo.nil)
            obtain ⟨⟨d0, d1, d2⟩, e0, e1, e2⟩ := mbox_cells HA4.out
            have hn1 : y7 ≠ y8 := mbox_rdbox HA4.out HG4.out
            obtain ⟨Xa, hXa⟩ : ∃ X : World, X = ((X4.setCell ⟨y7, 0, none⟩ (.slice px us.length cx)).setCell ⟨y7, 1, none⟩ (.slice py ms.length cy)).setCell ⟨y7, 2, none⟩ (.bool f) := ⟨_, rfl⟩
            have hka : Keeps (fun q => q = y7) X4 Xa := by rw [hXa]; exact ((Keeps.setCell X4 (S := fun q => q = y7) (p := ⟨y7, 0, none⟩) rfl _).trans (Keeps.setCell _ (S := fun q => q = y7) (p := ⟨y7, 1, none⟩) rfl _)).trans (Keeps.setCell _ (S := fun q => q = y7) (p := ⟨y7, 2, none⟩) rfl _)
            have hTa := And.intro (hT4.1.keeps hka (by intro e; have e : W.heap.size = y7 := e; omega)) (show RdBox Xa (W.heap.size + 1) ⟨a, g, m, ph, b, t0⟩ (.slice p2 n2 c2) from (hka.block (W.heap.size + 1) hT4.2.lt (by intro e; have e : W.heap.size + 1 = y7 := e; omega)).trans hT4.2)
            have HAa := Lib.hid (show MBox Xa y7 (.slice px us.length cx) (.slice py ms.length cy) f by rw [hXa]; exact HA4.out.set _ _ _)
            have HGa := Lib.hid (show RdBox Xa y8 ⟨0, 0, 0, 0, 0, 0⟩ (.slice none 0 0) from (hka.block y8 HG4.out.lt (fun e => hn1 e.symm)).trans HG4.out)
            have HOa := Lib.hid (And.intro (hka.row HO4.out.1 (fun g hg e => HA4.out.row HO4.out.1 (by decide) hg e.symm)) (And.intro (hka.row HO4.out.2 (fun g hg e => HA4.out.row HO4.out.2 (by decide) hg e.symm)) (hka.row HP4.out (fun g hg e => HA4.out.row HP4.out (by decide) hg e.symm))))
            have HBa := Lib.hid (HB4.out.trans (hka.below HB4.out.size (fun q hq => by have e : q = y7 := hq; omega)))
            go_simp
            rw [← hXa]
            refine hK.out _ _ ⟨hTa, fun _ _ => trivial⟩ ?_
            clear hK K d0 d1 d2 e0 e1 e2 hXa hka
            (try simp only [Act.put, List.getElem_toArray, List.getElem_cons_succ, List.getElem_cons_zero, List.setIfInBounds_toArray, List.set_cons_succ, List.set_cons_zero])
            refine wpTwo_ready (rs := [7]) (by kernel_rfl) (by simp) ?_
            refine (AllTwo.cons rfl (fun K hK => ?_) AllTwo.nil)
            obtain ⟨d0, d1, d2, d3, d4, d5, d6⟩ := HGa.out.cells
            dsimp only at d0 d1 d2 d3 d4 d6
            have v0 := HGa.out.marks 0
            have v1 := HGa.out.marks 1
            have v2 := HGa.out.marks 2
            have v3 := HGa.out.marks 3
            have v4 := HGa.out.marks 4
            have v5 := HGa.out.marks 5
            have v6 := HGa.out.marks 6
            obtain ⟨Xb, hXb⟩ : ∃ X : World, X = ((((((Xa.setCell ⟨y8, 0, none⟩ (.int .i64 a)).setCell ⟨y8, 1, none⟩ (.int .i64 g)).setCell ⟨y8, 2, none⟩ (.int .i64 m)).setCell ⟨y8, 3, none⟩ (.int .i64 ph)).setCell ⟨y8, 4, none⟩ (.int .u64 b)).setCell ⟨y8, 5, none⟩ (.slice pv vs.length cv)).setCell ⟨y8, 6, none⟩ (.int .i64 t0) := ⟨_, rfl⟩
            have hkb : Keeps (fun q => q = y8) Xa Xb := by rw [hXb]; exact RdBox.putK Xa y8 ⟨a, g, m, ph, b, t0⟩ (.slice pv vs.length cv)
            have hTb := And.intro (hTa.1.keeps hkb (by intro e; have e : W.heap.size = y8 := e; omega)) (show RdBox Xb (W.heap.size + 1) ⟨a, g, m, ph, b, t0⟩ (.slice p2 n2 c2) from (hkb.block (W.heap.size + 1) hTa.2.lt (by intro e; have e : W.heap.size + 1 = y8 := e; omega)).trans hTa.2)
            have HF := Lib.hid (show StV W.heap.size Xb y7 y8 us ms f ⟨a, g, m, ph, b, t0⟩ vs from ⟨px, cx, py, cy, pv, cv, HAa.out.keeps hkb hn1, by rw [hXb]; exact HGa.out.put ⟨a, g, m, ph, b, t0⟩ (.slice pv vs.length cv), hkb.row HOa.out.1 (fun g hg e => RdBox.row HGa.out HOa.out.1 (by decide) hg e.symm), hkb.row HOa.out.2.1 (fun g hg e => RdBox.row HGa.out HOa.out.2.1 (by decide) hg e.symm), hkb.row HOa.out.2.2 (fun g hg e => RdBox.row HGa.out HOa.out.2.2 (by decide) hg e.symm)⟩)
            have HBb := Lib.hid (HBa.out.trans (hkb.below HBa.out.size (fun q hq => by have e : q = y8 := hq; omega)))
            go_simp
            rw [← hXb]
            refine hK.out _ _ ⟨hTb, fun _ _ => trivial⟩ ?_
            clear hK K d0 d1 d2 d3 d4 d5 d6 v0 v1 v2 v3 v4 v5 v6 hXb hkb
            (try simp only [Act.put, List.getElem_toArray, List.getElem_cons_succ, List.getElem_cons_zero, List.setIfInBounds_toArray, List.set_cons_succ, List.set_cons_zero])
            refine wpTwo_end (by kernel_rfl) ?_ _
            go_wp2
            go_meet
            exact ⟨y7, y8, rfl, rfl, by omega, by omega, HF, HBb⟩
        · go_simp
          obtain ⟨y8, hy⟩ : ∃ q, q = X2.heap.size := ⟨_, rfl⟩
          obtain ⟨X3, hX⟩ : ∃ X : World, X = X2.alloc (.cells #[.int .i64 0, .int .i64 0, .int .i64 0, .int .i64 0, .int .u64 0, .slice none 0 0, .int .i64 0] 29) := ⟨_, rfl⟩
          rw [← hX, ← hy]
          have hb : Below X2.heap.size X2 X3 := by rw [hX]; exact below1 _ _
          have hl8 : W.heap.size + 2 ≤ y8 := by rw [hy]; exact hT2.2.lt
          have hT3 := And.intro (hT2.1.below hb) (hT2.2.below hb)
          have HO3 := Lib.hid (And.intro (owns_below HO2.out.1 hb) (owns_below HO2.out.2 hb))
          have HA3 := Lib.hid (HA2.out.below hb)
          have HB3 := Lib.hid (below_then HB2.out HB2.out.size hb)
          have HG3 := Lib.hid (show RdBox X3 y8 ⟨0, 0, 0, 0, 0, 0⟩ (.slice none 0 0) by rw [hX, hy]; exact World.alloc_heap_new _ _)
          clear hb hX hy
          refine hK.out _ _ ⟨hT3, fun _ _ => trivial⟩ ?_
          clear hK K
          (try simp only [Act.put, List.getElem_toArray, List.getElem_cons_succ, List.getElem_cons_zero, List.setIfInBounds_toArray, List.set_cons_succ, List.set_cons_zero])
          refine wpTwo_ready (rs := [3]) (by kernel_rfl) (by simp) ?_
          refine (AllTwo.cons rfl (fun K hK => ?_) AllTwo.nil)
          · go_simp
            refine (HOR.out X3 HB3.out).mono ?_
            rintro e X4 ⟨⟨pv, cv, rfl, ho⟩, hb⟩
            have hT4 := And.intro (hT3.1.below hb) (hT3.2.below hb)
            have HO4 := Lib.hid (And.intro (owns_below HO3.out.1 hb) (owns_below HO3.out.2 hb))
            have HA4 := Lib.hid (HA3.out.below hb)
            have HG4 := Lib.hid (HG3.out.below hb)
            have HB4 := Lib.hid (below_then HB3.out HB3.out.size hb)
            have HP4 := Lib.hid (ho.mono HB3.out.size)
            clear hb ho
            go_wp2_with fail
            refine hK.out _ _ ⟨hT4, fun _ _ => trivial⟩ ?_
            clear hK K
            (try simp only [Act.put, List.getElem_toArray, List.getElem_cons_succ, List.getElem_cons_zero, List.setIfInBounds_toArray, List.set_cons_succ, List.set_cons_zero])
            refine wpTwo_ready (rs := [6]) (by kernel_rfl) (by simp) ?_
            refine (AllTwo.cons rfl (fun K hK => ?_) AllTwo.nil)
            obtain ⟨⟨d0, d1, d2⟩, e0, e1, e2⟩ := mbox_cells HA4.out
            have hn1 : y7 ≠ y8 := mbox_rdbox HA4.out HG4.out
            obtain ⟨Xa, hXa⟩ : ∃ X : World, X = ((X4.setCell ⟨y7, 0, none⟩ (.slice px us.length cx)).setCell ⟨y7, 1, none⟩ (.slice py ms.length cy)).setCell ⟨y7, 2, none⟩ (.bool f) := ⟨_, rfl⟩
            have hka : Keeps (fun q => q = y7) X4 Xa := by rw [hXa]; exact ((Keeps.setCell X4 (S := fun q => q = y7) (p := ⟨y7, 0, none⟩) rfl _).trans (Keeps.setCell _ (S := fun q => q = y7) (p := ⟨y7, 1, none⟩) rfl _)).trans (Keeps.setCell _ (S := fun q => q = y7) (p := ⟨y7, 2, none⟩) rfl _)
            have hTa := And.intro (hT4.1.keeps hka (by intro e; have e : W.heap.size = y7 := e; omega)) (show RdBox Xa (W.heap.size + 1) ⟨a, g, m, ph, b, t0⟩ (.slice p2 n2 c2) from (hka.block (W.heap.size + 1) hT4.2.lt (by intro e; have e : W.heap.size + 1 = y7 := e; omega)).trans hT4.2)
            have HAa := Lib.hid (show MBox Xa y7 (.slice px us.length cx) (.slice py ms.length cy) f by rw [hXa]; exact HA4.out.set _ _ _)
            have HGa := Lib.hid (show RdBox Xa y8 ⟨0, 0, 0, 0, 0, 0⟩ (.slice none 0 0) from (hka.block y8 HG4.out.lt (fun e => hn1 e.symm)).trans HG4.out)
            have HOa := Lib.hid (And.intro (hka.row HO4.out.1 (fun g hg e => HA4.out.row HO4.out.1 (by decide) hg e.symm)) (And.intro (hka.row HO4.out.2 (fun g hg e => HA4.out.row HO4.out.2 (by decide) hg e.symm)) (hka.row HP4.out (fun g hg e => HA4.out.row HP4.out (by decide) hg e.symm))))
            have HBa := Lib.hid (HB4.out.trans (hka.below HB4.out.size (fun q hq => by have e : q = y7 := hq; omega)))
            go_simp
            rw [← hXa]
            refine hK.out _ _ ⟨hTa, fun _ _ => trivial⟩ ?_
            clear hK K d0 d1 d2 e0 e1 e2 hXa hka
            (try simp only [Act.put, List.getElem_toArray, List.getElem_cons_succ, List.getElem_cons_zero, List.setIfInBounds_toArray, List.set_cons_succ, List.set_cons_zero])
            refine wpTwo_ready (rs := [7]) (by kernel_rfl) (by simp) ?_
            refine (AllTwo.cons rfl (fun K hK => ?_) AllTwo.nil)
            obtain ⟨d0, d1, d2, d3, d4, d5, d6⟩ := HGa.out.cells
            dsimp only at d0 d1 d2 d3 d4 d6
            have v0 := HGa.out.marks 0
            have v1 := HGa.out.marks 1
            have v2 := HGa.out.marks 2
            have v3 := HGa.out.marks 3
            have v4 := HGa.out.marks 4
            have v5 := HGa.out.marks 5
            have v6 := HGa.out.marks 6
            obtain ⟨Xb, hXb⟩ : ∃ X : World, X = ((((((Xa.setCell ⟨y8, 0, none⟩ (.int .i64 a)).setCell ⟨y8, 1, none⟩ (.int .i64 g)).setCell ⟨y8, 2, none⟩ (.int .i64 m)).setCell ⟨y8, 3, none⟩ (.int .i64 ph)).setCell ⟨y8, 4, none⟩ (.int .u64 b)).setCell ⟨y8, 5, none⟩ (.slice pv vs.length cv)).setCell ⟨y8, 6, none⟩ (.int .i64 t0) := ⟨_, rfl⟩
            have hkb : Keeps (fun q => q = y8) Xa Xb := by rw [hXb]; exact RdBox.putK Xa y8 ⟨a, g, m, ph, b, t0⟩ (.slice pv vs.length cv)
            have hTb := And.intro (hTa.1.keeps hkb (by intro e; have e : W.heap.size = y8 := e; omega)) (show RdBox Xb (W.heap.size + 1) ⟨a, g, m, ph, b, t0⟩ (.slice p2 n2 c2) from (hkb.block (W.heap.size + 1) hTa.2.lt (by intro e; have e : W.heap.size + 1 = y8 := e; omega)).trans hTa.2)
            have HF := Lib.hid (show StV W.heap.size Xb y7 y8 us ms f ⟨a, g, m, ph, b, t0⟩ vs from ⟨px, cx, py, cy, pv, cv, HAa.out.keeps hkb hn1, by rw [hXb]; exact HGa.out.put ⟨a, g, m, ph, b, t0⟩ (.slice pv vs.length cv), hkb.row HOa.out.1 (fun g hg e => RdBox.row HGa.out HOa.out.1 (by decide) hg e.symm), hkb.row HOa.out.2.1 (fun g hg e => RdBox.row HGa.out HOa.out.2.1 (by decide) hg e.symm), hkb.row HOa.out.2.2 (fun g hg e => RdBox.row HGa.out HOa.out.2.2 (by decide) hg e.symm)⟩)
            have HBb := Lib.hid (HBa.out.trans (hkb.below HBa.out.size (fun q hq => by have e : q = y8 := hq; omega)))
            go_simp
            rw [← hXb]
            refine hK.out _ _ ⟨hTb, fun _ _ => trivial⟩ ?_
            clear hK K d0 d1 d2 d3 d4 d5 d6 v0 v1 v2 v3 v4 v5 v6 hXb hkb
            (try simp only [Act.put, List.getElem_toArray, List.getElem_cons_succ, List.getElem_cons_zero, List.setIfInBounds_toArray, List.set_cons_succ, List.set_cons_zero])
            refine wpTwo_end (by kernel_rfl) ?_ _
            go_wp2
            go_meet
            exact ⟨y7, y8, rfl, rfl, by omega, by omega, HF, HBb⟩
      · go_simp
        obtain ⟨y8, hy⟩ : ∃ q, q = X1.heap.size := ⟨_, rfl⟩
        obtain ⟨X2, hX⟩ : ∃ X : World, X = X1.alloc (.cells #[.int .i64 0, .int .i64 0, .int .i64 0, .int .i64 0, .int .u64 0, .slice none 0 0, .int .i64 0] 29) := ⟨_, rfl⟩
        rw [← hX, ← hy]
        have hb : Below X1.heap.size X1 X2 := by rw [hX]; exact below1 _ _
        have hl8 : W.heap.size + 2 ≤ y8 := by rw [hy]; exact hT1.2.lt
        have hT2 := And.intro (hT1.1.below hb) (hT1.2.below hb)
        have HO2 := Lib.hid (And.intro (owns_below HO1.out.1 hb) (owns_below HO1.out.2 hb))
        have HB2 := Lib.hid (below_then HB1.out HB1.out.size hb)
        have HG2 := Lib.hid (show RdBox X2 y8 ⟨0, 0, 0, 0, 0, 0⟩ (.slice none 0 0) by rw [hX, hy]; exact World.alloc_heap_new _ _)
        clear hb hX hy
        refine hK.out _ _ ⟨hT2, fun _ _ => trivial⟩ ?_
        clear hK K
        (try simp only [Act.put, List.getElem_toArray, List.getElem_cons_succ, List.getElem_cons_zero, List.setIfInBounds_toArray, List.set_cons_succ, List.set_cons_zero])
        refine wpTwo_ready (rs := [3, 4]) (by kernel_rfl) (by simp) ?_
        refine (AllTwo.cons rfl (fun K hK => ?_) (AllTwo.cons rfl (fun K hK => ?_) AllTwo.nil))
        · go_simp
          refine (HOR.out X2 HB2.out).mono ?_
          rintro e X3 ⟨⟨pv, cv, rfl, ho⟩, hb⟩
          have hT3 := And.intro (hT2.1.below hb) (hT2.2.below hb)
          have HO3 := Lib.hid (And.intro (owns_below HO2.out.1 hb) (owns_below HO2.out.2 hb))
          have HG3 := Lib.hid (HG2.out.below hb)
          have HB3 := Lib.hid (below_then HB2.out HB2.out.size hb)
          have HP3 := Lib.hid (ho.mono HB2.out.size)
          clear hb ho
          go_wp2_with fail
          refine hK.out _ _ ⟨hT3, fun _ _ => trivial⟩ ?_
          clear hK K
          (try simp only [Act.put, List.getElem_toArray, List.getElem_cons_succ, List.getElem_cons_zero, List.setIfInBounds_toArray, List.set_cons_succ, List.set_cons_zero])
          refine wpTwo_ready (rs := [4]) (by kernel_rfl) (by simp) ?_
          refine (AllTwo.cons rfl (fun K hK => ?_) AllTwo.nil)
          · go_simp
            obtain ⟨y7, hy⟩ : ∃ q, q = X3.heap.size := ⟨_, rfl⟩
            obtain ⟨X4, hX⟩ : ∃ X : World, X = X3.alloc (.cells #[.slice none 0 0, .slice none 0 0, .bool false] 44) := ⟨_, rfl⟩
            rw [← hX, ← hy]
            have hb : Below X3.heap.size X3 X4 := by rw [hX]; exact below1 _ _
            have hl7 : W.heap.size + 2 ≤ y7 := by rw [hy]; exact hT3.2.lt
            have hT4 := And.intro (hT3.1.below hb) (hT3.2.below hb)
            have HO4 := Lib.hid (And.intro (owns_below HO3.out.1 hb) (owns_below HO3.out.2 hb))
            have HG4 := Lib.hid (HG3.out.below hb)
            have HP4 := Lib.hid (owns_below HP3.out hb)
            have HB4 := Lib.hid (below_then HB3.out HB3.out.size hb)
            have HA4 := Lib.hid (show MBox X4 y7 (.slice none 0 0) (.slice none 0 0) false by rw [hX, hy]; exact MBox.new _ _ _ _)
            clear hb hX hy
            refine hK.out _ _ ⟨hT4, fun _ _ => trivial⟩ ?_
            clear hK K
            (try simp only [Act.put, List.getElem_toArray, List.getElem_cons_succ, List.getElem_cons_zero, List.setIfInBounds_toArray, List.set_cons_succ, List.set_cons_zero])
            refine wpTwo_ready (rs := [6]) (by kernel_rfl) (by simp) ?_
            refine (AllTwo.cons rfl (fun K hK => ?_) AllTwo.nil)
            obtain ⟨⟨d0, d1, d2⟩, e0, e1, e2⟩ := mbox_cells HA4.out
            have hn1 : y7 ≠ y8 := mbox_rdbox HA4.out HG4.out
            obtain ⟨Xa, hXa⟩ : ∃ X : World, X = ((X4.setCell ⟨y7, 0, none⟩ (.slice px us.length cx)).setCell ⟨y7, 1, none⟩ (.slice py ms.length cy)).setCell ⟨y7, 2, none⟩ (.bool f) := ⟨_, rfl⟩
            have hka : Keeps (fun q => q = y7) X4 Xa := by rw [hXa]; exact ((Keeps.setCell X4 (S := fun q => q = y7) (p := ⟨y7, 0, none⟩) rfl _).trans (Keeps.setCell _ (S := fun q => q = y7) (p := ⟨y7, 1, none⟩) rfl _)).trans (Keeps.setCell _ (S := fun q => q = y7) (p := ⟨y7, 2, none⟩) rfl _)
            have hTa := And.intro (hT4.1.keeps hka (by intro e; have e : W.heap.size = y7 := e; omega)) (show RdBox Xa (W.heap.size + 1) ⟨a, g, m, ph, b, t0⟩ (.slice p2 n2 c2) from (hka.block (W.heap.size + 1) hT4.2.lt (by intro e; have e : W.heap.size + 1 = y7 := e; omega)).trans hT4.2)
            have HAa := Lib.hid (show MBox Xa y7 (.slice px us.length cx) (.slice py ms.length cy) f by rw [hXa]; exact HA4.out.set _ _ _)
            have HGa := Lib.hid (show RdBox Xa y8 ⟨0, 0, 0, 0, 0, 0⟩ (.slice none 0 0) from (hka.block y8 HG4.out.lt (fun e => hn1 e.symm)).trans HG4.out)
            have HOa := Lib.hid (And.intro (hka.row HO4.out.1 (fun g hg e => HA4.out.row HO4.out.1 (by decide) hg e.symm)) (And.intro (hka.row HO4.out.2 (fun g hg e => HA4.out.row HO4.out.2 (by decide) hg e.symm)) (hka.row HP4.out (fun g hg e => HA4.out.row HP4.out (by decide) hg e.symm))))
            have HBa := Lib.hid (HB4.out.trans (hka.below HB4.out.size (fun q hq => by have e : q = y7 := hq; omega)))
            go_simp
            rw [← hXa]
            refine hK.out _ _ ⟨hTa, fun _ _ => trivial⟩ ?_
            clear hK K d0 d1 d2 e0 e1 e2 hXa hka
            (try simp only [Act.put, List.getElem_toArray, List.getElem_cons_succ, List.getElem_cons_zero, List.setIfInBounds_toArray, List.set_cons_succ, List.set_cons_zero])
            refine wpTwo_ready (rs := [7]) (by kernel_rfl) (by simp) ?_
            refine (AllTwo.cons rfl (fun K hK => ?_) AllTwo.nil)
            obtain ⟨d0, d1, d2, d3, d4, d5, d6⟩ := HGa.out.cells
            dsimp only at d0 d1 d2 d3 d4 d6
            have v0 := HGa.out.marks 0
            have v1 := HGa.out.marks 1
            have v2 := HGa.out.marks 2
            have v3 := HGa.out.marks 3
            have v4 := HGa.out.marks 4
            have v5 := HGa.out.marks 5
            have v6 := HGa.out.marks 6
            obtain ⟨Xb, hXb⟩ : ∃ X : World, X = ((((((Xa.setCell ⟨y8, 0, none⟩ (.int .i64 a)).setCell ⟨y8, 1, none⟩ (.int .i64 g)).setCell ⟨y8, 2, none⟩ (.int .i64 m)).setCell ⟨y8, 3, none⟩ (.int .i64 ph)).setCell ⟨y8, 4, none⟩ (.int .u64 b)).setCell ⟨y8, 5, none⟩ (.slice pv vs.length cv)).setCell ⟨y8, 6, none⟩ (.int .i64 t0) := ⟨_, rfl⟩
            have hkb : Keeps (fun q => q = y8) Xa Xb := by rw [hXb]; exact RdBox.putK Xa y8 ⟨a, g, m, ph, b, t0⟩ (.slice pv vs.length cv)
            have hTb := And.intro (hTa.1.keeps hkb (by intro e; have e : W.heap.size = y8 := e; omega)) (show RdBox Xb (W.heap.size + 1) ⟨a, g, m, ph, b, t0⟩ (.slice p2 n2 c2) from (hkb.block (W.heap.size + 1) hTa.2.lt (by intro e; have e : W.heap.size + 1 = y8 := e; omega)).trans hTa.2)
            have HF := Lib.hid (show StV W.heap.size Xb y7 y8 us ms f ⟨a, g, m, ph, b, t0⟩ vs from ⟨px, cx, py, cy, pv, cv, HAa.out.keeps hkb hn1, by rw [hXb]; exact HGa.out.put ⟨a, g, m, ph, b, t0⟩ (.slice pv vs.length cv), hkb.row HOa.out.1 (fun g hg e => RdBox.row HGa.out HOa.out.1 (by decide) hg e.symm), hkb.row HOa.out.2.1 (fun g hg e => RdBox.row HGa.out HOa.out.2.1 (by decide) hg e.symm), hkb.row HOa.out.2.2 (fun g hg e => RdBox.row HGa.out HOa.out.2.2 (by decide) hg e.symm)⟩)
            have HBb := Lib.hid (HBa.out.trans (hkb.below HBa.out.size (fun q hq => by have e : q = y8 := hq; omega)))
            go_simp
            rw [← hXb]
            refine hK.out _ _ ⟨hTb, fun _ _ => trivial⟩ ?_
            clear hK K d0 d1 d2 d3 d4 d5 d6 v0 v1 v2 v3 v4 v5 v6 hXb hkb
            (try simp only [Act.put, List.getElem_toArray, List.getElem_cons_succ, List.getElem_cons_zero, List.setIfInBounds_toArray, List.set_cons_succ, List.set_cons_zero])
            refine wpTwo_end (by kernel_rfl) ?_ _
            go_wp2
            go_meet
            exact ⟨y7, y8, rfl, rfl, by omega, by omega, HF, HBb⟩
        · go_simp
          obtain ⟨y7, hy⟩ : ∃ q, q = X2.heap.size := ⟨_, rfl⟩
          obtain ⟨X3, hX⟩ : ∃ X : World, X = X2.alloc (.cells #[.slice none 0 0, .slice none 0 0, .bool false] 44) := ⟨_, rfl⟩
          rw [← hX, ← hy]
          have hb : Below X2.heap.size X2 X3 := by rw [hX]; exact below1 _ _
          have hl7 : W.heap.size + 2 ≤ y7 := by rw [hy]; exact hT2.2.lt
          have hT3 := And.intro (hT2.1.below hb) (hT2.2.below hb)
          have HO3 := Lib.hid (And.intro (owns_below HO2.out.1 hb) (owns_below HO2.out.2 hb))
          have HG3 := Lib.hid (HG2.out.below hb)
          have HB3 := Lib.hid (below_then HB2.out HB2.out.size hb)
          have HA3 := Lib.hid (show MBox X3 y7 (.slice none 0 0) (.slice none 0 0) false by rw [hX, hy]; exact MBox.new _ _ _ _)
          clear hb hX hy
          refine hK.out _ _ ⟨hT3, fun _ _ => trivial⟩ ?_
          clear hK K
          (try simp only [Act.put, List.getElem_toArray, List.getElem_cons_succ, List.getElem_cons_zero, List.setIfInBounds_toArray, List.set_cons_succ, List.set_cons_zero])
          refine wpTwo_ready (rs := [3]) (by kernel_rfl) (by simp) ?_
          refine (AllTwo.cons rfl (fun K hK => ?_) AllTwo.nil)
          · go_simp
            refine (HOR.out X3 HB3.out).mono ?_
            rintro e X4 ⟨⟨pv, cv, rfl, ho⟩, hb⟩
            have hT4 := And.intro (hT3.1.below hb) (hT3.2.below hb)
            have HO4 := Lib.hid (And.intro (owns_below HO3.out.1 hb) (owns_below HO3.out.2 hb))
            have HG4 := Lib.hid (HG3.out.below hb)
            have HA4 := Lib.hid (HA3.out.below hb)
            have HB4 := Lib.hid (below_then HB3.out HB3.out.size hb)
            have HP4 := Lib.hid (ho.mono HB3.out.size)
            clear hb ho
            go_wp2_with fail
            refine hK.out _ _ ⟨hT4, fun _ _ => trivial⟩ ?_
            clear hK K
            (try simp only [Act.put, List.getElem_toArray, List.getElem_cons_succ, List.getElem_cons_zero, List.setIfInBounds_toArray, List.set_cons_succ, List.set_cons_zero])
            refine wpTwo_ready (rs := [6]) (by kernel_rfl) (by simp) ?_
            refine (AllTwo.cons rfl (fun K hK => ?_) AllTwo.nil)
            obtain ⟨⟨d0, d1, d2⟩, e0, e1, e2⟩ := mbox_cells HA4.out
            have hn1 : y7 ≠ y8 := mbox_rdbox HA4.out HG4.out
            obtain ⟨Xa, hXa⟩ : ∃ X : World, X = ((X4.setCell ⟨y7, 0, none⟩ (.slice px us.length cx)).setCell ⟨y7, 1, none⟩ (.slice py ms.length cy)).setCell ⟨y7, 2, none⟩ (.bool f) := ⟨_, rfl⟩
            have hka : Keeps (fun q => q = y7) X4 Xa := by rw [hXa]; exact ((Keeps.setCell X4 (S := fun q => q = y7) (p := ⟨y7, 0, none⟩) rfl _).trans (Keeps.setCell _ (S := fun q => q = y7) (p := ⟨y7, 1, none⟩) rfl _)).trans (Keeps.setCell _ (S := fun q => q = y7) (p := ⟨y7, 2, none⟩) rfl _)
            have hTa := And.intro (hT4.1.keeps hka (by intro e; have e : W.heap.size = y7 := e; omega)) (show RdBox Xa (W.heap.size + 1) ⟨a, g, m, ph, b, t0⟩ (.slice p2 n2 c2) from (hka.block (W.heap.size + 1) hT4.2.lt (by intro e; have e : W.heap.size + 1 = y7 := e; omega)).trans hT4.2)
            have HAa := Lib.hid (show MBox Xa y7 (.slice px us.length cx) (.slice py ms.length cy) f by rw [hXa]; exact HA4.out.set _ _ _)
            have HGa := Lib.hid (show RdBox Xa y8 ⟨0, 0, 0, 0, 0, 0⟩ (.slice none 0 0) from (hka.block y8 HG4.out.lt (fun e => hn1 e.symm)).trans HG4.out)
            have HOa := Lib.hid (And.intro (hka.row HO4.out.1 (fun g hg e => HA4.out.row HO4.out.1 (by decide) hg e.symm)) (And.intro (hka.row HO4.out.2 (fun g hg e => HA4.out.row HO4.out.2 (by decide) hg e.symm)) (hka.row HP4.out (fun g hg e => HA4.out.row HP4.out (by decide) hg e.symm))))
            have HBa := Lib.hid (HB4.out.trans (hka.below HB4.out.size (fun q hq => by have e : q = y7 := hq; omega)))
            go_simp
            rw [← hXa]
            refine hK.out _ _ ⟨hTa, fun _ _ => trivial⟩ ?_
            clear hK K d0 d1 d2 e0 e1 e2 hXa hka
            (try simp only [Act.put, List.getElem_toArray, List.getElem_cons_succ, List.getElem_cons_zero, List.setIfInBounds_toArray, List.set_cons_succ, List.set_cons_zero])
            refine wpTwo_ready (rs := [7]) (by kernel_rfl) (by simp) ?_
            refine (AllTwo.cons rfl (fun K hK => ?_) AllTwo.nil)
            obtain ⟨d0, d1, d2, d3, d4, d5, d6⟩ := HGa.out.cells
            dsimp only at d0 d1 d2 d3 d4 d6
            have v0 := HGa.out.marks 0
            have v1 := HGa.out.marks 1
            have v2 := HGa.out.marks 2
            have v3 := HGa.out.marks 3
            have v4 := HGa.out.marks 4
            have v5 := HGa.out.marks 5
            have v6 := HGa.out.marks 6
            obtain ⟨Xb, hXb⟩ : ∃ X : World, X = ((((((Xa.setCell ⟨y8, 0, none⟩ (.int .i64 a)).setCell ⟨y8, 1, none⟩ (.int .i64 g)).setCell ⟨y8, 2, none⟩ (.int .i64 m)).setCell ⟨y8, 3, none⟩ (.int .i64 ph)).setCell ⟨y8, 4, none⟩ (.int .u64 b)).setCell ⟨y8, 5, none⟩ (.slice pv vs.length cv)).setCell ⟨y8, 6, none⟩ (.int .i64 t0) := ⟨_, rfl⟩
            have hkb : Keeps (fun q => q = y8) Xa Xb := by rw [hXb]; exact RdBox.putK Xa y8 ⟨a, g, m, ph, b, t0⟩ (.slice pv vs.length cv)
            have hTb := And.intro (hTa.1.keeps hkb (by intro e; have e : W.heap.size = y8 := e; omega)) (show RdBox Xb (W.heap.size + 1) ⟨a, g, m, ph, b, t0⟩ (.slice p2 n2 c2) from (hkb.block (W.heap.size + 1) hTa.2.lt (by intro e; have e : W.heap.size + 1 = y8 := e; omega)).trans hTa.2)
            have HF := Lib.hid (show StV W.heap.size Xb y7 y8 us ms f ⟨a, g, m, ph, b, t0⟩ vs from ⟨px, cx, py, cy, pv, cv, HAa.out.keeps hkb hn1, by rw [hXb]; exact HGa.out.put ⟨a, g, m, ph, b, t0⟩ (.slice pv vs.length cv), hkb.row HOa.out.1 (fun g hg e => RdBox.row HGa.out HOa.out.1 (by decide) hg e.symm), hkb.row HOa.out.2.1 (fun g hg e => RdBox.row HGa.out HOa.out.2.1 (by decide) hg e.symm), hkb.row HOa.out.2.2 (fun g hg e => RdBox.row HGa.out HOa.out.2.2 (by decide) hg e.symm)⟩)
            have HBb := Lib.hid (HBa.out.trans (hkb.below HBa.out.size (fun q hq => by have e : q = y8 := hq; omega)))
            go_simp
            rw [← hXb]
            refine hK.out _ _ ⟨hTb, fun _ _ => trivial⟩ ?_
            clear hK K d0 d1 d2 d3 d4 d5 d6 v0 v1 v2 v3 v4 v5 v6 hXb hkb
            (try simp only [Act.put, List.getElem_toArray, List.getElem_cons_succ, List.getElem_cons_zero, List.setIfInBounds_toArray, List.set_cons_succ, List.set_cons_zero])
            refine wpTwo_end (by kernel_rfl) ?_ _
            go_wp2
            go_meet
            exact ⟨y7, y8, rfl, rfl, by omega, by omega, HF, HBb⟩
    · go_simp
      obtain ⟨y7, hy⟩ : ∃ q, q = X0.heap.size := ⟨_, rfl⟩
      obtain ⟨X1, hX⟩ : ∃ X : World, X = X0.alloc (.cells #[.slice none 0 0, .slice none 0 0, .bool false] 44) := ⟨_, rfl⟩
      rw [← hX, ← hy]
      have hb : Below X0.heap.size X0 X1 := by rw [hX]; exact below1 _ _
      have hl7 : W.heap.size + 2 ≤ y7 := by rw [hy]; exact hT0.2.lt
      have hT1 := And.intro (hT0.1.below hb) (hT0.2.below hb)
      have HB1 := Lib.hid (below_then HB0.out HB0.out.size hb)
      have HA1 := Lib.hid (show MBox X1 y7 (.slice none 0 0) (.slice none 0 0) false by rw [hX, hy]; exact MBox.new _ _ _ _)
      clear hb hX hy
      refine hK.out _ _ ⟨hT1, fun _ _ => trivial⟩ ?_
      clear hK K
      (try simp only [Act.put, List.getElem_toArray, List.getElem_cons_succ, List.getElem_cons_zero, List.setIfInBounds_toArray, List.set_cons_succ, List.set_cons_zero])
      refine wpTwo_ready (rs := [1, 5]) (by kernel_rfl) (by simp) ?_
      refine (AllTwo.cons rfl (fun K hK => ?_) (AllTwo.cons rfl (fun K hK => ?_) AllTwo.nil))
      · go_simp
        refine (HOW.out X1 HB1.out).mono ?_
        rintro e X2 ⟨⟨_, rfl, vx, vy, rfl, ho1, ho2⟩, hb⟩
        obtain ⟨px, cx, rfl⟩ := own_slice ho1
        obtain ⟨py, cy, rfl⟩ := own_slice ho2
        have hT2 := And.intro (hT1.1.below hb) (hT1.2.below hb)
        have HA2 := Lib.hid (HA1.out.below hb)
        have HB2 := Lib.hid (below_then HB1.out HB1.out.size hb)
        have HO2 := Lib.hid (And.intro (ho1.mono HB1.out.size) (ho2.mono HB1.out.size))
        clear hb ho1 ho2
        go_wp2_with fail
        refine hK.out _ _ ⟨hT2, fun _ _ => trivial⟩ ?_
        clear hK K
        (try simp only [Act.put, List.getElem_toArray, List.getElem_cons_succ, List.getElem_cons_zero, List.setIfInBounds_toArray, List.set_cons_succ, List.set_cons_zero])
        refine wpTwo_ready (rs := [3, 5]) (by kernel_rfl) (by simp) ?_
        refine (AllTwo.cons rfl (fun K hK => ?_) (AllTwo.cons rfl (fun K hK => ?_) AllTwo.nil))
        · go_simp
          refine (HOR.out X2 HB2.out).mono ?_
          rintro e X3 ⟨⟨pv, cv, rfl, ho⟩, hb⟩
          have hT3 := And.intro (hT2.1.below hb) (hT2.2.below hb)
          have HA3 := Lib.hid (HA2.out.below hb)
          have HO3 := Lib.hid (And.intro (owns_below HO2.out.1 hb) (owns_below HO2.out.2 hb))
          have HB3 := Lib.hid (below_then HB2.out HB2.out.size hb)
          have HP3 := Lib.hid (ho.mono HB2.out.size)
          clear hb ho
          go_wp2_with fail
          refine hK.out _ _ ⟨hT3, fun _ _ => trivial⟩ ?_
          clear hK K
          (try simp only [Act.put, List.getElem_toArray, List.getElem_cons_succ, List.getElem_cons_zero, List.setIfInBounds_toArray, List.set_cons_succ, List.set_cons_zero])
          refine wpTwo_ready (rs := [5]) (by kernel_rfl) (by simp) ?_
          refine (AllTwo.cons rfl (fun K hK => ?_) AllTwo.nil)
          · go_simp
            obtain ⟨y8, hy⟩ : ∃ q, q = X3.heap.size := ⟨_, rfl⟩
            obtain ⟨X4, hX⟩ : ∃ X : World, X = X3.alloc (.cells #[.int .i64 0, .int .i64 0, .int .i64 0, .int .i64 0, .int .u64 0, .slice none 0 0, .int .i64 0] 29) := ⟨_, rfl⟩
            rw [← hX, ← hy]
            have hb : Below X3.heap.size X3 X4 := by rw [hX]; exact below1 _ _
            have hl8 : W.heap.size + 2 ≤ y8 := by rw [hy]; exact hT3.2.lt
            have hT4 := And.intro (hT3.1.below hb) (hT3.2.below hb)
            have HA4 := Lib.hid (HA3.out.below hb)
            have HO4 := Lib.hid (And.intro (owns_below HO3.out.1 hb) (owns_below HO3.out.2 hb))
            have HP4 := Lib.hid (owns_below HP3.out hb)
            have HB4 := Lib.hid (below_then HB3.out HB3.out.size hb)
            have HG4 := Lib.hid (show RdBox X4 y8 ⟨0, 0, 0, 0, 0, 0⟩ (.slice none 0 0) by rw [hX, hy]; exact World.alloc_heap_new _ _)
            clear hb hX hy
            refine hK.out _ _ ⟨hT4, fun _ _ => trivial⟩ ?_
            clear hK K
            (try simp only [Act.put, List.getElem_toArray, List.getElem_cons_succ, List.getElem_cons_zero, List.setIfInBounds_toArray, List.set_cons_succ, List.set_cons_zero])
            refine wpTwo_ready (rs := [6]) (by kernel_rfl) (by simp) ?_
            refine (AllTwo.cons rfl (fun K hK => ?_) AllTwo.nil)
            obtain ⟨⟨d0, d1, d2⟩, e0, e1, e2⟩ := mbox_cells HA4.out
            have hn1 : y7 ≠ y8 := mbox_rdbox HA4.out HG4.out
            obtain ⟨Xa, hXa⟩ : ∃ X : World, X = ((X4.setCell ⟨y7, 0, none⟩ (.slice px us.length cx)).setCell ⟨y7, 1, none⟩ (.slice py ms.length cy)).setCell ⟨y7, 2, none⟩ (.bool f) := ⟨_, rfl⟩
            have hka : Keeps (fun q => q = y7) X4 Xa := by rw [hXa]; exact ((Keeps.setCell X4 (S := fun q => q = y7) (p := ⟨y7, 0, none⟩) rfl _).trans (Keeps.setCell _ (S := fun q => q = y7) (p := ⟨y7, 1, none⟩) rfl _)).trans (Keeps.setCell _ (S := fun q => q = y7) (p := ⟨y7, 2, none⟩) rfl _)
            have hTa := And.intro (hT4.1.keeps hka (by intro e; have e : W.heap.size = y7 := e; omega)) (show RdBox Xa (W.heap.size + 1) ⟨a, g, m, ph, b, t0⟩ (.slice p2 n2 c2) from (hka.block (W.heap.size + 1) hT4.2.lt (by intro e; have e : W.heap.size + 1 = y7 := e; omega)).trans hT4.2)
            have HAa := Lib.hid (show MBox Xa y7 (.slice px us.length cx) (.slice py ms.length cy) f by rw [hXa]; exact HA4.out.set _ _ _)
            have HGa := Lib.hid (show RdBox Xa y8 ⟨0, 0, 0, 0, 0, 0⟩ (.slice none 0 0) from (hka.block y8 HG4.out.lt (fun e => hn1 e.symm)).trans HG4.out)
            have HOa := Lib.hid (And.intro (hka.row HO4.out.1 (fun g hg e => HA4.out.row HO4.out.1 (by decide) hg e.symm)) (And.intro (hka.row HO4.out.2 (fun g hg e => HA4.out.row HO4.out.2 (by decide) hg e.symm)) (hka.row HP4.out (fun g hg e => HA4.out.row HP4.out (by decide) hg e.symm))))
            have HBa := Lib.hid (HB4.out.trans (hka.below HB4.out.size (fun q hq => by have e : q = y7 := hq; omega)))
            go_simp
            rw [← hXa]
            refine hK.out _ _ ⟨hTa, fun _ _ => trivial⟩ ?_
            clear hK K d0 d1 d2 e0 e1 e2 hXa hka
            (try simp only [Act.put, List.getElem_toArray, List.getElem_cons_succ, List.getElem_cons_zero, List.setIfInBounds_toArray, List.set_cons_succ, List.set_cons_zero])
            refine wpTwo_ready (rs := [7]) (by kernel_rfl) (by simp) ?_
            refine (AllTwo.cons rfl (fun K hK => ?_) AllTwo.nil)
            obtain ⟨d0, d1, d2, d3, d4, d5, d6⟩ := HGa.out.cells
            dsimp only at d0 d1 d2 d3 d4 d6
            have v0 := HGa.out.marks 0
            have v1 := HGa.out.marks 1
            have v2 := HGa.out.marks 2
            have v3 := HGa.out.marks 3
            have v4 := HGa.out.marks 4
            have v5 := HGa.out.marks 5
            have v6 := HGa.out.marks 6
            obtain ⟨Xb, hXb⟩ : ∃ X : World, X = ((((((Xa.setCell ⟨y8, 0, none⟩ (.int .i64 a)).setCell ⟨y8, 1, none⟩ (.int .i64 g)).setCell ⟨y8, 2, none⟩ (.int .i64 m)).setCell ⟨y8, 3, none⟩ (.int .i64 ph)).setCell ⟨y8, 4, none⟩ (.int .u64 b)).setCell ⟨y8, 5, none⟩ (.slice pv vs.length cv)).setCell ⟨y8, 6, none⟩ (.int .i64 t0) := ⟨_, rfl⟩
            have hkb : Keeps (fun q => q = y8) Xa Xb := by rw [hXb]; exact RdBox.putK Xa y8 ⟨a, g, m, ph, b, t0⟩ (.slice pv vs.length cv)
            have hTb := And.intro (hTa.1.keeps hkb (by intro e; have e : W.heap.size = y8 := e; omega)) (show RdBox Xb (W.heap.size + 1) ⟨a, g, m, ph, b, t0⟩ (.slice p2 n2 c2) from (hkb.block (W.heap.size + 1) hTa.2.lt (by intro e; have e : W.heap.size + 1 = y8 := e; omega)).trans hTa.2)
            have HF := Lib.hid (show StV W.heap.size Xb y7 y8 us ms f ⟨a, g, m, ph, b, t0⟩ vs from ⟨px, cx, py, cy, pv, cv, HAa.out.keeps hkb hn1, by rw [hXb]; exact HGa.out.put ⟨a, g, m, ph, b, t0⟩ (.slice pv vs.length cv), hkb.row HOa.out.1 (fun g hg e => RdBox.row HGa.out HOa.out.1 (by decide) hg e.symm), hkb.row HOa.out.2.1 (fun g hg e => RdBox.row HGa.out HOa.out.2.1 (by decide) hg e.symm), hkb.row HOa.out.2.2 (fun g hg e => RdBox.row HGa.out HOa.out.2.2 (by decide) hg e.symm)⟩)
            have HBb := Lib.hid (HBa.out.trans (hkb.below HBa.out.size (fun q hq => by have e : q = y8 := hq; omega)))
            go_simp
            rw [← hXb]
            refine hK.out _ _ ⟨hTb, fun _ _ => trivial⟩ ?_
            clear hK K d0 d1 d2 d3 d4 d5 d6 v0 v1 v2 v3 v4 v5 v6 hXb hkb
            (try simp only [Act.put, List.getElem_toArray, List.getElem_cons_succ, List.getElem_cons_zero, List.setIfInBounds_toArray, List.set_cons_succ, List.set_cons_zero])
            refine wpTwo_end (by kernel_rfl) ?_ _
            go_wp2
            go_meet
            exact ⟨y7, y8, rfl, rfl, by omega, by omega, HF, HBb⟩
        · go_simp
          obtain ⟨y8, hy⟩ : ∃ q, q = X2.heap.size := ⟨_, rfl⟩
          obtain ⟨X3, hX⟩ : ∃ X : World, X = X2.alloc (.cells #[.int .i64 0, .int .i64 0, .int .i64 0, .int .i64 0, .int .u64 0, .slice none 0 0, .int .i64 0] 29) := ⟨_, rfl⟩
          rw [← hX, ← hy]
          have hb : Below X2.heap.size X2 X3 := by rw [hX]; exact below1 _ _
          have hl8 : W.heap.size + 2 ≤ y8 := by rw [hy]; exact hT2.2.lt
          have hT3 := And.intro (hT2.1.below hb) (hT2.2.below hb)
          have HA3 := Lib.hid (HA2.out.below hb)
          have HO3 := Lib.hid (And.intro (owns_below HO2.out.1 hb) (owns_below HO2.out.2 hb))
          have HB3 := Lib.hid (below_then HB2.out HB2.out.size hb)
          have HG3 := Lib.hid (show RdBox X3 y8 ⟨0, 0, 0, 0, 0, 0⟩ (.slice none 0 0) by rw [hX, hy]; exact World.alloc_heap_new _ _)
          clear hb hX hy
          refine hK.out _ _ ⟨hT3, fun _ _ => trivial⟩ ?_
          clear hK K
          (try simp only [Act.put, List.getElem_toArray, List.getElem_cons_succ, List.getElem_cons_zero, List.setIfInBounds_toArray, List.set_cons_succ, List.set_cons_zero])
          refine wpTwo_ready (rs := [3]) (by kernel_rfl) (by simp) ?_
          refine (AllTwo.cons rfl (fun K hK => ?_) AllTwo.nil)
          · go_simp
            refine (HOR.out X3 HB3.out).mono ?_
            rintro e X4 ⟨⟨pv, cv, rfl, ho⟩, hb⟩
            have hT4 := And.intro (hT3.1.below hb) (hT3.2.below hb)
            have HA4 := Lib.hid (HA3.out.below hb)
            have HO4 := Lib.hid (And.intro (owns_below HO3.out.1 hb) (owns_below HO3.out.2 hb))
            have HG4 := Lib.hid (HG3.out.below hb)
            have HB4 := Lib.hid (below_then HB3.out HB3.out.size hb)
            have HP4 := Lib.hid (ho.mono HB3.out.size)
            clear hb ho
            go_wp2_with fail
            refine hK.out _ _ ⟨hT4, fun _ _ => trivial⟩ ?_
            clear hK K
            (try simp only [Act.put, List.getElem_toArray, List.getElem_cons_succ, List.getElem_cons_zero, List.setIfInBounds_toArray, List.set_cons_succ, List.set_cons_zero])
            refine wpTwo_ready (rs := [6]) (by kernel_rfl) (by simp) ?_
            refine (AllTwo.cons rfl (fun K hK => ?_) AllTwo.nil)
            obtain ⟨⟨d0, d1, d2⟩, e0, e1, e2⟩ := mbox_cells HA4.out
            have hn1 : y7 ≠ y8 := mbox_rdbox HA4.out HG4.out
            obtain ⟨Xa, hXa⟩ : ∃ X : World, X = ((X4.setCell ⟨y7, 0, none⟩ (.slice px us.length cx)).setCell ⟨y7, 1, none⟩ (.slice py ms.length cy)).setCell ⟨y7, 2, none⟩ (.bool f) := ⟨_, rfl⟩
            have hka : Keeps (fun q => q = y7) X4 Xa := by rw [hXa]; exact ((Keeps.setCell X4 (S := fun q => q = y7) (p := ⟨y7, 0, none⟩) rfl _).trans (Keeps.setCell _ (S := fun q => q = y7) (p := ⟨y7, 1, none⟩) rfl _)).trans (Keeps.setCell _ (S := fun q => q = y7) (p := ⟨y7, 2, none⟩) rfl _)
            have hTa := And.intro (hT4.1.keeps hka (by intro e; have e : W.heap.size = y7 := e; omega)) (show RdBox Xa (W.heap.size + 1) ⟨a, g, m, ph, b, t0⟩ (.slice p2 n2 c2) from (hka.block (W.heap.size + 1) hT4.2.lt (by intro e; have e : W.heap.size + 1 = y7 := e; omega)).trans hT4.2)
            have HAa := Lib.hid (show MBox Xa y7 (.slice px us.length cx) (.slice py ms.length cy) f by rw [hXa]; exact HA4.out.set _ _ _)
            have HGa := Lib.hid (show RdBox Xa y8 ⟨0, 0, 0, 0, 0, 0⟩ (.slice none 0 0) from (hka.block y8 HG4.out.lt (fun e => hn1 e.symm)).trans HG4.out)
            have HOa := Lib.hid (And.intro (hka.row HO4.out.1 (fun g hg e => HA4.out.row HO4.out.1 (by decide) hg e.symm)) (And.intro (hka.row HO4.out.2 (fun g hg e => HA4.out.row HO4.out.2 (by decide) hg e.symm)) (hka.row HP4.out (fun g hg e => HA4.out.row HP4.out (by decide) hg e.symm))))
            have HBa := Lib.hid (HB4.out.trans (hka.below HB4.out.size (fun q hq => by have e : q = y7 := hq; omega)))
            go_simp
            rw [← hXa]
            refine hK.out _ _ ⟨hTa, fun _ _ => trivial⟩ ?_
            clear hK K d0 d1 d2 e0 e1 e2 hXa hka
            (try simp only [Act.put, List.getElem_toArray, List.getElem_cons_succ, List.getElem_cons_zero, List.setIfInBounds_toArray, List.set_cons_succ, List.set_cons_zero])
            refine wpTwo_ready (rs := [7]) (by kernel_rfl) (by simp) ?_
            refine (AllTwo.cons rfl (fun K hK => ?_) AllTwo.nil)
            obtain ⟨d0, d1, d2, d3, d4, d5, d6⟩ := HGa.out.cells
            dsimp only at d0 d1 d2 d3 d4 d6
            have v0 := HGa.out.marks 0
            have v1 := HGa.out.marks 1
            have v2 := HGa.out.marks 2
            have v3 := HGa.out.marks 3
            have v4 := HGa.out.marks 4
            have v5 := HGa.out.marks 5
            have v6 := HGa.out.marks 6
            obtain ⟨Xb, hXb⟩ : ∃ X : World, X = ((((((Xa.setCell ⟨y8, 0, none⟩ (.int .i64 a)).setCell ⟨y8, 1, none⟩ (.int .i64 g)).setCell ⟨y8, 2, none⟩ (.int .i64 m)).setCell ⟨y8, 3, none⟩ (.int .i64 ph)).setCell ⟨y8, 4, none⟩ (.int .u64 b)).setCell ⟨y8, 5, none⟩ (.slice pv vs.length cv)).setCell ⟨y8, 6, none⟩ (.int .i64 t0) := ⟨_, rfl⟩
            have hkb : Keeps (fun q => q = y8) Xa Xb := by rw [hXb]; exact RdBox.putK Xa y8 ⟨a, g, m, ph, b, t0⟩ (.slice pv vs.length cv)
            have hTb := And.intro (hTa.1.keeps hkb (by intro e; have e : W.heap.size = y8 := e; omega)) (show RdBox Xb (W.heap.size + 1) ⟨a, g, m, ph, b, t0⟩ (.slice p2 n2 c2) from (hkb.block (W.heap.size + 1) hTa.2.lt (by intro e; have e : W.heap.size + 1 = y8 := e; omega)).trans hTa.2)
            have HF := Lib.hid (show StV W.heap.size Xb y7 y8 us ms f ⟨a, g, m, ph, b, t0⟩ vs from ⟨px, cx, py, cy, pv, cv, HAa.out.keeps hkb hn1, by rw [hXb]; exact HGa.out.put ⟨a, g, m, ph, b, t0⟩ (.slice pv vs.length cv), hkb.row HOa.out.1 (fun g hg e => RdBox.row HGa.out HOa.out.1 (by decide) hg e.symm), hkb.row HOa.out.2.1 (fun g hg e => RdBox.row HGa.out HOa.out.2.1 (by decide) hg e.symm), hkb.row HOa.out.2.2 (fun g hg e => RdBox.row HGa.out HOa.out.2.2 (by decide) hg e.symm)⟩)
            have HBb := Lib.hid (HBa.out.trans (hkb.below HBa.out.size (fun q hq => by have e : q = y8 := hq; omega)))
            go_simp
            rw [← hXb]
            refine hK.out _ _ ⟨hTb, fun _ _ => trivial⟩ ?_
            clear hK K d0 d1 d2 d3 d4 d5 d6 v0 v1 v2 v3 v4 v5 v6 hXb hkb
            (try simp only [Act.put, List.getElem_toArray, List.getElem_cons_succ, List.getElem_cons_zero, List.setIfInBounds_toArray, List.set_cons_succ, List.set_cons_zero])
            refine wpTwo_end (by kernel_rfl) ?_ _
            go_wp2
            go_meet
            exact ⟨y7, y8, rfl, rfl, by omega, by omega, HF, HBb⟩
      · go_simp
        obtain ⟨y8, hy⟩ : ∃ q, q = X1.heap.size := ⟨_, rfl⟩
        obtain ⟨X2, hX⟩ : ∃ X : World, X = X1.alloc (.cells #[.int .i64 0, .int .i64 0, .int .i64 0, .int .i64 0, .int .u64 0, .slice none 0 0, .int .i64 0] 29) := ⟨_, rfl⟩
        rw [← hX, ← hy]
        have hb : Below X1.heap.size X1 X2 := by rw [hX]; exact below1 _ _
        have hl8 : W.heap.size + 2 ≤ y8 := by rw [hy]; exact hT1.2.lt
        have hT2 := And.intro (hT1.1.below hb) (hT1.2.below hb)
        have HA2 := Lib.hid (HA1.out.below hb)
        have HB2 := Lib.hid (below_then HB1.out HB1.out.size hb)
        have HG2 := Lib.hid (show RdBox X2 y8 ⟨0, 0, 0, 0, 0, 0⟩ (.slice none 0 0) by rw [hX, hy]; exact World.alloc_heap_new _ _)
        clear hb hX hy
        refine hK.out _ _ ⟨hT2, fun _ _ => trivial⟩ ?_
        clear hK K
        (try simp only [Act.put, List.getElem_toArray, List.getElem_cons_succ, List.getElem_cons_zero, List.setIfInBounds_toArray, List.set_cons_succ, List.set_cons_zero])
        refine wpTwo_ready (rs := [1]) (by kernel_rfl) (by simp) ?_
        refine (AllTwo.cons rfl (fun K hK => ?_) AllTwo.nil)
        · go_simp
          refine (HOW.out X2 HB2.out).mono ?_
          rintro e X3 ⟨⟨_, rfl, vx, vy, rfl, ho1, ho2⟩, hb⟩
          obtain ⟨px, cx, rfl⟩ := own_slice ho1
          obtain ⟨py, cy, rfl⟩ := own_slice ho2
          have hT3 := And.intro (hT2.1.below hb) (hT2.2.below hb)
          have HA3 := Lib.hid (HA2.out.below hb)
          have HG3 := Lib.hid (HG2.out.below hb)
          have HB3 := Lib.hid (below_then HB2.out HB2.out.size hb)
          have HO3 := Lib.hid (And.intro (ho1.mono HB2.out.size) (ho2.mono HB2.out.size))
          clear hb ho1 ho2
          go_wp2_with fail
          refine hK.out _ _ ⟨hT3, fun _ _ => trivial⟩ ?_
          clear hK K
          (try simp only [Act.put, List.getElem_toArray, List.getElem_cons_succ, List.getElem_cons_zero, List.setIfInBounds_toArray, List.set_cons_succ, List.set_cons_zero])
          refine wpTwo_ready (rs := [3]) (by kernel_rfl) (by simp) ?_
          refine (AllTwo.cons rfl (fun K hK => ?_) AllTwo.nil)
          · go_simp
            refine (HOR.out X3 HB3.out).mono ?_
            rintro e X4 ⟨⟨pv, cv, rfl, ho⟩, hb⟩
            have hT4 := And.intro (hT3.1.below hb) (hT3.2.below hb)
            have HA4 := Lib.hid (HA3.out.below hb)
            have HG4 := Lib.hid (HG3.out.below hb)
            have HO4 := Lib.hid (And.intro (owns_below HO3.out.1 hb) (owns_below HO3.out.2 hb))
            have HB4 := Lib.hid (below_then HB3.out HB3.out.size hb)
            have HP4 := Lib.hid (ho.mono HB3.out.size)
            clear hb ho
            go_wp2_with fail
            refine hK.out _ _ ⟨hT4, fun _ _ => trivial⟩ ?_
            clear hK K
            (try simp only [Act.put, List.getElem_toArray, List.getElem_cons_succ, List.getElem_cons_zero, List.setIfInBounds_toArray, List.set_cons_succ, List.set_cons_zero])
            refine wpTwo_ready (rs := [6]) (by kernel_rfl) (by simp) ?_
            refine (AllTwo.cons rfl (fun K hK => ?_) AllTwo.nil)
            obtain ⟨⟨d0, d1, d2⟩, e0, e1, e2⟩ := mbox_cells HA4.out
            have hn1 : y7 ≠ y8 := mbox_rdbox HA4.out HG4.out
            obtain ⟨Xa, hXa⟩ : ∃ X : World, X = ((X4.setCell ⟨y7, 0, none⟩ (.slice px us.length cx)).setCell ⟨y7, 1, none⟩ (.slice py ms.length cy)).setCell ⟨y7, 2, none⟩ (.bool f) := ⟨_, rfl⟩
            have hka : Keeps (fun q => q = y7) X4 Xa := by rw [hXa]; exact ((Keeps.setCell X4 (S := fun q => q = y7) (p := ⟨y7, 0, none⟩) rfl _).trans (Keeps.setCell _ (S := fun q => q = y7) (p := ⟨y7, 1, none⟩) rfl _)).trans (Keeps.setCell _ (S := fun q => q = y7) (p := ⟨y7, 2, none⟩) rfl _)
            have hTa := And.intro (hT4.1.keeps hka (by intro e; have e : W.heap.size = y7 := e; omega)) (show RdBox Xa (W.heap.size + 1) ⟨a, g, m, ph, b, t0⟩ (.slice p2 n2 c2) from (hka.block (W.heap.size + 1) hT4.2.lt (by intro e; have e : W.heap.size + 1 = y7 := e; omega)).trans hT4.2)
            have HAa := Lib.hid (show MBox Xa y7 (.slice px us.length cx) (.slice py ms.length cy) f by rw [hXa]; exact HA4.out.set _ _ _)
            have HGa := Lib.hid (show RdBox Xa y8 ⟨0, 0, 0, 0, 0, 0⟩ (.slice none 0 0) from (hka.block y8 HG4.out.lt (fun e => hn1 e.symm)).trans HG4.out)
            have HOa := Lib.hid (And.intro (hka.row HO4.out.1 (fun g hg e => HA4.out.row HO4.out.1 (by decide) hg e.symm)) (And.intro (hka.row HO4.out.2 (fun g hg e => HA4.out.row HO4.out.2 (by decide) hg e.symm)) (hka.row HP4.out (fun g hg e => HA4.out.row HP4.out (by decide) hg e.symm))))
            have HBa := Lib.hid (HB4.out.trans (hka.below HB4.out.size (fun q hq => by have e : q = y7 := hq; omega)))
            go_simp
            rw [← hXa]
            refine hK.out _ _ ⟨hTa, fun _ _ => trivial⟩ ?_
            clear hK K d0 d1 d2 e0 e1 e2 hXa hka
            (try simp only [Act.put, List.getElem_toArray, List.getElem_cons_succ, List.getElem_cons_zero, List.setIfInBounds_toArray, List.set_cons_succ, List.set_cons_zero])
            refine wpTwo_ready (rs := [7]) (by kernel_rfl) (by simp) ?_
            refine (AllTwo.cons rfl (fun K hK => ?_) AllTwo.nil)
            obtain ⟨d0, d1, d2, d3, d4, d5, d6⟩ := HGa.out.cells
            dsimp only at d0 d1 d2 d3 d4 d6
            have v0 := HGa.out.marks 0
            have v1 := HGa.out.marks 1
            have v2 := HGa.out.marks 2
            have v3 := HGa.out.marks 3
            have v4 := HGa.out.marks 4
            have v5 := HGa.out.marks 5
            have v6 := HGa.out.marks 6
            obtain ⟨Xb, hXb⟩ : ∃ X : World, X = ((((((Xa.setCell ⟨y8, 0, none⟩ (.int .i64 a)).setCell ⟨y8, 1, none⟩ (.int .i64 g)).setCell ⟨y8, 2, none⟩ (.int .i64 m)).setCell ⟨y8, 3, none⟩ (.int .i64 ph)).setCell ⟨y8, 4, none⟩ (.int .u64 b)).setCell ⟨y8, 5, none⟩ (.slice pv vs.length cv)).setCell ⟨y8, 6, none⟩ (.int .i64 t0) := ⟨_, rfl⟩
            have hkb : Keeps (fun q => q = y8) Xa Xb := by rw [hXb]; exact RdBox.putK Xa y8 ⟨a, g, m, ph, b, t0⟩ (.slice pv vs.length cv)
            have hTb := And.intro (hTa.1.keeps hkb (by intro e; have e : W.heap.size = y8 := e; omega)) (show RdBox Xb (W.heap.size + 1) ⟨a, g, m, ph, b, t0⟩ (.slice p2 n2 c2) from (hkb.block (W.heap.size + 1) hTa.2.lt (by intro e; have e : W.heap.size + 1 = y8 := e; omega)).trans hTa.2)
            have HF := Lib.hid (show StV W.heap.size Xb y7 y8 us ms f ⟨a, g, m, ph, b, t0⟩ vs from ⟨px, cx, py, cy, pv, cv, HAa.out.keeps hkb hn1, by rw [hXb]; exact HGa.out.put ⟨a, g, m, ph, b, t0⟩ (.slice pv vs.length cv), hkb.row HOa.out.1 (fun g hg e => RdBox.row HGa.out HOa.out.1 (by decide) hg e.symm), hkb.row HOa.out.2.1 (fun g hg e => RdBox.row HGa.out HOa.out.2.1 (by decide) hg e.symm), hkb.row HOa.out.2.2 (fun g hg e => RdBox.row HGa.out HOa.out.2.2 (by decide) hg e.symm)⟩)
            have HBb := Lib.hid (HBa.out.trans (hkb.below HBa.out.size (fun q hq => by have e : q = y8 := hq; omega)))
            go_simp
            rw [← hXb]
            refine hK.out _ _ ⟨hTb, fun _ _ => trivial⟩ ?_
            clear hK K d0 d1 d2 d3 d4 d5 d6 v0 v1 v2 v3 v4 v5 v6 hXb hkb
            (try simp only [Act.put, List.getElem_toArray, List.getElem_cons_succ, List.getElem_cons_zero, List.setIfInBounds_toArray, List.set_cons_succ, List.set_cons_zero])
            refine wpTwo_end (by kernel_rfl) ?_ _
            go_wp2
            go_meet
            exact ⟨y7, y8, rfl, rfl, by omega, by omega, HF, HBb⟩
    · go_simp
      obtain ⟨y8, hy⟩ : ∃ q, q = X0.heap.size := ⟨_, rfl⟩
      obtain ⟨X1, hX⟩ : ∃ X : World, X = X0.alloc (.cells #[.int .i64 0, .int .i64 0, .int .i64 0, .int .i64 0, .int .u64 0, .slice none 0 0, .int .i64 0] 29) := ⟨_, rfl⟩
      rw [← hX, ← hy]
      have hb : Below X0.heap.size X0 X1 := by rw [hX]; exact below1 _ _
      have hl8 : W.heap.size + 2 ≤ y8 := by rw [hy]; exact hT0.2.lt
      have hT1 := And.intro (hT0.1.below hb) (hT0.2.below hb)
      have HB1 := Lib.hid (below_then HB0.out HB0.out.size hb)
      have HG1 := Lib.hid (show RdBox X1 y8 ⟨0, 0, 0, 0, 0, 0⟩ (.slice none 0 0) by rw [hX, hy]; exact World.alloc_heap_new _ _)
      clear hb hX hy
      refine hK.out _ _ ⟨hT1, fun _ _ => trivial⟩ ?_
      clear hK K
      (try simp only [Act.put, List.getElem_toArray, List.getElem_cons_succ, List.getElem_cons_zero, List.setIfInBounds_toArray, List.set_cons_succ, List.set_cons_zero])
      refine wpTwo_ready (rs := [1, 4]) (by kernel_rfl) (by simp) ?_
      refine (AllTwo.cons rfl (fun K hK => ?_) (AllTwo.cons rfl (fun K hK => ?_) AllTwo.nil))
      · go_simp
        refine (HOW.out X1 HB1.out).mono ?_
        rintro e X2 ⟨⟨_, rfl, vx, vy, rfl, ho1, ho2⟩, hb⟩
        obtain ⟨px, cx, rfl⟩ := own_slice ho1
        obtain ⟨py, cy, rfl⟩ := own_slice ho2
        have hT2 := And.intro (hT1.1.below hb) (hT1.2.below hb)
        have HG2 := Lib.hid (HG1.out.below hb)
        have HB2 := Lib.hid (below_then HB1.out HB1.out.size hb)
        have HO2 := Lib.hid (And.intro (ho1.mono HB1.out.size) (ho2.mono HB1.out.size))
        clear hb ho1 ho2
        go_wp2_with fail
        refine hK.out _ _ ⟨hT2, fun _ _ => trivial⟩ ?_
        clear hK K
        (try simp only [Act.put, List.getElem_toArray, List.getElem_cons_succ, List.getElem_cons_zero, List.setIfInBounds_toArray, List.set_cons_succ, List.set_cons_zero])
        refine wpTwo_ready (rs := [3, 4]) (by kernel_rfl) (by simp) ?_
        refine (AllTwo.cons rfl (fun K hK => ?_) (AllTwo.cons rfl (fun K hK => ?_) AllTwo.nil))
        · go_simp
          refine (HOR.out X2 HB2.out).mono ?_
          rintro e X3 ⟨⟨pv, cv, rfl, ho⟩, hb⟩
          have hT3 := And.intro (hT2.1.below hb) (hT2.2.below hb)
          have HG3 := Lib.hid (HG2.out.below hb)
          have HO3 := Lib.hid (And.intro (owns_below HO2.out.1 hb) (owns_below HO2.out.2 hb))
          have HB3 := Lib.hid (below_then HB2.out HB2.out.size hb)
          have HP3 := Lib.hid (ho.mono HB2.out.size)
          clear hb ho
          go_wp2_with fail
          refine hK.out _ _ ⟨hT3, fun _ _ => trivial⟩ ?_
          clear hK K
          (try simp only [Act.put, List.getElem_toArray, List.getElem_cons_succ, List.getElem_cons_zero, List.setIfInBounds_toArray, List.set_cons_succ, List.set_cons_zero])
          refine wpTwo_ready (rs := [4]) (by kernel_rfl) (by simp) ?_
          refine (AllTwo.cons rfl (fun K hK => ?_) AllTwo.nil)
          · go_simp
            obtain ⟨y7, hy⟩ : ∃ q, q = X3.heap.size := ⟨_, rfl⟩
            obtain ⟨X4, hX⟩ : ∃ X : World, X = X3.alloc (.cells #[.slice none 0 0, .slice none 0 0, .bool false] 44) := ⟨_, rfl⟩
            rw [← hX, ← hy]
            have hb : Below X3.heap.size X3 X4 := by rw [hX]; exact below1 _ _
            have hl7 : W.heap.size + 2 ≤ y7 := by rw [hy]; exact hT3.2.lt
            have hT4 := And.intro (hT3.1.below hb) (hT3.2.below hb)
            have HG4 := Lib.hid (HG3.out.below hb)
            have HO4 := Lib.hid (And.intro (owns_below HO3.out.1 hb) (owns_below HO3.out.2 hb))
            have HP4 := Lib.hid (owns_below HP3.out hb)
            have HB4 := Lib.hid (below_then HB3.out HB3.out.size hb)
            have HA4 := Lib.hid (show MBox X4 y7 (.slice none 0 0) (.slice none 0 0) false by rw [hX, hy]; exact MBox.new _ _ _ _)
            clear hb hX hy
            refine hK.out _ _ ⟨hT4, fun _ _ => trivial⟩ ?_
            clear hK K
            (try simp only [Act.put, List.getElem_toArray, List.getElem_cons_succ, List.getElem_cons_zero, List.setIfInBounds_toArray, List.set_cons_succ, List.set_cons_zero])
            refine wpTwo_ready (rs := [6]) (by kernel_rfl) (by simp) ?_
            refine (AllTwo.cons rfl (fun K hK => ?_) AllTwo.nil)
            obtain ⟨⟨d0, d1, d2⟩, e0, e1, e2⟩ := mbox_cells HA4.out
            have hn1 : y7 ≠ y8 := mbox_rdbox HA4.out HG4.out
            obtain ⟨Xa, hXa⟩ : ∃ X : World, X = ((X4.setCell ⟨y7, 0, none⟩ (.slice px us.length cx)).setCell ⟨y7, 1, none⟩ (.slice py ms.length cy)).setCell ⟨y7, 2, none⟩ (.bool f) := ⟨_, rfl⟩
            have hka : Keeps (fun q => q = y7) X4 Xa := by rw [hXa]; exact ((Keeps.setCell X4 (S := fun q => q = y7) (p := ⟨y7, 0, none⟩) rfl _).trans (Keeps.setCell _ (S := fun q => q = y7) (p := ⟨y7, 1, none⟩) rfl _)).trans (Keeps.setCell _ (S := fun q => q = y7) (p := ⟨y7, 2, none⟩) rfl _)
            have hTa := And.intro (hT4.1.keeps hka (by intro e; have e : W.heap.size = y7 := e; omega)) (show RdBox Xa (W.heap.size + 1) ⟨a, g, m, ph, b, t0⟩ (.slice p2 n2 c2) from (hka.block (W.heap.size + 1) hT4.2.lt (by intro e; have e : W.heap.size + 1 = y7 := e; omega)).trans hT4.2)
            have HAa := Lib.hid (show MBox Xa y7 (.slice px us.length cx) (.slice py ms.length cy) f by rw [hXa]; exact HA4.out.set _ _ _)
            have HGa := Lib.hid (show RdBox Xa y8 ⟨0, 0, 0, 0, 0, 0⟩ (.slice none 0 0) from (hka.block y8 HG4.out.lt (fun e => hn1 e.symm)).trans HG4.out)
            have HOa := Lib.hid (And.intro (hka.row HO4.out.1 (fun g hg e => HA4.out.row HO4.out.1 (by decide) hg e.symm)) (And.intro (hka.row HO4.out.2 (fun g hg e => HA4.out.row HO4.out.2 (by decide) hg e.symm)) (hka.row HP4.out (fun g hg e => HA4.out.row HP4.out (by decide) hg e.symm))))
            have HBa := Lib.hid (HB4.out.trans (hka.below HB4.out.size (fun q hq => by have e : q = y7 := hq; omega)))
            go_simp
            rw [← hXa]
            refine hK.out _ _ ⟨hTa, fun _ _ => trivial⟩ ?_
            clear hK K d0 d1 d2 e0 e1 e2 hXa hka
            (try simp only [Act.put, List.getElem_toArray, List.getElem_cons_succ, List.getElem_cons_zero, List.setIfInBounds_toArray, List.set_cons_succ, List.set_cons_zero])
            refine wpTwo_ready (rs := [7]) (by kernel_rfl) (by simp) ?_
            refine (AllTwo.cons rfl (fun K hK => ?_) AllTwo.nil)
            obtain ⟨d0, d1, d2, d3, d4, d5, d6⟩ := HGa.out.cells
            dsimp only at d0 d1 d2 d3 d4 d6
            have v0 := HGa.out.marks 0
            have v1 := HGa.out.marks 1
            have v2 := HGa.out.marks 2
            have v3 := HGa.out.marks 3
            have v4 := HGa.out.marks 4
            have v5 := HGa.out.marks 5
            have v6 := HGa.out.marks 6
            obtain ⟨Xb, hXb⟩ : ∃ X : World, X = ((((((Xa.setCell ⟨y8, 0, none⟩ (.int .i64 a)).setCell ⟨y8, 1, none⟩ (.int .i64 g)).setCell ⟨y8, 2, none⟩ (.int .i64 m)).setCell ⟨y8, 3, none⟩ (.int .i64 ph)).setCell ⟨y8, 4, none⟩ (.int .u64 b)).setCell ⟨y8, 5, none⟩ (.slice pv vs.length cv)).setCell ⟨y8, 6, none⟩ (.int .i64 t0) := ⟨_, rfl⟩
            have hkb : Keeps (fun q => q = y8) Xa Xb := by rw [hXb]; exact RdBox.putK Xa y8 ⟨a, g, m, ph, b, t0⟩ (.slice pv vs.length cv)
            have hTb := And.intro (hTa.1.keeps hkb (by intro e; have e : W.heap.size = y8 := e; omega)) (show RdBox Xb (W.heap.size + 1) ⟨a, g, m, ph, b, t0⟩ (.slice p2 n2 c2) from (hkb.block (W.heap.size + 1) hTa.2.lt (by intro e; have e : W.heap.size + 1 = y8 := e; omega)).trans hTa.2)
            have HF := Lib.hid (show StV W.heap.size Xb y7 y8 us ms f ⟨a, g, m, ph, b, t0⟩ vs from ⟨px, cx, py, cy, pv, cv, HAa.out.keeps hkb hn1, by rw [hXb]; exact HGa.out.put ⟨a, g, m, ph, b, t0⟩ (.slice pv vs.length cv), hkb.row HOa.out.1 (fun g hg e => RdBox.row HGa.out HOa.out.1 (by decide) hg e.symm), hkb.row HOa.out.2.1 (fun g hg e => RdBox.row HGa.out HOa.out.2.1 (by decide) hg e.symm), hkb.row HOa.out.2.2 (fun g hg e => RdBox.row HGa.out HOa.out.2.2 (by decide) hg e.symm)⟩)
            have HBb := Lib.hid (HBa.out.trans (hkb.below HBa.out.size (fun q hq => by have e : q = y8 := hq; omega)))
            go_simp
            rw [← hXb]
            refine hK.out _ _ ⟨hTb, fun _ _ => trivial⟩ ?_
            clear hK K d0 d1 d2 d3 d4 d5 d6 v0 v1 v2 v3 v4 v5 v6 hXb hkb
            (try simp only [Act.put, List.getElem_toArray, List.getElem_cons_succ, List.getElem_cons_zero, List.setIfInBounds_toArray, List.set_cons_succ, List.set_cons_zero])
            refine wpTwo_end (by kernel_rfl) ?_ _
            go_wp2
            go_meet
            exact ⟨y7, y8, rfl, rfl, by omega, by omega, HF, HBb⟩
        · go_simp
          obtain ⟨y7, hy⟩ : ∃ q, q = X2.heap.size := ⟨_, rfl⟩
          obtain ⟨X3, hX⟩ : ∃ X : World, X = X2.alloc (.cells #[.slice none 0 0, .slice none 0 0, .bool false] 44) := ⟨_, rfl⟩
          rw [← hX, ← hy]
          have hb : Below X2.heap.size X2 X3 := by rw [hX]; exact below1 _ _
          have hl7 : W.heap.size + 2 ≤ y7 := by rw [hy]; exact hT2.2.lt
          have hT3 := And.intro (hT2.1.below hb) (hT2.2.below hb)
          have HG3 := Lib.hid (HG2.out.below hb)
          have HO3 := Lib.hid (And.intro (owns_below HO2.out.1 hb) (owns_below HO2.out.2 hb))
          have HB3 := Lib.hid (below_then HB2.out HB2.out.size hb)
          have HA3 := Lib.hid (show MBox X3 y7 (.slice none 0 0) (.slice none 0 0) false by rw [hX, hy]; exact MBox.new _ _ _ _)
          clear hb hX hy
          refine hK.out _ _ ⟨hT3, fun _ _ => trivial⟩ ?_
          clear hK K
          (try simp only [Act.put, List.getElem_toArray, List.getElem_cons_succ, List.getElem_cons_zero, List.setIfInBounds_toArray, List.set_cons_succ, List.set_cons_zero])
          refine wpTwo_ready (rs := [3]) (by kernel_rfl) (by simp) ?_
          refine (AllTwo.cons rfl (fun K hK => ?_) AllTwo.nil)
          · go_simp
            refine (HOR.out X3 HB3.out).mono ?_
            rintro e X4 ⟨⟨pv, cv, rfl, ho⟩, hb⟩
            have hT4 := And.intro (hT3.1.below hb) (hT3.2.below hb)
            have HG4 := Lib.hid (HG3.out.below hb)
            have HO4 := Lib.hid (And.intro (owns_below HO3.out.1 hb) (owns_below HO3.out.2 hb))
            have HA4 := Lib.hid (HA3.out.below hb)
            have HB4 := Lib.hid (below_then HB3.out HB3.out.size hb)
            have HP4 := Lib.hid (ho.mono HB3.out.size)
            clear hb ho
            go_wp2_with fail
            refine hK.out _ _ ⟨hT4, fun _ _ => trivial⟩ ?_
            clear hK K
            (try simp only [Act.put, List.getElem_toArray, List.getElem_cons_succ, List.getElem_cons_zero, List.setIfInBounds_toArray, List.set_cons_succ, List.set_cons_zero])
            refine wpTwo_ready (rs := [6]) (by kernel_rfl) (by simp) ?_
            refine (AllTwo.cons rfl (fun K hK => ?_) AllTwo.nil)
            obtain ⟨⟨d0, d1, d2⟩, e0, e1, e2⟩ := mbox_cells HA4.out
            have hn1 : y7 ≠ y8 := mbox_rdbox HA4.out HG4.out
            obtain ⟨Xa, hXa⟩ : ∃ X : World, X = ((X4.setCell ⟨y7, 0, none⟩ (.slice px us.length cx)).setCell ⟨y7, 1, none⟩ (.slice py ms.length cy)).setCell ⟨y7, 2, none⟩ (.bool f) := ⟨_, rfl⟩
            have hka : Keeps (fun q => q = y7) X4 Xa := by rw [hXa]; exact ((Keeps.setCell X4 (S := fun q => q = y7) (p := ⟨y7, 0, none⟩) rfl _).trans (Keeps.setCell _ (S := fun q => q = y7) (p := ⟨y7, 1, none⟩) rfl _)).trans (Keeps.setCell _ (S := fun q => q = y7) (p := ⟨y7, 2, none⟩) rfl _)
            have hTa := And.intro (hT4.1.keeps hka (by intro e; have e : W.heap.size = y7 := e; omega)) (show RdBox Xa (W.heap.size + 1) ⟨a, g, m, ph, b, t0⟩ (.slice p2 n2 c2) from (hka.block (W.heap.size + 1) hT4.2.lt (by intro e; have e : W.heap.size + 1 = y7 := e; omega)).trans hT4.2)
            have HAa := Lib.hid (show MBox Xa y7 (.slice px us.length cx) (.slice py ms.length cy) f by rw [hXa]; exact HA4.out.set _ _ _)
            have HGa := Lib.hid (show RdBox Xa y8 ⟨0, 0, 0, 0, 0, 0⟩ (.slice none 0 0) from (hka.block y8 HG4.out.lt (fun e => hn1 e.symm)).trans HG4.out)
            have HOa := Lib.hid (And.intro (hka.row HO4.out.1 (fun g hg e => HA4.out.row HO4.out.1 (by decide) hg e.symm)) (And.intro (hka.row HO4.out.2 (fun g hg e => HA4.out.row HO4.out.2 (by decide) hg e.symm)) (hka.row HP4.out (fun g hg e => HA4.out.row HP4.out (by decide) hg e.symm))))
            have HBa := Lib.hid (HB4.out.trans (hka.below HB4.out.size (fun q hq => by have e : q = y7 := hq; omega)))
            go_simp
            rw [← hXa]
            refine hK.out _ _ ⟨hTa, fun _ _ => trivial⟩ ?_
            clear hK K d0 d1 d2 e0 e1 e2 hXa hka
            (try simp only [Act.put, List.getElem_toArray, List.getElem_cons_succ, List.getElem_cons_zero, List.setIfInBounds_toArray, List.set_cons_succ, List.set_cons_zero])
            refine wpTwo_ready (rs := [7]) (by kernel_rfl) (by simp) ?_
            refine (AllTwo.cons rfl (fun K hK => ?_) AllTwo.nil)
            obtain ⟨d0, d1, d2, d3, d4, d5, d6⟩ := HGa.out.cells
            dsimp only at d0 d1 d2 d3 d4 d6
            have v0 := HGa.out.marks 0
            have v1 := HGa.out.marks 1
            have v2 := HGa.out.marks 2
            have v3 := HGa.out.marks 3
            have v4 := HGa.out.marks 4
            have v5 := HGa.out.marks 5
            have v6 := HGa.out.marks 6
            obtain ⟨Xb, hXb⟩ : ∃ X : World, X = ((((((Xa.setCell ⟨y8, 0, none⟩ (.int .i64 a)).setCell ⟨y8, 1, none⟩ (.int .i64 g)).setCell ⟨y8, 2, none⟩ (.int .i64 m)).setCell ⟨y8, 3, none⟩ (.int .i64 ph)).setCell ⟨y8, 4, none⟩ (.int .u64 b)).setCell ⟨y8, 5, none⟩ (.slice pv vs.length cv)).setCell ⟨y8, 6, none⟩ (.int .i64 t0) := ⟨_, rfl⟩
            have hkb : Keeps (fun q => q = y8) Xa Xb := by rw [hXb]; exact RdBox.putK Xa y8 ⟨a, g, m, ph, b, t0⟩ (.slice pv vs.length cv)
            have hTb := And.intro (hTa.1.keeps hkb (by intro e; have e : W.heap.size = y8 := e; omega)) (show RdBox Xb (W.heap.size + 1) ⟨a, g, m, ph, b, t0⟩ (.slice p2 n2 c2) from (hkb.block (W.heap.size + 1) hTa.2.lt (by intro e; have e : W.heap.size + 1 = y8 := e; omega)).trans hTa.2)
            have HF := Lib.hid (show StV W.heap.size Xb y7 y8 us ms f ⟨a, g, m, ph, b, t0⟩ vs from ⟨px, cx, py, cy, pv, cv, HAa.out.keeps hkb hn1, by rw [hXb]; exact HGa.out.put ⟨a, g, m, ph, b, t0⟩ (.slice pv vs.length cv), hkb.row HOa.out.1 (fun g hg e => RdBox.row HGa.out HOa.out.1 (by decide) hg e.symm), hkb.row HOa.out.2.1 (fun g hg e => RdBox.row HGa.out HOa.out.2.1 (by decide) hg e.symm), hkb.row HOa.out.2.2 (fun g hg e => RdBox.row HGa.out HOa.out.2.2 (by decide) hg e.symm)⟩)
            have HBb := Lib.hid (HBa.out.trans (hkb.below HBa.out.size (fun q hq => by have e : q = y8 := hq; omega)))
            go_simp
            rw [← hXb]
            refine hK.out _ _ ⟨hTb, fun _ _ => trivial⟩ ?_
            clear hK K d0 d1 d2 d3 d4 d5 d6 v0 v1 v2 v3 v4 v5 v6 hXb hkb
            (try simp only [Act.put, List.getElem_toArray, List.getElem_cons_succ, List.getElem_cons_zero, List.setIfInBounds_toArray, List.set_cons_succ, List.set_cons_zero])
            refine wpTwo_end (by kernel_rfl) ?_ _
            go_wp2
            go_meet
            exact ⟨y7, y8, rfl, rfl, by omega, by omega, HF, HBb⟩
      · go_simp
        obtain ⟨y7, hy⟩ : ∃ q, q = X1.heap.size := ⟨_, rfl⟩
        obtain ⟨X2, hX⟩ : ∃ X : World, X = X1.alloc (.cells #[.slice none 0 0, .slice none 0 0, .bool false] 44) := ⟨_, rfl⟩
        rw [← hX, ← hy]
        have hb : Below X1.heap.size X1 X2 := by rw [hX]; exact below1 _ _
        have hl7 : W.heap.size + 2 ≤ y7 := by rw [hy]; exact hT1.2.lt
        have hT2 := And.intro (hT1.1.below hb) (hT1.2.below hb)
        have HG2 := Lib.hid (HG1.out.below hb)
        have HB2 := Lib.hid (below_then HB1.out HB1.out.size hb)
        have HA2 := Lib.hid (show MBox X2 y7 (.slice none 0 0) (.slice none 0 0) false by rw [hX, hy]; exact MBox.new _ _ _ _)
        clear hb hX hy
        refine hK.out _ _ ⟨hT2, fun _ _ => trivial⟩ ?_
        clear hK K
        (try simp only [Act.put, List.getElem_toArray, List.getElem_cons_succ, List.getElem_cons_zero, List.setIfInBounds_toArray, List.set_cons_succ, List.set_cons_zero])
        refine wpTwo_ready (rs := [1]) (by kernel_rfl) (by simp) ?_
        refine (AllTwo.cons rfl (fun K hK => ?_) AllTwo.nil)
        · go_simp
          refine (HOW.out X2 HB2.out).mono ?_
          rintro e X3 ⟨⟨_, rfl, vx, vy, rfl, ho1, ho2⟩, hb⟩
          obtain ⟨px, cx, rfl⟩ := own_slice ho1
          obtain ⟨py, cy, rfl⟩ := own_slice ho2
          have hT3 := And.intro (hT2.1.below hb) (hT2.2.below hb)
          have HG3 := Lib.hid (HG2.out.below hb)
          have HA3 := Lib.hid (HA2.out.below hb)
          have HB3 := Lib.hid (below_then HB2.out HB2.out.size hb)
          have HO3 := Lib.hid (And.intro (ho1.mono HB2.out.size) (ho2.mono HB2.out.size))
          clear hb ho1 ho2
          go_wp2_with fail
          refine hK.out _ _ ⟨hT3, fun _ _ => trivial⟩ ?_
          clear hK K
          (try simp only [Act.put, List.getElem_toArray, List.getElem_cons_succ, List.getElem_cons_zero, List.setIfInBounds_toArray, List.set_cons_succ, List.set_cons_zero])
          refine wpTwo_ready (rs := [3]) (by kernel_rfl) (by simp) ?_
          refine (AllTwo.cons rfl (fun K hK => ?_) AllTwo.nil)
          · go_simp
            refine (HOR.out X3 HB3.out).mono ?_
            rintro e X4 ⟨⟨pv, cv, rfl, ho⟩, hb⟩
            have hT4 := And.intro (hT3.1.below hb) (hT3.2.below hb)
            have HG4 := Lib.hid (HG3.out.below hb)
            have HA4 := Lib.hid (HA3.out.below hb)
            have HO4 := Lib.hid (And.intro (owns_below HO3.out.1 hb) (owns_below HO3.out.2 hb))
            have HB4 := Lib.hid (below_then HB3.out HB3.out.size hb)
            have HP4 := Lib.hid (ho.mono HB3.out.size)
            clear hb ho
            go_wp2_with fail
            refine hK.out _ _ ⟨hT4, fun _ _ => trivial⟩ ?_
            clear hK K
            (try simp only [Act.put, List.getElem_toArray, List.getElem_cons_succ, List.getElem_cons_zero, List.setIfInBounds_toArray, List.set_cons_succ, List.set_cons_zero])
            refine wpTwo_ready (rs := [6]) (by kernel_rfl) (by simp) ?_
            refine (AllTwo.cons rfl (fun K hK => ?_) AllTwo.nil)
            obtain ⟨⟨d0, d1, d2⟩, e0, e1, e2⟩ := mbox_cells HA4.out
            have hn1 : y7 ≠ y8 := mbox_rdbox HA4.out HG4.out
            obtain ⟨Xa, hXa⟩ : ∃ X : World, X = ((X4.setCell ⟨y7, 0, none⟩ (.slice px us.length cx)).setCell ⟨y7, 1, none⟩ (.slice py ms.length cy)).setCell ⟨y7, 2, none⟩ (.bool f) := ⟨_, rfl⟩
            have hka : Keeps (fun q => q = y7) X4 Xa := by rw [hXa]; exact ((Keeps.setCell X4 (S := fun q => q = y7) (p := ⟨y7, 0, none⟩) rfl _).trans (Keeps.setCell _ (S := fun q => q = y7) (p := ⟨y7, 1, none⟩) rfl _)).trans (Keeps.setCell _ (S := fun q => q = y7) (p := ⟨y7, 2, none⟩) rfl _)
            have hTa := And.intro (hT4.1.keeps hka (by intro e; have e : W.heap.size = y7 := e; omega)) (show RdBox Xa (W.heap.size + 1) ⟨a, g, m, ph, b, t0⟩ (.slice p2 n2 c2) from (hka.block (W.heap.size + 1) hT4.2.lt (by intro e; have e : W.heap.size + 1 = y7 := e; omega)).trans hT4.2)
            have HAa := Lib.hid (show MBox Xa y7 (.slice px us.length cx) (.slice py ms.length cy) f by rw [hXa]; exact HA4.out.set _ _ _)
            have HGa := Lib.hid (show RdBox Xa y8 ⟨0, 0, 0, 0, 0, 0⟩ (.slice none 0 0) from (hka.block y8 HG4.out.lt (fun e => hn1 e.symm)).trans HG4.out)
            have HOa := Lib.hid (And.intro (hka.row HO4.out.1 (fun g hg e => HA4.out.row HO4.out.1 (by decide) hg e.symm)) (And.intro (hka.row HO4.out.2 (fun g hg e => HA4.out.row HO4.out.2 (by decide) hg e.symm)) (hka.row HP4.out (fun g hg e => HA4.out.row HP4.out (by decide) hg e.symm))))
            have HBa := Lib.hid (HB4.out.trans (hka.below HB4.out.size (fun q hq => by have e : q = y7 := hq; omega)))
            go_simp
            rw [← hXa]
            refine hK.out _ _ ⟨hTa, fun _ _ => trivial⟩ ?_
            clear hK K d0 d1 d2 e0 e1 e2 hXa hka
            (try simp only [Act.put, List.getElem_toArray, List.getElem_cons_succ, List.getElem_cons_zero, List.setIfInBounds_toArray, List.set_cons_succ, List.set_cons_zero])
            refine wpTwo_ready (rs := [7]) (by kernel_rfl) (by simp) ?_
            refine (AllTwo.cons rfl (fun K hK => ?_) AllTwo.nil)
            obtain ⟨d0, d1, d2, d3, d4, d5, d6⟩ := HGa.out.cells
            dsimp only at d0 d1 d2 d3 d4 d6
            have v0 := HGa.out.marks 0
            have v1 := HGa.out.marks 1
            have v2 := HGa.out.marks 2
            have v3 := HGa.out.marks 3
            have v4 := HGa.out.marks 4
            have v5 := HGa.out.marks 5
            have v6 := HGa.out.marks 6
            obtain ⟨Xb, hXb⟩ : ∃ X : World, X = ((((((Xa.setCell ⟨y8, 0, none⟩ (.int .i64 a)).setCell ⟨y8, 1, none⟩ (.int .i64 g)).setCell ⟨y8, 2, none⟩ (.int .i64 m)).setCell ⟨y8, 3, none⟩ (.int .i64 ph)).setCell ⟨y8, 4, none⟩ (.int .u64 b)).setCell ⟨y8, 5, none⟩ (.slice pv vs.length cv)).setCell ⟨y8, 6, none⟩ (.int .i64 t0) := ⟨_, rfl⟩
            have hkb : Keeps (fun q => q = y8) Xa Xb := by rw [hXb]; exact RdBox.putK Xa y8 ⟨a, g, m, ph, b, t0⟩ (.slice pv vs.length cv)
            have hTb := And.intro (hTa.1.keeps hkb (by intro e; have e : W.heap.size = y8 := e; omega)) (show RdBox Xb (W.heap.size + 1) ⟨a, g, m, ph, b, t0⟩ (.slice p2 n2 c2) from (hkb.block (W.heap.size + 1) hTa.2.lt (by intro e; have e : W.heap.size + 1 = y8 := e; omega)).trans hTa.2)
            have HF := Lib.hid (show StV W.heap.size Xb y7 y8 us ms f ⟨a, g, m, ph, b, t0⟩ vs from ⟨px, cx, py, cy, pv, cv, HAa.out.keeps hkb hn1, by rw [hXb]; exact HGa.out.put ⟨a, g, m, ph, b, t0⟩ (.slice pv vs.length cv), hkb.row HOa.out.1 (fun g hg e => RdBox.row HGa.out HOa.out.1 (by decide) hg e.symm), hkb.row HOa.out.2.1 (fun g hg e => RdBox.row HGa.out HOa.out.2.1 (by decide) hg e.symm), hkb.row HOa.out.2.2 (fun g hg e => RdBox.row HGa.out HOa.out.2.2 (by decide) hg e.symm)⟩)
            have HBb := Lib.hid (HBa.out.trans (hkb.below HBa.out.size (fun q hq => by have e : q = y8 := hq; omega)))
            go_simp
            rw [← hXb]
            refine hK.out _ _ ⟨hTb, fun _ _ => trivial⟩ ?_
            clear hK K d0 d1 d2 d3 d4 d5 d6 v0 v1 v2 v3 v4 v5 v6 hXb hkb
            (try simp only [Act.put, List.getElem_toArray, List.getElem_cons_succ, List.getElem_cons_zero, List.setIfInBounds_toArray, List.set_cons_succ, List.set_cons_zero])
            refine wpTwo_end (by kernel_rfl) ?_ _
            go_wp2
            go_meet
            exact ⟨y7, y8, rfl, rfl, by omega, by omega, HF, HBb⟩
  case rest =>
    obtain ⟨zm, zr, rfl, rfl, hzm, hzr, HS, HBC⟩ := hcut
    have HZ := Lib.hid (And.intro hzm hzr)
    clear hzm hzr HM1 HR1 HB1 HOW HOR
    obtain ⟨w2, hw2⟩ : ∃ X : World, X = wc := ⟨_, rfl⟩
    rw [← hw2] at HS HBC
    rw [← hw2]
    clear hw2
    go_upto_region 4 with fail
    go_cut [21, 22] (fun s21 s22 wd => ∃ N : Nat, s21 = .int .i64 (N : Int) ∧ s22 = .int .i64 0 ∧ N ≤ 19 ∧ wd = w2)
    case first =>
      go_wp2_with fail
      go_meet
      obtain ⟨N, h1, h2⟩ := rem20 steps
      exact ⟨N, by rw [h1], rfl, h2, rfl⟩
    case rest =>
      obtain ⟨N, rfl, rfl, hN, rfl⟩ := hcut
      clear hst1 hst2
      go_wp2
      go_loopw [22] (fun iv wr => ∃ (i : Nat) (us : List Int) (ms : List Bool) (f : Bool) (s : RdM) (vs : List Int), i ≤ N ∧ iv = .int .i64 i ∧ StV W.heap.size wr zm zr us ms f s vs ∧ (WRange us ∧ us.length ≤ 48 ∧ vs.length ≤ 18 ∧ ms.length ≤ 48) ∧ (0 ≤ s.b ∧ s.b ≤ 18446744073709551615) ∧ Below W.heap.size W wr) (fun iv _ => N - (pIntOf iv).toNat)
      case atStart => exact ⟨0, us, ms, f, _, vs, Nat.zero_le _, rfl, HS.out, HRG.out, HSB.out, HBC.out⟩
      case round =>
        clear HS HRG HSB HBC
        obtain ⟨i, us, ms, f, s, vs, hi, rfl, hS, hrg, hsb, hB⟩ := hrel
        by_cases hlt : i < N
        · obtain ⟨px, cx, py, cy, pv, cv, h1, h2, h3, h4, h5⟩ := hS
          obtain ⟨a, g, m, ph, b, t0⟩ := s
          obtain ⟨⟨z0, z1, z2⟩, -⟩ := mbox_cells h1
          obtain ⟨r0, r1, r2, r3, r4, r5, r6⟩ := h2.cells
          dsimp only at r0 r1 r2 r3 r4 r6 hsb
          have HMEM := Lib.hid (show MemAt wr (.agg #[.slice px us.length cx, .slice py ms.length cy, .bool f]) us ms f from ⟨_, _, rfl, nums_of_owns rfl h3, bools_of_owns rfl h4⟩)
          have HV := Lib.hid (VV.ownsLt h5 rfl)
          have HB := Lib.hid hB
          have HS := Lib.hid (show StV W.heap.size wr zm zr us ms f ⟨a, g, m, ph, b, t0⟩ vs from ⟨px, cx, py, cy, pv, cv, h1, h2, h3, h4, h5⟩)
          have HR := Lib.hid hrg
          have HSB := Lib.hid hsb
          clear h1 h2 h3 h4 h5 hrg hsb hB
          cases hr : rightB us ms with
          | false =>
            have HST := Lib.hid (sread_bad _ us ms f ⟨a, g, m, ph, b, t0⟩ pv vs.length cv wr HMEM.out (by have := HR.out.2.1; omega) hr)
            unfold rdV memZ at HST
            dsimp only at HST
            clear hr
            go_wp2_with fail
            refine HST.out.mono ?_
            rintro e w3 ⟨rfl, hb3⟩
            have HB3 := Lib.hid (below_then HB.out HB.out.size hb3)
            clear hb3 HST z0 z1 z2 r0 r1 r2 r3 r4 r5 r6
            go_wp2
            go_ret
            exact ⟨rfl, (HB3.out.alloc HB3.out.size _).alloc (by simp; have := HB3.out.size; omega) _⟩
          | true =>
            cases hR : rightRB ⟨a, g, m, ph, b, t0⟩ vs.length with
            | false =>
              have HST := Lib.hid (sread_no _ us ms f ⟨a, g, m, ph, b, t0⟩ pv vs.length cv wr HMEM.out hr hR HSB.out)
              unfold rdV memZ at HST
              dsimp only at HST
              clear hr hR
              go_wp2_with fail
              refine HST.out.mono ?_
              rintro e w3 ⟨rfl, hb3⟩
              have HB3 := Lib.hid (below_then HB.out HB.out.size hb3)
              clear hb3 HST z0 z1 z2 r0 r1 r2 r3 r4 r5 r6
              go_wp2
              go_ret
              exact ⟨rfl, (HB3.out.alloc HB3.out.size _).alloc (by simp; have := HB3.out.size; omega) _⟩
            | true =>
              have HRT := Lib.hid (stepR_right ms us f ⟨a, g, m, ph, b, t0⟩ vs hR)
              have HSH := Lib.hid (show (((stepR ms us f ⟨a, g, m, ph, b, t0⟩ vs).1.2 = true ∧ (stepR ms us f ⟨a, g, m, ph, b, t0⟩ vs).2.1.p = 5 ∧ ph ≠ 5) ∨ ((stepR ms us f ⟨a, g, m, ph, b, t0⟩ vs).1.2 = f ∧ ((stepR ms us f ⟨a, g, m, ph, b, t0⟩ vs).2.1.p = 5 → ph = 5))) ∧ (t0 ≤ (stepR ms us f ⟨a, g, m, ph, b, t0⟩ vs).2.1.t ∧ (stepR ms us f ⟨a, g, m, ph, b, t0⟩ vs).2.1.t ≤ t0 + 1) ∧ (0 ≤ (stepR ms us f ⟨a, g, m, ph, b, t0⟩ vs).2.1.b ∧ (stepR ms us f ⟨a, g, m, ph, b, t0⟩ vs).2.1.b ≤ 18446744073709551615) ∧ (4 ≤ ph → (stepR ms us f ⟨a, g, m, ph, b, t0⟩ vs).2.1.p = ph ∧ (stepR ms us f ⟨a, g, m, ph, b, t0⟩ vs).2.2 = vs) ∧ (0 ≤ t0 ∧ t0 ≤ 1073741824) from by
                have htb : 0 ≤ t0 ∧ t0 ≤ 1073741824 := (rightRB_parts hR).2.2.1
                by_cases h4 : 4 ≤ ph
                · rw [stepR_over ms us f ⟨a, g, m, ph, b, t0⟩ vs h4]
                  exact ⟨.inr ⟨rfl, fun e => e⟩, ⟨Int.le_refl _, by dsimp only; omega⟩, HSB.out, fun _ => ⟨rfl, rfl⟩, htb⟩
                · obtain ⟨h1, h2, h3⟩ := stepR_shape ms us f ⟨a, g, m, ph, b, t0⟩ vs h4 hR HR.out.1 HSB.out
                  refine ⟨?_, h2, h3, fun e => absurd e h4, htb⟩
                  rcases h1 with ⟨h1, h5⟩ | ⟨h1, h5⟩
                  · exact .inl ⟨h1, h5, by omega⟩
                  · exact .inr ⟨h1, fun e => absurd e h5⟩)
              have hsm := stepR_same ms us f ⟨a, g, m, ph, b, t0⟩ vs
              have HST := Lib.hid (sread_c _ us ms f ⟨a, g, m, ph, b, t0⟩ pv cv vs wr HMEM.out hr HR.out.1 HV.out hR HSB.out)
              have HL2 := Lib.hid (show (stepR ms us f ⟨a, g, m, ph, b, t0⟩ vs).2.2.length ≤ 18 from by
                have h := rightRB_parts HRT.out
                have h2 := (fits_le h.1.1 h.2.2.2).1
                have h3 := h.1.2
                omega)
              obtain ⟨⟨⟨us2, f2⟩, ⟨a2, g2, m2, ph2, b2, t2⟩, vs2⟩, hfin⟩ : ∃ x, x = stepR ms us f ⟨a, g, m, ph, b, t0⟩ vs := ⟨_, rfl⟩
              rw [← hfin] at hsm HRT HSH HST HL2
              dsimp only at hsm HRT HSH HST HL2
              subst hsm
              unfold rdV at HST
              dsimp only at HST
              clear hr hR hfin HMEM HV
              go_wp2_with fail
              refine HST.out.mono ?_
              rintro e w3 ⟨⟨gw, cw, gl, cl, p3, c3, rfl, ho1, ho2, ho3⟩, hb3⟩
              dsimp only at ho1 ho2 ho3 ⊢
              unfold rdV
              dsimp only
              obtain ⟨z9, hz9⟩ : ∃ z, z = w3.heap.size := ⟨_, rfl⟩
              obtain ⟨w4, hw4⟩ : ∃ X : World, X = (w3.alloc (.cells #[.slice (some ⟨gw, 0, none⟩) us2.length cw, .slice (some ⟨gl, 0, none⟩) ms.length cl, .bool f2] 44)).alloc (.cells #[.int .i64 a2, .int .i64 g2, .int .i64 m2, .int .i64 ph2, .int .u64 b2, .slice p3 vs2.length c3, .int .i64 t2] 29) := ⟨_, rfl⟩
              have hb34 : Below w3.heap.size w3 w4 := by rw [hw4]; exact below2 w3 _ _
              have hb4 : Below wr.heap.size wr w4 := hb3.trans (hb34.mono hb3.size)
              have HN4 := Lib.hid (show StV W.heap.size w4 z9 (z9 + 1) us2 ms f2 ⟨a2, g2, m2, ph2, b2, t2⟩ vs2 from by
                have h := World.alloc_heap_new (w3.alloc (.cells #[.slice (some ⟨gw, 0, none⟩) us2.length cw, .slice (some ⟨gl, 0, none⟩) ms.length cl, .bool f2] 44)) (.cells #[.int .i64 a2, .int .i64 g2, .int .i64 m2, .int .i64 ph2, .int .u64 b2, .slice p3 vs2.length c3, .int .i64 t2] 29)
                rw [World.size_alloc, ← hw4, ← hz9] at h
                exact ⟨_, _, _, _, _, _, by rw [hw4, hz9]; exact (MBox.new w3 _ _ _).alloc _, h, (owns_below ho1 hb34).mono HB.out.size, (owns_below ho2 hb34).mono HB.out.size, (owns_below ho3 hb34).mono HB.out.size⟩)
              have HS4 := Lib.hid (HS.out.below hb4)
              have HB4 := Lib.hid (below_then HB.out HB.out.size hb4)
              have HNE := Lib.hid (show zm < z9 ∧ zr < z9 from by
                obtain ⟨_, _, _, _, _, _, h1, h2, -⟩ := HS.out
                have e1 := h1.lt
                have e2 := h2.lt
                have e3 := hb3.size
                omega)
              have HWW := Lib.hid (And.intro hz9 hw4)
              clear hz9 hw4 hb3 hb34 hb4 ho1 ho2 ho3 HST HS HB z0 z1 z2 r0 r1 r2 r3 r4 r5 r6
              go_upto_region 9 with fail
              rw [← HWW.out.1, ← HWW.out.2]
              clear HWW
              go_cut [72] from 23 to 108 (fun s72 wc => s72 = .bool false ∧ Hid (StV W.heap.size wc z9 (z9 + 1) us2 ms f2 ⟨a2, g2, m2, ph2, b2, t2⟩ vs2 ∧ StV W.heap.size wc zm zr us2 ms f ⟨a, g, m, ph, b, t0⟩ vs ∧ Below W.heap.size W wc))
              case first =>
                have hcs : (f = true ∧ f2 = true) ∨ (f = false ∧ f2 = true ∧ ph2 = 5 ∧ ph ≠ 5) ∨ (f = false ∧ f2 = false ∧ ph2 ≠ 5) ∨ (f = false ∧ f2 = false ∧ ph2 = 5 ∧ ph = 5) := by
                  rcases HSH.out.1 with ⟨h1, h2, h3⟩ | ⟨h1, h2⟩
                  · cases f
                    · exact .inr (.inl ⟨rfl, h1, h2, h3⟩)
                    · exact .inl ⟨rfl, h1⟩
                  · cases f
                    · by_cases e : ph2 = 5
                      · exact .inr (.inr (.inr ⟨rfl, h1, e, h2 e⟩))
                      · exact .inr (.inr (.inl ⟨rfl, h1, e⟩))
                    · exact .inl ⟨rfl, h1⟩
                rcases hcs with ⟨rfl, rfl⟩ | ⟨rfl, rfl, rfl, hq⟩ | ⟨rfl, rfl, hq⟩ | ⟨rfl, rfl, rfl, rfl⟩
                · obtain ⟨p9, c9, q9, d9, pw, cv9, n1, n2, n3, n4, n5⟩ := HN4.out
                  obtain ⟨px2, cx2, py2, cy2, pv2, cv2, k1, k2, k3, k4, k5⟩ := HS4.out
                  have HE1 := Lib.hid (equalW_same _ _ us2 w4 (nums_of_owns rfl n3) (nums_of_owns rfl k3) (by have := HR.out.2.1; omega))
                  have HE2 := Lib.hid (fun (Z : World) (hb : Below w4.heap.size w4 Z) => equalB_same _ _ ms Z (bools_of_owns rfl (owns_below n4 hb)) (bools_of_owns rfl (owns_below k4 hb)) (by have := HR.out.2.2.2; omega))
                  have HCK := Lib.hid (fun Z : World => checkRead_c ⟨a2, g2, m2, ph2, b2, t2⟩ pw vs2.length cv9 HSH.out.2.2.1 Z)
                  rw [HRT.out, if_pos rfl] at HCK
                  unfold rdV at HCK
                  dsimp only at HCK
                  have HBX := Lib.hid (And.intro n1 (And.intro n2 (And.intro k1 k2)))
                  obtain ⟨⟨x0, x1, x2⟩, -⟩ := mbox_cells k1
                  obtain ⟨⟨n0, n1', n2'⟩, -⟩ := mbox_cells n1
                  clear n1 n2 n3 n4 n5 k1 k2 k3 k4 k5
                  go_wp2_with fail
                  refine HE1.out.mono ?_
                  rintro e w5 ⟨rfl, hb5⟩
                  have HB5 := Lib.hid hb5
                  clear hb5 HE1 x0 x1 x2 n0 n1' n2'
                  obtain ⟨⟨x0, x1, x2⟩, -⟩ := mbox_cells (HBX.out.2.2.1.below HB5.out)
                  obtain ⟨⟨n0, n1', n2'⟩, -⟩ := mbox_cells (HBX.out.1.below HB5.out)
                  go_wp2_with fail
                  refine (HE2.out w5 HB5.out).mono ?_
                  rintro e w6 ⟨rfl, hb6⟩
                  have HB6 := Lib.hid (below_then HB5.out HB5.out.size hb6)
                  clear hb6 HB5 HE2 x0 x1 x2 n0 n1' n2'
                  obtain ⟨⟨x0, x1, x2⟩, -⟩ := mbox_cells (HBX.out.2.2.1.below HB6.out)
                  obtain ⟨⟨n0, n1', n2'⟩, -⟩ := mbox_cells (HBX.out.1.below HB6.out)
                  obtain ⟨s0, s1, s2, s3, s4, s5, s6⟩ := (HBX.out.2.1.below HB6.out).cells
                  obtain ⟨r0, r1, r2, r3, r4, r5, r6⟩ := (HBX.out.2.2.2.below HB6.out).cells
                  dsimp only at s0 s1 s2 s3 s4 s6 r0 r1 r2 r3 r4 r6
                  go_wp2_with fail
                  refine (HCK.out w6).mono ?_
                  rintro e w7 ⟨rfl, hb7⟩
                  have hb47 := below_then HB6.out HB6.out.size hb7
                  have HF := Lib.hid (And.intro (HN4.out.below hb47) (And.intro (HS4.out.below hb47) (below_then HB4.out HB4.out.size hb47)))
                  clear hb7 hb47 HB6 HCK HBX x0 x1 x2 n0 n1' n2' s0 s1 s2 s3 s4 s5 s6 r0 r1 r2 r3 r4 r5 r6
                  go_wp2
                  go_meet
                  exact ⟨rfl, HF⟩
                · have hq2 : (ph == 5) = false := by rw [beq_eq_false_iff_ne]; exact hq
                  have hq3 : (ph != 5) = true := by rw [bne_iff_ne]; exact hq
                  have hq4 : decide (ph = 5) = false := decide_eq_false hq
                  obtain ⟨p9, c9, q9, d9, pw, cv9, n1, n2, n3, n4, n5⟩ := HN4.out
                  obtain ⟨px2, cx2, py2, cy2, pv2, cv2, k1, k2, k3, k4, k5⟩ := HS4.out
                  have HE1 := Lib.hid (equalW_same _ _ us2 w4 (nums_of_owns rfl n3) (nums_of_owns rfl k3) (by have := HR.out.2.1; omega))
                  have HE2 := Lib.hid (fun (Z : World) (hb : Below w4.heap.size w4 Z) => equalB_same _ _ ms Z (bools_of_owns rfl (owns_below n4 hb)) (bools_of_owns rfl (owns_below k4 hb)) (by have := HR.out.2.2.2; omega))
                  have HCK := Lib.hid (fun Z : World => checkRead_c ⟨a2, g2, m2, 5, b2, t2⟩ pw vs2.length cv9 HSH.out.2.2.1 Z)
                  rw [HRT.out, if_pos rfl] at HCK
                  unfold rdV at HCK
                  dsimp only at HCK
                  have HBX := Lib.hid (And.intro n1 (And.intro n2 (And.intro k1 k2)))
                  obtain ⟨⟨x0, x1, x2⟩, -⟩ := mbox_cells k1
                  obtain ⟨⟨n0, n1', n2'⟩, -⟩ := mbox_cells n1
                  clear n1 n2 n3 n4 n5 k1 k2 k3 k4 k5
                  go_wp2_with fail
                  refine HE1.out.mono ?_
                  rintro e w5 ⟨rfl, hb5⟩
                  have HB5 := Lib.hid hb5
                  clear hb5 HE1 x0 x1 x2 n0 n1' n2'
                  obtain ⟨⟨x0, x1, x2⟩, -⟩ := mbox_cells (HBX.out.2.2.1.below HB5.out)
                  obtain ⟨⟨n0, n1', n2'⟩, -⟩ := mbox_cells (HBX.out.1.below HB5.out)
                  go_wp2_with fail
                  refine (HE2.out w5 HB5.out).mono ?_
                  rintro e w6 ⟨rfl, hb6⟩
                  have HB6 := Lib.hid (below_then HB5.out HB5.out.size hb6)
                  clear hb6 HB5 HE2 x0 x1 x2 n0 n1' n2'
                  obtain ⟨⟨x0, x1, x2⟩, -⟩ := mbox_cells (HBX.out.2.2.1.below HB6.out)
                  obtain ⟨⟨n0, n1', n2'⟩, -⟩ := mbox_cells (HBX.out.1.below HB6.out)
                  obtain ⟨s0, s1, s2, s3, s4, s5, s6⟩ := (HBX.out.2.1.below HB6.out).cells
                  obtain ⟨r0, r1, r2, r3, r4, r5, r6⟩ := (HBX.out.2.2.2.below HB6.out).cells
                  dsimp only at s0 s1 s2 s3 s4 s6 r0 r1 r2 r3 r4 r6
                  go_wp2_with fail
                  refine (HCK.out w6).mono ?_
                  rintro e w7 ⟨rfl, hb7⟩
                  have hb47 := below_then HB6.out HB6.out.size hb7
                  have HF := Lib.hid (And.intro (HN4.out.below hb47) (And.intro (HS4.out.below hb47) (below_then HB4.out HB4.out.size hb47)))
                  clear hb7 hb47 HB6 HCK HBX x0 x1 x2 n0 n1' n2' s0 s1 s2 s3 s4 s5 s6 r0 r1 r2 r3 r4 r5 r6
                  go_wp2
                  go_meet
                  exact ⟨rfl, HF⟩
                · have hq2 : (ph2 == 5) = false := by rw [beq_eq_false_iff_ne]; exact hq
                  clear hq
                  obtain ⟨p9, c9, q9, d9, pw, cv9, n1, n2, n3, n4, n5⟩ := HN4.out
                  obtain ⟨px2, cx2, py2, cy2, pv2, cv2, k1, k2, k3, k4, k5⟩ := HS4.out
                  have HE1 := Lib.hid (equalW_same _ _ us2 w4 (nums_of_owns rfl n3) (nums_of_owns rfl k3) (by have := HR.out.2.1; omega))
                  have HE2 := Lib.hid (fun (Z : World) (hb : Below w4.heap.size w4 Z) => equalB_same _ _ ms Z (bools_of_owns rfl (owns_below n4 hb)) (bools_of_owns rfl (owns_below k4 hb)) (by have := HR.out.2.2.2; omega))
                  have HCK := Lib.hid (fun Z : World => checkRead_c ⟨a2, g2, m2, ph2, b2, t2⟩ pw vs2.length cv9 HSH.out.2.2.1 Z)
                  rw [HRT.out, if_pos rfl] at HCK
                  unfold rdV at HCK
                  dsimp only at HCK
                  have HBX := Lib.hid (And.intro n1 (And.intro n2 (And.intro k1 k2)))
                  obtain ⟨⟨x0, x1, x2⟩, -⟩ := mbox_cells k1
                  obtain ⟨⟨n0, n1', n2'⟩, -⟩ := mbox_cells n1
                  clear n1 n2 n3 n4 n5 k1 k2 k3 k4 k5
                  go_wp2_with fail
                  refine HE1.out.mono ?_
                  rintro e w5 ⟨rfl, hb5⟩
                  have HB5 := Lib.hid hb5
                  clear hb5 HE1 x0 x1 x2 n0 n1' n2'
                  obtain ⟨⟨x0, x1, x2⟩, -⟩ := mbox_cells (HBX.out.2.2.1.below HB5.out)
                  obtain ⟨⟨n0, n1', n2'⟩, -⟩ := mbox_cells (HBX.out.1.below HB5.out)
                  go_wp2_with fail
                  refine (HE2.out w5 HB5.out).mono ?_
                  rintro e w6 ⟨rfl, hb6⟩
                  have HB6 := Lib.hid (below_then HB5.out HB5.out.size hb6)
                  clear hb6 HB5 HE2 x0 x1 x2 n0 n1' n2'
                  obtain ⟨⟨x0, x1, x2⟩, -⟩ := mbox_cells (HBX.out.2.2.1.below HB6.out)
                  obtain ⟨⟨n0, n1', n2'⟩, -⟩ := mbox_cells (HBX.out.1.below HB6.out)
                  obtain ⟨s0, s1, s2, s3, s4, s5, s6⟩ := (HBX.out.2.1.below HB6.out).cells
                  obtain ⟨r0, r1, r2, r3, r4, r5, r6⟩ := (HBX.out.2.2.2.below HB6.out).cells
                  dsimp only at s0 s1 s2 s3 s4 s6 r0 r1 r2 r3 r4 r6
                  go_wp2_with fail
                  refine (HCK.out w6).mono ?_
                  rintro e w7 ⟨rfl, hb7⟩
                  have hb47 := below_then HB6.out HB6.out.size hb7
                  have HF := Lib.hid (And.intro (HN4.out.below hb47) (And.intro (HS4.out.below hb47) (below_then HB4.out HB4.out.size hb47)))
                  clear hb7 hb47 HB6 HCK HBX x0 x1 x2 n0 n1' n2' s0 s1 s2 s3 s4 s5 s6 r0 r1 r2 r3 r4 r5 r6
                  go_wp2
                  go_meet
                  exact ⟨rfl, HF⟩
                · obtain ⟨p9, c9, q9, d9, pw, cv9, n1, n2, n3, n4, n5⟩ := HN4.out
                  obtain ⟨px2, cx2, py2, cy2, pv2, cv2, k1, k2, k3, k4, k5⟩ := HS4.out
                  have HE1 := Lib.hid (equalW_same _ _ us2 w4 (nums_of_owns rfl n3) (nums_of_owns rfl k3) (by have := HR.out.2.1; omega))
                  have HE2 := Lib.hid (fun (Z : World) (hb : Below w4.heap.size w4 Z) => equalB_same _ _ ms Z (bools_of_owns rfl (owns_below n4 hb)) (bools_of_owns rfl (owns_below k4 hb)) (by have := HR.out.2.2.2; omega))
                  have HCK := Lib.hid (fun Z : World => checkRead_c ⟨a2, g2, m2, 5, b2, t2⟩ pw vs2.length cv9 HSH.out.2.2.1 Z)
                  rw [HRT.out, if_pos rfl] at HCK
                  unfold rdV at HCK
                  dsimp only at HCK
                  have HBX := Lib.hid (And.intro n1 (And.intro n2 (And.intro k1 k2)))
                  obtain ⟨⟨x0, x1, x2⟩, -⟩ := mbox_cells k1
                  obtain ⟨⟨n0, n1', n2'⟩, -⟩ := mbox_cells n1
                  clear n1 n2 n3 n4 n5 k1 k2 k3 k4 k5
                  go_wp2_with fail
                  refine HE1.out.mono ?_
                  rintro e w5 ⟨rfl, hb5⟩
                  have HB5 := Lib.hid hb5
                  clear hb5 HE1 x0 x1 x2 n0 n1' n2'
                  obtain ⟨⟨x0, x1, x2⟩, -⟩ := mbox_cells (HBX.out.2.2.1.below HB5.out)
                  obtain ⟨⟨n0, n1', n2'⟩, -⟩ := mbox_cells (HBX.out.1.below HB5.out)
                  go_wp2_with fail
                  refine (HE2.out w5 HB5.out).mono ?_
                  rintro e w6 ⟨rfl, hb6⟩
                  have HB6 := Lib.hid (below_then HB5.out HB5.out.size hb6)
                  clear hb6 HB5 HE2 x0 x1 x2 n0 n1' n2'
                  obtain ⟨⟨x0, x1, x2⟩, -⟩ := mbox_cells (HBX.out.2.2.1.below HB6.out)
                  obtain ⟨⟨n0, n1', n2'⟩, -⟩ := mbox_cells (HBX.out.1.below HB6.out)
                  obtain ⟨s0, s1, s2, s3, s4, s5, s6⟩ := (HBX.out.2.1.below HB6.out).cells
                  obtain ⟨r0, r1, r2, r3, r4, r5, r6⟩ := (HBX.out.2.2.2.below HB6.out).cells
                  dsimp only at s0 s1 s2 s3 s4 s6 r0 r1 r2 r3 r4 r6
                  go_wp2_with fail
                  refine (HCK.out w6).mono ?_
                  rintro e w7 ⟨rfl, hb7⟩
                  have hb47 := below_then HB6.out HB6.out.size hb7
                  have HF := Lib.hid (And.intro (HN4.out.below hb47) (And.intro (HS4.out.below hb47) (below_then HB4.out HB4.out.size hb47)))
                  clear hb7 hb47 HB6 HCK HBX x0 x1 x2 n0 n1' n2' s0 s1 s2 s3 s4 s5 s6 r0 r1 r2 r3 r4 r5 r6
                  go_wp2
                  go_meet
                  exact ⟨rfl, HF⟩
              case rest =>
                obtain ⟨rfl, HX⟩ := hcut
                clear HN4 HS4 HB4
                obtain ⟨w9, hw9⟩ : ∃ X : World, X = wc := ⟨_, rfl⟩
                rw [← hw9] at HX ⊢
                clear hw9
                go_upto_region 11 with fail
                go_cut [105] from 23 to 108 (fun s105 wc => s105 = .bool false ∧ Hid (StV W.heap.size wc z9 (z9 + 1) us2 ms f2 ⟨a2, g2, m2, ph2, b2, t2⟩ vs2 ∧ StV W.heap.size wc zm zr us2 ms f ⟨a, g, m, ph, b, t0⟩ vs ∧ Below W.heap.size W wc))
                case first =>
                  obtain ⟨-, ⟨ht1, ht2⟩, -, h4x, ht3, ht4⟩ := HSH.out
                  have hx1 : ¬ t2 < t0 := by omega
                  have hx2 : ¬ t0 + 1 < t2 := by omega
                  by_cases h4 : 4 ≤ ph
                  · obtain ⟨rfl, rfl⟩ := h4x h4
                    obtain ⟨p9, c9, q9, d9, pw, cv9, n1, n2, n3, n4, n5⟩ := HX.out.1
                    obtain ⟨px2, cx2, py2, cy2, pv2, cv2, k1, k2, k3, k4, k5⟩ := HX.out.2.1
                    have HEQ := Lib.hid (equalW_same _ _ vs2 w9 (nums_of_owns rfl n5) (nums_of_owns rfl k5) (by have := HR.out.2.2.1; omega))
                    obtain ⟨s0, s1, s2, s3, s4, s5, s6⟩ := n2.cells
                    obtain ⟨r0, r1, r2, r3, r4, r5, r6⟩ := k2.cells
                    dsimp only at s0 s1 s2 s3 s4 s6 r0 r1 r2 r3 r4 r6
                    clear n1 n2 n3 n4 n5 k1 k2 k3 k4 k5 h4x
                    go_wp2_with fail
                    refine HEQ.out.mono ?_
                    rintro e w10 ⟨rfl, hb10⟩
                    have HF := Lib.hid (And.intro (HX.out.1.below hb10) (And.intro (HX.out.2.1.below hb10) (below_then HX.out.2.2 HX.out.2.2.size hb10)))
                    clear hb10 HEQ HX s0 s1 s2 s3 s4 s5 s6 r0 r1 r2 r3 r4 r5 r6
                    go_wp2
                    go_meet
                    exact ⟨rfl, HF⟩
                  · obtain ⟨p9, c9, q9, d9, pw, cv9, n1, n2, n3, n4, n5⟩ := HX.out.1
                    obtain ⟨px2, cx2, py2, cy2, pv2, cv2, k1, k2, k3, k4, k5⟩ := HX.out.2.1
                    obtain ⟨s0, s1, s2, s3, s4, s5, s6⟩ := n2.cells
                    obtain ⟨r0, r1, r2, r3, r4, r5, r6⟩ := k2.cells
                    dsimp only at s0 s1 s2 s3 s4 s6 r0 r1 r2 r3 r4 r6
                    clear n1 n2 n3 n4 n5 k1 k2 k3 k4 k5 h4x
                    go_wp2
                    go_meet
                    exact ⟨rfl, HX⟩
                case rest =>
                  obtain ⟨rfl, HY⟩ := hcut
                  clear HX
                  obtain ⟨w11, hw11⟩ : ∃ X : World, X = wc := ⟨_, rfl⟩
                  rw [← hw11] at HY ⊢
                  clear hw11
                  go_upto_region 13 with fail
                  obtain ⟨⟨p9, c9, q9, d9, pw, cv9, n1, n2, n3, n4, n5⟩, ⟨px2, cx2, py2, cy2, pv2, cv2, k1, k2, -⟩, hB11⟩ := HY.out
                  have HN := Lib.hid (And.intro n3 (And.intro n4 n5))
                  have HK := Lib.hid (And.intro k1 k2)
                  have HB11 := Lib.hid hB11
                  have hn1 : zm ≠ zr := mbox_rdbox k1 k2
                  have hn2 : zm < z9 ∧ zr < z9 := HNE.out
                  have HT := Lib.hid (And.intro n1 n2)
                  clear n1 n2 n3 n4 n5 k1 k2 hB11
                  refine wpTwo_begin (T := fun w' => MBox w' z9 (.slice p9 us2.length c9) (.slice q9 ms.length d9) f2 ∧ RdBox w' (z9 + 1) ⟨a2, g2, m2, ph2, b2, t2⟩ (.slice pw vs2.length cv9)) (S := fun _ => True) (late := fun _ => false) (by kernel_rfl) ?_
                  obtain ⟨X0, hX0⟩ : ∃ X : World, X = w11.drew := ⟨_, rfl⟩
                  rw [← hX0]
                  have hb : Below w11.heap.size w11 X0 := by rw [hX0]; exact (Below.refl _ _).drew
                  have hT0 := And.intro (HT.out.1.below hb) (HT.out.2.below hb)
                  have HN0 := Lib.hid (And.intro (owns_below HN.out.1 hb) (And.intro (owns_below HN.out.2.1 hb) (owns_below HN.out.2.2 hb)))
                  have HK0 := Lib.hid (And.intro (HK.out.1.below hb) (HK.out.2.below hb))
                  have HB0 := Lib.hid (below_then HB11.out HB11.out.size hb)
                  clear hX0 hb HT HN HK HB11 HY
                  refine wpTwo_takeT (i := 0) (v := .agg #[.slice p9 us2.length c9, .slice q9 ms.length d9, .bool f2]) rfl (by kernel_rfl) (by kernel_rfl) (by kernel_rfl) (fun _ _ _ h => h) ⟨by rfl, ?_⟩ hT0 ?_
                  · rintro w hTw
                    obtain ⟨⟨t1, t2, t3⟩, _⟩ := mbox_cells hTw.1
                    go_simp
                  (try simp only [Act.put, List.getElem_toArray, List.getElem_cons_zero, List.setIfInBounds_toArray, List.set_cons_succ, List.set_cons_zero])
                  refine wpTwo_takeT (i := 1) (v := .agg #[.int .i64 a2, .int .i64 g2, .int .i64 m2, .int .i64 ph2, .int .u64 b2, .slice pw vs2.length cv9, .int .i64 t2]) rfl (by kernel_rfl) (by kernel_rfl) (by kernel_rfl) (fun _ _ _ h => h) ⟨by rfl, ?_⟩ hT0 ?_
                  · rintro w hTw
                    obtain ⟨t1, t2, t3, t4, t5, t6, t7⟩ := hTw.2.cells
                    go_simp
                  (try simp only [Act.put, List.getElem_toArray, List.getElem_cons_succ, List.getElem_cons_zero, List.setIfInBounds_toArray, List.set_cons_succ, List.set_cons_zero])
                  refine wpTwo_ready (rs := [2]) (by kernel_rfl) (by simp) ?_
                  refine (AllTwo.cons rfl (fun K hK => ?_) AllTwo.nil)
                  obtain ⟨⟨d0, d1, d2⟩, e0, e1, e2⟩ := mbox_cells HK0.out.1
                  obtain ⟨Xa, hXa⟩ : ∃ X : World, X = ((X0.setCell ⟨zm, 0, none⟩ (.slice p9 us2.length c9)).setCell ⟨zm, 1, none⟩ (.slice q9 ms.length d9)).setCell ⟨zm, 2, none⟩ (.bool f2) := ⟨_, rfl⟩
                  have hka : Keeps (fun q => q = zm) X0 Xa := by rw [hXa]; exact ((Keeps.setCell X0 (S := fun q => q = zm) (p := ⟨zm, 0, none⟩) rfl _).trans (Keeps.setCell _ (S := fun q => q = zm) (p := ⟨zm, 1, none⟩) rfl _)).trans (Keeps.setCell _ (S := fun q => q = zm) (p := ⟨zm, 2, none⟩) rfl _)
                  have hTa := And.intro (hT0.1.keeps hka (by intro e; have e : z9 = zm := e; omega)) (show RdBox Xa (z9 + 1) ⟨a2, g2, m2, ph2, b2, t2⟩ (.slice pw vs2.length cv9) from (hka.block (z9 + 1) hT0.2.lt (by intro e; have e : z9 + 1 = zm := e; omega)).trans hT0.2)
                  have HAa := Lib.hid (show MBox Xa zm (.slice p9 us2.length c9) (.slice q9 ms.length d9) f2 by rw [hXa]; exact HK0.out.1.set _ _ _)
                  have HGa := Lib.hid (show RdBox Xa zr ⟨a, g, m, ph, b, t0⟩ (.slice pv2 vs.length cv2) from (hka.block zr HK0.out.2.lt (fun e => hn1 e.symm)).trans HK0.out.2)
                  have HOa := Lib.hid (And.intro (hka.row HN0.out.1 (fun g hg e => HK0.out.1.row HN0.out.1 (by decide) hg e.symm)) (And.intro (hka.row HN0.out.2.1 (fun g hg e => HK0.out.1.row HN0.out.2.1 (by decide) hg e.symm)) (hka.row HN0.out.2.2 (fun g hg e => HK0.out.1.row HN0.out.2.2 (by decide) hg e.symm))))
                  have HBa := Lib.hid (HB0.out.trans (hka.below HB0.out.size (fun q hq => by have e : q = zm := hq; have := HZ.out; omega)))
                  go_simp
                  rw [← hXa]
                  refine hK.out _ _ ⟨hTa, fun _ _ => trivial⟩ ?_
                  clear hK K d0 d1 d2 e0 e1 e2 hXa hka HK0 HN0 HB0 hT0
                  (try simp only [Act.put, List.getElem_toArray, List.getElem_cons_succ, List.getElem_cons_zero, List.setIfInBounds_toArray, List.set_cons_succ, List.set_cons_zero])
                  refine wpTwo_ready (rs := [3]) (by kernel_rfl) (by simp) ?_
                  refine (AllTwo.cons rfl (fun K hK => ?_) AllTwo.nil)
                  obtain ⟨d0, d1, d2, d3, d4, d5, d6⟩ := HGa.out.cells
                  dsimp only at d0 d1 d2 d3 d4 d6
                  have v0 := HGa.out.marks 0
                  have v1 := HGa.out.marks 1
                  have v2 := HGa.out.marks 2
                  have v3 := HGa.out.marks 3
                  have v4 := HGa.out.marks 4
                  have v5 := HGa.out.marks 5
                  have v6 := HGa.out.marks 6
                  obtain ⟨Xb, hXb⟩ : ∃ X : World, X = ((((((Xa.setCell ⟨zr, 0, none⟩ (.int .i64 a2)).setCell ⟨zr, 1, none⟩ (.int .i64 g2)).setCell ⟨zr, 2, none⟩ (.int .i64 m2)).setCell ⟨zr, 3, none⟩ (.int .i64 ph2)).setCell ⟨zr, 4, none⟩ (.int .u64 b2)).setCell ⟨zr, 5, none⟩ (.slice pw vs2.length cv9)).setCell ⟨zr, 6, none⟩ (.int .i64 t2) := ⟨_, rfl⟩
                  have hkb : Keeps (fun q => q = zr) Xa Xb := by rw [hXb]; exact RdBox.putK Xa zr ⟨a2, g2, m2, ph2, b2, t2⟩ (.slice pw vs2.length cv9)
                  have hTb := And.intro (hTa.1.keeps hkb (by intro e; have e : z9 = zr := e; omega)) (show RdBox Xb (z9 + 1) ⟨a2, g2, m2, ph2, b2, t2⟩ (.slice pw vs2.length cv9) from (hkb.block (z9 + 1) hTa.2.lt (by intro e; have e : z9 + 1 = zr := e; omega)).trans hTa.2)
                  have HF := Lib.hid (show StV W.heap.size Xb zm zr us2 ms f2 ⟨a2, g2, m2, ph2, b2, t2⟩ vs2 from ⟨p9, c9, q9, d9, pw, cv9, HAa.out.keeps hkb hn1, by rw [hXb]; exact HGa.out.put ⟨a2, g2, m2, ph2, b2, t2⟩ (.slice pw vs2.length cv9), hkb.row HOa.out.1 (fun g hg e => RdBox.row HGa.out HOa.out.1 (by decide) hg e.symm), hkb.row HOa.out.2.1 (fun g hg e => RdBox.row HGa.out HOa.out.2.1 (by decide) hg e.symm), hkb.row HOa.out.2.2 (fun g hg e => RdBox.row HGa.out HOa.out.2.2 (by decide) hg e.symm)⟩)
                  have HBb := Lib.hid (HBa.out.trans (hkb.below HBa.out.size (fun q hq => by have e : q = zr := hq; have := HZ.out; omega)))
                  go_simp
                  rw [← hXb]
                  refine hK.out _ _ ⟨hTb, fun _ _ => trivial⟩ ?_
                  clear hK K d0 d1 d2 d3 d4 d5 d6 v0 v1 v2 v3 v4 v5 v6 hXb hkb hTa hTb HAa HGa HOa HBa hn1 hn2
                  (try simp only [Act.put, List.getElem_toArray, List.getElem_cons_succ, List.getElem_cons_zero, List.setIfInBounds_toArray, List.set_cons_succ, List.set_cons_zero])
                  refine wpTwo_end (by kernel_rfl) ?_ _
                  go_wp2
                  go_roundw
                  case rel =>
                    exact ⟨i + 1, us2, ms, f2, ⟨a2, g2, m2, ph2, b2, t2⟩, vs2, by omega, by go_num, HF.out, ⟨HR.out.1, HR.out.2.1, HL2.out, HR.out.2.2.2⟩, HSH.out.2.2.1, HBb.out⟩
                  case measure => simp [pIntOf]; omega
        · go_wp2
          go_ret
          exact ⟨rfl, hB⟩

end Go.Proofs.Ytaljpggajpoalaa
