/-
  SeqWrites: which writes may be, and their steps.
  Conditions: the ranges of Go's types.
-/
import Derived.Test.YtaljpggajpoalaaSV1
namespace Go.Proofs.Ytaljpggajpoalaa
open Go.RowKit Go.Shelf
attribute [local go_sem] Oper.semAt_some

/-- A memory and a write in two variables. -/
def StW (B : Nat) (w : World) (zm zr : Nat) (us : List Int) (ms : List Bool) (f : Bool) (s : WrM) (vs : List Int) : Prop :=
  ∃ px cx py cy pv cv, MBox w zm (.slice px us.length cx) (.slice py ms.length cy) f ∧ WrBox w zr s (.slice pv vs.length cv) ∧ w.ownsRow B 27 1 (.slice px us.length cx) us.length (us.map (Value.int .u64)) ∧ w.ownsRow B 4 1 (.slice py ms.length cy) ms.length (ms.map Value.bool) ∧ w.ownsRow B 27 1 (.slice pv vs.length cv) vs.length (vs.map (Value.int .u64))
theorem StW.below {B : Nat} {w w' : World} {zm zr : Nat} {us : List Int} {ms : List Bool} {f : Bool} {s : WrM} {vs : List Int} (h : StW B w zm zr us ms f s vs) (hb : Below w.heap.size w w') : StW B w' zm zr us ms f s vs := by
  obtain ⟨px, cx, py, cy, pv, cv, h1, h2, h3, h4, h5⟩ := h
  exact ⟨px, cx, py, cy, pv, cv, h1.below hb, h2.below hb, owns_below h3 hb, owns_below h4 hb, owns_below h5 hb⟩
theorem stepW_b (ms : List Bool) (us : List Int) (f : Bool) (s : WrM) (vs : List Int) (hw : WRange us) (hb : 0 ≤ s.b ∧ s.b ≤ 18446744073709551615) : 0 ≤ (stepW ms us f s vs).2.b ∧ (stepW ms us f s vs).2.b ≤ 18446744073709551615 := by
  unfold stepW
  split
  · exact hb
  · by_cases hp : s.p = 0
    · obtain ⟨⟨us', u', h, d⟩, hq⟩ : ∃ x, x = accM us ms f 1 s.a 0 0 := ⟨_, rfl⟩
      have hrg := acc_range hw hq.symm
      rw [if_pos hp, ← hq]
      dsimp only
      repeat' split
      all_goals first | exact hb | exact hrg
    · dsimp only
      repeat' split
      all_goals first | exact hb | (exfalso; omega)

theorem argr_owns {W : World} {B : Nat} {E : TypeId} {v : Value} {n : Nat} {xs : List Value} (h : W.ownsRow B E 1 v n xs) : ArgR W v xs := by
  have hl := h.1
  rcases id h.2 with ⟨rfl, rfl⟩ | ⟨g, cap, cur, rfl, _, _, h1, _⟩
  · exact ⟨_, _, _, rfl, by omega, .inl ⟨rfl, rfl, rfl⟩⟩
  · refine ⟨_, _, _, rfl, by omega, .inr ⟨_, rfl, h1, fun j u hj => ?_⟩⟩
    rw [addr_add_off, Nat.zero_add, h.cellAt j (by have := (List.getElem?_eq_some_iff.1 hj).1; omega)]
    exact hj
theorem own_self (v0 v1 : Value) (f : Bool) (us : List Int) (ms : List Bool) (B B' : Nat) (Z : World) (h0 : Z.ownsRow B 27 1 v0 us.length (us.map (Value.int .u64))) (h1 : Z.ownsRow B' 4 1 v1 ms.length (ms.map Value.bool)) (hu : us.length ≤ 48) (hm : ms.length ≤ 48) :
    Calls Try.prog 18 #[.agg #[v0, v1, .bool f]] Z fun e w' => GivesMem Z.heap.size us ms f e w' ∧ Below Z.heap.size Z w' := by
  have h := own_c v0 v1 f us ms Z (argr_owns h0) (argr_owns h1) (by omega) (by omega)
  rw [List.take_of_length_le hu, List.take_of_length_le hm] at h
  exact h
theorem ownWrite_self (s : WrM) (v : Value) (vs : List Int) (B : Nat) (Z : World) (h0 : Z.ownsRow B 27 1 v vs.length (vs.map (Value.int .u64))) (hv : vs.length ≤ 18) :
    Calls Try.prog 26 #[wrV s v] Z fun e w' => (∃ q c, e = .returned (wrV s (.slice q vs.length c)) ∧ w'.ownsRow Z.heap.size 27 1 (.slice q vs.length c) vs.length (vs.map (Value.int .u64))) ∧ Below Z.heap.size Z w' := by
  have h := ownWrite_c s v vs Z (argr_owns h0) (by omega)
  rw [List.take_of_length_le hv] at h
  exact h

set_option maxRecDepth 100000 in
set_option maxHeartbeats 8000000 in
theorem writes_law (v0 v1 : Value) (f : Bool) (ws : List Int) (ls : List Bool) (s : WrM) (rv : Value) (rs : List Int) (W : World) (h0 : ArgR W v0 (ws.map (Value.int .u64))) (h1 : ArgR W v1 (ls.map Value.bool)) (hw : ws.length ≤ 9223372036854775807) (hl : ls.length ≤ 9223372036854775807) (hwr : WRange ws)
    (h2 : ArgR W rv (rs.map (Value.int .u64))) (hrr : WRange rs) (hrl : rs.length ≤ 9223372036854775807) (hb : 0 ≤ s.b ∧ s.b ≤ 18446744073709551615) :
    Calls Try.prog 5 #[.agg #[v0, v1, .bool f], wrV s rv] W fun e w' => e = .returned (.bool true) ∧ Below W.heap.size W w' := by
  have HA := Lib.hid (And.intro h0 (And.intro h1 h2))
  obtain ⟨p0, n0, c0, rfl, -, -⟩ := h0
  obtain ⟨p1, n1, c1, rfl, -, -⟩ := h1
  obtain ⟨p2, n2, c2, rfl, -, -⟩ := h2
  obtain ⟨us, hus⟩ : ∃ x, x = ws.take 48 := ⟨_, rfl⟩
  obtain ⟨ms, hms⟩ : ∃ x, x = ls.take 48 := ⟨_, rfl⟩
  obtain ⟨vs, hvs⟩ : ∃ x, x = rs.take 18 := ⟨_, rfl⟩
  have HOW := Lib.hid (fun (Z : World) (hb : Below W.heap.size W Z) => hus ▸ hms ▸ own_c (.slice p0 n0 c0) (.slice p1 n1 c1) f ws ls Z (HA.out.1.below hb) (HA.out.2.1.below hb) hw hl)
  have HOR := Lib.hid (fun (Z : World) (hb : Below W.heap.size W Z) => hvs ▸ ownWrite_c s (.slice p2 n2 c2) rs Z (HA.out.2.2.below hb) hrl)
  have HRG := Lib.hid (show WRange us ∧ us.length ≤ 48 ∧ vs.length ≤ 18 ∧ ms.length ≤ 48 ∧ WRange vs from ⟨fun x hx => hwr x (List.mem_of_mem_take (hus ▸ hx)), by rw [hus, List.length_take]; omega, by rw [hvs, List.length_take]; omega, by rw [hms, List.length_take]; omega, fun x hx => hrr x (List.mem_of_mem_take (hvs ▸ hx))⟩)
  have HSB := Lib.hid hb
  obtain ⟨a, g, ph, b, t0⟩ := s
  dsimp only at *
  obtain ⟨w0, hw0⟩ : ∃ X : World, X = (W.alloc (.cells #[.slice p0 n0 c0, .slice p1 n1 c1, .bool f] 44)).alloc (.cells #[.int .i64 a, .int .i64 g, .slice p2 n2 c2, .int .i64 ph, .int .u64 b, .int .i64 t0] 34) := ⟨_, rfl⟩
  have HM0 := Lib.hid (show MBox w0 W.heap.size (.slice p0 n0 c0) (.slice p1 n1 c1) f by rw [hw0]; exact (MBox.new W _ _ f).alloc _)
  have HR0 := Lib.hid (show WrBox w0 (W.heap.size + 1) ⟨a, g, ph, b, t0⟩ (.slice p2 n2 c2) by
    have h := World.alloc_heap_new (W.alloc (.cells #[.slice p0 n0 c0, .slice p1 n1 c1, .bool f] 44)) (.cells #[.int .i64 a, .int .i64 g, .slice p2 n2 c2, .int .i64 ph, .int .u64 b, .int .i64 t0] 34)
    rw [World.size_alloc, ← hw0] at h
    exact h)
  have HB0 := Lib.hid (show Below W.heap.size W w0 by rw [hw0]; exact below2 _ _ _)
  have HW0 := Lib.hid hw0
  clear hw0 hus hms hvs hw hl hwr hrl hrr hb HA
  unfold wrV at *
  dsimp only at *
  go_enter Try.func5, Try.ntmps5
  go_wp2_with fail
  rw [← HW0.out]
  clear HW0
  refine (ewakes w0).mono ?_
  rintro e w1 ⟨rfl, hb1⟩
  have HM1 := Lib.hid (HM0.out.below hb1)
  have HR1 := Lib.hid (HR0.out.below hb1)
  have HB1 := Lib.hid (below_then HB0.out HB0.out.size hb1)
  clear hb1 HM0 HR0 HB0
  go_upto_region 3 with fail
  go_cut [5, 6] (fun s5 s6 wc => ∃ zm zr : Nat, s5 = .pointer (some ⟨zm, 0, none⟩) ∧ s6 = .pointer (some ⟨zr, 0, none⟩) ∧ W.heap.size ≤ zm ∧ W.heap.size ≤ zr ∧ Hid (StW W.heap.size wc zm zr us ms f ⟨a, g, ph, b, t0⟩ vs) ∧ Hid (Below W.heap.size W wc))
  case first =>
    refine wpTwo_begin (T := fun w' => MBox w' W.heap.size (.slice p0 n0 c0) (.slice p1 n1 c1) f ∧ WrBox w' (W.heap.size + 1) ⟨a, g, ph, b, t0⟩ (.slice p2 n2 c2)) (S := fun _ => True) (late := fun _ => false) (by kernel_rfl) ?_
    obtain ⟨X0, hX0⟩ : ∃ X : World, X = w1.drew := ⟨_, rfl⟩
    rw [← hX0]
    have hb : Below w1.heap.size w1 X0 := by rw [hX0]; exact (Below.refl _ _).drew
    have hT0 := And.intro (HM1.out.below hb) (HR1.out.below hb)
    have HB0 := Lib.hid (below_then HB1.out HB1.out.size hb)
    have HZA := Lib.hid (show W.heap.size + 1 < w1.heap.size from HR1.out.lt)
    clear hX0 hb HM1 HR1
    refine wpTwo_takeT (i := 0) (v := .agg #[.slice p0 n0 c0, .slice p1 n1 c1, .bool f]) rfl (by kernel_rfl) (by kernel_rfl) (by kernel_rfl) (fun _ _ _ h => h) ⟨by rfl, ?_⟩ hT0 ?_
    · rintro w hTw
      obtain ⟨⟨t1, t2, t3⟩, _⟩ := mbox_cells hTw.1
      go_simp
    (try simp only [Act.put, List.getElem_toArray, List.getElem_cons_zero, List.setIfInBounds_toArray, List.set_cons_succ, List.set_cons_zero])
    refine wpTwo_takeT (i := 2) (v := .agg #[.int .i64 a, .int .i64 g, .slice p2 n2 c2, .int .i64 ph, .int .u64 b, .int .i64 t0]) rfl (by kernel_rfl) (by kernel_rfl) (by kernel_rfl) (fun _ _ _ h => h) ⟨by rfl, ?_⟩ hT0 ?_
    · rintro w hTw
      obtain ⟨t1, t2, t3, t4, t5, t6⟩ := hTw.2.cells
      go_simp
    (try simp only [Act.put, List.getElem_toArray, List.getElem_cons_succ, List.getElem_cons_zero, List.setIfInBounds_toArray, List.set_cons_succ, List.set_cons_zero])
    refine wpTwo_ready (rs := [1, 4, 5]) (by kernel_rfl) (by simp) ?_
    refine (AllTwo.cons rfl (fun K hK => ?_) (AllTwo.cons rfl (fun K hK => ?_) (AllTwo.cons rfl (fun K hK => ?_) AllTwo.nil)))
    · go_simp
      refine (HOW.out X0 HB0.out).mono ?_
      rintro e X1 ⟨⟨_, rfl, vx, vy, rfl, ho1, ho2⟩, hb⟩
      obtain ⟨px, cx, rfl⟩ := own_slice ho1
      obtain ⟨py, cy, rfl⟩ := own_slice ho2
      have hT1 := And.intro (hT0.1.below hb) (hT0.2.below hb)
      have HB1 := Lib.hid (below_then HB0.out HB0.out.size hb)
      have HO1 := Lib.hid (And.intro (ho1.mono HB0.out.size) (ho2.mono HB0.out.size))
      clear hb ho1 ho2
      go_wp2_with fail
      refine hK.out _ _ ⟨hT1, fun _ _ => trivial⟩ ?_
      clear hK K
      (try simp only [Act.put, List.getElem_toArray, List.getElem_cons_succ, List.getElem_cons_zero, List.setIfInBounds_toArray, List.set_cons_succ, List.set_cons_zero])
      refine wpTwo_ready (rs := [3, 4, 5]) (by kernel_rfl) (by simp) ?_
      refine (AllTwo.cons rfl (fun K hK => ?_) (AllTwo.cons rfl (fun K hK => ?_) (AllTwo.cons rfl (fun K hK => ?_) AllTwo.nil)))
      · go_simp
        refine (HOR.out X1 HB1.out).mono ?_
        rintro e X2 ⟨⟨pv, cv, rfl, ho⟩, hb⟩
        have hT2 := And.intro (hT1.1.below hb) (hT1.2.below hb)
        have HO2 := Lib.hid (And.intro (owns_below HO1.out.1 hb) (owns_below HO1.out.2 hb))
        have HB2 := Lib.hid (below_then HB1.out HB1.out.size hb)
        have HP2 := Lib.hid (ho.mono HB1.out.size)
        clear hb ho
        go_wp2_with fail
        refine hK.out _ _ ⟨hT2, fun _ _ => trivial⟩ ?_
        clear hK K
        (try simp only [Act.put, List.getElem_toArray, List.getElem_cons_succ, List.getElem_cons_zero, List.setIfInBounds_toArray, List.set_cons_succ, List.set_cons_zero])
        refine wpTwo_ready (rs := [4, 5]) (by kernel_rfl) (by simp) ?_
        refine (AllTwo.cons rfl (fun K hK => ?_) (AllTwo.cons rfl (fun K hK => ?_) AllTwo.nil))
        · go_simp
          obtain ⟨y7, hy⟩ : ∃ q, q = X2.heap.size := ⟨_, rfl⟩
          obtain ⟨X3, hX⟩ : ∃ X : World, X = X2.alloc (.cells #[.slice none 0 0, .slice none 0 0, .bool false] 44) := ⟨_, rfl⟩
          rw [← hX, ← hy]
          have hb : Below X2.heap.size X2 X3 := by rw [hX]; exact below1 _ _
          have hl7 : W.heap.size + 2 ≤ y7 := by rw [hy]; exact hT2.2.lt
          have hT3 := And.intro (hT2.1.below hb) (hT2.2.below hb)
          have HO3 := Lib.hid (And.intro (owns_below HO2.out.1 hb) (owns_below HO2.out.2 hb))
          have HP3 := Lib.hid (owns_below HP2.out hb)
          have HB3 := Lib.hid (below_then HB2.out HB2.out.size hb)
          have HA3 := Lib.hid (show MBox X3 y7 (.slice none 0 0) (.slice none 0 0) false by rw [hX, hy]; exact MBox.new _ _ _ _)
          clear hb hX hy
          refine hK.out _ _ ⟨hT3, fun _ _ => trivial⟩ ?_
          clear hK K
          (try simp only [Act.put, List.getElem_toArray, List.getElem_cons_succ, List.getElem_cons_zero, List.setIfInBounds_toArray, List.set_cons_succ, List.set_cons_zero])
          refine wpTwo_ready (rs := [5]) (by kernel_rfl) (by simp) ?_
          refine (AllTwo.cons rfl (fun K hK => ?_) AllTwo.nil)
          · go_simp
            obtain ⟨y8, hy⟩ : ∃ q, q = X3.heap.size := ⟨_, rfl⟩
            obtain ⟨X4, hX⟩ : ∃ X : World, X = X3.alloc (.cells #[.int .i64 0, .int .i64 0, .slice none 0 0, .int .i64 0, .int .u64 0, .int .i64 0] 34) := ⟨_, rfl⟩
            rw [← hX, ← hy]
            have hb : Below X3.heap.size X3 X4 := by rw [hX]; exact below1 _ _
            have hl8 : W.heap.size + 2 ≤ y8 := by rw [hy]; exact hT3.2.lt
            have hT4 := And.intro (hT3.1.below hb) (hT3.2.below hb)
            have HO4 := Lib.hid (And.intro (owns_below HO3.out.1 hb) (owns_below HO3.out.2 hb))
            have HP4 := Lib.hid (owns_below HP3.out hb)
            have HA4 := Lib.hid (HA3.out.below hb)
            have HB4 := Lib.hid (below_then HB3.out HB3.out.size hb)
            have HG4 := Lib.hid (show WrBox X4 y8 ⟨0, 0, 0, 0, 0⟩ (.slice none 0 0) by rw [hX, hy]; exact World.alloc_heap_new _ _)
            clear hb hX hy
            refine hK.out _ _ ⟨hT4, fun _ _ => trivial⟩ ?_
            clear hK K
            (try simp only [Act.put, List.getElem_toArray, List.getElem_cons_succ, List.getElem_cons_zero, List.setIfInBounds_toArray, List.set_cons_succ, List.set_cons_zero])
            refine wpTwo_ready (rs := [6]) (by kernel_rfl) (by simp) ?_
            refine (AllTwo.cons rfl (fun K hK => ?_) AllTwo.nil)
            obtain ⟨⟨d0, d1, d2⟩, e0, e1, e2⟩ := mbox_cells HA4.out
            have hn1 : y7 ≠ y8 := mbox_wrbox HA4.out HG4.out
            obtain ⟨Xa, hXa⟩ : ∃ X : World, X = ((X4.setCell ⟨y7, 0, none⟩ (.slice px us.length cx)).setCell ⟨y7, 1, none⟩ (.slice py ms.length cy)).setCell ⟨y7, 2, none⟩ (.bool f) := ⟨_, rfl⟩
            have hka : Keeps (fun q => q = y7) X4 Xa := by rw [hXa]; exact ((Keeps.setCell X4 (S := fun q => q = y7) (p := ⟨y7, 0, none⟩) rfl _).trans (Keeps.setCell _ (S := fun q => q = y7) (p := ⟨y7, 1, none⟩) rfl _)).trans (Keeps.setCell _ (S := fun q => q = y7) (p := ⟨y7, 2, none⟩) rfl _)
            have hTa := And.intro (hT4.1.keeps hka (by intro e; have e : W.heap.size = y7 := e; omega)) (show WrBox Xa (W.heap.size + 1) ⟨a, g, ph, b, t0⟩ (.slice p2 n2 c2) from (hka.block (W.heap.size + 1) hT4.2.lt (by intro e; have e : W.heap.size + 1 = y7 := e; omega)).trans hT4.2)
            have HAa := Lib.hid (show MBox Xa y7 (.slice px us.length cx) (.slice py ms.length cy) f by rw [hXa]; exact HA4.out.set _ _ _)
            have HGa := Lib.hid (show WrBox Xa y8 ⟨0, 0, 0, 0, 0⟩ (.slice none 0 0) from (hka.block y8 HG4.out.lt (fun e => hn1 e.symm)).trans HG4.out)
            have HOa := Lib.hid (And.intro (hka.row HO4.out.1 (fun g hg e => HA4.out.row HO4.out.1 (by decide) hg e.symm)) (And.intro (hka.row HO4.out.2 (fun g hg e => HA4.out.row HO4.out.2 (by decide) hg e.symm)) (hka.row HP4.out (fun g hg e => HA4.out.row HP4.out (by decide) hg e.symm))))
            have HBa := Lib.hid (HB4.out.trans (hka.below HB4.out.size (fun q hq => by have e : q = y7 := hq; omega)))
            go_simp
            rw [← hXa]
            refine hK.out _ _ ⟨hTa, fun _ _ => trivial⟩ ?_
            clear hK K d0 d1 d2 e0 e1 e2 hXa hka
            (try simp only [Act.put, List.getElem_toArray, List.getElem_cons_succ, List.getElem_cons_zero, List.setIfInBounds_toArray, List.set_cons_succ, List.set_cons_zero])
            refine wpTwo_ready (rs := [7]) (by kernel_rfl) (by simp) ?_
            refine (AllTwo.cons rfl (fun K hK => ?_) AllTwo.nil)
            obtain ⟨d0, d1, d2, d3, d4, d5⟩ := HGa.out.cells
            dsimp only at d0 d1 d3 d4 d5
            have v0 := HGa.out.marks 0
            have v1 := HGa.out.marks 1
            have v2 := HGa.out.marks 2
            have v3 := HGa.out.marks 3
            have v4 := HGa.out.marks 4
            have v5 := HGa.out.marks 5
            obtain ⟨Xb, hXb⟩ : ∃ X : World, X = (((((Xa.setCell ⟨y8, 0, none⟩ (.int .i64 a)).setCell ⟨y8, 1, none⟩ (.int .i64 g)).setCell ⟨y8, 2, none⟩ (.slice pv vs.length cv)).setCell ⟨y8, 3, none⟩ (.int .i64 ph)).setCell ⟨y8, 4, none⟩ (.int .u64 b)).setCell ⟨y8, 5, none⟩ (.int .i64 t0) := ⟨_, rfl⟩
            have hkb : Keeps (fun q => q = y8) Xa Xb := by rw [hXb]; exact WrBox.putK Xa y8 ⟨a, g, ph, b, t0⟩ (.slice pv vs.length cv)
            have hTb := And.intro (hTa.1.keeps hkb (by intro e; have e : W.heap.size = y8 := e; omega)) (show WrBox Xb (W.heap.size + 1) ⟨a, g, ph, b, t0⟩ (.slice p2 n2 c2) from (hkb.block (W.heap.size + 1) hTa.2.lt (by intro e; have e : W.heap.size + 1 = y8 := e; omega)).trans hTa.2)
            have HF := Lib.hid (show StW W.heap.size Xb y7 y8 us ms f ⟨a, g, ph, b, t0⟩ vs from ⟨px, cx, py, cy, pv, cv, HAa.out.keeps hkb hn1, by rw [hXb]; exact HGa.out.put ⟨a, g, ph, b, t0⟩ (.slice pv vs.length cv), hkb.row HOa.out.1 (fun g hg e => WrBox.row' HGa.out HOa.out.1 (by decide) hg e.symm), hkb.row HOa.out.2.1 (fun g hg e => WrBox.row' HGa.out HOa.out.2.1 (by decide) hg e.symm), hkb.row HOa.out.2.2 (fun g hg e => WrBox.row' HGa.out HOa.out.2.2 (by decide) hg e.symm)⟩)
            have HBb := Lib.hid (HBa.out.trans (hkb.below HBa.out.size (fun q hq => by have e : q = y8 := hq; omega)))
            go_simp
            rw [← hXb]
            refine hK.out _ _ ⟨hTb, fun _ _ => trivial⟩ ?_
            clear hK K d0 d1 d2 d3 d4 d5 v0 v1 v2 v3 v4 v5 hXb hkb
            (try simp only [Act.put, List.getElem_toArray, List.getElem_cons_succ, List.getElem_cons_zero, List.setIfInBounds_toArray, List.set_cons_succ, List.set_cons_zero])
            refine wpTwo_end (by kernel_rfl) ?_ _
            go_wp2
            go_meet
            exact ⟨y7, y8, rfl, rfl, by omega, by omega, HF, HBb⟩
        · go_simp
          obtain ⟨y8, hy⟩ : ∃ q, q = X2.heap.size := ⟨_, rfl⟩
          obtain ⟨X3, hX⟩ : ∃ X : World, X = X2.alloc (.cells #[.int .i64 0, .int .i64 0, .slice none 0 0, .int .i64 0, .int .u64 0, .int .i64 0] 34) := ⟨_, rfl⟩
          rw [← hX, ← hy]
          have hb : Below X2.heap.size X2 X3 := by rw [hX]; exact below1 _ _
          have hl8 : W.heap.size + 2 ≤ y8 := by rw [hy]; exact hT2.2.lt
          have hT3 := And.intro (hT2.1.below hb) (hT2.2.below hb)
          have HO3 := Lib.hid (And.intro (owns_below HO2.out.1 hb) (owns_below HO2.out.2 hb))
          have HP3 := Lib.hid (owns_below HP2.out hb)
          have HB3 := Lib.hid (below_then HB2.out HB2.out.size hb)
          have HG3 := Lib.hid (show WrBox X3 y8 ⟨0, 0, 0, 0, 0⟩ (.slice none 0 0) by rw [hX, hy]; exact World.alloc_heap_new _ _)
          clear hb hX hy
          refine hK.out _ _ ⟨hT3, fun _ _ => trivial⟩ ?_
          clear hK K
          (try simp only [Act.put, List.getElem_toArray, List.getElem_cons_succ, List.getElem_cons_zero, List.setIfInBounds_toArray, List.set_cons_succ, List.set_cons_zero])
          refine wpTwo_ready (rs := [4]) (by kernel_rfl) (by simp) ?_
          refine (AllTwo.cons rfl (fun K hK => ?_) AllTwo.nil)
          · go_simp
            obtain ⟨y7, hy⟩ : ∃ q, q = X3.heap.size := ⟨_, rfl⟩
            obtain ⟨X4, hX⟩ : ∃ X : World, X = X3.alloc (.cells #[.slice none 0 0, .slice none 0 0, .bool false] 44) := ⟨_, rfl⟩
            rw [← hX, ← hy]
            have hb : Below X3.heap.size X3 X4 := by rw [hX]; exact below1 _ _
            have hl7 : W.heap.size + 2 ≤ y7 := by rw [hy]; exact hT3.2.lt
            have hT4 := And.intro (hT3.1.below hb) (hT3.2.below hb)
            have HO4 := Lib.hid (And.intro (owns_below HO3.out.1 hb) (owns_below HO3.out.2 hb))
            have HP4 := Lib.hid (owns_below HP3.out hb)
            have HG4 := Lib.hid (HG3.out.below hb)
            have HB4 := Lib.hid (below_then HB3.out HB3.out.size hb)
            have HA4 := Lib.hid (show MBox X4 y7 (.slice none 0 0) (.slice none 0 0) false by rw [hX, hy]; exact MBox.new _ _ _ _)
            clear hb hX hy
            refine hK.out _ _ ⟨hT4, fun _ _ => trivial⟩ ?_
            clear hK K
            (try simp only [Act.put, List.getElem_toArray, List.getElem_cons_succ, List.getElem_cons_zero, List.setIfInBounds_toArray, List.set_cons_succ, List.set_cons_zero])
            refine wpTwo_ready (rs := [6]) (by kernel_rfl) (by simp) ?_
            refine (AllTwo.cons rfl (fun K hK => ?_) AllTwo.nil)
            obtain ⟨⟨d0, d1, d2⟩, e0, e1, e2⟩ := mbox_cells HA4.out
            have hn1 : y7 ≠ y8 := mbox_wrbox HA4.out HG4.out
            obtain ⟨Xa, hXa⟩ : ∃ X : World, X = ((X4.setCell ⟨y7, 0, none⟩ (.slice px us.length cx)).setCell ⟨y7, 1, none⟩ (.slice py ms.length cy)).setCell ⟨y7, 2, none⟩ (.bool f) := ⟨_, rfl⟩
            have hka : Keeps (fun q => q = y7) X4 Xa := by rw [hXa]; exact ((Keeps.setCell X4 (S := fun q => q = y7) (p := ⟨y7, 0, none⟩) rfl _).trans (Keeps.setCell _ (S := fun q => q = y7) (p := ⟨y7, 1, none⟩) rfl _)).trans (Keeps.setCell _ (S := fun q => q = y7) (p := ⟨y7, 2, none⟩) rfl _)
            have hTa := And.intro (hT4.1.keeps hka (by intro e; have e : W.heap.size = y7 := e; omega)) (show WrBox Xa (W.heap.size + 1) ⟨a, g, ph, b, t0⟩ (.slice p2 n2 c2) from (hka.block (W.heap.size + 1) hT4.2.lt (by intro e; have e : W.heap.size + 1 = y7 := e; omega)).trans hT4.2)
            have HAa := Lib.hid (show MBox Xa y7 (.slice px us.length cx) (.slice py ms.length cy) f by rw [hXa]; exact HA4.out.set _ _ _)
            have HGa := Lib.hid (show WrBox Xa y8 ⟨0, 0, 0, 0, 0⟩ (.slice none 0 0) from (hka.block y8 HG4.out.lt (fun e => hn1 e.symm)).trans HG4.out)
            have HOa := Lib.hid (And.intro (hka.row HO4.out.1 (fun g hg e => HA4.out.row HO4.out.1 (by decide) hg e.symm)) (And.intro (hka.row HO4.out.2 (fun g hg e => HA4.out.row HO4.out.2 (by decide) hg e.symm)) (hka.row HP4.out (fun g hg e => HA4.out.row HP4.out (by decide) hg e.symm))))
            have HBa := Lib.hid (HB4.out.trans (hka.below HB4.out.size (fun q hq => by have e : q = y7 := hq; omega)))
            go_simp
            rw [← hXa]
            refine hK.out _ _ ⟨hTa, fun _ _ => trivial⟩ ?_
            clear hK K d0 d1 d2 e0 e1 e2 hXa hka
            (try simp only [Act.put, List.getElem_toArray, List.getElem_cons_succ, List.getElem_cons_zero, List.setIfInBounds_toArray, List.set_cons_succ, List.set_cons_zero])
            refine wpTwo_ready (rs := [7]) (by kernel_rfl) (by simp) ?_
            refine (AllTwo.cons rfl (fun K hK => ?_) AllTwo.nil)
            obtain ⟨d0, d1, d2, d3, d4, d5⟩ := HGa.out.cells
            dsimp only at d0 d1 d3 d4 d5
            have v0 := HGa.out.marks 0
            have v1 := HGa.out.marks 1
            have v2 := HGa.out.marks 2
            have v3 := HGa.out.marks 3
            have v4 := HGa.out.marks 4
            have v5 := HGa.out.marks 5
            obtain ⟨Xb, hXb⟩ : ∃ X : World, X = (((((Xa.setCell ⟨y8, 0, none⟩ (.int .i64 a)).setCell ⟨y8, 1, none⟩ (.int .i64 g)).setCell ⟨y8, 2, none⟩ (.slice pv vs.length cv)).setCell ⟨y8, 3, none⟩ (.int .i64 ph)).setCell ⟨y8, 4, none⟩ (.int .u64 b)).setCell ⟨y8, 5, none⟩ (.int .i64 t0) := ⟨_, rfl⟩
            have hkb : Keeps (fun q => q = y8) Xa Xb := by rw [hXb]; exact WrBox.putK Xa y8 ⟨a, g, ph, b, t0⟩ (.slice pv vs.length cv)
            have hTb := And.intro (hTa.1.keeps hkb (by intro e; have e : W.heap.size = y8 := e; omega)) (show WrBox Xb (W.heap.size + 1) ⟨a, g, ph, b, t0⟩ (.slice p2 n2 c2) from (hkb.block (W.heap.size + 1) hTa.2.lt (by intro e; have e : W.heap.size + 1 = y8 := e; omega)).trans hTa.2)
            have HF := Lib.hid (show StW W.heap.size Xb y7 y8 us ms f ⟨a, g, ph, b, t0⟩ vs from ⟨px, cx, py, cy, pv, cv, HAa.out.keeps hkb hn1, by rw [hXb]; exact HGa.out.put ⟨a, g, ph, b, t0⟩ (.slice pv vs.length cv), hkb.row HOa.out.1 (fun g hg e => WrBox.row' HGa.out HOa.out.1 (by decide) hg e.symm), hkb.row HOa.out.2.1 (fun g hg e => WrBox.row' HGa.out HOa.out.2.1 (by decide) hg e.symm), hkb.row HOa.out.2.2 (fun g hg e => WrBox.row' HGa.out HOa.out.2.2 (by decide) hg e.symm)⟩)
            have HBb := Lib.hid (HBa.out.trans (hkb.below HBa.out.size (fun q hq => by have e : q = y8 := hq; omega)))
            go_simp
            rw [← hXb]
            refine hK.out _ _ ⟨hTb, fun _ _ => trivial⟩ ?_
            clear hK K d0 d1 d2 d3 d4 d5 v0 v1 v2 v3 v4 v5 hXb hkb
            (try simp only [Act.put, List.getElem_toArray, List.getElem_cons_succ, List.getElem_cons_zero, List.setIfInBounds_toArray, List.set_cons_succ, List.set_cons_zero])
            refine wpTwo_end (by kernel_rfl) ?_ _
            go_wp2
            go_meet
            exact ⟨y7, y8, rfl, rfl, by omega, by omega, HF, HBb⟩
      · go_simp
        obtain ⟨y7, hy⟩ : ∃ q, q = X1.heap.size := ⟨_, rfl⟩
        obtain ⟨X2, hX⟩ : ∃ X : World, X = X1.alloc (.cells #[.slice none 0 0, .slice none 0 0, .bool false] 44) := ⟨_, rfl⟩
        rw [← hX, ← hy]
        have hb : Below X1.heap.size X1 X2 := by rw [hX]; exact below1 _ _
        have hl7 : W.heap.size + 2 ≤ y7 := by rw [hy]; exact hT1.2.lt
        have hT2 := And.intro (hT1.1.below hb) (hT1.2.below hb)
        have HO2 := Lib.hid (And.intro (owns_below HO1.out.1 hb) (owns_below HO1.out.2 hb))
        have HB2 := Lib.hid (below_then HB1.out HB1.out.size hb)
        have HA2 := Lib.hid (show MBox X2 y7 (.slice none 0 0) (.slice none 0 0) false by rw [hX, hy]; exact MBox.new _ _ _ _)
        clear hb hX hy
        refine hK.out _ _ ⟨hT2, fun _ _ => trivial⟩ ?_
        clear hK K
        (try simp only [Act.put, List.getElem_toArray, List.getElem_cons_succ, List.getElem_cons_zero, List.setIfInBounds_toArray, List.set_cons_succ, List.set_cons_zero])
        refine wpTwo_ready (rs := [3, 5]) (by kernel_rfl) (by simp) ?_
        refine (AllTwo.cons rfl (fun K hK => ?_) (AllTwo.cons rfl (fun K hK => ?_) AllTwo.nil))
        · go_simp
          refine (HOR.out X2 HB2.out).mono ?_
          rintro e X3 ⟨⟨pv, cv, rfl, ho⟩, hb⟩
          have hT3 := And.intro (hT2.1.below hb) (hT2.2.below hb)
          have HO3 := Lib.hid (And.intro (owns_below HO2.out.1 hb) (owns_below HO2.out.2 hb))
          have HA3 := Lib.hid (HA2.out.below hb)
          have HB3 := Lib.hid (below_then HB2.out HB2.out.size hb)
          have HP3 := Lib.hid (ho.mono HB2.out.size)
          clear hb ho
          go_wp2_with fail
          refine hK.out _ _ ⟨hT3, fun _ _ => trivial⟩ ?_
          clear hK K
          (try simp only [Act.put, List.getElem_toArray, List.getElem_cons_succ, List.getElem_cons_zero, List.setIfInBounds_toArray, List.set_cons_succ, List.set_cons_zero])
          refine wpTwo_ready (rs := [5]) (by kernel_rfl) (by simp) ?_
          refine (AllTwo.cons rfl (fun K hK => ?_) AllTwo.nil)
          · go_simp
            obtain ⟨y8, hy⟩ : ∃ q, q = X3.heap.size := ⟨_, rfl⟩
            obtain ⟨X4, hX⟩ : ∃ X : World, X = X3.alloc (.cells #[.int .i64 0, .int .i64 0, .slice none 0 0, .int .i64 0, .int .u64 0, .int .i64 0] 34) := ⟨_, rfl⟩
            rw [← hX, ← hy]
            have hb : Below X3.heap.size X3 X4 := by rw [hX]; exact below1 _ _
            have hl8 : W.heap.size + 2 ≤ y8 := by rw [hy]; exact hT3.2.lt
            have hT4 := And.intro (hT3.1.below hb) (hT3.2.below hb)
            have HO4 := Lib.hid (And.intro (owns_below HO3.out.1 hb) (owns_below HO3.out.2 hb))
            have HA4 := Lib.hid (HA3.out.below hb)
            have HP4 := Lib.hid (owns_below HP3.out hb)
            have HB4 := Lib.hid (below_then HB3.out HB3.out.size hb)
            have HG4 := Lib.hid (show WrBox X4 y8 ⟨0, 0, 0, 0, 0⟩ (.slice none 0 0) by rw [hX, hy]; exact World.alloc_heap_new _ _)
            clear hb hX hy
            refine hK.out _ _ ⟨hT4, fun _ _ => trivial⟩ ?_
            clear hK K
            (try simp only [Act.put, List.getElem_toArray, List.getElem_cons_succ, List.getElem_cons_zero, List.setIfInBounds_toArray, List.set_cons_succ, List.set_cons_zero])
            refine wpTwo_ready (rs := [6]) (by kernel_rfl) (by simp) ?_
            refine (AllTwo.cons rfl (fun K hK => ?_) AllTwo.nil)
            obtain ⟨⟨d0, d1, d2⟩, e0, e1, e2⟩ := mbox_cells HA4.out
            have hn1 : y7 ≠ y8 := mbox_wrbox HA4.out HG4.out
            obtain ⟨Xa, hXa⟩ : ∃ X : World, X = ((X4.setCell ⟨y7, 0, none⟩ (.slice px us.length cx)).setCell ⟨y7, 1, none⟩ (.slice py ms.length cy)).setCell ⟨y7, 2, none⟩ (.bool f) := ⟨_, rfl⟩
            have hka : Keeps (fun q => q = y7) X4 Xa := by rw [hXa]; exact ((Keeps.setCell X4 (S := fun q => q = y7) (p := ⟨y7, 0, none⟩) rfl _).trans (Keeps.setCell _ (S := fun q => q = y7) (p := ⟨y7, 1, none⟩) rfl _)).trans (Keeps.setCell _ (S := fun q => q = y7) (p := ⟨y7, 2, none⟩) rfl _)
            have hTa := And.intro (hT4.1.keeps hka (by intro e; have e : W.heap.size = y7 := e; omega)) (show WrBox Xa (W.heap.size + 1) ⟨a, g, ph, b, t0⟩ (.slice p2 n2 c2) from (hka.block (W.heap.size + 1) hT4.2.lt (by intro e; have e : W.heap.size + 1 = y7 := e; omega)).trans hT4.2)
            have HAa := Lib.hid (show MBox Xa y7 (.slice px us.length cx) (.slice py ms.length cy) f by rw [hXa]; exact HA4.out.set _ _ _)
            have HGa := Lib.hid (show WrBox Xa y8 ⟨0, 0, 0, 0, 0⟩ (.slice none 0 0) from (hka.block y8 HG4.out.lt (fun e => hn1 e.symm)).trans HG4.out)
            have HOa := Lib.hid (And.intro (hka.row HO4.out.1 (fun g hg e => HA4.out.row HO4.out.1 (by decide) hg e.symm)) (And.intro (hka.row HO4.out.2 (fun g hg e => HA4.out.row HO4.out.2 (by decide) hg e.symm)) (hka.row HP4.out (fun g hg e => HA4.out.row HP4.out (by decide) hg e.symm))))
            have HBa := Lib.hid (HB4.out.trans (hka.below HB4.out.size (fun q hq => by have e : q = y7 := hq; omega)))
            go_simp
            rw [← hXa]
            refine hK.out _ _ ⟨hTa, fun _ _ => trivial⟩ ?_
            clear hK K d0 d1 d2 e0 e1 e2 hXa hka
            (try simp only [Act.put, List.getElem_toArray, List.getElem_cons_succ, List.getElem_cons_zero, List.setIfInBounds_toArray, List.set_cons_succ, List.set_cons_zero])
            refine wpTwo_ready (rs := [7]) (by kernel_rfl) (by simp) ?_
            refine (AllTwo.cons rfl (fun K hK => ?_) AllTwo.nil)
            obtain ⟨d0, d1, d2, d3, d4, d5⟩ := HGa.out.cells
            dsimp only at d0 d1 d3 d4 d5
            have v0 := HGa.out.marks 0
            have v1 := HGa.out.marks 1
            have v2 := HGa.out.marks 2
            have v3 := HGa.out.marks 3
            have v4 := HGa.out.marks 4
            have v5 := HGa.out.marks 5
            obtain ⟨Xb, hXb⟩ : ∃ X : World, X = (((((Xa.setCell ⟨y8, 0, none⟩ (.int .i64 a)).setCell ⟨y8, 1, none⟩ (.int .i64 g)).setCell ⟨y8, 2, none⟩ (.slice pv vs.length cv)).setCell ⟨y8, 3, none⟩ (.int .i64 ph)).setCell ⟨y8, 4, none⟩ (.int .u64 b)).setCell ⟨y8, 5, none⟩ (.int .i64 t0) := ⟨_, rfl⟩
            have hkb : Keeps (fun q => q = y8) Xa Xb := by rw [hXb]; exact WrBox.putK Xa y8 ⟨a, g, ph, b, t0⟩ (.slice pv vs.length cv)
            have hTb := And.intro (hTa.1.keeps hkb (by intro e; have e : W.heap.size = y8 := e; omega)) (show WrBox Xb (W.heap.size + 1) ⟨a, g, ph, b, t0⟩ (.slice p2 n2 c2) from (hkb.block (W.heap.size + 1) hTa.2.lt (by intro e; have e : W.heap.size + 1 = y8 := e; omega)).trans hTa.2)
            have HF := Lib.hid (show StW W.heap.size Xb y7 y8 us ms f ⟨a, g, ph, b, t0⟩ vs from ⟨px, cx, py, cy, pv, cv, HAa.out.keeps hkb hn1, by rw [hXb]; exact HGa.out.put ⟨a, g, ph, b, t0⟩ (.slice pv vs.length cv), hkb.row HOa.out.1 (fun g hg e => WrBox.row' HGa.out HOa.out.1 (by decide) hg e.symm), hkb.row HOa.out.2.1 (fun g hg e => WrBox.row' HGa.out HOa.out.2.1 (by decide) hg e.symm), hkb.row HOa.out.2.2 (fun g hg e => WrBox.row' HGa.out HOa.out.2.2 (by decide) hg e.symm)⟩)
            have HBb := Lib.hid (HBa.out.trans (hkb.below HBa.out.size (fun q hq => by have e : q = y8 := hq; omega)))
            go_simp
            rw [← hXb]
            refine hK.out _ _ ⟨hTb, fun _ _ => trivial⟩ ?_
            clear hK K d0 d1 d2 d3 d4 d5 v0 v1 v2 v3 v4 v5 hXb hkb
            (try simp only [Act.put, List.getElem_toArray, List.getElem_cons_succ, List.getElem_cons_zero, List.setIfInBounds_toArray, List.set_cons_succ, List.set_cons_zero])
            refine wpTwo_end (by kernel_rfl) ?_ _
            go_wp2
            go_meet
            exact ⟨y7, y8, rfl, rfl, by omega, by omega, HF, HBb⟩
        · go_simp
          obtain ⟨y8, hy⟩ : ∃ q, q = X2.heap.size := ⟨_, rfl⟩
          obtain ⟨X3, hX⟩ : ∃ X : World, X = X2.alloc (.cells #[.int .i64 0, .int .i64 0, .slice none 0 0, .int .i64 0, .int .u64 0, .int .i64 0] 34) := ⟨_, rfl⟩
          rw [← hX, ← hy]
          have hb : Below X2.heap.size X2 X3 := by rw [hX]; exact below1 _ _
          have hl8 : W.heap.size + 2 ≤ y8 := by rw [hy]; exact hT2.2.lt
          have hT3 := And.intro (hT2.1.below hb) (hT2.2.below hb)
          have HO3 := Lib.hid (And.intro (owns_below HO2.out.1 hb) (owns_below HO2.out.2 hb))
          have HA3 := Lib.hid (HA2.out.below hb)
          have HB3 := Lib.hid (below_then HB2.out HB2.out.size hb)
          have HG3 := Lib.hid (show WrBox X3 y8 ⟨0, 0, 0, 0, 0⟩ (.slice none 0 0) by rw [hX, hy]; exact World.alloc_heap_new _ _)
          clear hb hX hy
          refine hK.out _ _ ⟨hT3, fun _ _ => trivial⟩ ?_
          clear hK K
          (try simp only [Act.put, List.getElem_toArray, List.getElem_cons_succ, List.getElem_cons_zero, List.setIfInBounds_toArray, List.set_cons_succ, List.set_cons_zero])
          refine wpTwo_ready (rs := [3]) (by kernel_rfl) (by simp) ?_
          refine (AllTwo.cons rfl (fun K hK => ?_) AllTwo.nil)
          · go_simp
            refine (HOR.out X3 HB3.out).mono ?_
            rintro e X4 ⟨⟨pv, cv, rfl, ho⟩, hb⟩
            have hT4 := And.intro (hT3.1.below hb) (hT3.2.below hb)
            have HO4 := Lib.hid (And.intro (owns_below HO3.out.1 hb) (owns_below HO3.out.2 hb))
            have HA4 := Lib.hid (HA3.out.below hb)
            have HG4 := Lib.hid (HG3.out.below hb)
            have HB4 := Lib.hid (below_then HB3.out HB3.out.size hb)
            have HP4 := Lib.hid (ho.mono HB3.out.size)
            clear hb ho
            go_wp2_with fail
            refine hK.out _ _ ⟨hT4, fun _ _ => trivial⟩ ?_
            clear hK K
            (try simp only [Act.put, List.getElem_toArray, List.getElem_cons_succ, List.getElem_cons_zero, List.setIfInBounds_toArray, List.set_cons_succ, List.set_cons_zero])
            refine wpTwo_ready (rs := [6]) (by kernel_rfl) (by simp) ?_
            refine (AllTwo.cons rfl (fun K hK => ?_) AllTwo.nil)
            obtain ⟨⟨d0, d1, d2⟩, e0, e1, e2⟩ := mbox_cells HA4.out
            have hn1 : y7 ≠ y8 := mbox_wrbox HA4.out HG4.out
            obtain ⟨Xa, hXa⟩ : ∃ X : World, X = ((X4.setCell ⟨y7, 0, none⟩ (.slice px us.length cx)).setCell ⟨y7, 1, none⟩ (.slice py ms.length cy)).setCell ⟨y7, 2, none⟩ (.bool f) := ⟨_, rfl⟩
            have hka : Keeps (fun q => q = y7) X4 Xa := by rw [hXa]; exact ((Keeps.setCell X4 (S := fun q => q = y7) (p := ⟨y7, 0, none⟩) rfl _).trans (Keeps.setCell _ (S := fun q => q = y7) (p := ⟨y7, 1, none⟩) rfl _)).trans (Keeps.setCell _ (S := fun q => q = y7) (p := ⟨y7, 2, none⟩) rfl _)
            have hTa := And.intro (hT4.1.keeps hka (by intro e; have e : W.heap.size = y7 := e; omega)) (show WrBox Xa (W.heap.size + 1) ⟨a, g, ph, b, t0⟩ (.slice p2 n2 c2) from (hka.block (W.heap.size + 1) hT4.2.lt (by intro e; have e : W.heap.size + 1 = y7 := e; omega)).trans hT4.2)
            have HAa := Lib.hid (show MBox Xa y7 (.slice px us.length cx) (.slice py ms.length cy) f by rw [hXa]; exact HA4.out.set _ _ _)
            have HGa := Lib.hid (show WrBox Xa y8 ⟨0, 0, 0, 0, 0⟩ (.slice none 0 0) from (hka.block y8 HG4.out.lt (fun e => hn1 e.symm)).trans HG4.out)
            have HOa := Lib.hid (And.intro (hka.row HO4.out.1 (fun g hg e => HA4.out.row HO4.out.1 (by decide) hg e.symm)) (And.intro (hka.row HO4.out.2 (fun g hg e => HA4.out.row HO4.out.2 (by decide) hg e.symm)) (hka.row HP4.out (fun g hg e => HA4.out.row HP4.out (by decide) hg e.symm))))
            have HBa := Lib.hid (HB4.out.trans (hka.below HB4.out.size (fun q hq => by have e : q = y7 := hq; omega)))
            go_simp
            rw [← hXa]
            refine hK.out _ _ ⟨hTa, fun _ _ => trivial⟩ ?_
            clear hK K d0 d1 d2 e0 e1 e2 hXa hka
            (try simp only [Act.put, List.getElem_toArray, List.getElem_cons_succ, List.getElem_cons_zero, List.setIfInBounds_toArray, List.set_cons_succ, List.set_cons_zero])
            refine wpTwo_ready (rs := [7]) (by kernel_rfl) (by simp) ?_
            refine (AllTwo.cons rfl (fun K hK => ?_) AllTwo.nil)
            obtain ⟨d0, d1, d2, d3, d4, d5⟩ := HGa.out.cells
            dsimp only at d0 d1 d3 d4 d5
            have v0 := HGa.out.marks 0
            have v1 := HGa.out.marks 1
            have v2 := HGa.out.marks 2
            have v3 := HGa.out.marks 3
            have v4 := HGa.out.marks 4
            have v5 := HGa.out.marks 5
            obtain ⟨Xb, hXb⟩ : ∃ X : World, X = (((((Xa.setCell ⟨y8, 0, none⟩ (.int .i64 a)).setCell ⟨y8, 1, none⟩ (.int .i64 g)).setCell ⟨y8, 2, none⟩ (.slice pv vs.length cv)).setCell ⟨y8, 3, none⟩ (.int .i64 ph)).setCell ⟨y8, 4, none⟩ (.int .u64 b)).setCell ⟨y8, 5, none⟩ (.int .i64 t0) := ⟨_, rfl⟩
            have hkb : Keeps (fun q => q = y8) Xa Xb := by rw [hXb]; exact WrBox.putK Xa y8 ⟨a, g, ph, b, t0⟩ (.slice pv vs.length cv)
            have hTb := And.intro (hTa.1.keeps hkb (by intro e; have e : W.heap.size = y8 := e; omega)) (show WrBox Xb (W.heap.size + 1) ⟨a, g, ph, b, t0⟩ (.slice p2 n2 c2) from (hkb.block (W.heap.size + 1) hTa.2.lt (by intro e; have e : W.heap.size + 1 = y8 := e; omega)).trans hTa.2)
            have HF := Lib.hid (show StW W.heap.size Xb y7 y8 us ms f ⟨a, g, ph, b, t0⟩ vs from ⟨px, cx, py, cy, pv, cv, HAa.out.keeps hkb hn1, by rw [hXb]; exact HGa.out.put ⟨a, g, ph, b, t0⟩ (.slice pv vs.length cv), hkb.row HOa.out.1 (fun g hg e => WrBox.row' HGa.out HOa.out.1 (by decide) hg e.symm), hkb.row HOa.out.2.1 (fun g hg e => WrBox.row' HGa.out HOa.out.2.1 (by decide) hg e.symm), hkb.row HOa.out.2.2 (fun g hg e => WrBox.row' HGa.out HOa.out.2.2 (by decide) hg e.symm)⟩)
            have HBb := Lib.hid (HBa.out.trans (hkb.below HBa.out.size (fun q hq => by have e : q = y8 := hq; omega)))
            go_simp
            rw [← hXb]
            refine hK.out _ _ ⟨hTb, fun _ _ => trivial⟩ ?_
            clear hK K d0 d1 d2 d3 d4 d5 v0 v1 v2 v3 v4 v5 hXb hkb
            (try simp only [Act.put, List.getElem_toArray, List.getElem_cons_succ, List.getElem_cons_zero, List.setIfInBounds_toArray, List.set_cons_succ, List.set_cons_zero])
            refine wpTwo_end (by kernel_rfl) ?_ _
            go_wp2
            go_meet
            exact ⟨y7, y8, rfl, rfl, by omega, by omega, HF, HBb⟩
      · go_simp
        obtain ⟨y8, hy⟩ : ∃ q, q = X1.heap.size := ⟨_, rfl⟩
        obtain ⟨X2, hX⟩ : ∃ X : World, X = X1.alloc (.cells #[.int .i64 0, .int .i64 0, .slice none 0 0, .int .i64 0, .int .u64 0, .int .i64 0] 34) := ⟨_, rfl⟩
        rw [← hX, ← hy]
        have hb : Below X1.heap.size X1 X2 := by rw [hX]; exact below1 _ _
        have hl8 : W.heap.size + 2 ≤ y8 := by rw [hy]; exact hT1.2.lt
        have hT2 := And.intro (hT1.1.below hb) (hT1.2.below hb)
        have HO2 := Lib.hid (And.intro (owns_below HO1.out.1 hb) (owns_below HO1.out.2 hb))
        have HB2 := Lib.hid (below_then HB1.out HB1.out.size hb)
        have HG2 := Lib.hid (show WrBox X2 y8 ⟨0, 0, 0, 0, 0⟩ (.slice none 0 0) by rw [hX, hy]; exact World.alloc_heap_new _ _)
        clear hb hX hy
        refine hK.out _ _ ⟨hT2, fun _ _ => trivial⟩ ?_
        clear hK K
        (try simp only [Act.put, List.getElem_toArray, List.getElem_cons_succ, List.getElem_cons_zero, List.setIfInBounds_toArray, List.set_cons_succ, List.set_cons_zero])
        refine wpTwo_ready (rs := [3, 4]) (by kernel_rfl) (by simp) ?_
        refine (AllTwo.cons rfl (fun K hK => ?_) (AllTwo.cons rfl (fun K hK => ?_) AllTwo.nil))
        · go_simp
          refine (HOR.out X2 HB2.out).mono ?_
          rintro e X3 ⟨⟨pv, cv, rfl, ho⟩, hb⟩
          have hT3 := And.intro (hT2.1.below hb) (hT2.2.below hb)
          have HO3 := Lib.hid (And.intro (owns_below HO2.out.1 hb) (owns_below HO2.out.2 hb))
          have HG3 := Lib.hid (HG2.out.below hb)
          have HB3 := Lib.hid (below_then HB2.out HB2.out.size hb)
          have HP3 := Lib.hid (ho.mono HB2.out.size)
          clear hb ho
          go_wp2_with fail
          refine hK.out _ _ ⟨hT3, fun _ _ => trivial⟩ ?_
          clear hK K
          (try simp only [Act.put, List.getElem_toArray, List.getElem_cons_succ, List.getElem_cons_zero, List.setIfInBounds_toArray, List.set_cons_succ, List.set_cons_zero])
          refine wpTwo_ready (rs := [4]) (by kernel_rfl) (by simp) ?_
          refine (AllTwo.cons rfl (fun K hK => ?_) AllTwo.nil)
          · go_simp
            obtain ⟨y7, hy⟩ : ∃ q, q = X3.heap.size := ⟨_, rfl⟩
            obtain ⟨X4, hX⟩ : ∃ X : World, X = X3.alloc (.cells #[.slice none 0 0, .slice none 0 0, .bool false] 44) := ⟨_, rfl⟩
            rw [← hX, ← hy]
            have hb : Below X3.heap.size X3 X4 := by rw [hX]; exact below1 _ _
            have hl7 : W.heap.size + 2 ≤ y7 := by rw [hy]; exact hT3.2.lt
            have hT4 := And.intro (hT3.1.below hb) (hT3.2.below hb)
            have HO4 := Lib.hid (And.intro (owns_below HO3.out.1 hb) (owns_below HO3.out.2 hb))
            have HG4 := Lib.hid (HG3.out.below hb)
            have HP4 := Lib.hid (owns_below HP3.out hb)
            have HB4 := Lib.hid (below_then HB3.out HB3.out.size hb)
            have HA4 := Lib.hid (show MBox X4 y7 (.slice none 0 0) (.slice none 0 0) false by rw [hX, hy]; exact MBox.new _ _ _ _)
            clear hb hX hy
            refine hK.out _ _ ⟨hT4, fun _ _ => trivial⟩ ?_
            clear hK K
            (try simp only [Act.put, List.getElem_toArray, List.getElem_cons_succ, List.getElem_cons_zero, List.setIfInBounds_toArray, List.set_cons_succ, List.set_cons_zero])
            refine wpTwo_ready (rs := [6]) (by kernel_rfl) (by simp) ?_
            refine (AllTwo.cons rfl (fun K hK => ?_) AllTwo.nil)
            obtain ⟨⟨d0, d1, d2⟩, e0, e1, e2⟩ := mbox_cells HA4.out
            have hn1 : y7 ≠ y8 := mbox_wrbox HA4.out HG4.out
            obtain ⟨Xa, hXa⟩ : ∃ X : World, X = ((X4.setCell ⟨y7, 0, none⟩ (.slice px us.length cx)).setCell ⟨y7, 1, none⟩ (.slice py ms.length cy)).setCell ⟨y7, 2, none⟩ (.bool f) := ⟨_, rfl⟩
            have hka : Keeps (fun q => q = y7) X4 Xa := by rw [hXa]; exact ((Keeps.setCell X4 (S := fun q => q = y7) (p := ⟨y7, 0, none⟩) rfl _).trans (Keeps.setCell _ (S := fun q => q = y7) (p := ⟨y7, 1, none⟩) rfl _)).trans (Keeps.setCell _ (S := fun q => q = y7) (p := ⟨y7, 2, none⟩) rfl _)
            have hTa := And.intro (hT4.1.keeps hka (by intro e; have e : W.heap.size = y7 := e; omega)) (show WrBox Xa (W.heap.size + 1) ⟨a, g, ph, b, t0⟩ (.slice p2 n2 c2) from (hka.block (W.heap.size + 1) hT4.2.lt (by intro e; have e : W.heap.size + 1 = y7 := e; omega)).trans hT4.2)
            have HAa := Lib.hid (show MBox Xa y7 (.slice px us.length cx) (.slice py ms.length cy) f by rw [hXa]; exact HA4.out.set _ _ _)
            have HGa := Lib.hid (show WrBox Xa y8 ⟨0, 0, 0, 0, 0⟩ (.slice none 0 0) from (hka.block y8 HG4.out.lt (fun e => hn1 e.symm)).trans HG4.out)
            have HOa := Lib.hid (And.intro (hka.row HO4.out.1 (fun g hg e => HA4.out.row HO4.out.1 (by decide) hg e.symm)) (And.intro (hka.row HO4.out.2 (fun g hg e => HA4.out.row HO4.out.2 (by decide) hg e.symm)) (hka.row HP4.out (fun g hg e => HA4.out.row HP4.out (by decide) hg e.symm))))
            have HBa := Lib.hid (HB4.out.trans (hka.below HB4.out.size (fun q hq => by have e : q = y7 := hq; omega)))
            go_simp
            rw [← hXa]
            refine hK.out _ _ ⟨hTa, fun _ _ => trivial⟩ ?_
            clear hK K d0 d1 d2 e0 e1 e2 hXa hka
            (try simp only [Act.put, List.getElem_toArray, List.getElem_cons_succ, List.getElem_cons_zero, List.setIfInBounds_toArray, List.set_cons_succ, List.set_cons_zero])
            refine wpTwo_ready (rs := [7]) (by kernel_rfl) (by simp) ?_
            refine (AllTwo.cons rfl (fun K hK => ?_) AllTwo.nil)
            obtain ⟨d0, d1, d2, d3, d4, d5⟩ := HGa.out.cells
            dsimp only at d0 d1 d3 d4 d5
            have v0 := HGa.out.marks 0
            have v1 := HGa.out.marks 1
            have v2 := HGa.out.marks 2
            have v3 := HGa.out.marks 3
            have v4 := HGa.out.marks 4
            have v5 := HGa.out.marks 5
            obtain ⟨Xb, hXb⟩ : ∃ X : World, X = (((((Xa.setCell ⟨y8, 0, none⟩ (.int .i64 a)).setCell ⟨y8, 1, none⟩ (.int .i64 g)).setCell ⟨y8, 2, none⟩ (.slice pv vs.length cv)).setCell ⟨y8, 3, none⟩ (.int .i64 ph)).setCell ⟨y8, 4, none⟩ (.int .u64 b)).setCell ⟨y8, 5, none⟩ (.int .i64 t0) := ⟨_, rfl⟩
            have hkb : Keeps (fun q => q = y8) Xa Xb := by rw [hXb]; exact WrBox.putK Xa y8 ⟨a, g, ph, b, t0⟩ (.slice pv vs.length cv)
            have hTb := And.intro (hTa.1.keeps hkb (by intro e; have e : W.heap.size = y8 := e; omega)) (show WrBox Xb (W.heap.size + 1) ⟨a, g, ph, b, t0⟩ (.slice p2 n2 c2) from (hkb.block (W.heap.size + 1) hTa.2.lt (by intro e; have e : W.heap.size + 1 = y8 := e; omega)).trans hTa.2)
            have HF := Lib.hid (show StW W.heap.size Xb y7 y8 us ms f ⟨a, g, ph, b, t0⟩ vs from ⟨px, cx, py, cy, pv, cv, HAa.out.keeps hkb hn1, by rw [hXb]; exact HGa.out.put ⟨a, g, ph, b, t0⟩ (.slice pv vs.length cv), hkb.row HOa.out.1 (fun g hg e => WrBox.row' HGa.out HOa.out.1 (by decide) hg e.symm), hkb.row HOa.out.2.1 (fun g hg e => WrBox.row' HGa.out HOa.out.2.1 (by decide) hg e.symm), hkb.row HOa.out.2.2 (fun g hg e => WrBox.row' HGa.out HOa.out.2.2 (by decide) hg e.symm)⟩)
            have HBb := Lib.hid (HBa.out.trans (hkb.below HBa.out.size (fun q hq => by have e : q = y8 := hq; omega)))
            go_simp
            rw [← hXb]
            refine hK.out _ _ ⟨hTb, fun _ _ => trivial⟩ ?_
            clear hK K d0 d1 d2 d3 d4 d5 v0 v1 v2 v3 v4 v5 hXb hkb
            (try simp only [Act.put, List.getElem_toArray, List.getElem_cons_succ, List.getElem_cons_zero, List.setIfInBounds_toArray, List.set_cons_succ, List.set_cons_zero])
            refine wpTwo_end (by kernel_rfl) ?_ _
            go_wp2
            go_meet
            exact ⟨y7, y8, rfl, rfl, by omega, by omega, HF, HBb⟩
        · go_simp
          obtain ⟨y7, hy⟩ : ∃ q, q = X2.heap.size := ⟨_, rfl⟩
          obtain ⟨X3, hX⟩ : ∃ X : World, X = X2.alloc (.cells #[.slice none 0 0, .slice none 0 0, .bool false] 44) := ⟨_, rfl⟩
          rw [← hX, ← hy]
          have hb : Below X2.heap.size X2 X3 := by rw [hX]; exact below1 _ _
          have hl7 : W.heap.size + 2 ≤ y7 := by rw [hy]; exact hT2.2.lt
          have hT3 := And.intro (hT2.1.below hb) (hT2.2.below hb)
          have HO3 := Lib.hid (And.intro (owns_below HO2.out.1 hb) (owns_below HO2.out.2 hb))
          have HG3 := Lib.hid (HG2.out.below hb)
          have HB3 := Lib.hid (below_then HB2.out HB2.out.size hb)
          have HA3 := Lib.hid (show MBox X3 y7 (.slice none 0 0) (.slice none 0 0) false by rw [hX, hy]; exact MBox.new _ _ _ _)
          clear hb hX hy
          refine hK.out _ _ ⟨hT3, fun _ _ => trivial⟩ ?_
          clear hK K
          (try simp only [Act.put, List.getElem_toArray, List.getElem_cons_succ, List.getElem_cons_zero, List.setIfInBounds_toArray, List.set_cons_succ, List.set_cons_zero])
          refine wpTwo_ready (rs := [3]) (by kernel_rfl) (by simp) ?_
          refine (AllTwo.cons rfl (fun K hK => ?_) AllTwo.nil)
          · go_simp
            refine (HOR.out X3 HB3.out).mono ?_
            rintro e X4 ⟨⟨pv, cv, rfl, ho⟩, hb⟩
            have hT4 := And.intro (hT3.1.below hb) (hT3.2.below hb)
            have HO4 := Lib.hid (And.intro (owns_below HO3.out.1 hb) (owns_below HO3.out.2 hb))
            have HG4 := Lib.hid (HG3.out.below hb)
            have HA4 := Lib.hid (HA3.out.below hb)
            have HB4 := Lib.hid (below_then HB3.out HB3.out.size hb)
            have HP4 := Lib.hid (ho.mono HB3.out.size)
            clear hb ho
            go_wp2_with fail
            refine hK.out _ _ ⟨hT4, fun _ _ => trivial⟩ ?_
            clear hK K
            (try simp only [Act.put, List.getElem_toArray, List.getElem_cons_succ, List.getElem_cons_zero, List.setIfInBounds_toArray, List.set_cons_succ, List.set_cons_zero])
            refine wpTwo_ready (rs := [6]) (by kernel_rfl) (by simp) ?_
            refine (AllTwo.cons rfl (fun K hK => ?_) AllTwo.nil)
            obtain ⟨⟨d0, d1, d2⟩, e0, e1, e2⟩ := mbox_cells HA4.out
            have hn1 : y7 ≠ y8 := mbox_wrbox HA4.out HG4.out
            obtain ⟨Xa, hXa⟩ : ∃ X : World, X = ((X4.setCell ⟨y7, 0, none⟩ (.slice px us.length cx)).setCell ⟨y7, 1, none⟩ (.slice py ms.length cy)).setCell ⟨y7, 2, none⟩ (.bool f) := ⟨_, rfl⟩
            have hka : Keeps (fun q => q = y7) X4 Xa := by rw [hXa]; exact ((Keeps.setCell X4 (S := fun q => q = y7) (p := ⟨y7, 0, none⟩) rfl _).trans (Keeps.setCell _ (S := fun q => q = y7) (p := ⟨y7, 1, none⟩) rfl _)).trans (Keeps.setCell _ (S := fun q => q = y7) (p := ⟨y7, 2, none⟩) rfl _)
            have hTa := And.intro (hT4.1.keeps hka (by intro e; have e : W.heap.size = y7 := e; omega)) (show WrBox Xa (W.heap.size + 1) ⟨a, g, ph, b, t0⟩ (.slice p2 n2 c2) from (hka.block (W.heap.size + 1) hT4.2.lt (by intro e; have e : W.heap.size + 1 = y7 := e; omega)).trans hT4.2)
            have HAa := Lib.hid (show MBox Xa y7 (.slice px us.length cx) (.slice py ms.length cy) f by rw [hXa]; exact HA4.out.set _ _ _)
            have HGa := Lib.hid (show WrBox Xa y8 ⟨0, 0, 0, 0, 0⟩ (.slice none 0 0) from (hka.block y8 HG4.out.lt (fun e => hn1 e.symm)).trans HG4.out)
            have HOa := Lib.hid (And.intro (hka.row HO4.out.1 (fun g hg e => HA4.out.row HO4.out.1 (by decide) hg e.symm)) (And.intro (hka.row HO4.out.2 (fun g hg e => HA4.out.row HO4.out.2 (by decide) hg e.symm)) (hka.row HP4.out (fun g hg e => HA4.out.row HP4.out (by decide) hg e.symm))))
            have HBa := Lib.hid (HB4.out.trans (hka.below HB4.out.size (fun q hq => by have e : q = y7 := hq; omega)))
            go_simp
            rw [← hXa]
            refine hK.out _ _ ⟨hTa, fun _ _ => trivial⟩ ?_
            clear hK K d0 d1 d2 e0 e1 e2 hXa hka
            (try simp only [Act.put, List.getElem_toArray, List.getElem_cons_succ, List.getElem_cons_zero, List.setIfInBounds_toArray, List.set_cons_succ, List.set_cons_zero])
            refine wpTwo_ready (rs := [7]) (by kernel_rfl) (by simp) ?_
            refine (AllTwo.cons rfl (fun K hK => ?_) AllTwo.nil)
            obtain ⟨d0, d1, d2, d3, d4, d5⟩ := HGa.out.cells
            dsimp only at d0 d1 d3 d4 d5
            have v0 := HGa.out.marks 0
            have v1 := HGa.out.marks 1
            have v2 := HGa.out.marks 2
            have v3 := HGa.out.marks 3
            have v4 := HGa.out.marks 4
            have v5 := HGa.out.marks 5
            obtain ⟨Xb, hXb⟩ : ∃ X : World, X = (((((Xa.setCell ⟨y8, 0, none⟩ (.int .i64 a)).setCell ⟨y8, 1, none⟩ (.int .i64 g)).setCell ⟨y8, 2, none⟩ (.slice pv vs.length cv)).setCell ⟨y8, 3, none⟩ (.int .i64 ph)).setCell ⟨y8, 4, none⟩ (.int .u64 b)).setCell ⟨y8, 5, none⟩ (.int .i64 t0) := ⟨_, rfl⟩
            have hkb : Keeps (fun q => q = y8) Xa Xb := by rw [hXb]; exact WrBox.putK Xa y8 ⟨a, g, ph, b, t0⟩ (.slice pv vs.length cv)
            have hTb := And.intro (hTa.1.keeps hkb (by intro e; have e : W.heap.size = y8 := e; omega)) (show WrBox Xb (W.heap.size + 1) ⟨a, g, ph, b, t0⟩ (.slice p2 n2 c2) from (hkb.block (W.heap.size + 1) hTa.2.lt (by intro e; have e : W.heap.size + 1 = y8 := e; omega)).trans hTa.2)
            have HF := Lib.hid (show StW W.heap.size Xb y7 y8 us ms f ⟨a, g, ph, b, t0⟩ vs from ⟨px, cx, py, cy, pv, cv, HAa.out.keeps hkb hn1, by rw [hXb]; exact HGa.out.put ⟨a, g, ph, b, t0⟩ (.slice pv vs.length cv), hkb.row HOa.out.1 (fun g hg e => WrBox.row' HGa.out HOa.out.1 (by decide) hg e.symm), hkb.row HOa.out.2.1 (fun g hg e => WrBox.row' HGa.out HOa.out.2.1 (by decide) hg e.symm), hkb.row HOa.out.2.2 (fun g hg e => WrBox.row' HGa.out HOa.out.2.2 (by decide) hg e.symm)⟩)
            have HBb := Lib.hid (HBa.out.trans (hkb.below HBa.out.size (fun q hq => by have e : q = y8 := hq; omega)))
            go_simp
            rw [← hXb]
            refine hK.out _ _ ⟨hTb, fun _ _ => trivial⟩ ?_
            clear hK K d0 d1 d2 d3 d4 d5 v0 v1 v2 v3 v4 v5 hXb hkb
            (try simp only [Act.put, List.getElem_toArray, List.getElem_cons_succ, List.getElem_cons_zero, List.setIfInBounds_toArray, List.set_cons_succ, List.set_cons_zero])
            refine wpTwo_end (by kernel_rfl) ?_ _
            go_wp2
            go_meet
            exact ⟨y7, y8, rfl, rfl, by omega, by omega, HF, HBb⟩
    · go_simp
      obtain ⟨y7, hy⟩ : ∃ q, q = X0.heap.size := ⟨_, rfl⟩
      obtain ⟨X1, hX⟩ : ∃ X : World, X = X0.alloc (.cells #[.slice none 0 0, .slice none 0 0, .bool false] 44) := ⟨_, rfl⟩
      rw [← hX, ← hy]
      have hb : Below X0.heap.size X0 X1 := by rw [hX]; exact below1 _ _
      have hl7 : W.heap.size + 2 ≤ y7 := by rw [hy]; exact hT0.2.lt
      have hT1 := And.intro (hT0.1.below hb) (hT0.2.below hb)
      have HB1 := Lib.hid (below_then HB0.out HB0.out.size hb)
      have HA1 := Lib.hid (show MBox X1 y7 (.slice none 0 0) (.slice none 0 0) false by rw [hX, hy]; exact MBox.new _ _ _ _)
      clear hb hX hy
      refine hK.out _ _ ⟨hT1, fun _ _ => trivial⟩ ?_
      clear hK K
      (try simp only [Act.put, List.getElem_toArray, List.getElem_cons_succ, List.getElem_cons_zero, List.setIfInBounds_toArray, List.set_cons_succ, List.set_cons_zero])
      refine wpTwo_ready (rs := [1, 5]) (by kernel_rfl) (by simp) ?_
      refine (AllTwo.cons rfl (fun K hK => ?_) (AllTwo.cons rfl (fun K hK => ?_) AllTwo.nil))
      · go_simp
        refine (HOW.out X1 HB1.out).mono ?_
        rintro e X2 ⟨⟨_, rfl, vx, vy, rfl, ho1, ho2⟩, hb⟩
        obtain ⟨px, cx, rfl⟩ := own_slice ho1
        obtain ⟨py, cy, rfl⟩ := own_slice ho2
        have hT2 := And.intro (hT1.1.below hb) (hT1.2.below hb)
        have HA2 := Lib.hid (HA1.out.below hb)
        have HB2 := Lib.hid (below_then HB1.out HB1.out.size hb)
        have HO2 := Lib.hid (And.intro (ho1.mono HB1.out.size) (ho2.mono HB1.out.size))
        clear hb ho1 ho2
        go_wp2_with fail
        refine hK.out _ _ ⟨hT2, fun _ _ => trivial⟩ ?_
        clear hK K
        (try simp only [Act.put, List.getElem_toArray, List.getElem_cons_succ, List.getElem_cons_zero, List.setIfInBounds_toArray, List.set_cons_succ, List.set_cons_zero])
        refine wpTwo_ready (rs := [3, 5]) (by kernel_rfl) (by simp) ?_
        refine (AllTwo.cons rfl (fun K hK => ?_) (AllTwo.cons rfl (fun K hK => ?_) AllTwo.nil))
        · go_simp
          refine (HOR.out X2 HB2.out).mono ?_
          rintro e X3 ⟨⟨pv, cv, rfl, ho⟩, hb⟩
          have hT3 := And.intro (hT2.1.below hb) (hT2.2.below hb)
          have HA3 := Lib.hid (HA2.out.below hb)
          have HO3 := Lib.hid (And.intro (owns_below HO2.out.1 hb) (owns_below HO2.out.2 hb))
          have HB3 := Lib.hid (below_then HB2.out HB2.out.size hb)
          have HP3 := Lib.hid (ho.mono HB2.out.size)
          clear hb ho
          go_wp2_with fail
          refine hK.out _ _ ⟨hT3, fun _ _ => trivial⟩ ?_
          clear hK K
          (try simp only [Act.put, List.getElem_toArray, List.getElem_cons_succ, List.getElem_cons_zero, List.setIfInBounds_toArray, List.set_cons_succ, List.set_cons_zero])
          refine wpTwo_ready (rs := [5]) (by kernel_rfl) (by simp) ?_
          refine (AllTwo.cons rfl (fun K hK => ?_) AllTwo.nil)
          · go_simp
            obtain ⟨y8, hy⟩ : ∃ q, q = X3.heap.size := ⟨_, rfl⟩
            obtain ⟨X4, hX⟩ : ∃ X : World, X = X3.alloc (.cells #[.int .i64 0, .int .i64 0, .slice none 0 0, .int .i64 0, .int .u64 0, .int .i64 0] 34) := ⟨_, rfl⟩
            rw [← hX, ← hy]
            have hb : Below X3.heap.size X3 X4 := by rw [hX]; exact below1 _ _
            have hl8 : W.heap.size + 2 ≤ y8 := by rw [hy]; exact hT3.2.lt
            have hT4 := And.intro (hT3.1.below hb) (hT3.2.below hb)
            have HA4 := Lib.hid (HA3.out.below hb)
            have HO4 := Lib.hid (And.intro (owns_below HO3.out.1 hb) (owns_below HO3.out.2 hb))
            have HP4 := Lib.hid (owns_below HP3.out hb)
            have HB4 := Lib.hid (below_then HB3.out HB3.out.size hb)
            have HG4 := Lib.hid (show WrBox X4 y8 ⟨0, 0, 0, 0, 0⟩ (.slice none 0 0) by rw [hX, hy]; exact World.alloc_heap_new _ _)
            clear hb hX hy
            refine hK.out _ _ ⟨hT4, fun _ _ => trivial⟩ ?_
            clear hK K
            (try simp only [Act.put, List.getElem_toArray, List.getElem_cons_succ, List.getElem_cons_zero, List.setIfInBounds_toArray, List.set_cons_succ, List.set_cons_zero])
            refine wpTwo_ready (rs := [6]) (by kernel_rfl) (by simp) ?_
            refine (AllTwo.cons rfl (fun K hK => ?_) AllTwo.nil)
            obtain ⟨⟨d0, d1, d2⟩, e0, e1, e2⟩ := mbox_cells HA4.out
            have hn1 : y7 ≠ y8 := mbox_wrbox HA4.out HG4.out
            obtain ⟨Xa, hXa⟩ : ∃ X : World, X = ((X4.setCell ⟨y7, 0, none⟩ (.slice px us.length cx)).setCell ⟨y7, 1, none⟩ (.slice py ms.length cy)).setCell ⟨y7, 2, none⟩ (.bool f) := ⟨_, rfl⟩
            have hka : Keeps (fun q => q = y7) X4 Xa := by rw [hXa]; exact ((Keeps.setCell X4 (S := fun q => q = y7) (p := ⟨y7, 0, none⟩) rfl _).trans (Keeps.setCell _ (S := fun q => q = y7) (p := ⟨y7, 1, none⟩) rfl _)).trans (Keeps.setCell _ (S := fun q => q = y7) (p := ⟨y7, 2, none⟩) rfl _)
            have hTa := And.intro (hT4.1.keeps hka (by intro e; have e : W.heap.size = y7 := e; omega)) (show WrBox Xa (W.heap.size + 1) ⟨a, g, ph, b, t0⟩ (.slice p2 n2 c2) from (hka.block (W.heap.size + 1) hT4.2.lt (by intro e; have e : W.heap.size + 1 = y7 := e; omega)).trans hT4.2)
            have HAa := Lib.hid (show MBox Xa y7 (.slice px us.length cx) (.slice py ms.length cy) f by rw [hXa]; exact HA4.out.set _ _ _)
            have HGa := Lib.hid (show WrBox Xa y8 ⟨0, 0, 0, 0, 0⟩ (.slice none 0 0) from (hka.block y8 HG4.out.lt (fun e => hn1 e.symm)).trans HG4.out)
            have HOa := Lib.hid (And.intro (hka.row HO4.out.1 (fun g hg e => HA4.out.row HO4.out.1 (by decide) hg e.symm)) (And.intro (hka.row HO4.out.2 (fun g hg e => HA4.out.row HO4.out.2 (by decide) hg e.symm)) (hka.row HP4.out (fun g hg e => HA4.out.row HP4.out (by decide) hg e.symm))))
            have HBa := Lib.hid (HB4.out.trans (hka.below HB4.out.size (fun q hq => by have e : q = y7 := hq; omega)))
            go_simp
            rw [← hXa]
            refine hK.out _ _ ⟨hTa, fun _ _ => trivial⟩ ?_
            clear hK K d0 d1 d2 e0 e1 e2 hXa hka
            (try simp only [Act.put, List.getElem_toArray, List.getElem_cons_succ, List.getElem_cons_zero, List.setIfInBounds_toArray, List.set_cons_succ, List.set_cons_zero])
            refine wpTwo_ready (rs := [7]) (by kernel_rfl) (by simp) ?_
            refine (AllTwo.cons rfl (fun K hK => ?_) AllTwo.nil)
            obtain ⟨d0, d1, d2, d3, d4, d5⟩ := HGa.out.cells
            dsimp only at d0 d1 d3 d4 d5
            have v0 := HGa.out.marks 0
            have v1 := HGa.out.marks 1
            have v2 := HGa.out.marks 2
            have v3 := HGa.out.marks 3
            have v4 := HGa.out.marks 4
            have v5 := HGa.out.marks 5
            obtain ⟨Xb, hXb⟩ : ∃ X : World, X = (((((Xa.setCell ⟨y8, 0, none⟩ (.int .i64 a)).setCell ⟨y8, 1, none⟩ (.int .i64 g)).setCell ⟨y8, 2, none⟩ (.slice pv vs.length cv)).setCell ⟨y8, 3, none⟩ (.int .i64 ph)).setCell ⟨y8, 4, none⟩ (.int .u64 b)).setCell ⟨y8, 5, none⟩ (.int .i64 t0) := ⟨_, rfl⟩
            have hkb : Keeps (fun q => q = y8) Xa Xb := by rw [hXb]; exact WrBox.putK Xa y8 ⟨a, g, ph, b, t0⟩ (.slice pv vs.length cv)
            have hTb := And.intro (hTa.1.keeps hkb (by intro e; have e : W.heap.size = y8 := e; omega)) (show WrBox Xb (W.heap.size + 1) ⟨a, g, ph, b, t0⟩ (.slice p2 n2 c2) from (hkb.block (W.heap.size + 1) hTa.2.lt (by intro e; have e : W.heap.size + 1 = y8 := e; omega)).trans hTa.2)
            have HF := Lib.hid (show StW W.heap.size Xb y7 y8 us ms f ⟨a, g, ph, b, t0⟩ vs from ⟨px, cx, py, cy, pv, cv, HAa.out.keeps hkb hn1, by rw [hXb]; exact HGa.out.put ⟨a, g, ph, b, t0⟩ (.slice pv vs.length cv), hkb.row HOa.out.1 (fun g hg e => WrBox.row' HGa.out HOa.out.1 (by decide) hg e.symm), hkb.row HOa.out.2.1 (fun g hg e => WrBox.row' HGa.out HOa.out.2.1 (by decide) hg e.symm), hkb.row HOa.out.2.2 (fun g hg e => WrBox.row' HGa.out HOa.out.2.2 (by decide) hg e.symm)⟩)
            have HBb := Lib.hid (HBa.out.trans (hkb.below HBa.out.size (fun q hq => by have e : q = y8 := hq; omega)))
            go_simp
            rw [← hXb]
            refine hK.out _ _ ⟨hTb, fun _ _ => trivial⟩ ?_
            clear hK K d0 d1 d2 d3 d4 d5 v0 v1 v2 v3 v4 v5 hXb hkb
            (try simp only [Act.put, List.getElem_toArray, List.getElem_cons_succ, List.getElem_cons_zero, List.setIfInBounds_toArray, List.set_cons_succ, List.set_cons_zero])
            refine wpTwo_end (by kernel_rfl) ?_ _
            go_wp2
            go_meet
            exact ⟨y7, y8, rfl, rfl, by omega, by omega, HF, HBb⟩
        · go_simp
          obtain ⟨y8, hy⟩ : ∃ q, q = X2.heap.size := ⟨_, rfl⟩
          obtain ⟨X3, hX⟩ : ∃ X : World, X = X2.alloc (.cells #[.int .i64 0, .int .i64 0, .slice none 0 0, .int .i64 0, .int .u64 0, .int .i64 0] 34) := ⟨_, rfl⟩
          rw [← hX, ← hy]
          have hb : Below X2.heap.size X2 X3 := by rw [hX]; exact below1 _ _
          have hl8 : W.heap.size + 2 ≤ y8 := by rw [hy]; exact hT2.2.lt
          have hT3 := And.intro (hT2.1.below hb) (hT2.2.below hb)
          have HA3 := Lib.hid (HA2.out.below hb)
          have HO3 := Lib.hid (And.intro (owns_below HO2.out.1 hb) (owns_below HO2.out.2 hb))
          have HB3 := Lib.hid (below_then HB2.out HB2.out.size hb)
          have HG3 := Lib.hid (show WrBox X3 y8 ⟨0, 0, 0, 0, 0⟩ (.slice none 0 0) by rw [hX, hy]; exact World.alloc_heap_new _ _)
          clear hb hX hy
          refine hK.out _ _ ⟨hT3, fun _ _ => trivial⟩ ?_
          clear hK K
          (try simp only [Act.put, List.getElem_toArray, List.getElem_cons_succ, List.getElem_cons_zero, List.setIfInBounds_toArray, List.set_cons_succ, List.set_cons_zero])
          refine wpTwo_ready (rs := [3]) (by kernel_rfl) (by simp) ?_
          refine (AllTwo.cons rfl (fun K hK => ?_) AllTwo.nil)
          · go_simp
            refine (HOR.out X3 HB3.out).mono ?_
            rintro e X4 ⟨⟨pv, cv, rfl, ho⟩, hb⟩
            have hT4 := And.intro (hT3.1.below hb) (hT3.2.below hb)
            have HA4 := Lib.hid (HA3.out.below hb)
            have HO4 := Lib.hid (And.intro (owns_below HO3.out.1 hb) (owns_below HO3.out.2 hb))
            have HG4 := Lib.hid (HG3.out.below hb)
            have HB4 := Lib.hid (below_then HB3.out HB3.out.size hb)
            have HP4 := Lib.hid (ho.mono HB3.out.size)
            clear hb ho
            go_wp2_with fail
            refine hK.out _ _ ⟨hT4, fun _ _ => trivial⟩ ?_
            clear hK K
            (try simp only [Act.put, List.getElem_toArray, List.getElem_cons_succ, List.getElem_cons_zero, List.setIfInBounds_toArray, List.set_cons_succ, List.set_cons_zero])
            refine wpTwo_ready (rs := [6]) (by kernel_rfl) (by simp) ?_
            refine (AllTwo.cons rfl (fun K hK => ?_) AllTwo.nil)
            obtain ⟨⟨d0, d1, d2⟩, e0, e1, e2⟩ := mbox_cells HA4.out
            have hn1 : y7 ≠ y8 := mbox_wrbox HA4.out HG4.out
            obtain ⟨Xa, hXa⟩ : ∃ X : World, X = ((X4.setCell ⟨y7, 0, none⟩ (.slice px us.length cx)).setCell ⟨y7, 1, none⟩ (.slice py ms.length cy)).setCell ⟨y7, 2, none⟩ (.bool f) := ⟨_, rfl⟩
            have hka : Keeps (fun q => q = y7) X4 Xa := by rw [hXa]; exact ((Keeps.setCell X4 (S := fun q => q = y7) (p := ⟨y7, 0, none⟩) rfl _).trans (Keeps.setCell _ (S := fun q => q = y7) (p := ⟨y7, 1, none⟩) rfl _)).trans (Keeps.setCell _ (S := fun q => q = y7) (p := ⟨y7, 2, none⟩) rfl _)
            have hTa := And.intro (hT4.1.keeps hka (by intro e; have e : W.heap.size = y7 := e; omega)) (show WrBox Xa (W.heap.size + 1) ⟨a, g, ph, b, t0⟩ (.slice p2 n2 c2) from (hka.block (W.heap.size + 1) hT4.2.lt (by intro e; have e : W.heap.size + 1 = y7 := e; omega)).trans hT4.2)
            have HAa := Lib.hid (show MBox Xa y7 (.slice px us.length cx) (.slice py ms.length cy) f by rw [hXa]; exact HA4.out.set _ _ _)
            have HGa := Lib.hid (show WrBox Xa y8 ⟨0, 0, 0, 0, 0⟩ (.slice none 0 0) from (hka.block y8 HG4.out.lt (fun e => hn1 e.symm)).trans HG4.out)
            have HOa := Lib.hid (And.intro (hka.row HO4.out.1 (fun g hg e => HA4.out.row HO4.out.1 (by decide) hg e.symm)) (And.intro (hka.row HO4.out.2 (fun g hg e => HA4.out.row HO4.out.2 (by decide) hg e.symm)) (hka.row HP4.out (fun g hg e => HA4.out.row HP4.out (by decide) hg e.symm))))
            have HBa := Lib.hid (HB4.out.trans (hka.below HB4.out.size (fun q hq => by have e : q = y7 := hq; omega)))
            go_simp
            rw [← hXa]
            refine hK.out _ _ ⟨hTa, fun _ _ => trivial⟩ ?_
            clear hK K d0 d1 d2 e0 e1 e2 hXa hka
            (try simp only [Act.put, List.getElem_toArray, List.getElem_cons_succ, List.getElem_cons_zero, List.setIfInBounds_toArray, List.set_cons_succ, List.set_cons_zero])
            refine wpTwo_ready (rs := [7]) (by kernel_rfl) (by simp) ?_
            refine (AllTwo.cons rfl (fun K hK => ?_) AllTwo.nil)
            obtain ⟨d0, d1, d2, d3, d4, d5⟩ := HGa.out.cells
            dsimp only at d0 d1 d3 d4 d5
            have v0 := HGa.out.marks 0
            have v1 := HGa.out.marks 1
            have v2 := HGa.out.marks 2
            have v3 := HGa.out.marks 3
            have v4 := HGa.out.marks 4
            have v5 := HGa.out.marks 5
            obtain ⟨Xb, hXb⟩ : ∃ X : World, X = (((((Xa.setCell ⟨y8, 0, none⟩ (.int .i64 a)).setCell ⟨y8, 1, none⟩ (.int .i64 g)).setCell ⟨y8, 2, none⟩ (.slice pv vs.length cv)).setCell ⟨y8, 3, none⟩ (.int .i64 ph)).setCell ⟨y8, 4, none⟩ (.int .u64 b)).setCell ⟨y8, 5, none⟩ (.int .i64 t0) := ⟨_, rfl⟩
            have hkb : Keeps (fun q => q = y8) Xa Xb := by rw [hXb]; exact WrBox.putK Xa y8 ⟨a, g, ph, b, t0⟩ (.slice pv vs.length cv)
            have hTb := And.intro (hTa.1.keeps hkb (by intro e; have e : W.heap.size = y8 := e; omega)) (show WrBox Xb (W.heap.size + 1) ⟨a, g, ph, b, t0⟩ (.slice p2 n2 c2) from (hkb.block (W.heap.size + 1) hTa.2.lt (by intro e; have e : W.heap.size + 1 = y8 := e; omega)).trans hTa.2)
            have HF := Lib.hid (show StW W.heap.size Xb y7 y8 us ms f ⟨a, g, ph, b, t0⟩ vs from ⟨px, cx, py, cy, pv, cv, HAa.out.keeps hkb hn1, by rw [hXb]; exact HGa.out.put ⟨a, g, ph, b, t0⟩ (.slice pv vs.length cv), hkb.row HOa.out.1 (fun g hg e => WrBox.row' HGa.out HOa.out.1 (by decide) hg e.symm), hkb.row HOa.out.2.1 (fun g hg e => WrBox.row' HGa.out HOa.out.2.1 (by decide) hg e.symm), hkb.row HOa.out.2.2 (fun g hg e => WrBox.row' HGa.out HOa.out.2.2 (by decide) hg e.symm)⟩)
            have HBb := Lib.hid (HBa.out.trans (hkb.below HBa.out.size (fun q hq => by have e : q = y8 := hq; omega)))
            go_simp
            rw [← hXb]
            refine hK.out _ _ ⟨hTb, fun _ _ => trivial⟩ ?_
            clear hK K d0 d1 d2 d3 d4 d5 v0 v1 v2 v3 v4 v5 hXb hkb
            (try simp only [Act.put, List.getElem_toArray, List.getElem_cons_succ, List.getElem_cons_zero, List.setIfInBounds_toArray, List.set_cons_succ, List.set_cons_zero])
            refine wpTwo_end (by kernel_rfl) ?_ _
            go_wp2
            go_meet
            exact ⟨y7, y8, rfl, rfl, by omega, by omega, HF, HBb⟩
      · go_simp
        obtain ⟨y8, hy⟩ : ∃ q, q = X1.heap.size := ⟨_, rfl⟩
        obtain ⟨X2, hX⟩ : ∃ X : World, X = X1.alloc (.cells #[.int .i64 0, .int .i64 0, .slice none 0 0, .int .i64 0, .int .u64 0, .int .i64 0] 34) := ⟨_, rfl⟩
        rw [← hX, ← hy]
        have hb : Below X1.heap.size X1 X2 := by rw [hX]; exact below1 _ _
        have hl8 : W.heap.size + 2 ≤ y8 := by rw [hy]; exact hT1.2.lt
        have hT2 := And.intro (hT1.1.below hb) (hT1.2.below hb)
        have HA2 := Lib.hid (HA1.out.below hb)
        have HB2 := Lib.hid (below_then HB1.out HB1.out.size hb)
        have HG2 := Lib.hid (show WrBox X2 y8 ⟨0, 0, 0, 0, 0⟩ (.slice none 0 0) by rw [hX, hy]; exact World.alloc_heap_new _ _)
        clear hb hX hy
        refine hK.out _ _ ⟨hT2, fun _ _ => trivial⟩ ?_
        clear hK K
        (try simp only [Act.put, List.getElem_toArray, List.getElem_cons_succ, List.getElem_cons_zero, List.setIfInBounds_toArray, List.set_cons_succ, List.set_cons_zero])
        refine wpTwo_ready (rs := [1]) (by kernel_rfl) (by simp) ?_
        refine (AllTwo.cons rfl (fun K hK => ?_) AllTwo.nil)
        · go_simp
          refine (HOW.out X2 HB2.out).mono ?_
          rintro e X3 ⟨⟨_, rfl, vx, vy, rfl, ho1, ho2⟩, hb⟩
          obtain ⟨px, cx, rfl⟩ := own_slice ho1
          obtain ⟨py, cy, rfl⟩ := own_slice ho2
          have hT3 := And.intro (hT2.1.below hb) (hT2.2.below hb)
          have HA3 := Lib.hid (HA2.out.below hb)
          have HG3 := Lib.hid (HG2.out.below hb)
          have HB3 := Lib.hid (below_then HB2.out HB2.out.size hb)
          have HO3 := Lib.hid (And.intro (ho1.mono HB2.out.size) (ho2.mono HB2.out.size))
          clear hb ho1 ho2
          go_wp2_with fail
          refine hK.out _ _ ⟨hT3, fun _ _ => trivial⟩ ?_
          clear hK K
          (try simp only [Act.put, List.getElem_toArray, List.getElem_cons_succ, List.getElem_cons_zero, List.setIfInBounds_toArray, List.set_cons_succ, List.set_cons_zero])
          refine wpTwo_ready (rs := [3]) (by kernel_rfl) (by simp) ?_
          refine (AllTwo.cons rfl (fun K hK => ?_) AllTwo.nil)
          · go_simp
            refine (HOR.out X3 HB3.out).mono ?_
            rintro e X4 ⟨⟨pv, cv, rfl, ho⟩, hb⟩
            have hT4 := And.intro (hT3.1.below hb) (hT3.2.below hb)
            have HA4 := Lib.hid (HA3.out.below hb)
            have HG4 := Lib.hid (HG3.out.below hb)
            have HO4 := Lib.hid (And.intro (owns_below HO3.out.1 hb) (owns_below HO3.out.2 hb))
            have HB4 := Lib.hid (below_then HB3.out HB3.out.size hb)
            have HP4 := Lib.hid (ho.mono HB3.out.size)
            clear hb ho
            go_wp2_with fail
            refine hK.out _ _ ⟨hT4, fun _ _ => trivial⟩ ?_
            clear hK K
            (try simp only [Act.put, List.getElem_toArray, List.getElem_cons_succ, List.getElem_cons_zero, List.setIfInBounds_toArray, List.set_cons_succ, List.set_cons_zero])
            refine wpTwo_ready (rs := [6]) (by kernel_rfl) (by simp) ?_
            refine (AllTwo.cons rfl (fun K hK => ?_) AllTwo.nil)
            obtain ⟨⟨d0, d1, d2⟩, e0, e1, e2⟩ := mbox_cells HA4.out
            have hn1 : y7 ≠ y8 := mbox_wrbox HA4.out HG4.out
            obtain ⟨Xa, hXa⟩ : ∃ X : World, X = ((X4.setCell ⟨y7, 0, none⟩ (.slice px us.length cx)).setCell ⟨y7, 1, none⟩ (.slice py ms.length cy)).setCell ⟨y7, 2, none⟩ (.bool f) := ⟨_, rfl⟩
            have hka : Keeps (fun q => q = y7) X4 Xa := by rw [hXa]; exact ((Keeps.setCell X4 (S := fun q => q = y7) (p := ⟨y7, 0, none⟩) rfl _).trans (Keeps.setCell _ (S := fun q => q = y7) (p := ⟨y7, 1, none⟩) rfl _)).trans (Keeps.setCell _ (S := fun q => q = y7) (p := ⟨y7, 2, none⟩) rfl _)
            have hTa := And.intro (hT4.1.keeps hka (by intro e; have e : W.heap.size = y7 := e; omega)) (show WrBox Xa (W.heap.size + 1) ⟨a, g, ph, b, t0⟩ (.slice p2 n2 c2) from (hka.block (W.heap.size + 1) hT4.2.lt (by intro e; have e : W.heap.size + 1 = y7 := e; omega)).trans hT4.2)
            have HAa := Lib.hid (show MBox Xa y7 (.slice px us.length cx) (.slice py ms.length cy) f by rw [hXa]; exact HA4.out.set _ _ _)
            have HGa := Lib.hid (show WrBox Xa y8 ⟨0, 0, 0, 0, 0⟩ (.slice none 0 0) from (hka.block y8 HG4.out.lt (fun e => hn1 e.symm)).trans HG4.out)
            have HOa := Lib.hid (And.intro (hka.row HO4.out.1 (fun g hg e => HA4.out.row HO4.out.1 (by decide) hg e.symm)) (And.intro (hka.row HO4.out.2 (fun g hg e => HA4.out.row HO4.out.2 (by decide) hg e.symm)) (hka.row HP4.out (fun g hg e => HA4.out.row HP4.out (by decide) hg e.symm))))
            have HBa := Lib.hid (HB4.out.trans (hka.below HB4.out.size (fun q hq => by have e : q = y7 := hq; omega)))
            go_simp
            rw [← hXa]
            refine hK.out _ _ ⟨hTa, fun _ _ => trivial⟩ ?_
            clear hK K d0 d1 d2 e0 e1 e2 hXa hka
            (try simp only [Act.put, List.getElem_toArray, List.getElem_cons_succ, List.getElem_cons_zero, List.setIfInBounds_toArray, List.set_cons_succ, List.set_cons_zero])
            refine wpTwo_ready (rs := [7]) (by kernel_rfl) (by simp) ?_
            refine (AllTwo.cons rfl (fun K hK => ?_) AllTwo.nil)
            obtain ⟨d0, d1, d2, d3, d4, d5⟩ := HGa.out.cells
            dsimp only at d0 d1 d3 d4 d5
            have v0 := HGa.out.marks 0
            have v1 := HGa.out.marks 1
            have v2 := HGa.out.marks 2
            have v3 := HGa.out.marks 3
            have v4 := HGa.out.marks 4
            have v5 := HGa.out.marks 5
            obtain ⟨Xb, hXb⟩ : ∃ X : World, X = (((((Xa.setCell ⟨y8, 0, none⟩ (.int .i64 a)).setCell ⟨y8, 1, none⟩ (.int .i64 g)).setCell ⟨y8, 2, none⟩ (.slice pv vs.length cv)).setCell ⟨y8, 3, none⟩ (.int .i64 ph)).setCell ⟨y8, 4, none⟩ (.int .u64 b)).setCell ⟨y8, 5, none⟩ (.int .i64 t0) := ⟨_, rfl⟩
            have hkb : Keeps (fun q => q = y8) Xa Xb := by rw [hXb]; exact WrBox.putK Xa y8 ⟨a, g, ph, b, t0⟩ (.slice pv vs.length cv)
            have hTb := And.intro (hTa.1.keeps hkb (by intro e; have e : W.heap.size = y8 := e; omega)) (show WrBox Xb (W.heap.size + 1) ⟨a, g, ph, b, t0⟩ (.slice p2 n2 c2) from (hkb.block (W.heap.size + 1) hTa.2.lt (by intro e; have e : W.heap.size + 1 = y8 := e; omega)).trans hTa.2)
            have HF := Lib.hid (show StW W.heap.size Xb y7 y8 us ms f ⟨a, g, ph, b, t0⟩ vs from ⟨px, cx, py, cy, pv, cv, HAa.out.keeps hkb hn1, by rw [hXb]; exact HGa.out.put ⟨a, g, ph, b, t0⟩ (.slice pv vs.length cv), hkb.row HOa.out.1 (fun g hg e => WrBox.row' HGa.out HOa.out.1 (by decide) hg e.symm), hkb.row HOa.out.2.1 (fun g hg e => WrBox.row' HGa.out HOa.out.2.1 (by decide) hg e.symm), hkb.row HOa.out.2.2 (fun g hg e => WrBox.row' HGa.out HOa.out.2.2 (by decide) hg e.symm)⟩)
            have HBb := Lib.hid (HBa.out.trans (hkb.below HBa.out.size (fun q hq => by have e : q = y8 := hq; omega)))
            go_simp
            rw [← hXb]
            refine hK.out _ _ ⟨hTb, fun _ _ => trivial⟩ ?_
            clear hK K d0 d1 d2 d3 d4 d5 v0 v1 v2 v3 v4 v5 hXb hkb
            (try simp only [Act.put, List.getElem_toArray, List.getElem_cons_succ, List.getElem_cons_zero, List.setIfInBounds_toArray, List.set_cons_succ, List.set_cons_zero])
            refine wpTwo_end (by kernel_rfl) ?_ _
            go_wp2
            go_meet
            exact ⟨y7, y8, rfl, rfl, by omega, by omega, HF, HBb⟩
    · go_simp
      obtain ⟨y8, hy⟩ : ∃ q, q = X0.heap.size := ⟨_, rfl⟩
      obtain ⟨X1, hX⟩ : ∃ X : World, X = X0.alloc (.cells #[.int .i64 0, .int .i64 0, .slice none 0 0, .int .i64 0, .int .u64 0, .int .i64 0] 34) := ⟨_, rfl⟩
      rw [← hX, ← hy]
      have hb : Below X0.heap.size X0 X1 := by rw [hX]; exact below1 _ _
      have hl8 : W.heap.size + 2 ≤ y8 := by rw [hy]; exact hT0.2.lt
      have hT1 := And.intro (hT0.1.below hb) (hT0.2.below hb)
      have HB1 := Lib.hid (below_then HB0.out HB0.out.size hb)
      have HG1 := Lib.hid (show WrBox X1 y8 ⟨0, 0, 0, 0, 0⟩ (.slice none 0 0) by rw [hX, hy]; exact World.alloc_heap_new _ _)
      clear hb hX hy
      refine hK.out _ _ ⟨hT1, fun _ _ => trivial⟩ ?_
      clear hK K
      (try simp only [Act.put, List.getElem_toArray, List.getElem_cons_succ, List.getElem_cons_zero, List.setIfInBounds_toArray, List.set_cons_succ, List.set_cons_zero])
      refine wpTwo_ready (rs := [1, 4]) (by kernel_rfl) (by simp) ?_
      refine (AllTwo.cons rfl (fun K hK => ?_) (AllTwo.cons rfl (fun K hK => ?_) AllTwo.nil))
      · go_simp
        refine (HOW.out X1 HB1.out).mono ?_
        rintro e X2 ⟨⟨_, rfl, vx, vy, rfl, ho1, ho2⟩, hb⟩
        obtain ⟨px, cx, rfl⟩ := own_slice ho1
        obtain ⟨py, cy, rfl⟩ := own_slice ho2
        have hT2 := And.intro (hT1.1.below hb) (hT1.2.below hb)
        have HG2 := Lib.hid (HG1.out.below hb)
        have HB2 := Lib.hid (below_then HB1.out HB1.out.size hb)
        have HO2 := Lib.hid (And.intro (ho1.mono HB1.out.size) (ho2.mono HB1.out.size))
        clear hb ho1 ho2
        go_wp2_with fail
        refine hK.out _ _ ⟨hT2, fun _ _ => trivial⟩ ?_
        clear hK K
        (try simp only [Act.put, List.getElem_toArray, List.getElem_cons_succ, List.getElem_cons_zero, List.setIfInBounds_toArray, List.set_cons_succ, List.set_cons_zero])
        refine wpTwo_ready (rs := [3, 4]) (by kernel_rfl) (by simp) ?_
        refine (AllTwo.cons rfl (fun K hK => ?_) (AllTwo.cons rfl (fun K hK => ?_) AllTwo.nil))
        · go_simp
          refine (HOR.out X2 HB2.out).mono ?_
          rintro e X3 ⟨⟨pv, cv, rfl, ho⟩, hb⟩
          have hT3 := And.intro (hT2.1.below hb) (hT2.2.below hb)
          have HG3 := Lib.hid (HG2.out.below hb)
          have HO3 := Lib.hid (And.intro (owns_below HO2.out.1 hb) (owns_below HO2.out.2 hb))
          have HB3 := Lib.hid (below_then HB2.out HB2.out.size hb)
          have HP3 := Lib.hid (ho.mono HB2.out.size)
          clear hb ho
          go_wp2_with fail
          refine hK.out _ _ ⟨hT3, fun _ _ => trivial⟩ ?_
          clear hK K
          (try simp only [Act.put, List.getElem_toArray, List.getElem_cons_succ, List.getElem_cons_zero, List.setIfInBounds_toArray, List.set_cons_succ, List.set_cons_zero])
          refine wpTwo_ready (rs := [4]) (by kernel_rfl) (by simp) ?_
          refine (AllTwo.cons rfl (fun K hK => ?_) AllTwo.nil)
          · go_simp
            obtain ⟨y7, hy⟩ : ∃ q, q = X3.heap.size := ⟨_, rfl⟩
            obtain ⟨X4, hX⟩ : ∃ X : World, X = X3.alloc (.cells #[.slice none 0 0, .slice none 0 0, .bool false] 44) := ⟨_, rfl⟩
            rw [← hX, ← hy]
            have hb : Below X3.heap.size X3 X4 := by rw [hX]; exact below1 _ _
            have hl7 : W.heap.size + 2 ≤ y7 := by rw [hy]; exact hT3.2.lt
            have hT4 := And.intro (hT3.1.below hb) (hT3.2.below hb)
            have HG4 := Lib.hid (HG3.out.below hb)
            have HO4 := Lib.hid (And.intro (owns_below HO3.out.1 hb) (owns_below HO3.out.2 hb))
            have HP4 := Lib.hid (owns_below HP3.out hb)
            have HB4 := Lib.hid (below_then HB3.out HB3.out.size hb)
            have HA4 := Lib.hid (show MBox X4 y7 (.slice none 0 0) (.slice none 0 0) false by rw [hX, hy]; exact MBox.new _ _ _ _)
            clear hb hX hy
            refine hK.out _ _ ⟨hT4, fun _ _ => trivial⟩ ?_
            clear hK K
            (try simp only [Act.put, List.getElem_toArray, List.getElem_cons_succ, List.getElem_cons_zero, List.setIfInBounds_toArray, List.set_cons_succ, List.set_cons_zero])
            refine wpTwo_ready (rs := [6]) (by kernel_rfl) (by simp) ?_
            refine (AllTwo.cons rfl (fun K hK => ?_) AllTwo.nil)
            obtain ⟨⟨d0, d1, d2⟩, e0, e1, e2⟩ := mbox_cells HA4.out
            have hn1 : y7 ≠ y8 := mbox_wrbox HA4.out HG4.out
            obtain ⟨Xa, hXa⟩ : ∃ X : World, X = ((X4.setCell ⟨y7, 0, none⟩ (.slice px us.length cx)).setCell ⟨y7, 1, none⟩ (.slice py ms.length cy)).setCell ⟨y7, 2, none⟩ (.bool f) := ⟨_, rfl⟩
            have hka : Keeps (fun q => q = y7) X4 Xa := by rw [hXa]; exact ((Keeps.setCell X4 (S := fun q => q = y7) (p := ⟨y7, 0, none⟩) rfl _).trans (Keeps.setCell _ (S := fun q => q = y7) (p := ⟨y7, 1, none⟩) rfl _)).trans (Keeps.setCell _ (S := fun q => q = y7) (p := ⟨y7, 2, none⟩) rfl _)
            have hTa := And.intro (hT4.1.keeps hka (by intro e; have e : W.heap.size = y7 := e; omega)) (show WrBox Xa (W.heap.size + 1) ⟨a, g, ph, b, t0⟩ (.slice p2 n2 c2) from (hka.block (W.heap.size + 1) hT4.2.lt (by intro e; have e : W.heap.size + 1 = y7 := e; omega)).trans hT4.2)
            have HAa := Lib.hid (show MBox Xa y7 (.slice px us.length cx) (.slice py ms.length cy) f by rw [hXa]; exact HA4.out.set _ _ _)
            have HGa := Lib.hid (show WrBox Xa y8 ⟨0, 0, 0, 0, 0⟩ (.slice none 0 0) from (hka.block y8 HG4.out.lt (fun e => hn1 e.symm)).trans HG4.out)
            have HOa := Lib.hid (And.intro (hka.row HO4.out.1 (fun g hg e => HA4.out.row HO4.out.1 (by decide) hg e.symm)) (And.intro (hka.row HO4.out.2 (fun g hg e => HA4.out.row HO4.out.2 (by decide) hg e.symm)) (hka.row HP4.out (fun g hg e => HA4.out.row HP4.out (by decide) hg e.symm))))
            have HBa := Lib.hid (HB4.out.trans (hka.below HB4.out.size (fun q hq => by have e : q = y7 := hq; omega)))
            go_simp
            rw [← hXa]
            refine hK.out _ _ ⟨hTa, fun _ _ => trivial⟩ ?_
            clear hK K d0 d1 d2 e0 e1 e2 hXa hka
            (try simp only [Act.put, List.getElem_toArray, List.getElem_cons_succ, List.getElem_cons_zero, List.setIfInBounds_toArray, List.set_cons_succ, List.set_cons_zero])
            refine wpTwo_ready (rs := [7]) (by kernel_rfl) (by simp) ?_
            refine (AllTwo.cons rfl (fun K hK => ?_) AllTwo.nil)
            obtain ⟨d0, d1, d2, d3, d4, d5⟩ := HGa.out.cells
            dsimp only at d0 d1 d3 d4 d5
            have v0 := HGa.out.marks 0
            have v1 := HGa.out.marks 1
            have v2 := HGa.out.marks 2
            have v3 := HGa.out.marks 3
            have v4 := HGa.out.marks 4
            have v5 := HGa.out.marks 5
            obtain ⟨Xb, hXb⟩ : ∃ X : World, X = (((((Xa.setCell ⟨y8, 0, none⟩ (.int .i64 a)).setCell ⟨y8, 1, none⟩ (.int .i64 g)).setCell ⟨y8, 2, none⟩ (.slice pv vs.length cv)).setCell ⟨y8, 3, none⟩ (.int .i64 ph)).setCell ⟨y8, 4, none⟩ (.int .u64 b)).setCell ⟨y8, 5, none⟩ (.int .i64 t0) := ⟨_, rfl⟩
            have hkb : Keeps (fun q => q = y8) Xa Xb := by rw [hXb]; exact WrBox.putK Xa y8 ⟨a, g, ph, b, t0⟩ (.slice pv vs.length cv)
            have hTb := And.intro (hTa.1.keeps hkb (by intro e; have e : W.heap.size = y8 := e; omega)) (show WrBox Xb (W.heap.size + 1) ⟨a, g, ph, b, t0⟩ (.slice p2 n2 c2) from (hkb.block (W.heap.size + 1) hTa.2.lt (by intro e; have e : W.heap.size + 1 = y8 := e; omega)).trans hTa.2)
            have HF := Lib.hid (show StW W.heap.size Xb y7 y8 us ms f ⟨a, g, ph, b, t0⟩ vs from ⟨px, cx, py, cy, pv, cv, HAa.out.keeps hkb hn1, by rw [hXb]; exact HGa.out.put ⟨a, g, ph, b, t0⟩ (.slice pv vs.length cv), hkb.row HOa.out.1 (fun g hg e => WrBox.row' HGa.out HOa.out.1 (by decide) hg e.symm), hkb.row HOa.out.2.1 (fun g hg e => WrBox.row' HGa.out HOa.out.2.1 (by decide) hg e.symm), hkb.row HOa.out.2.2 (fun g hg e => WrBox.row' HGa.out HOa.out.2.2 (by decide) hg e.symm)⟩)
            have HBb := Lib.hid (HBa.out.trans (hkb.below HBa.out.size (fun q hq => by have e : q = y8 := hq; omega)))
            go_simp
            rw [← hXb]
            refine hK.out _ _ ⟨hTb, fun _ _ => trivial⟩ ?_
            clear hK K d0 d1 d2 d3 d4 d5 v0 v1 v2 v3 v4 v5 hXb hkb
            (try simp only [Act.put, List.getElem_toArray, List.getElem_cons_succ, List.getElem_cons_zero, List.setIfInBounds_toArray, List.set_cons_succ, List.set_cons_zero])
            refine wpTwo_end (by kernel_rfl) ?_ _
            go_wp2
            go_meet
            exact ⟨y7, y8, rfl, rfl, by omega, by omega, HF, HBb⟩
        · go_simp
          obtain ⟨y7, hy⟩ : ∃ q, q = X2.heap.size := ⟨_, rfl⟩
          obtain ⟨X3, hX⟩ : ∃ X : World, X = X2.alloc (.cells #[.slice none 0 0, .slice none 0 0, .bool false] 44) := ⟨_, rfl⟩
          rw [← hX, ← hy]
          have hb : Below X2.heap.size X2 X3 := by rw [hX]; exact below1 _ _
          have hl7 : W.heap.size + 2 ≤ y7 := by rw [hy]; exact hT2.2.lt
          have hT3 := And.intro (hT2.1.below hb) (hT2.2.below hb)
          have HG3 := Lib.hid (HG2.out.below hb)
          have HO3 := Lib.hid (And.intro (owns_below HO2.out.1 hb) (owns_below HO2.out.2 hb))
          have HB3 := Lib.hid (below_then HB2.out HB2.out.size hb)
          have HA3 := Lib.hid (show MBox X3 y7 (.slice none 0 0) (.slice none 0 0) false by rw [hX, hy]; exact MBox.new _ _ _ _)
          clear hb hX hy
          refine hK.out _ _ ⟨hT3, fun _ _ => trivial⟩ ?_
          clear hK K
          (try simp only [Act.put, List.getElem_toArray, List.getElem_cons_succ, List.getElem_cons_zero, List.setIfInBounds_toArray, List.set_cons_succ, List.set_cons_zero])
          refine wpTwo_ready (rs := [3]) (by kernel_rfl) (by simp) ?_
          refine (AllTwo.cons rfl (fun K hK => ?_) AllTwo.nil)
          · go_simp
            refine (HOR.out X3 HB3.out).mono ?_
            rintro e X4 ⟨⟨pv, cv, rfl, ho⟩, hb⟩
            have hT4 := And.intro (hT3.1.below hb) (hT3.2.below hb)
            have HG4 := Lib.hid (HG3.out.below hb)
            have HO4 := Lib.hid (And.intro (owns_below HO3.out.1 hb) (owns_below HO3.out.2 hb))
            have HA4 := Lib.hid (HA3.out.below hb)
            have HB4 := Lib.hid (below_then HB3.out HB3.out.size hb)
            have HP4 := Lib.hid (ho.mono HB3.out.size)
            clear hb ho
            go_wp2_with fail
            refine hK.out _ _ ⟨hT4, fun _ _ => trivial⟩ ?_
            clear hK K
            (try simp only [Act.put, List.getElem_toArray, List.getElem_cons_succ, List.getElem_cons_zero, List.setIfInBounds_toArray, List.set_cons_succ, List.set_cons_zero])
            refine wpTwo_ready (rs := [6]) (by kernel_rfl) (by simp) ?_
            refine (AllTwo.cons rfl (fun K hK => ?_) AllTwo.nil)
            obtain ⟨⟨d0, d1, d2⟩, e0, e1, e2⟩ := mbox_cells HA4.out
            have hn1 : y7 ≠ y8 := mbox_wrbox HA4.out HG4.out
            obtain ⟨Xa, hXa⟩ : ∃ X : World, X = ((X4.setCell ⟨y7, 0, none⟩ (.slice px us.length cx)).setCell ⟨y7, 1, none⟩ (.slice py ms.length cy)).setCell ⟨y7, 2, none⟩ (.bool f) := ⟨_, rfl⟩
            have hka : Keeps (fun q => q = y7) X4 Xa := by rw [hXa]; exact ((Keeps.setCell X4 (S := fun q => q = y7) (p := ⟨y7, 0, none⟩) rfl _).trans (Keeps.setCell _ (S := fun q => q = y7) (p := ⟨y7, 1, none⟩) rfl _)).trans (Keeps.setCell _ (S := fun q => q = y7) (p := ⟨y7, 2, none⟩) rfl _)
            have hTa := And.intro (hT4.1.keeps hka (by intro e; have e : W.heap.size = y7 := e; omega)) (show WrBox Xa (W.heap.size + 1) ⟨a, g, ph, b, t0⟩ (.slice p2 n2 c2) from (hka.block (W.heap.size + 1) hT4.2.lt (by intro e; have e : W.heap.size + 1 = y7 := e; omega)).trans hT4.2)
            have HAa := Lib.hid (show MBox Xa y7 (.slice px us.length cx) (.slice py ms.length cy) f by rw [hXa]; exact HA4.out.set _ _ _)
            have HGa := Lib.hid (show WrBox Xa y8 ⟨0, 0, 0, 0, 0⟩ (.slice none 0 0) from (hka.block y8 HG4.out.lt (fun e => hn1 e.symm)).trans HG4.out)
            have HOa := Lib.hid (And.intro (hka.row HO4.out.1 (fun g hg e => HA4.out.row HO4.out.1 (by decide) hg e.symm)) (And.intro (hka.row HO4.out.2 (fun g hg e => HA4.out.row HO4.out.2 (by decide) hg e.symm)) (hka.row HP4.out (fun g hg e => HA4.out.row HP4.out (by decide) hg e.symm))))
            have HBa := Lib.hid (HB4.out.trans (hka.below HB4.out.size (fun q hq => by have e : q = y7 := hq; omega)))
            go_simp
            rw [← hXa]
            refine hK.out _ _ ⟨hTa, fun _ _ => trivial⟩ ?_
            clear hK K d0 d1 d2 e0 e1 e2 hXa hka
            (try simp only [Act.put, List.getElem_toArray, List.getElem_cons_succ, List.getElem_cons_zero, List.setIfInBounds_toArray, List.set_cons_succ, List.set_cons_zero])
            refine wpTwo_ready (rs := [7]) (by kernel_rfl) (by simp) ?_
            refine (AllTwo.cons rfl (fun K hK => ?_) AllTwo.nil)
            obtain ⟨d0, d1, d2, d3, d4, d5⟩ := HGa.out.cells
            dsimp only at d0 d1 d3 d4 d5
            have v0 := HGa.out.marks 0
            have v1 := HGa.out.marks 1
            have v2 := HGa.out.marks 2
            have v3 := HGa.out.marks 3
            have v4 := HGa.out.marks 4
            have v5 := HGa.out.marks 5
            obtain ⟨Xb, hXb⟩ : ∃ X : World, X = (((((Xa.setCell ⟨y8, 0, none⟩ (.int .i64 a)).setCell ⟨y8, 1, none⟩ (.int .i64 g)).setCell ⟨y8, 2, none⟩ (.slice pv vs.length cv)).setCell ⟨y8, 3, none⟩ (.int .i64 ph)).setCell ⟨y8, 4, none⟩ (.int .u64 b)).setCell ⟨y8, 5, none⟩ (.int .i64 t0) := ⟨_, rfl⟩
            have hkb : Keeps (fun q => q = y8) Xa Xb := by rw [hXb]; exact WrBox.putK Xa y8 ⟨a, g, ph, b, t0⟩ (.slice pv vs.length cv)
            have hTb := And.intro (hTa.1.keeps hkb (by intro e; have e : W.heap.size = y8 := e; omega)) (show WrBox Xb (W.heap.size + 1) ⟨a, g, ph, b, t0⟩ (.slice p2 n2 c2) from (hkb.block (W.heap.size + 1) hTa.2.lt (by intro e; have e : W.heap.size + 1 = y8 := e; omega)).trans hTa.2)
            have HF := Lib.hid (show StW W.heap.size Xb y7 y8 us ms f ⟨a, g, ph, b, t0⟩ vs from ⟨px, cx, py, cy, pv, cv, HAa.out.keeps hkb hn1, by rw [hXb]; exact HGa.out.put ⟨a, g, ph, b, t0⟩ (.slice pv vs.length cv), hkb.row HOa.out.1 (fun g hg e => WrBox.row' HGa.out HOa.out.1 (by decide) hg e.symm), hkb.row HOa.out.2.1 (fun g hg e => WrBox.row' HGa.out HOa.out.2.1 (by decide) hg e.symm), hkb.row HOa.out.2.2 (fun g hg e => WrBox.row' HGa.out HOa.out.2.2 (by decide) hg e.symm)⟩)
            have HBb := Lib.hid (HBa.out.trans (hkb.below HBa.out.size (fun q hq => by have e : q = y8 := hq; omega)))
            go_simp
            rw [← hXb]
            refine hK.out _ _ ⟨hTb, fun _ _ => trivial⟩ ?_
            clear hK K d0 d1 d2 d3 d4 d5 v0 v1 v2 v3 v4 v5 hXb hkb
            (try simp only [Act.put, List.getElem_toArray, List.getElem_cons_succ, List.getElem_cons_zero, List.setIfInBounds_toArray, List.set_cons_succ, List.set_cons_zero])
            refine wpTwo_end (by kernel_rfl) ?_ _
            go_wp2
            go_meet
            exact ⟨y7, y8, rfl, rfl, by omega, by omega, HF, HBb⟩
      · go_simp
        obtain ⟨y7, hy⟩ : ∃ q, q = X1.heap.size := ⟨_, rfl⟩
        obtain ⟨X2, hX⟩ : ∃ X : World, X = X1.alloc (.cells #[.slice none 0 0, .slice none 0 0, .bool false] 44) := ⟨_, rfl⟩
        rw [← hX, ← hy]
        have hb : Below X1.heap.size X1 X2 := by rw [hX]; exact below1 _ _
        have hl7 : W.heap.size + 2 ≤ y7 := by rw [hy]; exact hT1.2.lt
        have hT2 := And.intro (hT1.1.below hb) (hT1.2.below hb)
        have HG2 := Lib.hid (HG1.out.below hb)
        have HB2 := Lib.hid (below_then HB1.out HB1.out.size hb)
        have HA2 := Lib.hid (show MBox X2 y7 (.slice none 0 0) (.slice none 0 0) false by rw [hX, hy]; exact MBox.new _ _ _ _)
        clear hb hX hy
        refine hK.out _ _ ⟨hT2, fun _ _ => trivial⟩ ?_
        clear hK K
        (try simp only [Act.put, List.getElem_toArray, List.getElem_cons_succ, List.getElem_cons_zero, List.setIfInBounds_toArray, List.set_cons_succ, List.set_cons_zero])
        refine wpTwo_ready (rs := [1]) (by kernel_rfl) (by simp) ?_
        refine (AllTwo.cons rfl (fun K hK => ?_) AllTwo.nil)
        · go_simp
          refine (HOW.out X2 HB2.out).mono ?_
          rintro e X3 ⟨⟨_, rfl, vx, vy, rfl, ho1, ho2⟩, hb⟩
          obtain ⟨px, cx, rfl⟩ := own_slice ho1
          obtain ⟨py, cy, rfl⟩ := own_slice ho2
          have hT3 := And.intro (hT2.1.below hb) (hT2.2.below hb)
          have HG3 := Lib.hid (HG2.out.below hb)
          have HA3 := Lib.hid (HA2.out.below hb)
          have HB3 := Lib.hid (below_then HB2.out HB2.out.size hb)
          have HO3 := Lib.hid (And.intro (ho1.mono HB2.out.size) (ho2.mono HB2.out.size))
          clear hb ho1 ho2
          go_wp2_with fail
          refine hK.out _ _ ⟨hT3, fun _ _ => trivial⟩ ?_
          clear hK K
          (try simp only [Act.put, List.getElem_toArray, List.getElem_cons_succ, List.getElem_cons_zero, List.setIfInBounds_toArray, List.set_cons_succ, List.set_cons_zero])
          refine wpTwo_ready (rs := [3]) (by kernel_rfl) (by simp) ?_
          refine (AllTwo.cons rfl (fun K hK => ?_) AllTwo.nil)
          · go_simp
            refine (HOR.out X3 HB3.out).mono ?_
            rintro e X4 ⟨⟨pv, cv, rfl, ho⟩, hb⟩
            have hT4 := And.intro (hT3.1.below hb) (hT3.2.below hb)
            have HG4 := Lib.hid (HG3.out.below hb)
            have HA4 := Lib.hid (HA3.out.below hb)
            have HO4 := Lib.hid (And.intro (owns_below HO3.out.1 hb) (owns_below HO3.out.2 hb))
            have HB4 := Lib.hid (below_then HB3.out HB3.out.size hb)
            have HP4 := Lib.hid (ho.mono HB3.out.size)
            clear hb ho
            go_wp2_with fail
            refine hK.out _ _ ⟨hT4, fun _ _ => trivial⟩ ?_
            clear hK K
            (try simp only [Act.put, List.getElem_toArray, List.getElem_cons_succ, List.getElem_cons_zero, List.setIfInBounds_toArray, List.set_cons_succ, List.set_cons_zero])
            refine wpTwo_ready (rs := [6]) (by kernel_rfl) (by simp) ?_
            refine (AllTwo.cons rfl (fun K hK => ?_) AllTwo.nil)
            obtain ⟨⟨d0, d1, d2⟩, e0, e1, e2⟩ := mbox_cells HA4.out
            have hn1 : y7 ≠ y8 := mbox_wrbox HA4.out HG4.out
            obtain ⟨Xa, hXa⟩ : ∃ X : World, X = ((X4.setCell ⟨y7, 0, none⟩ (.slice px us.length cx)).setCell ⟨y7, 1, none⟩ (.slice py ms.length cy)).setCell ⟨y7, 2, none⟩ (.bool f) := ⟨_, rfl⟩
            have hka : Keeps (fun q => q = y7) X4 Xa := by rw [hXa]; exact ((Keeps.setCell X4 (S := fun q => q = y7) (p := ⟨y7, 0, none⟩) rfl _).trans (Keeps.setCell _ (S := fun q => q = y7) (p := ⟨y7, 1, none⟩) rfl _)).trans (Keeps.setCell _ (S := fun q => q = y7) (p := ⟨y7, 2, none⟩) rfl _)
            have hTa := And.intro (hT4.1.keeps hka (by intro e; have e : W.heap.size = y7 := e; omega)) (show WrBox Xa (W.heap.size + 1) ⟨a, g, ph, b, t0⟩ (.slice p2 n2 c2) from (hka.block (W.heap.size + 1) hT4.2.lt (by intro e; have e : W.heap.size + 1 = y7 := e; omega)).trans hT4.2)
            have HAa := Lib.hid (show MBox Xa y7 (.slice px us.length cx) (.slice py ms.length cy) f by rw [hXa]; exact HA4.out.set _ _ _)
            have HGa := Lib.hid (show WrBox Xa y8 ⟨0, 0, 0, 0, 0⟩ (.slice none 0 0) from (hka.block y8 HG4.out.lt (fun e => hn1 e.symm)).trans HG4.out)
            have HOa := Lib.hid (And.intro (hka.row HO4.out.1 (fun g hg e => HA4.out.row HO4.out.1 (by decide) hg e.symm)) (And.intro (hka.row HO4.out.2 (fun g hg e => HA4.out.row HO4.out.2 (by decide) hg e.symm)) (hka.row HP4.out (fun g hg e => HA4.out.row HP4.out (by decide) hg e.symm))))
            have HBa := Lib.hid (HB4.out.trans (hka.below HB4.out.size (fun q hq => by have e : q = y7 := hq; omega)))
            go_simp
            rw [← hXa]
            refine hK.out _ _ ⟨hTa, fun _ _ => trivial⟩ ?_
            clear hK K d0 d1 d2 e0 e1 e2 hXa hka
            (try simp only [Act.put, List.getElem_toArray, List.getElem_cons_succ, List.getElem_cons_zero, List.setIfInBounds_toArray, List.set_cons_succ, List.set_cons_zero])
            refine wpTwo_ready (rs := [7]) (by kernel_rfl) (by simp) ?_
            refine (AllTwo.cons rfl (fun K hK => ?_) AllTwo.nil)
            obtain ⟨d0, d1, d2, d3, d4, d5⟩ := HGa.out.cells
            dsimp only at d0 d1 d3 d4 d5
            have v0 := HGa.out.marks 0
            have v1 := HGa.out.marks 1
            have v2 := HGa.out.marks 2
            have v3 := HGa.out.marks 3
            have v4 := HGa.out.marks 4
            have v5 := HGa.out.marks 5
            obtain ⟨Xb, hXb⟩ : ∃ X : World, X = (((((Xa.setCell ⟨y8, 0, none⟩ (.int .i64 a)).setCell ⟨y8, 1, none⟩ (.int .i64 g)).setCell ⟨y8, 2, none⟩ (.slice pv vs.length cv)).setCell ⟨y8, 3, none⟩ (.int .i64 ph)).setCell ⟨y8, 4, none⟩ (.int .u64 b)).setCell ⟨y8, 5, none⟩ (.int .i64 t0) := ⟨_, rfl⟩
            have hkb : Keeps (fun q => q = y8) Xa Xb := by rw [hXb]; exact WrBox.putK Xa y8 ⟨a, g, ph, b, t0⟩ (.slice pv vs.length cv)
            have hTb := And.intro (hTa.1.keeps hkb (by intro e; have e : W.heap.size = y8 := e; omega)) (show WrBox Xb (W.heap.size + 1) ⟨a, g, ph, b, t0⟩ (.slice p2 n2 c2) from (hkb.block (W.heap.size + 1) hTa.2.lt (by intro e; have e : W.heap.size + 1 = y8 := e; omega)).trans hTa.2)
            have HF := Lib.hid (show StW W.heap.size Xb y7 y8 us ms f ⟨a, g, ph, b, t0⟩ vs from ⟨px, cx, py, cy, pv, cv, HAa.out.keeps hkb hn1, by rw [hXb]; exact HGa.out.put ⟨a, g, ph, b, t0⟩ (.slice pv vs.length cv), hkb.row HOa.out.1 (fun g hg e => WrBox.row' HGa.out HOa.out.1 (by decide) hg e.symm), hkb.row HOa.out.2.1 (fun g hg e => WrBox.row' HGa.out HOa.out.2.1 (by decide) hg e.symm), hkb.row HOa.out.2.2 (fun g hg e => WrBox.row' HGa.out HOa.out.2.2 (by decide) hg e.symm)⟩)
            have HBb := Lib.hid (HBa.out.trans (hkb.below HBa.out.size (fun q hq => by have e : q = y8 := hq; omega)))
            go_simp
            rw [← hXb]
            refine hK.out _ _ ⟨hTb, fun _ _ => trivial⟩ ?_
            clear hK K d0 d1 d2 d3 d4 d5 v0 v1 v2 v3 v4 v5 hXb hkb
            (try simp only [Act.put, List.getElem_toArray, List.getElem_cons_succ, List.getElem_cons_zero, List.setIfInBounds_toArray, List.set_cons_succ, List.set_cons_zero])
            refine wpTwo_end (by kernel_rfl) ?_ _
            go_wp2
            go_meet
            exact ⟨y7, y8, rfl, rfl, by omega, by omega, HF, HBb⟩
  case rest =>
    obtain ⟨zm, zr, rfl, rfl, hzm, hzr, HS, HBC⟩ := hcut
    have HZ := Lib.hid (And.intro hzm hzr)
    clear hzm hzr HM1 HR1 HB1 HOW HOR
    obtain ⟨w2, hw2⟩ : ∃ X : World, X = wc := ⟨_, rfl⟩
    rw [← hw2] at HS HBC
    rw [← hw2]
    clear hw2
    obtain ⟨R, hRR⟩ : ∃ R, R = rightWB ⟨a, g, ph, b, t0⟩ vs.length := ⟨_, rfl⟩
    obtain ⟨xr, hxr⟩ : ∃ x : Int, x = if R = true then 0 else 160 := ⟨_, rfl⟩
    have HRE := Lib.hid hRR
    have HXE := Lib.hid hxr
    clear hRR hxr
    go_upto_region 4 with fail
    go_cut [7] (fun s7 wd => s7 = .int .i64 xr ∧ Hid (StW W.heap.size wd zm zr us ms f ⟨a, g, ph, b, t0⟩ vs ∧ Below W.heap.size W wd))
    case first =>
      obtain ⟨px, cx, py, cy, pv, cv, h1, h2, h3, h4, h5⟩ := HS.out
      have HCK := Lib.hid (fun Z : World => checkWrite_c ⟨a, g, ph, b, t0⟩ pv vs.length cv HSB.out Z)
      rw [← HRE.out, ← HXE.out] at HCK
      unfold wrV at HCK
      dsimp only at HCK
      obtain ⟨r0, r1, r2, r3, r4, r5⟩ := h2.cells
      dsimp only at r0 r1 r3 r4 r5
      clear h1 h2 h3 h4 h5
      go_wp2_with fail
      refine (HCK.out w2).mono ?_
      rintro e w3 ⟨rfl, hb3⟩
      have HF := Lib.hid (And.intro (HS.out.below hb3) (below_then HBC.out HBC.out.size hb3))
      clear hb3 HCK r0 r1 r2 r3 r4 r5
      go_wp2_with fail
      go_meet
      exact ⟨rfl, HF⟩
    case rest =>
    obtain ⟨rfl, HS1⟩ := hcut
    clear HS HBC
    obtain ⟨w2', hw2⟩ : ∃ X : World, X = wc := ⟨_, rfl⟩
    rw [← hw2] at HS1 ⊢
    clear hw2
    go_upto_region 5 with fail
    go_cut [35] (fun s35 wd => s35 = .bool false ∧ Hid (StW W.heap.size wd zm zr us ms f ⟨a, g, ph, b, t0⟩ vs ∧ Below W.heap.size W wd))
    case first =>
      obtain ⟨px, cx, py, cy, pv, cv, h1, h2, h3, h4, h5⟩ := HS1.out.1
      have HRK := Lib.hid (fun Z : World => eRightWrite_c ⟨a, g, ph, b, t0⟩ pv vs.length cv HSB.out Z)
      rw [← HRE.out] at HRK
      unfold wrV at HRK
      dsimp only at HRK
      obtain ⟨r0, r1, r2, r3, r4, r5⟩ := h2.cells
      dsimp only at r0 r1 r3 r4 r5
      clear h1 h2 h3 h4 h5 HRE
      cases R with
      | false =>
        obtain rfl : xr = 160 := HXE.out
        clear HXE
        go_wp2_with fail
        refine (HRK.out w2').mono ?_
        rintro e w4 ⟨rfl, hb4⟩
        have HF := Lib.hid (And.intro (HS1.out.1.below hb4) (below_then HS1.out.2 HS1.out.2.size hb4))
        clear hb4 HRK r0 r1 r2 r3 r4 r5
        go_wp2
        go_meet
        exact ⟨rfl, HF⟩
      | true =>
        obtain rfl : xr = 0 := HXE.out
        clear HXE
        go_wp2_with fail
        refine (HRK.out w2').mono ?_
        rintro e w4 ⟨rfl, hb4⟩
        have HF := Lib.hid (And.intro (HS1.out.1.below hb4) (below_then HS1.out.2 HS1.out.2.size hb4))
        clear hb4 HRK r0 r1 r2 r3 r4 r5
        go_wp2
        go_meet
        exact ⟨rfl, HF⟩
    case rest =>
      obtain ⟨rfl, HS2⟩ := hcut
      clear HS1 HRE HXE
      obtain ⟨w3, hw3⟩ : ∃ X : World, X = wc := ⟨_, rfl⟩
      rw [← hw3] at HS2 ⊢
      clear hw3
      go_wp2
      go_loopw [36] (fun iv wr => ∃ (i : Nat) (us : List Int) (ms : List Bool) (f : Bool) (s : WrM) (vs : List Int), i ≤ 6 ∧ iv = .int .i64 i ∧ StW W.heap.size wr zm zr us ms f s vs ∧ (WRange us ∧ us.length ≤ 48 ∧ vs.length ≤ 18 ∧ ms.length ≤ 48 ∧ WRange vs) ∧ (0 ≤ s.b ∧ s.b ≤ 18446744073709551615) ∧ Below W.heap.size W wr) (fun iv _ => 6 - (pIntOf iv).toNat)
      case atStart => exact ⟨0, us, ms, f, _, vs, Nat.zero_le _, rfl, HS2.out.1, HRG.out, HSB.out, HS2.out.2⟩
      case round =>
        clear HS2 HRG HSB
        obtain ⟨i, us, ms, f, s, vs, hi, rfl, hS, hrg, hsb, hB⟩ := hrel
        by_cases hlt : i < 6
        · obtain ⟨px, cx, py, cy, pv, cv, h1, h2, h3, h4, h5⟩ := hS
          obtain ⟨a, g, ph, b, t0⟩ := s
          obtain ⟨⟨z0, z1, z2⟩, -⟩ := mbox_cells h1
          obtain ⟨r0, r1, r2, r3, r4, r5⟩ := h2.cells
          dsimp only at r0 r1 r3 r4 r5 hsb
          have HMEM := Lib.hid (show MemAt wr (.agg #[.slice px us.length cx, .slice py ms.length cy, .bool f]) us ms f from ⟨_, _, rfl, nums_of_owns rfl h3, bools_of_owns rfl h4⟩)
          have HV := Lib.hid (VV.ownsLt h5 rfl)
          have HB := Lib.hid hB
          have HX := Lib.hid (show MBox wr zm (.slice px us.length cx) (.slice py ms.length cy) f ∧ WrBox wr zr ⟨a, g, ph, b, t0⟩ (.slice pv vs.length cv) ∧ wr.ownsRow W.heap.size 27 1 (.slice px us.length cx) us.length (us.map (Value.int .u64)) ∧ wr.ownsRow W.heap.size 4 1 (.slice py ms.length cy) ms.length (ms.map Value.bool) ∧ wr.ownsRow W.heap.size 27 1 (.slice pv vs.length cv) vs.length (vs.map (Value.int .u64)) from ⟨h1, h2, h3, h4, h5⟩)
          have HR := Lib.hid hrg
          have HSB := Lib.hid hsb
          have HRR := Lib.hid (fun (Z : World) (hb : Below wr.heap.size wr Z) => refRight_c _ us ms f Z (HMEM.out.below hb) (by have := HR.out.2.1; omega))
          clear h1 h2 h3 h4 h5 hrg hsb hB
          cases hr : rightB us ms with
          | false =>
            have HST := Lib.hid (swrite_bad _ us ms f ⟨a, g, ph, b, t0⟩ pv vs.length cv wr HMEM.out (by have := HR.out.2.1; omega) hr)
            rw [hr] at HRR
            unfold wrV memZ at HST
            dsimp only at HST
            clear hr
            go_wp2_with fail
            refine HST.out.mono ?_
            rintro e w3 ⟨rfl, hb3⟩
            clear HST z0 z1 z2 r0 r1 r2 r3 r4 r5
            obtain ⟨z8, hz8⟩ : ∃ z, z = w3.heap.size := ⟨_, rfl⟩
            obtain ⟨w4, hw4⟩ : ∃ X : World, X = (((w3.alloc (.cells #[.slice none 0 0, .slice none 0 0, .bool false] 44)).alloc (.cells #[.int .i64 0, .int .i64 0, .slice none 0 0, .int .i64 0, .int .u64 0, .int .i64 0] 34)).alloc (.cells #[.slice none 0 0, .slice none 0 0, .bool false] 44)).alloc (.cells #[.int .i64 0, .int .i64 0, .slice none 0 0, .int .i64 0, .int .u64 0, .int .i64 0] 34) := ⟨_, rfl⟩
            have hb34 : Below w3.heap.size w3 w4 := by rw [hw4]; exact below4 w3 _ _ _ _
            have hb4 := hb3.trans (hb34.mono hb3.size)
            have HZ4 := Lib.hid (show MBox w4 z8 (.slice none 0 0) (.slice none 0 0) false ∧ WrBox w4 (z8 + 1) ⟨0, 0, 0, 0, 0⟩ (.slice none 0 0) ∧ MBox w4 (z8 + 2) (.slice none 0 0) (.slice none 0 0) false ∧ WrBox w4 (z8 + 3) ⟨0, 0, 0, 0, 0⟩ (.slice none 0 0) from by
              have e1 := World.alloc_heap_new (w3.alloc (.cells #[.slice none 0 0, .slice none 0 0, .bool false] 44)) (.cells #[.int .i64 0, .int .i64 0, .slice none 0 0, .int .i64 0, .int .u64 0, .int .i64 0] 34)
              have e2 := World.alloc_heap_new ((w3.alloc (.cells #[.slice none 0 0, .slice none 0 0, .bool false] 44)).alloc (.cells #[.int .i64 0, .int .i64 0, .slice none 0 0, .int .i64 0, .int .u64 0, .int .i64 0] 34)) (.cells #[.slice none 0 0, .slice none 0 0, .bool false] 44)
              have e3 := World.alloc_heap_new (((w3.alloc (.cells #[.slice none 0 0, .slice none 0 0, .bool false] 44)).alloc (.cells #[.int .i64 0, .int .i64 0, .slice none 0 0, .int .i64 0, .int .u64 0, .int .i64 0] 34)).alloc (.cells #[.slice none 0 0, .slice none 0 0, .bool false] 44)) (.cells #[.int .i64 0, .int .i64 0, .slice none 0 0, .int .i64 0, .int .u64 0, .int .i64 0] 34)
              simp only [World.size_alloc] at e1 e2 e3
              rw [hz8, hw4]
              refine ⟨(((MBox.new w3 _ _ _).alloc _).alloc _).alloc _, ?_, ?_, e3⟩
              · have h : WrBox _ (w3.heap.size + 1) ⟨0, 0, 0, 0, 0⟩ (.slice none 0 0) := e1
                exact (h.below (below1 _ _)).below (below1 _ _)
              · have h : MBox _ (w3.heap.size + 2) (.slice none 0 0) (.slice none 0 0) false := e2
                exact h.alloc _)
            have HX4 := Lib.hid (And.intro (HX.out.1.below hb4) (HX.out.2.1.below hb4))
            have HB4 := Lib.hid (below_then HB.out HB.out.size hb4)
            have HRR4 := Lib.hid (HRR.out w4 hb4)
            have HW4 := Lib.hid (And.intro hz8 hw4)
            clear hz8 hw4 hb3 hb34 hb4 HX HB HRR HMEM HV
            go_upto_region 13 with fail
            rw [← HW4.out.1, ← HW4.out.2]
            rw [show z8 + 1 + 1 + 1 = z8 + 3 from rfl, show z8 + 1 + 1 = z8 + 2 from rfl]
            clear HW4
            obtain ⟨⟨m0, m1, m2⟩, -⟩ := mbox_cells HX4.out.1
            go_wp2_with fail
            refine HRR4.out.mono ?_
            rintro e w5 ⟨rfl, hb5⟩
            have HZ5 := Lib.hid (And.intro (HZ4.out.1.below hb5) (And.intro (HZ4.out.2.1.below hb5) (And.intro (HZ4.out.2.2.1.below hb5) (HZ4.out.2.2.2.below hb5))))
            have HX5 := Lib.hid (HX4.out.2.below hb5)
            have HB5 := Lib.hid (below_then HB4.out HB4.out.size hb5)
            clear hb5 m0 m1 m2 HRR4 HZ4 HX4 HB4
            skip
            obtain ⟨⟨m0, m1, m2⟩, -⟩ := mbox_cells HZ5.out.1
            obtain ⟨⟨k0, k1, k2⟩, -⟩ := mbox_cells HZ5.out.2.2.1
            go_wp2_with fail
            refine (refSame_t _ _ [] [] false w5 ⟨_, _, rfl, ⟨none, 0, rfl, fun h => absurd rfl h⟩, ⟨none, 0, rfl, fun h => absurd rfl h⟩⟩ ⟨_, _, rfl, ⟨none, 0, rfl, fun h => absurd rfl h⟩, ⟨none, 0, rfl, fun h => absurd rfl h⟩⟩ (by decide) (by decide)).mono ?_
            rintro e w6 ⟨rfl, hb6⟩
            have HZ6 := Lib.hid (And.intro (HZ5.out.2.1.below hb6) (HZ5.out.2.2.2.below hb6))
            have HB6 := Lib.hid (below_then HB5.out HB5.out.size hb6)
            clear hb6 m0 m1 m2 k0 k1 k2 HZ5 HX5 HB5
            obtain ⟨s0, s1, s2, s3, s4, s5⟩ := HZ6.out.1.cells
            obtain ⟨t0', t1, t2, t3, t4, t5⟩ := HZ6.out.2.cells
            dsimp only at s0 s1 s3 s4 s5 t0' t1 t3 t4 t5
            have HSM := Lib.hid (esameWrite ⟨0, 0, 0, 0, 0⟩ (.slice none 0 0) (.slice none 0 0) [] w6 ⟨none, 0, rfl, fun h => absurd rfl h⟩ ⟨none, 0, rfl, fun h => absurd rfl h⟩ (by decide))
            unfold wrV at HSM
            dsimp only at HSM
            go_wp2_with fail
            refine HSM.out.mono ?_
            rintro e w7 ⟨rfl, hb7⟩
            have HB7 := Lib.hid (below_then HB6.out HB6.out.size hb7)
            clear hb7 HSM HZ6 HB6 s0 s1 s2 s3 s4 s5 t0' t1 t2 t3 t4 t5
            go_wp2
            go_ret
            exact ⟨rfl, HB7.out⟩
          | true =>
            cases hR : rightWB ⟨a, g, ph, b, t0⟩ vs.length with
            | false =>
              have HST := Lib.hid (swrite_no _ us ms f ⟨a, g, ph, b, t0⟩ pv vs.length cv wr HMEM.out hr hR HSB.out)
              have HRK := Lib.hid (fun Z : World => eRightWrite_c ⟨a, g, ph, b, t0⟩ pv vs.length cv HSB.out Z)
              rw [hR] at HRK
              unfold wrV at HRK
              dsimp only at HRK
              clear hR
              rw [hr] at HRR
              unfold wrV memZ at HST
              dsimp only at HST
              clear hr
              go_wp2_with fail
              refine HST.out.mono ?_
              rintro e w3 ⟨rfl, hb3⟩
              clear HST z0 z1 z2 r0 r1 r2 r3 r4 r5
              obtain ⟨z8, hz8⟩ : ∃ z, z = w3.heap.size := ⟨_, rfl⟩
              obtain ⟨w4, hw4⟩ : ∃ X : World, X = (((w3.alloc (.cells #[.slice none 0 0, .slice none 0 0, .bool false] 44)).alloc (.cells #[.int .i64 0, .int .i64 0, .slice none 0 0, .int .i64 0, .int .u64 0, .int .i64 0] 34)).alloc (.cells #[.slice none 0 0, .slice none 0 0, .bool false] 44)).alloc (.cells #[.int .i64 0, .int .i64 0, .slice none 0 0, .int .i64 0, .int .u64 0, .int .i64 0] 34) := ⟨_, rfl⟩
              have hb34 : Below w3.heap.size w3 w4 := by rw [hw4]; exact below4 w3 _ _ _ _
              have hb4 := hb3.trans (hb34.mono hb3.size)
              have HZ4 := Lib.hid (show MBox w4 z8 (.slice none 0 0) (.slice none 0 0) false ∧ WrBox w4 (z8 + 1) ⟨0, 0, 0, 0, 0⟩ (.slice none 0 0) ∧ MBox w4 (z8 + 2) (.slice none 0 0) (.slice none 0 0) false ∧ WrBox w4 (z8 + 3) ⟨0, 0, 0, 0, 0⟩ (.slice none 0 0) from by
                have e1 := World.alloc_heap_new (w3.alloc (.cells #[.slice none 0 0, .slice none 0 0, .bool false] 44)) (.cells #[.int .i64 0, .int .i64 0, .slice none 0 0, .int .i64 0, .int .u64 0, .int .i64 0] 34)
                have e2 := World.alloc_heap_new ((w3.alloc (.cells #[.slice none 0 0, .slice none 0 0, .bool false] 44)).alloc (.cells #[.int .i64 0, .int .i64 0, .slice none 0 0, .int .i64 0, .int .u64 0, .int .i64 0] 34)) (.cells #[.slice none 0 0, .slice none 0 0, .bool false] 44)
                have e3 := World.alloc_heap_new (((w3.alloc (.cells #[.slice none 0 0, .slice none 0 0, .bool false] 44)).alloc (.cells #[.int .i64 0, .int .i64 0, .slice none 0 0, .int .i64 0, .int .u64 0, .int .i64 0] 34)).alloc (.cells #[.slice none 0 0, .slice none 0 0, .bool false] 44)) (.cells #[.int .i64 0, .int .i64 0, .slice none 0 0, .int .i64 0, .int .u64 0, .int .i64 0] 34)
                simp only [World.size_alloc] at e1 e2 e3
                rw [hz8, hw4]
                refine ⟨(((MBox.new w3 _ _ _).alloc _).alloc _).alloc _, ?_, ?_, e3⟩
                · have h : WrBox _ (w3.heap.size + 1) ⟨0, 0, 0, 0, 0⟩ (.slice none 0 0) := e1
                  exact (h.below (below1 _ _)).below (below1 _ _)
                · have h : MBox _ (w3.heap.size + 2) (.slice none 0 0) (.slice none 0 0) false := e2
                  exact h.alloc _)
              have HX4 := Lib.hid (And.intro (HX.out.1.below hb4) (HX.out.2.1.below hb4))
              have HB4 := Lib.hid (below_then HB.out HB.out.size hb4)
              have HRR4 := Lib.hid (HRR.out w4 hb4)
              have HW4 := Lib.hid (And.intro hz8 hw4)
              clear hz8 hw4 hb3 hb34 hb4 HX HB HRR HMEM HV
              go_upto_region 13 with fail
              rw [← HW4.out.1, ← HW4.out.2]
              rw [show z8 + 1 + 1 + 1 = z8 + 3 from rfl, show z8 + 1 + 1 = z8 + 2 from rfl]
              clear HW4
              obtain ⟨⟨m0, m1, m2⟩, -⟩ := mbox_cells HX4.out.1
              go_wp2_with fail
              refine HRR4.out.mono ?_
              rintro e w5 ⟨rfl, hb5⟩
              have HZ5 := Lib.hid (And.intro (HZ4.out.1.below hb5) (And.intro (HZ4.out.2.1.below hb5) (And.intro (HZ4.out.2.2.1.below hb5) (HZ4.out.2.2.2.below hb5))))
              have HX5 := Lib.hid (HX4.out.2.below hb5)
              have HB5 := Lib.hid (below_then HB4.out HB4.out.size hb5)
              clear hb5 m0 m1 m2 HRR4 HZ4 HX4 HB4
              obtain ⟨r0, r1, r2, r3, r4, r5⟩ := HX5.out.cells
              dsimp only at r0 r1 r3 r4 r5
              go_wp2_with fail
              refine (HRK.out w5).mono ?_
              rintro e w5' ⟨rfl, hb6⟩
              have HZ5 := Lib.hid (And.intro (HZ5.out.1.below hb6) (And.intro (HZ5.out.2.1.below hb6) (And.intro (HZ5.out.2.2.1.below hb6) (HZ5.out.2.2.2.below hb6))))
              have HB5 := Lib.hid (below_then HB5.out HB5.out.size hb6)
              clear hb6 r0 r1 r2 r3 r4 r5 HRK
              obtain ⟨⟨m0, m1, m2⟩, -⟩ := mbox_cells HZ5.out.1
              obtain ⟨⟨k0, k1, k2⟩, -⟩ := mbox_cells HZ5.out.2.2.1
              go_wp2_with fail
              refine (refSame_t _ _ [] [] false w5' ⟨_, _, rfl, ⟨none, 0, rfl, fun h => absurd rfl h⟩, ⟨none, 0, rfl, fun h => absurd rfl h⟩⟩ ⟨_, _, rfl, ⟨none, 0, rfl, fun h => absurd rfl h⟩, ⟨none, 0, rfl, fun h => absurd rfl h⟩⟩ (by decide) (by decide)).mono ?_
              rintro e w6 ⟨rfl, hb6⟩
              have HZ6 := Lib.hid (And.intro (HZ5.out.2.1.below hb6) (HZ5.out.2.2.2.below hb6))
              have HB6 := Lib.hid (below_then HB5.out HB5.out.size hb6)
              clear hb6 m0 m1 m2 k0 k1 k2 HZ5 HX5 HB5
              obtain ⟨s0, s1, s2, s3, s4, s5⟩ := HZ6.out.1.cells
              obtain ⟨t0', t1, t2, t3, t4, t5⟩ := HZ6.out.2.cells
              dsimp only at s0 s1 s3 s4 s5 t0' t1 t3 t4 t5
              have HSM := Lib.hid (esameWrite ⟨0, 0, 0, 0, 0⟩ (.slice none 0 0) (.slice none 0 0) [] w6 ⟨none, 0, rfl, fun h => absurd rfl h⟩ ⟨none, 0, rfl, fun h => absurd rfl h⟩ (by decide))
              unfold wrV at HSM
              dsimp only at HSM
              go_wp2_with fail
              refine HSM.out.mono ?_
              rintro e w7 ⟨rfl, hb7⟩
              have HB7 := Lib.hid (below_then HB6.out HB6.out.size hb7)
              clear hb7 HSM HZ6 HB6 s0 s1 s2 s3 s4 s5 t0' t1 t2 t3 t4 t5
              go_wp2
              go_ret
              exact ⟨rfl, HB7.out⟩
            | true =>
              have HU2 := Lib.hid (show (stepW ms us f ⟨a, g, ph, b, t0⟩ vs).1.1.length ≤ 48 ∧ WRange (stepW ms us f ⟨a, g, ph, b, t0⟩ vs).1.1 from ⟨by rw [stepW_words]; exact HR.out.2.1, (stepW_mem hr HR.out.1 HR.out.2.2.2.2).2⟩)
              have HSH := Lib.hid (stepW_b ms us f ⟨a, g, ph, b, t0⟩ vs HR.out.1 HSB.out)
              have HST := Lib.hid (swrite2_c _ us ms f ⟨a, g, ph, b, t0⟩ pv cv vs wr HMEM.out hr HR.out.1 HV.out hR HSB.out)
              have HRK := Lib.hid (fun Z : World => eRightWrite_c ⟨a, g, ph, b, t0⟩ pv vs.length cv HSB.out Z)
              rw [hR] at HRK
              have HES := Lib.hid (fun (B : Nat) (x y : Value) (q : Option Addr) (c : Nat) (Z : World) (k0 : Z.ownsRow B 27 1 x us.length (us.map (Value.int .u64))) (k1 : Z.ownsRow B 4 1 y ms.length (ms.map Value.bool)) (hB : B ≤ Z.heap.size) (k2 : Z.ownsRow B 27 1 (.slice q vs.length c) vs.length (vs.map (Value.int .u64))) => estepW_c B x y us ms f ⟨a, g, ph, b, t0⟩ q c vs Z k0 k1 hB hr HR.out.1 k2 hR HSB.out)
              rw [hr] at HRR
              obtain ⟨⟨⟨us2, f2⟩, ⟨a2, g2, ph2, b2, t2⟩⟩, hfin⟩ : ∃ x, x = stepW ms us f ⟨a, g, ph, b, t0⟩ vs := ⟨_, rfl⟩
              rw [← hfin] at HU2 HSH HST
              simp only [← hfin] at HES
              dsimp only at HU2 HSH HST
              unfold wrV at HST HRK HES
              dsimp only at HST HRK HES
              clear hr hR hfin HMEM HV
              go_wp2_with fail
              refine HST.out.mono ?_
              rintro e w3 ⟨⟨gw, cw, gl, cl, p3, c3, rfl, ho1, ho2, ho3, hgt⟩, hb3⟩
              dsimp only at ho1 ho2 ho3 hgt ⊢
              unfold wrV
              dsimp only
              clear HST z0 z1 z2 r0 r1 r2 r3 r4 r5
              obtain ⟨z8, hz8⟩ : ∃ z, z = w3.heap.size := ⟨_, rfl⟩
              obtain ⟨w4, hw4⟩ : ∃ X : World, X = (((w3.alloc (.cells #[.slice (some ⟨gw, 0, none⟩) us2.length cw, .slice (some ⟨gl, 0, none⟩) ms.length cl, .bool f2] 44)).alloc (.cells #[.int .i64 a2, .int .i64 g2, .slice p3 vs.length c3, .int .i64 ph2, .int .u64 b2, .int .i64 t2] 34)).alloc (.cells #[.slice none 0 0, .slice none 0 0, .bool false] 44)).alloc (.cells #[.int .i64 0, .int .i64 0, .slice none 0 0, .int .i64 0, .int .u64 0, .int .i64 0] 34) := ⟨_, rfl⟩
              have hb34 : Below w3.heap.size w3 w4 := by rw [hw4]; exact below4 w3 _ _ _ _
              have hb4 := hb3.trans (hb34.mono hb3.size)
              have HN4 := Lib.hid (show MBox w4 z8 (.slice (some ⟨gw, 0, none⟩) us2.length cw) (.slice (some ⟨gl, 0, none⟩) ms.length cl) f2 ∧ WrBox w4 (z8 + 1) ⟨a2, g2, ph2, b2, t2⟩ (.slice p3 vs.length c3) ∧ MBox w4 (z8 + 2) (.slice none 0 0) (.slice none 0 0) false ∧ WrBox w4 (z8 + 3) ⟨0, 0, 0, 0, 0⟩ (.slice none 0 0) from by
                have e1 := World.alloc_heap_new (w3.alloc (.cells #[.slice (some ⟨gw, 0, none⟩) us2.length cw, .slice (some ⟨gl, 0, none⟩) ms.length cl, .bool f2] 44)) (.cells #[.int .i64 a2, .int .i64 g2, .slice p3 vs.length c3, .int .i64 ph2, .int .u64 b2, .int .i64 t2] 34)
                have e2 := World.alloc_heap_new ((w3.alloc (.cells #[.slice (some ⟨gw, 0, none⟩) us2.length cw, .slice (some ⟨gl, 0, none⟩) ms.length cl, .bool f2] 44)).alloc (.cells #[.int .i64 a2, .int .i64 g2, .slice p3 vs.length c3, .int .i64 ph2, .int .u64 b2, .int .i64 t2] 34)) (.cells #[.slice none 0 0, .slice none 0 0, .bool false] 44)
                have e3 := World.alloc_heap_new (((w3.alloc (.cells #[.slice (some ⟨gw, 0, none⟩) us2.length cw, .slice (some ⟨gl, 0, none⟩) ms.length cl, .bool f2] 44)).alloc (.cells #[.int .i64 a2, .int .i64 g2, .slice p3 vs.length c3, .int .i64 ph2, .int .u64 b2, .int .i64 t2] 34)).alloc (.cells #[.slice none 0 0, .slice none 0 0, .bool false] 44)) (.cells #[.int .i64 0, .int .i64 0, .slice none 0 0, .int .i64 0, .int .u64 0, .int .i64 0] 34)
                simp only [World.size_alloc] at e1 e2 e3
                rw [hz8, hw4]
                refine ⟨(((MBox.new w3 _ _ _).alloc _).alloc _).alloc _, ?_, ?_, e3⟩
                · have h : WrBox _ (w3.heap.size + 1) ⟨a2, g2, ph2, b2, t2⟩ (.slice p3 vs.length c3) := e1
                  exact (h.below (below1 _ _)).below (below1 _ _)
                · have h : MBox _ (w3.heap.size + 2) (.slice none 0 0) (.slice none 0 0) false := e2
                  exact h.alloc _)
              have HO4 := Lib.hid (And.intro ((owns_below ho1 hb34).mono HB.out.size) (And.intro ((owns_below ho2 hb34).mono HB.out.size) ((owns_below ho3 hb34).mono HB.out.size)))
              have HGT := Lib.hid hgt
              have HX4 := Lib.hid (And.intro (HX.out.1.below hb4) (And.intro (HX.out.2.1.below hb4) (And.intro (owns_below HX.out.2.2.1 hb4) (And.intro (owns_below HX.out.2.2.2.1 hb4) (owns_below HX.out.2.2.2.2 hb4)))))
              have HB4 := Lib.hid (below_then HB.out HB.out.size hb4)
              have HNE := Lib.hid (show zm < z8 ∧ zr < z8 from by have e1 := HX.out.1.lt; have e2 := HX.out.2.1.lt; have e3 := hb3.size; omega)
              have HRR4 := Lib.hid (HRR.out w4 hb4)
              have HW4 := Lib.hid (And.intro hz8 hw4)
              clear hz8 hw4 hb3 hb34 hb4 ho1 ho2 ho3 hgt HX HB HRR
              go_upto_region 13 with fail
              rw [← HW4.out.1, ← HW4.out.2]
              rw [show z8 + 1 + 1 + 1 = z8 + 3 from rfl, show z8 + 1 + 1 = z8 + 2 from rfl]
              clear HW4
              obtain ⟨⟨m0, m1, m2'⟩, -⟩ := mbox_cells HX4.out.1
              go_wp2_with fail
              refine HRR4.out.mono ?_
              rintro e w5 ⟨rfl, hb5⟩
              have HB45 := Lib.hid hb5
              clear hb5 m0 m1 m2' HRR4
              obtain ⟨r0, r1, r2, r3, r4, r5⟩ := (HX4.out.2.1.below HB45.out).cells
              dsimp only at r0 r1 r3 r4 r5
              go_wp2_with fail
              refine (HRK.out w5).mono ?_
              rintro e w6 ⟨rfl, hb6⟩
              have hb := below_then HB45.out HB45.out.size hb6
              have HN6 := Lib.hid (And.intro (HN4.out.1.below hb) (And.intro (HN4.out.2.1.below hb) (And.intro (HN4.out.2.2.1.below hb) (HN4.out.2.2.2.below hb))))
              have HO6 := Lib.hid (And.intro (owns_below HO4.out.1 hb) (And.intro (owns_below HO4.out.2.1 hb) (owns_below HO4.out.2.2 hb)))
              have HX6 := Lib.hid (And.intro (HX4.out.1.below hb) (And.intro (HX4.out.2.1.below hb) (And.intro (owns_below HX4.out.2.2.1 hb) (And.intro (owns_below HX4.out.2.2.2.1 hb) (owns_below HX4.out.2.2.2.2 hb)))))
              have HB6 := Lib.hid (below_then HB4.out HB4.out.size hb)
              clear hb hb6 HB45 HRK HN4 HO4 HX4 HB4 r0 r1 r2 r3 r4 r5
              go_upto_region 16 with fail
              refine wpTwo_begin (T := fun w' => MBox w' zm (.slice px us.length cx) (.slice py ms.length cy) f ∧ WrBox w' zr ⟨a, g, ph, b, t0⟩ (.slice pv vs.length cv)) (S := fun _ => True) (late := fun _ => false) (by kernel_rfl) ?_
              obtain ⟨X0, hX0⟩ : ∃ X : World, X = w6.drew := ⟨_, rfl⟩
              rw [← hX0]
              have hb : Below w6.heap.size w6 X0 := by rw [hX0]; exact (Below.refl _ _).drew
              have hT0 := And.intro (HX6.out.1.below hb) (HX6.out.2.1.below hb)
              have HV0 := Lib.hid (And.intro (owns_below HX6.out.2.2.1 hb) (And.intro (owns_below HX6.out.2.2.2.1 hb) (owns_below HX6.out.2.2.2.2 hb)))
              have HN0 := Lib.hid (And.intro (HN6.out.1.below hb) (And.intro (HN6.out.2.1.below hb) (And.intro (HN6.out.2.2.1.below hb) (HN6.out.2.2.2.below hb))))
              have HO0 := Lib.hid (And.intro (owns_below HO6.out.1 hb) (And.intro (owns_below HO6.out.2.1 hb) (owns_below HO6.out.2.2 hb)))
              have HB0 := Lib.hid (below_then HB6.out HB6.out.size hb)
              obtain ⟨B16, hB16⟩ : ∃ B, B = X0.heap.size := ⟨_, rfl⟩
              have HLT := Lib.hid (show ∀ g, (Value.slice p3 vs.length c3).ownBlock = some g → g < B16 from fun g hg => by rw [hB16]; exact (HO0.out.2.2.lt g hg).2)
              clear hX0 hb HX6 HN6 HO6 HB6
              refine wpTwo_takeT (i := 0) (v := .agg #[.slice px us.length cx, .slice py ms.length cy, .bool f]) rfl (by kernel_rfl) (by kernel_rfl) (by kernel_rfl) (fun _ _ _ h => h) ⟨by rfl, ?_⟩ hT0 ?_
              · rintro w hTw
                obtain ⟨⟨t1', t2', t3'⟩, _⟩ := mbox_cells hTw.1
                go_simp
              (try simp only [Act.put, List.getElem_toArray, List.getElem_cons_zero, List.setIfInBounds_toArray, List.set_cons_succ, List.set_cons_zero])
              refine wpTwo_takeT (i := 2) (v := .agg #[.int .i64 a, .int .i64 g, .slice pv vs.length cv, .int .i64 ph, .int .u64 b, .int .i64 t0]) rfl (by kernel_rfl) (by kernel_rfl) (by kernel_rfl) (fun _ _ _ h => h) ⟨by rfl, ?_⟩ hT0 ?_
              · rintro w hTw
                obtain ⟨t1', t2', t3', t4', t5', t6'⟩ := hTw.2.cells
                go_simp
              (try simp only [Act.put, List.getElem_toArray, List.getElem_cons_succ, List.getElem_cons_zero, List.setIfInBounds_toArray, List.set_cons_succ, List.set_cons_zero])
              refine wpTwo_ready (rs := [1]) (by kernel_rfl) (by simp) ?_
              refine (AllTwo.cons rfl (fun K hK => ?_) AllTwo.nil)
              go_simp
              refine (own_self (.slice px us.length cx) (.slice py ms.length cy) f us ms _ _ X0 HV0.out.1 HV0.out.2.1 HR.out.2.1 HR.out.2.2.2.1).mono ?_
              rintro e X1 ⟨⟨_, rfl, vx, vy, rfl, hx1, hy1⟩, hb⟩
              have hT1 := And.intro (hT0.1.below hb) (hT0.2.below hb)
              have HV1 := Lib.hid (owns_below HV0.out.2.2 hb)
              have HN1 := Lib.hid (And.intro (HN0.out.1.below hb) (And.intro (HN0.out.2.1.below hb) (And.intro (HN0.out.2.2.1.below hb) (HN0.out.2.2.2.below hb))))
              have HO1 := Lib.hid (And.intro (owns_below HO0.out.1 hb) (And.intro (owns_below HO0.out.2.1 hb) (owns_below HO0.out.2.2 hb)))
              rw [← hB16] at hx1 hy1
              have HP1 := Lib.hid (And.intro hx1 hy1)
              have HS1 := Lib.hid (show B16 ≤ X1.heap.size from by rw [hB16]; exact hb.size)
              have HB1 := Lib.hid (below_then HB0.out HB0.out.size hb)
              clear hb hx1 hy1 HV0 HN0 HO0 HB0
              go_wp2_with fail
              refine hK.out _ _ ⟨hT1, fun _ _ => trivial⟩ ?_
              clear hK K hT0
              (try simp only [Act.put, List.getElem_toArray, List.getElem_cons_succ, List.getElem_cons_zero, List.setIfInBounds_toArray, List.set_cons_succ, List.set_cons_zero])
              refine wpTwo_ready (rs := [3]) (by kernel_rfl) (by simp) ?_
              refine (AllTwo.cons rfl (fun K hK => ?_) AllTwo.nil)
              go_simp
              refine (ownWrite_self ⟨a, g, ph, b, t0⟩ (.slice pv vs.length cv) vs _ X1 HV1.out HR.out.2.2.1).mono ?_
              rintro e X2 ⟨⟨q7, c7, rfl, hv7⟩, hb⟩
              unfold wrV
              dsimp only
              have hT2 := And.intro (hT1.1.below hb) (hT1.2.below hb)
              have HN2 := Lib.hid (And.intro (HN1.out.1.below hb) (And.intro (HN1.out.2.1.below hb) (And.intro (HN1.out.2.2.1.below hb) (HN1.out.2.2.2.below hb))))
              have HO2 := Lib.hid (And.intro (owns_below HO1.out.1 hb) (And.intro (owns_below HO1.out.2.1 hb) (owns_below HO1.out.2.2 hb)))
              have HP2 := Lib.hid (And.intro (owns_below HP1.out.1 hb) (And.intro (owns_below HP1.out.2 hb) (hv7.mono HS1.out)))
              have HS2' := Lib.hid (show B16 ≤ X2.heap.size from Nat.le_trans HS1.out hb.size)
              have HB2 := Lib.hid (below_then HB1.out HB1.out.size hb)
              clear hb hv7 HV1 HN1 HO1 HP1 HS1 HB1
              go_wp2_with fail
              refine hK.out _ _ ⟨hT2, fun _ _ => trivial⟩ ?_
              clear hK K hT1
              (try simp only [Act.put, List.getElem_toArray, List.getElem_cons_succ, List.getElem_cons_zero, List.setIfInBounds_toArray, List.set_cons_succ, List.set_cons_zero])
              refine wpTwo_ready (rs := [4]) (by kernel_rfl) (by simp) ?_
              refine (AllTwo.cons rfl (fun K hK => ?_) AllTwo.nil)
              go_simp
              refine (HES.out B16 vx vy q7 c7 X2 HP2.out.1 HP2.out.2.1 HS2'.out HP2.out.2.2).mono ?_
              rintro e X3 ⟨⟨px7, cx7, py7, cy7, p9, c9, rfl, hx9, hy9, hv9⟩, hb⟩
              unfold wrV
              dsimp only at hx9 hy9 hv9 ⊢
              have hT3 := And.intro (hT2.1.below hb) (hT2.2.below hb)
              have HN3 := Lib.hid (And.intro (HN2.out.1.below hb) (And.intro (HN2.out.2.1.below hb) (And.intro (HN2.out.2.2.1.below hb) (HN2.out.2.2.2.below hb))))
              have HO3 := Lib.hid (And.intro (owns_below HO2.out.1 hb) (And.intro (owns_below HO2.out.2.1 hb) (owns_below HO2.out.2.2 hb)))
              have HP3 := Lib.hid (And.intro hx9 (And.intro hy9 hv9))
              have HB3 := Lib.hid (below_then HB2.out HB2.out.size hb)
              clear hb hx9 hy9 hv9 HN2 HO2 HP2 HS2' HB2
              go_wp2_with fail
              refine hK.out _ _ ⟨hT3, fun _ _ => trivial⟩ ?_
              clear hK K hT2
              (try simp only [Act.put, List.getElem_toArray, List.getElem_cons_succ, List.getElem_cons_zero, List.setIfInBounds_toArray, List.set_cons_succ, List.set_cons_zero])
              refine wpTwo_takeT (i := 5) (v := .tuple #[.agg #[.slice px7 us2.length cx7, .slice py7 ms.length cy7, .bool f2], .agg #[.int .i64 a2, .int .i64 g2, .slice p9 vs.length c9, .int .i64 ph2, .int .u64 b2, .int .i64 t2]]) rfl (by kernel_rfl) (by kernel_rfl) (by kernel_rfl) (fun _ _ _ h => h) ⟨by rfl, ?_⟩ hT3 ?_
              · rintro w hTw
                go_simp
              (try simp only [Act.put, List.getElem_toArray, List.getElem_cons_succ, List.getElem_cons_zero, List.setIfInBounds_toArray, List.set_cons_succ, List.set_cons_zero])
              refine wpTwo_takeT (i := 6) (v := .agg #[.slice px7 us2.length cx7, .slice py7 ms.length cy7, .bool f2]) rfl (by kernel_rfl) (by kernel_rfl) (by kernel_rfl) (fun _ _ _ h => h) ⟨by rfl, ?_⟩ hT3 ?_
              · rintro w hTw
                go_simp
              (try simp only [Act.put, List.getElem_toArray, List.getElem_cons_succ, List.getElem_cons_zero, List.setIfInBounds_toArray, List.set_cons_succ, List.set_cons_zero])
              refine wpTwo_takeT (i := 7) (v := .agg #[.int .i64 a2, .int .i64 g2, .slice p9 vs.length c9, .int .i64 ph2, .int .u64 b2, .int .i64 t2]) rfl (by kernel_rfl) (by kernel_rfl) (by kernel_rfl) (fun _ _ _ h => h) ⟨by rfl, ?_⟩ hT3 ?_
              · rintro w hTw
                go_simp
              (try simp only [Act.put, List.getElem_toArray, List.getElem_cons_succ, List.getElem_cons_zero, List.setIfInBounds_toArray, List.set_cons_succ, List.set_cons_zero])
              refine wpTwo_ready (rs := [8]) (by kernel_rfl) (by simp) ?_
              refine (AllTwo.cons rfl (fun K hK => ?_) AllTwo.nil)
              obtain ⟨⟨d0, d1, d2⟩, e0, e1, e2⟩ := mbox_cells HN3.out.2.2.1
              have hne := HNE.out
              obtain ⟨Xa, hXa⟩ : ∃ X : World, X = ((X3.setCell ⟨z8 + 2, 0, none⟩ (.slice px7 us2.length cx7)).setCell ⟨z8 + 2, 1, none⟩ (.slice py7 ms.length cy7)).setCell ⟨z8 + 2, 2, none⟩ (.bool f2) := ⟨_, rfl⟩
              have hka : Keeps (fun q => q = z8 + 2) X3 Xa := by rw [hXa]; exact ((kset X3 (z8 + 2) 0 _).trans (kset _ (z8 + 2) 1 _)).trans (kset _ (z8 + 2) 2 _)
              have hTa := And.intro (hT3.1.keeps hka (by omega)) (show WrBox Xa zr ⟨a, g, ph, b, t0⟩ (.slice pv vs.length cv) from (hka.block zr hT3.2.lt (by omega)).trans hT3.2)
              have HNa := Lib.hid (show MBox Xa z8 (.slice (some ⟨gw, 0, none⟩) us2.length cw) (.slice (some ⟨gl, 0, none⟩) ms.length cl) f2 ∧ WrBox Xa (z8 + 1) ⟨a2, g2, ph2, b2, t2⟩ (.slice p3 vs.length c3) ∧ MBox Xa (z8 + 2) (.slice px7 us2.length cx7) (.slice py7 ms.length cy7) f2 ∧ WrBox Xa (z8 + 3) ⟨0, 0, 0, 0, 0⟩ (.slice none 0 0) from
                ⟨HN3.out.1.keeps hka (by omega), (hka.block (z8 + 1) HN3.out.2.1.lt (by omega)).trans HN3.out.2.1, by rw [hXa]; exact HN3.out.2.2.1.set _ _ _, (hka.block (z8 + 3) HN3.out.2.2.2.lt (by omega)).trans HN3.out.2.2.2⟩)
              have HOa := Lib.hid (And.intro (hka.row HO3.out.1 (fun g hg e => HN3.out.2.2.1.row HO3.out.1 (by decide) hg e.symm)) (And.intro (hka.row HO3.out.2.1 (fun g hg e => HN3.out.2.2.1.row HO3.out.2.1 (by decide) hg e.symm)) (hka.row HO3.out.2.2 (fun g hg e => HN3.out.2.2.1.row HO3.out.2.2 (by decide) hg e.symm))))
              have HPa := Lib.hid (And.intro (hka.row HP3.out.1 (fun g hg e => HN3.out.2.2.1.row HP3.out.1 (by decide) hg e.symm)) (And.intro (hka.row HP3.out.2.1 (fun g hg e => HN3.out.2.2.1.row HP3.out.2.1 (by decide) hg e.symm)) (hka.row HP3.out.2.2 (fun g hg e => HN3.out.2.2.1.row HP3.out.2.2 (by decide) hg e.symm))))
              have HBa := Lib.hid (HB3.out.trans (hka.below HB3.out.size (fun q hq => by have := HZ.out; omega)))
              go_simp
              rw [← hXa]
              refine hK.out _ _ ⟨hTa, fun _ _ => trivial⟩ ?_
              clear hK K d0 d1 d2 e0 e1 e2 hXa hka hT3 HN3 HO3 HP3 HB3 hne
              (try simp only [Act.put, List.getElem_toArray, List.getElem_cons_succ, List.getElem_cons_zero, List.setIfInBounds_toArray, List.set_cons_succ, List.set_cons_zero])
              refine wpTwo_ready (rs := [9]) (by kernel_rfl) (by simp) ?_
              refine (AllTwo.cons rfl (fun K hK => ?_) AllTwo.nil)
              obtain ⟨d0, d1, d2, d3, d4, d5⟩ := HNa.out.2.2.2.cells
              dsimp only at d0 d1 d3 d4 d5
              have v0 := HNa.out.2.2.2.marks 0
              have v1 := HNa.out.2.2.2.marks 1
              have v2 := HNa.out.2.2.2.marks 2
              have v3 := HNa.out.2.2.2.marks 3
              have v4 := HNa.out.2.2.2.marks 4
              have v5 := HNa.out.2.2.2.marks 5
              have hne := HNE.out
              obtain ⟨Xb, hXb⟩ : ∃ X : World, X = (((((Xa.setCell ⟨z8 + 3, 0, none⟩ (.int .i64 a2)).setCell ⟨z8 + 3, 1, none⟩ (.int .i64 g2)).setCell ⟨z8 + 3, 2, none⟩ (.slice p9 vs.length c9)).setCell ⟨z8 + 3, 3, none⟩ (.int .i64 ph2)).setCell ⟨z8 + 3, 4, none⟩ (.int .u64 b2)).setCell ⟨z8 + 3, 5, none⟩ (.int .i64 t2) := ⟨_, rfl⟩
              have hkb : Keeps (fun q => q = z8 + 3) Xa Xb := by rw [hXb]; exact WrBox.putK Xa (z8 + 3) ⟨a2, g2, ph2, b2, t2⟩ (.slice p9 vs.length c9)
              have hTb := And.intro (hTa.1.keeps hkb (by omega)) (show WrBox Xb zr ⟨a, g, ph, b, t0⟩ (.slice pv vs.length cv) from (hkb.block zr hTa.2.lt (by omega)).trans hTa.2)
              have HNb := Lib.hid (show MBox Xb z8 (.slice (some ⟨gw, 0, none⟩) us2.length cw) (.slice (some ⟨gl, 0, none⟩) ms.length cl) f2 ∧ WrBox Xb (z8 + 1) ⟨a2, g2, ph2, b2, t2⟩ (.slice p3 vs.length c3) ∧ MBox Xb (z8 + 2) (.slice px7 us2.length cx7) (.slice py7 ms.length cy7) f2 ∧ WrBox Xb (z8 + 3) ⟨a2, g2, ph2, b2, t2⟩ (.slice p9 vs.length c9) from
                ⟨HNa.out.1.keeps hkb (by omega), (hkb.block (z8 + 1) HNa.out.2.1.lt (by omega)).trans HNa.out.2.1, HNa.out.2.2.1.keeps hkb (by omega), by rw [hXb]; exact HNa.out.2.2.2.put ⟨a2, g2, ph2, b2, t2⟩ (.slice p9 vs.length c9)⟩)
              have HOb := Lib.hid (And.intro (hkb.row HOa.out.1 (fun g hg e => WrBox.row' HNa.out.2.2.2 HOa.out.1 (by decide) hg e.symm)) (And.intro (hkb.row HOa.out.2.1 (fun g hg e => WrBox.row' HNa.out.2.2.2 HOa.out.2.1 (by decide) hg e.symm)) (hkb.row HOa.out.2.2 (fun g hg e => WrBox.row' HNa.out.2.2.2 HOa.out.2.2 (by decide) hg e.symm))))
              have HPb := Lib.hid (And.intro (hkb.row HPa.out.1 (fun g hg e => WrBox.row' HNa.out.2.2.2 HPa.out.1 (by decide) hg e.symm)) (And.intro (hkb.row HPa.out.2.1 (fun g hg e => WrBox.row' HNa.out.2.2.2 HPa.out.2.1 (by decide) hg e.symm)) (hkb.row HPa.out.2.2 (fun g hg e => WrBox.row' HNa.out.2.2.2 HPa.out.2.2 (by decide) hg e.symm))))
              have HBb := Lib.hid (HBa.out.trans (hkb.below HBa.out.size (fun q hq => by have := HZ.out; omega)))
              have HVb := Lib.hid hTb
              go_simp
              rw [← hXb]
              refine hK.out _ _ ⟨hTb, fun _ _ => trivial⟩ ?_
              clear hK K d0 d1 d2 d3 d4 d5 v0 v1 v2 v3 v4 v5 hXb hkb hTa hTb HNa HOa HPa HBa hne hB16 HES
              (try simp only [Act.put, List.getElem_toArray, List.getElem_cons_succ, List.getElem_cons_zero, List.setIfInBounds_toArray, List.set_cons_succ, List.set_cons_zero])
              refine wpTwo_end (by kernel_rfl) ?_ _
              obtain ⟨⟨k0, k1, k2⟩, -⟩ := mbox_cells HNb.out.1
              obtain ⟨⟨l0, l1, l2⟩, -⟩ := mbox_cells HNb.out.2.2.1
              have HSM := Lib.hid (refSame_t (.agg #[.slice (some ⟨gw, 0, none⟩) us2.length cw, .slice (some ⟨gl, 0, none⟩) ms.length cl, .bool f2]) (.agg #[.slice px7 us2.length cx7, .slice py7 ms.length cy7, .bool f2]) us2 ms f2 Xb ⟨_, _, rfl, nums_of_owns rfl HOb.out.1, bools_of_owns rfl HOb.out.2.1⟩ ⟨_, _, rfl, nums_of_owns rfl HPb.out.1, bools_of_owns rfl HPb.out.2.1⟩ (by have := HU2.out.1; omega) (by have := HR.out.2.2.2.1; omega))
              go_wp2_with fail
              refine HSM.out.mono ?_
              rintro e w7 ⟨rfl, hb7⟩
              have HB7 := Lib.hid hb7
              clear hb7 HSM k0 k1 k2 l0 l1 l2
              obtain ⟨s0, s1, s2, s3, s4, s5⟩ := (HNb.out.2.1.below HB7.out).cells
              obtain ⟨j0, j1, j2, j3, j4, j5⟩ := (HNb.out.2.2.2.below HB7.out).cells
              dsimp only at s0 s1 s3 s4 s5 j0 j1 j3 j4 j5
              have HSR := Lib.hid (esameWrite ⟨a2, g2, ph2, b2, t2⟩ (.slice p3 vs.length c3) (.slice p9 vs.length c9) vs w7 (nums_of_owns rfl (owns_below HOb.out.2.2 HB7.out)) (nums_of_owns rfl (owns_below HPb.out.2.2 HB7.out)) (by have := HR.out.2.2.1; omega))
              unfold wrV at HSR
              dsimp only at HSR
              go_wp2_with fail
              refine HSR.out.mono ?_
              rintro e w8 ⟨rfl, hb8⟩
              have hb := below_then HB7.out HB7.out.size hb8
              have HN8 := Lib.hid (And.intro (HNb.out.1.below hb) (And.intro (HNb.out.2.1.below hb) (HNb.out.2.2.2.below hb)))
              have HO8 := Lib.hid (And.intro (owns_below HOb.out.1 hb) (And.intro (owns_below HOb.out.2.1 hb) (owns_below HOb.out.2.2 hb)))
              have HP8 := Lib.hid (owns_below HPb.out.2.2 hb)
              have HV8 := Lib.hid (And.intro (HVb.out.1.below hb) (HVb.out.2.below hb))
              have HB8 := Lib.hid (below_then HBb.out HBb.out.size hb)
              clear hb hb8 HB7 HSR s0 s1 s2 s3 s4 s5 j0 j1 j2 j3 j4 j5 HNb HOb HPb HVb HBb
              obtain ⟨s0, s1, s2, s3, s4, s5⟩ := HN8.out.2.1.cells
              dsimp only at s0 s1 s3 s4 s5
              have hl18 : vs.length ≤ 18 := HR.out.2.2.1
              go_wp2
              go_loopw [77] (fun jv w => ∃ (j : Nat) (xs : List Int), j ≤ vs.length ∧ jv = .int .i64 (j : Int) ∧ xs.length = vs.length ∧ Hid (WrBox w (z8 + 1) ⟨a2, g2, ph2, b2, t2⟩ (.slice p3 vs.length c3) ∧ w.ownsRow W.heap.size 27 1 (.slice p3 vs.length c3) vs.length (xs.map (Value.int .u64)) ∧ Keeps (fun q => (Value.slice p3 vs.length c3).ownBlock = some q) w8 w)) (fun jv _ => vs.length - (pIntOf jv).toNat)
              case atStart => exact ⟨0, vs, Nat.zero_le _, rfl, rfl, Lib.hid ⟨HN8.out.2.1, HO8.out.2.2, Keeps.refl _ _⟩⟩
              case round =>
                clear s0 s1 s2 s3 s4 s5
                obtain ⟨j, xs, hj, rfl, hxl, HI⟩ := hrel
                by_cases hjlt : j < vs.length
                · obtain ⟨g3, cap3, e3, -, -⟩ := own_form HI.out.2.1 (by omega)
                  injection e3 with e3 _ e4
                  subst e3
                  obtain ⟨s0, s1, s2, s3, s4, s5⟩ := HI.out.1.cells
                  dsimp only at s0 s1 s3 s4 s5
                  have hw1 := HI.out.2.1.cellAt j (by omega)
                  have hwf := HI.out.2.1.frozenAt j
                  have hwi : j < (xs.map (Value.int .u64)).length := by rw [List.length_map, hxl]; exact hjlt
                  rw [List.getElem?_eq_getElem hwi, List.getElem_map] at hw1
                  obtain ⟨y, hy⟩ : ∃ y, y = xs[j]'(by rw [hxl]; exact hjlt) := ⟨_, rfl⟩
                  rw [← hy] at hw1
                  have HSX := Lib.hid (show ∀ t : Int, WrBox (wr.setCell ⟨g3, j, none⟩ (.int .u64 t)) (z8 + 1) ⟨a2, g2, ph2, b2, t2⟩ (.slice (some ⟨g3, 0, none⟩) vs.length c3) ∧ (wr.setCell ⟨g3, j, none⟩ (.int .u64 t)).ownsRow W.heap.size 27 1 (.slice (some ⟨g3, 0, none⟩) vs.length c3) vs.length ((xs.set j t).map (Value.int .u64)) ∧ Keeps (fun q => (Value.slice (some ⟨g3, 0, none⟩) vs.length c3).ownBlock = some q) w8 (wr.setCell ⟨g3, j, none⟩ (.int .u64 t)) from fun t => by
                    have hs := (HI.out.2.1.stored j (.int .u64 t)).1
                    rw [← List.map_set] at hs
                    have hzg : ¬ (z8 + 1 = g3) := fun e => WrBox.row' HI.out.1 HI.out.2.1 (by decide) rfl e
                    exact ⟨((kset wr g3 j _).block (z8 + 1) HI.out.1.lt hzg).trans HI.out.1, hs, HI.out.2.2.trans (Keeps.setCell wr (S := fun q => (Value.slice (some ⟨g3, 0, none⟩) vs.length c3).ownBlock = some q) (p := ⟨g3, j, none⟩) rfl _)⟩)
                  have HUL := Lib.hid (show ∀ t : Int, (xs.set j t).length = vs.length from fun t => by simp [hxl])
                  have hjlt' : (j : Int) < (vs.length : Int) := by omega
                  clear hwi hy hxl e4
                  go_wp2
                  go_roundw
                  case rel => exact ⟨j + 1, _, by omega, by go_num, HUL.out _, Lib.hid (HSX.out _)⟩
                  case measure => simp [pIntOf]; omega
                · have hk := HI.out.2.2
                  have HN9 := Lib.hid (show MBox wr z8 (.slice (some ⟨gw, 0, none⟩) us2.length cw) (.slice (some ⟨gl, 0, none⟩) ms.length cl) f2 ∧ WrBox wr (z8 + 3) ⟨a2, g2, ph2, b2, t2⟩ (.slice p9 vs.length c9) from
                    ⟨HN8.out.1.keeps hk (fun e => HN8.out.1.row HO8.out.2.2 (by decide) e rfl), (hk.block (z8 + 3) HN8.out.2.2.lt (fun e => WrBox.row' HN8.out.2.2 HO8.out.2.2 (by decide) e rfl)).trans HN8.out.2.2⟩)
                  have HO9 := Lib.hid (And.intro (hk.row HO8.out.1 (fun g hg e => by have h1 := HGT.out g e; injection hg with hg; have h2 : gw = g := hg; omega)) (And.intro (hk.row HO8.out.2.1 (fun g hg e => owns_ne HO8.out.2.1 HO8.out.2.2 (by decide) hg e rfl)) (hk.row HP8.out (fun g hg e => by have h1 := HLT.out g e; have h2 := (HP8.out.lt g hg).1; omega))))
                  have HV9 := Lib.hid (show MBox wr zm (.slice px us.length cx) (.slice py ms.length cy) f ∧ WrBox wr zr ⟨a, g, ph, b, t0⟩ (.slice pv vs.length cv) from
                    ⟨HV8.out.1.keeps hk (fun e => HV8.out.1.row HO8.out.2.2 (by decide) e rfl), (hk.block zr HV8.out.2.lt (fun e => WrBox.row' HV8.out.2 HO8.out.2.2 (by decide) e rfl)).trans HV8.out.2⟩)
                  have HB9 := Lib.hid (HB8.out.trans (hk.below HB8.out.size (fun q hq => (HO8.out.2.2.lt q hq).1)))
                  clear hk HI HN8 HO8 HP8 HV8 HB8 hxl
                  go_upto_region 26 with fail
                  refine wpTwo_begin (T := fun w' => MBox w' z8 (.slice (some ⟨gw, 0, none⟩) us2.length cw) (.slice (some ⟨gl, 0, none⟩) ms.length cl) f2 ∧ WrBox w' (z8 + 3) ⟨a2, g2, ph2, b2, t2⟩ (.slice p9 vs.length c9)) (S := fun _ => True) (late := fun _ => false) (by kernel_rfl) ?_
                  obtain ⟨X0, hX0⟩ : ∃ X : World, X = wr.drew := ⟨_, rfl⟩
                  rw [← hX0]
                  have hb : Below wr.heap.size wr X0 := by rw [hX0]; exact (Below.refl _ _).drew
                  have hT0 := And.intro (HN9.out.1.below hb) (HN9.out.2.below hb)
                  have HO0 := Lib.hid (And.intro (owns_below HO9.out.1 hb) (And.intro (owns_below HO9.out.2.1 hb) (owns_below HO9.out.2.2 hb)))
                  have HV0 := Lib.hid (And.intro (HV9.out.1.below hb) (HV9.out.2.below hb))
                  have HB0 := Lib.hid (below_then HB9.out HB9.out.size hb)
                  clear hX0 hb HN9 HO9 HV9 HB9
                  refine wpTwo_takeT (i := 0) (v := .agg #[.slice (some ⟨gw, 0, none⟩) us2.length cw, .slice (some ⟨gl, 0, none⟩) ms.length cl, .bool f2]) rfl (by kernel_rfl) (by kernel_rfl) (by kernel_rfl) (fun _ _ _ h => h) ⟨by rfl, ?_⟩ hT0 ?_
                  · rintro w hTw
                    obtain ⟨⟨t1', t2', t3'⟩, _⟩ := mbox_cells hTw.1
                    go_simp
                  (try simp only [Act.put, List.getElem_toArray, List.getElem_cons_zero, List.setIfInBounds_toArray, List.set_cons_succ, List.set_cons_zero])
                  refine wpTwo_takeT (i := 2) (v := .agg #[.int .i64 a2, .int .i64 g2, .slice p9 vs.length c9, .int .i64 ph2, .int .u64 b2, .int .i64 t2]) rfl (by kernel_rfl) (by kernel_rfl) (by kernel_rfl) (fun _ _ _ h => h) ⟨by rfl, ?_⟩ hT0 ?_
                  · rintro w hTw
                    obtain ⟨t1', t2', t3', t4', t5', t6'⟩ := hTw.2.cells
                    go_simp
                  (try simp only [Act.put, List.getElem_toArray, List.getElem_cons_succ, List.getElem_cons_zero, List.setIfInBounds_toArray, List.set_cons_succ, List.set_cons_zero])
                  refine wpTwo_ready (rs := [1]) (by kernel_rfl) (by simp) ?_
                  refine (AllTwo.cons rfl (fun K hK => ?_) AllTwo.nil)
                  go_simp
                  refine (own_self (.slice (some ⟨gw, 0, none⟩) us2.length cw) (.slice (some ⟨gl, 0, none⟩) ms.length cl) f2 us2 ms _ _ X0 HO0.out.1 HO0.out.2.1 HU2.out.1 HR.out.2.2.2.1).mono ?_
                  rintro e X1 ⟨⟨_, rfl, vx, vy, rfl, hx1, hy1⟩, hb⟩
                  obtain ⟨pxf, cxf, rfl⟩ := own_slice hx1
                  obtain ⟨pyf, cyf, rfl⟩ := own_slice hy1
                  have hT1 := And.intro (hT0.1.below hb) (hT0.2.below hb)
                  have HO1 := Lib.hid (owns_below HO0.out.2.2 hb)
                  have HP1 := Lib.hid (And.intro (hx1.mono HB0.out.size) (hy1.mono HB0.out.size))
                  have HV1 := Lib.hid (And.intro (HV0.out.1.below hb) (HV0.out.2.below hb))
                  have HB1 := Lib.hid (below_then HB0.out HB0.out.size hb)
                  clear hb hx1 hy1 HO0 HV0 HB0
                  go_wp2_with fail
                  refine hK.out _ _ ⟨hT1, fun _ _ => trivial⟩ ?_
                  clear hK K hT0
                  (try simp only [Act.put, List.getElem_toArray, List.getElem_cons_succ, List.getElem_cons_zero, List.setIfInBounds_toArray, List.set_cons_succ, List.set_cons_zero])
                  refine wpTwo_ready (rs := [3]) (by kernel_rfl) (by simp) ?_
                  refine (AllTwo.cons rfl (fun K hK => ?_) AllTwo.nil)
                  go_simp
                  refine (ownWrite_self ⟨a2, g2, ph2, b2, t2⟩ (.slice p9 vs.length c9) vs _ X1 HO1.out HR.out.2.2.1).mono ?_
                  rintro e X2 ⟨⟨pvf, cvf, rfl, hv7⟩, hb⟩
                  unfold wrV
                  dsimp only
                  have hT2 := And.intro (hT1.1.below hb) (hT1.2.below hb)
                  have HP2 := Lib.hid (And.intro (owns_below HP1.out.1 hb) (And.intro (owns_below HP1.out.2 hb) (hv7.mono HB1.out.size)))
                  have HV2 := Lib.hid (And.intro (HV1.out.1.below hb) (HV1.out.2.below hb))
                  have HB2 := Lib.hid (below_then HB1.out HB1.out.size hb)
                  clear hb hv7 HO1 HP1 HV1 HB1
                  go_wp2_with fail
                  refine hK.out _ _ ⟨hT2, fun _ _ => trivial⟩ ?_
                  clear hK K hT1
                  (try simp only [Act.put, List.getElem_toArray, List.getElem_cons_succ, List.getElem_cons_zero, List.setIfInBounds_toArray, List.set_cons_succ, List.set_cons_zero])
                  refine wpTwo_ready (rs := [4]) (by kernel_rfl) (by simp) ?_
                  refine (AllTwo.cons rfl (fun K hK => ?_) AllTwo.nil)
                  obtain ⟨⟨d0, d1, d2⟩, e0, e1, e2⟩ := mbox_cells HV2.out.1
                  have hne := HNE.out
                  have hn1 : zm ≠ zr := mbox_wrbox HV2.out.1 HV2.out.2
                  obtain ⟨Xa, hXa⟩ : ∃ X : World, X = ((X2.setCell ⟨zm, 0, none⟩ (.slice pxf us2.length cxf)).setCell ⟨zm, 1, none⟩ (.slice pyf ms.length cyf)).setCell ⟨zm, 2, none⟩ (.bool f2) := ⟨_, rfl⟩
                  have hka : Keeps (fun q => q = zm) X2 Xa := by rw [hXa]; exact ((kset X2 (zm) 0 _).trans (kset _ (zm) 1 _)).trans (kset _ (zm) 2 _)
                  have hTa := And.intro (hT2.1.keeps hka (by omega)) (show WrBox Xa (z8 + 3) ⟨a2, g2, ph2, b2, t2⟩ (.slice p9 vs.length c9) from (hka.block (z8 + 3) hT2.2.lt (by omega)).trans hT2.2)
                  have HVa := Lib.hid (show MBox Xa zm (.slice pxf us2.length cxf) (.slice pyf ms.length cyf) f2 ∧ WrBox Xa zr ⟨a, g, ph, b, t0⟩ (.slice pv vs.length cv) from ⟨by rw [hXa]; exact HV2.out.1.set _ _ _, (hka.block zr HV2.out.2.lt (fun e => hn1 e.symm)).trans HV2.out.2⟩)
                  have HPa := Lib.hid (And.intro (hka.row HP2.out.1 (fun g hg e => HV2.out.1.row HP2.out.1 (by decide) hg e.symm)) (And.intro (hka.row HP2.out.2.1 (fun g hg e => HV2.out.1.row HP2.out.2.1 (by decide) hg e.symm)) (hka.row HP2.out.2.2 (fun g hg e => HV2.out.1.row HP2.out.2.2 (by decide) hg e.symm))))
                  have HBa := Lib.hid (HB2.out.trans (hka.below HB2.out.size (fun q hq => by have := HZ.out; omega)))
                  go_simp
                  rw [← hXa]
                  refine hK.out _ _ ⟨hTa, fun _ _ => trivial⟩ ?_
                  clear hK K d0 d1 d2 e0 e1 e2 hXa hka hT2 HV2 HP2 HB2
                  (try simp only [Act.put, List.getElem_toArray, List.getElem_cons_succ, List.getElem_cons_zero, List.setIfInBounds_toArray, List.set_cons_succ, List.set_cons_zero])
                  refine wpTwo_ready (rs := [5]) (by kernel_rfl) (by simp) ?_
                  refine (AllTwo.cons rfl (fun K hK => ?_) AllTwo.nil)
                  obtain ⟨d0, d1, d2, d3, d4, d5⟩ := HVa.out.2.cells
                  dsimp only at d0 d1 d3 d4 d5
                  have v0 := HVa.out.2.marks 0
                  have v1 := HVa.out.2.marks 1
                  have v2 := HVa.out.2.marks 2
                  have v3 := HVa.out.2.marks 3
                  have v4 := HVa.out.2.marks 4
                  have v5 := HVa.out.2.marks 5
                  obtain ⟨Xb, hXb⟩ : ∃ X : World, X = (((((Xa.setCell ⟨zr, 0, none⟩ (.int .i64 a2)).setCell ⟨zr, 1, none⟩ (.int .i64 g2)).setCell ⟨zr, 2, none⟩ (.slice pvf vs.length cvf)).setCell ⟨zr, 3, none⟩ (.int .i64 ph2)).setCell ⟨zr, 4, none⟩ (.int .u64 b2)).setCell ⟨zr, 5, none⟩ (.int .i64 t2) := ⟨_, rfl⟩
                  have hkb : Keeps (fun q => q = zr) Xa Xb := by rw [hXb]; exact WrBox.putK Xa zr ⟨a2, g2, ph2, b2, t2⟩ (.slice pvf vs.length cvf)
                  have hTb := And.intro (hTa.1.keeps hkb (by omega)) (show WrBox Xb (z8 + 3) ⟨a2, g2, ph2, b2, t2⟩ (.slice p9 vs.length c9) from (hkb.block (z8 + 3) hTa.2.lt (by omega)).trans hTa.2)
                  have HF := Lib.hid (show StW W.heap.size Xb zm zr us2 ms f2 ⟨a2, g2, ph2, b2, t2⟩ vs from ⟨pxf, cxf, pyf, cyf, pvf, cvf, HVa.out.1.keeps hkb hn1, by rw [hXb]; exact HVa.out.2.put ⟨a2, g2, ph2, b2, t2⟩ (.slice pvf vs.length cvf), hkb.row HPa.out.1 (fun g hg e => WrBox.row' HVa.out.2 HPa.out.1 (by decide) hg e.symm), hkb.row HPa.out.2.1 (fun g hg e => WrBox.row' HVa.out.2 HPa.out.2.1 (by decide) hg e.symm), hkb.row HPa.out.2.2 (fun g hg e => WrBox.row' HVa.out.2 HPa.out.2.2 (by decide) hg e.symm)⟩)
                  have HBb := Lib.hid (HBa.out.trans (hkb.below HBa.out.size (fun q hq => by have := HZ.out; omega)))
                  go_simp
                  rw [← hXb]
                  refine hK.out _ _ ⟨hTb, fun _ _ => trivial⟩ ?_
                  clear hK K d0 d1 d2 d3 d4 d5 v0 v1 v2 v3 v4 v5 hXb hkb hTa hTb HVa HPa HBa hn1 hne
                  (try simp only [Act.put, List.getElem_toArray, List.getElem_cons_succ, List.getElem_cons_zero, List.setIfInBounds_toArray, List.set_cons_succ, List.set_cons_zero])
                  refine wpTwo_end (by kernel_rfl) ?_ _
                  go_wp2
                  go_roundw
                  case rel => exact ⟨i + 1, us2, ms, f2, ⟨a2, g2, ph2, b2, t2⟩, vs, by omega, by go_num, HF.out, ⟨HU2.out.2, HU2.out.1, HR.out.2.2⟩, HSH.out, HBb.out⟩
                  case measure => simp [pIntOf]; omega
        · go_wp2
          go_ret
          exact ⟨rfl, hB⟩

end Go.Proofs.Ytaljpggajpoalaa
