/-
  MemorySwaps returns true; what was in memory stays.
  Conditions: the memory is one that came in; the numbers are in their kinds' ranges.
-/
import Derived.Test.YtelgaakjhjcopaaMKit
import Derived.Test.YtelgaakjhjcopaaMWakes
namespace Go.Proofs.Ytelgaakjhjcopaa
open Go.RowKit Go.Shelf

set_option maxRecDepth 100000 in
set_option maxHeartbeats 4000000 in
theorem swaps_c (v0 v1 : Value) (f : Bool) (ws : List Int) (ls : List Bool) (a x y z : Int) (W : World) (h0 : ArgR W v0 (ws.map (Value.int .u64))) (h1 : ArgR W v1 (ls.map Value.bool)) (hw : ws.length ≤ 9223372036854775807) (hl : ls.length ≤ 9223372036854775807) :
    Calls Try.prog 6 #[.agg #[v0, v1, .bool f], .int .i64 a, .agg #[.int .u64 x, .int .u64 y, .int .u64 z]] W fun e w' => e = .returned (.bool true) ∧ Below W.heap.size W w' := by
  have h0' := h0
  have h1' := h1
  obtain ⟨p0, n0, c0, rfl, -, -⟩ := h0'
  obtain ⟨p1, n1, c1, rfl, -, -⟩ := h1'
  have H0 := Lib.hid h0
  have H1 := Lib.hid h1
  clear h0 h1
  obtain ⟨wo, hwo⟩ : ∃ wo : World, wo = (W.alloc (.cells #[.slice p0 n0 c0, .slice p1 n1 c1, .bool f] 25)).alloc (.cells #[.int .u64 x, .int .u64 y, .int .u64 z] 60) := ⟨_, rfl⟩
  have hB0 : Below W.heap.size W wo := by rw [hwo]; exact ((Below.refl _ _).alloc (Nat.le_refl _) _).alloc (by simp) _
  have HX := Lib.hid (show MBox wo W.heap.size (.slice p0 n0 c0) (.slice p1 n1 c1) f by rw [hwo]; exact (MBox.new _ _ _ _).alloc _)
  have HA := Lib.hid (show ABox wo (W.heap.size + 1) x y z by
    have := World.alloc_heap_new (W.alloc (.cells #[.slice p0 n0 c0, .slice p1 n1 c1, .bool f] 25)) (.cells #[.int .u64 x, .int .u64 y, .int .u64 z] 60)
    rw [World.size_alloc] at this
    rw [hwo]; exact this)
  go_enter Try.func6, Try.ntmps6
  go_wp2_with fail
  rw [← hwo]
  clear hwo
  refine (wakes_c _).mono ?_
  rintro e w1 ⟨rfl, hb1⟩
  have HX1 := HX.out.below hb1
  have HA1 := Lib.hid (HA.out.below hb1)
  have hB1 := below_then hB0 hB0.size hb1
  obtain ⟨⟨hx0, hx1, hx2⟩, _⟩ := mbox_cells HX1
  clear hb1 hB0 HX HX1 HA
  go_wp2_with fail
  refine (own_c _ _ f ws ls _ (H0.out.below hB1) (H1.out.below hB1) hw hl).mono ?_
  rintro e w2 ⟨hg, hb2⟩
  obtain ⟨q0, m0, d0, q1, m1, d1, rfl, hN, hL⟩ := hg.reads
  have hul : (ws.take 64).length ≤ 64 := by simp; omega
  have hml : (ls.take 64).length ≤ 64 := by simp; omega
  clear hg H0 H1 hw hl hx0 hx1 hx2
  generalize ws.take 64 = us at hN hul
  generalize ls.take 64 = ms at hL hml
  have HA2 := Lib.hid (HA1.out.below hb2)
  have hB2 := below_then hB1 hB1.size hb2
  clear HA1 hB1 hb2
  obtain ⟨w3, hw3⟩ : ∃ w3, w3 = putM w2 (.slice q0 m0 d0) (.slice q1 m1 d1) f := ⟨_, rfl⟩
  have HM3 := Lib.hid (show MVar w3 w2.heap.size (.slice q0 m0 d0) (.slice q1 m1 d1) us ms f by rw [hw3]; exact putM_var f hN hL)
  have hb3 : Below w2.heap.size w2 w3 := by rw [hw3]; exact putM_below _ _ _ _
  have HA3 := Lib.hid (HA2.out.below hb3)
  have hB3 := below_then hB2 hB2.size hb3
  clear HA2 hB2 hb3 hN hL
  unfold putM at hw3
  go_wp2_with fail
  rw [← hw3]
  clear hw3
  obtain ⟨hm0, hm1, hm2⟩ := HM3.out.cells
  cases hr : rightB us ms with
  | false =>
    refine (step_no _ 1 a 0 0 us ms f w3 HM3.out.mem (by omega) 120 (.inl ⟨hr, rfl⟩)).mono ?_
    rintro e w4 ⟨rfl, hb4⟩
    have hB4 := below_then hB3 hB3.size hb4
    clear hb4 hB3 HM3 HA3 hm0 hm1 hm2 hr
    unfold memZ
    have hB5 : Below W.heap.size W _ := hB4.trans ((putMG_below w4 (.slice none 0 0) (.slice none 0 0) false 0 false).mono hB4.size)
    unfold putMG at hB5
    go_wp2_with fail
    refine (none_c _).mono ?_
    rintro e w6 ⟨rfl, hb6⟩
    have hB6 := below_then hB5 hB5.size hb6
    clear hb6 hB5
    go_wp2
    go_ret
    exact ⟨rfl, hB6⟩
  | true =>
    have hlen := (rightB_iff.1 hr).2.2.1
    cases hlv : liveAt us ms a with
    | false =>
      refine (step_yes _ 1 a 0 0 us ms f w3 HM3.out.mem hr rfl).mono ?_
      rintro e w4 ⟨hs, hb4⟩
      obtain ⟨p2, n2, c2, p3, n3, c3, rfl, w5, hw5, HM5, HG5, hb5⟩ := step_put (us := us) (f := true) (g := 0) (d := false) hs.reads (by simp [accM, hlv])
      have HML := Lib.hid HM5
      have HGL := Lib.hid HG5
      have HM := Lib.hid ((HM3.out.below hb4).below hb5)
      have HA := Lib.hid ((HA3.out.below hb4).below hb5)
      have hB := below_then (below_then hB3 hB3.size hb4) (Nat.le_trans hB3.size hb4.size) hb5
      clear hs HM5 HG5 hb4 hb5 hB3 HM3 HA3 hm0 hm1 hm2
      unfold putMG at hw5
      obtain ⟨hm0, hm1, hm2⟩ := HM.out.cells
      obtain ⟨ha0, ha1, ha2⟩ := HA.out.cells
      rw [hw5] at hm0 hm1 hm2 ha0 ha1 ha2
      go_wp2_with fail
      rw [← hw5]
      clear hm0 hm1 hm2 ha0 ha1 ha2 hw5
      cases f
      all_goals
        refine (step_yes _ 3 a x y us ms _ w5 HM.out.mem hr rfl).mono ?_
        rintro e w6 ⟨hs, hb⟩
        obtain ⟨pS, nS, cS, qS, mS, dS, rfl, w6p, hw6p, HN, HNG, hbp⟩ := step_put (us := us) (f := true) (g := 0) (d := false) hs.reads (accM_out hlv _ _ _ _)
        have HM' := Lib.hid ((HM.out.below hb).below hbp)
        clear HM
        have HM := HM'
        clear HM'
        have HML' := Lib.hid ((HML.out.below hb).below hbp)
        clear HML
        have HML := HML'
        clear HML'
        have HGL' := Lib.hid ((HGL.out.below hb).below hbp)
        clear HGL
        have HGL := HGL'
        clear HGL'
        have HMS := Lib.hid HN
        have HGS := Lib.hid HNG
        have hBn := below_then (below_then hB hB.size hb) (Nat.le_trans hB.size hb.size) hbp
        clear hs HN HNG hb hbp hB
        have hB := hBn
        clear hBn
        unfold putMG at hw6p
        obtain ⟨hm0, hm1, hm2⟩ := HM.out.cells
        obtain ⟨hl0, hl1, hl2⟩ := HML.out.cells
        obtain ⟨hg0, hg1⟩ := HGL.out.cells
        rw [hw6p] at hm0 hm1 hm2 hl0 hl1 hl2 hg0 hg1
        clear HA
        go_wp2_with fail
        rw [← hw6p]
        clear hm0 hm1 hm2 hl0 hl1 hl2 hg0 hg1 hw6p
        refine (same_c _ _ us ms _ _ _ HML.out.mem HM.out.mem (by omega) (by omega)).mono ?_
        rintro e w7 ⟨rfl, hb7⟩
        obtain ⟨hl0, hl1, hl2⟩ := (HML.out.below hb7).cells
        obtain ⟨hs0, hs1, hs2⟩ := (HMS.out.below hb7).cells
        obtain ⟨hg0, hg1⟩ := (HGL.out.below hb7).cells
        obtain ⟨hh0, hh1⟩ := (HGS.out.below hb7).cells
        have hBe := below_then hB hB.size hb7
        clear hb7 hB HM HML HMS HGL HGS hlv hr
        go_wp2
        go_ret
        exact ⟨rfl, hBe⟩
    | true =>
      obtain ⟨g, hg⟩ : ∃ g, g = us.getD a.toNat 0 := ⟨_, rfl⟩
      have HG0 := Lib.hid hg
      clear hg
      have HM := HM3
      have HA := HA3
      have hB := hB3
      clear HM3 HA3 hB3 hm0 hm1 hm2
      refine (step_yes _ 1 a 0 0 us ms f w3 HM.out.mem hr rfl).mono ?_
      rintro e w4 ⟨hs, hb⟩
      obtain ⟨pL, nL, cL, qL, mL, dL, rfl, w4p, hw4p, HN, HNG, hbp⟩ := step_put (us := us) (f := f) (g := g) (d := true) hs.reads (by rw [HG0.out]; exact accM_load hlv _ _ _)
      have HM' := Lib.hid (((HM.out.below hb).below hbp))
      clear HM
      have HM := HM'
      clear HM'
      have HA' := Lib.hid (((HA.out.below hb).below hbp))
      clear HA
      have HA := HA'
      clear HA'
      have HML := Lib.hid HN
      have HGL := Lib.hid HNG
      have hBn := below_then (below_then hB hB.size hb) (Nat.le_trans hB.size hb.size) hbp
      clear hs HN HNG hb hbp hB
      have hB := hBn
      clear hBn
      unfold putMG at hw4p
      obtain ⟨hm0, hm1, hm2⟩ := HM.out.cells
      obtain ⟨ha0, ha1, ha2⟩ := HA.out.cells
      rw [hw4p] at hm0 hm1 hm2 ha0 ha1 ha2
      go_wp2_with fail
      rw [← hw4p]
      clear hw4p hm0 hm1 hm2 ha0 ha1 ha2
      by_cases hgx : g = x
      · subst hgx
        have HRS := Lib.hid (rightB_set hr hlv y)
        have HLS := Lib.hid (show liveAt (us.set a.toNat y) ms a = true by rw [liveAt_set]; exact hlv)
        refine (step_yes _ 3 a g y us ms f w4p HM.out.mem hr rfl).mono ?_
        rintro e w5 ⟨hs, hb⟩
        obtain ⟨pS, nS, cS, qS, mS, dS, rfl, w5p, hw5p, HN, HNG, hbp⟩ := step_put (us := (us.set a.toNat y)) (f := f) (g := g) (d := true) hs.reads (by rw [accM_yes hlv _ _ _ HG0.out.symm, ← HG0.out])
        have HM' := Lib.hid (((HM.out.below hb).below hbp))
        clear HM
        have HM := HM'
        clear HM'
        have HML' := Lib.hid (((HML.out.below hb).below hbp))
        clear HML
        have HML := HML'
        clear HML'
        have HA' := Lib.hid (((HA.out.below hb).below hbp))
        clear HA
        have HA := HA'
        clear HA'
        have HGL' := Lib.hid (((HGL.out.below hb).below hbp))
        clear HGL
        have HGL := HGL'
        clear HGL'
        have HMS := Lib.hid HN
        have HGS := Lib.hid HNG
        have hBn := below_then (below_then hB hB.size hb) (Nat.le_trans hB.size hb.size) hbp
        clear hs HN HNG hb hbp hB
        have hB := hBn
        clear hBn
        unfold putMG at hw5p
        obtain ⟨hm0, hm1, hm2⟩ := HM.out.cells
        obtain ⟨hl0, hl1, hl2⟩ := HML.out.cells
        obtain ⟨hg0, hg1⟩ := HGL.out.cells
        rw [hw5p] at hm0 hm1 hm2 hl0 hl1 hl2 hg0 hg1
        go_wp2_with fail
        rw [← hw5p]
        clear hw5p hm0 hm1 hm2 hl0 hl1 hl2 hg0 hg1
        refine (same_t _ _ us ms f w5p HML.out.mem HM.out.mem (by omega) (by omega)).mono ?_
        rintro e w6 ⟨rfl, hb⟩
        have HMS' := Lib.hid ((HMS.out.below hb))
        clear HMS
        have HMS := HMS'
        clear HMS'
        have HGS' := Lib.hid ((HGS.out.below hb))
        clear HGS
        have HGS := HGS'
        clear HGS'
        have HGL' := Lib.hid ((HGL.out.below hb))
        clear HGL
        have HGL := HGL'
        clear HGL'
        have HA' := Lib.hid ((HA.out.below hb))
        clear HA
        have HA := HA'
        clear HA'
        have hBn := below_then hB hB.size hb
        clear hb hB
        have hB := hBn
        clear hBn
        obtain ⟨hs0, hs1, hs2⟩ := HMS.out.cells
        obtain ⟨hh0, hh1⟩ := HGS.out.cells
        obtain ⟨hg0, hg1⟩ := HGL.out.cells
        obtain ⟨ha0, ha1, ha2⟩ := HA.out.cells
        clear HM HML
        go_wp2_with fail
        clear hs0 hs1 hs2 hh0 hh1 hg0 hg1 ha0 ha1 ha2
        by_cases hyg : y = g
        · subst hyg
          refine (step_yes _ 3 a y z (us.set a.toNat y) ms f w6 HMS.out.mem HRS.out rfl).mono ?_
          rintro e w7 ⟨hs, hb⟩
          obtain ⟨pT, nT, cT, qT, mT, dT, rfl, w7p, hw7p, HN, HNG, hbp⟩ := step_put (us := ((us.set a.toNat y).set a.toNat z)) (f := f) (g := y) (d := true) hs.reads (by rw [accM_yes HLS.out _ _ _ (getD_set hlv y), getD_set hlv y])
          have HA' := Lib.hid (((HA.out.below hb).below hbp))
          clear HA
          have HA := HA'
          clear HA'
          have hBn := below_then (below_then hB hB.size hb) (Nat.le_trans hB.size hb.size) hbp
          clear hs HN HNG hb hbp hB
          unfold putMG at hw7p
          obtain ⟨ha0, ha1, ha2⟩ := HA.out.cells
          rw [hw7p] at ha0 ha1 ha2 hBn
          have HB := Lib.hid hBn
          clear hBn hw7p HA
          go_wp2
          go_ret
          exact ⟨rfl, HB.out⟩
        · have hyg' : (y == g) = false := by simpa using hyg
          refine (step_yes _ 3 a g z (us.set a.toNat y) ms f w6 HMS.out.mem HRS.out rfl).mono ?_
          rintro e w7 ⟨hs, hb⟩
          obtain ⟨pT, nT, cT, qT, mT, dT, rfl, w7p, hw7p, HN, HNG, hbp⟩ := step_put (us := (us.set a.toNat y)) (f := f) (g := y) (d := false) hs.reads (by rw [accM_no HLS.out _ _ _ (by rw [getD_set hlv y]; exact hyg), getD_set hlv y])
          have HA' := Lib.hid (((HA.out.below hb).below hbp))
          clear HA
          have HA := HA'
          clear HA'
          have hBn := below_then (below_then hB hB.size hb) (Nat.le_trans hB.size hb.size) hbp
          clear hs HN HNG hb hbp hB
          unfold putMG at hw7p
          obtain ⟨ha0, ha1, ha2⟩ := HA.out.cells
          rw [hw7p] at ha0 ha1 ha2 hBn
          have HB := Lib.hid hBn
          clear hBn hw7p HA
          go_wp2
          go_ret
          exact ⟨rfl, HB.out⟩
      · have hgx' : (g == x) = false := by simpa using hgx
        refine (step_yes _ 3 a x y us ms f w4p HM.out.mem hr rfl).mono ?_
        rintro e w5 ⟨hs, hb⟩
        obtain ⟨pS, nS, cS, qS, mS, dS, rfl, w5p, hw5p, HN, HNG, hbp⟩ := step_put (us := us) (f := f) (g := g) (d := false) hs.reads (by rw [accM_no hlv _ _ _ (by rw [← HG0.out]; exact hgx), ← HG0.out])
        have HM' := Lib.hid (((HM.out.below hb).below hbp))
        clear HM
        have HM := HM'
        clear HM'
        have HML' := Lib.hid (((HML.out.below hb).below hbp))
        clear HML
        have HML := HML'
        clear HML'
        have HGL' := Lib.hid (((HGL.out.below hb).below hbp))
        clear HGL
        have HGL := HGL'
        clear HGL'
        have HA' := Lib.hid (((HA.out.below hb).below hbp))
        clear HA
        have HA := HA'
        clear HA'
        have HMS := Lib.hid HN
        have HGS := Lib.hid HNG
        have hBn := below_then (below_then hB hB.size hb) (Nat.le_trans hB.size hb.size) hbp
        clear hs HN HNG hb hbp hB
        have hB := hBn
        clear hBn
        unfold putMG at hw5p
        obtain ⟨hm0, hm1, hm2⟩ := HM.out.cells
        obtain ⟨hl0, hl1, hl2⟩ := HML.out.cells
        obtain ⟨hg0, hg1⟩ := HGL.out.cells
        rw [hw5p] at hm0 hm1 hm2 hl0 hl1 hl2 hg0 hg1
        go_wp2_with fail
        rw [← hw5p]
        clear hw5p hm0 hm1 hm2 hl0 hl1 hl2 hg0 hg1
        refine (same_t _ _ us ms f w5p HML.out.mem HM.out.mem (by omega) (by omega)).mono ?_
        rintro e w6 ⟨rfl, hb⟩
        have HM' := Lib.hid ((HM.out.below hb))
        clear HM
        have HM := HM'
        clear HM'
        have HMS' := Lib.hid ((HMS.out.below hb))
        clear HMS
        have HMS := HMS'
        clear HMS'
        have HGS' := Lib.hid ((HGS.out.below hb))
        clear HGS
        have HGS := HGS'
        clear HGS'
        have HGL' := Lib.hid ((HGL.out.below hb))
        clear HGL
        have HGL := HGL'
        clear HGL'
        have HA' := Lib.hid ((HA.out.below hb))
        clear HA
        have HA := HA'
        clear HA'
        have hBn := below_then hB hB.size hb
        clear hb hB
        have hB := hBn
        clear hBn
        obtain ⟨hm0, hm1, hm2⟩ := HM.out.cells
        obtain ⟨hs0, hs1, hs2⟩ := HMS.out.cells
        obtain ⟨hh0, hh1⟩ := HGS.out.cells
        obtain ⟨hg0, hg1⟩ := HGL.out.cells
        obtain ⟨ha0, ha1, ha2⟩ := HA.out.cells
        clear HML
        go_wp2_with fail
        clear hm0 hm1 hm2 hs0 hs1 hs2 hh0 hh1 hg0 hg1 ha0 ha1 ha2
        refine (same_t _ _ us ms f w6 HMS.out.mem HM.out.mem (by omega) (by omega)).mono ?_
        rintro e w7 ⟨rfl, hb⟩
        have hBn := below_then hB hB.size hb
        clear hb hB
        have hB := hBn
        clear hBn
        go_wp2
        go_ret
        exact ⟨rfl, hB⟩

end Go.Proofs.Ytelgaakjhjcopaa
