/-
  MemoryHolds returns true; what was in memory stays.
  Conditions: the memory is one that came in; the numbers are in their kinds' ranges.
-/
import Derived.Test.YtelgaakjhjcopaaMKit2
import Derived.Test.YtelgaakjhjcopaaMWakes
namespace Go.Proofs.Ytelgaakjhjcopaa
open Go.RowKit Go.Shelf

set_option maxRecDepth 100000 in
set_option maxHeartbeats 4000000 in
theorem holds_c (v0 v1 : Value) (f : Bool) (ws : List Int) (ls : List Bool) (ka aa oa na kb ab ob nb : Int) (W : World) (h0 : ArgR W v0 (ws.map (Value.int .u64))) (h1 : ArgR W v1 (ls.map Value.bool)) (hw : ws.length ≤ 9223372036854775807) (hl : ls.length ≤ 9223372036854775807) :
    Calls Try.prog 5 #[.agg #[v0, v1, .bool f], .agg #[.int .i64 ka, .int .i64 aa, .int .u64 oa, .int .u64 na], .agg #[.int .i64 kb, .int .i64 ab, .int .u64 ob, .int .u64 nb]] W fun e w' => e = .returned (.bool true) ∧ Below W.heap.size W w' := by
  have h0' := h0
  have h1' := h1
  obtain ⟨p0, n0, c0, rfl, -, -⟩ := h0'
  obtain ⟨p1, n1, c1, rfl, -, -⟩ := h1'
  have H0 := Lib.hid h0
  have H1 := Lib.hid h1
  clear h0 h1
  obtain ⟨wo, hwo⟩ : ∃ wo : World, wo = ((W.alloc (.cells #[.slice p0 n0 c0, .slice p1 n1 c1, .bool f] 25)).alloc (.cells #[.int .i64 ka, .int .i64 aa, .int .u64 oa, .int .u64 na] 44)).alloc (.cells #[.int .i64 kb, .int .i64 ab, .int .u64 ob, .int .u64 nb] 44) := ⟨_, rfl⟩
  have hB0 : Below W.heap.size W wo := by rw [hwo]; exact (((Below.refl _ _).alloc (Nat.le_refl _) _).alloc (by simp) _).alloc (by simp; omega) _
  have hsz : W.heap.size + 2 < wo.heap.size := by rw [hwo]; simp
  have HX := Lib.hid (show MBox wo W.heap.size (.slice p0 n0 c0) (.slice p1 n1 c1) f by rw [hwo]; exact ((MBox.new _ _ _ _).alloc _).alloc _)
  have HA := Lib.hid (show AcBox wo (W.heap.size + 1) ka aa oa na by
    have : AcBox ((W.alloc (.cells #[.slice p0 n0 c0, .slice p1 n1 c1, .bool f] 25)).alloc (.cells #[.int .i64 ka, .int .i64 aa, .int .u64 oa, .int .u64 na] 44)) _ ka aa oa na := World.alloc_heap_new _ _
    rw [World.size_alloc] at this
    rw [hwo]; exact this.keeps (Keeps.alloc (fun _ => False) _ _) (fun h => h))
  have HC := Lib.hid (show AcBox wo (W.heap.size + 1 + 1) kb ab ob nb by
    have := World.alloc_heap_new ((W.alloc (.cells #[.slice p0 n0 c0, .slice p1 n1 c1, .bool f] 25)).alloc (.cells #[.int .i64 ka, .int .i64 aa, .int .u64 oa, .int .u64 na] 44)) (.cells #[.int .i64 kb, .int .i64 ab, .int .u64 ob, .int .u64 nb] 44)
    rw [World.size_alloc, World.size_alloc] at this
    rw [hwo]; exact this)
  go_enter Try.func5, Try.ntmps5
  go_wp2_with fail
  rw [← hwo]
  clear hwo
  refine (wakes_c _).mono ?_
  rintro e w1 ⟨rfl, hb1⟩
  have HX1 := HX.out.below hb1
  have HA1 := Lib.hid (HA.out.below hb1)
  have HC1 := Lib.hid (HC.out.below hb1)
  have hB1 := below_then hB0 hB0.size hb1
  have hsz1 : W.heap.size + 2 < w1.heap.size := Nat.lt_of_lt_of_le hsz hb1.size
  obtain ⟨⟨hx0, hx1, hx2⟩, _⟩ := mbox_cells HX1
  clear hb1 hB0 HX HX1 HA HC hsz
  go_wp2_with fail
  refine (own_c _ _ f ws ls _ (H0.out.below hB1) (H1.out.below hB1) hw hl).mono ?_
  rintro e w2 ⟨hg, hb2⟩
  obtain ⟨q0, d0, q1, d1, rfl, w3, hw3, HM, hb3⟩ := own_put hg hb2.size
  have hul : (ws.take 64).length ≤ 64 := by simp; omega
  have hml : (ls.take 64).length ≤ 64 := by simp; omega
  have HM3 := Lib.hid HM
  have HA3 := Lib.hid ((HA1.out.below hb2).below hb3)
  have HC3 := Lib.hid ((HC1.out.below hb2).below hb3)
  have hB3 := below_then (below_then hB1 hB1.size hb2) (Nat.le_trans hB1.size hb2.size) hb3
  clear hg H0 H1 hw hl hx0 hx1 hx2 HM HA1 HC1 hB1 hb3
  generalize ws.take 64 = us at hul HM3 hw3
  generalize ls.take 64 = ms at hml HM3 hw3
  obtain ⟨ha0, ha1, ha2, ha3⟩ := HA3.out.cells
  obtain ⟨hc0, hc1, hc2, hc3⟩ := HC3.out.cells
  obtain ⟨hfa, _⟩ := HA3.out.free
  obtain ⟨hfc, _⟩ := HC3.out.free
  unfold putM at hw3
  go_upto_region 4 with fail
  rw [← hw3]
  clear hw3
  go_region
  obtain ⟨K, hK⟩ : ∃ K, K = wrap64 (1 + wrap64 ((IntKind.u64.wrap kb).tmod 3)) := ⟨_, rfl⟩
  have hK1 : 1 ≤ K ∧ K ≤ 3 := by rw [hK]; exact kind_in kb
  rw [← hK]
  obtain ⟨w4, hw4⟩ : ∃ w4 : World, w4 = ((w3.setCell ⟨W.heap.size + 1, 0, none⟩ (.int .i64 2)).setCell ⟨W.heap.size + 1 + 1, 0, none⟩ (.int .i64 K)).drew := ⟨_, rfl⟩
  have hk4 : Keeps (fun q => q = W.heap.size + 1 ∨ q = W.heap.size + 1 + 1) w3 w4 := by rw [hw4]; exact ((Keeps.setCell w3 (p := ⟨W.heap.size + 1, 0, none⟩) (.inl rfl) _).trans (Keeps.setCell _ (p := ⟨W.heap.size + 1 + 1, 0, none⟩) (.inr rfl) _)).drewN 1
  have HM := Lib.hid (HM3.out.keeps hk4 (by intro q hq; rcases hq with rfl | rfl <;> omega))
  have HA := Lib.hid (show AcBox w4 (W.heap.size + 1) 2 aa oa na by rw [hw4]; exact AcBox.keeps (S := fun q => q = W.heap.size + 1 + 1) (HA3.out.setKind 2) ((Keeps.setCell _ (S := fun q => q = W.heap.size + 1 + 1) (p := ⟨W.heap.size + 1 + 1, 0, none⟩) rfl _).drewN 1) (fun h => absurd (show W.heap.size + 1 = W.heap.size + 1 + 1 from h) (by omega)))
  have HC := Lib.hid (show AcBox w4 (W.heap.size + 1 + 1) K ab ob nb by rw [hw4]; exact (AcBox.keeps (S := fun q => q = W.heap.size + 1) HC3.out (Keeps.setCell _ (S := fun q => q = W.heap.size + 1) (p := ⟨W.heap.size + 1, 0, none⟩) rfl _) (fun h => absurd (show W.heap.size + 1 + 1 = W.heap.size + 1 from h) (by omega))).setKind K)
  have hB : Below W.heap.size W w4 := by rw [hw4]; exact ((hB3.setCell (p := ⟨W.heap.size + 1, 0, none⟩) (Nat.le_succ _) _).setCell (p := ⟨W.heap.size + 1 + 1, 0, none⟩) (by simp; omega) _).drew
  have hsz4 : W.heap.size + 2 < w4.heap.size := by have := hk4.size; have := HM3.out.2.1.lt; have := HM3.out.1; omega
  rw [← hw4]
  clear hw4 hk4 hK HM3 HA3 HC3 hB3 ha0 ha1 ha2 ha3 hc0 hc1 hc2 hc3 hfa hfc
  obtain ⟨hm0, hm1, hm2⟩ := HM.out.cells
  obtain ⟨ha0, ha1, ha2, ha3⟩ := HA.out.cells
  go_wp2_with fail
  clear hm0 hm1 hm2 ha0 ha1 ha2 ha3
  cases hr : rightB us ms with
  | false =>
    refine (step_no _ 2 aa oa na us ms f w4 HM.out.mem (by omega) 120 (.inl ⟨hr, rfl⟩)).mono ?_
    rintro e w5 ⟨rfl, hb⟩
    unfold memZ
    obtain ⟨w5p, hw5p⟩ : ∃ w5p, w5p = putMG w5 (.slice none 0 0) (.slice none 0 0) false 0 false := ⟨_, rfl⟩
    have hbp : Below w5.heap.size w5 w5p := by rw [hw5p]; exact putMG_below _ _ _ _ _ _
    have HN := Lib.hid (show MBox w5p w5.heap.size (.slice none 0 0) (.slice none 0 0) false by rw [hw5p]; exact (putMG_box _ _ _ _ _ _).1)
    have HM' := Lib.hid (((HM.out.below hb).below hbp))
    clear HM
    have HM := HM'
    clear HM'
    have hBn := below_then (below_then hB hB.size hb) (Nat.le_trans hB.size hb.size) hbp
    clear hb hbp hB HA HC
    unfold putMG at hw5p
    obtain ⟨hm0, hm1, hm2⟩ := HM.out.cells
    rw [hw5p] at hm0 hm1 hm2
    go_wp2_with fail
    rw [← hw5p]
    clear hm0 hm1 hm2 hw5p
    have HCK := check_c _ us ms f w5p HM.out.mem (by omega)
    rw [chkM_no hr] at HCK
    refine HCK.mono ?_
    rintro e w6 ⟨rfl, hb⟩
    obtain ⟨⟨hn0, hn1, hn2⟩, _⟩ := mbox_cells (HN.out.below hb)
    have hB := below_then hBn hBn.size hb
    clear HCK hb hBn HM HN
    go_wp2_with fail
    refine (none_c _).mono ?_
    rintro e w7 ⟨rfl, hb⟩
    have hBe := below_then hB hB.size hb
    clear hb hB hn0 hn1 hn2
    go_wp2
    go_ret
    exact ⟨rfl, hBe⟩
  | true =>
    cases hlv : liveAt us ms aa with
    | false =>
      refine (step_yes _ 2 aa oa na us ms f w4 HM.out.mem hr rfl).mono ?_
      rintro e w5 ⟨hs, hb⟩
      obtain ⟨pN, cN, qN, dN, rfl, w5p, hw5p, HN, HNG, hbp⟩ := step_putO (us := us) (f := true) (g := 0) (d := false) hs hb.size (accM_out hlv _ _ _ _)
      have HM' := Lib.hid (((HM.out.below hb).below hbp))
      clear HM
      have HM := HM'
      clear HM'
      have HMN := Lib.hid HN
      have HGN := Lib.hid HNG
      have hBn := below_then (below_then hB hB.size hb) (Nat.le_trans hB.size hb.size) hbp
      have hszN := Nat.le_trans hb.size hbp.size
      clear hs HN HNG hb hbp hB
      have hB := hBn
      clear hBn
      unfold putMG at hw5p
      obtain ⟨hm0, hm1, hm2⟩ := HM.out.cells
      rw [hw5p] at hm0 hm1 hm2
      go_wp2_with fail
      rw [← hw5p]
      clear hw5p hm0 hm1 hm2
      refine (same_t _ _ us ms false w5p HMN.out.var.memF HM.out.var.memF (by omega) (by omega)).mono ?_
      rintro e w6 ⟨rfl, hb⟩
      have hBn := below_then hB hB.size hb
      clear hb hB
      have hB := hBn
      clear hBn
      clear HM HMN HGN HA HC hr hlv hszN
      go_wp2
      go_ret
      exact ⟨rfl, hB⟩
    | true =>
      obtain ⟨u2, hu2⟩ : ∃ u, u = us.set aa.toNat na := ⟨_, rfl⟩
      have HU := Lib.hid hu2
      have HRS := Lib.hid (show rightB u2 ms = true by rw [hu2]; exact rightB_set hr hlv na)
      have HLS := Lib.hid (show liveAt u2 ms aa = true by rw [hu2, liveAt_set]; exact hlv)
      have HGD := Lib.hid (show u2.getD aa.toNat 0 = na by rw [hu2]; exact getD_set hlv na)
      have hul2 : u2.length = us.length := by rw [hu2]; simp
      obtain ⟨g, hg⟩ : ∃ g, g = us.getD aa.toNat 0 := ⟨_, rfl⟩
      have hst : accM us ms f 2 aa oa na = (u2, f, g, true) := by rw [hu2, hg]; exact accM_store hlv _ _ _
      have HST := Lib.hid hst
      have haa0 : 0 ≤ aa := (liveAt_lt hlv).2.1
      have haa1 : aa < 64 := by have := (liveAt_lt hlv).1; omega
      have HUL := Lib.hid hul2
      clear hu2 hg hst hul2 hlv
      by_cases hba : aa = ab
      · subst hba
        refine (step_yes _ 2 aa oa na us ms f w4 HM.out.mem hr rfl).mono ?_
        rintro e w5 ⟨hs, hb⟩
        obtain ⟨pN, cN, qN, dN, rfl, w5p, hw5p, HN, HNG, hbp⟩ := step_putO (us := u2) (f := f) (g := g) (d := true) hs hb.size HST.out
        have HM' := Lib.hid (((HM.out.below hb).below hbp))
        clear HM
        have HM := HM'
        clear HM'
        have HA' := Lib.hid (((HA.out.below hb).below hbp))
        clear HA
        have HA := HA'
        clear HA'
        have HC' := Lib.hid (((HC.out.below hb).below hbp))
        clear HC
        have HC := HC'
        clear HC'
        have HMN := Lib.hid HN
        have HGN := Lib.hid HNG
        have hBn := below_then (below_then hB hB.size hb) (Nat.le_trans hB.size hb.size) hbp
        have hszN := Nat.le_trans hb.size hbp.size
        clear hs HN HNG hb hbp hB
        have hB := hBn
        clear hBn
        unfold putMG at hw5p
        obtain ⟨ha0, ha1, ha2, ha3⟩ := HA.out.cells
        obtain ⟨hc0, hc1, hc2, hc3⟩ := HC.out.cells
        rw [hw5p] at ha0 ha1 ha2 ha3 hc0 hc1 hc2 hc3
        obtain ⟨_, hfc⟩ := HC.out.free
        rw [hw5p] at hfc
        have hHN := HMN.out.1
        have hne1 : W.heap.size + 1 + 1 ≠ w5.heap.size := by omega
        have hne2 : w5.heap.size ≠ W.heap.size + 1 + 1 := by omega
        go_wp2_with fail
        rw [← hw5p]
        clear ha0 ha1 ha2 ha3 hc0 hc1 hc2 hc3 hfc hw5p
        obtain ⟨bq, hbq⟩ : ∃ b, b = aa + 1 := ⟨_, rfl⟩
        rw [← hbq]
        obtain ⟨w6, hw6⟩ : ∃ w6 : World, w6 = w5p.setCell ⟨W.heap.size + 1 + 1, 1, none⟩ (.int .i64 bq) := ⟨_, rfl⟩
        have hk6 : Keeps (fun q => q = W.heap.size + 1 + 1) w5p w6 := by rw [hw6]; exact Keeps.setCell w5p (S := fun q => q = W.heap.size + 1 + 1) (p := ⟨W.heap.size + 1 + 1, 1, none⟩) rfl _
        clear hne1 hne2
        have HM' := Lib.hid (HM.out.keeps hk6 (by intro q hq; subst hq; omega))
        have HMN' := Lib.hid (HMN.out.keeps hk6 (by intro q hq; subst hq; omega))
        have HGN' := Lib.hid (HGN.out.keeps hk6 (by omega))
        have HA' := Lib.hid (HA.out.keeps hk6 (by omega))
        have HC' := Lib.hid (show AcBox w6 (W.heap.size + 1 + 1) K bq ob nb by rw [hw6]; exact HC.out.setAt bq)
        have hB' : Below W.heap.size W w6 := by rw [hw6]; exact hB.setCell (p := ⟨W.heap.size + 1 + 1, 1, none⟩) (by simp; omega) _
        have HNE := Lib.hid (show bq ≠ aa by omega)
        rw [← hw6]
        clear hw6 hk6 hHN HM HMN HGN HA HC hB hbq
        obtain ⟨u3, f3, g3, d3, hr3, hl3, hR3, hV3, hD3, hF3⟩ := acc_other HRS.out HLS.out HNE.out f K ob nb
        have HQ3 := Lib.hid hr3
        have HL3 := Lib.hid hl3
        have HR3 := Lib.hid hR3
        have HV3 := Lib.hid hV3
        have HD3 := Lib.hid (hD3.trans HGD.out)
        have HF3 := Lib.hid hF3
        clear hr3 hl3 hR3 hV3 hD3 hF3
        have HM := HM'
        have HMN := HMN'
        have HA := HA'
        have hB := hB'
        clear HM' HMN' HGN' HA' HC' hB'
        refine (step_yes _ K bq ob nb u2 ms f w6 HMN.out.mem HRS.out (kindB_iff.2 hK1)).mono ?_
        rintro e w7 ⟨hs, hb⟩
        obtain ⟨pO, cO, qO, dO, rfl, w7p, hw7p, HN, HNG, hbp⟩ := step_putO (us := u3) (f := f3) (g := g3) (d := d3) hs hb.size HQ3.out
        have HM' := Lib.hid (((HM.out.below hb).below hbp))
        clear HM
        have HM := HM'
        clear HM'
        have HMN' := Lib.hid (((HMN.out.below hb).below hbp))
        clear HMN
        have HMN := HMN'
        clear HMN'
        have HA' := Lib.hid (((HA.out.below hb).below hbp))
        clear HA
        have HA := HA'
        clear HA'
        have HMO := Lib.hid HN
        have HGO := Lib.hid HNG
        have hBn := below_then (below_then hB hB.size hb) (Nat.le_trans hB.size hb.size) hbp
        have hszO := Nat.le_trans hb.size hbp.size
        clear hs HN HNG hb hbp hB
        have hB := hBn
        clear hBn
        unfold putMG at hw7p
        obtain ⟨ha0, ha1, ha2, ha3⟩ := HA.out.cells
        rw [hw7p] at ha0 ha1 ha2 ha3
        go_wp2_with fail
        rw [← hw7p]
        clear hw7p ha0 ha1 ha2 ha3
        have HF := Lib.hid (show (f = true ∧ f3 = true) ∨ (f = false ∧ f3 = true) ∨ (f = false ∧ f3 = false) by have := HF3.out; revert this; cases f <;> cases f3 <;> simp)
        clear HF3
        rcases HF.out with ⟨rfl, rfl⟩ | ⟨rfl, rfl⟩ | ⟨rfl, rfl⟩
        all_goals
          clear HF
          refine (step_yes _ 1 aa 0 0 u3 ms _ w7p HMO.out.mem HR3.out rfl).mono ?_
          rintro e w8 ⟨hs, hb⟩
          obtain ⟨pP, cP, qP, dP, rfl, w8p, hw8p, HN, HNG, hbp⟩ := step_putO (us := u3) (f := _) (g := na) (d := true) hs hb.size (by rw [accM_load HV3.out, HD3.out])
          have HM' := Lib.hid (((HM.out.below hb).below hbp))
          clear HM
          have HM := HM'
          clear HM'
          have HMN' := Lib.hid (((HMN.out.below hb).below hbp))
          clear HMN
          have HMN := HMN'
          clear HMN'
          have HMO' := Lib.hid (((HMO.out.below hb).below hbp))
          clear HMO
          have HMO := HMO'
          clear HMO'
          have HA' := Lib.hid (((HA.out.below hb).below hbp))
          clear HA
          have HA := HA'
          clear HA'
          have HMP := Lib.hid HN
          have HGP := Lib.hid HNG
          have hBn := below_then (below_then hB hB.size hb) (Nat.le_trans hB.size hb.size) hbp
          have hszP := Nat.le_trans hb.size hbp.size
          clear hs HN HNG hb hbp hB
          have hB := hBn
          clear hBn
          unfold putMG at hw8p
          obtain ⟨hm0, hm1, hm2⟩ := HM.out.cells
          obtain ⟨hn0, hn1, hn2⟩ := HMN.out.cells
          obtain ⟨ho0, ho1, ho2⟩ := HMO.out.cells
          obtain ⟨ha0, ha1, ha2, ha3⟩ := HA.out.cells
          rw [hw8p] at hm0 hm1 hm2 hn0 hn1 hn2 ho0 ho1 ho2 ha0 ha1 ha2 ha3
          go_wp2_with fail
          rw [← hw8p]
          clear hw8p hm0 hm1 hm2 hn0 hn1 hn2 ho0 ho1 ho2 ha0 ha1 ha2 ha3
          obtain ⟨b0, off0, rfl, hcs0⟩ := nums_cells HM.out.var.2.1 (by have := (rightB_iff.1 hr).1; omega)
          obtain ⟨b2, off2, rfl, hcs2⟩ := nums_cells HMN.out.var.2.1 (by have := (rightB_iff.1 hr).1; have := HUL.out; omega)
          have HCS0 := Lib.hid hcs0
          have HCS2 := Lib.hid hcs2
          clear hcs0 hcs2 HGO HGP HMP HQ3 HST HLS HGD HRS
          go_loopw [17, 130] (fun cv iv wr => ∃ i : Nat, i ≤ us.length ∧ iv = .int .i64 i ∧ (cv = .int .i64 0 ∨ (cv = .int .i64 1 ∧ aa.toNat < i)) ∧ Below w8p.heap.size w8p wr) (fun _ iv _ => us.length - (intOf iv).toNat)
          case atStart => exact ⟨0, Nat.zero_le _, rfl, .inl rfl, Below.refl _ _⟩
          case round =>
            obtain ⟨i, hi, rfl, hcv, hbl⟩ := hrel
            by_cases hlt : i < us.length
            · have hx := below_cell hbl (HCS0.out i hlt)
              have hz := below_cell hbl (HCS2.out i (by have := HUL.out; omega))
              have hm0 := below_cell hbl HM.out.cells.1
              have hn0 := below_cell hbl HMN.out.cells.1
              have hl2 : (i : Int) < (u2.length : Int) := by have := HUL.out; omega
              have hl2' : i < u2.length := by omega
              obtain ⟨x, hxe⟩ : ∃ x, x = us[i] := ⟨_, rfl⟩
              rw [← hxe] at hx
              by_cases hia : i = aa.toNat
              · obtain ⟨z, hze⟩ : ∃ z, z = u2[i]'hl2' := ⟨_, rfl⟩
                rw [← hze] at hz
                rcases hcv with rfl | ⟨_, hlo⟩
                · have HIA := Lib.hid hia
                  clear hxe hze hia
                  go_wp2
                  go_quiet (fail)
                  go_wp2
                  all_goals
                    go_roundw
                    case rel => first | exact ⟨i + 1, by omega, by go_num, .inr ⟨rfl, by have := HIA.out; omega⟩, below_drewN hbl _⟩ | exact ⟨i + 1, by omega, by go_num, .inl rfl, below_drewN hbl _⟩
                    case measure => simp [intOf]; omega
                · omega
              · have hzx : u2[i]'hl2' = x := by rw [hxe]; exact get_set_ne HU.out (fun e => hia e.symm) _ _
                rw [hzx] at hz
                clear hzx hxe hia
                rcases hcv with rfl | ⟨rfl, hlo⟩
                all_goals
                  go_wp2
                  go_quiet (fail)
                  go_wp2
                  go_roundw
                  case rel => first | exact ⟨i + 1, by omega, by go_num, .inr ⟨rfl, by omega⟩, below_drewN hbl _⟩ | exact ⟨i + 1, by omega, by go_num, .inl rfl, below_drewN hbl _⟩
                  case measure => simp [intOf]; omega
            · have hBe := below_then hB hB.size hbl
              have HMO' := Lib.hid (HMO.out.below hbl)
              obtain ⟨ho0, ho1, ho2⟩ := HMO'.out.cells
              have HCK := check_c _ _ _ _ _ HMO'.out.mem (by have := (rightB_iff.1 HR3.out).2.1; omega)
              rw [chkM_yes HR3.out] at HCK
              have HCK' := Lib.hid HCK
              clear HCK
              rcases hcv with rfl | ⟨rfl, _⟩
              all_goals
                go_wp2_with fail
                refine HCK'.out.mono ?_
                rintro e w9 ⟨rfl, hb⟩
                have hBf := below_then hBe hBe.size hb
                clear hb hBe
                go_wp2
                go_ret
                exact ⟨rfl, hBf⟩
      · have hba' : (ab == aa) = false := by simp; omega
        refine (step_yes _ 2 aa oa na us ms f w4 HM.out.mem hr rfl).mono ?_
        rintro e w5 ⟨hs, hb⟩
        obtain ⟨pN, cN, qN, dN, rfl, w5p, hw5p, HN, HNG, hbp⟩ := step_putO (us := u2) (f := f) (g := g) (d := true) hs hb.size HST.out
        have HM' := Lib.hid (((HM.out.below hb).below hbp))
        clear HM
        have HM := HM'
        clear HM'
        have HA' := Lib.hid (((HA.out.below hb).below hbp))
        clear HA
        have HA := HA'
        clear HA'
        have HC' := Lib.hid (((HC.out.below hb).below hbp))
        clear HC
        have HC := HC'
        clear HC'
        have HMN := Lib.hid HN
        have HGN := Lib.hid HNG
        have hBn := below_then (below_then hB hB.size hb) (Nat.le_trans hB.size hb.size) hbp
        have hszN := Nat.le_trans hb.size hbp.size
        clear hs HN HNG hb hbp hB
        have hB := hBn
        clear hBn
        unfold putMG at hw5p
        obtain ⟨ha0, ha1, ha2, ha3⟩ := HA.out.cells
        obtain ⟨hc0, hc1, hc2, hc3⟩ := HC.out.cells
        rw [hw5p] at ha0 ha1 ha2 ha3 hc0 hc1 hc2 hc3
        go_wp2_with fail
        rw [← hw5p]
        clear hw5p ha0 ha1 ha2 ha3 hc0 hc1 hc2 hc3
        have HM' := HM
        have HMN' := HMN
        have HGN' := HGN
        have HA' := HA
        have HC' := HC
        have hB' := hB
        have HNE := Lib.hid (show ab ≠ aa from fun e => hba e.symm)
        clear HM HMN HGN HA HC hB hba'
        obtain ⟨u3, f3, g3, d3, hr3, hl3, hR3, hV3, hD3, hF3⟩ := acc_other HRS.out HLS.out HNE.out f K ob nb
        have HQ3 := Lib.hid hr3
        have HL3 := Lib.hid hl3
        have HR3 := Lib.hid hR3
        have HV3 := Lib.hid hV3
        have HD3 := Lib.hid (hD3.trans HGD.out)
        have HF3 := Lib.hid hF3
        clear hr3 hl3 hR3 hV3 hD3 hF3
        have HM := HM'
        have HMN := HMN'
        have HA := HA'
        have hB := hB'
        clear HM' HMN' HGN' HA' HC' hB'
        refine (step_yes _ K ab ob nb u2 ms f w5p HMN.out.mem HRS.out (kindB_iff.2 hK1)).mono ?_
        rintro e w7 ⟨hs, hb⟩
        obtain ⟨pO, cO, qO, dO, rfl, w7p, hw7p, HN, HNG, hbp⟩ := step_putO (us := u3) (f := f3) (g := g3) (d := d3) hs hb.size HQ3.out
        have HM' := Lib.hid (((HM.out.below hb).below hbp))
        clear HM
        have HM := HM'
        clear HM'
        have HMN' := Lib.hid (((HMN.out.below hb).below hbp))
        clear HMN
        have HMN := HMN'
        clear HMN'
        have HA' := Lib.hid (((HA.out.below hb).below hbp))
        clear HA
        have HA := HA'
        clear HA'
        have HMO := Lib.hid HN
        have HGO := Lib.hid HNG
        have hBn := below_then (below_then hB hB.size hb) (Nat.le_trans hB.size hb.size) hbp
        have hszO := Nat.le_trans hb.size hbp.size
        clear hs HN HNG hb hbp hB
        have hB := hBn
        clear hBn
        unfold putMG at hw7p
        obtain ⟨ha0, ha1, ha2, ha3⟩ := HA.out.cells
        rw [hw7p] at ha0 ha1 ha2 ha3
        go_wp2_with fail
        rw [← hw7p]
        clear hw7p ha0 ha1 ha2 ha3
        have HF := Lib.hid (show (f = true ∧ f3 = true) ∨ (f = false ∧ f3 = true) ∨ (f = false ∧ f3 = false) by have := HF3.out; revert this; cases f <;> cases f3 <;> simp)
        clear HF3
        rcases HF.out with ⟨rfl, rfl⟩ | ⟨rfl, rfl⟩ | ⟨rfl, rfl⟩
        all_goals
          clear HF
          refine (step_yes _ 1 aa 0 0 u3 ms _ w7p HMO.out.mem HR3.out rfl).mono ?_
          rintro e w8 ⟨hs, hb⟩
          obtain ⟨pP, cP, qP, dP, rfl, w8p, hw8p, HN, HNG, hbp⟩ := step_putO (us := u3) (f := _) (g := na) (d := true) hs hb.size (by rw [accM_load HV3.out, HD3.out])
          have HM' := Lib.hid (((HM.out.below hb).below hbp))
          clear HM
          have HM := HM'
          clear HM'
          have HMN' := Lib.hid (((HMN.out.below hb).below hbp))
          clear HMN
          have HMN := HMN'
          clear HMN'
          have HMO' := Lib.hid (((HMO.out.below hb).below hbp))
          clear HMO
          have HMO := HMO'
          clear HMO'
          have HA' := Lib.hid (((HA.out.below hb).below hbp))
          clear HA
          have HA := HA'
          clear HA'
          have HMP := Lib.hid HN
          have HGP := Lib.hid HNG
          have hBn := below_then (below_then hB hB.size hb) (Nat.le_trans hB.size hb.size) hbp
          have hszP := Nat.le_trans hb.size hbp.size
          clear hs HN HNG hb hbp hB
          have hB := hBn
          clear hBn
          unfold putMG at hw8p
          obtain ⟨hm0, hm1, hm2⟩ := HM.out.cells
          obtain ⟨hn0, hn1, hn2⟩ := HMN.out.cells
          obtain ⟨ho0, ho1, ho2⟩ := HMO.out.cells
          obtain ⟨ha0, ha1, ha2, ha3⟩ := HA.out.cells
          rw [hw8p] at hm0 hm1 hm2 hn0 hn1 hn2 ho0 ho1 ho2 ha0 ha1 ha2 ha3
          go_wp2_with fail
          rw [← hw8p]
          clear hw8p hm0 hm1 hm2 hn0 hn1 hn2 ho0 ho1 ho2 ha0 ha1 ha2 ha3
          obtain ⟨b0, off0, rfl, hcs0⟩ := nums_cells HM.out.var.2.1 (by have := (rightB_iff.1 hr).1; omega)
          obtain ⟨b2, off2, rfl, hcs2⟩ := nums_cells HMN.out.var.2.1 (by have := (rightB_iff.1 hr).1; have := HUL.out; omega)
          have HCS0 := Lib.hid hcs0
          have HCS2 := Lib.hid hcs2
          clear hcs0 hcs2 HGO HGP HMP HQ3 HST HLS HGD HRS
          go_loopw [17, 130] (fun cv iv wr => ∃ i : Nat, i ≤ us.length ∧ iv = .int .i64 i ∧ (cv = .int .i64 0 ∨ (cv = .int .i64 1 ∧ aa.toNat < i)) ∧ Below w8p.heap.size w8p wr) (fun _ iv _ => us.length - (intOf iv).toNat)
          case atStart => exact ⟨0, Nat.zero_le _, rfl, .inl rfl, Below.refl _ _⟩
          case round =>
            obtain ⟨i, hi, rfl, hcv, hbl⟩ := hrel
            by_cases hlt : i < us.length
            · have hx := below_cell hbl (HCS0.out i hlt)
              have hz := below_cell hbl (HCS2.out i (by have := HUL.out; omega))
              have hm0 := below_cell hbl HM.out.cells.1
              have hn0 := below_cell hbl HMN.out.cells.1
              have hl2 : (i : Int) < (u2.length : Int) := by have := HUL.out; omega
              have hl2' : i < u2.length := by omega
              obtain ⟨x, hxe⟩ : ∃ x, x = us[i] := ⟨_, rfl⟩
              rw [← hxe] at hx
              by_cases hia : i = aa.toNat
              · obtain ⟨z, hze⟩ : ∃ z, z = u2[i]'hl2' := ⟨_, rfl⟩
                rw [← hze] at hz
                rcases hcv with rfl | ⟨_, hlo⟩
                · have HIA := Lib.hid hia
                  clear hxe hze hia
                  go_wp2
                  go_quiet (fail)
                  go_wp2
                  all_goals
                    go_roundw
                    case rel => first | exact ⟨i + 1, by omega, by go_num, .inr ⟨rfl, by have := HIA.out; omega⟩, below_drewN hbl _⟩ | exact ⟨i + 1, by omega, by go_num, .inl rfl, below_drewN hbl _⟩
                    case measure => simp [intOf]; omega
                · omega
              · have hzx : u2[i]'hl2' = x := by rw [hxe]; exact get_set_ne HU.out (fun e => hia e.symm) _ _
                rw [hzx] at hz
                clear hzx hxe hia
                rcases hcv with rfl | ⟨rfl, hlo⟩
                all_goals
                  go_wp2
                  go_quiet (fail)
                  go_wp2
                  go_roundw
                  case rel => first | exact ⟨i + 1, by omega, by go_num, .inr ⟨rfl, by omega⟩, below_drewN hbl _⟩ | exact ⟨i + 1, by omega, by go_num, .inl rfl, below_drewN hbl _⟩
                  case measure => simp [intOf]; omega
            · have hBe := below_then hB hB.size hbl
              have HMO' := Lib.hid (HMO.out.below hbl)
              obtain ⟨ho0, ho1, ho2⟩ := HMO'.out.cells
              have HCK := check_c _ _ _ _ _ HMO'.out.mem (by have := (rightB_iff.1 HR3.out).2.1; omega)
              rw [chkM_yes HR3.out] at HCK
              have HCK' := Lib.hid HCK
              clear HCK
              rcases hcv with rfl | ⟨rfl, _⟩
              all_goals
                go_wp2_with fail
                refine HCK'.out.mono ?_
                rintro e w9 ⟨rfl, hb⟩
                have hBf := below_then hBe hBe.size hb
                clear hb hBe
                go_wp2
                go_ret
                exact ⟨rfl, hBf⟩

end Go.Proofs.Ytelgaakjhjcopaa
