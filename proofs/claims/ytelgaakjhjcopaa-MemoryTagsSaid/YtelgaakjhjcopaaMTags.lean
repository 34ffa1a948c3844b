/-
  MemoryTags returns true; what was in memory stays.
  Conditions: the memory, and the row of pairs, are ones that came in.
-/
import Derived.Test.YtelgaakjhjcopaaMTagsLib
import Derived.Test.YtelgaakjhjcopaaMWakes
namespace Go.Proofs.Ytelgaakjhjcopaa
open Go.RowKit Go.Shelf

set_option maxRecDepth 100000 in
set_option maxHeartbeats 8000000 in
theorem tags_c (v0 v1 v : Value) (f : Bool) (ws : List Int) (ls : List Bool) (gs : List (Int × Int)) (W : World) (h0 : ArgR W v0 (ws.map (Value.int .u64))) (h1 : ArgR W v1 (ls.map Value.bool)) (hw : ws.length ≤ 9223372036854775807) (hl : ls.length ≤ 9223372036854775807)
    (hp : PairsAt W v gs) (hgs : ∀ g ∈ gs, I64 g.1 ∧ I64 g.2) (hgl : gs.length ≤ 9223372036854775807) :
    Calls Try.prog 3 #[.agg #[v0, v1, .bool f], v] W fun e w' => e = .returned (.bool true) ∧ Below W.heap.size W w' := by
  have h0' := h0
  have h1' := h1
  obtain ⟨p0, n0, c0, rfl, -, -⟩ := h0'
  obtain ⟨p1, n1, c1, rfl, -, -⟩ := h1'
  have H0 := Lib.hid h0
  have H1 := Lib.hid h1
  obtain ⟨pg, cg, rfl, hpg⟩ := hp
  have HPG := Lib.hid hpg
  have HGR := Lib.hid hgs
  clear h0 h1 hpg hgs
  obtain ⟨wo, hwo⟩ : ∃ wo : World, wo = W.alloc (.cells #[.slice p0 n0 c0, .slice p1 n1 c1, .bool f] 25) := ⟨_, rfl⟩
  have hB0 : Below W.heap.size W wo := by rw [hwo]; exact (Below.refl _ _).alloc (Nat.le_refl _) _
  have HX := Lib.hid (show MBox wo W.heap.size (.slice p0 n0 c0) (.slice p1 n1 c1) f by rw [hwo]; exact MBox.new _ _ _ _)
  go_enter Try.func3, Try.ntmps3
  go_wp2_with fail
  rw [← hwo]
  clear hwo
  refine (wakes_c _).mono ?_
  rintro e w1 ⟨rfl, hb1⟩
  have HX1 := HX.out.below hb1
  have hB1 := below_then hB0 hB0.size hb1
  obtain ⟨⟨hx0, hx1, hx2⟩, _⟩ := mbox_cells HX1
  clear hb1 hB0 HX HX1
  go_wp2_with fail
  refine (own_c _ _ f ws ls _ (H0.out.below hB1) (H1.out.below hB1) hw hl).mono ?_
  rintro e w2 ⟨hg, hb2⟩
  obtain ⟨q0, d0, q1, d1, rfl, w3, hw3, hM, hb3⟩ := own_putP hg hb2.size
  have hul : (ws.take 64).length ≤ 64 := by simp; omega
  have hml : (ls.take 64).length ≤ 64 := by simp; omega
  have HM0 := Lib.hid (hM.wide hB1.size (Nat.le_refl _))
  have hB := below_then (below_then hB1 hB1.size hb2) (Nat.le_trans hB1.size hb2.size) hb3
  clear hg H0 H1 hw hl hx0 hx1 hx2 hM hB1 hb2 hb3
  generalize ws.take 64 = us at hul HM0 hw3
  generalize ls.take 64 = ms at hml HM0 hw3
  unfold putM at hw3
  go_wp2
  rw [← hw3]
  clear hw3
  obtain ⟨z5, hz5⟩ : ∃ z, z = w2.heap.size := ⟨_, rfl⟩
  rw [← hz5]
  rw [← hz5] at HM0
  clear hz5
  have HB0 := Lib.hid hB
  have HUL := Lib.hid hul
  have HML := Lib.hid hml
  clear hB hul hml
  go_loopw [24] (fun iv wr => ∃ (i : Nat) (pa : Option Addr) (ca : Nat) (pb : Option Addr) (cb : Nat) (us : List Int) (ms : List Bool), i ≤ gs.length ∧ iv = .int .i64 i ∧ PVar wr W.heap.size wr.heap.size z5 (.slice pa us.length ca) (.slice pb ms.length cb) us ms f ∧ us.length ≤ 64 ∧ ms.length ≤ 64 ∧ Below W.heap.size W wr) (fun iv _ => gs.length - (intOf iv).toNat)
  case atStart => exact ⟨0, _, _, _, _, _, _, Nat.zero_le _, rfl, HM0.out, HUL.out, HML.out, HB0.out⟩
  case round =>
    obtain ⟨i, pa, ca, pb, cb, us, ms, hi, rfl, hm, hul, hml, hB⟩ := hrel
    clear HM0 HB0 HUL HML
    by_cases hlt : i < gs.length
    · obtain ⟨bg, og, rfl, hcs⟩ := HPG.out (by intro e; rw [e] at hlt; cases hlt)
      obtain ⟨a, k, hak⟩ : ∃ a k, gs[i] = (a, k) := ⟨_, _, rfl⟩
      have hrg := HGR.out (a, k) (hak ▸ List.getElem_mem hlt)
      obtain ⟨hg0, hg1⟩ := hcs i hlt
      rw [hak] at hg0 hg1
      have hg0 := below_cell hB hg0
      have hg1 := below_cell hB hg1
      simp only at hg0 hg1
      have hk2 : k ≤ 9223372036854775807 := hrg.2.2
      have ha1 : -9223372036854775808 ≤ a := hrg.1.1
      have HM := Lib.hid hm
      have hcap := (own_cap hm.lives).1
      clear hm hcs hak hrg
      by_cases h8 : i = 8
      · have hd : ((i : Int) == 8) = true := by simp [h8]
        have hBe := hB.alloc hB.size (.cells #[.int .i64 a, .int .i64 k] 29)
        have HBE := Lib.hid hBe
        clear h8 hBe hB HM
        go_wp2
        go_ret
        exact ⟨rfl, HBE.out⟩
      · have hd : ((i : Int) == 8) = false := by simp; omega
        clear h8
        obtain ⟨wP, hwP⟩ : ∃ x : World, x = wr.alloc (.cells #[.int .i64 a, .int .i64 k] 29) := ⟨_, rfl⟩
        obtain ⟨zP, hzP⟩ : ∃ x, x = wr.heap.size := ⟨_, rfl⟩
        have hbP : Below wr.heap.size wr wP := by rw [hwP]; exact (Below.refl _ _).alloc (Nat.le_refl _) _
        have HP := Lib.hid (show PBox wP zP a k by rw [hwP, hzP]; exact World.alloc_heap_new _ _)
        have HM' := Lib.hid (HM.out.below hbP)
        have hszP : wP.heap.size = zP + 1 := by rw [hwP, hzP]; simp
        have hszP' : zP + 1 ≤ wP.heap.size := by omega
        have hBn := below_then hB hB.size hbP
        have hWP := hB.size
        rw [← hzP] at HM' hWP
        clear HM hB hbP hszP
        have HM := HM'
        have hB := hBn
        clear HM' hBn
        obtain ⟨hm0, hm1, hm2⟩ := HM.out.cells
        rw [hwP] at hm0 hm1 hm2
        go_wp2_with fail
        rw [← hwP, ← hzP]
        clear hwP hzP hm0 hm1 hm2 hg0 hg1
        refine (own_p HM.out (by omega) (by omega)).mono ?_
        rintro e ww ⟨hg, hb⟩
        obtain ⟨pHW, cHW, qHW, dHW, rfl, wwp, hwwp, hN, hbp⟩ := own_putP hg hb.size
        have HM' := Lib.hid (((HM.out.below hb).below hbp))
        clear HM
        have HM := HM'
        clear HM'
        have HP' := Lib.hid (((HP.out.below hb).below hbp))
        clear HP
        have HP := HP'
        clear HP'
        have HW := Lib.hid hN
        have hBn := below_then (below_then hB hB.size hb) (Nat.le_trans hB.size hb.size) hbp
        have hszww := Nat.le_trans hb.size hbp.size
        clear hg hN hb hbp hB
        have hB := hBn
        clear hBn
        unfold putM at hwwp
        obtain ⟨hm0, hm1, hm2⟩ := HM.out.cells
        obtain ⟨hp0, hp1⟩ := HP.out.cells
        rw [hwwp] at hm0 hm1 hm2 hp0 hp1
        go_wp2_with fail
        rw [← hwwp]
        clear hwwp hm0 hm1 hm2 hp0 hp1
        rcases tag_cases us ms a k with hr | ⟨hr, ht⟩ | ⟨hr, ht, hc0, hc1⟩ | ⟨hr, ht, hc0, hc1⟩ | ⟨hr, ht, hc0, hc1⟩
        · refine (live_no _ us ms f a k wwp HM.out.mem (cap_mk hcap) (by omega) hk2 120 (.inl ⟨hr, rfl⟩)).mono ?_
          rintro e wa ⟨rfl, hb⟩
          unfold memZ
          obtain ⟨wap, hwap⟩ : ∃ x, x = putM wa (.slice none 0 0) (.slice none 0 0) false := ⟨_, rfl⟩
          have hbp : Below wa.heap.size wa wap := by rw [hwap]; exact putM_below _ _ _ _
          have hN := nil_putP _ wa hb.size
          rw [← hwap] at hN
          have HM' := Lib.hid (((HM.out.below hb).below hbp))
          clear HM
          have HM := HM'
          clear HM'
          have HW' := Lib.hid (((HW.out.below hb).below hbp))
          clear HW
          have HW := HW'
          clear HW'
          have HP' := Lib.hid (((HP.out.below hb).below hbp))
          clear HP
          have HP := HP'
          clear HP'
          have HA := Lib.hid hN
          have hBn := below_then (below_then hB hB.size hb) (Nat.le_trans hB.size hb.size) hbp
          have hszwa := Nat.le_trans hb.size hbp.size
          clear hN hb hbp hB
          have hB := hBn
          clear hBn
          unfold putM at hwap
          obtain ⟨hm0, hm1, hm2⟩ := HM.out.cells
          obtain ⟨hp0, hp1⟩ := HP.out.cells
          rw [hwap] at hm0 hm1 hm2 hp0 hp1
          go_wp2_with fail
          rw [← hwap]
          clear hwap hm0 hm1 hm2 hp0 hp1
          refine (free_no _ us ms f a k wap HM.out.mem (cap_mk hcap) (by omega) hk2 120 (.inl ⟨hr, rfl⟩)).mono ?_
          rintro e wb ⟨rfl, hb⟩
          unfold memZ
          obtain ⟨wbp, hwbp⟩ : ∃ x, x = putM wb (.slice none 0 0) (.slice none 0 0) false := ⟨_, rfl⟩
          have hbp : Below wb.heap.size wb wbp := by rw [hwbp]; exact putM_below _ _ _ _
          have hN := nil_putP _ wb hb.size
          rw [← hwbp] at hN
          obtain ⟨wbq, hwbq⟩ : ∃ x, x = putM wbp (.slice none 0 0) (.slice none 0 0) false := ⟨_, rfl⟩
          have hbq : Below wbp.heap.size wbp wbq := by rw [hwbq]; exact putM_below _ _ _ _
          obtain ⟨wbr, hwbr⟩ : ∃ x, x = putM wbq (.slice none 0 0) (.slice none 0 0) false := ⟨_, rfl⟩
          have hbr : Below wbq.heap.size wbq wbr := by rw [hwbr]; exact putM_below _ _ _ _
          have hszl : wbp.heap.size = wb.heap.size + 1 := by rw [hwbp]; exact putM_size _ _ _ _
          have hszf : wbq.heap.size = wb.heap.size + 1 + 1 := by rw [hwbq, putM_size, hszl]
          have HL := Lib.hid (show MBox wbr (wb.heap.size + 1) (.slice none 0 0) (.slice none 0 0) false by rw [← hszl]; exact MBox.below (show MBox wbq wbp.heap.size _ _ false by rw [hwbq]; exact putM_box _ _ _ _) hbr)
          have HF := Lib.hid (show MBox wbr (wb.heap.size + 1 + 1) (.slice none 0 0) (.slice none 0 0) false by rw [← hszf, hwbr]; exact putM_box _ _ _ _)
          have hszh : wbp.heap.size ≤ wb.heap.size + 1 := by omega
          have HM' := Lib.hid (((((HM.out.below hb).below hbp).below hbq).below hbr))
          clear HM
          have HM := HM'
          clear HM'
          have HW' := Lib.hid (((((HW.out.below hb).below hbp).below hbq).below hbr))
          clear HW
          have HW := HW'
          clear HW'
          have HP' := Lib.hid (((((HP.out.below hb).below hbp).below hbq).below hbr))
          clear HP
          have HP := HP'
          clear HP'
          have HA' := Lib.hid (((((HA.out.below hb).below hbp).below hbq).below hbr))
          clear HA
          have HA := HA'
          clear HA'
          have HB := Lib.hid ((hN.below hbq).below hbr)
          have hBn := below_then (below_then (below_then (below_then hB hB.size hb) (Nat.le_trans hB.size hb.size) hbp) (Nat.le_trans hB.size (Nat.le_trans hb.size hbp.size)) hbq) (Nat.le_trans hB.size (Nat.le_trans hb.size (Nat.le_trans hbp.size hbq.size))) hbr
          have hszwb := Nat.le_trans hb.size hbp.size
          have hszwb2 := Nat.le_trans hbq.size hbr.size
          clear hN hb hbp hbq hbr hB
          have hB := hBn
          clear hBn
          unfold putM at hwbr hwbq hwbp
          rw [hwbq, hwbp] at hwbr
          obtain ⟨hm0, hm1, hm2⟩ := HM.out.cells
          rw [hwbr] at hm0 hm1 hm2
          go_wp2_with fail
          rw [← hwbr]
          clear hwbr hwbq hwbp hszf hszl hm0 hm1 hm2
          have HCK := refRight_c _ us ms f wbr HM.out.mem (by omega)
          rw [hr] at HCK
          refine HCK.mono ?_
          rintro e wc ⟨rfl, hb⟩
          have HM' := Lib.hid ((HM.out.below hb))
          clear HM
          have HM := HM'
          clear HM'
          have HW' := Lib.hid ((HW.out.below hb))
          clear HW
          have HW := HW'
          clear HW'
          have HP' := Lib.hid ((HP.out.below hb))
          clear HP
          have HP := HP'
          clear HP'
          have HA' := Lib.hid ((HA.out.below hb))
          clear HA
          have HA := HA'
          clear HA'
          have HB' := Lib.hid ((HB.out.below hb))
          clear HB
          have HB := HB'
          clear HB'
          have HL' := Lib.hid ((HL.out.below hb))
          clear HL
          have HL := HL'
          clear HL'
          have HF' := Lib.hid ((HF.out.below hb))
          clear HF
          have HF := HF'
          clear HF'
          have hBn := below_then hB hB.size hb
          have hszwc := hb.size
          clear hb hB
          clear HCK
          have hB := hBn
          clear hBn
          obtain ⟨ha0, ha1, ha2⟩ := HA.out.cells
          obtain ⟨hl0, hl1, hl2⟩ := HL.out.cells
          go_wp2_with fail
          clear ha0 ha1 ha2 hl0 hl1 hl2
          refine (refSame_t _ _ [] [] false wc HA.out.mem (nil_mem _) (by first | omega | decide) (by first | omega | decide)).mono ?_
          rintro e we ⟨rfl, hb⟩
          have HM' := Lib.hid ((HM.out.below hb))
          clear HM
          have HM := HM'
          clear HM'
          have HW' := Lib.hid ((HW.out.below hb))
          clear HW
          have HW := HW'
          clear HW'
          have HA' := Lib.hid ((HA.out.below hb))
          clear HA
          have HA := HA'
          clear HA'
          have HB' := Lib.hid ((HB.out.below hb))
          clear HB
          have HB := HB'
          clear HB'
          have HF' := Lib.hid ((HF.out.below hb))
          clear HF
          have HF := HF'
          clear HF'
          have hBn := below_then hB hB.size hb
          have hszwe := hb.size
          clear hb hB
          have hB := hBn
          clear hBn
          obtain ⟨hb0, hb1, hb2⟩ := HB.out.cells
          obtain ⟨hf0, hf1, hf2⟩ := HF.out.cells
          go_wp2_with fail
          clear hb0 hb1 hb2 hf0 hf1 hf2
          refine (refSame_t _ _ [] [] false we HB.out.mem (nil_mem _) (by first | omega | decide) (by first | omega | decide)).mono ?_
          rintro e w6 ⟨rfl, hb⟩
          obtain ⟨w6p, hw6p⟩ : ∃ x, x = putM w6 (.slice pa us.length ca) (.slice pb ms.length cb) f := ⟨_, rfl⟩
          have hbp : Below w6.heap.size w6 w6p := by rw [hw6p]; exact putM_below _ _ _ _
          have HN := Lib.hid (show MBox w6p w6.heap.size (.slice pa us.length ca) (.slice pb ms.length cb) f by rw [hw6p]; exact putM_box _ _ _ _)
          obtain ⟨hm0, hm1, hm2⟩ := (HM.out.below hb).cells
          have HM' := Lib.hid (((HM.out.below hb).below hbp))
          clear HM
          have HM := HM'
          clear HM'
          have HW' := Lib.hid (((HW.out.below hb).below hbp))
          clear HW
          have HW := HW'
          clear HW'
          have HA' := Lib.hid (((HA.out.below hb).below hbp))
          clear HA
          have HA := HA'
          clear HA'
          have HB' := Lib.hid (((HB.out.below hb).below hbp))
          clear HB
          have HB := HB'
          clear HB'
          have hBn := below_then (below_then hB hB.size hb) (Nat.le_trans hB.size hb.size) hbp
          have hszw6 := Nat.le_trans hb.size hbp.size
          have hsz6 := hb.size
          clear hb hbp hB HP
          have hB := hBn
          clear hBn
          unfold putM at hw6p
          obtain ⟨ha0, ha1, ha2⟩ := HA.out.cells
          rw [hw6p] at ha0 ha1 ha2
          go_wp2_with fail
          rw [← hw6p]
          clear hw6p hm0 hm1 hm2 ha0 ha1 ha2
          refine (spoil_p HA.out (by first | omega | decide) (by first | omega | decide)).mono ?_
          rintro e w8 ⟨rfl, hk⟩
          have HM' := Lib.hid (HM.out.keeps hk (by intro q hq; obtain ⟨hq1, hq2⟩ := hq; omega))
          clear HM
          have HM := HM'
          clear HM'
          have HW' := Lib.hid (HW.out.keeps hk (by intro q hq; obtain ⟨hq1, hq2⟩ := hq; omega))
          clear HW
          have HW := HW'
          clear HW'
          have HB' := Lib.hid (HB.out.keeps hk (by intro q hq; obtain ⟨hq1, hq2⟩ := hq; omega))
          clear HB
          have HB := HB'
          clear HB'
          have HN' := Lib.hid (HN.out.keeps hk (by intro hq; obtain ⟨hq1, hq2⟩ := hq; omega))
          clear HN
          have HN := HN'
          clear HN'
          have hBn : Below W.heap.size W w8 := hB.trans (hk.below hB.size (fun q hq => by obtain ⟨hq1, hq2⟩ := hq; omega))
          have hszw8 := hk.size
          clear hk hB HA
          have hB := hBn
          clear hBn
          obtain ⟨hb0, hb1, hb2⟩ := HB.out.cells
          go_wp2_with fail
          clear hb0 hb1 hb2
          refine (spoil_p HB.out (by first | omega | decide) (by first | omega | decide)).mono ?_
          rintro e w9 ⟨rfl, hk⟩
          have HM' := Lib.hid (HM.out.keeps hk (by intro q hq; obtain ⟨hq1, hq2⟩ := hq; omega))
          clear HM
          have HM := HM'
          clear HM'
          have HW' := Lib.hid (HW.out.keeps hk (by intro q hq; obtain ⟨hq1, hq2⟩ := hq; omega))
          clear HW
          have HW := HW'
          clear HW'
          have HN' := Lib.hid (HN.out.keeps hk (by intro hq; obtain ⟨hq1, hq2⟩ := hq; omega))
          clear HN
          have HN := HN'
          clear HN'
          have hBn : Below W.heap.size W w9 := hB.trans (hk.below hB.size (fun q hq => by obtain ⟨hq1, hq2⟩ := hq; omega))
          have hszw9 := hk.size
          clear hk hB HB
          have hB := hBn
          clear hBn
          obtain ⟨hm0, hm1, hm2⟩ := HM.out.cells
          obtain ⟨hw0, hw1, hw2⟩ := HW.out.cells
          go_wp2_with fail
          clear hm0 hm1 hm2 hw0 hw1 hw2
          refine (refSame_t _ _ us ms f w9 HM.out.mem HW.out.mem (by omega) (by omega)).mono ?_
          rintro e wx ⟨rfl, hb⟩
          have HM' := Lib.hid ((HM.out.below hb))
          clear HM
          have HM := HM'
          clear HM'
          have HN' := Lib.hid ((HN.out.below hb))
          clear HN
          have HN := HN'
          clear HN'
          have hBn := below_then hB hB.size hb
          clear hb hB HW
          have hB := hBn
          clear hBn
          obtain ⟨hm0, hm1, hm2⟩ := HM.out.cells
          obtain ⟨hn0, hn1, hn2⟩ := HN.out.cells
          obtain ⟨hf0, hf1, hf2⟩ := HM.out.free
          have HE := Lib.hid (put_back (f := f) (lo0 := W.heap.size) HM.out.box HM.out.words HM.out.lives (Nat.le_refl _) HM.out.from')
          have HBE := Lib.hid (((hB.setCell (p := ⟨z5, 0, none⟩) HM.out.from' (.slice pa us.length ca)).setCell (p := ⟨z5, 1, none⟩) HM.out.from' (.slice pb ms.length cb)).setCell (p := ⟨z5, 2, none⟩) HM.out.from' (.bool f))
          clear HM HN hB
          go_wp2
          go_roundw
          case rel => exact ⟨i + 1, _, _, _, _, _, _, by omega, by go_num, HE.out, by omega, by omega, HBE.out⟩
          case measure => simp [intOf]; omega
        · refine (live_no _ us ms f a k wwp HM.out.mem (cap_mk hcap) (by omega) hk2 2 (.inr (.inl ⟨hr, ht, rfl⟩))).mono ?_
          rintro e wa ⟨rfl, hb⟩
          unfold memZ
          obtain ⟨wap, hwap⟩ : ∃ x, x = putM wa (.slice none 0 0) (.slice none 0 0) false := ⟨_, rfl⟩
          have hbp : Below wa.heap.size wa wap := by rw [hwap]; exact putM_below _ _ _ _
          have hN := nil_putP _ wa hb.size
          rw [← hwap] at hN
          have HM' := Lib.hid (((HM.out.below hb).below hbp))
          clear HM
          have HM := HM'
          clear HM'
          have HW' := Lib.hid (((HW.out.below hb).below hbp))
          clear HW
          have HW := HW'
          clear HW'
          have HP' := Lib.hid (((HP.out.below hb).below hbp))
          clear HP
          have HP := HP'
          clear HP'
          have HA := Lib.hid hN
          have hBn := below_then (below_then hB hB.size hb) (Nat.le_trans hB.size hb.size) hbp
          have hszwa := Nat.le_trans hb.size hbp.size
          clear hN hb hbp hB
          have hB := hBn
          clear hBn
          unfold putM at hwap
          obtain ⟨hm0, hm1, hm2⟩ := HM.out.cells
          obtain ⟨hp0, hp1⟩ := HP.out.cells
          rw [hwap] at hm0 hm1 hm2 hp0 hp1
          go_wp2_with fail
          rw [← hwap]
          clear hwap hm0 hm1 hm2 hp0 hp1
          refine (free_no _ us ms f a k wap HM.out.mem (cap_mk hcap) (by omega) hk2 2 (.inr (.inl ⟨hr, ht, rfl⟩))).mono ?_
          rintro e wb ⟨rfl, hb⟩
          unfold memZ
          obtain ⟨wbp, hwbp⟩ : ∃ x, x = putM wb (.slice none 0 0) (.slice none 0 0) false := ⟨_, rfl⟩
          have hbp : Below wb.heap.size wb wbp := by rw [hwbp]; exact putM_below _ _ _ _
          have hN := nil_putP _ wb hb.size
          rw [← hwbp] at hN
          obtain ⟨wbq, hwbq⟩ : ∃ x, x = putM wbp (.slice none 0 0) (.slice none 0 0) false := ⟨_, rfl⟩
          have hbq : Below wbp.heap.size wbp wbq := by rw [hwbq]; exact putM_below _ _ _ _
          obtain ⟨wbr, hwbr⟩ : ∃ x, x = putM wbq (.slice none 0 0) (.slice none 0 0) false := ⟨_, rfl⟩
          have hbr : Below wbq.heap.size wbq wbr := by rw [hwbr]; exact putM_below _ _ _ _
          have hszl : wbp.heap.size = wb.heap.size + 1 := by rw [hwbp]; exact putM_size _ _ _ _
          have hszf : wbq.heap.size = wb.heap.size + 1 + 1 := by rw [hwbq, putM_size, hszl]
          have HL := Lib.hid (show MBox wbr (wb.heap.size + 1) (.slice none 0 0) (.slice none 0 0) false by rw [← hszl]; exact MBox.below (show MBox wbq wbp.heap.size _ _ false by rw [hwbq]; exact putM_box _ _ _ _) hbr)
          have HF := Lib.hid (show MBox wbr (wb.heap.size + 1 + 1) (.slice none 0 0) (.slice none 0 0) false by rw [← hszf, hwbr]; exact putM_box _ _ _ _)
          have hszh : wbp.heap.size ≤ wb.heap.size + 1 := by omega
          have HM' := Lib.hid (((((HM.out.below hb).below hbp).below hbq).below hbr))
          clear HM
          have HM := HM'
          clear HM'
          have HW' := Lib.hid (((((HW.out.below hb).below hbp).below hbq).below hbr))
          clear HW
          have HW := HW'
          clear HW'
          have HP' := Lib.hid (((((HP.out.below hb).below hbp).below hbq).below hbr))
          clear HP
          have HP := HP'
          clear HP'
          have HA' := Lib.hid (((((HA.out.below hb).below hbp).below hbq).below hbr))
          clear HA
          have HA := HA'
          clear HA'
          have HB := Lib.hid ((hN.below hbq).below hbr)
          have hBn := below_then (below_then (below_then (below_then hB hB.size hb) (Nat.le_trans hB.size hb.size) hbp) (Nat.le_trans hB.size (Nat.le_trans hb.size hbp.size)) hbq) (Nat.le_trans hB.size (Nat.le_trans hb.size (Nat.le_trans hbp.size hbq.size))) hbr
          have hszwb := Nat.le_trans hb.size hbp.size
          have hszwb2 := Nat.le_trans hbq.size hbr.size
          clear hN hb hbp hbq hbr hB
          have hB := hBn
          clear hBn
          unfold putM at hwbr hwbq hwbp
          rw [hwbq, hwbp] at hwbr
          obtain ⟨hm0, hm1, hm2⟩ := HM.out.cells
          rw [hwbr] at hm0 hm1 hm2
          go_wp2_with fail
          rw [← hwbr]
          clear hwbr hwbq hwbp hszf hszl hm0 hm1 hm2
          have HCK := refRight_c _ us ms f wbr HM.out.mem (by omega)
          rw [hr] at HCK
          refine HCK.mono ?_
          rintro e wc ⟨rfl, hb⟩
          have HM' := Lib.hid ((HM.out.below hb))
          clear HM
          have HM := HM'
          clear HM'
          have HW' := Lib.hid ((HW.out.below hb))
          clear HW
          have HW := HW'
          clear HW'
          have HP' := Lib.hid ((HP.out.below hb))
          clear HP
          have HP := HP'
          clear HP'
          have HA' := Lib.hid ((HA.out.below hb))
          clear HA
          have HA := HA'
          clear HA'
          have HB' := Lib.hid ((HB.out.below hb))
          clear HB
          have HB := HB'
          clear HB'
          have HL' := Lib.hid ((HL.out.below hb))
          clear HL
          have HL := HL'
          clear HL'
          have HF' := Lib.hid ((HF.out.below hb))
          clear HF
          have HF := HF'
          clear HF'
          have hBn := below_then hB hB.size hb
          have hszwc := hb.size
          clear hb hB
          clear HCK
          have hB := hBn
          clear hBn
          obtain ⟨hm0, hm1, hm2⟩ := HM.out.cells
          obtain ⟨hp0, hp1⟩ := HP.out.cells
          go_wp2_with fail
          clear hm0 hm1 hm2 hp0 hp1
          have HCK := refIn_c pa us.length ca (.slice pb ms.length cb) ⟨_, _, _, rfl⟩ f a k wc (by omega) ha1 hk2
          rw [ht] at HCK
          refine HCK.mono ?_
          rintro e wd ⟨rfl, hb⟩
          have HM' := Lib.hid ((HM.out.below hb))
          clear HM
          have HM := HM'
          clear HM'
          have HW' := Lib.hid ((HW.out.below hb))
          clear HW
          have HW := HW'
          clear HW'
          have HP' := Lib.hid ((HP.out.below hb))
          clear HP
          have HP := HP'
          clear HP'
          have HA' := Lib.hid ((HA.out.below hb))
          clear HA
          have HA := HA'
          clear HA'
          have HB' := Lib.hid ((HB.out.below hb))
          clear HB
          have HB := HB'
          clear HB'
          have HL' := Lib.hid ((HL.out.below hb))
          clear HL
          have HL := HL'
          clear HL'
          have HF' := Lib.hid ((HF.out.below hb))
          clear HF
          have HF := HF'
          clear HF'
          have hBn := below_then hB hB.size hb
          have hszwd := hb.size
          clear hb hB
          clear HCK
          have hB := hBn
          clear hBn
          obtain ⟨ha0, ha1, ha2⟩ := HA.out.cells
          obtain ⟨hl0, hl1, hl2⟩ := HL.out.cells
          go_wp2_with fail
          clear ha0 ha1 ha2 hl0 hl1 hl2
          refine (refSame_t _ _ [] [] false wd HA.out.mem (nil_mem _) (by first | omega | decide) (by first | omega | decide)).mono ?_
          rintro e we ⟨rfl, hb⟩
          have HM' := Lib.hid ((HM.out.below hb))
          clear HM
          have HM := HM'
          clear HM'
          have HW' := Lib.hid ((HW.out.below hb))
          clear HW
          have HW := HW'
          clear HW'
          have HA' := Lib.hid ((HA.out.below hb))
          clear HA
          have HA := HA'
          clear HA'
          have HB' := Lib.hid ((HB.out.below hb))
          clear HB
          have HB := HB'
          clear HB'
          have HF' := Lib.hid ((HF.out.below hb))
          clear HF
          have HF := HF'
          clear HF'
          have hBn := below_then hB hB.size hb
          have hszwe := hb.size
          clear hb hB
          have hB := hBn
          clear hBn
          obtain ⟨hb0, hb1, hb2⟩ := HB.out.cells
          obtain ⟨hf0, hf1, hf2⟩ := HF.out.cells
          go_wp2_with fail
          clear hb0 hb1 hb2 hf0 hf1 hf2
          refine (refSame_t _ _ [] [] false we HB.out.mem (nil_mem _) (by first | omega | decide) (by first | omega | decide)).mono ?_
          rintro e w6 ⟨rfl, hb⟩
          obtain ⟨w6p, hw6p⟩ : ∃ x, x = putM w6 (.slice pa us.length ca) (.slice pb ms.length cb) f := ⟨_, rfl⟩
          have hbp : Below w6.heap.size w6 w6p := by rw [hw6p]; exact putM_below _ _ _ _
          have HN := Lib.hid (show MBox w6p w6.heap.size (.slice pa us.length ca) (.slice pb ms.length cb) f by rw [hw6p]; exact putM_box _ _ _ _)
          obtain ⟨hm0, hm1, hm2⟩ := (HM.out.below hb).cells
          have HM' := Lib.hid (((HM.out.below hb).below hbp))
          clear HM
          have HM := HM'
          clear HM'
          have HW' := Lib.hid (((HW.out.below hb).below hbp))
          clear HW
          have HW := HW'
          clear HW'
          have HA' := Lib.hid (((HA.out.below hb).below hbp))
          clear HA
          have HA := HA'
          clear HA'
          have HB' := Lib.hid (((HB.out.below hb).below hbp))
          clear HB
          have HB := HB'
          clear HB'
          have hBn := below_then (below_then hB hB.size hb) (Nat.le_trans hB.size hb.size) hbp
          have hszw6 := Nat.le_trans hb.size hbp.size
          have hsz6 := hb.size
          clear hb hbp hB HP
          have hB := hBn
          clear hBn
          unfold putM at hw6p
          obtain ⟨ha0, ha1, ha2⟩ := HA.out.cells
          rw [hw6p] at ha0 ha1 ha2
          go_wp2_with fail
          rw [← hw6p]
          clear hw6p hm0 hm1 hm2 ha0 ha1 ha2
          refine (spoil_p HA.out (by first | omega | decide) (by first | omega | decide)).mono ?_
          rintro e w8 ⟨rfl, hk⟩
          have HM' := Lib.hid (HM.out.keeps hk (by intro q hq; obtain ⟨hq1, hq2⟩ := hq; omega))
          clear HM
          have HM := HM'
          clear HM'
          have HW' := Lib.hid (HW.out.keeps hk (by intro q hq; obtain ⟨hq1, hq2⟩ := hq; omega))
          clear HW
          have HW := HW'
          clear HW'
          have HB' := Lib.hid (HB.out.keeps hk (by intro q hq; obtain ⟨hq1, hq2⟩ := hq; omega))
          clear HB
          have HB := HB'
          clear HB'
          have HN' := Lib.hid (HN.out.keeps hk (by intro hq; obtain ⟨hq1, hq2⟩ := hq; omega))
          clear HN
          have HN := HN'
          clear HN'
          have hBn : Below W.heap.size W w8 := hB.trans (hk.below hB.size (fun q hq => by obtain ⟨hq1, hq2⟩ := hq; omega))
          have hszw8 := hk.size
          clear hk hB HA
          have hB := hBn
          clear hBn
          obtain ⟨hb0, hb1, hb2⟩ := HB.out.cells
          go_wp2_with fail
          clear hb0 hb1 hb2
          refine (spoil_p HB.out (by first | omega | decide) (by first | omega | decide)).mono ?_
          rintro e w9 ⟨rfl, hk⟩
          have HM' := Lib.hid (HM.out.keeps hk (by intro q hq; obtain ⟨hq1, hq2⟩ := hq; omega))
          clear HM
          have HM := HM'
          clear HM'
          have HW' := Lib.hid (HW.out.keeps hk (by intro q hq; obtain ⟨hq1, hq2⟩ := hq; omega))
          clear HW
          have HW := HW'
          clear HW'
          have HN' := Lib.hid (HN.out.keeps hk (by intro hq; obtain ⟨hq1, hq2⟩ := hq; omega))
          clear HN
          have HN := HN'
          clear HN'
          have hBn : Below W.heap.size W w9 := hB.trans (hk.below hB.size (fun q hq => by obtain ⟨hq1, hq2⟩ := hq; omega))
          have hszw9 := hk.size
          clear hk hB HB
          have hB := hBn
          clear hBn
          obtain ⟨hm0, hm1, hm2⟩ := HM.out.cells
          obtain ⟨hw0, hw1, hw2⟩ := HW.out.cells
          go_wp2_with fail
          clear hm0 hm1 hm2 hw0 hw1 hw2
          refine (refSame_t _ _ us ms f w9 HM.out.mem HW.out.mem (by omega) (by omega)).mono ?_
          rintro e wx ⟨rfl, hb⟩
          have HM' := Lib.hid ((HM.out.below hb))
          clear HM
          have HM := HM'
          clear HM'
          have HN' := Lib.hid ((HN.out.below hb))
          clear HN
          have HN := HN'
          clear HN'
          have hBn := below_then hB hB.size hb
          clear hb hB HW
          have hB := hBn
          clear hBn
          obtain ⟨hm0, hm1, hm2⟩ := HM.out.cells
          obtain ⟨hn0, hn1, hn2⟩ := HN.out.cells
          obtain ⟨hf0, hf1, hf2⟩ := HM.out.free
          have HE := Lib.hid (put_back (f := f) (lo0 := W.heap.size) HM.out.box HM.out.words HM.out.lives (Nat.le_refl _) HM.out.from')
          have HBE := Lib.hid (((hB.setCell (p := ⟨z5, 0, none⟩) HM.out.from' (.slice pa us.length ca)).setCell (p := ⟨z5, 1, none⟩) HM.out.from' (.slice pb ms.length cb)).setCell (p := ⟨z5, 2, none⟩) HM.out.from' (.bool f))
          clear HM HN hB
          go_wp2
          go_roundw
          case rel => exact ⟨i + 1, _, _, _, _, _, _, by omega, by go_num, HE.out, by omega, by omega, HBE.out⟩
          case measure => simp [intOf]; omega
        · obtain ⟨hk0, hax0, hakl⟩ := thereB_iff.1 ht
          obtain ⟨x, rfl⟩ := Int.eq_ofNat_of_zero_le hax0
          obtain ⟨n, rfl⟩ := Int.eq_ofNat_of_zero_le (show 0 ≤ k by omega)
          have hlen := (rightB_iff.1 hr).2.2.1
          have HLEN := Lib.hid hlen
          have hxn : x + n ≤ ms.length := by omega
          have hxnu : x + n ≤ us.length := by omega
          have hk1 : 1 ≤ n := by omega
          have HC0 := Lib.hid hc0
          have HC1 := Lib.hid hc1
          have HAF := Lib.hid (show allB ms x n false = true by rw [allB_false hxn]; simpa using hc0)
          have HAT := Lib.hid (show allB ms x n true = false by rw [allB_live hxn]; simp at hc1 ⊢; omega)
          clear hc0 hc1 hlen hk0 hax0 hakl
          obtain ⟨uD, huD⟩ : ∃ l, l = fill us x 0 n := ⟨_, rfl⟩
          obtain ⟨mD, hmD⟩ : ∃ l, l = fill ms x true n := ⟨_, rfl⟩
          have huDl : uD.length ≤ 64 := by rw [huD, fill_length]; exact hul
          have hmDl : mD.length ≤ 64 := by rw [hmD, fill_length]; exact hml
          have HUD := Lib.hid huD
          have HMD := Lib.hid hmD
          clear huD hmD
          have HLV := live_yes _ us ms f (x : Int) (n : Int) wwp HM.out.mem (cap_mk hcap) (by omega) hk2 hr ht HC0.out
          rw [Int.toNat_natCast, Int.toNat_natCast, ← HUD.out, ← HMD.out] at HLV
          have HLVh := Lib.hid HLV
          clear HLV
          refine (HLVh.out).mono ?_
          rintro e wa ⟨hs, hb⟩
          obtain ⟨pHA, cHA, qHA, dHA, rfl, wap, hwap, hN, hbp⟩ := live_putP hs hb.size
          clear hs
          have HM' := Lib.hid (((HM.out.below hb).below hbp))
          clear HM
          have HM := HM'
          clear HM'
          have HW' := Lib.hid (((HW.out.below hb).below hbp))
          clear HW
          have HW := HW'
          clear HW'
          have HP' := Lib.hid (((HP.out.below hb).below hbp))
          clear HP
          have HP := HP'
          clear HP'
          have HA := Lib.hid hN
          have hBn := below_then (below_then hB hB.size hb) (Nat.le_trans hB.size hb.size) hbp
          have hszwa := Nat.le_trans hb.size hbp.size
          clear hN hb hbp hB
          have hB := hBn
          clear hBn
          unfold putM at hwap
          obtain ⟨hm0, hm1, hm2⟩ := HM.out.cells
          obtain ⟨hp0, hp1⟩ := HP.out.cells
          rw [hwap] at hm0 hm1 hm2 hp0 hp1
          go_wp2_with fail
          rw [← hwap]
          clear hwap hm0 hm1 hm2 hp0 hp1
          clear HLVh
          refine (free_no _ us ms f (x : Int) (n : Int) wap HM.out.mem (cap_mk hcap) (by omega) hk2 4 (.inr (.inr ⟨hr, ht, HC1.out, rfl⟩))).mono ?_
          rintro e wb ⟨rfl, hb⟩
          unfold memZ
          obtain ⟨wbp, hwbp⟩ : ∃ x, x = putM wb (.slice none 0 0) (.slice none 0 0) false := ⟨_, rfl⟩
          have hbp : Below wb.heap.size wb wbp := by rw [hwbp]; exact putM_below _ _ _ _
          have hN := nil_putP _ wb hb.size
          rw [← hwbp] at hN
          obtain ⟨wbq, hwbq⟩ : ∃ x, x = putM wbp (.slice none 0 0) (.slice none 0 0) false := ⟨_, rfl⟩
          have hbq : Below wbp.heap.size wbp wbq := by rw [hwbq]; exact putM_below _ _ _ _
          obtain ⟨wbr, hwbr⟩ : ∃ x, x = putM wbq (.slice none 0 0) (.slice none 0 0) false := ⟨_, rfl⟩
          have hbr : Below wbq.heap.size wbq wbr := by rw [hwbr]; exact putM_below _ _ _ _
          have hszl : wbp.heap.size = wb.heap.size + 1 := by rw [hwbp]; exact putM_size _ _ _ _
          have hszf : wbq.heap.size = wb.heap.size + 1 + 1 := by rw [hwbq, putM_size, hszl]
          have HL := Lib.hid (show MBox wbr (wb.heap.size + 1) (.slice none 0 0) (.slice none 0 0) false by rw [← hszl]; exact MBox.below (show MBox wbq wbp.heap.size _ _ false by rw [hwbq]; exact putM_box _ _ _ _) hbr)
          have HF := Lib.hid (show MBox wbr (wb.heap.size + 1 + 1) (.slice none 0 0) (.slice none 0 0) false by rw [← hszf, hwbr]; exact putM_box _ _ _ _)
          have hszh : wbp.heap.size ≤ wb.heap.size + 1 := by omega
          have HM' := Lib.hid (((((HM.out.below hb).below hbp).below hbq).below hbr))
          clear HM
          have HM := HM'
          clear HM'
          have HW' := Lib.hid (((((HW.out.below hb).below hbp).below hbq).below hbr))
          clear HW
          have HW := HW'
          clear HW'
          have HP' := Lib.hid (((((HP.out.below hb).below hbp).below hbq).below hbr))
          clear HP
          have HP := HP'
          clear HP'
          have HA' := Lib.hid (((((HA.out.below hb).below hbp).below hbq).below hbr))
          clear HA
          have HA := HA'
          clear HA'
          have HB := Lib.hid ((hN.below hbq).below hbr)
          have hBn := below_then (below_then (below_then (below_then hB hB.size hb) (Nat.le_trans hB.size hb.size) hbp) (Nat.le_trans hB.size (Nat.le_trans hb.size hbp.size)) hbq) (Nat.le_trans hB.size (Nat.le_trans hb.size (Nat.le_trans hbp.size hbq.size))) hbr
          have hszwb := Nat.le_trans hb.size hbp.size
          have hszwb2 := Nat.le_trans hbq.size hbr.size
          clear hN hb hbp hbq hbr hB
          have hB := hBn
          clear hBn
          unfold putM at hwbr hwbq hwbp
          rw [hwbq, hwbp] at hwbr
          obtain ⟨hm0, hm1, hm2⟩ := HM.out.cells
          rw [hwbr] at hm0 hm1 hm2
          go_wp2_with fail
          rw [← hwbr]
          clear hwbr hwbq hwbp hszf hszl hm0 hm1 hm2
          have HCK := refRight_c _ us ms f wbr HM.out.mem (by omega)
          rw [hr] at HCK
          refine HCK.mono ?_
          rintro e wc ⟨rfl, hb⟩
          have HM' := Lib.hid ((HM.out.below hb))
          clear HM
          have HM := HM'
          clear HM'
          have HW' := Lib.hid ((HW.out.below hb))
          clear HW
          have HW := HW'
          clear HW'
          have HP' := Lib.hid ((HP.out.below hb))
          clear HP
          have HP := HP'
          clear HP'
          have HA' := Lib.hid ((HA.out.below hb))
          clear HA
          have HA := HA'
          clear HA'
          have HB' := Lib.hid ((HB.out.below hb))
          clear HB
          have HB := HB'
          clear HB'
          have HL' := Lib.hid ((HL.out.below hb))
          clear HL
          have HL := HL'
          clear HL'
          have HF' := Lib.hid ((HF.out.below hb))
          clear HF
          have HF := HF'
          clear HF'
          have hBn := below_then hB hB.size hb
          have hszwc := hb.size
          clear hb hB
          clear HCK
          have hB := hBn
          clear hBn
          obtain ⟨hm0, hm1, hm2⟩ := HM.out.cells
          obtain ⟨hp0, hp1⟩ := HP.out.cells
          go_wp2_with fail
          clear hm0 hm1 hm2 hp0 hp1
          have HCK := refIn_c pa us.length ca (.slice pb ms.length cb) ⟨_, _, _, rfl⟩ f (x : Int) (n : Int) wc (by omega) ha1 hk2
          rw [ht] at HCK
          refine HCK.mono ?_
          rintro e wd ⟨rfl, hb⟩
          have HM' := Lib.hid ((HM.out.below hb))
          clear HM
          have HM := HM'
          clear HM'
          have HW' := Lib.hid ((HW.out.below hb))
          clear HW
          have HW := HW'
          clear HW'
          have HP' := Lib.hid ((HP.out.below hb))
          clear HP
          have HP := HP'
          clear HP'
          have HA' := Lib.hid ((HA.out.below hb))
          clear HA
          have HA := HA'
          clear HA'
          have HB' := Lib.hid ((HB.out.below hb))
          clear HB
          have HB := HB'
          clear HB'
          have HL' := Lib.hid ((HL.out.below hb))
          clear HL
          have HL := HL'
          clear HL'
          have HF' := Lib.hid ((HF.out.below hb))
          clear HF
          have HF := HF'
          clear HF'
          have hBn := below_then hB hB.size hb
          have hszwd := hb.size
          clear hb hB
          clear HCK
          have hB := hBn
          clear hBn
          obtain ⟨hm0, hm1, hm2⟩ := HM.out.cells
          obtain ⟨hp0, hp1⟩ := HP.out.cells
          go_wp2_with fail
          clear hm0 hm1 hm2 hp0 hp1
          have HCK := refAll_c _ us ms f x n false wd HM.out.mem (capmax_mk (own_cap HM.out.lives)) (by omega) hk1 hxn
          rw [HAF.out] at HCK
          refine HCK.mono ?_
          rintro e wf ⟨rfl, hb⟩
          have HM' := Lib.hid ((HM.out.below hb))
          clear HM
          have HM := HM'
          clear HM'
          have HW' := Lib.hid ((HW.out.below hb))
          clear HW
          have HW := HW'
          clear HW'
          have HP' := Lib.hid ((HP.out.below hb))
          clear HP
          have HP := HP'
          clear HP'
          have HA' := Lib.hid ((HA.out.below hb))
          clear HA
          have HA := HA'
          clear HA'
          have HB' := Lib.hid ((HB.out.below hb))
          clear HB
          have HB := HB'
          clear HB'
          have HL' := Lib.hid ((HL.out.below hb))
          clear HL
          have HL := HL'
          clear HL'
          have HF' := Lib.hid ((HF.out.below hb))
          clear HF
          have HF := HF'
          clear HF'
          have hBn := below_then hB hB.size hb
          have hszwf := hb.size
          clear hb hB
          clear HCK
          have hB := hBn
          clear hBn
          obtain ⟨hm0, hm1, hm2⟩ := HM.out.cells
          obtain ⟨hp0, hp1⟩ := HP.out.cells
          go_wp2_with fail
          clear hm0 hm1 hm2 hp0 hp1
          have HDC := refLive_c _ us ms f x n wf HM.out.mem HLEN.out (by omega) hk1 hxnu
          rw [← HUD.out, ← HMD.out] at HDC
          have HDCh := Lib.hid HDC
          clear HDC
          refine (HDCh.out).mono ?_
          rintro e wh ⟨⟨_, rfl, _, _, rfl, h0, h1⟩, hb⟩
          obtain ⟨pL, cL, rfl⟩ := owns_slice h0
          obtain ⟨qL, dL, rfl⟩ := owns_slice h1
          obtain ⟨whp, hwhp⟩ : ∃ x : World, x = (((wh.setCell ⟨wb.heap.size + 1, 0, none⟩ (.slice pL uD.length cL)).setCell ⟨wb.heap.size + 1, 1, none⟩ (.slice qL mD.length dL)).setCell ⟨wb.heap.size + 1, 2, none⟩ (.bool f)) := ⟨_, rfl⟩
          have hbox := HL.out.below hb
          obtain ⟨⟨ho0, ho1, ho2⟩, hz0, hz1, hz2⟩ := mbox_cells hbox
          have hk : Keeps (fun q => q = wb.heap.size + 1) wh whp := by rw [hwhp]; exact ((Keeps.setCell wh (S := fun q => q = wb.heap.size + 1) (p := ⟨wb.heap.size + 1, 0, none⟩) rfl _).trans (Keeps.setCell _ (S := fun q => q = wb.heap.size + 1) (p := ⟨wb.heap.size + 1, 1, none⟩) rfl _)).trans (Keeps.setCell _ (S := fun q => q = wb.heap.size + 1) (p := ⟨wb.heap.size + 1, 2, none⟩) rfl _)
          have HL' := Lib.hid (show MVar whp (wb.heap.size + 1) _ _ uD mD f by rw [hwhp]; exact (put_back (f := f) hbox h0 h1 (Nat.zero_le _) (Nat.zero_le _)).var)
          clear HL
          have HL := HL'
          clear HL'
          have HM' := Lib.hid ((HM.out.below hb).keeps hk (by intro q hq; have hq : q = wb.heap.size + 1 := hq; subst hq; omega))
          clear HM
          have HM := HM'
          clear HM'
          have HW' := Lib.hid ((HW.out.below hb).keeps hk (by intro q hq; have hq : q = wb.heap.size + 1 := hq; subst hq; omega))
          clear HW
          have HW := HW'
          clear HW'
          have HA' := Lib.hid ((HA.out.below hb).keeps hk (by intro q hq; have hq : q = wb.heap.size + 1 := hq; subst hq; omega))
          clear HA
          have HA := HA'
          clear HA'
          have HB' := Lib.hid ((HB.out.below hb).keeps hk (by intro q hq; have hq : q = wb.heap.size + 1 := hq; subst hq; omega))
          clear HB
          have HB := HB'
          clear HB'
          have HP' := Lib.hid ((HP.out.below hb).keeps hk (fun hq => by have hq : zP = wb.heap.size + 1 := hq; omega))
          clear HP
          have HP := HP'
          clear HP'
          have HF' := Lib.hid ((HF.out.below hb).keeps hk (fun hq => by simp at hq))
          clear HF
          have HF := HF'
          clear HF'
          have hBn : Below W.heap.size W whp := (below_then hB hB.size hb).trans (hk.below (Nat.le_trans hB.size hb.size) (fun q hq => by have hq : q = wb.heap.size + 1 := hq; subst hq; have := hB.size; omega))
          have hszwh := Nat.le_trans hb.size hk.size
          clear h0 h1 hb hbox hk hB
          have hB := hBn
          clear hBn
          obtain ⟨hm0, hm1, hm2⟩ := HM.out.cells
          obtain ⟨hp0, hp1⟩ := HP.out.cells
          rw [hwhp] at hm0 hm1 hm2 hp0 hp1
          go_wp2_with fail
          rw [← hwhp]
          clear hwhp hm0 hm1 hm2 hp0 hp1 ho0 ho1 ho2 hz0 hz1 hz2
          clear HDCh
          have HCK := refAll_c _ us ms f x n true whp HM.out.mem (capmax_mk (own_cap HM.out.lives)) (by omega) hk1 hxn
          rw [HAT.out] at HCK
          refine HCK.mono ?_
          rintro e wg ⟨rfl, hb⟩
          have HM' := Lib.hid ((HM.out.below hb))
          clear HM
          have HM := HM'
          clear HM'
          have HW' := Lib.hid ((HW.out.below hb))
          clear HW
          have HW := HW'
          clear HW'
          have HP' := Lib.hid ((HP.out.below hb))
          clear HP
          have HP := HP'
          clear HP'
          have HA' := Lib.hid ((HA.out.below hb))
          clear HA
          have HA := HA'
          clear HA'
          have HB' := Lib.hid ((HB.out.below hb))
          clear HB
          have HB := HB'
          clear HB'
          have HL' := Lib.hid ((HL.out.below hb))
          clear HL
          have HL := HL'
          clear HL'
          have HF' := Lib.hid ((HF.out.below hb))
          clear HF
          have HF := HF'
          clear HF'
          have hBn := below_then hB hB.size hb
          have hszwg := hb.size
          clear hb hB
          clear HCK
          have hB := hBn
          clear hBn
          obtain ⟨ha0, ha1, ha2⟩ := HA.out.cells
          obtain ⟨hl0, hl1, hl2⟩ := HL.out.cells
          go_wp2_with fail
          clear ha0 ha1 ha2 hl0 hl1 hl2
          refine (refSame_t _ _ uD mD f wg HA.out.mem HL.out.mem (by first | omega | decide) (by first | omega | decide)).mono ?_
          rintro e we ⟨rfl, hb⟩
          have HM' := Lib.hid ((HM.out.below hb))
          clear HM
          have HM := HM'
          clear HM'
          have HW' := Lib.hid ((HW.out.below hb))
          clear HW
          have HW := HW'
          clear HW'
          have HA' := Lib.hid ((HA.out.below hb))
          clear HA
          have HA := HA'
          clear HA'
          have HB' := Lib.hid ((HB.out.below hb))
          clear HB
          have HB := HB'
          clear HB'
          have HF' := Lib.hid ((HF.out.below hb))
          clear HF
          have HF := HF'
          clear HF'
          have hBn := below_then hB hB.size hb
          have hszwe := hb.size
          clear hb hB
          have hB := hBn
          clear hBn
          obtain ⟨hb0, hb1, hb2⟩ := HB.out.cells
          obtain ⟨hf0, hf1, hf2⟩ := HF.out.cells
          go_wp2_with fail
          clear hb0 hb1 hb2 hf0 hf1 hf2
          refine (refSame_t _ _ [] [] false we HB.out.mem (nil_mem _) (by first | omega | decide) (by first | omega | decide)).mono ?_
          rintro e w6 ⟨rfl, hb⟩
          obtain ⟨w6p, hw6p⟩ : ∃ x, x = putM w6 (.slice pa us.length ca) (.slice pb ms.length cb) f := ⟨_, rfl⟩
          have hbp : Below w6.heap.size w6 w6p := by rw [hw6p]; exact putM_below _ _ _ _
          have HN := Lib.hid (show MBox w6p w6.heap.size (.slice pa us.length ca) (.slice pb ms.length cb) f by rw [hw6p]; exact putM_box _ _ _ _)
          obtain ⟨hm0, hm1, hm2⟩ := (HM.out.below hb).cells
          have HM' := Lib.hid (((HM.out.below hb).below hbp))
          clear HM
          have HM := HM'
          clear HM'
          have HW' := Lib.hid (((HW.out.below hb).below hbp))
          clear HW
          have HW := HW'
          clear HW'
          have HA' := Lib.hid (((HA.out.below hb).below hbp))
          clear HA
          have HA := HA'
          clear HA'
          have HB' := Lib.hid (((HB.out.below hb).below hbp))
          clear HB
          have HB := HB'
          clear HB'
          have hBn := below_then (below_then hB hB.size hb) (Nat.le_trans hB.size hb.size) hbp
          have hszw6 := Nat.le_trans hb.size hbp.size
          have hsz6 := hb.size
          clear hb hbp hB HP
          have hB := hBn
          clear hBn
          unfold putM at hw6p
          obtain ⟨ha0, ha1, ha2⟩ := HA.out.cells
          rw [hw6p] at ha0 ha1 ha2
          go_wp2_with fail
          rw [← hw6p]
          clear hw6p hm0 hm1 hm2 ha0 ha1 ha2
          refine (own_p HA.out (by omega) (by omega)).mono ?_
          rintro e w7 ⟨⟨_, rfl, _, _, rfl, h0, h1⟩, hb⟩
          obtain ⟨pN, cN, rfl⟩ := owns_slice h0
          obtain ⟨qN, dN, rfl⟩ := owns_slice h1
          obtain ⟨w7p, hw7p⟩ : ∃ x : World, x = ((w7.setCell ⟨w6.heap.size, 0, none⟩ (.slice pN uD.length cN)).setCell ⟨w6.heap.size, 1, none⟩ (.slice qN mD.length dN)).setCell ⟨w6.heap.size, 2, none⟩ (.bool f) := ⟨_, rfl⟩
          have hbox := HN.out.below hb
          have hnlt := HN.out.lt
          obtain ⟨⟨ho0, ho1, ho2⟩, hz0, hz1, hz2⟩ := mbox_cells hbox
          have hk : Keeps (fun q => q = w6.heap.size) w7 w7p := by rw [hw7p]; exact ((Keeps.setCell w7 (S := fun q => q = w6.heap.size) (p := ⟨w6.heap.size, 0, none⟩) rfl _).trans (Keeps.setCell _ (S := fun q => q = w6.heap.size) (p := ⟨w6.heap.size, 1, none⟩) rfl _)).trans (Keeps.setCell _ (S := fun q => q = w6.heap.size) (p := ⟨w6.heap.size, 2, none⟩) rfl _)
          have HN' := Lib.hid (show PVar w7p w6.heap.size w7p.heap.size w6.heap.size _ _ uD mD f by rw [hw7p]; exact put_back (f := f) hbox h0 h1 (by omega) (Nat.le_refl _))
          clear HN
          have HN := HN'
          clear HN'
          have HM' := Lib.hid ((HM.out.below hb).keeps hk (by intro q hq; have hq : q = w6.heap.size := hq; subst hq; omega))
          clear HM
          have HM := HM'
          clear HM'
          have HW' := Lib.hid ((HW.out.below hb).keeps hk (by intro q hq; have hq : q = w6.heap.size := hq; subst hq; omega))
          clear HW
          have HW := HW'
          clear HW'
          have HA' := Lib.hid ((HA.out.below hb).keeps hk (by intro q hq; have hq : q = w6.heap.size := hq; subst hq; omega))
          clear HA
          have HA := HA'
          clear HA'
          have HB' := Lib.hid ((HB.out.below hb).keeps hk (by intro q hq; have hq : q = w6.heap.size := hq; subst hq; omega))
          clear HB
          have HB := HB'
          clear HB'
          have hBn : Below W.heap.size W w7p := (below_then hB hB.size hb).trans (hk.below (Nat.le_trans hB.size hb.size) (fun q hq => by have hq : q = w6.heap.size := hq; subst hq; have := hB.size; omega))
          have hsz7 := Nat.le_trans hb.size hk.size
          clear h0 h1 hb hbox hk hB hnlt
          have hB := hBn
          clear hBn
          obtain ⟨ha0, ha1, ha2⟩ := HA.out.cells
          rw [hw7p] at ha0 ha1 ha2
          go_wp2_with fail
          rw [← hw7p]
          clear hw7p ha0 ha1 ha2 ho0 ho1 ho2 hz0 hz1 hz2
          refine (spoil_p HA.out (by first | omega | decide) (by first | omega | decide)).mono ?_
          rintro e w8 ⟨rfl, hk⟩
          have HM' := Lib.hid (HM.out.keeps hk (by intro q hq; obtain ⟨hq1, hq2⟩ := hq; omega))
          clear HM
          have HM := HM'
          clear HM'
          have HW' := Lib.hid (HW.out.keeps hk (by intro q hq; obtain ⟨hq1, hq2⟩ := hq; omega))
          clear HW
          have HW := HW'
          clear HW'
          have HB' := Lib.hid (HB.out.keeps hk (by intro q hq; obtain ⟨hq1, hq2⟩ := hq; omega))
          clear HB
          have HB := HB'
          clear HB'
          have HN' := Lib.hid (HN.out.keeps hk (by intro q hq; obtain ⟨hq1, hq2⟩ := hq; omega))
          clear HN
          have HN := HN'
          clear HN'
          have hBn : Below W.heap.size W w8 := hB.trans (hk.below hB.size (fun q hq => by obtain ⟨hq1, hq2⟩ := hq; omega))
          have hszw8 := hk.size
          clear hk hB HA
          have hB := hBn
          clear hBn
          obtain ⟨hb0, hb1, hb2⟩ := HB.out.cells
          go_wp2_with fail
          clear hb0 hb1 hb2
          refine (spoil_p HB.out (by first | omega | decide) (by first | omega | decide)).mono ?_
          rintro e w9 ⟨rfl, hk⟩
          have HM' := Lib.hid (HM.out.keeps hk (by intro q hq; obtain ⟨hq1, hq2⟩ := hq; omega))
          clear HM
          have HM := HM'
          clear HM'
          have HW' := Lib.hid (HW.out.keeps hk (by intro q hq; obtain ⟨hq1, hq2⟩ := hq; omega))
          clear HW
          have HW := HW'
          clear HW'
          have HN' := Lib.hid (HN.out.keeps hk (by intro q hq; obtain ⟨hq1, hq2⟩ := hq; omega))
          clear HN
          have HN := HN'
          clear HN'
          have hBn : Below W.heap.size W w9 := hB.trans (hk.below hB.size (fun q hq => by obtain ⟨hq1, hq2⟩ := hq; omega))
          have hszw9 := hk.size
          clear hk hB HB
          have hB := hBn
          clear hBn
          obtain ⟨hm0, hm1, hm2⟩ := HM.out.cells
          obtain ⟨hw0, hw1, hw2⟩ := HW.out.cells
          go_wp2_with fail
          clear hm0 hm1 hm2 hw0 hw1 hw2
          refine (refSame_t _ _ us ms f w9 HM.out.mem HW.out.mem (by omega) (by omega)).mono ?_
          rintro e wx ⟨rfl, hb⟩
          have HM' := Lib.hid ((HM.out.below hb))
          clear HM
          have HM := HM'
          clear HM'
          have HN' := Lib.hid ((HN.out.below hb))
          clear HN
          have HN := HN'
          clear HN'
          have hBn := below_then hB hB.size hb
          clear hb hB HW
          have hB := hBn
          clear hBn
          obtain ⟨hm0, hm1, hm2⟩ := HM.out.cells
          obtain ⟨hn0, hn1, hn2⟩ := HN.out.cells
          obtain ⟨hf0, hf1, hf2⟩ := HM.out.free
          have HE := Lib.hid (put_back (f := f) (lo0 := W.heap.size) HM.out.box HN.out.words HN.out.lives (by omega) HM.out.from')
          have HBE := Lib.hid (((hB.setCell (p := ⟨z5, 0, none⟩) HM.out.from' (.slice pN uD.length cN)).setCell (p := ⟨z5, 1, none⟩) HM.out.from' (.slice qN mD.length dN)).setCell (p := ⟨z5, 2, none⟩) HM.out.from' (.bool f))
          clear HM HN hB
          go_wp2
          go_roundw
          case rel => exact ⟨i + 1, _, _, _, _, _, _, by omega, by go_num, HE.out, by omega, by omega, HBE.out⟩
          case measure => simp [intOf]; omega
        · obtain ⟨hk0, hax0, hakl⟩ := thereB_iff.1 ht
          obtain ⟨x, rfl⟩ := Int.eq_ofNat_of_zero_le hax0
          obtain ⟨n, rfl⟩ := Int.eq_ofNat_of_zero_le (show 0 ≤ k by omega)
          have hlen := (rightB_iff.1 hr).2.2.1
          have HLEN := Lib.hid hlen
          have hxn : x + n ≤ ms.length := by omega
          have hxnu : x + n ≤ us.length := by omega
          have hk1 : 1 ≤ n := by omega
          have HC0 := Lib.hid hc0
          have HC1 := Lib.hid hc1
          have HAF := Lib.hid (show allB ms x n false = false by rw [allB_false hxn]; simpa using hc0)
          have HAT := Lib.hid (show allB ms x n true = true by rw [allB_live hxn]; simp at hc1 ⊢; omega)
          clear hc0 hc1 hlen hk0 hax0 hakl
          obtain ⟨uD, huD⟩ : ∃ l, l = fill us x 18369900232523579118 n := ⟨_, rfl⟩
          obtain ⟨mD, hmD⟩ : ∃ l, l = fill ms x false n := ⟨_, rfl⟩
          have huDl : uD.length ≤ 64 := by rw [huD, fill_length]; exact hul
          have hmDl : mD.length ≤ 64 := by rw [hmD, fill_length]; exact hml
          have HUD := Lib.hid huD
          have HMD := Lib.hid hmD
          clear huD hmD
          refine (live_no _ us ms f (x : Int) (n : Int) wwp HM.out.mem (cap_mk hcap) (by omega) hk2 5 (.inr (.inr ⟨hr, ht, HC0.out, rfl⟩))).mono ?_
          rintro e wa ⟨rfl, hb⟩
          unfold memZ
          obtain ⟨wap, hwap⟩ : ∃ x, x = putM wa (.slice none 0 0) (.slice none 0 0) false := ⟨_, rfl⟩
          have hbp : Below wa.heap.size wa wap := by rw [hwap]; exact putM_below _ _ _ _
          have hN := nil_putP _ wa hb.size
          rw [← hwap] at hN
          have HM' := Lib.hid (((HM.out.below hb).below hbp))
          clear HM
          have HM := HM'
          clear HM'
          have HW' := Lib.hid (((HW.out.below hb).below hbp))
          clear HW
          have HW := HW'
          clear HW'
          have HP' := Lib.hid (((HP.out.below hb).below hbp))
          clear HP
          have HP := HP'
          clear HP'
          have HA := Lib.hid hN
          have hBn := below_then (below_then hB hB.size hb) (Nat.le_trans hB.size hb.size) hbp
          have hszwa := Nat.le_trans hb.size hbp.size
          clear hN hb hbp hB
          have hB := hBn
          clear hBn
          unfold putM at hwap
          obtain ⟨hm0, hm1, hm2⟩ := HM.out.cells
          obtain ⟨hp0, hp1⟩ := HP.out.cells
          rw [hwap] at hm0 hm1 hm2 hp0 hp1
          go_wp2_with fail
          rw [← hwap]
          clear hwap hm0 hm1 hm2 hp0 hp1
          have HLV := free_yes _ us ms f (x : Int) (n : Int) wap HM.out.mem (cap_mk hcap) (by omega) hk2 hr ht HC1.out
          rw [Int.toNat_natCast, Int.toNat_natCast, ← HUD.out, ← HMD.out] at HLV
          have HLVh := Lib.hid HLV
          clear HLV
          refine (HLVh.out).mono ?_
          rintro e wb ⟨hs, hb⟩
          obtain ⟨pHB, cHB, qHB, dHB, rfl, wbp, hwbp, hN, hbp⟩ := live_putP hs hb.size
          clear hs
          obtain ⟨wbq, hwbq⟩ : ∃ x, x = putM wbp (.slice none 0 0) (.slice none 0 0) false := ⟨_, rfl⟩
          have hbq : Below wbp.heap.size wbp wbq := by rw [hwbq]; exact putM_below _ _ _ _
          obtain ⟨wbr, hwbr⟩ : ∃ x, x = putM wbq (.slice none 0 0) (.slice none 0 0) false := ⟨_, rfl⟩
          have hbr : Below wbq.heap.size wbq wbr := by rw [hwbr]; exact putM_below _ _ _ _
          have hszl : wbp.heap.size = wb.heap.size + 1 := by rw [hwbp]; exact putM_size _ _ _ _
          have hszf : wbq.heap.size = wb.heap.size + 1 + 1 := by rw [hwbq, putM_size, hszl]
          have HL := Lib.hid (show MBox wbr (wb.heap.size + 1) (.slice none 0 0) (.slice none 0 0) false by rw [← hszl]; exact MBox.below (show MBox wbq wbp.heap.size _ _ false by rw [hwbq]; exact putM_box _ _ _ _) hbr)
          have HF := Lib.hid (show MBox wbr (wb.heap.size + 1 + 1) (.slice none 0 0) (.slice none 0 0) false by rw [← hszf, hwbr]; exact putM_box _ _ _ _)
          have hszh : wbp.heap.size ≤ wb.heap.size + 1 := by omega
          have HM' := Lib.hid (((((HM.out.below hb).below hbp).below hbq).below hbr))
          clear HM
          have HM := HM'
          clear HM'
          have HW' := Lib.hid (((((HW.out.below hb).below hbp).below hbq).below hbr))
          clear HW
          have HW := HW'
          clear HW'
          have HP' := Lib.hid (((((HP.out.below hb).below hbp).below hbq).below hbr))
          clear HP
          have HP := HP'
          clear HP'
          have HA' := Lib.hid (((((HA.out.below hb).below hbp).below hbq).below hbr))
          clear HA
          have HA := HA'
          clear HA'
          have HB := Lib.hid ((hN.below hbq).below hbr)
          have hBn := below_then (below_then (below_then (below_then hB hB.size hb) (Nat.le_trans hB.size hb.size) hbp) (Nat.le_trans hB.size (Nat.le_trans hb.size hbp.size)) hbq) (Nat.le_trans hB.size (Nat.le_trans hb.size (Nat.le_trans hbp.size hbq.size))) hbr
          have hszwb := Nat.le_trans hb.size hbp.size
          have hszwb2 := Nat.le_trans hbq.size hbr.size
          clear hN hb hbp hbq hbr hB
          have hB := hBn
          clear hBn
          unfold putM at hwbr hwbq hwbp
          rw [hwbq, hwbp] at hwbr
          obtain ⟨hm0, hm1, hm2⟩ := HM.out.cells
          rw [hwbr] at hm0 hm1 hm2
          go_wp2_with fail
          rw [← hwbr]
          clear hwbr hwbq hwbp hszf hszl hm0 hm1 hm2
          clear HLVh
          have HCK := refRight_c _ us ms f wbr HM.out.mem (by omega)
          rw [hr] at HCK
          refine HCK.mono ?_
          rintro e wc ⟨rfl, hb⟩
          have HM' := Lib.hid ((HM.out.below hb))
          clear HM
          have HM := HM'
          clear HM'
          have HW' := Lib.hid ((HW.out.below hb))
          clear HW
          have HW := HW'
          clear HW'
          have HP' := Lib.hid ((HP.out.below hb))
          clear HP
          have HP := HP'
          clear HP'
          have HA' := Lib.hid ((HA.out.below hb))
          clear HA
          have HA := HA'
          clear HA'
          have HB' := Lib.hid ((HB.out.below hb))
          clear HB
          have HB := HB'
          clear HB'
          have HL' := Lib.hid ((HL.out.below hb))
          clear HL
          have HL := HL'
          clear HL'
          have HF' := Lib.hid ((HF.out.below hb))
          clear HF
          have HF := HF'
          clear HF'
          have hBn := below_then hB hB.size hb
          have hszwc := hb.size
          clear hb hB
          clear HCK
          have hB := hBn
          clear hBn
          obtain ⟨hm0, hm1, hm2⟩ := HM.out.cells
          obtain ⟨hp0, hp1⟩ := HP.out.cells
          go_wp2_with fail
          clear hm0 hm1 hm2 hp0 hp1
          have HCK := refIn_c pa us.length ca (.slice pb ms.length cb) ⟨_, _, _, rfl⟩ f (x : Int) (n : Int) wc (by omega) ha1 hk2
          rw [ht] at HCK
          refine HCK.mono ?_
          rintro e wd ⟨rfl, hb⟩
          have HM' := Lib.hid ((HM.out.below hb))
          clear HM
          have HM := HM'
          clear HM'
          have HW' := Lib.hid ((HW.out.below hb))
          clear HW
          have HW := HW'
          clear HW'
          have HP' := Lib.hid ((HP.out.below hb))
          clear HP
          have HP := HP'
          clear HP'
          have HA' := Lib.hid ((HA.out.below hb))
          clear HA
          have HA := HA'
          clear HA'
          have HB' := Lib.hid ((HB.out.below hb))
          clear HB
          have HB := HB'
          clear HB'
          have HL' := Lib.hid ((HL.out.below hb))
          clear HL
          have HL := HL'
          clear HL'
          have HF' := Lib.hid ((HF.out.below hb))
          clear HF
          have HF := HF'
          clear HF'
          have hBn := below_then hB hB.size hb
          have hszwd := hb.size
          clear hb hB
          clear HCK
          have hB := hBn
          clear hBn
          obtain ⟨hm0, hm1, hm2⟩ := HM.out.cells
          obtain ⟨hp0, hp1⟩ := HP.out.cells
          go_wp2_with fail
          clear hm0 hm1 hm2 hp0 hp1
          have HCK := refAll_c _ us ms f x n false wd HM.out.mem (capmax_mk (own_cap HM.out.lives)) (by omega) hk1 hxn
          rw [HAF.out] at HCK
          refine HCK.mono ?_
          rintro e wf ⟨rfl, hb⟩
          have HM' := Lib.hid ((HM.out.below hb))
          clear HM
          have HM := HM'
          clear HM'
          have HW' := Lib.hid ((HW.out.below hb))
          clear HW
          have HW := HW'
          clear HW'
          have HP' := Lib.hid ((HP.out.below hb))
          clear HP
          have HP := HP'
          clear HP'
          have HA' := Lib.hid ((HA.out.below hb))
          clear HA
          have HA := HA'
          clear HA'
          have HB' := Lib.hid ((HB.out.below hb))
          clear HB
          have HB := HB'
          clear HB'
          have HL' := Lib.hid ((HL.out.below hb))
          clear HL
          have HL := HL'
          clear HL'
          have HF' := Lib.hid ((HF.out.below hb))
          clear HF
          have HF := HF'
          clear HF'
          have hBn := below_then hB hB.size hb
          have hszwf := hb.size
          clear hb hB
          clear HCK
          have hB := hBn
          clear hBn
          obtain ⟨hm0, hm1, hm2⟩ := HM.out.cells
          obtain ⟨hp0, hp1⟩ := HP.out.cells
          go_wp2_with fail
          clear hm0 hm1 hm2 hp0 hp1
          have HCK := refAll_c _ us ms f x n true wf HM.out.mem (capmax_mk (own_cap HM.out.lives)) (by omega) hk1 hxn
          rw [HAT.out] at HCK
          refine HCK.mono ?_
          rintro e wg ⟨rfl, hb⟩
          have HM' := Lib.hid ((HM.out.below hb))
          clear HM
          have HM := HM'
          clear HM'
          have HW' := Lib.hid ((HW.out.below hb))
          clear HW
          have HW := HW'
          clear HW'
          have HP' := Lib.hid ((HP.out.below hb))
          clear HP
          have HP := HP'
          clear HP'
          have HA' := Lib.hid ((HA.out.below hb))
          clear HA
          have HA := HA'
          clear HA'
          have HB' := Lib.hid ((HB.out.below hb))
          clear HB
          have HB := HB'
          clear HB'
          have HL' := Lib.hid ((HL.out.below hb))
          clear HL
          have HL := HL'
          clear HL'
          have HF' := Lib.hid ((HF.out.below hb))
          clear HF
          have HF := HF'
          clear HF'
          have hBn := below_then hB hB.size hb
          have hszwg := hb.size
          clear hb hB
          clear HCK
          have hB := hBn
          clear hBn
          obtain ⟨hm0, hm1, hm2⟩ := HM.out.cells
          obtain ⟨hp0, hp1⟩ := HP.out.cells
          go_wp2_with fail
          clear hm0 hm1 hm2 hp0 hp1
          have HDC := refFree_c _ us ms f x n wg HM.out.mem HLEN.out (by omega) hk1 hxnu
          rw [← HUD.out, ← HMD.out] at HDC
          have HDCh := Lib.hid HDC
          clear HDC
          refine (HDCh.out).mono ?_
          rintro e wh ⟨⟨_, rfl, _, _, rfl, h0, h1⟩, hb⟩
          obtain ⟨pF, cF, rfl⟩ := owns_slice h0
          obtain ⟨qF, dF, rfl⟩ := owns_slice h1
          obtain ⟨whp, hwhp⟩ : ∃ x : World, x = (((wh.setCell ⟨wb.heap.size + 1 + 1, 0, none⟩ (.slice pF uD.length cF)).setCell ⟨wb.heap.size + 1 + 1, 1, none⟩ (.slice qF mD.length dF)).setCell ⟨wb.heap.size + 1 + 1, 2, none⟩ (.bool f)) := ⟨_, rfl⟩
          have hbox := HF.out.below hb
          obtain ⟨⟨ho0, ho1, ho2⟩, hz0, hz1, hz2⟩ := mbox_cells hbox
          have hk : Keeps (fun q => q = wb.heap.size + 1 + 1) wh whp := by rw [hwhp]; exact ((Keeps.setCell wh (S := fun q => q = wb.heap.size + 1 + 1) (p := ⟨wb.heap.size + 1 + 1, 0, none⟩) rfl _).trans (Keeps.setCell _ (S := fun q => q = wb.heap.size + 1 + 1) (p := ⟨wb.heap.size + 1 + 1, 1, none⟩) rfl _)).trans (Keeps.setCell _ (S := fun q => q = wb.heap.size + 1 + 1) (p := ⟨wb.heap.size + 1 + 1, 2, none⟩) rfl _)
          have HF' := Lib.hid (show MVar whp (wb.heap.size + 1 + 1) _ _ uD mD f by rw [hwhp]; exact (put_back (f := f) hbox h0 h1 (Nat.zero_le _) (Nat.zero_le _)).var)
          clear HF
          have HF := HF'
          clear HF'
          have HM' := Lib.hid ((HM.out.below hb).keeps hk (by intro q hq; have hq : q = wb.heap.size + 1 + 1 := hq; subst hq; omega))
          clear HM
          have HM := HM'
          clear HM'
          have HW' := Lib.hid ((HW.out.below hb).keeps hk (by intro q hq; have hq : q = wb.heap.size + 1 + 1 := hq; subst hq; omega))
          clear HW
          have HW := HW'
          clear HW'
          have HA' := Lib.hid ((HA.out.below hb).keeps hk (by intro q hq; have hq : q = wb.heap.size + 1 + 1 := hq; subst hq; omega))
          clear HA
          have HA := HA'
          clear HA'
          have HB' := Lib.hid ((HB.out.below hb).keeps hk (by intro q hq; have hq : q = wb.heap.size + 1 + 1 := hq; subst hq; omega))
          clear HB
          have HB := HB'
          clear HB'
          have HP' := Lib.hid ((HP.out.below hb).keeps hk (fun hq => by have hq : zP = wb.heap.size + 1 + 1 := hq; omega))
          clear HP
          have HP := HP'
          clear HP'
          have HL' := Lib.hid ((HL.out.below hb).keeps hk (fun hq => by simp at hq))
          clear HL
          have HL := HL'
          clear HL'
          have hBn : Below W.heap.size W whp := (below_then hB hB.size hb).trans (hk.below (Nat.le_trans hB.size hb.size) (fun q hq => by have hq : q = wb.heap.size + 1 + 1 := hq; subst hq; have := hB.size; omega))
          have hszwh := Nat.le_trans hb.size hk.size
          clear h0 h1 hb hbox hk hB
          have hB := hBn
          clear hBn
          obtain ⟨ha0, ha1, ha2⟩ := HA.out.cells
          obtain ⟨hl0, hl1, hl2⟩ := HL.out.cells
          rw [hwhp] at ha0 ha1 ha2 hl0 hl1 hl2
          go_wp2_with fail
          rw [← hwhp]
          clear hwhp ha0 ha1 ha2 hl0 hl1 hl2 ho0 ho1 ho2 hz0 hz1 hz2
          clear HDCh
          refine (refSame_t _ _ [] [] false whp HA.out.mem (nil_mem _) (by first | omega | decide) (by first | omega | decide)).mono ?_
          rintro e we ⟨rfl, hb⟩
          have HM' := Lib.hid ((HM.out.below hb))
          clear HM
          have HM := HM'
          clear HM'
          have HW' := Lib.hid ((HW.out.below hb))
          clear HW
          have HW := HW'
          clear HW'
          have HA' := Lib.hid ((HA.out.below hb))
          clear HA
          have HA := HA'
          clear HA'
          have HB' := Lib.hid ((HB.out.below hb))
          clear HB
          have HB := HB'
          clear HB'
          have HF' := Lib.hid ((HF.out.below hb))
          clear HF
          have HF := HF'
          clear HF'
          have hBn := below_then hB hB.size hb
          have hszwe := hb.size
          clear hb hB
          have hB := hBn
          clear hBn
          obtain ⟨hb0, hb1, hb2⟩ := HB.out.cells
          obtain ⟨hf0, hf1, hf2⟩ := HF.out.cells
          go_wp2_with fail
          clear hb0 hb1 hb2 hf0 hf1 hf2
          refine (refSame_t _ _ uD mD f we HB.out.mem HF.out.mem (by first | omega | decide) (by first | omega | decide)).mono ?_
          rintro e w6 ⟨rfl, hb⟩
          obtain ⟨w6p, hw6p⟩ : ∃ x, x = putM w6 (.slice pa us.length ca) (.slice pb ms.length cb) f := ⟨_, rfl⟩
          have hbp : Below w6.heap.size w6 w6p := by rw [hw6p]; exact putM_below _ _ _ _
          have HN := Lib.hid (show MBox w6p w6.heap.size (.slice pa us.length ca) (.slice pb ms.length cb) f by rw [hw6p]; exact putM_box _ _ _ _)
          obtain ⟨hm0, hm1, hm2⟩ := (HM.out.below hb).cells
          have HM' := Lib.hid (((HM.out.below hb).below hbp))
          clear HM
          have HM := HM'
          clear HM'
          have HW' := Lib.hid (((HW.out.below hb).below hbp))
          clear HW
          have HW := HW'
          clear HW'
          have HA' := Lib.hid (((HA.out.below hb).below hbp))
          clear HA
          have HA := HA'
          clear HA'
          have HB' := Lib.hid (((HB.out.below hb).below hbp))
          clear HB
          have HB := HB'
          clear HB'
          have hBn := below_then (below_then hB hB.size hb) (Nat.le_trans hB.size hb.size) hbp
          have hszw6 := Nat.le_trans hb.size hbp.size
          have hsz6 := hb.size
          clear hb hbp hB HP
          have hB := hBn
          clear hBn
          unfold putM at hw6p
          obtain ⟨hb0, hb1, hb2⟩ := HB.out.cells
          rw [hw6p] at hb0 hb1 hb2
          go_wp2_with fail
          rw [← hw6p]
          clear hw6p hm0 hm1 hm2 hb0 hb1 hb2
          refine (own_p HB.out (by omega) (by omega)).mono ?_
          rintro e w7 ⟨⟨_, rfl, _, _, rfl, h0, h1⟩, hb⟩
          obtain ⟨pN, cN, rfl⟩ := owns_slice h0
          obtain ⟨qN, dN, rfl⟩ := owns_slice h1
          obtain ⟨w7p, hw7p⟩ : ∃ x : World, x = ((w7.setCell ⟨w6.heap.size, 0, none⟩ (.slice pN uD.length cN)).setCell ⟨w6.heap.size, 1, none⟩ (.slice qN mD.length dN)).setCell ⟨w6.heap.size, 2, none⟩ (.bool f) := ⟨_, rfl⟩
          have hbox := HN.out.below hb
          have hnlt := HN.out.lt
          obtain ⟨⟨ho0, ho1, ho2⟩, hz0, hz1, hz2⟩ := mbox_cells hbox
          have hk : Keeps (fun q => q = w6.heap.size) w7 w7p := by rw [hw7p]; exact ((Keeps.setCell w7 (S := fun q => q = w6.heap.size) (p := ⟨w6.heap.size, 0, none⟩) rfl _).trans (Keeps.setCell _ (S := fun q => q = w6.heap.size) (p := ⟨w6.heap.size, 1, none⟩) rfl _)).trans (Keeps.setCell _ (S := fun q => q = w6.heap.size) (p := ⟨w6.heap.size, 2, none⟩) rfl _)
          have HN' := Lib.hid (show PVar w7p w6.heap.size w7p.heap.size w6.heap.size _ _ uD mD f by rw [hw7p]; exact put_back (f := f) hbox h0 h1 (by omega) (Nat.le_refl _))
          clear HN
          have HN := HN'
          clear HN'
          have HM' := Lib.hid ((HM.out.below hb).keeps hk (by intro q hq; have hq : q = w6.heap.size := hq; subst hq; omega))
          clear HM
          have HM := HM'
          clear HM'
          have HW' := Lib.hid ((HW.out.below hb).keeps hk (by intro q hq; have hq : q = w6.heap.size := hq; subst hq; omega))
          clear HW
          have HW := HW'
          clear HW'
          have HA' := Lib.hid ((HA.out.below hb).keeps hk (by intro q hq; have hq : q = w6.heap.size := hq; subst hq; omega))
          clear HA
          have HA := HA'
          clear HA'
          have HB' := Lib.hid ((HB.out.below hb).keeps hk (by intro q hq; have hq : q = w6.heap.size := hq; subst hq; omega))
          clear HB
          have HB := HB'
          clear HB'
          have hBn : Below W.heap.size W w7p := (below_then hB hB.size hb).trans (hk.below (Nat.le_trans hB.size hb.size) (fun q hq => by have hq : q = w6.heap.size := hq; subst hq; have := hB.size; omega))
          have hsz7 := Nat.le_trans hb.size hk.size
          clear h0 h1 hb hbox hk hB hnlt
          have hB := hBn
          clear hBn
          obtain ⟨ha0, ha1, ha2⟩ := HA.out.cells
          rw [hw7p] at ha0 ha1 ha2
          go_wp2_with fail
          rw [← hw7p]
          clear hw7p ha0 ha1 ha2 ho0 ho1 ho2 hz0 hz1 hz2
          refine (spoil_p HA.out (by first | omega | decide) (by first | omega | decide)).mono ?_
          rintro e w8 ⟨rfl, hk⟩
          have HM' := Lib.hid (HM.out.keeps hk (by intro q hq; obtain ⟨hq1, hq2⟩ := hq; omega))
          clear HM
          have HM := HM'
          clear HM'
          have HW' := Lib.hid (HW.out.keeps hk (by intro q hq; obtain ⟨hq1, hq2⟩ := hq; omega))
          clear HW
          have HW := HW'
          clear HW'
          have HB' := Lib.hid (HB.out.keeps hk (by intro q hq; obtain ⟨hq1, hq2⟩ := hq; omega))
          clear HB
          have HB := HB'
          clear HB'
          have HN' := Lib.hid (HN.out.keeps hk (by intro q hq; obtain ⟨hq1, hq2⟩ := hq; omega))
          clear HN
          have HN := HN'
          clear HN'
          have hBn : Below W.heap.size W w8 := hB.trans (hk.below hB.size (fun q hq => by obtain ⟨hq1, hq2⟩ := hq; omega))
          have hszw8 := hk.size
          clear hk hB HA
          have hB := hBn
          clear hBn
          obtain ⟨hb0, hb1, hb2⟩ := HB.out.cells
          go_wp2_with fail
          clear hb0 hb1 hb2
          refine (spoil_p HB.out (by first | omega | decide) (by first | omega | decide)).mono ?_
          rintro e w9 ⟨rfl, hk⟩
          have HM' := Lib.hid (HM.out.keeps hk (by intro q hq; obtain ⟨hq1, hq2⟩ := hq; omega))
          clear HM
          have HM := HM'
          clear HM'
          have HW' := Lib.hid (HW.out.keeps hk (by intro q hq; obtain ⟨hq1, hq2⟩ := hq; omega))
          clear HW
          have HW := HW'
          clear HW'
          have HN' := Lib.hid (HN.out.keeps hk (by intro q hq; obtain ⟨hq1, hq2⟩ := hq; omega))
          clear HN
          have HN := HN'
          clear HN'
          have hBn : Below W.heap.size W w9 := hB.trans (hk.below hB.size (fun q hq => by obtain ⟨hq1, hq2⟩ := hq; omega))
          have hszw9 := hk.size
          clear hk hB HB
          have hB := hBn
          clear hBn
          obtain ⟨hm0, hm1, hm2⟩ := HM.out.cells
          obtain ⟨hw0, hw1, hw2⟩ := HW.out.cells
          go_wp2_with fail
          clear hm0 hm1 hm2 hw0 hw1 hw2
          refine (refSame_t _ _ us ms f w9 HM.out.mem HW.out.mem (by omega) (by omega)).mono ?_
          rintro e wx ⟨rfl, hb⟩
          have HM' := Lib.hid ((HM.out.below hb))
          clear HM
          have HM := HM'
          clear HM'
          have HN' := Lib.hid ((HN.out.below hb))
          clear HN
          have HN := HN'
          clear HN'
          have hBn := below_then hB hB.size hb
          clear hb hB HW
          have hB := hBn
          clear hBn
          obtain ⟨hm0, hm1, hm2⟩ := HM.out.cells
          obtain ⟨hn0, hn1, hn2⟩ := HN.out.cells
          obtain ⟨hf0, hf1, hf2⟩ := HM.out.free
          have HE := Lib.hid (put_back (f := f) (lo0 := W.heap.size) HM.out.box HN.out.words HN.out.lives (by omega) HM.out.from')
          have HBE := Lib.hid (((hB.setCell (p := ⟨z5, 0, none⟩) HM.out.from' (.slice pN uD.length cN)).setCell (p := ⟨z5, 1, none⟩) HM.out.from' (.slice qN mD.length dN)).setCell (p := ⟨z5, 2, none⟩) HM.out.from' (.bool f))
          clear HM HN hB
          go_wp2
          go_roundw
          case rel => exact ⟨i + 1, _, _, _, _, _, _, by omega, by go_num, HE.out, by omega, by omega, HBE.out⟩
          case measure => simp [intOf]; omega
        · obtain ⟨hk0, hax0, hakl⟩ := thereB_iff.1 ht
          obtain ⟨x, rfl⟩ := Int.eq_ofNat_of_zero_le hax0
          obtain ⟨n, rfl⟩ := Int.eq_ofNat_of_zero_le (show 0 ≤ k by omega)
          have hlen := (rightB_iff.1 hr).2.2.1
          have HLEN := Lib.hid hlen
          have hxn : x + n ≤ ms.length := by omega
          have hxnu : x + n ≤ us.length := by omega
          have hk1 : 1 ≤ n := by omega
          have HC0 := Lib.hid hc0
          have HC1 := Lib.hid hc1
          have HAF := Lib.hid (show allB ms x n false = false by rw [allB_false hxn]; simpa using hc0)
          have HAT := Lib.hid (show allB ms x n true = false by rw [allB_live hxn]; simp at hc1 ⊢; omega)
          clear hc0 hc1 hlen hk0 hax0 hakl
          refine (live_no _ us ms f (x : Int) (n : Int) wwp HM.out.mem (cap_mk hcap) (by omega) hk2 5 (.inr (.inr ⟨hr, ht, HC0.out, rfl⟩))).mono ?_
          rintro e wa ⟨rfl, hb⟩
          unfold memZ
          obtain ⟨wap, hwap⟩ : ∃ x, x = putM wa (.slice none 0 0) (.slice none 0 0) false := ⟨_, rfl⟩
          have hbp : Below wa.heap.size wa wap := by rw [hwap]; exact putM_below _ _ _ _
          have hN := nil_putP _ wa hb.size
          rw [← hwap] at hN
          have HM' := Lib.hid (((HM.out.below hb).below hbp))
          clear HM
          have HM := HM'
          clear HM'
          have HW' := Lib.hid (((HW.out.below hb).below hbp))
          clear HW
          have HW := HW'
          clear HW'
          have HP' := Lib.hid (((HP.out.below hb).below hbp))
          clear HP
          have HP := HP'
          clear HP'
          have HA := Lib.hid hN
          have hBn := below_then (below_then hB hB.size hb) (Nat.le_trans hB.size hb.size) hbp
          have hszwa := Nat.le_trans hb.size hbp.size
          clear hN hb hbp hB
          have hB := hBn
          clear hBn
          unfold putM at hwap
          obtain ⟨hm0, hm1, hm2⟩ := HM.out.cells
          obtain ⟨hp0, hp1⟩ := HP.out.cells
          rw [hwap] at hm0 hm1 hm2 hp0 hp1
          go_wp2_with fail
          rw [← hwap]
          clear hwap hm0 hm1 hm2 hp0 hp1
          refine (free_no _ us ms f (x : Int) (n : Int) wap HM.out.mem (cap_mk hcap) (by omega) hk2 4 (.inr (.inr ⟨hr, ht, HC1.out, rfl⟩))).mono ?_
          rintro e wb ⟨rfl, hb⟩
          unfold memZ
          obtain ⟨wbp, hwbp⟩ : ∃ x, x = putM wb (.slice none 0 0) (.slice none 0 0) false := ⟨_, rfl⟩
          have hbp : Below wb.heap.size wb wbp := by rw [hwbp]; exact putM_below _ _ _ _
          have hN := nil_putP _ wb hb.size
          rw [← hwbp] at hN
          obtain ⟨wbq, hwbq⟩ : ∃ x, x = putM wbp (.slice none 0 0) (.slice none 0 0) false := ⟨_, rfl⟩
          have hbq : Below wbp.heap.size wbp wbq := by rw [hwbq]; exact putM_below _ _ _ _
          obtain ⟨wbr, hwbr⟩ : ∃ x, x = putM wbq (.slice none 0 0) (.slice none 0 0) false := ⟨_, rfl⟩
          have hbr : Below wbq.heap.size wbq wbr := by rw [hwbr]; exact putM_below _ _ _ _
          have hszl : wbp.heap.size = wb.heap.size + 1 := by rw [hwbp]; exact putM_size _ _ _ _
          have hszf : wbq.heap.size = wb.heap.size + 1 + 1 := by rw [hwbq, putM_size, hszl]
          have HL := Lib.hid (show MBox wbr (wb.heap.size + 1) (.slice none 0 0) (.slice none 0 0) false by rw [← hszl]; exact MBox.below (show MBox wbq wbp.heap.size _ _ false by rw [hwbq]; exact putM_box _ _ _ _) hbr)
          have HF := Lib.hid (show MBox wbr (wb.heap.size + 1 + 1) (.slice none 0 0) (.slice none 0 0) false by rw [← hszf, hwbr]; exact putM_box _ _ _ _)
          have hszh : wbp.heap.size ≤ wb.heap.size + 1 := by omega
          have HM' := Lib.hid (((((HM.out.below hb).below hbp).below hbq).below hbr))
          clear HM
          have HM := HM'
          clear HM'
          have HW' := Lib.hid (((((HW.out.below hb).below hbp).below hbq).below hbr))
          clear HW
          have HW := HW'
          clear HW'
          have HP' := Lib.hid (((((HP.out.below hb).below hbp).below hbq).below hbr))
          clear HP
          have HP := HP'
          clear HP'
          have HA' := Lib.hid (((((HA.out.below hb).below hbp).below hbq).below hbr))
          clear HA
          have HA := HA'
          clear HA'
          have HB := Lib.hid ((hN.below hbq).below hbr)
          have hBn := below_then (below_then (below_then (below_then hB hB.size hb) (Nat.le_trans hB.size hb.size) hbp) (Nat.le_trans hB.size (Nat.le_trans hb.size hbp.size)) hbq) (Nat.le_trans hB.size (Nat.le_trans hb.size (Nat.le_trans hbp.size hbq.size))) hbr
          have hszwb := Nat.le_trans hb.size hbp.size
          have hszwb2 := Nat.le_trans hbq.size hbr.size
          clear hN hb hbp hbq hbr hB
          have hB := hBn
          clear hBn
          unfold putM at hwbr hwbq hwbp
          rw [hwbq, hwbp] at hwbr
          obtain ⟨hm0, hm1, hm2⟩ := HM.out.cells
          rw [hwbr] at hm0 hm1 hm2
          go_wp2_with fail
          rw [← hwbr]
          clear hwbr hwbq hwbp hszf hszl hm0 hm1 hm2
          have HCK := refRight_c _ us ms f wbr HM.out.mem (by omega)
          rw [hr] at HCK
          refine HCK.mono ?_
          rintro e wc ⟨rfl, hb⟩
          have HM' := Lib.hid ((HM.out.below hb))
          clear HM
          have HM := HM'
          clear HM'
          have HW' := Lib.hid ((HW.out.below hb))
          clear HW
          have HW := HW'
          clear HW'
          have HP' := Lib.hid ((HP.out.below hb))
          clear HP
          have HP := HP'
          clear HP'
          have HA' := Lib.hid ((HA.out.below hb))
          clear HA
          have HA := HA'
          clear HA'
          have HB' := Lib.hid ((HB.out.below hb))
          clear HB
          have HB := HB'
          clear HB'
          have HL' := Lib.hid ((HL.out.below hb))
          clear HL
          have HL := HL'
          clear HL'
          have HF' := Lib.hid ((HF.out.below hb))
          clear HF
          have HF := HF'
          clear HF'
          have hBn := below_then hB hB.size hb
          have hszwc := hb.size
          clear hb hB
          clear HCK
          have hB := hBn
          clear hBn
          obtain ⟨hm0, hm1, hm2⟩ := HM.out.cells
          obtain ⟨hp0, hp1⟩ := HP.out.cells
          go_wp2_with fail
          clear hm0 hm1 hm2 hp0 hp1
          have HCK := refIn_c pa us.length ca (.slice pb ms.length cb) ⟨_, _, _, rfl⟩ f (x : Int) (n : Int) wc (by omega) ha1 hk2
          rw [ht] at HCK
          refine HCK.mono ?_
          rintro e wd ⟨rfl, hb⟩
          have HM' := Lib.hid ((HM.out.below hb))
          clear HM
          have HM := HM'
          clear HM'
          have HW' := Lib.hid ((HW.out.below hb))
          clear HW
          have HW := HW'
          clear HW'
          have HP' := Lib.hid ((HP.out.below hb))
          clear HP
          have HP := HP'
          clear HP'
          have HA' := Lib.hid ((HA.out.below hb))
          clear HA
          have HA := HA'
          clear HA'
          have HB' := Lib.hid ((HB.out.below hb))
          clear HB
          have HB := HB'
          clear HB'
          have HL' := Lib.hid ((HL.out.below hb))
          clear HL
          have HL := HL'
          clear HL'
          have HF' := Lib.hid ((HF.out.below hb))
          clear HF
          have HF := HF'
          clear HF'
          have hBn := below_then hB hB.size hb
          have hszwd := hb.size
          clear hb hB
          clear HCK
          have hB := hBn
          clear hBn
          obtain ⟨hm0, hm1, hm2⟩ := HM.out.cells
          obtain ⟨hp0, hp1⟩ := HP.out.cells
          go_wp2_with fail
          clear hm0 hm1 hm2 hp0 hp1
          have HCK := refAll_c _ us ms f x n false wd HM.out.mem (capmax_mk (own_cap HM.out.lives)) (by omega) hk1 hxn
          rw [HAF.out] at HCK
          refine HCK.mono ?_
          rintro e wf ⟨rfl, hb⟩
          have HM' := Lib.hid ((HM.out.below hb))
          clear HM
          have HM := HM'
          clear HM'
          have HW' := Lib.hid ((HW.out.below hb))
          clear HW
          have HW := HW'
          clear HW'
          have HP' := Lib.hid ((HP.out.below hb))
          clear HP
          have HP := HP'
          clear HP'
          have HA' := Lib.hid ((HA.out.below hb))
          clear HA
          have HA := HA'
          clear HA'
          have HB' := Lib.hid ((HB.out.below hb))
          clear HB
          have HB := HB'
          clear HB'
          have HL' := Lib.hid ((HL.out.below hb))
          clear HL
          have HL := HL'
          clear HL'
          have HF' := Lib.hid ((HF.out.below hb))
          clear HF
          have HF := HF'
          clear HF'
          have hBn := below_then hB hB.size hb
          have hszwf := hb.size
          clear hb hB
          clear HCK
          have hB := hBn
          clear hBn
          obtain ⟨hm0, hm1, hm2⟩ := HM.out.cells
          obtain ⟨hp0, hp1⟩ := HP.out.cells
          go_wp2_with fail
          clear hm0 hm1 hm2 hp0 hp1
          have HCK := refAll_c _ us ms f x n true wf HM.out.mem (capmax_mk (own_cap HM.out.lives)) (by omega) hk1 hxn
          rw [HAT.out] at HCK
          refine HCK.mono ?_
          rintro e wg ⟨rfl, hb⟩
          have HM' := Lib.hid ((HM.out.below hb))
          clear HM
          have HM := HM'
          clear HM'
          have HW' := Lib.hid ((HW.out.below hb))
          clear HW
          have HW := HW'
          clear HW'
          have HP' := Lib.hid ((HP.out.below hb))
          clear HP
          have HP := HP'
          clear HP'
          have HA' := Lib.hid ((HA.out.below hb))
          clear HA
          have HA := HA'
          clear HA'
          have HB' := Lib.hid ((HB.out.below hb))
          clear HB
          have HB := HB'
          clear HB'
          have HL' := Lib.hid ((HL.out.below hb))
          clear HL
          have HL := HL'
          clear HL'
          have HF' := Lib.hid ((HF.out.below hb))
          clear HF
          have HF := HF'
          clear HF'
          have hBn := below_then hB hB.size hb
          have hszwg := hb.size
          clear hb hB
          clear HCK
          have hB := hBn
          clear hBn
          obtain ⟨ha0, ha1, ha2⟩ := HA.out.cells
          obtain ⟨hl0, hl1, hl2⟩ := HL.out.cells
          go_wp2_with fail
          clear ha0 ha1 ha2 hl0 hl1 hl2
          refine (refSame_t _ _ [] [] false wg HA.out.mem (nil_mem _) (by first | omega | decide) (by first | omega | decide)).mono ?_
          rintro e we ⟨rfl, hb⟩
          have HM' := Lib.hid ((HM.out.below hb))
          clear HM
          have HM := HM'
          clear HM'
          have HW' := Lib.hid ((HW.out.below hb))
          clear HW
          have HW := HW'
          clear HW'
          have HA' := Lib.hid ((HA.out.below hb))
          clear HA
          have HA := HA'
          clear HA'
          have HB' := Lib.hid ((HB.out.below hb))
          clear HB
          have HB := HB'
          clear HB'
          have HF' := Lib.hid ((HF.out.below hb))
          clear HF
          have HF := HF'
          clear HF'
          have hBn := below_then hB hB.size hb
          have hszwe := hb.size
          clear hb hB
          have hB := hBn
          clear hBn
          obtain ⟨hb0, hb1, hb2⟩ := HB.out.cells
          obtain ⟨hf0, hf1, hf2⟩ := HF.out.cells
          go_wp2_with fail
          clear hb0 hb1 hb2 hf0 hf1 hf2
          refine (refSame_t _ _ [] [] false we HB.out.mem (nil_mem _) (by first | omega | decide) (by first | omega | decide)).mono ?_
          rintro e w6 ⟨rfl, hb⟩
          obtain ⟨w6p, hw6p⟩ : ∃ x, x = putM w6 (.slice pa us.length ca) (.slice pb ms.length cb) f := ⟨_, rfl⟩
          have hbp : Below w6.heap.size w6 w6p := by rw [hw6p]; exact putM_below _ _ _ _
          have HN := Lib.hid (show MBox w6p w6.heap.size (.slice pa us.length ca) (.slice pb ms.length cb) f by rw [hw6p]; exact putM_box _ _ _ _)
          obtain ⟨hm0, hm1, hm2⟩ := (HM.out.below hb).cells
          have HM' := Lib.hid (((HM.out.below hb).below hbp))
          clear HM
          have HM := HM'
          clear HM'
          have HW' := Lib.hid (((HW.out.below hb).below hbp))
          clear HW
          have HW := HW'
          clear HW'
          have HA' := Lib.hid (((HA.out.below hb).below hbp))
          clear HA
          have HA := HA'
          clear HA'
          have HB' := Lib.hid (((HB.out.below hb).below hbp))
          clear HB
          have HB := HB'
          clear HB'
          have hBn := below_then (below_then hB hB.size hb) (Nat.le_trans hB.size hb.size) hbp
          have hszw6 := Nat.le_trans hb.size hbp.size
          have hsz6 := hb.size
          clear hb hbp hB HP
          have hB := hBn
          clear hBn
          unfold putM at hw6p
          obtain ⟨ha0, ha1, ha2⟩ := HA.out.cells
          rw [hw6p] at ha0 ha1 ha2
          go_wp2_with fail
          rw [← hw6p]
          clear hw6p hm0 hm1 hm2 ha0 ha1 ha2
          refine (spoil_p HA.out (by first | omega | decide) (by first | omega | decide)).mono ?_
          rintro e w8 ⟨rfl, hk⟩
          have HM' := Lib.hid (HM.out.keeps hk (by intro q hq; obtain ⟨hq1, hq2⟩ := hq; omega))
          clear HM
          have HM := HM'
          clear HM'
          have HW' := Lib.hid (HW.out.keeps hk (by intro q hq; obtain ⟨hq1, hq2⟩ := hq; omega))
          clear HW
          have HW := HW'
          clear HW'
          have HB' := Lib.hid (HB.out.keeps hk (by intro q hq; obtain ⟨hq1, hq2⟩ := hq; omega))
          clear HB
          have HB := HB'
          clear HB'
          have HN' := Lib.hid (HN.out.keeps hk (by intro hq; obtain ⟨hq1, hq2⟩ := hq; omega))
          clear HN
          have HN := HN'
          clear HN'
          have hBn : Below W.heap.size W w8 := hB.trans (hk.below hB.size (fun q hq => by obtain ⟨hq1, hq2⟩ := hq; omega))
          have hszw8 := hk.size
          clear hk hB HA
          have hB := hBn
          clear hBn
          obtain ⟨hb0, hb1, hb2⟩ := HB.out.cells
          go_wp2_with fail
          clear hb0 hb1 hb2
          refine (spoil_p HB.out (by first | omega | decide) (by first | omega | decide)).mono ?_
          rintro e w9 ⟨rfl, hk⟩
          have HM' := Lib.hid (HM.out.keeps hk (by intro q hq; obtain ⟨hq1, hq2⟩ := hq; omega))
          clear HM
          have HM := HM'
          clear HM'
          have HW' := Lib.hid (HW.out.keeps hk (by intro q hq; obtain ⟨hq1, hq2⟩ := hq; omega))
          clear HW
          have HW := HW'
          clear HW'
          have HN' := Lib.hid (HN.out.keeps hk (by intro hq; obtain ⟨hq1, hq2⟩ := hq; omega))
          clear HN
          have HN := HN'
          clear HN'
          have hBn : Below W.heap.size W w9 := hB.trans (hk.below hB.size (fun q hq => by obtain ⟨hq1, hq2⟩ := hq; omega))
          have hszw9 := hk.size
          clear hk hB HB
          have hB := hBn
          clear hBn
          obtain ⟨hm0, hm1, hm2⟩ := HM.out.cells
          obtain ⟨hw0, hw1, hw2⟩ := HW.out.cells
          go_wp2_with fail
          clear hm0 hm1 hm2 hw0 hw1 hw2
          refine (refSame_t _ _ us ms f w9 HM.out.mem HW.out.mem (by omega) (by omega)).mono ?_
          rintro e wx ⟨rfl, hb⟩
          have HM' := Lib.hid ((HM.out.below hb))
          clear HM
          have HM := HM'
          clear HM'
          have HN' := Lib.hid ((HN.out.below hb))
          clear HN
          have HN := HN'
          clear HN'
          have hBn := below_then hB hB.size hb
          clear hb hB HW
          have hB := hBn
          clear hBn
          obtain ⟨hm0, hm1, hm2⟩ := HM.out.cells
          obtain ⟨hn0, hn1, hn2⟩ := HN.out.cells
          obtain ⟨hf0, hf1, hf2⟩ := HM.out.free
          have HE := Lib.hid (put_back (f := f) (lo0 := W.heap.size) HM.out.box HM.out.words HM.out.lives (Nat.le_refl _) HM.out.from')
          have HBE := Lib.hid (((hB.setCell (p := ⟨z5, 0, none⟩) HM.out.from' (.slice pa us.length ca)).setCell (p := ⟨z5, 1, none⟩) HM.out.from' (.slice pb ms.length cb)).setCell (p := ⟨z5, 2, none⟩) HM.out.from' (.bool f))
          clear HM HN hB
          go_wp2
          go_roundw
          case rel => exact ⟨i + 1, _, _, _, _, _, _, by omega, by go_num, HE.out, by omega, by omega, HBE.out⟩
          case measure => simp [intOf]; omega
    · have HBE := Lib.hid hB
      clear hB hm
      go_wp2
      go_ret
      exact ⟨rfl, HBE.out⟩

end Go.Proofs.Ytelgaakjhjcopaa
