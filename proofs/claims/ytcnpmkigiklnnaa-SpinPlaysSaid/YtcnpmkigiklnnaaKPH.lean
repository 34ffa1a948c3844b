/-
  SpinPlays returns true for every memory, row of those who want locks, and of picks, and its arguments read behind the call as they read before.
  Conditions: none.
-/
import Derived.Test.YtcnpmkigiklnnaaKP1
import Derived.Test.YtcnpmkigiklnnaaKS17
import Derived.Test.YtcnpmkigiklnnaaKS1
import Derived.Test.YtcnpmkigiklnnaaKS3
/-
  Where all are behind a play, and who held a lock: the statement's body, where all may be.
  Conditions: the memory, and the rows, are ones that came in; the ranges of Go's types.
-/
namespace Go.Proofs.Ytcnpmkigiklnnaa
open Go.RowKit Go.Shelf
attribute [local go_sem] Oper.semAt_some

set_option maxRecDepth 100000 in
set_option maxHeartbeats 40000000 in
theorem plays_C (v0 v1 vl vp : Value) (f : Bool) (ws : List Int) (ls : List Bool) (ss : List SpM) (ps : List Int) (W : World) (h0 : ArgR W v0 (ws.map (Value.int .u64))) (h1 : ArgR W v1 (ls.map Value.bool)) (hw : ws.length ≤ 9223372036854775807) (hl : ls.length ≤ 9223372036854775807)
    (hs : ArgS W vl ss) (hsl : ss.length ≤ 9223372036854775807) (hp : ArgR W vp (ps.map (Value.int .i64))) (hpl : ps.length ≤ 9223372036854775807) (hsr : ∀ s ∈ ss, SpR s) (hrg : WRange ws) (hr : rightB (ws.take 16) (ls.take 16) = true) (hall : ∀ s ∈ ss.take 6, rightS s = true) :
    Calls Try.prog 5 #[.agg #[v0, v1, .bool f], vl, vp] W fun e w' => e = .returned (.bool true) ∧ Below W.heap.size W w' := by
  have h0' := h0
  have h1' := h1
  have hs' := hs
  have hp' := hp
  obtain ⟨p0, n0, c0, rfl, -, -⟩ := h0'
  obtain ⟨p1, n1, c1, rfl, -, -⟩ := h1'
  obtain ⟨pl, nl, cl, rfl, -, -, -⟩ := hs'
  obtain ⟨pp, np, cp, rfl, hnp, hpp⟩ := hp'
  have H0 := Lib.hid h0
  have H1 := Lib.hid h1
  have HSA := Lib.hid hs
  have HWL := Lib.hid hw
  have HLL := Lib.hid hl
  have HSL := Lib.hid hsl
  have HRG := Lib.hid (show WRange (ws.take 16) from fun x hx => hrg x (List.mem_of_mem_take hx))
  have HSR := Lib.hid (show ∀ s ∈ ss.take 6, SpR s from fun s h => hsr s (List.mem_of_mem_take h))
  have hnc : np ≤ cp := by rcases hpp with ⟨_, b, c⟩ | ⟨_, _, b, _⟩ <;> omega
  have hnp2 : np ≤ 9223372036854775807 := by rw [hnp]; simpa using hpl
  have HCI := Lib.hid (show ∀ W' : World, Below W.heap.size W W' → Calls Try.prog 25 #[.slice pp (min np 80) cp] W' fun e w' => (∃ q d, e = .returned (.slice q (ps.take 80).length d) ∧ w'.ownsRow W'.heap.size 3 1 (.slice q (ps.take 80).length d) (ps.take 80).length ((ps.take 80).map (Value.int .i64))) ∧ Below W'.heap.size W' w' from fun W' hb => by
    have hlen : (ps.take 80).length = min np 80 := by rw [List.length_take, hnp, List.length_map]; omega
    have := cloneI _ _ _ W' (vals_cut (k := 80) hnp hpp hb) (fun u hu => by obtain ⟨x, _, rfl⟩ := List.mem_map.1 (List.mem_of_mem_take hu); rfl) (by omega)
    rw [← List.map_take] at this
    refine this.mono fun e w' hh => ⟨?_, hh.2⟩
    obtain ⟨v', rfl, ho⟩ := hh.1
    obtain ⟨q, d, rfl⟩ := owns_slice ho
    rw [← hlen] at ho ⊢
    exact ⟨q, d, rfl, ho⟩)
  obtain ⟨k0, hk0⟩ : ∃ k, k = min np 80 := ⟨_, rfl⟩
  have hs0 : ∀ wx, (Instr.slice 58 (.slice pp np cp) none (some (.int .i64 (k0 : Int))) none).run Try.prog wx = .ok (.slice pp k0 cp) wx := run_cut16 Try.underlying58 (fun wx => by go_simp) pp np cp k0 (by omega)
  have hm0 : ∀ wx, (Builtin.min_ #[3, 3] 3 #[.int .i64 (np : Int), .int .i64 80]).run Try.prog wx = .ok (.int .i64 (k0 : Int)) wx := fun wx => by
    have : (if (80 : Int) < (np : Int) then (80 : Int) else np) = (k0 : Int) := by rw [hk0]; split <;> omega
    simp [Builtin.min_, Builtin.min2, this]
  rw [← hk0] at HCI
  clear h0 h1 hw hl hrg hsr hs hsl hp hpl hnp hpp hk0 hnc
  obtain ⟨wo, hwo⟩ : ∃ wo : World, wo = W.alloc (.cells #[.slice p0 n0 c0, .slice p1 n1 c1, .bool f] 46) := ⟨_, rfl⟩
  have hB : Below W.heap.size W wo := by rw [hwo]; exact below1 W _
  have HX := Lib.hid (show MBox wo W.heap.size (.slice p0 n0 c0) (.slice p1 n1 c1) f by rw [hwo]; exact MBox.new _ _ _ _)
  go_enter Try.func5, Try.ntmps5
  go_wp2_with fail
  rw [← hwo]
  clear hwo
  refine (qwakes _).mono ?_
  rintro e w1 ⟨rfl, hb⟩
  have HX' := Lib.hid ((HX.out.below hb))
  clear HX
  have HX := HX'
  clear HX'
  have hB := below_then hB hB.size hb
  clear hb
  obtain ⟨hx0, hx1, hx2⟩ := (mbox_cells HX.out).1
  go_wp2_with fail
  clear hx0 hx1 hx2
  refine (own_c _ _ f ws ls _ (H0.out.below hB) (H1.out.below hB) HWL.out HLL.out).mono ?_
  rintro e w2 ⟨⟨_, rfl, vx, vy, rfl, h0, h1⟩, hb⟩
  obtain ⟨q0, d0, rfl⟩ := owns_slice h0
  obtain ⟨q1, d1, rfl⟩ := owns_slice h1
  have HO := Lib.hid (And.intro h0 h1)
  have HX' := Lib.hid ((HX.out.below hb))
  clear HX
  have HX := HX'
  clear HX'
  have hB := below_then hB hB.size hb
  have hsz2 := hb.size
  clear h0 h1 hb
  obtain ⟨us, hus⟩ : ∃ u, u = ws.take 16 := ⟨_, rfl⟩
  obtain ⟨ms, hms⟩ : ∃ u, u = ls.take 16 := ⟨_, rfl⟩
  obtain ⟨s6, hs6⟩ : ∃ u, u = ss.take 6 := ⟨_, rfl⟩
  obtain ⟨p8, hp8⟩ : ∃ u, u = ps.take 80 := ⟨_, rfl⟩
  have hul : us.length ≤ 16 := by rw [hus]; simp; omega
  have hml : ms.length ≤ 16 := by rw [hms]; simp; omega
  have hsl : s6.length ≤ 6 := by rw [hs6]; simp; omega
  have hpl : p8.length ≤ 80 := by rw [hp8]; simp; omega
  rw [← hus, ← hms] at hr
  rw [← hs6] at hall
  rw [← hus] at HO HRG
  rw [← hms] at HO
  rw [← hs6] at HSR
  rw [← hp8] at HCI
  have HUS := Lib.hid hus
  have HMS := Lib.hid hms
  have HS6 := Lib.hid hs6
  rw [← HUS.out, ← HMS.out]
  clear hus hms hs6 hp8
  go_wp2_with fail
  refine (few_c _ ss _ (HSA.out.below hB) HSL.out).mono ?_
  rintro e w3 ⟨⟨q6, d6, rfl, hl6⟩, hb⟩
  rw [← HS6.out] at hl6 ⊢
  obtain ⟨w3p, hw3p⟩ : ∃ x, x = putM w3 (.slice q0 us.length d0) (.slice q1 ms.length d1) f := ⟨_, rfl⟩
  have hbp : Below w3.heap.size w3 w3p := by rw [hw3p]; exact putM_below _ _ _ _
  have hM := putM_pvar (B := w1.heap.size) f (owns_below HO.out.1 hb) (owns_below HO.out.2 hb) (Nat.le_trans hsz2 hb.size)
  rw [← hw3p] at hM
  have HM := Lib.hid hM
  have HL6 := Lib.hid (show SpinsAt w3p (.slice q6 s6.length d6) s6 from spins_of_owns rfl (owns_below hl6 hbp))
  have HQ6 := Lib.hid (show ∀ c, Value.slice q6 s6.length d6 = .slice none 0 c → c = 0 from own_nil hl6)
  have HX' := Lib.hid (((HX.out.below hb).below hbp))
  clear HX
  have HX := HX'
  clear HX'
  have hB := below_then (below_then hB hB.size hb) (Nat.le_trans hB.size hb.size) hbp
  clear hM hb hbp hl6 HO hsz2
  obtain ⟨zm, hzm⟩ : ∃ z, z = w3.heap.size := ⟨_, rfl⟩
  unfold putM at hw3p
  go_wp2_with fail
  rw [← hw3p, ← hzm]
  rw [← hzm] at HM
  clear hw3p hzm hs0 hm0
  refine (HCI.out _ hB).mono ?_
  rintro e w4 ⟨⟨q8, d8, rfl, hp8⟩, hb⟩
  have HP8 := Lib.hid (show PkAt w4 (.slice q8 p8.length d8) p8 from ⟨nums_of_owns rfl hp8⟩)
  have HX' := Lib.hid ((HX.out.below hb))
  clear HX
  have HX := HX'
  clear HX'
  have HM' := Lib.hid ((HM.out.below hb))
  clear HM
  have HM := HM'
  clear HM'
  have HL6' := Lib.hid ((HL6.out.below hb))
  clear HL6
  have HL6 := HL6'
  clear HL6'
  have hB := below_then hB hB.size hb
  clear hb hp8 HCI
  obtain ⟨hm0, hm1, hm2⟩ := HM.out.cells
  go_wp2_with fail
  clear hm0 hm1 hm2
  have HALR := Lib.hid hall
  have HALL := Lib.hid (rightE_all hall)
  have HPL := qplay _ _ _ us ms f s6 p8 w4 HM.out.mem hr HRG.out HL6.out (by omega) hall HSR.out HP8.out.nums (by omega)
  rw [refR_play ms s6.length p8 ⟨us, f, s6⟩ [] rfl] at HPL
  obtain ⟨⟨⟨uP, fP, sP⟩, hP⟩, hPP⟩ : ∃ R, refR ms s6.length p8 ⟨us, f, s6⟩ [] = R := ⟨_, rfl⟩
  have hlen1 := playR_wlen ms s6.length p8 ⟨us, f, s6⟩ []
  have hlen2 := playR_len ms s6.length p8 ⟨us, f, s6⟩ []
  have hlen3 := refR_held ms s6.length p8 ⟨us, f, s6⟩ []
  rw [hPP] at HPL hlen1 hlen2 hlen3
  have HLP := Lib.hid (show uP.length = us.length ∧ sP.length = s6.length ∧ hP.length ≤ 80 from ⟨hlen1, hlen2, by simp at hlen3; omega⟩)
  have HPP := Lib.hid hPP
  clear hlen1 hlen2 hlen3 hPP hall
  refine HPL.mono ?_
  rintro e w5 ⟨⟨x, y, g, vh, rfl, hx, hy, hsp, hpn, hh⟩, hb⟩
  clear HPL
  obtain ⟨px, cx, rfl⟩ := owns_slice hx
  obtain ⟨py, cy, rfl⟩ := owns_slice hy
  obtain ⟨ph, ch, rfl⟩ := owns_slice hh
  simp only at hx hy hsp hpn hh
  obtain ⟨w5p, hw5p⟩ : ∃ x, x = putM w5 (.slice px uP.length cx) (.slice py ms.length cy) fP := ⟨_, rfl⟩
  have hbp : Below w5.heap.size w5 w5p := by rw [hw5p]; exact putM_below _ _ _ _
  have hN := putM_pvar (B := w4.heap.size) fP hx hy hb.size
  rw [← hw5p] at hN
  have HN := Lib.hid hN
  have HAL := Lib.hid (show SpinsAt w5p (.slice (some ⟨g, 0, none⟩) s6.length s6.length) sP from spins_of_owns hpn (owns_below hsp hbp))
  have HHD := Lib.hid (show PkAt w5p (.slice ph hP.length ch) hP from ⟨nums_of_owns rfl (owns_below hh hbp)⟩)
  have HX' := Lib.hid (((HX.out.below hb).below hbp))
  clear HX
  have HX := HX'
  clear HX'
  have HM' := Lib.hid (((HM.out.below hb).below hbp))
  clear HM
  have HM := HM'
  clear HM'
  have HL6' := Lib.hid (((HL6.out.below hb).below hbp))
  clear HL6
  have HL6 := HL6'
  clear HL6'
  have HP8' := Lib.hid (((HP8.out.below hb).below hbp))
  clear HP8
  have HP8 := HP8'
  clear HP8'
  have hB := below_then (below_then hB hB.size hb) (Nat.le_trans hB.size hb.size) hbp
  clear hN hb hbp hx hy hsp hpn hh
  obtain ⟨zn, hzn⟩ : ∃ z, z = w5.heap.size := ⟨_, rfl⟩
  rw [← hzn] at HN
  unfold putM at hw5p
  obtain ⟨hm0, hm1, hm2⟩ := HM.out.cells
  rw [hw5p] at hm0 hm1 hm2
  go_wp2_with fail
  rw [← hw5p, ← hzn]
  clear hw5p hzn hm0 hm1 hm2
  have HCK := refRight_c _ us ms f w5p HM.out.mem (by omega)
  rw [hr] at HCK
  refine HCK.mono ?_
  rintro e w6 ⟨rfl, hb⟩
  have HX' := Lib.hid ((HX.out.below hb))
  clear HX
  have HX := HX'
  clear HX'
  have HM' := Lib.hid ((HM.out.below hb))
  clear HM
  have HM := HM'
  clear HM'
  have HL6' := Lib.hid ((HL6.out.below hb))
  clear HL6
  have HL6 := HL6'
  clear HL6'
  have HP8' := Lib.hid ((HP8.out.below hb))
  clear HP8
  have HP8 := HP8'
  clear HP8'
  have HN' := Lib.hid ((HN.out.below hb))
  clear HN
  have HN := HN'
  clear HN'
  have HAL' := Lib.hid ((HAL.out.below hb))
  clear HAL
  have HAL := HAL'
  clear HAL'
  have HHD' := Lib.hid ((HHD.out.below hb))
  clear HHD
  have HHD := HHD'
  clear HHD'
  have hB := below_then hB hB.size hb
  clear hb HCK
  have HL := Lib.hid HL6.out
  clear HL6
  obtain ⟨ql, cl6, hq, hcl⟩ := id HL.out
  injection hq with hq _ hq2
  subst hq hq2
  have HCL := Lib.hid hcl
  have HBB := Lib.hid hB
  clear hcl hB
  go_wp2
  go_loopw [13, 45] (fun nv iv wr => ∃ k : Nat, k ≤ s6.length ∧ iv = .int .i64 k ∧ nv = .int .i64 (rightE (s6.take k)) ∧ Below w6.heap.size w6 wr) (fun _ iv _ => s6.length - (intOf iv).toNat)
  case atStart => exact ⟨0, Nat.zero_le _, rfl, rfl, Below.refl _ _⟩
  case round =>
    obtain ⟨k, hk, rfl, rfl, hbr⟩ := hrel
    by_cases hlt : k < s6.length
    · obtain ⟨b6, o6, rfl, hcs⟩ := HCL.out (by intro e; rw [e] at hlt; cases hlt)
      obtain ⟨f0, f1, f2⟩ := flatS_get s6 k hlt
      obtain ⟨⟨a, p, t⟩, hak⟩ : ∃ s, s = s6[k] := ⟨_, rfl⟩
      have HE := Lib.hid (show rightE (s6.take (k + 1)) = if rightS ⟨a, p, t⟩ = false then 150 else rightE (s6.take k) by
        rw [List.take_succ_eq_append_getElem hlt, rightE_snoc, ← hak])
      rw [← hak] at f0 f1 f2
      have x0 := below_cell hbr (hcs _ _ f0)
      have x1 := below_cell hbr (hcs _ _ f1)
      have x2 := below_cell hbr (hcs _ _ f2)
      simp only [← Nat.add_assoc] at x0 x1 x2
      clear f0 f1 f2 hcs hak
      obtain ⟨w7, hw7⟩ : ∃ w : World, w = wr.alloc (.cells #[.int .i64 a, .int .i64 p, .int .u64 t] 24) := ⟨_, rfl⟩
      have hb7 : Below wr.heap.size wr w7 := by rw [hw7]; exact below1 wr _
      have hbr2 := below_then hbr hbr.size hb7
      have HBR := Lib.hid hbr2
      have hs7 : SpBox w7 wr.heap.size a p t := by rw [hw7]; exact World.alloc_heap_new _ _
      obtain ⟨s0, s1, s2⟩ := hs7.cells
      rw [hw7] at s0 s1 s2
      clear hbr hb7 hbr2 hs7
      go_wp2_with fail
      rw [← hw7]
      clear hw7 s0 s1 s2 x0 x1 x2
      have HRR := qrright ⟨a, p, t⟩ w7
      cases hri : rightS ⟨a, p, t⟩ with
      | false =>
        rw [hri] at HRR
        have HE2 := Lib.hid (show rightE (s6.take (k + 1)) = 150 by rw [HE.out, if_pos hri])
        refine HRR.mono ?_
        rintro e w8 ⟨rfl, hb⟩
        have HB8 := Lib.hid (below_then HBR.out HBR.out.size hb)
        clear hb HRR HE hri
        go_wp2
        go_roundw
        case rel => exact ⟨k + 1, by omega, by go_num, by rw [HE2.out], HB8.out⟩
        case measure => simp [intOf]; omega
      | true =>
        rw [hri] at HRR
        have HE2 := Lib.hid (show rightE (s6.take (k + 1)) = rightE (s6.take k) by rw [HE.out, if_neg (by rw [hri]; decide)])
        refine HRR.mono ?_
        rintro e w8 ⟨rfl, hb⟩
        have HB8 := Lib.hid (below_then HBR.out HBR.out.size hb)
        clear hb HRR HE hri
        go_wp2
        go_roundw
        case rel => exact ⟨k + 1, by omega, by go_num, by rw [HE2.out], HB8.out⟩
        case measure => simp [intOf]; omega
    · obtain rfl : k = s6.length := by omega
      rw [List.take_length, HALL.out]
      have hbw : Below w6.heap.size w6 wr := hbr

      have HX' := Lib.hid ((HX.out.below hbw))
      clear HX
      have HX := HX'
      clear HX'
      have HM' := Lib.hid ((HM.out.below hbw))
      clear HM
      have HM := HM'
      clear HM'
      have HP8' := Lib.hid ((HP8.out.below hbw))
      clear HP8
      have HP8 := HP8'
      clear HP8'
      have HN' := Lib.hid ((HN.out.below hbw))
      clear HN
      have HN := HN'
      clear HN'
      have HAL' := Lib.hid ((HAL.out.below hbw))
      clear HAL
      have HAL := HAL'
      clear HAL'
      have HHD' := Lib.hid ((HHD.out.below hbw))
      clear HHD
      have HHD := HHD'
      clear HHD'
      have HL' := Lib.hid ((HL.out.below hbw))
      clear HL
      have HL := HL'
      clear HL'
      have hB := below_then HBB.out HBB.out.size hbw
      clear hbw hbr HBB HCL hlt hk
      have hpp := HPP.out
      have hok : PlOk ms ⟨us, f, s6⟩ := ⟨hr, HRG.out, HALR.out, HSR.out⟩
      obtain ⟨hx0, hx1, hx2⟩ := (mbox_cells HX.out).1
      have HOK := Lib.hid hok
      clear hok hpp
      go_wp2_with fail
      clear hx0 hx1 hx2
      refine (own_c _ _ f ws ls _ (H0.out.below hB) (H1.out.below hB) HWL.out HLL.out).mono ?_
      rintro e wa ⟨hg, hb⟩
      rw [← HUS.out, ← HMS.out] at hg
      obtain ⟨_, rfl, vx, vy, rfl, h0, h1⟩ := hg
      obtain ⟨po, co, rfl⟩ := owns_slice h0
      obtain ⟨qo, do', rfl⟩ := owns_slice h1
      have HRO := Lib.hid (And.intro h0 h1)
      have HX' := Lib.hid ((HX.out.below hb))
      clear HX
      have HX := HX'
      clear HX'
      have HM' := Lib.hid ((HM.out.below hb))
      clear HM
      have HM := HM'
      clear HM'
      have HP8' := Lib.hid ((HP8.out.below hb))
      clear HP8
      have HP8 := HP8'
      clear HP8'
      have HN' := Lib.hid ((HN.out.below hb))
      clear HN
      have HN := HN'
      clear HN'
      have HAL' := Lib.hid ((HAL.out.below hb))
      clear HAL
      have HAL := HAL'
      clear HAL'
      have HHD' := Lib.hid ((HHD.out.below hb))
      clear HHD
      have HHD := HHD'
      clear HHD'
      have HL' := Lib.hid ((HL.out.below hb))
      clear HL
      have HL := HL'
      clear HL'
      have hB := below_then hB hB.size hb
      have hsa := hb.size
      clear hb h0 h1
      go_wp2_with fail
      have HRP := refPlay_c wr.heap.size _ _ _ _ us ms f s6 p8 wa HRO.out.1 HRO.out.2 hsa HOK.out HL.out HQ6.out (by omega) HP8.out.nums (by omega)
      rw [HPP.out] at HRP
      refine HRP.mono ?_
      rintro e wb ⟨⟨x, y, va, vh, rfl, hx, hy, hA, hH⟩, hb⟩
      obtain ⟨pX, cX, rfl⟩ := owns_slice hx
      obtain ⟨pY, cY, rfl⟩ := owns_slice hy
      obtain ⟨qT, dT, rfl⟩ := owns_slice hA
      obtain ⟨pw, cw, rfl⟩ := owns_slice hH
      simp only at hx hy hA hH
      obtain ⟨wd, hwd⟩ : ∃ x, x = putM wb (.slice pX uP.length cX) (.slice pY ms.length cY) fP := ⟨_, rfl⟩
      have hbp : Below wb.heap.size wb wd := by rw [hwd]; exact putM_below _ _ _ _
      have hD := putM_pvar (B := wr.heap.size) fP hx hy (Nat.le_trans hsa hb.size)
      rw [← hwd] at hD
      have HTH := Lib.hid (show SpinsAt wd (.slice qT sP.length dT) sP from spins_of_owns rfl (owns_below hA hbp))
      have HWH := Lib.hid (show PkAt wd (.slice pw hP.length cw) hP from ⟨nums_of_owns rfl (owns_below hH hbp)⟩)
      have HX' := Lib.hid (((HX.out.below hb).below hbp))
      clear HX
      have HX := HX'
      clear HX'
      have HM' := Lib.hid (((HM.out.below hb).below hbp))
      clear HM
      have HM := HM'
      clear HM'
      have HP8' := Lib.hid (((HP8.out.below hb).below hbp))
      clear HP8
      have HP8 := HP8'
      clear HP8'
      have HN' := Lib.hid (((HN.out.below hb).below hbp))
      clear HN
      have HN := HN'
      clear HN'
      have HAL' := Lib.hid (((HAL.out.below hb).below hbp))
      clear HAL
      have HAL := HAL'
      clear HAL'
      have HHD' := Lib.hid (((HHD.out.below hb).below hbp))
      clear HHD
      have HHD := HHD'
      clear HHD'
      have HL' := Lib.hid (((HL.out.below hb).below hbp))
      clear HL
      have HL := HL'
      clear HL'
      have hB := below_then (below_then hB hB.size hb) (Nat.le_trans hB.size hb.size) hbp
      obtain ⟨zd, hzd⟩ : ∃ z, z = wb.heap.size := ⟨_, rfl⟩
      rw [← hzd] at hD
      obtain ⟨F, hFE⟩ : ∃ F : World → Prop, F = fun w => MBox w W.heap.size (.slice p0 n0 c0) (.slice p1 n1 c1) f ∧ PVar w w1.heap.size w3p.heap.size zm (.slice q0 us.length d0) (.slice q1 ms.length d1) us ms f ∧ PVar w w4.heap.size w5p.heap.size zn (.slice px uP.length cx) (.slice py ms.length cy) uP ms fP ∧ PVar w wr.heap.size wd.heap.size zd (.slice pX uP.length cX) (.slice pY ms.length cY) uP ms fP ∧ SpinsAt w (.slice (some ⟨g, 0, none⟩) s6.length s6.length) sP ∧ SpinsAt w (.slice qT sP.length dT) sP ∧ PkAt w (.slice ph hP.length ch) hP ∧ PkAt w (.slice pw hP.length cw) hP ∧ SpinsAt w (.slice q6 s6.length d6) s6 ∧ Below W.heap.size W w := ⟨_, rfl⟩
      have HFE := Lib.hid (show ∀ w, F w → MBox w W.heap.size (.slice p0 n0 c0) (.slice p1 n1 c1) f ∧ PVar w w1.heap.size w3p.heap.size zm (.slice q0 us.length d0) (.slice q1 ms.length d1) us ms f ∧ PVar w w4.heap.size w5p.heap.size zn (.slice px uP.length cx) (.slice py ms.length cy) uP ms fP ∧ PVar w wr.heap.size wd.heap.size zd (.slice pX uP.length cX) (.slice pY ms.length cY) uP ms fP ∧ SpinsAt w (.slice (some ⟨g, 0, none⟩) s6.length s6.length) sP ∧ SpinsAt w (.slice qT sP.length dT) sP ∧ PkAt w (.slice ph hP.length ch) hP ∧ PkAt w (.slice pw hP.length cw) hP ∧ SpinsAt w (.slice q6 s6.length d6) s6 ∧ Below W.heap.size W w from fun w h => by rw [hFE] at h; exact h)
      have HFB := Lib.hid (show ∀ w w', F w → Below w.heap.size w w' → F w' from fun w w' h hb => by
        rw [hFE] at h ⊢
        obtain ⟨g1, g2, g3, g4, g5, g6, g7, g8, g9, g10⟩ := h
        exact ⟨g1.below hb, g2.below hb, g3.below hb, g4.below hb, g5.below hb, g6.below hb, g7.below hb, g8.below hb, g9.below hb, below_then g10 g10.size hb⟩)
      have hF : F wd := by rw [hFE]; exact ⟨HX.out, HM.out, HN.out, hD, HAL.out, HTH.out, HHD.out, HWH.out, HL.out, hB⟩
      have hlP : Hid (uP.length = us.length ∧ sP.length = s6.length ∧ hP.length ≤ 80) := HLP
      clear hFE hD hb hbp hx hy hA hH HX HM HN HAL HTH HHD HWH HL hB HRP HRO HP8 HOK
      unfold putM at hwd
      go_upto_region 18 with fail
      rw [← hwd, ← hzd]
      clear hwd hzd
      refine wpTwo_begin (T := F) (S := fun _ => True) (late := fun _ => false) (by kernel_rfl) ?_
      obtain ⟨X0, hX0⟩ : ∃ X : World, X = wd.drew := ⟨_, rfl⟩
      rw [← hX0]
      have hF := HFB.out _ X0 hF (by rw [hX0]; exact (Below.refl _ _).drew)
      clear hX0
      refine wpTwo_takeT (i := 0) (v := .int .i64 0) rfl (by kernel_rfl) (by kernel_rfl) (by kernel_rfl) (fun _ _ _ h => h) ⟨by rfl, ?_⟩ hF ?_
      · rintro w hTw
        go_simp
      (try simp only [Act.put, List.getElem_toArray, List.getElem_cons_zero, List.setIfInBounds_toArray, List.set_cons_succ, List.set_cons_zero])
      refine wpTwo_takeT (i := 1) (v := .bool true) rfl (by kernel_rfl) (by kernel_rfl) (by kernel_rfl) (fun _ _ _ h => h) ⟨by rfl, ?_⟩ hF ?_
      · rintro w hTw
        go_simp
      (try simp only [Act.put, List.getElem_toArray, List.getElem_cons_succ, List.getElem_cons_zero, List.setIfInBounds_toArray, List.set_cons_succ, List.set_cons_zero])
      refine wpTwo_takeT (i := 2) (v := .bool true) rfl (by kernel_rfl) (by kernel_rfl) (by kernel_rfl) (fun _ _ _ h => h) ⟨by rfl, ?_⟩ hF ?_
      · rintro w hTw
        go_simp
      (try simp only [Act.put, List.getElem_toArray, List.getElem_cons_succ, List.getElem_cons_zero, List.setIfInBounds_toArray, List.set_cons_succ, List.set_cons_zero])
      refine wpTwo_takeT (i := 3) (v := .agg #[.slice px uP.length cx, .slice py ms.length cy, .bool fP]) rfl (by kernel_rfl) (by kernel_rfl) (by kernel_rfl) (fun _ _ _ h => h) ⟨by rfl, ?_⟩ hF ?_
      · rintro w hTw
        obtain ⟨t0, t1, t2⟩ := (HFE.out _ hTw).2.2.1.cells
        go_simp
      (try simp only [Act.put, List.getElem_toArray, List.getElem_cons_succ, List.getElem_cons_zero, List.setIfInBounds_toArray, List.set_cons_succ, List.set_cons_zero])
      refine wpTwo_takeT (i := 4) (v := .agg #[.slice pX uP.length cX, .slice pY ms.length cY, .bool fP]) rfl (by kernel_rfl) (by kernel_rfl) (by kernel_rfl) (fun _ _ _ h => h) ⟨by rfl, ?_⟩ hF ?_
      · rintro w hTw
        obtain ⟨t0, t1, t2⟩ := (HFE.out _ hTw).2.2.2.1.cells
        go_simp
      (try simp only [Act.put, List.getElem_toArray, List.getElem_cons_succ, List.getElem_cons_zero, List.setIfInBounds_toArray, List.set_cons_succ, List.set_cons_zero])
      refine wpTwo_ready (rs := [5]) (by kernel_rfl) (by simp) ?_
      refine (AllTwo.cons rfl (fun K hK => ?_) AllTwo.nil)
      go_simp
      obtain ⟨gX, gM, gN, gD, gA, gT, gH, gW, gL, gB⟩ := HFE.out _ hF
      refine (refSame_t _ _ uP ms fP _ gN.mem gD.mem (by have := hlP.out.1; omega) (by omega)).mono ?_
      rintro e Y ⟨rfl, hb⟩
      have hF := HFB.out _ _ hF hb
      clear gX gM gN gD gA gT gH gW gL gB
      go_wp2_with fail
      refine hK.out _ _ ⟨hF, fun _ _ => trivial⟩ ?_
      clear hK K
      (try simp only [Act.put, List.getElem_toArray, List.getElem_cons_succ, List.getElem_cons_zero, List.setIfInBounds_toArray, List.set_cons_succ, List.set_cons_zero])
      refine wpTwo_takeT (i := 6) (v := .bool true) rfl (by kernel_rfl) (by kernel_rfl) (by kernel_rfl) (fun _ _ _ h => h) ⟨by rfl, ?_⟩ hF ?_
      · rintro w hTw
        go_simp
      (try simp only [Act.put, List.getElem_toArray, List.getElem_cons_succ, List.getElem_cons_zero, List.setIfInBounds_toArray, List.set_cons_succ, List.set_cons_zero])
      refine wpTwo_takeT (i := 7) (v := .bool true) rfl (by kernel_rfl) (by kernel_rfl) (by kernel_rfl) (fun _ _ _ h => h) ⟨by rfl, ?_⟩ hF ?_
      · rintro w hTw
        go_simp
      (try simp only [Act.put, List.getElem_toArray, List.getElem_cons_succ, List.getElem_cons_zero, List.setIfInBounds_toArray, List.set_cons_succ, List.set_cons_zero])
      refine wpTwo_takeT (i := 8) (v := .slice (some ⟨g, 0, none⟩) s6.length s6.length) rfl (by kernel_rfl) (by kernel_rfl) (by kernel_rfl) (fun _ _ _ h => h) ⟨by rfl, ?_⟩ hF ?_
      · rintro w hTw
        go_simp
      (try simp only [Act.put, List.getElem_toArray, List.getElem_cons_succ, List.getElem_cons_zero, List.setIfInBounds_toArray, List.set_cons_succ, List.set_cons_zero])
      refine wpTwo_takeT (i := 9) (v := .slice qT sP.length dT) rfl (by kernel_rfl) (by kernel_rfl) (by kernel_rfl) (fun _ _ _ h => h) ⟨by rfl, ?_⟩ hF ?_
      · rintro w hTw
        go_simp
      (try simp only [Act.put, List.getElem_toArray, List.getElem_cons_succ, List.getElem_cons_zero, List.setIfInBounds_toArray, List.set_cons_succ, List.set_cons_zero])
      refine wpTwo_ready (rs := [10]) (by kernel_rfl) (by simp) ?_
      refine (AllTwo.cons rfl (fun K hK => ?_) AllTwo.nil)
      go_simp
      obtain ⟨gX, gM, gN, gD, gA, gT, gH, gW, gL, gB⟩ := HFE.out _ hF
      refine (refSameS _ _ sP _ gA gT (by have := hlP.out.2.1; omega)).mono ?_
      rintro e Y ⟨rfl, hb⟩
      have hF := HFB.out _ _ hF hb
      clear gX gM gN gD gA gT gH gW gL gB
      go_wp2_with fail
      refine hK.out _ _ ⟨hF, fun _ _ => trivial⟩ ?_
      clear hK K
      (try simp only [Act.put, List.getElem_toArray, List.getElem_cons_succ, List.getElem_cons_zero, List.setIfInBounds_toArray, List.set_cons_succ, List.set_cons_zero])
      refine wpTwo_takeT (i := 11) (v := .bool true) rfl (by kernel_rfl) (by kernel_rfl) (by kernel_rfl) (fun _ _ _ h => h) ⟨by rfl, ?_⟩ hF ?_
      · rintro w hTw
        go_simp
      (try simp only [Act.put, List.getElem_toArray, List.getElem_cons_succ, List.getElem_cons_zero, List.setIfInBounds_toArray, List.set_cons_succ, List.set_cons_zero])
      refine wpTwo_takeT (i := 12) (v := .bool true) rfl (by kernel_rfl) (by kernel_rfl) (by kernel_rfl) (fun _ _ _ h => h) ⟨by rfl, ?_⟩ hF ?_
      · rintro w hTw
        go_simp
      (try simp only [Act.put, List.getElem_toArray, List.getElem_cons_succ, List.getElem_cons_zero, List.setIfInBounds_toArray, List.set_cons_succ, List.set_cons_zero])
      refine wpTwo_takeT (i := 13) (v := .slice ph hP.length ch) rfl (by kernel_rfl) (by kernel_rfl) (by kernel_rfl) (fun _ _ _ h => h) ⟨by rfl, ?_⟩ hF ?_
      · rintro w hTw
        go_simp
      (try simp only [Act.put, List.getElem_toArray, List.getElem_cons_succ, List.getElem_cons_zero, List.setIfInBounds_toArray, List.set_cons_succ, List.set_cons_zero])
      refine wpTwo_takeT (i := 14) (v := .slice pw hP.length cw) rfl (by kernel_rfl) (by kernel_rfl) (by kernel_rfl) (fun _ _ _ h => h) ⟨by rfl, ?_⟩ hF ?_
      · rintro w hTw
        go_simp
      (try simp only [Act.put, List.getElem_toArray, List.getElem_cons_succ, List.getElem_cons_zero, List.setIfInBounds_toArray, List.set_cons_succ, List.set_cons_zero])
      refine wpTwo_ready (rs := [15]) (by kernel_rfl) (by simp) ?_
      refine (AllTwo.cons rfl (fun K hK => ?_) AllTwo.nil)
      go_simp
      obtain ⟨gX, gM, gN, gD, gA, gT, gH, gW, gL, gB⟩ := HFE.out _ hF
      have HEQ := equalI_c _ _ hP hP _ gH.nums gW.nums (by have := hlP.out.2.2; omega) (by have := hlP.out.2.2; omega)
      rw [decide_eq_true rfl] at HEQ
      refine (HEQ).mono ?_
      rintro e Y ⟨rfl, hb⟩
      have hF := HFB.out _ _ hF hb
      clear HEQ
      clear gX gM gN gD gA gT gH gW gL gB
      go_wp2_with fail
      refine hK.out _ _ ⟨hF, fun _ _ => trivial⟩ ?_
      clear hK K
      (try simp only [Act.put, List.getElem_toArray, List.getElem_cons_succ, List.getElem_cons_zero, List.setIfInBounds_toArray, List.set_cons_succ, List.set_cons_zero])
      refine wpTwo_takeT (i := 16) (v := .bool true) rfl (by kernel_rfl) (by kernel_rfl) (by kernel_rfl) (fun _ _ _ h => h) ⟨by rfl, ?_⟩ hF ?_
      · rintro w hTw
        go_simp
      (try simp only [Act.put, List.getElem_toArray, List.getElem_cons_succ, List.getElem_cons_zero, List.setIfInBounds_toArray, List.set_cons_succ, List.set_cons_zero])
      refine wpTwo_takeT (i := 17) (v := .bool true) rfl (by kernel_rfl) (by kernel_rfl) (by kernel_rfl) (fun _ _ _ h => h) ⟨by rfl, ?_⟩ hF ?_
      · rintro w hTw
        go_simp
      (try simp only [Act.put, List.getElem_toArray, List.getElem_cons_succ, List.getElem_cons_zero, List.setIfInBounds_toArray, List.set_cons_succ, List.set_cons_zero])
      refine wpTwo_takeT (i := 18) (v := .agg #[.slice q0 us.length d0, .slice q1 ms.length d1, .bool f]) rfl (by kernel_rfl) (by kernel_rfl) (by kernel_rfl) (fun _ _ _ h => h) ⟨by rfl, ?_⟩ hF ?_
      · rintro w hTw
        obtain ⟨t0, t1, t2⟩ := (HFE.out _ hTw).2.1.cells
        go_simp
      (try simp only [Act.put, List.getElem_toArray, List.getElem_cons_succ, List.getElem_cons_zero, List.setIfInBounds_toArray, List.set_cons_succ, List.set_cons_zero])
      refine wpTwo_takeT (i := 19) (v := .agg #[.slice p0 n0 c0, .slice p1 n1 c1, .bool f]) rfl (by kernel_rfl) (by kernel_rfl) (by kernel_rfl) (fun _ _ _ h => h) ⟨by rfl, ?_⟩ hF ?_
      · rintro w hTw
        obtain ⟨⟨t0, t1, t2⟩, _⟩ := mbox_cells (HFE.out _ hTw).1
        go_simp
      (try simp only [Act.put, List.getElem_toArray, List.getElem_cons_succ, List.getElem_cons_zero, List.setIfInBounds_toArray, List.set_cons_succ, List.set_cons_zero])
      refine wpTwo_ready (rs := [20]) (by kernel_rfl) (by simp) ?_
      refine (AllTwo.cons rfl (fun K hK => ?_) AllTwo.nil)
      go_simp
      obtain ⟨gX, gM, gN, gD, gA, gT, gH, gW, gL, gB⟩ := HFE.out _ hF
      refine (own_c _ _ f ws ls _ (H0.out.below gB) (H1.out.below gB) HWL.out HLL.out).mono ?_
      rintro e Y ⟨hg, hb⟩
      have hF := HFB.out _ _ hF hb
      rw [← HUS.out, ← HMS.out] at hg
      obtain ⟨p6, n6, c6, p7, n7, c7, rfl, hN0, hN1⟩ := hg.reads
      have HMR := Lib.hid (show MemAt Y (.agg #[.slice p6 n6 c6, .slice p7 n7 c7, .bool f]) us ms f from ⟨_, _, rfl, hN0, hN1⟩)
      clear hg hN0 hN1 hb
      clear gX gM gN gD gA gT gH gW gL gB
      go_wp2_with fail
      refine hK.out _ _ ⟨hF, fun _ _ => trivial⟩ ?_
      clear hK K
      (try simp only [Act.put, List.getElem_toArray, List.getElem_cons_succ, List.getElem_cons_zero, List.setIfInBounds_toArray, List.set_cons_succ, List.set_cons_zero])
      refine wpTwo_ready (rs := [21]) (by kernel_rfl) (by simp) ?_
      refine (AllTwo.cons rfl (fun K hK => ?_) AllTwo.nil)
      go_simp
      obtain ⟨gX, gM, gN, gD, gA, gT, gH, gW, gL, gB⟩ := HFE.out _ hF
      refine (refSame_t _ _ us ms f _ gM.mem HMR.out (by omega) (by omega)).mono ?_
      rintro e Y ⟨rfl, hb⟩
      have hF := HFB.out _ _ hF hb
      clear HMR
      clear gX gM gN gD gA gT gH gW gL gB
      go_wp2_with fail
      refine hK.out _ _ ⟨hF, fun _ _ => trivial⟩ ?_
      clear hK K
      (try simp only [Act.put, List.getElem_toArray, List.getElem_cons_succ, List.getElem_cons_zero, List.setIfInBounds_toArray, List.set_cons_succ, List.set_cons_zero])
      refine wpTwo_takeT (i := 22) (v := .bool true) rfl (by kernel_rfl) (by kernel_rfl) (by kernel_rfl) (fun _ _ _ h => h) ⟨by rfl, ?_⟩ hF ?_
      · rintro w hTw
        go_simp
      (try simp only [Act.put, List.getElem_toArray, List.getElem_cons_succ, List.getElem_cons_zero, List.setIfInBounds_toArray, List.set_cons_succ, List.set_cons_zero])
      refine wpTwo_takeT (i := 23) (v := .bool true) rfl (by kernel_rfl) (by kernel_rfl) (by kernel_rfl) (fun _ _ _ h => h) ⟨by rfl, ?_⟩ hF ?_
      · rintro w hTw
        go_simp
      (try simp only [Act.put, List.getElem_toArray, List.getElem_cons_succ, List.getElem_cons_zero, List.setIfInBounds_toArray, List.set_cons_succ, List.set_cons_zero])
      refine wpTwo_takeT (i := 24) (v := .slice q6 s6.length d6) rfl (by kernel_rfl) (by kernel_rfl) (by kernel_rfl) (fun _ _ _ h => h) ⟨by rfl, ?_⟩ hF ?_
      · rintro w hTw
        go_simp
      (try simp only [Act.put, List.getElem_toArray, List.getElem_cons_succ, List.getElem_cons_zero, List.setIfInBounds_toArray, List.set_cons_succ, List.set_cons_zero])
      refine wpTwo_takeT (i := 25) (v := .slice pl nl cl) rfl (by kernel_rfl) (by kernel_rfl) (by kernel_rfl) (fun _ _ _ h => h) ⟨by rfl, ?_⟩ hF ?_
      · rintro w hTw
        go_simp
      (try simp only [Act.put, List.getElem_toArray, List.getElem_cons_succ, List.getElem_cons_zero, List.setIfInBounds_toArray, List.set_cons_succ, List.set_cons_zero])
      refine wpTwo_ready (rs := [26]) (by kernel_rfl) (by simp) ?_
      refine (AllTwo.cons rfl (fun K hK => ?_) AllTwo.nil)
      go_simp
      obtain ⟨gX, gM, gN, gD, gA, gT, gH, gW, gL, gB⟩ := HFE.out _ hF
      refine (few_c _ ss _ (HSA.out.below gB) HSL.out).mono ?_
      rintro e Y ⟨⟨q9, d9, rfl, hl9⟩, hb⟩
      have hF := HFB.out _ _ hF hb
      rw [← HS6.out] at hl9 ⊢
      have HL9 := Lib.hid (show SpinsAt Y (.slice q9 s6.length d9) s6 from spins_of_owns rfl hl9)
      clear hl9 hb
      clear gX gM gN gD gA gT gH gW gL gB
      go_wp2_with fail
      refine hK.out _ _ ⟨hF, fun _ _ => trivial⟩ ?_
      clear hK K
      (try simp only [Act.put, List.getElem_toArray, List.getElem_cons_succ, List.getElem_cons_zero, List.setIfInBounds_toArray, List.set_cons_succ, List.set_cons_zero])
      refine wpTwo_ready (rs := [27]) (by kernel_rfl) (by simp) ?_
      refine (AllTwo.cons rfl (fun K hK => ?_) AllTwo.nil)
      go_simp
      obtain ⟨gX, gM, gN, gD, gA, gT, gH, gW, gL, gB⟩ := HFE.out _ hF
      refine (equalS_same _ _ s6 _ gL HL9.out (by omega)).mono ?_
      rintro e Y ⟨rfl, hb⟩
      have hF := HFB.out _ _ hF hb
      clear HL9
      clear gX gM gN gD gA gT gH gW gL gB
      go_wp2_with fail
      refine hK.out _ _ ⟨hF, fun _ _ => trivial⟩ ?_
      clear hK K
      (try simp only [Act.put, List.getElem_toArray, List.getElem_cons_succ, List.getElem_cons_zero, List.setIfInBounds_toArray, List.set_cons_succ, List.set_cons_zero])
      refine wpTwo_takeT (i := 28) (v := .bool true) rfl (by kernel_rfl) (by kernel_rfl) (by kernel_rfl) (fun _ _ _ h => h) ⟨by rfl, ?_⟩ hF ?_
      · rintro w hTw
        go_simp
      (try simp only [Act.put, List.getElem_toArray, List.getElem_cons_succ, List.getElem_cons_zero, List.setIfInBounds_toArray, List.set_cons_succ, List.set_cons_zero])
      refine wpTwo_takeT (i := 29) (v := .bool true) rfl (by kernel_rfl) (by kernel_rfl) (by kernel_rfl) (fun _ _ _ h => h) ⟨by rfl, ?_⟩ hF ?_
      · rintro w hTw
        go_simp
      (try simp only [Act.put, List.getElem_toArray, List.getElem_cons_succ, List.getElem_cons_zero, List.setIfInBounds_toArray, List.set_cons_succ, List.set_cons_zero])
      refine wpTwo_end (by kernel_rfl) ?_ _
      have HBE := Lib.hid (HFE.out _ hF).2.2.2.2.2.2.2.2.2
      clear hF
      go_wp2
      go_ret
      exact ⟨rfl, HBE.out⟩

end Go.Proofs.Ytcnpmkigiklnnaa
namespace Go.Proofs.Ytcnpmkigiklnnaa
open Go.RowKit Go.Shelf
open Go.ChangeShapes Go.WideShapes Go.ChangeAt Go.Deep Go.Joins
open Go.ChangeMaps (open_string shut_string)

theorem ints_argr {H : Type} {enc : TypeId × Value → H} {P : Program} {W : World} {t e : TypeId} {n : Nat} {v : Value} {y : DataW H × List MemPlace} (ht : P.underlying t = some (.slice e)) (he : P.underlying e = some (.int .i64)) (hc : P.cellsOf e = 1)
    (hf : DataW.trod enc P W 0 (fun _ => true) true n t [v] = some y) :
    ∃ ns : List Int, ArgR W v (ns.map (Value.int .i64)) ∧ ns.length ≤ 9223372036854775807 := by
  rcases open_ints ht he hc hf with ⟨hcs, _⟩ | ⟨a, len', cap', zs, hcs, _, hl, hm, hz, _, hcell, hwz⟩
  · simp only [List.cons.injEq, and_true] at hcs
    subst hcs
    exact ⟨[], ⟨_, _, _, rfl, rfl, .inl ⟨rfl, rfl, rfl⟩⟩, by decide⟩
  · simp only [List.cons.injEq, and_true] at hcs
    subst hcs
    simp only [if_true] at hz
    have hlen : (zs.take len').length = len' := List.length_take_of_le (by omega)
    refine ⟨zs.take len', ⟨_, _, _, rfl, by rw [List.length_map, hlen], .inr ⟨a, rfl, hl, fun j u hj => ?_⟩⟩, by rw [hlen]; unfold maxLen at hm; omega⟩
    obtain ⟨hj1, rfl⟩ := List.getElem?_eq_some_iff.1 hj
    have hj2 : j < len' := by
      have := hj1
      rw [List.length_map, hlen] at this
      exact this
    have h1 := hcell j (by omega)
    rw [List.getD_eq_getElem?_getD, List.getElem?_eq_getElem (by omega)] at h1
    simpa using h1
theorem flatS_cases : ∀ (l : List SpM) (j : Nat) (u : Value), (flatS l)[j]? = some u → ∃ i, ∃ h : i < l.length, (j = i * 3 ∧ u = .int .i64 l[i].a) ∨ (j = i * 3 + 1 ∧ u = .int .i64 l[i].p) ∨ (j = i * 3 + 2 ∧ u = .int .u64 l[i].t)
  | [], j, u, h => by simp [flatS] at h
  | s :: r, 0, u, h => by
    simp only [flatS, List.getElem?_cons_zero, Option.some.injEq] at h
    exact ⟨0, by simp, .inl ⟨by omega, h.symm⟩⟩
  | s :: r, 1, u, h => by
    simp only [flatS, List.getElem?_cons_succ, List.getElem?_cons_zero, Option.some.injEq] at h
    exact ⟨0, by simp, .inr (.inl ⟨by omega, h.symm⟩)⟩
  | s :: r, 2, u, h => by
    simp only [flatS, List.getElem?_cons_succ, List.getElem?_cons_zero, Option.some.injEq] at h
    exact ⟨0, by simp, .inr (.inr ⟨by omega, h.symm⟩)⟩
  | s :: r, j + 3, u, h => by
    simp only [flatS, List.getElem?_cons_succ] at h
    obtain ⟨i, hi, hh⟩ := flatS_cases r j u h
    refine ⟨i + 1, by simp; omega, ?_⟩
    simp only [List.getElem_cons_succ]
    rcases hh with ⟨a, b⟩ | ⟨a, b⟩ | ⟨a, b⟩
    · exact .inl ⟨by omega, b⟩
    · exact .inr (.inl ⟨by omega, b⟩)
    · exact .inr (.inr ⟨by omega, b⟩)
set_option maxRecDepth 100000 in
theorem spins_open {H : Type} {enc : TypeId × Value → H} {W : World} {base : Nat} {v : Value} {d : DataW H} {ps : List MemPlace}
    (hval : Value.okWide Try.prog W .any base 57 v) (h : DataW.Trod enc Try.prog W 0 (fun _ => true) true 57 v d ps) :
    ∃ ss : List SpM, ArgS W v ss ∧ (∀ s ∈ ss, SpR s) ∧ ss.length ≤ 9223372036854775807 := by
  obtain ⟨a0, len, cap, rfl⟩ := okWide_slice Try.underlying57 hval
  obtain ⟨fuel, hf⟩ := h
  have hce : Try.prog.cellsOf 24 = 3 := by kernel_rfl
  have hci : Try.prog.cellsOf 3 = 1 := by kernel_rfl
  have hcu : Try.prog.cellsOf 22 = 1 := by kernel_rfl
  rcases open_slice Try.underlying57 hf with ⟨hcs, _⟩ | ⟨a, len', cap', m, n, D, Pl, hcs, _, hl, hm, hmm, _, hall⟩
  · simp [Value.cells] at hcs
    obtain ⟨rfl, rfl, rfl⟩ := hcs
    exact ⟨[], ⟨_, _, _, rfl, rfl, Nat.le_refl _, .inl ⟨rfl, rfl, rfl⟩⟩, (fun s hs => by cases hs), by decide⟩
  · simp [Value.cells] at hcs
    obtain ⟨rfl, rfl, rfl⟩ := hcs
    simp only [if_true] at hmm
    have hone : ∀ i, i < len → ∃ s : SpM, (W.cell? (a.add (i * 3)) = some (.int .i64 s.a) ∧ W.cell? (a.add (i * 3 + 1)) = some (.int .i64 s.p) ∧ W.cell? (a.add (i * 3 + 2)) = some (.int .u64 s.t)) ∧ SpR s := by
      intro i hi
      obtain ⟨cs', hc, ht⟩ := hall i (by omega)
      rw [hce] at hc
      obtain ⟨_, hcl, hat⟩ := World.cells?_some hc
      obtain ⟨xs, k, _, _, _, hlx, hx⟩ := DataW.trod_struct Try.underlying24 ht
      have hlx : xs.length = 3 := hlx
      match cs', hcl with
      | [c0, c1, c2], _ =>
        have h0 : DataW.trod enc Try.prog W 0 (fun _ => true) true k 3 (([c0, c1, c2].drop 0).take (Try.prog.cellsOf 3)) = xs[0]? := hx 0 _ rfl
        have h1 : DataW.trod enc Try.prog W 0 (fun _ => true) true k 3 (([c0, c1, c2].drop 1).take (Try.prog.cellsOf 3)) = xs[1]? := hx 1 _ rfl
        have h2 : DataW.trod enc Try.prog W 0 (fun _ => true) true k 22 (([c0, c1, c2].drop 2).take (Try.prog.cellsOf 22)) = xs[2]? := hx 2 _ rfl
        rw [hci] at h0 h1
        rw [hcu] at h2
        simp only [List.drop_zero, List.take_succ_cons, List.take_zero, List.drop_succ_cons] at h0 h1 h2
        rw [List.getElem?_eq_getElem (by omega)] at h0 h1 h2
        have e0 := hat 0 (by decide)
        have e1 := hat 1 (by decide)
        have e2 := hat 2 (by decide)
        rw [Go.Deep.add_add] at e0 e1 e2
        obtain ⟨x0, y0, _, w0⟩ := DataW.trod_int Try.underlying3 h0
        obtain ⟨x1, y1, _, w1⟩ := DataW.trod_int Try.underlying3 h1
        obtain ⟨x2, y2, _, w2⟩ := DataW.trod_int Try.underlying22 h2
        simp only [List.cons.injEq, and_true] at y0 y1 y2
        subst y0 y1 y2
        have ha : I64 x0 := by simpa [I64, Lit.wf, IntKind.min, IntKind.max, IntKind.signed, IntKind.bits] using w0
        have hp : I64 x1 := by simpa [I64, Lit.wf, IntKind.min, IntKind.max, IntKind.signed, IntKind.bits] using w1
        have ht : U64 x2 := by simpa [U64, Lit.wf, IntKind.min, IntKind.max, IntKind.signed, IntKind.bits] using w2
        exact ⟨⟨x0, x1, x2⟩, ⟨by simpa using e0, by simpa using e1, by simpa using e2⟩, by constructor <;> first | exact ha.1 | exact ha.2 | exact hp.1 | exact hp.2 | exact ht.1 | exact ht.2⟩
    haveI : Inhabited SpM := ⟨dS⟩
    obtain ⟨F, hF⟩ := choose_lt hone
    have hlen : ((List.range len).map F).length = len := by simp
    refine ⟨(List.range len).map F, ⟨_, _, _, rfl, hlen.symm, hl, .inr ⟨a, rfl, fun j u hj => ?_⟩⟩, fun s hs => ?_, by rw [hlen]; unfold maxLen at hm; omega⟩
    · obtain ⟨i, hi, hh⟩ := flatS_cases _ j u hj
      rw [hlen] at hi
      simp only [List.getElem_map, List.getElem_range] at hh
      obtain ⟨⟨f0, f1, f2⟩, _⟩ := hF i hi
      rcases hh with ⟨rfl, rfl⟩ | ⟨rfl, rfl⟩ | ⟨rfl, rfl⟩
      · exact f0
      · exact f1
      · exact f2
    · obtain ⟨i, hi, rfl⟩ := List.mem_map.1 hs
      exact (hF i (List.mem_range.1 hi)).2

theorem plays_law (v0 v1 vl vp : Value) (f : Bool) (ws : List Int) (ls : List Bool) (ss : List SpM) (ps : List Int) (W : World) (h0 : ArgR W v0 (ws.map (Value.int .u64))) (h1 : ArgR W v1 (ls.map Value.bool)) (hw : ws.length ≤ 9223372036854775807) (hl : ls.length ≤ 9223372036854775807)
    (hs : ArgS W vl ss) (hsl : ss.length ≤ 9223372036854775807) (hp : ArgR W vp (ps.map (Value.int .i64))) (hpl : ps.length ≤ 9223372036854775807) (hsr : ∀ s ∈ ss, SpR s) (hrg : WRange ws) :
    Calls Try.prog 5 #[.agg #[v0, v1, .bool f], vl, vp] W fun e w' => e = .returned (.bool true) ∧ Below W.heap.size W w' := by
  cases hr : rightB (ws.take 16) (ls.take 16) with
  | false => exact plays_A v0 v1 vl vp f ws ls ss ps W h0 h1 hw hl hs hsl hp hpl hsr hrg hr
  | true =>
    cases ha : (ss.take 6).all rightS with
    | true => exact plays_C v0 v1 vl vp f ws ls ss ps W h0 h1 hw hl hs hsl hp hpl hsr hrg hr (List.all_eq_true.1 ha)
    | false =>
      refine plays_B v0 v1 vl vp f ws ls ss ps W h0 h1 hw hl hs hsl hp hpl hsr hrg hr ?_
      rw [List.all_eq_false] at ha
      obtain ⟨s, hs1, hs2⟩ := ha
      exact ⟨s, hs1, by simpa using hs2⟩

set_option maxRecDepth 100000 in
theorem spinPlays_lifted (os : Os) (started : os.Started) (H : Type) (enc : TypeId × Value → H) :
    ReturnsInHanded {} Try.checked os 5 .any (Rows.spinPlaysSpec.pre6 enc Try.prog Try.f5 Rows.spinPlaysRow.domain false) (Rows.spinPlaysSpec.post enc Try.prog Try.f5 false true false false) := by
  refine returnsInHanded_of_change (C := Try.checked) own started (by kernel_rfl) Try.func5
    (ChangeSpec.witness6 (enc := enc) (C := Try.checked) false ⟨#[], #[.agg #[.slice none 0 0, .slice none 0 0, .bool false], .slice none 0 0, .slice none 0 0], []⟩ 8 (by kernel_rfl) (by kernel_rfl) (by kernel_rfl) (by kernel_rfl)) ?_
  intro W base args ds gs before hval0 hW hcnd _
  have hval : ∀ (j : Nat) t v, Try.f5.params[j]? = some t → args[j]? = some v → Value.okWide Try.prog W .any base t v := hval0
  have hW' := hW
  obtain ⟨p, q, hA0, hV, rfl, hfz, hnd⟩ := hW
  have hA : DataW.TrodAll enc Try.prog W 0 (fun _ => true) true Try.f5.params.toList args.toList ds p := hA0
  rw [Try.params5] at hA hval
  have hA2 := hA
  obtain ⟨v0, vs0, d0, ds0, p0, q0, hargs, rfl, rfl, h0, r0⟩ := trodAll_cons hA
  obtain ⟨v1, vs1, d1, ds1, p1, q1, rfl, rfl, rfl, h1, r1⟩ := trodAll_cons r0
  obtain ⟨v2, vs2, d2, ds2, p2, q2, rfl, rfl, rfl, h2, r2⟩ := trodAll_cons r1
  obtain ⟨rfl, rfl, rfl⟩ := trodAll_nil r2
  obtain rfl : args = #[v0, v1, v2] := by cases args; simp_all
  obtain ⟨rfl, rfl⟩ := trodVars_none hV
  obtain ⟨x0, x1, f, ws, ls, rfl, hw, hl, hr, hwl, hll⟩ := mem_open (hval 0 46 v0 rfl rfl) h0
  obtain ⟨ss, hs, hsr, hsl⟩ := spins_open (hval 1 57 v1 rfl rfl) h1
  obtain ⟨a0, len, cap, rfl⟩ := okWide_slice Try.underlying58 (hval 2 58 v2 rfl rfl)
  obtain ⟨fuel, hf⟩ := id h2
  obtain ⟨ps, hp, hpl⟩ := ints_argr Try.underlying58 Try.underlying3 (by kernel_rfl) hf
  clear hA0 hval0
  simp only [List.append_nil] at hW'
  refine (plays_law x0 x1 v1 _ f ws ls ss ps W hw hl hwl hll hs hsl hp hpl hsr hr).mono fun e W' ⟨he, hb⟩ => ?_
  subst he
  exact ⟨_, rfl, _, _, _, [], _, [], hW', trodAll_cons_mk (shut_bool Try.underlying4 _) trodAll_mk0, trodAll_stays laidOut hb (by kernel_rfl) hA2 (fun x hx => by simpa using hW'.lt x (by simpa using hx)), rfl, hb.frame _, fun h => by cases h⟩

theorem spinPlays_holds : Rows.SpinPlaysSaid :=
  OpenClaim.holds_of_wide 5 Try.f5 rfl rfl rfl rfl rfl rfl rfl ⟨rfl, rfl, rfl, rfl, rfl⟩ rfl rfl rfl rfl rfl (by kernel_rfl) Try.func5 (by kernel_rfl)
    (of_decide_eq_true (by kernel_rfl)) (by unfold Func.isWrapper; first | (rw [if_pos (by decide +kernel)]; kernel_rfl) | (rw [if_neg (by decide +kernel)]; exact ⟨rfl, rfl⟩))
    (fun os started H enc _ => spinPlays_lifted os started H enc)

end Go.Proofs.Ytcnpmkigiklnnaa
