/-
  A lock that is laid, and a step: the statement's body, where a lock is laid, and who wants one may be.
  Conditions: the memory is one that came in; the ranges of Go's types.
-/
import Derived.Test.YtcnpmkigiklnnaaKS17
namespace Go.Proofs.Ytcnpmkigiklnnaa
open Go.RowKit Go.Shelf
attribute [local go_sem] Oper.semAt_some

set_option maxRecDepth 100000 in
set_option maxHeartbeats 40000000 in
theorem steps_E (v0 v1 : Value) (f : Bool) (ws : List Int) (ls : List Bool) (q a p t : Int) (W : World) (h0 : ArgR W v0 (ws.map (Value.int .u64))) (h1 : ArgR W v1 (ls.map Value.bool)) (hw : ws.length ≤ 9223372036854775807) (hl : ls.length ≤ 9223372036854775807)
    (hq : -9223372036854775808 ≤ q ∧ q ≤ 9223372036854775807) (hsr : SpR ⟨a, p, t⟩) (hrg : WRange ws) (hr : rightB (ws.take 16) (ls.take 16) = true) (hs : rightS ⟨a, p, t⟩ = true) (hly : ∃ k : Nat, q = (k : Int) ∧ k ≤ 100 ∧ k + 1 < (ws.take 16).length ∧ (ls.take 16)[k]? = some true ∧ (ls.take 16)[k + 1]? = some true) :
    Calls Try.prog 4 #[.agg #[v0, v1, .bool f], .int .i64 q, .agg #[.int .i64 a, .int .i64 p, .int .u64 t]] W fun e w' => e = .returned (.bool true) ∧ Below W.heap.size W w' := by
  have h0' := h0
  have h1' := h1
  obtain ⟨p0, n0, c0, rfl, -, -⟩ := h0'
  obtain ⟨p1, n1, c1, rfl, -, -⟩ := h1'
  have H0 := Lib.hid h0
  have H1 := Lib.hid h1
  have HWL := Lib.hid hw
  have HLL := Lib.hid hl
  have HRG := Lib.hid (show WRange (ws.take 16) from fun x hx => hrg x (List.mem_of_mem_take hx))
  have HSR := Lib.hid hsr
  have HQ := Lib.hid hq
  clear h0 h1 hw hl hrg hsr
  obtain ⟨wo, hwo⟩ : ∃ wo : World, wo = (W.alloc (.cells #[.slice p0 n0 c0, .slice p1 n1 c1, .bool f] 46)).alloc (.cells #[.int .i64 a, .int .i64 p, .int .u64 t] 24) := ⟨_, rfl⟩
  obtain ⟨zs, hzs⟩ : ∃ z, z = W.heap.size + 1 := ⟨_, rfl⟩
  have hB : Below W.heap.size W wo := by rw [hwo]; exact below2 W _ _
  have HX := Lib.hid (show MBox wo W.heap.size (.slice p0 n0 c0) (.slice p1 n1 c1) f by rw [hwo]; exact (MBox.new _ _ _ _).alloc _)
  have HS := Lib.hid (show SpBox wo zs a p t by
    rw [hwo, hzs]
    have := World.alloc_heap_new (W.alloc (.cells #[.slice p0 n0 c0, .slice p1 n1 c1, .bool f] 46)) (.cells #[.int .i64 a, .int .i64 p, .int .u64 t] 24)
    rw [World.size_alloc] at this
    exact this)
  have hszo : zs < wo.heap.size := by rw [hwo, hzs]; simp
  have hzsW : W.heap.size < zs := by omega
  go_enter Try.func4, Try.ntmps4
  go_wp2_with fail
  rw [← hwo, ← hzs]
  clear hwo hzs
  refine (qwakes _).mono ?_
  rintro e w1 ⟨rfl, hb⟩
  have HX' := Lib.hid ((HX.out.below hb))
  clear HX
  have HX := HX'
  clear HX'
  have HS' := Lib.hid ((HS.out.below hb))
  clear HS
  have HS := HS'
  clear HS'
  have hB := below_then hB hB.size hb
  have hsz1 := hb.size
  clear hb
  obtain ⟨hx0, hx1, hx2⟩ := (mbox_cells HX.out).1
  go_wp2_with fail
  clear hx0 hx1 hx2
  refine (own_c _ _ f ws ls _ (H0.out.below hB) (H1.out.below hB) HWL.out HLL.out).mono ?_
  rintro e w2 ⟨hg, hb⟩
  obtain ⟨q0, d0, q1, d1, rfl, w2p, hw2p, hM, hbp⟩ := own_putP hg hb.size
  have hul : (ws.take 16).length ≤ 16 := by simp; omega
  have hml : (ls.take 16).length ≤ 16 := by simp; omega
  have HM := Lib.hid hM
  have HX' := Lib.hid (((HX.out.below hb).below hbp))
  clear HX
  have HX := HX'
  clear HX'
  have HS' := Lib.hid (((HS.out.below hb).below hbp))
  clear HS
  have HS := HS'
  clear HS'
  have hB := below_then (below_then hB hB.size hb) (Nat.le_trans hB.size hb.size) hbp
  have hsz2 := Nat.le_trans hb.size hbp.size
  clear hg hM hb hbp
  obtain ⟨us, hus⟩ : ∃ u, u = ws.take 16 := ⟨_, rfl⟩
  obtain ⟨ms, hms⟩ : ∃ u, u = ls.take 16 := ⟨_, rfl⟩
  rw [← hus, ← hms] at hr
  rw [← hus, ← hms] at hly
  rw [← hus] at hul HM hw2p HRG
  rw [← hms] at hml HM hw2p
  have HUS := Lib.hid hus
  have HMS := Lib.hid hms
  clear hus hms
  obtain ⟨zm, hzm⟩ : ∃ z, z = w2.heap.size := ⟨_, rfl⟩
  obtain ⟨hm0, hm1, hm2⟩ := HM.out.cells
  unfold putM at hw2p
  rw [hw2p] at hm0 hm1 hm2
  rw [← HUS.out, ← HMS.out]
  go_wp2_with fail
  rw [← hw2p, ← hzm]
  rw [← hzm] at HM
  clear hw2p hzm hm0 hm1 hm2
  have HCK := refRight_c _ us ms f w2p HM.out.mem (by omega)
  rw [hr] at HCK
  refine HCK.mono ?_
  rintro e w3 ⟨rfl, hb⟩
  have HX' := Lib.hid ((HX.out.below hb))
  clear HX
  have HX := HX'
  clear HX'
  have HS' := Lib.hid ((HS.out.below hb))
  clear HS
  have HS := HS'
  clear HS'
  have HM' := Lib.hid ((HM.out.below hb))
  clear HM
  have HM := HM'
  clear HM'
  have hB := below_then hB hB.size hb
  have hsz3 := hb.size
  clear hb HCK
  obtain ⟨hm0, hm1, hm2⟩ := HM.out.cells
  go_wp2_with fail
  clear hm0 hm1 hm2
  have hlen := (rightB_iff.1 hr).2.2.1
  have hn1 := (rightB_iff.1 hr).1
  obtain ⟨gw, xg, hf, -, -⟩ := own_form HM.out.words (by omega)
  injection hf with hf hf2 hf3
  subst hf hf3
  obtain ⟨gl, xl, hf, -, -⟩ := own_form HM.out.lives (by omega)
  injection hf with hf hf4 hf3
  subst hf hf3
  clear hf2 hf4
  have HLEN := Lib.hid hlen
  clear hlen
  obtain ⟨u2, f2, a2, p2, t2, hP, hu2⟩ := stepP_form ms us f ⟨a, p, t⟩
  have HPP := Lib.hid hP
  have HU2 := Lib.hid hu2
  clear hP hu2
  obtain ⟨k, rfl, hk, hkl, hm1, hm2⟩ := hly
  obtain ⟨uL, huL⟩ : ∃ u, u = (us.set k 0).set (k + 1) 0 := ⟨_, rfl⟩
  have hLY := qlay_yes _ us ms f k w3 HM.out.mem hr hk hkl (by rw [List.getD_eq_getElem?_getD, hm1]; rfl) (by rw [List.getD_eq_getElem?_getD, hm2]; rfl)
  rw [← huL] at hLY
  have HUL := Lib.hid huL
  have HM1 := Lib.hid hm1
  have HM2 := Lib.hid hm2
  clear huL hm1 hm2
  refine hLY.mono ?_
  rintro e w4 ⟨hs4, hb⟩
  obtain ⟨pL, cL, qL, dL, rfl, w4p, hw4p, hN, hbp⟩ := live_putP hs4 hb.size
  clear hLY hs4
  have HX' := Lib.hid (((HX.out.below hb).below hbp))
  clear HX
  have HX := HX'
  clear HX'
  have HS' := Lib.hid (((HS.out.below hb).below hbp))
  clear HS
  have HS := HS'
  clear HS'
  have HM' := Lib.hid (((HM.out.below hb).below hbp))
  clear HM
  have HM := HM'
  clear HM'
  have HL := Lib.hid hN
  have hB := below_then (below_then hB hB.size hb) (Nat.le_trans hB.size hb.size) hbp
  have hszw4 := Nat.le_trans hb.size hbp.size
  clear hN hb hbp
  unfold putM at hw4p
  obtain ⟨zl, hzl⟩ : ∃ z, z = w4.heap.size := ⟨_, rfl⟩
  rw [← hzl] at HL
  obtain ⟨hm0, hm1, hm2⟩ := HM.out.cells
  obtain ⟨hs0, hs1, hs2⟩ := HS.out.cells
  rw [hw4p] at hm0 hm1 hm2 hs0 hs1 hs2
  go_wp2_with fail
  rw [← hw4p]
  clear hw4p hm0 hm1 hm2 hs0 hs1 hs2
  refine (qs_step _ us ms f a p t w4p HM.out.mem hr HRG.out hs HSR.out HPP.out).mono ?_
  rintro e w5 ⟨⟨vx, vy, rfl, h0, h1⟩, hb⟩
  obtain ⟨pN, cN, rfl⟩ := owns_slice h0
  obtain ⟨qN, dN, rfl⟩ := owns_slice h1
  obtain ⟨w5p, hw5p⟩ : ∃ x, x = putMS w5 (.slice pN u2.length cN) (.slice qN ms.length dN) f2 a2 p2 t2 := ⟨_, rfl⟩
  have hbp : Below w5.heap.size w5 w5p := by rw [hw5p]; exact putMS_below _ _ _ _ _ _ _
  have hN := putMS_var f2 a2 p2 t2 h0 h1 hb.size
  have hT := putMS_sbox w5 (.slice pN u2.length cN) (.slice qN ms.length dN) f2 a2 p2 t2
  rw [← hw5p] at hN hT
  have HX' := Lib.hid (((HX.out.below hb).below hbp))
  clear HX
  have HX := HX'
  clear HX'
  have HS' := Lib.hid (((HS.out.below hb).below hbp))
  clear HS
  have HS := HS'
  clear HS'
  have HM' := Lib.hid (((HM.out.below hb).below hbp))
  clear HM
  have HM := HM'
  clear HM'
  have HL' := Lib.hid (((HL.out.below hb).below hbp))
  clear HL
  have HL := HL'
  clear HL'
  have HN := Lib.hid hN
  have HT := Lib.hid hT
  have hB := below_then (below_then hB hB.size hb) (Nat.le_trans hB.size hb.size) hbp
  have hszw5 := Nat.le_trans hb.size hbp.size
  have hszt : w5.heap.size + 1 < w5p.heap.size := by rw [hw5p, putMS_size]; omega
  clear hN hT hb hbp h0 h1
  obtain ⟨zn, hzn⟩ : ∃ z, z = w5.heap.size := ⟨_, rfl⟩
  obtain ⟨zt, hzt⟩ : ∃ z, z = w5.heap.size + 1 := ⟨_, rfl⟩
  rw [← hzt] at HT hszt
  rw [← hzn] at HN
  unfold putMS at hw5p
  have hzml : zl < w4p.heap.size := HL.out.to'
  have hzmm : zm < w2p.heap.size := HM.out.to'
  obtain ⟨F, hFE⟩ : ∃ F : World → Prop, F = fun w => MBox w W.heap.size (.slice p0 n0 c0) (.slice p1 n1 c1) f ∧ SpBox w zs a p t ∧ PVar w w1.heap.size w2p.heap.size zm (.slice (some ⟨gw, 0, none⟩) us.length d0) (.slice (some ⟨gl, 0, none⟩) ms.length d1) us ms f ∧ PVar w w3.heap.size w4p.heap.size zl (.slice pL uL.length cL) (.slice qL ms.length dL) uL ms f ∧ PVar w w4p.heap.size w5p.heap.size zn (.slice pN u2.length cN) (.slice qN ms.length dN) u2 ms f2 ∧ SpBox w zt a2 p2 t2 ∧ Below W.heap.size W w := ⟨_, rfl⟩
  have HFE := Lib.hid (show ∀ w, F w → MBox w W.heap.size (.slice p0 n0 c0) (.slice p1 n1 c1) f ∧ SpBox w zs a p t ∧ PVar w w1.heap.size w2p.heap.size zm (.slice (some ⟨gw, 0, none⟩) us.length d0) (.slice (some ⟨gl, 0, none⟩) ms.length d1) us ms f ∧ PVar w w3.heap.size w4p.heap.size zl (.slice pL uL.length cL) (.slice qL ms.length dL) uL ms f ∧ PVar w w4p.heap.size w5p.heap.size zn (.slice pN u2.length cN) (.slice qN ms.length dN) u2 ms f2 ∧ SpBox w zt a2 p2 t2 ∧ Below W.heap.size W w from fun w h => by rw [hFE] at h; exact h)
  have hF : F w5p := by rw [hFE]; exact ⟨HX.out, HS.out, HM.out, HL.out, HN.out, HT.out, hB⟩
  have HST := Lib.hid (show Stab w5p.heap.size F from fun w w' h hk => by
    rw [hFE] at h ⊢
    obtain ⟨g1, g2, g3, g4, g5, g6, g7⟩ := h
    exact ⟨g1.keeps hk (by omega), g2.keeps hk (by omega), g3.keeps hk (fun q hq => .inr (by omega)), g4.keeps hk (fun q hq => .inr (by omega)), g5.keeps hk (fun q hq => .inr hq), g6.keeps hk (by omega), g7.trans (hk.below g7.size (fun q hq => by omega))⟩)
  have HF := Lib.hid hF
  clear hFE hF
  go_upto_block 0 with fail
  rw [← hw5p, ← hzl, ← hzt, ← hzn]
  clear hw5p hzl hzn hzt
  have HWW : Hid (W.heap.size ≤ w5p.heap.size) := Lib.hid hB.size
  clear hB
  go_cut [] (fun wc => Hid (F wc ∧ w5p.heap.size ≤ wc.heap.size))
  case first =>
    have hF := HF.out
    have HKL := Lib.hid hkl
    obtain ⟨hx0, hx1, hx2⟩ := (mbox_cells HX.out).1
    obtain ⟨hm0, hm1, hm2⟩ := HM.out.cells
    obtain ⟨hl0, hl1, hl2⟩ := HL.out.cells
    have hb1 := HM.out.lv HM1.out
    have hb2 := HM.out.lv HM2.out
    have hkm : k + 1 < ms.length := by have := HLEN.out; omega
    clear HL HS HN HT
    go_upto_region 7 with (fail)
    clear hx0 hx1 hx2 hm0 hm1 hm2 hl0 hl1 hl2 hb1 hb2
    obtain ⟨hx0, hx1, hx2⟩ := (mbox_cells HX.out).1
    go_wp2_with fail
    clear hx0 hx1 hx2 HM HX
    have hB := (HFE.out _ hF).2.2.2.2.2.2
    refine (own_c _ _ f ws ls _ (H0.out.below hB) (H1.out.below hB) HWL.out HLL.out).mono ?_
    rintro e w6 ⟨hg, hb⟩
    rw [← HUS.out, ← HMS.out] at hg
    obtain ⟨pV, cV, qV, dV, rfl, w6p, hw6p, hN, hbp⟩ := own_putP hg hb.size
    have hF := HST.out.below hF hb
    have hF := HST.out.below hF hbp
    have hsz6 := Nat.le_trans hb.size hbp.size
    have hlo6 := hb.size
    obtain ⟨gv, xg, hf, -, -⟩ := own_form hN.words (by omega)
    injection hf with hf hf2 hf3
    subst hf hf3
    clear hf2
    have HV := Lib.hid hN
    clear hg hb hbp hN hB
    obtain ⟨zv, hzv⟩ : ∃ z, z = w6.heap.size := ⟨_, rfl⟩
    rw [← hzv] at HV
    obtain ⟨hv0, hv1, hv2⟩ := HV.out.cells
    unfold putM at hw6p
    rw [hw6p] at hv0 hv1 hv2
    go_upto_region 8 with (fail)
    rw [← hw6p, ← hzv]
    clear hw6p hv0 hv1 hv2
    have hzvl : w5p.heap.size ≤ zv := by omega
    clear hzv
    refine wpTwo_begin (T := fun w' => MBox w' zv (.slice (some ⟨gv, 0, none⟩) us.length cV) (.slice qV ms.length dV) f) (S := fun _ => True) (late := fun _ => false) (by kernel_rfl) ?_
    obtain ⟨X0, hX0⟩ : ∃ X : World, X = w6p.drew := ⟨_, rfl⟩
    rw [← hX0]
    have hb : Below w6p.heap.size w6p X0 := by rw [hX0]; exact (Below.refl _ _).drew
    have hT0 := HV.out.box.below hb
    have HV0 := Lib.hid (HV.out.below hb)
    have hF := HST.out.below hF hb
    have hsz7 := hb.size
    clear hX0 hb HV
    refine wpTwo_takeT (i := 0) (v := .pointer (some ⟨zv, 0, none⟩)) rfl (by kernel_rfl) (by kernel_rfl) (by kernel_rfl) (fun _ _ _ h => h) ⟨by rfl, ?_⟩ hT0 ?_
    · rintro w hTw
      go_simp
    (try simp only [Act.put, List.getElem_toArray, List.getElem_cons_zero, List.setIfInBounds_toArray, List.set_cons_succ, List.set_cons_zero])
    refine wpTwo_takeT (i := 1) (v := .slice (some ⟨gv, 0, none⟩) us.length cV) rfl (by kernel_rfl) (by kernel_rfl) (by kernel_rfl) (fun _ _ _ h => h) ⟨by rfl, ?_⟩ hT0 ?_
    · rintro w hTw
      obtain ⟨⟨t0, t1, t2⟩, _⟩ := mbox_cells hTw
      go_simp
    (try simp only [Act.put, List.getElem_toArray, List.getElem_cons_succ, List.getElem_cons_zero, List.setIfInBounds_toArray, List.set_cons_succ, List.set_cons_zero])
    refine wpTwo_takeT (i := 2) (v := .int .i64 (k : Int)) rfl (by kernel_rfl) (by kernel_rfl) (by kernel_rfl) (fun _ _ _ h => h) ⟨by rfl, ?_⟩ hT0 ?_
    · rintro w hTw
      go_simp
    (try simp only [Act.put, List.getElem_toArray, List.getElem_cons_succ, List.getElem_cons_zero, List.setIfInBounds_toArray, List.set_cons_succ, List.set_cons_zero])
    refine wpTwo_takeT (i := 3) (v := .pointer (some ⟨zv, 0, none⟩)) rfl (by kernel_rfl) (by kernel_rfl) (by kernel_rfl) (fun _ _ _ h => h) ⟨by rfl, ?_⟩ hT0 ?_
    · rintro w hTw
      go_simp
    (try simp only [Act.put, List.getElem_toArray, List.getElem_cons_succ, List.getElem_cons_zero, List.setIfInBounds_toArray, List.set_cons_succ, List.set_cons_zero])
    refine wpTwo_takeT (i := 4) (v := .slice (some ⟨gv, 0, none⟩) us.length cV) rfl (by kernel_rfl) (by kernel_rfl) (by kernel_rfl) (fun _ _ _ h => h) ⟨by rfl, ?_⟩ hT0 ?_
    · rintro w hTw
      obtain ⟨⟨t0, t1, t2⟩, _⟩ := mbox_cells hTw
      go_simp
    (try simp only [Act.put, List.getElem_toArray, List.getElem_cons_succ, List.getElem_cons_zero, List.setIfInBounds_toArray, List.set_cons_succ, List.set_cons_zero])
    refine wpTwo_takeT (i := 5) (v := .int .i64 (k : Int)) rfl (by kernel_rfl) (by kernel_rfl) (by kernel_rfl) (fun _ _ _ h => h) ⟨by rfl, ?_⟩ hT0 ?_
    · rintro w hTw
      go_simp
    (try simp only [Act.put, List.getElem_toArray, List.getElem_cons_succ, List.getElem_cons_zero, List.setIfInBounds_toArray, List.set_cons_succ, List.set_cons_zero])
    refine wpTwo_takeT (i := 6) (v := .int .i64 ((k : Int) + 1)) rfl (by kernel_rfl) (by kernel_rfl) (by kernel_rfl) (fun _ _ _ h => h) ⟨by rfl, ?_⟩ hT0 ?_
    · rintro w hTw
      go_simp
      simp only [IntKind.wrap, IntKind.signed, IntKind.bits]
      simp
      omega
    (try simp only [Act.put, List.getElem_toArray, List.getElem_cons_succ, List.getElem_cons_zero, List.setIfInBounds_toArray, List.set_cons_succ, List.set_cons_zero])
    refine wpTwo_takeT (i := 7) (v := .pointer (some ⟨gv, k, none⟩)) rfl (by kernel_rfl) (by kernel_rfl) (by kernel_rfl) (fun _ _ _ h => h) ⟨by rfl, ?_⟩ hT0 ?_
    · rintro w hTw
      have hkl := HKL.out
      have hku : ¬ (us.length ≤ k) := by omega
      go_simp
    (try simp only [Act.put, List.getElem_toArray, List.getElem_cons_succ, List.getElem_cons_zero, List.setIfInBounds_toArray, List.set_cons_succ, List.set_cons_zero])
    refine wpTwo_ready (rs := [8]) (by kernel_rfl) (by simp) ?_
    refine (AllTwo.cons rfl (fun K hK => ?_) AllTwo.nil)
    have c1 := HV0.out.word (k := k) (by omega)
    have hfz := HV0.out.wfree k
    obtain ⟨X1, hX1⟩ : ∃ X : World, X = X0.setCell ⟨gv, k, none⟩ (.int .u64 0) := ⟨_, rfl⟩
    have HV1 := Lib.hid (show PVar X1 w5p.heap.size w6p.heap.size zv (.slice (some ⟨gv, 0, none⟩) us.length cV) (.slice qV ms.length dV) (us.set k 0) ms f by rw [hX1]; exact HV0.out.set k 0)
    have hF := HST.out.at (y := gv) (w' := X1) hF (by rw [hX1]; exact Keeps.setCell X0 (S := fun q => q = gv) (p := ⟨gv, k, none⟩) rfl _) (by have := (HV0.out.words.lt gv rfl).1; omega)
    have hszX : X1.heap.size = X0.heap.size := by rw [hX1]; simp
    go_simp
    rw [← hX1]
    refine hK.out _ _ ⟨HV1.out.box, fun _ _ => trivial⟩ ?_
    clear hK K c1 hfz hX1
    (try simp only [Act.put, List.getElem_toArray, List.getElem_cons_succ, List.getElem_cons_zero, List.setIfInBounds_toArray, List.set_cons_succ, List.set_cons_zero])
    refine wpTwo_takeT (i := 9) (v := .pointer (some ⟨gv, k + 1, none⟩)) rfl (by kernel_rfl) (by kernel_rfl) (by kernel_rfl) (fun _ _ _ h => h) ⟨by rfl, ?_⟩ HV1.out.box ?_
    · rintro w hTw
      have hkl := HKL.out
      have hk1 : 0 ≤ (k : Int) + 1 := by omega
      have hk2 : (k : Int) + 1 < (us.length : Int) := by omega
      go_simp
    (try simp only [Act.put, List.getElem_toArray, List.getElem_cons_succ, List.getElem_cons_zero, List.setIfInBounds_toArray, List.set_cons_succ, List.set_cons_zero])
    refine wpTwo_ready (rs := [10]) (by kernel_rfl) (by simp) ?_
    refine (AllTwo.cons rfl (fun K hK => ?_) AllTwo.nil)
    have c1 := HV1.out.word (k := k + 1) (by simp; omega)
    have hfz := HV1.out.wfree (k + 1)
    obtain ⟨X2, hX2⟩ : ∃ X : World, X = X1.setCell ⟨gv, k + 1, none⟩ (.int .u64 0) := ⟨_, rfl⟩
    have HV2 := Lib.hid (show PVar X2 w5p.heap.size w6p.heap.size zv (.slice (some ⟨gv, 0, none⟩) us.length cV) (.slice qV ms.length dV) uL ms f by rw [hX2, HUL.out]; exact HV1.out.set (k + 1) 0)
    have hF := HST.out.at (y := gv) (w' := X2) hF (by rw [hX2]; exact Keeps.setCell X1 (S := fun q => q = gv) (p := ⟨gv, k + 1, none⟩) rfl _) (by have := (HV1.out.words.lt gv rfl).1; omega)
    have hszX2 : X2.heap.size = X1.heap.size := by rw [hX2]; simp
    go_simp
    rw [← hX2]
    refine hK.out _ _ ⟨HV2.out.box, fun _ _ => trivial⟩ ?_
    clear hK K c1 hfz hX2 HV1 HV0 hT0
    (try simp only [Act.put, List.getElem_toArray, List.getElem_cons_succ, List.getElem_cons_zero, List.setIfInBounds_toArray, List.set_cons_succ, List.set_cons_zero])
    refine wpTwo_end (by kernel_rfl) ?_ _
    obtain ⟨fX, fS, fM, fL, fN, fT, hB⟩ := HFE.out _ hF
    have HL := Lib.hid fL
    clear fX fS fM fL fN fT hB
    obtain ⟨hl0, hl1, hl2⟩ := HL.out.cells
    obtain ⟨hv0, hv1, hv2⟩ := HV2.out.cells
    have hzX : Hid (w5p.heap.size ≤ X2.heap.size) := Lib.hid (by omega)
    clear hszX hszX2
    go_wp2_with fail
    refine (refSame_t _ _ uL ms f X2 HL.out.mem HV2.out.mem (by have h9 := HUL.out; rw [h9]; simp; omega) (by omega)).mono ?_
    rintro e X3 ⟨rfl, hb⟩
    have hF := HST.out.below hF hb
    have HFX := Lib.hid (And.intro hF (Nat.le_trans hzX.out hb.size))
    clear hl0 hl1 hl2 hv0 hv1 hv2 hb hF HL HV2
    go_wp2
    go_meet
    exact HFX
  case rest =>
    obtain ⟨hF, hszc⟩ := hcut.out
    clear hcut HX HS HM HL HN HT HF
    obtain ⟨fX, fS, fM, fL, fN, fT, hB⟩ := HFE.out _ hF
    have HX := Lib.hid fX
    have HS := Lib.hid fS
    have HM := Lib.hid fM
    have HL := Lib.hid fL
    have HN := Lib.hid fN
    have HT := Lib.hid fT
    clear fX fS fM fL fN fT
    obtain ⟨hs0, hs1, hs2⟩ := HS.out.cells
    go_wp2_with fail
    have HCK := qrright ⟨a, p, t⟩ wc
    rw [hs] at HCK
    refine HCK.mono ?_
    rintro e w6 ⟨rfl, hb⟩
    have hF := HST.out.below hF hb
    have hszc := Nat.le_trans hszc hb.size
    clear hs0 hs1 hs2 hb hB HX HS HM HL HN HT HCK
    obtain ⟨fX, fS, fM, fL, fN, fT, hB⟩ := HFE.out _ hF
    have HX := Lib.hid fX
    have HS := Lib.hid fS
    have HM := Lib.hid fM
    have HL := Lib.hid fL
    have HN := Lib.hid fN
    have HT := Lib.hid fT
    clear fX fS fM fL fN fT
    have hzsz : zs < w5p.heap.size := by omega
    clear hB
    go_upto_region 20 with fail
    go_cut [15, 16] (fun v15 v16 wd => ∃ (y6 y7 : Nat) (px : Option Addr) (cx : Nat) (py : Option Addr) (cy : Nat), v15 = .pointer (some ⟨y6, 0, none⟩) ∧ v16 = .pointer (some ⟨y7, 0, none⟩) ∧ Hid (F wd ∧ MBox wd y6 (.slice px u2.length cx) (.slice py ms.length cy) f2 ∧ SpBox wd y7 a2 p2 t2 ∧ wd.ownsRow w5p.heap.size 22 1 (.slice px u2.length cx) u2.length (u2.map (Value.int .u64)) ∧ wd.ownsRow w5p.heap.size 4 1 (.slice py ms.length cy) ms.length (ms.map Value.bool) ∧ w5p.heap.size ≤ wd.heap.size))
    case first =>
      refine wpTwo_begin (T := fun w' => MBox w' W.heap.size (.slice p0 n0 c0) (.slice p1 n1 c1) f ∧ SpBox w' zs a p t) (S := fun _ => True) (late := fun _ => false) (by kernel_rfl) ?_
      obtain ⟨X0, hX0⟩ : ∃ X : World, X = w6.drew := ⟨_, rfl⟩
      rw [← hX0]
      have hb : Below w6.heap.size w6 X0 := by rw [hX0]; exact (Below.refl _ _).drew
      have hT0 := And.intro (HX.out.below hb) (HS.out.below hb)
      have hF0 := HST.out.below hF hb
      have hz0 := Nat.le_trans hszc hb.size
      clear hX0 hb HX HS HM HL HN HT hF hszc
      refine wpTwo_takeT (i := 0) (v := .agg #[.slice p0 n0 c0, .slice p1 n1 c1, .bool f]) rfl (by kernel_rfl) (by kernel_rfl) (by kernel_rfl) (fun _ _ _ h => h) ⟨by rfl, ?_⟩ hT0 ?_
      · rintro w hTw
        obtain ⟨⟨t0, t1, t2⟩, _⟩ := mbox_cells hTw.1
        go_simp
      (try simp only [Act.put, List.getElem_toArray, List.getElem_cons_zero, List.setIfInBounds_toArray, List.set_cons_succ, List.set_cons_zero])
      refine wpTwo_takeT (i := 2) (v := .agg #[.int .i64 a, .int .i64 p, .int .u64 t]) rfl (by kernel_rfl) (by kernel_rfl) (by kernel_rfl) (fun _ _ _ h => h) ⟨by rfl, ?_⟩ hT0 ?_
      · rintro w hTw
        obtain ⟨t0, t1, t2⟩ := hTw.2.cells
        go_simp
      (try simp only [Act.put, List.getElem_toArray, List.getElem_cons_succ, List.getElem_cons_zero, List.setIfInBounds_toArray, List.set_cons_succ, List.set_cons_zero])
      refine wpTwo_ready (rs := [1, 7, 8]) (by kernel_rfl) (by simp) ?_
      refine (AllTwo.cons rfl (fun K hK => ?_) (AllTwo.cons rfl (fun K hK => ?_) (AllTwo.cons rfl (fun K hK => ?_) AllTwo.nil)))
      · go_simp
        have hBk := (HFE.out _ hF0).2.2.2.2.2.2
        refine (own_c _ _ f ws ls _ (H0.out.below hBk) (H1.out.below hBk) HWL.out HLL.out).mono ?_
        rintro e X1 ⟨hg, hb⟩
        rw [← HUS.out, ← HMS.out] at hg
        obtain ⟨_, rfl, vx, vy, rfl, h0, h1⟩ := hg
        obtain ⟨po, co, rfl⟩ := owns_slice h0
        obtain ⟨qo, do', rfl⟩ := owns_slice h1
        have hT1 := And.intro (hT0.1.below hb) (hT0.2.below hb)
        have hF1 := HST.out.below hF0 hb
        have hz1 := Nat.le_trans hz0 hb.size
        have HR1 := Lib.hid (And.intro (h0.mono hz0) (h1.mono hz0))
        clear hb h0 h1 hBk
        go_wp2_with fail
        refine hK.out _ _ ⟨hT1, fun _ _ => trivial⟩ ?_
        clear hK K
        (try simp only [Act.put, List.getElem_toArray, List.getElem_cons_succ, List.getElem_cons_zero, List.setIfInBounds_toArray, List.set_cons_succ, List.set_cons_zero])
        refine wpTwo_ready (rs := [3, 7, 8]) (by kernel_rfl) (by simp) ?_
        refine (AllTwo.cons rfl (fun K hK => ?_) (AllTwo.cons rfl (fun K hK => ?_) (AllTwo.cons rfl (fun K hK => ?_) AllTwo.nil)))
        · go_simp
          refine (rstep_c _ _ us ms f a p t w5p.heap.size X1 HR1.out.1 HR1.out.2 hz1 hr HPP.out).mono ?_
          rintro e X2 ⟨⟨vx, vy, rfl, h0, h1⟩, hb⟩
          obtain ⟨px, cx, rfl⟩ := owns_slice h0
          obtain ⟨py, cy, rfl⟩ := owns_slice h1
          have hT2 := And.intro (hT1.1.below hb) (hT1.2.below hb)
          have hF2 := HST.out.below hF1 hb
          have hz2 := Nat.le_trans hz1 hb.size
          have HR2 := Lib.hid (And.intro h0 h1)
          clear hb h0 h1
          go_wp2_with fail
          refine hK.out _ _ ⟨hT2, fun _ _ => trivial⟩ ?_
          clear hK K
          (try simp only [Act.put, List.getElem_toArray, List.getElem_cons_succ, List.getElem_cons_zero, List.setIfInBounds_toArray, List.set_cons_succ, List.set_cons_zero])
          refine wpTwo_takeT (i := 4) (v := .tuple #[.agg #[.slice px u2.length cx, .slice py ms.length cy, .bool f2], .agg #[.int .i64 a2, .int .i64 p2, .int .u64 t2]]) rfl (by kernel_rfl) (by kernel_rfl) (by kernel_rfl) (fun _ _ _ h => h) ⟨by rfl, ?_⟩ hT2 ?_
          · rintro w hTw
            go_simp
          (try simp only [Act.put, List.getElem_toArray, List.getElem_cons_succ, List.getElem_cons_zero, List.setIfInBounds_toArray, List.set_cons_succ, List.set_cons_zero])
          refine wpTwo_takeT (i := 5) (v := .agg #[.slice px u2.length cx, .slice py ms.length cy, .bool f2]) rfl (by kernel_rfl) (by kernel_rfl) (by kernel_rfl) (fun _ _ _ h => h) ⟨by rfl, ?_⟩ hT2 ?_
          · rintro w hTw
            go_simp
          (try simp only [Act.put, List.getElem_toArray, List.getElem_cons_succ, List.getElem_cons_zero, List.setIfInBounds_toArray, List.set_cons_succ, List.set_cons_zero])
          refine wpTwo_takeT (i := 6) (v := .agg #[.int .i64 a2, .int .i64 p2, .int .u64 t2]) rfl (by kernel_rfl) (by kernel_rfl) (by kernel_rfl) (fun _ _ _ h => h) ⟨by rfl, ?_⟩ hT2 ?_
          · rintro w hTw
            go_simp
          (try simp only [Act.put, List.getElem_toArray, List.getElem_cons_succ, List.getElem_cons_zero, List.setIfInBounds_toArray, List.set_cons_succ, List.set_cons_zero])
          refine wpTwo_ready (rs := [7, 8]) (by kernel_rfl) (by simp) ?_
          refine (AllTwo.cons rfl (fun K hK => ?_) (AllTwo.cons rfl (fun K hK => ?_) AllTwo.nil))
          · go_simp
            obtain ⟨y6, hy⟩ : ∃ q, q = X2.heap.size := ⟨_, rfl⟩
            obtain ⟨X3, hX⟩ : ∃ X : World, X = X2.alloc (.cells #[.slice none 0 0, .slice none 0 0, .bool false] 46) := ⟨_, rfl⟩
            rw [← hX, ← hy]
            have hb : Below X2.heap.size X2 X3 := by rw [hX]; exact below1 _ _
            have hlo7 : w5p.heap.size ≤ y6 := by rw [hy]; exact hz2
            have hT3 := And.intro (hT2.1.below hb) (hT2.2.below hb)
            have hF3 := HST.out.below hF2 hb
            have hz3 := Nat.le_trans hz2 hb.size
            have HR3 := Lib.hid (And.intro (owns_below HR2.out.1 hb) (owns_below HR2.out.2 hb))
            have HA3 := Lib.hid (show MBox X3 y6 (.slice none 0 0) (.slice none 0 0) false by rw [hX, hy]; exact MBox.new _ _ _ _)
            clear hb hX hy
            refine hK.out _ _ ⟨hT3, fun _ _ => trivial⟩ ?_
            clear hK K
            (try simp only [Act.put, List.getElem_toArray, List.getElem_cons_succ, List.getElem_cons_zero, List.setIfInBounds_toArray, List.set_cons_succ, List.set_cons_zero])
            refine wpTwo_ready (rs := [8]) (by kernel_rfl) (by simp) ?_
            refine (AllTwo.cons rfl (fun K hK => ?_) AllTwo.nil)
            · go_simp
              obtain ⟨y7, hy⟩ : ∃ q, q = X3.heap.size := ⟨_, rfl⟩
              obtain ⟨X4, hX⟩ : ∃ X : World, X = X3.alloc (.cells #[.int .i64 0, .int .i64 0, .int .u64 0] 24) := ⟨_, rfl⟩
              rw [← hX, ← hy]
              have hb : Below X3.heap.size X3 X4 := by rw [hX]; exact below1 _ _
              have hlo8 : w5p.heap.size ≤ y7 := by rw [hy]; exact hz3
              have hT4 := And.intro (hT3.1.below hb) (hT3.2.below hb)
              have hF4 := HST.out.below hF3 hb
              have hz4 := Nat.le_trans hz3 hb.size
              have HR4 := Lib.hid (And.intro (owns_below HR3.out.1 hb) (owns_below HR3.out.2 hb))
              have HA4 := Lib.hid (HA3.out.below hb)
              have HG4 := Lib.hid (show SpBox X4 y7 0 0 0 by rw [hX, hy]; exact World.alloc_heap_new _ _)
              have hne67 : y6 ≠ y7 := by have h1 := HA3.out.lt; omega
              clear hb hX hy
              refine hK.out _ _ ⟨hT4, fun _ _ => trivial⟩ ?_
              clear hK K
              (try simp only [Act.put, List.getElem_toArray, List.getElem_cons_succ, List.getElem_cons_zero, List.setIfInBounds_toArray, List.set_cons_succ, List.set_cons_zero])
              refine wpTwo_ready (rs := [9]) (by kernel_rfl) (by simp) ?_
              refine (AllTwo.cons rfl (fun K hK => ?_) AllTwo.nil)
              obtain ⟨⟨d0, d1, d2⟩, e0, e1, e2⟩ := mbox_cells HA4.out
              obtain ⟨Xa, hXa⟩ : ∃ X : World, X = ((X4.setCell ⟨y6, 0, none⟩ (.slice px u2.length cx)).setCell ⟨y6, 1, none⟩ (.slice py ms.length cy)).setCell ⟨y6, 2, none⟩ (.bool f2) := ⟨_, rfl⟩
              have hk : Keeps (fun q => q = y6) X4 Xa := by rw [hXa]; exact ((Keeps.setCell X4 (S := fun q => q = y6) (p := ⟨y6, 0, none⟩) rfl _).trans (Keeps.setCell _ (S := fun q => q = y6) (p := ⟨y6, 1, none⟩) rfl _)).trans (Keeps.setCell _ (S := fun q => q = y6) (p := ⟨y6, 2, none⟩) rfl _)
              have hTa := And.intro (hT4.1.keeps hk (fun e => by have e : W.heap.size = y6 := e; have := HWW.out; omega)) (hT4.2.keeps hk (fun e => by have e : zs = y6 := e; omega))
              have hFa := HST.out.at hF4 hk hlo7
              have hza := Nat.le_trans hz4 hk.size
              have HGa := Lib.hid (HG4.out.keeps hk (fun e => hne67 e.symm))
              have HAa := Lib.hid (show MBox Xa y6 (.slice px u2.length cx) (.slice py ms.length cy) f2 by rw [hXa]; exact HA4.out.set _ _ _)
              have HRa := Lib.hid (rows_off HR4.out HA4.out hk)
              go_simp
              rw [← hXa]
              refine hK.out _ _ ⟨hTa, fun _ _ => trivial⟩ ?_
              clear hK K d0 d1 d2 e0 e1 e2 hXa hk
              (try simp only [Act.put, List.getElem_toArray, List.getElem_cons_succ, List.getElem_cons_zero, List.setIfInBounds_toArray, List.set_cons_succ, List.set_cons_zero])
              refine wpTwo_ready (rs := [10]) (by kernel_rfl) (by simp) ?_
              refine (AllTwo.cons rfl (fun K hK => ?_) AllTwo.nil)
              obtain ⟨d0, d1, d2⟩ := HGa.out.cells
              have e0 := HGa.out.free 0
              have e1 := HGa.out.free 1
              have e2 := HGa.out.free 2
              obtain ⟨Xb, hXb⟩ : ∃ X : World, X = ((Xa.setCell ⟨y7, 0, none⟩ (.int .i64 a2)).setCell ⟨y7, 1, none⟩ (.int .i64 p2)).setCell ⟨y7, 2, none⟩ (.int .u64 t2) := ⟨_, rfl⟩
              have hk : Keeps (fun q => q = y7) Xa Xb := by rw [hXb]; exact ((Keeps.setCell Xa (S := fun q => q = y7) (p := ⟨y7, 0, none⟩) rfl _).trans (Keeps.setCell _ (S := fun q => q = y7) (p := ⟨y7, 1, none⟩) rfl _)).trans (Keeps.setCell _ (S := fun q => q = y7) (p := ⟨y7, 2, none⟩) rfl _)
              have hTb := And.intro (hTa.1.keeps hk (fun e => by have e : W.heap.size = y7 := e; have := HWW.out; omega)) (hTa.2.keeps hk (fun e => by have e : zs = y7 := e; omega))
              have hFb := HST.out.at hFa hk hlo8
              have hzb := Nat.le_trans hza hk.size
              have HAb := Lib.hid (HAa.out.keeps hk (fun e => hne67 e))
              have HGb := Lib.hid (show SpBox Xb y7 a2 p2 t2 by
                unfold SpBox
                rw [hXb, heap_setCell_same _ y7 2 _ _ _ (heap_setCell_same _ y7 1 _ _ _ (heap_setCell_same Xa y7 0 _ _ _ HGa.out))]; rfl)
              have HRb := Lib.hid (rows_offS HRa.out HGa.out hk)
              go_simp
              rw [← hXb]
              refine hK.out _ _ ⟨hTb, fun _ _ => trivial⟩ ?_
              clear hK K d0 d1 d2 e0 e1 e2 hXb hk
              (try simp only [Act.put, List.getElem_toArray, List.getElem_cons_succ, List.getElem_cons_zero, List.setIfInBounds_toArray, List.set_cons_succ, List.set_cons_zero])
              refine wpTwo_end (by kernel_rfl) ?_ _
              go_wp2
              go_meet
              exact ⟨y6, y7, px, cx, py, cy, rfl, rfl, Lib.hid ⟨hFb, HAb.out, HGb.out, HRb.out.1, HRb.out.2, hzb⟩⟩
          · go_simp
            obtain ⟨y7, hy⟩ : ∃ q, q = X2.heap.size := ⟨_, rfl⟩
            obtain ⟨X3, hX⟩ : ∃ X : World, X = X2.alloc (.cells #[.int .i64 0, .int .i64 0, .int .u64 0] 24) := ⟨_, rfl⟩
            rw [← hX, ← hy]
            have hb : Below X2.heap.size X2 X3 := by rw [hX]; exact below1 _ _
            have hlo8 : w5p.heap.size ≤ y7 := by rw [hy]; exact hz2
            have hT3 := And.intro (hT2.1.below hb) (hT2.2.below hb)
            have hF3 := HST.out.below hF2 hb
            have hz3 := Nat.le_trans hz2 hb.size
            have HR3 := Lib.hid (And.intro (owns_below HR2.out.1 hb) (owns_below HR2.out.2 hb))
            have HG3 := Lib.hid (show SpBox X3 y7 0 0 0 by rw [hX, hy]; exact World.alloc_heap_new _ _)
            clear hb hX hy
            refine hK.out _ _ ⟨hT3, fun _ _ => trivial⟩ ?_
            clear hK K
            (try simp only [Act.put, List.getElem_toArray, List.getElem_cons_succ, List.getElem_cons_zero, List.setIfInBounds_toArray, List.set_cons_succ, List.set_cons_zero])
            refine wpTwo_ready (rs := [7]) (by kernel_rfl) (by simp) ?_
            refine (AllTwo.cons rfl (fun K hK => ?_) AllTwo.nil)
            · go_simp
              obtain ⟨y6, hy⟩ : ∃ q, q = X3.heap.size := ⟨_, rfl⟩
              obtain ⟨X4, hX⟩ : ∃ X : World, X = X3.alloc (.cells #[.slice none 0 0, .slice none 0 0, .bool false] 46) := ⟨_, rfl⟩
              rw [← hX, ← hy]
              have hb : Below X3.heap.size X3 X4 := by rw [hX]; exact below1 _ _
              have hlo7 : w5p.heap.size ≤ y6 := by rw [hy]; exact hz3
              have hT4 := And.intro (hT3.1.below hb) (hT3.2.below hb)
              have hF4 := HST.out.below hF3 hb
              have hz4 := Nat.le_trans hz3 hb.size
              have HR4 := Lib.hid (And.intro (owns_below HR3.out.1 hb) (owns_below HR3.out.2 hb))
              have HG4 := Lib.hid (HG3.out.below hb)
              have HA4 := Lib.hid (show MBox X4 y6 (.slice none 0 0) (.slice none 0 0) false by rw [hX, hy]; exact MBox.new _ _ _ _)
              have hne67 : y6 ≠ y7 := by have h1 := HG3.out.lt; omega
              clear hb hX hy
              refine hK.out _ _ ⟨hT4, fun _ _ => trivial⟩ ?_
              clear hK K
              (try simp only [Act.put, List.getElem_toArray, List.getElem_cons_succ, List.getElem_cons_zero, List.setIfInBounds_toArray, List.set_cons_succ, List.set_cons_zero])
              refine wpTwo_ready (rs := [9]) (by kernel_rfl) (by simp) ?_
              refine (AllTwo.cons rfl (fun K hK => ?_) AllTwo.nil)
              obtain ⟨⟨d0, d1, d2⟩, e0, e1, e2⟩ := mbox_cells HA4.out
              obtain ⟨Xa, hXa⟩ : ∃ X : World, X = ((X4.setCell ⟨y6, 0, none⟩ (.slice px u2.length cx)).setCell ⟨y6, 1, none⟩ (.slice py ms.length cy)).setCell ⟨y6, 2, none⟩ (.bool f2) := ⟨_, rfl⟩
              have hk : Keeps (fun q => q = y6) X4 Xa := by rw [hXa]; exact ((Keeps.setCell X4 (S := fun q => q = y6) (p := ⟨y6, 0, none⟩) rfl _).trans (Keeps.setCell _ (S := fun q => q = y6) (p := ⟨y6, 1, none⟩) rfl _)).trans (Keeps.setCell _ (S := fun q => q = y6) (p := ⟨y6, 2, none⟩) rfl _)
              have hTa := And.intro (hT4.1.keeps hk (fun e => by have e : W.heap.size = y6 := e; have := HWW.out; omega)) (hT4.2.keeps hk (fun e => by have e : zs = y6 := e; omega))
              have hFa := HST.out.at hF4 hk hlo7
              have hza := Nat.le_trans hz4 hk.size
              have HGa := Lib.hid (HG4.out.keeps hk (fun e => hne67 e.symm))
              have HAa := Lib.hid (show MBox Xa y6 (.slice px u2.length cx) (.slice py ms.length cy) f2 by rw [hXa]; exact HA4.out.set _ _ _)
              have HRa := Lib.hid (rows_off HR4.out HA4.out hk)
              go_simp
              rw [← hXa]
              refine hK.out _ _ ⟨hTa, fun _ _ => trivial⟩ ?_
              clear hK K d0 d1 d2 e0 e1 e2 hXa hk
              (try simp only [Act.put, List.getElem_toArray, List.getElem_cons_succ, List.getElem_cons_zero, List.setIfInBounds_toArray, List.set_cons_succ, List.set_cons_zero])
              refine wpTwo_ready (rs := [10]) (by kernel_rfl) (by simp) ?_
              refine (AllTwo.cons rfl (fun K hK => ?_) AllTwo.nil)
              obtain ⟨d0, d1, d2⟩ := HGa.out.cells
              have e0 := HGa.out.free 0
              have e1 := HGa.out.free 1
              have e2 := HGa.out.free 2
              obtain ⟨Xb, hXb⟩ : ∃ X : World, X = ((Xa.setCell ⟨y7, 0, none⟩ (.int .i64 a2)).setCell ⟨y7, 1, none⟩ (.int .i64 p2)).setCell ⟨y7, 2, none⟩ (.int .u64 t2) := ⟨_, rfl⟩
              have hk : Keeps (fun q => q = y7) Xa Xb := by rw [hXb]; exact ((Keeps.setCell Xa (S := fun q => q = y7) (p := ⟨y7, 0, none⟩) rfl _).trans (Keeps.setCell _ (S := fun q => q = y7) (p := ⟨y7, 1, none⟩) rfl _)).trans (Keeps.setCell _ (S := fun q => q = y7) (p := ⟨y7, 2, none⟩) rfl _)
              have hTb := And.intro (hTa.1.keeps hk (fun e => by have e : W.heap.size = y7 := e; have := HWW.out; omega)) (hTa.2.keeps hk (fun e => by have e : zs = y7 := e; omega))
              have hFb := HST.out.at hFa hk hlo8
              have hzb := Nat.le_trans hza hk.size
              have HAb := Lib.hid (HAa.out.keeps hk (fun e => hne67 e))
              have HGb := Lib.hid (show SpBox Xb y7 a2 p2 t2 by
                unfold SpBox
                rw [hXb, heap_setCell_same _ y7 2 _ _ _ (heap_setCell_same _ y7 1 _ _ _ (heap_setCell_same Xa y7 0 _ _ _ HGa.out))]; rfl)
              have HRb := Lib.hid (rows_offS HRa.out HGa.out hk)
              go_simp
              rw [← hXb]
              refine hK.out _ _ ⟨hTb, fun _ _ => trivial⟩ ?_
              clear hK K d0 d1 d2 e0 e1 e2 hXb hk
              (try simp only [Act.put, List.getElem_toArray, List.getElem_cons_succ, List.getElem_cons_zero, List.setIfInBounds_toArray, List.set_cons_succ, List.set_cons_zero])
              refine wpTwo_end (by kernel_rfl) ?_ _
              go_wp2
              go_meet
              exact ⟨y6, y7, px, cx, py, cy, rfl, rfl, Lib.hid ⟨hFb, HAb.out, HGb.out, HRb.out.1, HRb.out.2, hzb⟩⟩
        · go_simp
          obtain ⟨y6, hy⟩ : ∃ q, q = X1.heap.size := ⟨_, rfl⟩
          obtain ⟨X2, hX⟩ : ∃ X : World, X = X1.alloc (.cells #[.slice none 0 0, .slice none 0 0, .bool false] 46) := ⟨_, rfl⟩
          rw [← hX, ← hy]
          have hb : Below X1.heap.size X1 X2 := by rw [hX]; exact below1 _ _
          have hlo7 : w5p.heap.size ≤ y6 := by rw [hy]; exact hz1
          have hT2 := And.intro (hT1.1.below hb) (hT1.2.below hb)
          have hF2 := HST.out.below hF1 hb
          have hz2 := Nat.le_trans hz1 hb.size
          have HR2 := Lib.hid (And.intro (owns_below HR1.out.1 hb) (owns_below HR1.out.2 hb))
          have HA2 := Lib.hid (show MBox X2 y6 (.slice none 0 0) (.slice none 0 0) false by rw [hX, hy]; exact MBox.new _ _ _ _)
          clear hb hX hy
          refine hK.out _ _ ⟨hT2, fun _ _ => trivial⟩ ?_
          clear hK K
          (try simp only [Act.put, List.getElem_toArray, List.getElem_cons_succ, List.getElem_cons_zero, List.setIfInBounds_toArray, List.set_cons_succ, List.set_cons_zero])
          refine wpTwo_ready (rs := [3, 8]) (by kernel_rfl) (by simp) ?_
          refine (AllTwo.cons rfl (fun K hK => ?_) (AllTwo.cons rfl (fun K hK => ?_) AllTwo.nil))
          · go_simp
            refine (rstep_c _ _ us ms f a p t w5p.heap.size X2 HR2.out.1 HR2.out.2 hz2 hr HPP.out).mono ?_
            rintro e X3 ⟨⟨vx, vy, rfl, h0, h1⟩, hb⟩
            obtain ⟨px, cx, rfl⟩ := owns_slice h0
            obtain ⟨py, cy, rfl⟩ := owns_slice h1
            have hT3 := And.intro (hT2.1.below hb) (hT2.2.below hb)
            have hF3 := HST.out.below hF2 hb
            have hz3 := Nat.le_trans hz2 hb.size
            have HA3 := Lib.hid (HA2.out.below hb)
            have HR3 := Lib.hid (And.intro h0 h1)
            clear hb h0 h1
            go_wp2_with fail
            refine hK.out _ _ ⟨hT3, fun _ _ => trivial⟩ ?_
            clear hK K
            (try simp only [Act.put, List.getElem_toArray, List.getElem_cons_succ, List.getElem_cons_zero, List.setIfInBounds_toArray, List.set_cons_succ, List.set_cons_zero])
            refine wpTwo_takeT (i := 4) (v := .tuple #[.agg #[.slice px u2.length cx, .slice py ms.length cy, .bool f2], .agg #[.int .i64 a2, .int .i64 p2, .int .u64 t2]]) rfl (by kernel_rfl) (by kernel_rfl) (by kernel_rfl) (fun _ _ _ h => h) ⟨by rfl, ?_⟩ hT3 ?_
            · rintro w hTw
              go_simp
            (try simp only [Act.put, List.getElem_toArray, List.getElem_cons_succ, List.getElem_cons_zero, List.setIfInBounds_toArray, List.set_cons_succ, List.set_cons_zero])
            refine wpTwo_takeT (i := 5) (v := .agg #[.slice px u2.length cx, .slice py ms.length cy, .bool f2]) rfl (by kernel_rfl) (by kernel_rfl) (by kernel_rfl) (fun _ _ _ h => h) ⟨by rfl, ?_⟩ hT3 ?_
            · rintro w hTw
              go_simp
            (try simp only [Act.put, List.getElem_toArray, List.getElem_cons_succ, List.getElem_cons_zero, List.setIfInBounds_toArray, List.set_cons_succ, List.set_cons_zero])
            refine wpTwo_takeT (i := 6) (v := .agg #[.int .i64 a2, .int .i64 p2, .int .u64 t2]) rfl (by kernel_rfl) (by kernel_rfl) (by kernel_rfl) (fun _ _ _ h => h) ⟨by rfl, ?_⟩ hT3 ?_
            · rintro w hTw
              go_simp
            (try simp only [Act.put, List.getElem_toArray, List.getElem_cons_succ, List.getElem_cons_zero, List.setIfInBounds_toArray, List.set_cons_succ, List.set_cons_zero])
            refine wpTwo_ready (rs := [8]) (by kernel_rfl) (by simp) ?_
            refine (AllTwo.cons rfl (fun K hK => ?_) AllTwo.nil)
            · go_simp
              obtain ⟨y7, hy⟩ : ∃ q, q = X3.heap.size := ⟨_, rfl⟩
              obtain ⟨X4, hX⟩ : ∃ X : World, X = X3.alloc (.cells #[.int .i64 0, .int .i64 0, .int .u64 0] 24) := ⟨_, rfl⟩
              rw [← hX, ← hy]
              have hb : Below X3.heap.size X3 X4 := by rw [hX]; exact below1 _ _
              have hlo8 : w5p.heap.size ≤ y7 := by rw [hy]; exact hz3
              have hT4 := And.intro (hT3.1.below hb) (hT3.2.below hb)
              have hF4 := HST.out.below hF3 hb
              have hz4 := Nat.le_trans hz3 hb.size
              have HR4 := Lib.hid (And.intro (owns_below HR3.out.1 hb) (owns_below HR3.out.2 hb))
              have HA4 := Lib.hid (HA3.out.below hb)
              have HG4 := Lib.hid (show SpBox X4 y7 0 0 0 by rw [hX, hy]; exact World.alloc_heap_new _ _)
              have hne67 : y6 ≠ y7 := by have h1 := HA3.out.lt; omega
              clear hb hX hy
              refine hK.out _ _ ⟨hT4, fun _ _ => trivial⟩ ?_
              clear hK K
              (try simp only [Act.put, List.getElem_toArray, List.getElem_cons_succ, List.getElem_cons_zero, List.setIfInBounds_toArray, List.set_cons_succ, List.set_cons_zero])
              refine wpTwo_ready (rs := [9]) (by kernel_rfl) (by simp) ?_
              refine (AllTwo.cons rfl (fun K hK => ?_) AllTwo.nil)
              obtain ⟨⟨d0, d1, d2⟩, e0, e1, e2⟩ := mbox_cells HA4.out
              obtain ⟨Xa, hXa⟩ : ∃ X : World, X = ((X4.setCell ⟨y6, 0, none⟩ (.slice px u2.length cx)).setCell ⟨y6, 1, none⟩ (.slice py ms.length cy)).setCell ⟨y6, 2, none⟩ (.bool f2) := ⟨_, rfl⟩
              have hk : Keeps (fun q => q = y6) X4 Xa := by rw [hXa]; exact ((Keeps.setCell X4 (S := fun q => q = y6) (p := ⟨y6, 0, none⟩) rfl _).trans (Keeps.setCell _ (S := fun q => q = y6) (p := ⟨y6, 1, none⟩) rfl _)).trans (Keeps.setCell _ (S := fun q => q = y6) (p := ⟨y6, 2, none⟩) rfl _)
              have hTa := And.intro (hT4.1.keeps hk (fun e => by have e : W.heap.size = y6 := e; have := HWW.out; omega)) (hT4.2.keeps hk (fun e => by have e : zs = y6 := e; omega))
              have hFa := HST.out.at hF4 hk hlo7
              have hza := Nat.le_trans hz4 hk.size
              have HGa := Lib.hid (HG4.out.keeps hk (fun e => hne67 e.symm))
              have HAa := Lib.hid (show MBox Xa y6 (.slice px u2.length cx) (.slice py ms.length cy) f2 by rw [hXa]; exact HA4.out.set _ _ _)
              have HRa := Lib.hid (rows_off HR4.out HA4.out hk)
              go_simp
              rw [← hXa]
              refine hK.out _ _ ⟨hTa, fun _ _ => trivial⟩ ?_
              clear hK K d0 d1 d2 e0 e1 e2 hXa hk
              (try simp only [Act.put, List.getElem_toArray, List.getElem_cons_succ, List.getElem_cons_zero, List.setIfInBounds_toArray, List.set_cons_succ, List.set_cons_zero])
              refine wpTwo_ready (rs := [10]) (by kernel_rfl) (by simp) ?_
              refine (AllTwo.cons rfl (fun K hK => ?_) AllTwo.nil)
              obtain ⟨d0, d1, d2⟩ := HGa.out.cells
              have e0 := HGa.out.free 0
              have e1 := HGa.out.free 1
              have e2 := HGa.out.free 2
              obtain ⟨Xb, hXb⟩ : ∃ X : World, X = ((Xa.setCell ⟨y7, 0, none⟩ (.int .i64 a2)).setCell ⟨y7, 1, none⟩ (.int .i64 p2)).setCell ⟨y7, 2, none⟩ (.int .u64 t2) := ⟨_, rfl⟩
              have hk : Keeps (fun q => q = y7) Xa Xb := by rw [hXb]; exact ((Keeps.setCell Xa (S := fun q => q = y7) (p := ⟨y7, 0, none⟩) rfl _).trans (Keeps.setCell _ (S := fun q => q = y7) (p := ⟨y7, 1, none⟩) rfl _)).trans (Keeps.setCell _ (S := fun q => q = y7) (p := ⟨y7, 2, none⟩) rfl _)
              have hTb := And.intro (hTa.1.keeps hk (fun e => by have e : W.heap.size = y7 := e; have := HWW.out; omega)) (hTa.2.keeps hk (fun e => by have e : zs = y7 := e; omega))
              have hFb := HST.out.at hFa hk hlo8
              have hzb := Nat.le_trans hza hk.size
              have HAb := Lib.hid (HAa.out.keeps hk (fun e => hne67 e))
              have HGb := Lib.hid (show SpBox Xb y7 a2 p2 t2 by
                unfold SpBox
                rw [hXb, heap_setCell_same _ y7 2 _ _ _ (heap_setCell_same _ y7 1 _ _ _ (heap_setCell_same Xa y7 0 _ _ _ HGa.out))]; rfl)
              have HRb := Lib.hid (rows_offS HRa.out HGa.out hk)
              go_simp
              rw [← hXb]
              refine hK.out _ _ ⟨hTb, fun _ _ => trivial⟩ ?_
              clear hK K d0 d1 d2 e0 e1 e2 hXb hk
              (try simp only [Act.put, List.getElem_toArray, List.getElem_cons_succ, List.getElem_cons_zero, List.setIfInBounds_toArray, List.set_cons_succ, List.set_cons_zero])
              refine wpTwo_end (by kernel_rfl) ?_ _
              go_wp2
              go_meet
              exact ⟨y6, y7, px, cx, py, cy, rfl, rfl, Lib.hid ⟨hFb, HAb.out, HGb.out, HRb.out.1, HRb.out.2, hzb⟩⟩
          · go_simp
            obtain ⟨y7, hy⟩ : ∃ q, q = X2.heap.size := ⟨_, rfl⟩
            obtain ⟨X3, hX⟩ : ∃ X : World, X = X2.alloc (.cells #[.int .i64 0, .int .i64 0, .int .u64 0] 24) := ⟨_, rfl⟩
            rw [← hX, ← hy]
            have hb : Below X2.heap.size X2 X3 := by rw [hX]; exact below1 _ _
            have hlo8 : w5p.heap.size ≤ y7 := by rw [hy]; exact hz2
            have hT3 := And.intro (hT2.1.below hb) (hT2.2.below hb)
            have hF3 := HST.out.below hF2 hb
            have hz3 := Nat.le_trans hz2 hb.size
            have HR3 := Lib.hid (And.intro (owns_below HR2.out.1 hb) (owns_below HR2.out.2 hb))
            have HA3 := Lib.hid (HA2.out.below hb)
            have HG3 := Lib.hid (show SpBox X3 y7 0 0 0 by rw [hX, hy]; exact World.alloc_heap_new _ _)
            have hne67 : y6 ≠ y7 := by have h1 := HA2.out.lt; omega
            clear hb hX hy
            refine hK.out _ _ ⟨hT3, fun _ _ => trivial⟩ ?_
            clear hK K
            (try simp only [Act.put, List.getElem_toArray, List.getElem_cons_succ, List.getElem_cons_zero, List.setIfInBounds_toArray, List.set_cons_succ, List.set_cons_zero])
            refine wpTwo_ready (rs := [3]) (by kernel_rfl) (by simp) ?_
            refine (AllTwo.cons rfl (fun K hK => ?_) AllTwo.nil)
            · go_simp
              refine (rstep_c _ _ us ms f a p t w5p.heap.size X3 HR3.out.1 HR3.out.2 hz3 hr HPP.out).mono ?_
              rintro e X4 ⟨⟨vx, vy, rfl, h0, h1⟩, hb⟩
              obtain ⟨px, cx, rfl⟩ := owns_slice h0
              obtain ⟨py, cy, rfl⟩ := owns_slice h1
              have hT4 := And.intro (hT3.1.below hb) (hT3.2.below hb)
              have hF4 := HST.out.below hF3 hb
              have hz4 := Nat.le_trans hz3 hb.size
              have HA4 := Lib.hid (HA3.out.below hb)
              have HG4 := Lib.hid (HG3.out.below hb)
              have HR4 := Lib.hid (And.intro h0 h1)
              clear hb h0 h1
              go_wp2_with fail
              refine hK.out _ _ ⟨hT4, fun _ _ => trivial⟩ ?_
              clear hK K
              (try simp only [Act.put, List.getElem_toArray, List.getElem_cons_succ, List.getElem_cons_zero, List.setIfInBounds_toArray, List.set_cons_succ, List.set_cons_zero])
              refine wpTwo_takeT (i := 4) (v := .tuple #[.agg #[.slice px u2.length cx, .slice py ms.length cy, .bool f2], .agg #[.int .i64 a2, .int .i64 p2, .int .u64 t2]]) rfl (by kernel_rfl) (by kernel_rfl) (by kernel_rfl) (fun _ _ _ h => h) ⟨by rfl, ?_⟩ hT4 ?_
              · rintro w hTw
                go_simp
              (try simp only [Act.put, List.getElem_toArray, List.getElem_cons_succ, List.getElem_cons_zero, List.setIfInBounds_toArray, List.set_cons_succ, List.set_cons_zero])
              refine wpTwo_takeT (i := 5) (v := .agg #[.slice px u2.length cx, .slice py ms.length cy, .bool f2]) rfl (by kernel_rfl) (by kernel_rfl) (by kernel_rfl) (fun _ _ _ h => h) ⟨by rfl, ?_⟩ hT4 ?_
              · rintro w hTw
                go_simp
              (try simp only [Act.put, List.getElem_toArray, List.getElem_cons_succ, List.getElem_cons_zero, List.setIfInBounds_toArray, List.set_cons_succ, List.set_cons_zero])
              refine wpTwo_takeT (i := 6) (v := .agg #[.int .i64 a2, .int .i64 p2, .int .u64 t2]) rfl (by kernel_rfl) (by kernel_rfl) (by kernel_rfl) (fun _ _ _ h => h) ⟨by rfl, ?_⟩ hT4 ?_
              · rintro w hTw
                go_simp
              (try simp only [Act.put, List.getElem_toArray, List.getElem_cons_succ, List.getElem_cons_zero, List.setIfInBounds_toArray, List.set_cons_succ, List.set_cons_zero])
              refine wpTwo_ready (rs := [9]) (by kernel_rfl) (by simp) ?_
              refine (AllTwo.cons rfl (fun K hK => ?_) AllTwo.nil)
              obtain ⟨⟨d0, d1, d2⟩, e0, e1, e2⟩ := mbox_cells HA4.out
              obtain ⟨Xa, hXa⟩ : ∃ X : World, X = ((X4.setCell ⟨y6, 0, none⟩ (.slice px u2.length cx)).setCell ⟨y6, 1, none⟩ (.slice py ms.length cy)).setCell ⟨y6, 2, none⟩ (.bool f2) := ⟨_, rfl⟩
              have hk : Keeps (fun q => q = y6) X4 Xa := by rw [hXa]; exact ((Keeps.setCell X4 (S := fun q => q = y6) (p := ⟨y6, 0, none⟩) rfl _).trans (Keeps.setCell _ (S := fun q => q = y6) (p := ⟨y6, 1, none⟩) rfl _)).trans (Keeps.setCell _ (S := fun q => q = y6) (p := ⟨y6, 2, none⟩) rfl _)
              have hTa := And.intro (hT4.1.keeps hk (fun e => by have e : W.heap.size = y6 := e; have := HWW.out; omega)) (hT4.2.keeps hk (fun e => by have e : zs = y6 := e; omega))
              have hFa := HST.out.at hF4 hk hlo7
              have hza := Nat.le_trans hz4 hk.size
              have HGa := Lib.hid (HG4.out.keeps hk (fun e => hne67 e.symm))
              have HAa := Lib.hid (show MBox Xa y6 (.slice px u2.length cx) (.slice py ms.length cy) f2 by rw [hXa]; exact HA4.out.set _ _ _)
              have HRa := Lib.hid (rows_off HR4.out HA4.out hk)
              go_simp
              rw [← hXa]
              refine hK.out _ _ ⟨hTa, fun _ _ => trivial⟩ ?_
              clear hK K d0 d1 d2 e0 e1 e2 hXa hk
              (try simp only [Act.put, List.getElem_toArray, List.getElem_cons_succ, List.getElem_cons_zero, List.setIfInBounds_toArray, List.set_cons_succ, List.set_cons_zero])
              refine wpTwo_ready (rs := [10]) (by kernel_rfl) (by simp) ?_
              refine (AllTwo.cons rfl (fun K hK => ?_) AllTwo.nil)
              obtain ⟨d0, d1, d2⟩ := HGa.out.cells
              have e0 := HGa.out.free 0
              have e1 := HGa.out.free 1
              have e2 := HGa.out.free 2
              obtain ⟨Xb, hXb⟩ : ∃ X : World, X = ((Xa.setCell ⟨y7, 0, none⟩ (.int .i64 a2)).setCell ⟨y7, 1, none⟩ (.int .i64 p2)).setCell ⟨y7, 2, none⟩ (.int .u64 t2) := ⟨_, rfl⟩
              have hk : Keeps (fun q => q = y7) Xa Xb := by rw [hXb]; exact ((Keeps.setCell Xa (S := fun q => q = y7) (p := ⟨y7, 0, none⟩) rfl _).trans (Keeps.setCell _ (S := fun q => q = y7) (p := ⟨y7, 1, none⟩) rfl _)).trans (Keeps.setCell _ (S := fun q => q = y7) (p := ⟨y7, 2, none⟩) rfl _)
              have hTb := And.intro (hTa.1.keeps hk (fun e => by have e : W.heap.size = y7 := e; have := HWW.out; omega)) (hTa.2.keeps hk (fun e => by have e : zs = y7 := e; omega))
              have hFb := HST.out.at hFa hk hlo8
              have hzb := Nat.le_trans hza hk.size
              have HAb := Lib.hid (HAa.out.keeps hk (fun e => hne67 e))
              have HGb := Lib.hid (show SpBox Xb y7 a2 p2 t2 by
                unfold SpBox
                rw [hXb, heap_setCell_same _ y7 2 _ _ _ (heap_setCell_same _ y7 1 _ _ _ (heap_setCell_same Xa y7 0 _ _ _ HGa.out))]; rfl)
              have HRb := Lib.hid (rows_offS HRa.out HGa.out hk)
              go_simp
              rw [← hXb]
              refine hK.out _ _ ⟨hTb, fun _ _ => trivial⟩ ?_
              clear hK K d0 d1 d2 e0 e1 e2 hXb hk
              (try simp only [Act.put, List.getElem_toArray, List.getElem_cons_succ, List.getElem_cons_zero, List.setIfInBounds_toArray, List.set_cons_succ, List.set_cons_zero])
              refine wpTwo_end (by kernel_rfl) ?_ _
              go_wp2
              go_meet
              exact ⟨y6, y7, px, cx, py, cy, rfl, rfl, Lib.hid ⟨hFb, HAb.out, HGb.out, HRb.out.1, HRb.out.2, hzb⟩⟩
        · go_simp
          obtain ⟨y7, hy⟩ : ∃ q, q = X1.heap.size := ⟨_, rfl⟩
          obtain ⟨X2, hX⟩ : ∃ X : World, X = X1.alloc (.cells #[.int .i64 0, .int .i64 0, .int .u64 0] 24) := ⟨_, rfl⟩
          rw [← hX, ← hy]
          have hb : Below X1.heap.size X1 X2 := by rw [hX]; exact below1 _ _
          have hlo8 : w5p.heap.size ≤ y7 := by rw [hy]; exact hz1
          have hT2 := And.intro (hT1.1.below hb) (hT1.2.below hb)
          have hF2 := HST.out.below hF1 hb
          have hz2 := Nat.le_trans hz1 hb.size
          have HR2 := Lib.hid (And.intro (owns_below HR1.out.1 hb) (owns_below HR1.out.2 hb))
          have HG2 := Lib.hid (show SpBox X2 y7 0 0 0 by rw [hX, hy]; exact World.alloc_heap_new _ _)
          clear hb hX hy
          refine hK.out _ _ ⟨hT2, fun _ _ => trivial⟩ ?_
          clear hK K
          (try simp only [Act.put, List.getElem_toArray, List.getElem_cons_succ, List.getElem_cons_zero, List.setIfInBounds_toArray, List.set_cons_succ, List.set_cons_zero])
          refine wpTwo_ready (rs := [3, 7]) (by kernel_rfl) (by simp) ?_
          refine (AllTwo.cons rfl (fun K hK => ?_) (AllTwo.cons rfl (fun K hK => ?_) AllTwo.nil))
          · go_simp
            refine (rstep_c _ _ us ms f a p t w5p.heap.size X2 HR2.out.1 HR2.out.2 hz2 hr HPP.out).mono ?_
            rintro e X3 ⟨⟨vx, vy, rfl, h0, h1⟩, hb⟩
            obtain ⟨px, cx, rfl⟩ := owns_slice h0
            obtain ⟨py, cy, rfl⟩ := owns_slice h1
            have hT3 := And.intro (hT2.1.below hb) (hT2.2.below hb)
            have hF3 := HST.out.below hF2 hb
            have hz3 := Nat.le_trans hz2 hb.size
            have HG3 := Lib.hid (HG2.out.below hb)
            have HR3 := Lib.hid (And.intro h0 h1)
            clear hb h0 h1
            go_wp2_with fail
            refine hK.out _ _ ⟨hT3, fun _ _ => trivial⟩ ?_
            clear hK K
            (try simp only [Act.put, List.getElem_toArray, List.getElem_cons_succ, List.getElem_cons_zero, List.setIfInBounds_toArray, List.set_cons_succ, List.set_cons_zero])
            refine wpTwo_takeT (i := 4) (v := .tuple #[.agg #[.slice px u2.length cx, .slice py ms.length cy, .bool f2], .agg #[.int .i64 a2, .int .i64 p2, .int .u64 t2]]) rfl (by kernel_rfl) (by kernel_rfl) (by kernel_rfl) (fun _ _ _ h => h) ⟨by rfl, ?_⟩ hT3 ?_
            · rintro w hTw
              go_simp
            (try simp only [Act.put, List.getElem_toArray, List.getElem_cons_succ, List.getElem_cons_zero, List.setIfInBounds_toArray, List.set_cons_succ, List.set_cons_zero])
            refine wpTwo_takeT (i := 5) (v := .agg #[.slice px u2.length cx, .slice py ms.length cy, .bool f2]) rfl (by kernel_rfl) (by kernel_rfl) (by kernel_rfl) (fun _ _ _ h => h) ⟨by rfl, ?_⟩ hT3 ?_
            · rintro w hTw
              go_simp
            (try simp only [Act.put, List.getElem_toArray, List.getElem_cons_succ, List.getElem_cons_zero, List.setIfInBounds_toArray, List.set_cons_succ, List.set_cons_zero])
            refine wpTwo_takeT (i := 6) (v := .agg #[.int .i64 a2, .int .i64 p2, .int .u64 t2]) rfl (by kernel_rfl) (by kernel_rfl) (by kernel_rfl) (fun _ _ _ h => h) ⟨by rfl, ?_⟩ hT3 ?_
            · rintro w hTw
              go_simp
            (try simp only [Act.put, List.getElem_toArray, List.getElem_cons_succ, List.getElem_cons_zero, List.setIfInBounds_toArray, List.set_cons_succ, List.set_cons_zero])
            refine wpTwo_ready (rs := [7]) (by kernel_rfl) (by simp) ?_
            refine (AllTwo.cons rfl (fun K hK => ?_) AllTwo.nil)
            · go_simp
              obtain ⟨y6, hy⟩ : ∃ q, q = X3.heap.size := ⟨_, rfl⟩
              obtain ⟨X4, hX⟩ : ∃ X : World, X = X3.alloc (.cells #[.slice none 0 0, .slice none 0 0, .bool false] 46) := ⟨_, rfl⟩
              rw [← hX, ← hy]
              have hb : Below X3.heap.size X3 X4 := by rw [hX]; exact below1 _ _
              have hlo7 : w5p.heap.size ≤ y6 := by rw [hy]; exact hz3
              have hT4 := And.intro (hT3.1.below hb) (hT3.2.below hb)
              have hF4 := HST.out.below hF3 hb
              have hz4 := Nat.le_trans hz3 hb.size
              have HR4 := Lib.hid (And.intro (owns_below HR3.out.1 hb) (owns_below HR3.out.2 hb))
              have HG4 := Lib.hid (HG3.out.below hb)
              have HA4 := Lib.hid (show MBox X4 y6 (.slice none 0 0) (.slice none 0 0) false by rw [hX, hy]; exact MBox.new _ _ _ _)
              have hne67 : y6 ≠ y7 := by have h1 := HG3.out.lt; omega
              clear hb hX hy
              refine hK.out _ _ ⟨hT4, fun _ _ => trivial⟩ ?_
              clear hK K
              (try simp only [Act.put, List.getElem_toArray, List.getElem_cons_succ, List.getElem_cons_zero, List.setIfInBounds_toArray, List.set_cons_succ, List.set_cons_zero])
              refine wpTwo_ready (rs := [9]) (by kernel_rfl) (by simp) ?_
              refine (AllTwo.cons rfl (fun K hK => ?_) AllTwo.nil)
              obtain ⟨⟨d0, d1, d2⟩, e0, e1, e2⟩ := mbox_cells HA4.out
              obtain ⟨Xa, hXa⟩ : ∃ X : World, X = ((X4.setCell ⟨y6, 0, none⟩ (.slice px u2.length cx)).setCell ⟨y6, 1, none⟩ (.slice py ms.length cy)).setCell ⟨y6, 2, none⟩ (.bool f2) := ⟨_, rfl⟩
              have hk : Keeps (fun q => q = y6) X4 Xa := by rw [hXa]; exact ((Keeps.setCell X4 (S := fun q => q = y6) (p := ⟨y6, 0, none⟩) rfl _).trans (Keeps.setCell _ (S := fun q => q = y6) (p := ⟨y6, 1, none⟩) rfl _)).trans (Keeps.setCell _ (S := fun q => q = y6) (p := ⟨y6, 2, none⟩) rfl _)
              have hTa := And.intro (hT4.1.keeps hk (fun e => by have e : W.heap.size = y6 := e; have := HWW.out; omega)) (hT4.2.keeps hk (fun e => by have e : zs = y6 := e; omega))
              have hFa := HST.out.at hF4 hk hlo7
              have hza := Nat.le_trans hz4 hk.size
              have HGa := Lib.hid (HG4.out.keeps hk (fun e => hne67 e.symm))
              have HAa := Lib.hid (show MBox Xa y6 (.slice px u2.length cx) (.slice py ms.length cy) f2 by rw [hXa]; exact HA4.out.set _ _ _)
              have HRa := Lib.hid (rows_off HR4.out HA4.out hk)
              go_simp
              rw [← hXa]
              refine hK.out _ _ ⟨hTa, fun _ _ => trivial⟩ ?_
              clear hK K d0 d1 d2 e0 e1 e2 hXa hk
              (try simp only [Act.put, List.getElem_toArray, List.getElem_cons_succ, List.getElem_cons_zero, List.setIfInBounds_toArray, List.set_cons_succ, List.set_cons_zero])
              refine wpTwo_ready (rs := [10]) (by kernel_rfl) (by simp) ?_
              refine (AllTwo.cons rfl (fun K hK => ?_) AllTwo.nil)
              obtain ⟨d0, d1, d2⟩ := HGa.out.cells
              have e0 := HGa.out.free 0
              have e1 := HGa.out.free 1
              have e2 := HGa.out.free 2
              obtain ⟨Xb, hXb⟩ : ∃ X : World, X = ((Xa.setCell ⟨y7, 0, none⟩ (.int .i64 a2)).setCell ⟨y7, 1, none⟩ (.int .i64 p2)).setCell ⟨y7, 2, none⟩ (.int .u64 t2) := ⟨_, rfl⟩
              have hk : Keeps (fun q => q = y7) Xa Xb := by rw [hXb]; exact ((Keeps.setCell Xa (S := fun q => q = y7) (p := ⟨y7, 0, none⟩) rfl _).trans (Keeps.setCell _ (S := fun q => q = y7) (p := ⟨y7, 1, none⟩) rfl _)).trans (Keeps.setCell _ (S := fun q => q = y7) (p := ⟨y7, 2, none⟩) rfl _)
              have hTb := And.intro (hTa.1.keeps hk (fun e => by have e : W.heap.size = y7 := e; have := HWW.out; omega)) (hTa.2.keeps hk (fun e => by have e : zs = y7 := e; omega))
              have hFb := HST.out.at hFa hk hlo8
              have hzb := Nat.le_trans hza hk.size
              have HAb := Lib.hid (HAa.out.keeps hk (fun e => hne67 e))
              have HGb := Lib.hid (show SpBox Xb y7 a2 p2 t2 by
                unfold SpBox
                rw [hXb, heap_setCell_same _ y7 2 _ _ _ (heap_setCell_same _ y7 1 _ _ _ (heap_setCell_same Xa y7 0 _ _ _ HGa.out))]; rfl)
              have HRb := Lib.hid (rows_offS HRa.out HGa.out hk)
              go_simp
              rw [← hXb]
              refine hK.out _ _ ⟨hTb, fun _ _ => trivial⟩ ?_
              clear hK K d0 d1 d2 e0 e1 e2 hXb hk
              (try simp only [Act.put, List.getElem_toArray, List.getElem_cons_succ, List.getElem_cons_zero, List.setIfInBounds_toArray, List.set_cons_succ, List.set_cons_zero])
              refine wpTwo_end (by kernel_rfl) ?_ _
              go_wp2
              go_meet
              exact ⟨y6, y7, px, cx, py, cy, rfl, rfl, Lib.hid ⟨hFb, HAb.out, HGb.out, HRb.out.1, HRb.out.2, hzb⟩⟩
          · go_simp
            obtain ⟨y6, hy⟩ : ∃ q, q = X2.heap.size := ⟨_, rfl⟩
            obtain ⟨X3, hX⟩ : ∃ X : World, X = X2.alloc (.cells #[.slice none 0 0, .slice none 0 0, .bool false] 46) := ⟨_, rfl⟩
            rw [← hX, ← hy]
            have hb : Below X2.heap.size X2 X3 := by rw [hX]; exact below1 _ _
            have hlo7 : w5p.heap.size ≤ y6 := by rw [hy]; exact hz2
            have hT3 := And.intro (hT2.1.below hb) (hT2.2.below hb)
            have hF3 := HST.out.below hF2 hb
            have hz3 := Nat.le_trans hz2 hb.size
            have HR3 := Lib.hid (And.intro (owns_below HR2.out.1 hb) (owns_below HR2.out.2 hb))
            have HG3 := Lib.hid (HG2.out.below hb)
            have HA3 := Lib.hid (show MBox X3 y6 (.slice none 0 0) (.slice none 0 0) false by rw [hX, hy]; exact MBox.new _ _ _ _)
            have hne67 : y6 ≠ y7 := by have h1 := HG2.out.lt; omega
            clear hb hX hy
            refine hK.out _ _ ⟨hT3, fun _ _ => trivial⟩ ?_
            clear hK K
            (try simp only [Act.put, List.getElem_toArray, List.getElem_cons_succ, List.getElem_cons_zero, List.setIfInBounds_toArray, List.set_cons_succ, List.set_cons_zero])
            refine wpTwo_ready (rs := [3]) (by kernel_rfl) (by simp) ?_
            refine (AllTwo.cons rfl (fun K hK => ?_) AllTwo.nil)
            · go_simp
              refine (rstep_c _ _ us ms f a p t w5p.heap.size X3 HR3.out.1 HR3.out.2 hz3 hr HPP.out).mono ?_
              rintro e X4 ⟨⟨vx, vy, rfl, h0, h1⟩, hb⟩
              obtain ⟨px, cx, rfl⟩ := owns_slice h0
              obtain ⟨py, cy, rfl⟩ := owns_slice h1
              have hT4 := And.intro (hT3.1.below hb) (hT3.2.below hb)
              have hF4 := HST.out.below hF3 hb
              have hz4 := Nat.le_trans hz3 hb.size
              have HA4 := Lib.hid (HA3.out.below hb)
              have HG4 := Lib.hid (HG3.out.below hb)
              have HR4 := Lib.hid (And.intro h0 h1)
              clear hb h0 h1
              go_wp2_with fail
              refine hK.out _ _ ⟨hT4, fun _ _ => trivial⟩ ?_
              clear hK K
              (try simp only [Act.put, List.getElem_toArray, List.getElem_cons_succ, List.getElem_cons_zero, List.setIfInBounds_toArray, List.set_cons_succ, List.set_cons_zero])
              refine wpTwo_takeT (i := 4) (v := .tuple #[.agg #[.slice px u2.length cx, .slice py ms.length cy, .bool f2], .agg #[.int .i64 a2, .int .i64 p2, .int .u64 t2]]) rfl (by kernel_rfl) (by kernel_rfl) (by kernel_rfl) (fun _ _ _ h => h) ⟨by rfl, ?_⟩ hT4 ?_
              · rintro w hTw
                go_simp
              (try simp only [Act.put, List.getElem_toArray, List.getElem_cons_succ, List.getElem_cons_zero, List.setIfInBounds_toArray, List.set_cons_succ, List.set_cons_zero])
              refine wpTwo_takeT (i := 5) (v := .agg #[.slice px u2.length cx, .slice py ms.length cy, .bool f2]) rfl (by kernel_rfl) (by kernel_rfl) (by kernel_rfl) (fun _ _ _ h => h) ⟨by rfl, ?_⟩ hT4 ?_
              · rintro w hTw
                go_simp
              (try simp only [Act.put, List.getElem_toArray, List.getElem_cons_succ, List.getElem_cons_zero, List.setIfInBounds_toArray, List.set_cons_succ, List.set_cons_zero])
              refine wpTwo_takeT (i := 6) (v := .agg #[.int .i64 a2, .int .i64 p2, .int .u64 t2]) rfl (by kernel_rfl) (by kernel_rfl) (by kernel_rfl) (fun _ _ _ h => h) ⟨by rfl, ?_⟩ hT4 ?_
              · rintro w hTw
                go_simp
              (try simp only [Act.put, List.getElem_toArray, List.getElem_cons_succ, List.getElem_cons_zero, List.setIfInBounds_toArray, List.set_cons_succ, List.set_cons_zero])
              refine wpTwo_ready (rs := [9]) (by kernel_rfl) (by simp) ?_
              refine (AllTwo.cons rfl (fun K hK => ?_) AllTwo.nil)
              obtain ⟨⟨d0, d1, d2⟩, e0, e1, e2⟩ := mbox_cells HA4.out
              obtain ⟨Xa, hXa⟩ : ∃ X : World, X = ((X4.setCell ⟨y6, 0, none⟩ (.slice px u2.length cx)).setCell ⟨y6, 1, none⟩ (.slice py ms.length cy)).setCell ⟨y6, 2, none⟩ (.bool f2) := ⟨_, rfl⟩
              have hk : Keeps (fun q => q = y6) X4 Xa := by rw [hXa]; exact ((Keeps.setCell X4 (S := fun q => q = y6) (p := ⟨y6, 0, none⟩) rfl _).trans (Keeps.setCell _ (S := fun q => q = y6) (p := ⟨y6, 1, none⟩) rfl _)).trans (Keeps.setCell _ (S := fun q => q = y6) (p := ⟨y6, 2, none⟩) rfl _)
              have hTa := And.intro (hT4.1.keeps hk (fun e => by have e : W.heap.size = y6 := e; have := HWW.out; omega)) (hT4.2.keeps hk (fun e => by have e : zs = y6 := e; omega))
              have hFa := HST.out.at hF4 hk hlo7
              have hza := Nat.le_trans hz4 hk.size
              have HGa := Lib.hid (HG4.out.keeps hk (fun e => hne67 e.symm))
              have HAa := Lib.hid (show MBox Xa y6 (.slice px u2.length cx) (.slice py ms.length cy) f2 by rw [hXa]; exact HA4.out.set _ _ _)
              have HRa := Lib.hid (rows_off HR4.out HA4.out hk)
              go_simp
              rw [← hXa]
              refine hK.out _ _ ⟨hTa, fun _ _ => trivial⟩ ?_
              clear hK K d0 d1 d2 e0 e1 e2 hXa hk
              (try simp only [Act.put, List.getElem_toArray, List.getElem_cons_succ, List.getElem_cons_zero, List.setIfInBounds_toArray, List.set_cons_succ, List.set_cons_zero])
              refine wpTwo_ready (rs := [10]) (by kernel_rfl) (by simp) ?_
              refine (AllTwo.cons rfl (fun K hK => ?_) AllTwo.nil)
              obtain ⟨d0, d1, d2⟩ := HGa.out.cells
              have e0 := HGa.out.free 0
              have e1 := HGa.out.free 1
              have e2 := HGa.out.free 2
              obtain ⟨Xb, hXb⟩ : ∃ X : World, X = ((Xa.setCell ⟨y7, 0, none⟩ (.int .i64 a2)).setCell ⟨y7, 1, none⟩ (.int .i64 p2)).setCell ⟨y7, 2, none⟩ (.int .u64 t2) := ⟨_, rfl⟩
              have hk : Keeps (fun q => q = y7) Xa Xb := by rw [hXb]; exact ((Keeps.setCell Xa (S := fun q => q = y7) (p := ⟨y7, 0, none⟩) rfl _).trans (Keeps.setCell _ (S := fun q => q = y7) (p := ⟨y7, 1, none⟩) rfl _)).trans (Keeps.setCell _ (S := fun q => q = y7) (p := ⟨y7, 2, none⟩) rfl _)
              have hTb := And.intro (hTa.1.keeps hk (fun e => by have e : W.heap.size = y7 := e; have := HWW.out; omega)) (hTa.2.keeps hk (fun e => by have e : zs = y7 := e; omega))
              have hFb := HST.out.at hFa hk hlo8
              have hzb := Nat.le_trans hza hk.size
              have HAb := Lib.hid (HAa.out.keeps hk (fun e => hne67 e))
              have HGb := Lib.hid (show SpBox Xb y7 a2 p2 t2 by
                unfold SpBox
                rw [hXb, heap_setCell_same _ y7 2 _ _ _ (heap_setCell_same _ y7 1 _ _ _ (heap_setCell_same Xa y7 0 _ _ _ HGa.out))]; rfl)
              have HRb := Lib.hid (rows_offS HRa.out HGa.out hk)
              go_simp
              rw [← hXb]
              refine hK.out _ _ ⟨hTb, fun _ _ => trivial⟩ ?_
              clear hK K d0 d1 d2 e0 e1 e2 hXb hk
              (try simp only [Act.put, List.getElem_toArray, List.getElem_cons_succ, List.getElem_cons_zero, List.setIfInBounds_toArray, List.set_cons_succ, List.set_cons_zero])
              refine wpTwo_end (by kernel_rfl) ?_ _
              go_wp2
              go_meet
              exact ⟨y6, y7, px, cx, py, cy, rfl, rfl, Lib.hid ⟨hFb, HAb.out, HGb.out, HRb.out.1, HRb.out.2, hzb⟩⟩
      · go_simp
        obtain ⟨y6, hy⟩ : ∃ q, q = X0.heap.size := ⟨_, rfl⟩
        obtain ⟨X1, hX⟩ : ∃ X : World, X = X0.alloc (.cells #[.slice none 0 0, .slice none 0 0, .bool false] 46) := ⟨_, rfl⟩
        rw [← hX, ← hy]
        have hb : Below X0.heap.size X0 X1 := by rw [hX]; exact below1 _ _
        have hlo7 : w5p.heap.size ≤ y6 := by rw [hy]; exact hz0
        have hT1 := And.intro (hT0.1.below hb) (hT0.2.below hb)
        have hF1 := HST.out.below hF0 hb
        have hz1 := Nat.le_trans hz0 hb.size
        have HA1 := Lib.hid (show MBox X1 y6 (.slice none 0 0) (.slice none 0 0) false by rw [hX, hy]; exact MBox.new _ _ _ _)
        clear hb hX hy
        refine hK.out _ _ ⟨hT1, fun _ _ => trivial⟩ ?_
        clear hK K
        (try simp only [Act.put, List.getElem_toArray, List.getElem_cons_succ, List.getElem_cons_zero, List.setIfInBounds_toArray, List.set_cons_succ, List.set_cons_zero])
        refine wpTwo_ready (rs := [1, 8]) (by kernel_rfl) (by simp) ?_
        refine (AllTwo.cons rfl (fun K hK => ?_) (AllTwo.cons rfl (fun K hK => ?_) AllTwo.nil))
        · go_simp
          have hBk := (HFE.out _ hF1).2.2.2.2.2.2
          refine (own_c _ _ f ws ls _ (H0.out.below hBk) (H1.out.below hBk) HWL.out HLL.out).mono ?_
          rintro e X2 ⟨hg, hb⟩
          rw [← HUS.out, ← HMS.out] at hg
          obtain ⟨_, rfl, vx, vy, rfl, h0, h1⟩ := hg
          obtain ⟨po, co, rfl⟩ := owns_slice h0
          obtain ⟨qo, do', rfl⟩ := owns_slice h1
          have hT2 := And.intro (hT1.1.below hb) (hT1.2.below hb)
          have hF2 := HST.out.below hF1 hb
          have hz2 := Nat.le_trans hz1 hb.size
          have HA2 := Lib.hid (HA1.out.below hb)
          have HR2 := Lib.hid (And.intro (h0.mono hz1) (h1.mono hz1))
          clear hb h0 h1 hBk
          go_wp2_with fail
          refine hK.out _ _ ⟨hT2, fun _ _ => trivial⟩ ?_
          clear hK K
          (try simp only [Act.put, List.getElem_toArray, List.getElem_cons_succ, List.getElem_cons_zero, List.setIfInBounds_toArray, List.set_cons_succ, List.set_cons_zero])
          refine wpTwo_ready (rs := [3, 8]) (by kernel_rfl) (by simp) ?_
          refine (AllTwo.cons rfl (fun K hK => ?_) (AllTwo.cons rfl (fun K hK => ?_) AllTwo.nil))
          · go_simp
            refine (rstep_c _ _ us ms f a p t w5p.heap.size X2 HR2.out.1 HR2.out.2 hz2 hr HPP.out).mono ?_
            rintro e X3 ⟨⟨vx, vy, rfl, h0, h1⟩, hb⟩
            obtain ⟨px, cx, rfl⟩ := owns_slice h0
            obtain ⟨py, cy, rfl⟩ := owns_slice h1
            have hT3 := And.intro (hT2.1.below hb) (hT2.2.below hb)
            have hF3 := HST.out.below hF2 hb
            have hz3 := Nat.le_trans hz2 hb.size
            have HA3 := Lib.hid (HA2.out.below hb)
            have HR3 := Lib.hid (And.intro h0 h1)
            clear hb h0 h1
            go_wp2_with fail
            refine hK.out _ _ ⟨hT3, fun _ _ => trivial⟩ ?_
            clear hK K
            (try simp only [Act.put, List.getElem_toArray, List.getElem_cons_succ, List.getElem_cons_zero, List.setIfInBounds_toArray, List.set_cons_succ, List.set_cons_zero])
            refine wpTwo_takeT (i := 4) (v := .tuple #[.agg #[.slice px u2.length cx, .slice py ms.length cy, .bool f2], .agg #[.int .i64 a2, .int .i64 p2, .int .u64 t2]]) rfl (by kernel_rfl) (by kernel_rfl) (by kernel_rfl) (fun _ _ _ h => h) ⟨by rfl, ?_⟩ hT3 ?_
            · rintro w hTw
              go_simp
            (try simp only [Act.put, List.getElem_toArray, List.getElem_cons_succ, List.getElem_cons_zero, List.setIfInBounds_toArray, List.set_cons_succ, List.set_cons_zero])
            refine wpTwo_takeT (i := 5) (v := .agg #[.slice px u2.length cx, .slice py ms.length cy, .bool f2]) rfl (by kernel_rfl) (by kernel_rfl) (by kernel_rfl) (fun _ _ _ h => h) ⟨by rfl, ?_⟩ hT3 ?_
            · rintro w hTw
              go_simp
            (try simp only [Act.put, List.getElem_toArray, List.getElem_cons_succ, List.getElem_cons_zero, List.setIfInBounds_toArray, List.set_cons_succ, List.set_cons_zero])
            refine wpTwo_takeT (i := 6) (v := .agg #[.int .i64 a2, .int .i64 p2, .int .u64 t2]) rfl (by kernel_rfl) (by kernel_rfl) (by kernel_rfl) (fun _ _ _ h => h) ⟨by rfl, ?_⟩ hT3 ?_
            · rintro w hTw
              go_simp
            (try simp only [Act.put, List.getElem_toArray, List.getElem_cons_succ, List.getElem_cons_zero, List.setIfInBounds_toArray, List.set_cons_succ, List.set_cons_zero])
            refine wpTwo_ready (rs := [8]) (by kernel_rfl) (by simp) ?_
            refine (AllTwo.cons rfl (fun K hK => ?_) AllTwo.nil)
            · go_simp
              obtain ⟨y7, hy⟩ : ∃ q, q = X3.heap.size := ⟨_, rfl⟩
              obtain ⟨X4, hX⟩ : ∃ X : World, X = X3.alloc (.cells #[.int .i64 0, .int .i64 0, .int .u64 0] 24) := ⟨_, rfl⟩
              rw [← hX, ← hy]
              have hb : Below X3.heap.size X3 X4 := by rw [hX]; exact below1 _ _
              have hlo8 : w5p.heap.size ≤ y7 := by rw [hy]; exact hz3
              have hT4 := And.intro (hT3.1.below hb) (hT3.2.below hb)
              have hF4 := HST.out.below hF3 hb
              have hz4 := Nat.le_trans hz3 hb.size
              have HR4 := Lib.hid (And.intro (owns_below HR3.out.1 hb) (owns_below HR3.out.2 hb))
              have HA4 := Lib.hid (HA3.out.below hb)
              have HG4 := Lib.hid (show SpBox X4 y7 0 0 0 by rw [hX, hy]; exact World.alloc_heap_new _ _)
              have hne67 : y6 ≠ y7 := by have h1 := HA3.out.lt; omega
              clear hb hX hy
              refine hK.out _ _ ⟨hT4, fun _ _ => trivial⟩ ?_
              clear hK K
              (try simp only [Act.put, List.getElem_toArray, List.getElem_cons_succ, List.getElem_cons_zero, List.setIfInBounds_toArray, List.set_cons_succ, List.set_cons_zero])
              refine wpTwo_ready (rs := [9]) (by kernel_rfl) (by simp) ?_
              refine (AllTwo.cons rfl (fun K hK => ?_) AllTwo.nil)
              obtain ⟨⟨d0, d1, d2⟩, e0, e1, e2⟩ := mbox_cells HA4.out
              obtain ⟨Xa, hXa⟩ : ∃ X : World, X = ((X4.setCell ⟨y6, 0, none⟩ (.slice px u2.length cx)).setCell ⟨y6, 1, none⟩ (.slice py ms.length cy)).setCell ⟨y6, 2, none⟩ (.bool f2) := ⟨_, rfl⟩
              have hk : Keeps (fun q => q = y6) X4 Xa := by rw [hXa]; exact ((Keeps.setCell X4 (S := fun q => q = y6) (p := ⟨y6, 0, none⟩) rfl _).trans (Keeps.setCell _ (S := fun q => q = y6) (p := ⟨y6, 1, none⟩) rfl _)).trans (Keeps.setCell _ (S := fun q => q = y6) (p := ⟨y6, 2, none⟩) rfl _)
              have hTa := And.intro (hT4.1.keeps hk (fun e => by have e : W.heap.size = y6 := e; have := HWW.out; omega)) (hT4.2.keeps hk (fun e => by have e : zs = y6 := e; omega))
              have hFa := HST.out.at hF4 hk hlo7
              have hza := Nat.le_trans hz4 hk.size
              have HGa := Lib.hid (HG4.out.keeps hk (fun e => hne67 e.symm))
              have HAa := Lib.hid (show MBox Xa y6 (.slice px u2.length cx) (.slice py ms.length cy) f2 by rw [hXa]; exact HA4.out.set _ _ _)
              have HRa := Lib.hid (rows_off HR4.out HA4.out hk)
              go_simp
              rw [← hXa]
              refine hK.out _ _ ⟨hTa, fun _ _ => trivial⟩ ?_
              clear hK K d0 d1 d2 e0 e1 e2 hXa hk
              (try simp only [Act.put, List.getElem_toArray, List.getElem_cons_succ, List.getElem_cons_zero, List.setIfInBounds_toArray, List.set_cons_succ, List.set_cons_zero])
              refine wpTwo_ready (rs := [10]) (by kernel_rfl) (by simp) ?_
              refine (AllTwo.cons rfl (fun K hK => ?_) AllTwo.nil)
              obtain ⟨d0, d1, d2⟩ := HGa.out.cells
              have e0 := HGa.out.free 0
              have e1 := HGa.out.free 1
              have e2 := HGa.out.free 2
              obtain ⟨Xb, hXb⟩ : ∃ X : World, X = ((Xa.setCell ⟨y7, 0, none⟩ (.int .i64 a2)).setCell ⟨y7, 1, none⟩ (.int .i64 p2)).setCell ⟨y7, 2, none⟩ (.int .u64 t2) := ⟨_, rfl⟩
              have hk : Keeps (fun q => q = y7) Xa Xb := by rw [hXb]; exact ((Keeps.setCell Xa (S := fun q => q = y7) (p := ⟨y7, 0, none⟩) rfl _).trans (Keeps.setCell _ (S := fun q => q = y7) (p := ⟨y7, 1, none⟩) rfl _)).trans (Keeps.setCell _ (S := fun q => q = y7) (p := ⟨y7, 2, none⟩) rfl _)
              have hTb := And.intro (hTa.1.keeps hk (fun e => by have e : W.heap.size = y7 := e; have := HWW.out; omega)) (hTa.2.keeps hk (fun e => by have e : zs = y7 := e; omega))
              have hFb := HST.out.at hFa hk hlo8
              have hzb := Nat.le_trans hza hk.size
              have HAb := Lib.hid (HAa.out.keeps hk (fun e => hne67 e))
              have HGb := Lib.hid (show SpBox Xb y7 a2 p2 t2 by
                unfold SpBox
                rw [hXb, heap_setCell_same _ y7 2 _ _ _ (heap_setCell_same _ y7 1 _ _ _ (heap_setCell_same Xa y7 0 _ _ _ HGa.out))]; rfl)
              have HRb := Lib.hid (rows_offS HRa.out HGa.out hk)
              go_simp
              rw [← hXb]
              refine hK.out _ _ ⟨hTb, fun _ _ => trivial⟩ ?_
              clear hK K d0 d1 d2 e0 e1 e2 hXb hk
              (try simp only [Act.put, List.getElem_toArray, List.getElem_cons_succ, List.getElem_cons_zero, List.setIfInBounds_toArray, List.set_cons_succ, List.set_cons_zero])
              refine wpTwo_end (by kernel_rfl) ?_ _
              go_wp2
              go_meet
              exact ⟨y6, y7, px, cx, py, cy, rfl, rfl, Lib.hid ⟨hFb, HAb.out, HGb.out, HRb.out.1, HRb.out.2, hzb⟩⟩
          · go_simp
            obtain ⟨y7, hy⟩ : ∃ q, q = X2.heap.size := ⟨_, rfl⟩
            obtain ⟨X3, hX⟩ : ∃ X : World, X = X2.alloc (.cells #[.int .i64 0, .int .i64 0, .int .u64 0] 24) := ⟨_, rfl⟩
            rw [← hX, ← hy]
            have hb : Below X2.heap.size X2 X3 := by rw [hX]; exact below1 _ _
            have hlo8 : w5p.heap.size ≤ y7 := by rw [hy]; exact hz2
            have hT3 := And.intro (hT2.1.below hb) (hT2.2.below hb)
            have hF3 := HST.out.below hF2 hb
            have hz3 := Nat.le_trans hz2 hb.size
            have HR3 := Lib.hid (And.intro (owns_below HR2.out.1 hb) (owns_below HR2.out.2 hb))
            have HA3 := Lib.hid (HA2.out.below hb)
            have HG3 := Lib.hid (show SpBox X3 y7 0 0 0 by rw [hX, hy]; exact World.alloc_heap_new _ _)
            have hne67 : y6 ≠ y7 := by have h1 := HA2.out.lt; omega
            clear hb hX hy
            refine hK.out _ _ ⟨hT3, fun _ _ => trivial⟩ ?_
            clear hK K
            (try simp only [Act.put, List.getElem_toArray, List.getElem_cons_succ, List.getElem_cons_zero, List.setIfInBounds_toArray, List.set_cons_succ, List.set_cons_zero])
            refine wpTwo_ready (rs := [3]) (by kernel_rfl) (by simp) ?_
            refine (AllTwo.cons rfl (fun K hK => ?_) AllTwo.nil)
            · go_simp
              refine (rstep_c _ _ us ms f a p t w5p.heap.size X3 HR3.out.1 HR3.out.2 hz3 hr HPP.out).mono ?_
              rintro e X4 ⟨⟨vx, vy, rfl, h0, h1⟩, hb⟩
              obtain ⟨px, cx, rfl⟩ := owns_slice h0
              obtain ⟨py, cy, rfl⟩ := owns_slice h1
              have hT4 := And.intro (hT3.1.below hb) (hT3.2.below hb)
              have hF4 := HST.out.below hF3 hb
              have hz4 := Nat.le_trans hz3 hb.size
              have HA4 := Lib.hid (HA3.out.below hb)
              have HG4 := Lib.hid (HG3.out.below hb)
              have HR4 := Lib.hid (And.intro h0 h1)
              clear hb h0 h1
              go_wp2_with fail
              refine hK.out _ _ ⟨hT4, fun _ _ => trivial⟩ ?_
              clear hK K
              (try simp only [Act.put, List.getElem_toArray, List.getElem_cons_succ, List.getElem_cons_zero, List.setIfInBounds_toArray, List.set_cons_succ, List.set_cons_zero])
              refine wpTwo_takeT (i := 4) (v := .tuple #[.agg #[.slice px u2.length cx, .slice py ms.length cy, .bool f2], .agg #[.int .i64 a2, .int .i64 p2, .int .u64 t2]]) rfl (by kernel_rfl) (by kernel_rfl) (by kernel_rfl) (fun _ _ _ h => h) ⟨by rfl, ?_⟩ hT4 ?_
              · rintro w hTw
                go_simp
              (try simp only [Act.put, List.getElem_toArray, List.getElem_cons_succ, List.getElem_cons_zero, List.setIfInBounds_toArray, List.set_cons_succ, List.set_cons_zero])
              refine wpTwo_takeT (i := 5) (v := .agg #[.slice px u2.length cx, .slice py ms.length cy, .bool f2]) rfl (by kernel_rfl) (by kernel_rfl) (by kernel_rfl) (fun _ _ _ h => h) ⟨by rfl, ?_⟩ hT4 ?_
              · rintro w hTw
                go_simp
              (try simp only [Act.put, List.getElem_toArray, List.getElem_cons_succ, List.getElem_cons_zero, List.setIfInBounds_toArray, List.set_cons_succ, List.set_cons_zero])
              refine wpTwo_takeT (i := 6) (v := .agg #[.int .i64 a2, .int .i64 p2, .int .u64 t2]) rfl (by kernel_rfl) (by kernel_rfl) (by kernel_rfl) (fun _ _ _ h => h) ⟨by rfl, ?_⟩ hT4 ?_
              · rintro w hTw
                go_simp
              (try simp only [Act.put, List.getElem_toArray, List.getElem_cons_succ, List.getElem_cons_zero, List.setIfInBounds_toArray, List.set_cons_succ, List.set_cons_zero])
              refine wpTwo_ready (rs := [9]) (by kernel_rfl) (by simp) ?_
              refine (AllTwo.cons rfl (fun K hK => ?_) AllTwo.nil)
              obtain ⟨⟨d0, d1, d2⟩, e0, e1, e2⟩ := mbox_cells HA4.out
              obtain ⟨Xa, hXa⟩ : ∃ X : World, X = ((X4.setCell ⟨y6, 0, none⟩ (.slice px u2.length cx)).setCell ⟨y6, 1, none⟩ (.slice py ms.length cy)).setCell ⟨y6, 2, none⟩ (.bool f2) := ⟨_, rfl⟩
              have hk : Keeps (fun q => q = y6) X4 Xa := by rw [hXa]; exact ((Keeps.setCell X4 (S := fun q => q = y6) (p := ⟨y6, 0, none⟩) rfl _).trans (Keeps.setCell _ (S := fun q => q = y6) (p := ⟨y6, 1, none⟩) rfl _)).trans (Keeps.setCell _ (S := fun q => q = y6) (p := ⟨y6, 2, none⟩) rfl _)
              have hTa := And.intro (hT4.1.keeps hk (fun e => by have e : W.heap.size = y6 := e; have := HWW.out; omega)) (hT4.2.keeps hk (fun e => by have e : zs = y6 := e; omega))
              have hFa := HST.out.at hF4 hk hlo7
              have hza := Nat.le_trans hz4 hk.size
              have HGa := Lib.hid (HG4.out.keeps hk (fun e => hne67 e.symm))
              have HAa := Lib.hid (show MBox Xa y6 (.slice px u2.length cx) (.slice py ms.length cy) f2 by rw [hXa]; exact HA4.out.set _ _ _)
              have HRa := Lib.hid (rows_off HR4.out HA4.out hk)
              go_simp
              rw [← hXa]
              refine hK.out _ _ ⟨hTa, fun _ _ => trivial⟩ ?_
              clear hK K d0 d1 d2 e0 e1 e2 hXa hk
              (try simp only [Act.put, List.getElem_toArray, List.getElem_cons_succ, List.getElem_cons_zero, List.setIfInBounds_toArray, List.set_cons_succ, List.set_cons_zero])
              refine wpTwo_ready (rs := [10]) (by kernel_rfl) (by simp) ?_
              refine (AllTwo.cons rfl (fun K hK => ?_) AllTwo.nil)
              obtain ⟨d0, d1, d2⟩ := HGa.out.cells
              have e0 := HGa.out.free 0
              have e1 := HGa.out.free 1
              have e2 := HGa.out.free 2
              obtain ⟨Xb, hXb⟩ : ∃ X : World, X = ((Xa.setCell ⟨y7, 0, none⟩ (.int .i64 a2)).setCell ⟨y7, 1, none⟩ (.int .i64 p2)).setCell ⟨y7, 2, none⟩ (.int .u64 t2) := ⟨_, rfl⟩
              have hk : Keeps (fun q => q = y7) Xa Xb := by rw [hXb]; exact ((Keeps.setCell Xa (S := fun q => q = y7) (p := ⟨y7, 0, none⟩) rfl _).trans (Keeps.setCell _ (S := fun q => q = y7) (p := ⟨y7, 1, none⟩) rfl _)).trans (Keeps.setCell _ (S := fun q => q = y7) (p := ⟨y7, 2, none⟩) rfl _)
              have hTb := And.intro (hTa.1.keeps hk (fun e => by have e : W.heap.size = y7 := e; have := HWW.out; omega)) (hTa.2.keeps hk (fun e => by have e : zs = y7 := e; omega))
              have hFb := HST.out.at hFa hk hlo8
              have hzb := Nat.le_trans hza hk.size
              have HAb := Lib.hid (HAa.out.keeps hk (fun e => hne67 e))
              have HGb := Lib.hid (show SpBox Xb y7 a2 p2 t2 by
                unfold SpBox
                rw [hXb, heap_setCell_same _ y7 2 _ _ _ (heap_setCell_same _ y7 1 _ _ _ (heap_setCell_same Xa y7 0 _ _ _ HGa.out))]; rfl)
              have HRb := Lib.hid (rows_offS HRa.out HGa.out hk)
              go_simp
              rw [← hXb]
              refine hK.out _ _ ⟨hTb, fun _ _ => trivial⟩ ?_
              clear hK K d0 d1 d2 e0 e1 e2 hXb hk
              (try simp only [Act.put, List.getElem_toArray, List.getElem_cons_succ, List.getElem_cons_zero, List.setIfInBounds_toArray, List.set_cons_succ, List.set_cons_zero])
              refine wpTwo_end (by kernel_rfl) ?_ _
              go_wp2
              go_meet
              exact ⟨y6, y7, px, cx, py, cy, rfl, rfl, Lib.hid ⟨hFb, HAb.out, HGb.out, HRb.out.1, HRb.out.2, hzb⟩⟩
        · go_simp
          obtain ⟨y7, hy⟩ : ∃ q, q = X1.heap.size := ⟨_, rfl⟩
          obtain ⟨X2, hX⟩ : ∃ X : World, X = X1.alloc (.cells #[.int .i64 0, .int .i64 0, .int .u64 0] 24) := ⟨_, rfl⟩
          rw [← hX, ← hy]
          have hb : Below X1.heap.size X1 X2 := by rw [hX]; exact below1 _ _
          have hlo8 : w5p.heap.size ≤ y7 := by rw [hy]; exact hz1
          have hT2 := And.intro (hT1.1.below hb) (hT1.2.below hb)
          have hF2 := HST.out.below hF1 hb
          have hz2 := Nat.le_trans hz1 hb.size
          have HA2 := Lib.hid (HA1.out.below hb)
          have HG2 := Lib.hid (show SpBox X2 y7 0 0 0 by rw [hX, hy]; exact World.alloc_heap_new _ _)
          have hne67 : y6 ≠ y7 := by have h1 := HA1.out.lt; omega
          clear hb hX hy
          refine hK.out _ _ ⟨hT2, fun _ _ => trivial⟩ ?_
          clear hK K
          (try simp only [Act.put, List.getElem_toArray, List.getElem_cons_succ, List.getElem_cons_zero, List.setIfInBounds_toArray, List.set_cons_succ, List.set_cons_zero])
          refine wpTwo_ready (rs := [1]) (by kernel_rfl) (by simp) ?_
          refine (AllTwo.cons rfl (fun K hK => ?_) AllTwo.nil)
          · go_simp
            have hBk := (HFE.out _ hF2).2.2.2.2.2.2
            refine (own_c _ _ f ws ls _ (H0.out.below hBk) (H1.out.below hBk) HWL.out HLL.out).mono ?_
            rintro e X3 ⟨hg, hb⟩
            rw [← HUS.out, ← HMS.out] at hg
            obtain ⟨_, rfl, vx, vy, rfl, h0, h1⟩ := hg
            obtain ⟨po, co, rfl⟩ := owns_slice h0
            obtain ⟨qo, do', rfl⟩ := owns_slice h1
            have hT3 := And.intro (hT2.1.below hb) (hT2.2.below hb)
            have hF3 := HST.out.below hF2 hb
            have hz3 := Nat.le_trans hz2 hb.size
            have HA3 := Lib.hid (HA2.out.below hb)
            have HG3 := Lib.hid (HG2.out.below hb)
            have HR3 := Lib.hid (And.intro (h0.mono hz2) (h1.mono hz2))
            clear hb h0 h1 hBk
            go_wp2_with fail
            refine hK.out _ _ ⟨hT3, fun _ _ => trivial⟩ ?_
            clear hK K
            (try simp only [Act.put, List.getElem_toArray, List.getElem_cons_succ, List.getElem_cons_zero, List.setIfInBounds_toArray, List.set_cons_succ, List.set_cons_zero])
            refine wpTwo_ready (rs := [3]) (by kernel_rfl) (by simp) ?_
            refine (AllTwo.cons rfl (fun K hK => ?_) AllTwo.nil)
            · go_simp
              refine (rstep_c _ _ us ms f a p t w5p.heap.size X3 HR3.out.1 HR3.out.2 hz3 hr HPP.out).mono ?_
              rintro e X4 ⟨⟨vx, vy, rfl, h0, h1⟩, hb⟩
              obtain ⟨px, cx, rfl⟩ := owns_slice h0
              obtain ⟨py, cy, rfl⟩ := owns_slice h1
              have hT4 := And.intro (hT3.1.below hb) (hT3.2.below hb)
              have hF4 := HST.out.below hF3 hb
              have hz4 := Nat.le_trans hz3 hb.size
              have HA4 := Lib.hid (HA3.out.below hb)
              have HG4 := Lib.hid (HG3.out.below hb)
              have HR4 := Lib.hid (And.intro h0 h1)
              clear hb h0 h1
              go_wp2_with fail
              refine hK.out _ _ ⟨hT4, fun _ _ => trivial⟩ ?_
              clear hK K
              (try simp only [Act.put, List.getElem_toArray, List.getElem_cons_succ, List.getElem_cons_zero, List.setIfInBounds_toArray, List.set_cons_succ, List.set_cons_zero])
              refine wpTwo_takeT (i := 4) (v := .tuple #[.agg #[.slice px u2.length cx, .slice py ms.length cy, .bool f2], .agg #[.int .i64 a2, .int .i64 p2, .int .u64 t2]]) rfl (by kernel_rfl) (by kernel_rfl) (by kernel_rfl) (fun _ _ _ h => h) ⟨by rfl, ?_⟩ hT4 ?_
              · rintro w hTw
                go_simp
              (try simp only [Act.put, List.getElem_toArray, List.getElem_cons_succ, List.getElem_cons_zero, List.setIfInBounds_toArray, List.set_cons_succ, List.set_cons_zero])
              refine wpTwo_takeT (i := 5) (v := .agg #[.slice px u2.length cx, .slice py ms.length cy, .bool f2]) rfl (by kernel_rfl) (by kernel_rfl) (by kernel_rfl) (fun _ _ _ h => h) ⟨by rfl, ?_⟩ hT4 ?_
              · rintro w hTw
                go_simp
              (try simp only [Act.put, List.getElem_toArray, List.getElem_cons_succ, List.getElem_cons_zero, List.setIfInBounds_toArray, List.set_cons_succ, List.set_cons_zero])
              refine wpTwo_takeT (i := 6) (v := .agg #[.int .i64 a2, .int .i64 p2, .int .u64 t2]) rfl (by kernel_rfl) (by kernel_rfl) (by kernel_rfl) (fun _ _ _ h => h) ⟨by rfl, ?_⟩ hT4 ?_
              · rintro w hTw
                go_simp
              (try simp only [Act.put, List.getElem_toArray, List.getElem_cons_succ, List.getElem_cons_zero, List.setIfInBounds_toArray, List.set_cons_succ, List.set_cons_zero])
              refine wpTwo_ready (rs := [9]) (by kernel_rfl) (by simp) ?_
              refine (AllTwo.cons rfl (fun K hK => ?_) AllTwo.nil)
              obtain ⟨⟨d0, d1, d2⟩, e0, e1, e2⟩ := mbox_cells HA4.out
              obtain ⟨Xa, hXa⟩ : ∃ X : World, X = ((X4.setCell ⟨y6, 0, none⟩ (.slice px u2.length cx)).setCell ⟨y6, 1, none⟩ (.slice py ms.length cy)).setCell ⟨y6, 2, none⟩ (.bool f2) := ⟨_, rfl⟩
              have hk : Keeps (fun q => q = y6) X4 Xa := by rw [hXa]; exact ((Keeps.setCell X4 (S := fun q => q = y6) (p := ⟨y6, 0, none⟩) rfl _).trans (Keeps.setCell _ (S := fun q => q = y6) (p := ⟨y6, 1, none⟩) rfl _)).trans (Keeps.setCell _ (S := fun q => q = y6) (p := ⟨y6, 2, none⟩) rfl _)
              have hTa := And.intro (hT4.1.keeps hk (fun e => by have e : W.heap.size = y6 := e; have := HWW.out; omega)) (hT4.2.keeps hk (fun e => by have e : zs = y6 := e; omega))
              have hFa := HST.out.at hF4 hk hlo7
              have hza := Nat.le_trans hz4 hk.size
              have HGa := Lib.hid (HG4.out.keeps hk (fun e => hne67 e.symm))
              have HAa := Lib.hid (show MBox Xa y6 (.slice px u2.length cx) (.slice py ms.length cy) f2 by rw [hXa]; exact HA4.out.set _ _ _)
              have HRa := Lib.hid (rows_off HR4.out HA4.out hk)
              go_simp
              rw [← hXa]
              refine hK.out _ _ ⟨hTa, fun _ _ => trivial⟩ ?_
              clear hK K d0 d1 d2 e0 e1 e2 hXa hk
              (try simp only [Act.put, List.getElem_toArray, List.getElem_cons_succ, List.getElem_cons_zero, List.setIfInBounds_toArray, List.set_cons_succ, List.set_cons_zero])
              refine wpTwo_ready (rs := [10]) (by kernel_rfl) (by simp) ?_
              refine (AllTwo.cons rfl (fun K hK => ?_) AllTwo.nil)
              obtain ⟨d0, d1, d2⟩ := HGa.out.cells
              have e0 := HGa.out.free 0
              have e1 := HGa.out.free 1
              have e2 := HGa.out.free 2
              obtain ⟨Xb, hXb⟩ : ∃ X : World, X = ((Xa.setCell ⟨y7, 0, none⟩ (.int .i64 a2)).setCell ⟨y7, 1, none⟩ (.int .i64 p2)).setCell ⟨y7, 2, none⟩ (.int .u64 t2) := ⟨_, rfl⟩
              have hk : Keeps (fun q => q = y7) Xa Xb := by rw [hXb]; exact ((Keeps.setCell Xa (S := fun q => q = y7) (p := ⟨y7, 0, none⟩) rfl _).trans (Keeps.setCell _ (S := fun q => q = y7) (p := ⟨y7, 1, none⟩) rfl _)).trans (Keeps.setCell _ (S := fun q => q = y7) (p := ⟨y7, 2, none⟩) rfl _)
              have hTb := And.intro (hTa.1.keeps hk (fun e => by have e : W.heap.size = y7 := e; have := HWW.out; omega)) (hTa.2.keeps hk (fun e => by have e : zs = y7 := e; omega))
              have hFb := HST.out.at hFa hk hlo8
              have hzb := Nat.le_trans hza hk.size
              have HAb := Lib.hid (HAa.out.keeps hk (fun e => hne67 e))
              have HGb := Lib.hid (show SpBox Xb y7 a2 p2 t2 by
                unfold SpBox
                rw [hXb, heap_setCell_same _ y7 2 _ _ _ (heap_setCell_same _ y7 1 _ _ _ (heap_setCell_same Xa y7 0 _ _ _ HGa.out))]; rfl)
              have HRb := Lib.hid (rows_offS HRa.out HGa.out hk)
              go_simp
              rw [← hXb]
              refine hK.out _ _ ⟨hTb, fun _ _ => trivial⟩ ?_
              clear hK K d0 d1 d2 e0 e1 e2 hXb hk
              (try simp only [Act.put, List.getElem_toArray, List.getElem_cons_succ, List.getElem_cons_zero, List.setIfInBounds_toArray, List.set_cons_succ, List.set_cons_zero])
              refine wpTwo_end (by kernel_rfl) ?_ _
              go_wp2
              go_meet
              exact ⟨y6, y7, px, cx, py, cy, rfl, rfl, Lib.hid ⟨hFb, HAb.out, HGb.out, HRb.out.1, HRb.out.2, hzb⟩⟩
      · go_simp
        obtain ⟨y7, hy⟩ : ∃ q, q = X0.heap.size := ⟨_, rfl⟩
        obtain ⟨X1, hX⟩ : ∃ X : World, X = X0.alloc (.cells #[.int .i64 0, .int .i64 0, .int .u64 0] 24) := ⟨_, rfl⟩
        rw [← hX, ← hy]
        have hb : Below X0.heap.size X0 X1 := by rw [hX]; exact below1 _ _
        have hlo8 : w5p.heap.size ≤ y7 := by rw [hy]; exact hz0
        have hT1 := And.intro (hT0.1.below hb) (hT0.2.below hb)
        have hF1 := HST.out.below hF0 hb
        have hz1 := Nat.le_trans hz0 hb.size
        have HG1 := Lib.hid (show SpBox X1 y7 0 0 0 by rw [hX, hy]; exact World.alloc_heap_new _ _)
        clear hb hX hy
        refine hK.out _ _ ⟨hT1, fun _ _ => trivial⟩ ?_
        clear hK K
        (try simp only [Act.put, List.getElem_toArray, List.getElem_cons_succ, List.getElem_cons_zero, List.setIfInBounds_toArray, List.set_cons_succ, List.set_cons_zero])
        refine wpTwo_ready (rs := [1, 7]) (by kernel_rfl) (by simp) ?_
        refine (AllTwo.cons rfl (fun K hK => ?_) (AllTwo.cons rfl (fun K hK => ?_) AllTwo.nil))
        · go_simp
          have hBk := (HFE.out _ hF1).2.2.2.2.2.2
          refine (own_c _ _ f ws ls _ (H0.out.below hBk) (H1.out.below hBk) HWL.out HLL.out).mono ?_
          rintro e X2 ⟨hg, hb⟩
          rw [← HUS.out, ← HMS.out] at hg
          obtain ⟨_, rfl, vx, vy, rfl, h0, h1⟩ := hg
          obtain ⟨po, co, rfl⟩ := owns_slice h0
          obtain ⟨qo, do', rfl⟩ := owns_slice h1
          have hT2 := And.intro (hT1.1.below hb) (hT1.2.below hb)
          have hF2 := HST.out.below hF1 hb
          have hz2 := Nat.le_trans hz1 hb.size
          have HG2 := Lib.hid (HG1.out.below hb)
          have HR2 := Lib.hid (And.intro (h0.mono hz1) (h1.mono hz1))
          clear hb h0 h1 hBk
          go_wp2_with fail
          refine hK.out _ _ ⟨hT2, fun _ _ => trivial⟩ ?_
          clear hK K
          (try simp only [Act.put, List.getElem_toArray, List.getElem_cons_succ, List.getElem_cons_zero, List.setIfInBounds_toArray, List.set_cons_succ, List.set_cons_zero])
          refine wpTwo_ready (rs := [3, 7]) (by kernel_rfl) (by simp) ?_
          refine (AllTwo.cons rfl (fun K hK => ?_) (AllTwo.cons rfl (fun K hK => ?_) AllTwo.nil))
          · go_simp
            refine (rstep_c _ _ us ms f a p t w5p.heap.size X2 HR2.out.1 HR2.out.2 hz2 hr HPP.out).mono ?_
            rintro e X3 ⟨⟨vx, vy, rfl, h0, h1⟩, hb⟩
            obtain ⟨px, cx, rfl⟩ := owns_slice h0
            obtain ⟨py, cy, rfl⟩ := owns_slice h1
            have hT3 := And.intro (hT2.1.below hb) (hT2.2.below hb)
            have hF3 := HST.out.below hF2 hb
            have hz3 := Nat.le_trans hz2 hb.size
            have HG3 := Lib.hid (HG2.out.below hb)
            have HR3 := Lib.hid (And.intro h0 h1)
            clear hb h0 h1
            go_wp2_with fail
            refine hK.out _ _ ⟨hT3, fun _ _ => trivial⟩ ?_
            clear hK K
            (try simp only [Act.put, List.getElem_toArray, List.getElem_cons_succ, List.getElem_cons_zero, List.setIfInBounds_toArray, List.set_cons_succ, List.set_cons_zero])
            refine wpTwo_takeT (i := 4) (v := .tuple #[.agg #[.slice px u2.length cx, .slice py ms.length cy, .bool f2], .agg #[.int .i64 a2, .int .i64 p2, .int .u64 t2]]) rfl (by kernel_rfl) (by kernel_rfl) (by kernel_rfl) (fun _ _ _ h => h) ⟨by rfl, ?_⟩ hT3 ?_
            · rintro w hTw
              go_simp
            (try simp only [Act.put, List.getElem_toArray, List.getElem_cons_succ, List.getElem_cons_zero, List.setIfInBounds_toArray, List.set_cons_succ, List.set_cons_zero])
            refine wpTwo_takeT (i := 5) (v := .agg #[.slice px u2.length cx, .slice py ms.length cy, .bool f2]) rfl (by kernel_rfl) (by kernel_rfl) (by kernel_rfl) (fun _ _ _ h => h) ⟨by rfl, ?_⟩ hT3 ?_
            · rintro w hTw
              go_simp
            (try simp only [Act.put, List.getElem_toArray, List.getElem_cons_succ, List.getElem_cons_zero, List.setIfInBounds_toArray, List.set_cons_succ, List.set_cons_zero])
            refine wpTwo_takeT (i := 6) (v := .agg #[.int .i64 a2, .int .i64 p2, .int .u64 t2]) rfl (by kernel_rfl) (by kernel_rfl) (by kernel_rfl) (fun _ _ _ h => h) ⟨by rfl, ?_⟩ hT3 ?_
            · rintro w hTw
              go_simp
            (try simp only [Act.put, List.getElem_toArray, List.getElem_cons_succ, List.getElem_cons_zero, List.setIfInBounds_toArray, List.set_cons_succ, List.set_cons_zero])
            refine wpTwo_ready (rs := [7]) (by kernel_rfl) (by simp) ?_
            refine (AllTwo.cons rfl (fun K hK => ?_) AllTwo.nil)
            · go_simp
              obtain ⟨y6, hy⟩ : ∃ q, q = X3.heap.size := ⟨_, rfl⟩
              obtain ⟨X4, hX⟩ : ∃ X : World, X = X3.alloc (.cells #[.slice none 0 0, .slice none 0 0, .bool false] 46) := ⟨_, rfl⟩
              rw [← hX, ← hy]
              have hb : Below X3.heap.size X3 X4 := by rw [hX]; exact below1 _ _
              have hlo7 : w5p.heap.size ≤ y6 := by rw [hy]; exact hz3
              have hT4 := And.intro (hT3.1.below hb) (hT3.2.below hb)
              have hF4 := HST.out.below hF3 hb
              have hz4 := Nat.le_trans hz3 hb.size
              have HR4 := Lib.hid (And.intro (owns_below HR3.out.1 hb) (owns_below HR3.out.2 hb))
              have HG4 := Lib.hid (HG3.out.below hb)
              have HA4 := Lib.hid (show MBox X4 y6 (.slice none 0 0) (.slice none 0 0) false by rw [hX, hy]; exact MBox.new _ _ _ _)
              have hne67 : y6 ≠ y7 := by have h1 := HG3.out.lt; omega
              clear hb hX hy
              refine hK.out _ _ ⟨hT4, fun _ _ => trivial⟩ ?_
              clear hK K
              (try simp only [Act.put, List.getElem_toArray, List.getElem_cons_succ, List.getElem_cons_zero, List.setIfInBounds_toArray, List.set_cons_succ, List.set_cons_zero])
              refine wpTwo_ready (rs := [9]) (by kernel_rfl) (by simp) ?_
              refine (AllTwo.cons rfl (fun K hK => ?_) AllTwo.nil)
              obtain ⟨⟨d0, d1, d2⟩, e0, e1, e2⟩ := mbox_cells HA4.out
              obtain ⟨Xa, hXa⟩ : ∃ X : World, X = ((X4.setCell ⟨y6, 0, none⟩ (.slice px u2.length cx)).setCell ⟨y6, 1, none⟩ (.slice py ms.length cy)).setCell ⟨y6, 2, none⟩ (.bool f2) := ⟨_, rfl⟩
              have hk : Keeps (fun q => q = y6) X4 Xa := by rw [hXa]; exact ((Keeps.setCell X4 (S := fun q => q = y6) (p := ⟨y6, 0, none⟩) rfl _).trans (Keeps.setCell _ (S := fun q => q = y6) (p := ⟨y6, 1, none⟩) rfl _)).trans (Keeps.setCell _ (S := fun q => q = y6) (p := ⟨y6, 2, none⟩) rfl _)
              have hTa := And.intro (hT4.1.keeps hk (fun e => by have e : W.heap.size = y6 := e; have := HWW.out; omega)) (hT4.2.keeps hk (fun e => by have e : zs = y6 := e; omega))
              have hFa := HST.out.at hF4 hk hlo7
              have hza := Nat.le_trans hz4 hk.size
              have HGa := Lib.hid (HG4.out.keeps hk (fun e => hne67 e.symm))
              have HAa := Lib.hid (show MBox Xa y6 (.slice px u2.length cx) (.slice py ms.length cy) f2 by rw [hXa]; exact HA4.out.set _ _ _)
              have HRa := Lib.hid (rows_off HR4.out HA4.out hk)
              go_simp
              rw [← hXa]
              refine hK.out _ _ ⟨hTa, fun _ _ => trivial⟩ ?_
              clear hK K d0 d1 d2 e0 e1 e2 hXa hk
              (try simp only [Act.put, List.getElem_toArray, List.getElem_cons_succ, List.getElem_cons_zero, List.setIfInBounds_toArray, List.set_cons_succ, List.set_cons_zero])
              refine wpTwo_ready (rs := [10]) (by kernel_rfl) (by simp) ?_
              refine (AllTwo.cons rfl (fun K hK => ?_) AllTwo.nil)
              obtain ⟨d0, d1, d2⟩ := HGa.out.cells
              have e0 := HGa.out.free 0
              have e1 := HGa.out.free 1
              have e2 := HGa.out.free 2
              obtain ⟨Xb, hXb⟩ : ∃ X : World, X = ((Xa.setCell ⟨y7, 0, none⟩ (.int .i64 a2)).setCell ⟨y7, 1, none⟩ (.int .i64 p2)).setCell ⟨y7, 2, none⟩ (.int .u64 t2) := ⟨_, rfl⟩
              have hk : Keeps (fun q => q = y7) Xa Xb := by rw [hXb]; exact ((Keeps.setCell Xa (S := fun q => q = y7) (p := ⟨y7, 0, none⟩) rfl _).trans (Keeps.setCell _ (S := fun q => q = y7) (p := ⟨y7, 1, none⟩) rfl _)).trans (Keeps.setCell _ (S := fun q => q = y7) (p := ⟨y7, 2, none⟩) rfl _)
              have hTb := And.intro (hTa.1.keeps hk (fun e => by have e : W.heap.size = y7 := e; have := HWW.out; omega)) (hTa.2.keeps hk (fun e => by have e : zs = y7 := e; omega))
              have hFb := HST.out.at hFa hk hlo8
              have hzb := Nat.le_trans hza hk.size
              have HAb := Lib.hid (HAa.out.keeps hk (fun e => hne67 e))
              have HGb := Lib.hid (show SpBox Xb y7 a2 p2 t2 by
                unfold SpBox
                rw [hXb, heap_setCell_same _ y7 2 _ _ _ (heap_setCell_same _ y7 1 _ _ _ (heap_setCell_same Xa y7 0 _ _ _ HGa.out))]; rfl)
              have HRb := Lib.hid (rows_offS HRa.out HGa.out hk)
              go_simp
              rw [← hXb]
              refine hK.out _ _ ⟨hTb, fun _ _ => trivial⟩ ?_
              clear hK K d0 d1 d2 e0 e1 e2 hXb hk
              (try simp only [Act.put, List.getElem_toArray, List.getElem_cons_succ, List.getElem_cons_zero, List.setIfInBounds_toArray, List.set_cons_succ, List.set_cons_zero])
              refine wpTwo_end (by kernel_rfl) ?_ _
              go_wp2
              go_meet
              exact ⟨y6, y7, px, cx, py, cy, rfl, rfl, Lib.hid ⟨hFb, HAb.out, HGb.out, HRb.out.1, HRb.out.2, hzb⟩⟩
          · go_simp
            obtain ⟨y6, hy⟩ : ∃ q, q = X2.heap.size := ⟨_, rfl⟩
            obtain ⟨X3, hX⟩ : ∃ X : World, X = X2.alloc (.cells #[.slice none 0 0, .slice none 0 0, .bool false] 46) := ⟨_, rfl⟩
            rw [← hX, ← hy]
            have hb : Below X2.heap.size X2 X3 := by rw [hX]; exact below1 _ _
            have hlo7 : w5p.heap.size ≤ y6 := by rw [hy]; exact hz2
            have hT3 := And.intro (hT2.1.below hb) (hT2.2.below hb)
            have hF3 := HST.out.below hF2 hb
            have hz3 := Nat.le_trans hz2 hb.size
            have HR3 := Lib.hid (And.intro (owns_below HR2.out.1 hb) (owns_below HR2.out.2 hb))
            have HG3 := Lib.hid (HG2.out.below hb)
            have HA3 := Lib.hid (show MBox X3 y6 (.slice none 0 0) (.slice none 0 0) false by rw [hX, hy]; exact MBox.new _ _ _ _)
            have hne67 : y6 ≠ y7 := by have h1 := HG2.out.lt; omega
            clear hb hX hy
            refine hK.out _ _ ⟨hT3, fun _ _ => trivial⟩ ?_
            clear hK K
            (try simp only [Act.put, List.getElem_toArray, List.getElem_cons_succ, List.getElem_cons_zero, List.setIfInBounds_toArray, List.set_cons_succ, List.set_cons_zero])
            refine wpTwo_ready (rs := [3]) (by kernel_rfl) (by simp) ?_
            refine (AllTwo.cons rfl (fun K hK => ?_) AllTwo.nil)
            · go_simp
              refine (rstep_c _ _ us ms f a p t w5p.heap.size X3 HR3.out.1 HR3.out.2 hz3 hr HPP.out).mono ?_
              rintro e X4 ⟨⟨vx, vy, rfl, h0, h1⟩, hb⟩
              obtain ⟨px, cx, rfl⟩ := owns_slice h0
              obtain ⟨py, cy, rfl⟩ := owns_slice h1
              have hT4 := And.intro (hT3.1.below hb) (hT3.2.below hb)
              have hF4 := HST.out.below hF3 hb
              have hz4 := Nat.le_trans hz3 hb.size
              have HA4 := Lib.hid (HA3.out.below hb)
              have HG4 := Lib.hid (HG3.out.below hb)
              have HR4 := Lib.hid (And.intro h0 h1)
              clear hb h0 h1
              go_wp2_with fail
              refine hK.out _ _ ⟨hT4, fun _ _ => trivial⟩ ?_
              clear hK K
              (try simp only [Act.put, List.getElem_toArray, List.getElem_cons_succ, List.getElem_cons_zero, List.setIfInBounds_toArray, List.set_cons_succ, List.set_cons_zero])
              refine wpTwo_takeT (i := 4) (v := .tuple #[.agg #[.slice px u2.length cx, .slice py ms.length cy, .bool f2], .agg #[.int .i64 a2, .int .i64 p2, .int .u64 t2]]) rfl (by kernel_rfl) (by kernel_rfl) (by kernel_rfl) (fun _ _ _ h => h) ⟨by rfl, ?_⟩ hT4 ?_
              · rintro w hTw
                go_simp
              (try simp only [Act.put, List.getElem_toArray, List.getElem_cons_succ, List.getElem_cons_zero, List.setIfInBounds_toArray, List.set_cons_succ, List.set_cons_zero])
              refine wpTwo_takeT (i := 5) (v := .agg #[.slice px u2.length cx, .slice py ms.length cy, .bool f2]) rfl (by kernel_rfl) (by kernel_rfl) (by kernel_rfl) (fun _ _ _ h => h) ⟨by rfl, ?_⟩ hT4 ?_
              · rintro w hTw
                go_simp
              (try simp only [Act.put, List.getElem_toArray, List.getElem_cons_succ, List.getElem_cons_zero, List.setIfInBounds_toArray, List.set_cons_succ, List.set_cons_zero])
              refine wpTwo_takeT (i := 6) (v := .agg #[.int .i64 a2, .int .i64 p2, .int .u64 t2]) rfl (by kernel_rfl) (by kernel_rfl) (by kernel_rfl) (fun _ _ _ h => h) ⟨by rfl, ?_⟩ hT4 ?_
              · rintro w hTw
                go_simp
              (try simp only [Act.put, List.getElem_toArray, List.getElem_cons_succ, List.getElem_cons_zero, List.setIfInBounds_toArray, List.set_cons_succ, List.set_cons_zero])
              refine wpTwo_ready (rs := [9]) (by kernel_rfl) (by simp) ?_
              refine (AllTwo.cons rfl (fun K hK => ?_) AllTwo.nil)
              obtain ⟨⟨d0, d1, d2⟩, e0, e1, e2⟩ := mbox_cells HA4.out
              obtain ⟨Xa, hXa⟩ : ∃ X : World, X = ((X4.setCell ⟨y6, 0, none⟩ (.slice px u2.length cx)).setCell ⟨y6, 1, none⟩ (.slice py ms.length cy)).setCell ⟨y6, 2, none⟩ (.bool f2) := ⟨_, rfl⟩
              have hk : Keeps (fun q => q = y6) X4 Xa := by rw [hXa]; exact ((Keeps.setCell X4 (S := fun q => q = y6) (p := ⟨y6, 0, none⟩) rfl _).trans (Keeps.setCell _ (S := fun q => q = y6) (p := ⟨y6, 1, none⟩) rfl _)).trans (Keeps.setCell _ (S := fun q => q = y6) (p := ⟨y6, 2, none⟩) rfl _)
              have hTa := And.intro (hT4.1.keeps hk (fun e => by have e : W.heap.size = y6 := e; have := HWW.out; omega)) (hT4.2.keeps hk (fun e => by have e : zs = y6 := e; omega))
              have hFa := HST.out.at hF4 hk hlo7
              have hza := Nat.le_trans hz4 hk.size
              have HGa := Lib.hid (HG4.out.keeps hk (fun e => hne67 e.symm))
              have HAa := Lib.hid (show MBox Xa y6 (.slice px u2.length cx) (.slice py ms.length cy) f2 by rw [hXa]; exact HA4.out.set _ _ _)
              have HRa := Lib.hid (rows_off HR4.out HA4.out hk)
              go_simp
              rw [← hXa]
              refine hK.out _ _ ⟨hTa, fun _ _ => trivial⟩ ?_
              clear hK K d0 d1 d2 e0 e1 e2 hXa hk
              (try simp only [Act.put, List.getElem_toArray, List.getElem_cons_succ, List.getElem_cons_zero, List.setIfInBounds_toArray, List.set_cons_succ, List.set_cons_zero])
              refine wpTwo_ready (rs := [10]) (by kernel_rfl) (by simp) ?_
              refine (AllTwo.cons rfl (fun K hK => ?_) AllTwo.nil)
              obtain ⟨d0, d1, d2⟩ := HGa.out.cells
              have e0 := HGa.out.free 0
              have e1 := HGa.out.free 1
              have e2 := HGa.out.free 2
              obtain ⟨Xb, hXb⟩ : ∃ X : World, X = ((Xa.setCell ⟨y7, 0, none⟩ (.int .i64 a2)).setCell ⟨y7, 1, none⟩ (.int .i64 p2)).setCell ⟨y7, 2, none⟩ (.int .u64 t2) := ⟨_, rfl⟩
              have hk : Keeps (fun q => q = y7) Xa Xb := by rw [hXb]; exact ((Keeps.setCell Xa (S := fun q => q = y7) (p := ⟨y7, 0, none⟩) rfl _).trans (Keeps.setCell _ (S := fun q => q = y7) (p := ⟨y7, 1, none⟩) rfl _)).trans (Keeps.setCell _ (S := fun q => q = y7) (p := ⟨y7, 2, none⟩) rfl _)
              have hTb := And.intro (hTa.1.keeps hk (fun e => by have e : W.heap.size = y7 := e; have := HWW.out; omega)) (hTa.2.keeps hk (fun e => by have e : zs = y7 := e; omega))
              have hFb := HST.out.at hFa hk hlo8
              have hzb := Nat.le_trans hza hk.size
              have HAb := Lib.hid (HAa.out.keeps hk (fun e => hne67 e))
              have HGb := Lib.hid (show SpBox Xb y7 a2 p2 t2 by
                unfold SpBox
                rw [hXb, heap_setCell_same _ y7 2 _ _ _ (heap_setCell_same _ y7 1 _ _ _ (heap_setCell_same Xa y7 0 _ _ _ HGa.out))]; rfl)
              have HRb := Lib.hid (rows_offS HRa.out HGa.out hk)
              go_simp
              rw [← hXb]
              refine hK.out _ _ ⟨hTb, fun _ _ => trivial⟩ ?_
              clear hK K d0 d1 d2 e0 e1 e2 hXb hk
              (try simp only [Act.put, List.getElem_toArray, List.getElem_cons_succ, List.getElem_cons_zero, List.setIfInBounds_toArray, List.set_cons_succ, List.set_cons_zero])
              refine wpTwo_end (by kernel_rfl) ?_ _
              go_wp2
              go_meet
              exact ⟨y6, y7, px, cx, py, cy, rfl, rfl, Lib.hid ⟨hFb, HAb.out, HGb.out, HRb.out.1, HRb.out.2, hzb⟩⟩
        · go_simp
          obtain ⟨y6, hy⟩ : ∃ q, q = X1.heap.size := ⟨_, rfl⟩
          obtain ⟨X2, hX⟩ : ∃ X : World, X = X1.alloc (.cells #[.slice none 0 0, .slice none 0 0, .bool false] 46) := ⟨_, rfl⟩
          rw [← hX, ← hy]
          have hb : Below X1.heap.size X1 X2 := by rw [hX]; exact below1 _ _
          have hlo7 : w5p.heap.size ≤ y6 := by rw [hy]; exact hz1
          have hT2 := And.intro (hT1.1.below hb) (hT1.2.below hb)
          have hF2 := HST.out.below hF1 hb
          have hz2 := Nat.le_trans hz1 hb.size
          have HG2 := Lib.hid (HG1.out.below hb)
          have HA2 := Lib.hid (show MBox X2 y6 (.slice none 0 0) (.slice none 0 0) false by rw [hX, hy]; exact MBox.new _ _ _ _)
          have hne67 : y6 ≠ y7 := by have h1 := HG1.out.lt; omega
          clear hb hX hy
          refine hK.out _ _ ⟨hT2, fun _ _ => trivial⟩ ?_
          clear hK K
          (try simp only [Act.put, List.getElem_toArray, List.getElem_cons_succ, List.getElem_cons_zero, List.setIfInBounds_toArray, List.set_cons_succ, List.set_cons_zero])
          refine wpTwo_ready (rs := [1]) (by kernel_rfl) (by simp) ?_
          refine (AllTwo.cons rfl (fun K hK => ?_) AllTwo.nil)
          · go_simp
            have hBk := (HFE.out _ hF2).2.2.2.2.2.2
            refine (own_c _ _ f ws ls _ (H0.out.below hBk) (H1.out.below hBk) HWL.out HLL.out).mono ?_
            rintro e X3 ⟨hg, hb⟩
            rw [← HUS.out, ← HMS.out] at hg
            obtain ⟨_, rfl, vx, vy, rfl, h0, h1⟩ := hg
            obtain ⟨po, co, rfl⟩ := owns_slice h0
            obtain ⟨qo, do', rfl⟩ := owns_slice h1
            have hT3 := And.intro (hT2.1.below hb) (hT2.2.below hb)
            have hF3 := HST.out.below hF2 hb
            have hz3 := Nat.le_trans hz2 hb.size
            have HA3 := Lib.hid (HA2.out.below hb)
            have HG3 := Lib.hid (HG2.out.below hb)
            have HR3 := Lib.hid (And.intro (h0.mono hz2) (h1.mono hz2))
            clear hb h0 h1 hBk
            go_wp2_with fail
            refine hK.out _ _ ⟨hT3, fun _ _ => trivial⟩ ?_
            clear hK K
            (try simp only [Act.put, List.getElem_toArray, List.getElem_cons_succ, List.getElem_cons_zero, List.setIfInBounds_toArray, List.set_cons_succ, List.set_cons_zero])
            refine wpTwo_ready (rs := [3]) (by kernel_rfl) (by simp) ?_
            refine (AllTwo.cons rfl (fun K hK => ?_) AllTwo.nil)
            · go_simp
              refine (rstep_c _ _ us ms f a p t w5p.heap.size X3 HR3.out.1 HR3.out.2 hz3 hr HPP.out).mono ?_
              rintro e X4 ⟨⟨vx, vy, rfl, h0, h1⟩, hb⟩
              obtain ⟨px, cx, rfl⟩ := owns_slice h0
              obtain ⟨py, cy, rfl⟩ := owns_slice h1
              have hT4 := And.intro (hT3.1.below hb) (hT3.2.below hb)
              have hF4 := HST.out.below hF3 hb
              have hz4 := Nat.le_trans hz3 hb.size
              have HA4 := Lib.hid (HA3.out.below hb)
              have HG4 := Lib.hid (HG3.out.below hb)
              have HR4 := Lib.hid (And.intro h0 h1)
              clear hb h0 h1
              go_wp2_with fail
              refine hK.out _ _ ⟨hT4, fun _ _ => trivial⟩ ?_
              clear hK K
              (try simp only [Act.put, List.getElem_toArray, List.getElem_cons_succ, List.getElem_cons_zero, List.setIfInBounds_toArray, List.set_cons_succ, List.set_cons_zero])
              refine wpTwo_takeT (i := 4) (v := .tuple #[.agg #[.slice px u2.length cx, .slice py ms.length cy, .bool f2], .agg #[.int .i64 a2, .int .i64 p2, .int .u64 t2]]) rfl (by kernel_rfl) (by kernel_rfl) (by kernel_rfl) (fun _ _ _ h => h) ⟨by rfl, ?_⟩ hT4 ?_
              · rintro w hTw
                go_simp
              (try simp only [Act.put, List.getElem_toArray, List.getElem_cons_succ, List.getElem_cons_zero, List.setIfInBounds_toArray, List.set_cons_succ, List.set_cons_zero])
              refine wpTwo_takeT (i := 5) (v := .agg #[.slice px u2.length cx, .slice py ms.length cy, .bool f2]) rfl (by kernel_rfl) (by kernel_rfl) (by kernel_rfl) (fun _ _ _ h => h) ⟨by rfl, ?_⟩ hT4 ?_
              · rintro w hTw
                go_simp
              (try simp only [Act.put, List.getElem_toArray, List.getElem_cons_succ, List.getElem_cons_zero, List.setIfInBounds_toArray, List.set_cons_succ, List.set_cons_zero])
              refine wpTwo_takeT (i := 6) (v := .agg #[.int .i64 a2, .int .i64 p2, .int .u64 t2]) rfl (by kernel_rfl) (by kernel_rfl) (by kernel_rfl) (fun _ _ _ h => h) ⟨by rfl, ?_⟩ hT4 ?_
              · rintro w hTw
                go_simp
              (try simp only [Act.put, List.getElem_toArray, List.getElem_cons_succ, List.getElem_cons_zero, List.setIfInBounds_toArray, List.set_cons_succ, List.set_cons_zero])
              refine wpTwo_ready (rs := [9]) (by kernel_rfl) (by simp) ?_
              refine (AllTwo.cons rfl (fun K hK => ?_) AllTwo.nil)
              obtain ⟨⟨d0, d1, d2⟩, e0, e1, e2⟩ := mbox_cells HA4.out
              obtain ⟨Xa, hXa⟩ : ∃ X : World, X = ((X4.setCell ⟨y6, 0, none⟩ (.slice px u2.length cx)).setCell ⟨y6, 1, none⟩ (.slice py ms.length cy)).setCell ⟨y6, 2, none⟩ (.bool f2) := ⟨_, rfl⟩
              have hk : Keeps (fun q => q = y6) X4 Xa := by rw [hXa]; exact ((Keeps.setCell X4 (S := fun q => q = y6) (p := ⟨y6, 0, none⟩) rfl _).trans (Keeps.setCell _ (S := fun q => q = y6) (p := ⟨y6, 1, none⟩) rfl _)).trans (Keeps.setCell _ (S := fun q => q = y6) (p := ⟨y6, 2, none⟩) rfl _)
              have hTa := And.intro (hT4.1.keeps hk (fun e => by have e : W.heap.size = y6 := e; have := HWW.out; omega)) (hT4.2.keeps hk (fun e => by have e : zs = y6 := e; omega))
              have hFa := HST.out.at hF4 hk hlo7
              have hza := Nat.le_trans hz4 hk.size
              have HGa := Lib.hid (HG4.out.keeps hk (fun e => hne67 e.symm))
              have HAa := Lib.hid (show MBox Xa y6 (.slice px u2.length cx) (.slice py ms.length cy) f2 by rw [hXa]; exact HA4.out.set _ _ _)
              have HRa := Lib.hid (rows_off HR4.out HA4.out hk)
              go_simp
              rw [← hXa]
              refine hK.out _ _ ⟨hTa, fun _ _ => trivial⟩ ?_
              clear hK K d0 d1 d2 e0 e1 e2 hXa hk
              (try simp only [Act.put, List.getElem_toArray, List.getElem_cons_succ, List.getElem_cons_zero, List.setIfInBounds_toArray, List.set_cons_succ, List.set_cons_zero])
              refine wpTwo_ready (rs := [10]) (by kernel_rfl) (by simp) ?_
              refine (AllTwo.cons rfl (fun K hK => ?_) AllTwo.nil)
              obtain ⟨d0, d1, d2⟩ := HGa.out.cells
              have e0 := HGa.out.free 0
              have e1 := HGa.out.free 1
              have e2 := HGa.out.free 2
              obtain ⟨Xb, hXb⟩ : ∃ X : World, X = ((Xa.setCell ⟨y7, 0, none⟩ (.int .i64 a2)).setCell ⟨y7, 1, none⟩ (.int .i64 p2)).setCell ⟨y7, 2, none⟩ (.int .u64 t2) := ⟨_, rfl⟩
              have hk : Keeps (fun q => q = y7) Xa Xb := by rw [hXb]; exact ((Keeps.setCell Xa (S := fun q => q = y7) (p := ⟨y7, 0, none⟩) rfl _).trans (Keeps.setCell _ (S := fun q => q = y7) (p := ⟨y7, 1, none⟩) rfl _)).trans (Keeps.setCell _ (S := fun q => q = y7) (p := ⟨y7, 2, none⟩) rfl _)
              have hTb := And.intro (hTa.1.keeps hk (fun e => by have e : W.heap.size = y7 := e; have := HWW.out; omega)) (hTa.2.keeps hk (fun e => by have e : zs = y7 := e; omega))
              have hFb := HST.out.at hFa hk hlo8
              have hzb := Nat.le_trans hza hk.size
              have HAb := Lib.hid (HAa.out.keeps hk (fun e => hne67 e))
              have HGb := Lib.hid (show SpBox Xb y7 a2 p2 t2 by
                unfold SpBox
                rw [hXb, heap_setCell_same _ y7 2 _ _ _ (heap_setCell_same _ y7 1 _ _ _ (heap_setCell_same Xa y7 0 _ _ _ HGa.out))]; rfl)
              have HRb := Lib.hid (rows_offS HRa.out HGa.out hk)
              go_simp
              rw [← hXb]
              refine hK.out _ _ ⟨hTb, fun _ _ => trivial⟩ ?_
              clear hK K d0 d1 d2 e0 e1 e2 hXb hk
              (try simp only [Act.put, List.getElem_toArray, List.getElem_cons_succ, List.getElem_cons_zero, List.setIfInBounds_toArray, List.set_cons_succ, List.set_cons_zero])
              refine wpTwo_end (by kernel_rfl) ?_ _
              go_wp2
              go_meet
              exact ⟨y6, y7, px, cx, py, cy, rfl, rfl, Lib.hid ⟨hFb, HAb.out, HGb.out, HRb.out.1, HRb.out.2, hzb⟩⟩
    case rest =>
      obtain ⟨y6, y7, px, cx, py, cy, rfl, rfl, HH⟩ := hcut
      obtain ⟨hF, hA, hG, hR0, hR1, hz⟩ := HH.out
      clear HX HS HM HL HN HT HH
      obtain ⟨fX, fS, fM, fL, fN, fT, hB⟩ := HFE.out _ hF
      have HX := Lib.hid fX
      have HS := Lib.hid fS
      have HM := Lib.hid fM
      have HL := Lib.hid fL
      have HN := Lib.hid fN
      have HT := Lib.hid fT
      clear fX fS fM fL fN fT
      have HME := Lib.hid (show MemAt wc (.agg #[.slice px u2.length cx, .slice py ms.length cy, .bool f2]) u2 ms f2 from ⟨_, _, rfl, nums_of_owns rfl hR0, bools_of_owns rfl hR1⟩)
      obtain ⟨hd0, hd1, hd2⟩ := hA.cells
      obtain ⟨hg0, hg1, hg2⟩ := hG.cells
      have hcmp := fun w => run_neq_same a2 p2 t2 w
      clear hA hG hR0 hR1 hB HX HS HL HM
      obtain ⟨hn0, hn1, hn2⟩ := HN.out.cells
      obtain ⟨ht0, ht1, ht2⟩ := HT.out.cells
      go_wp2_with fail
      refine (refSame_t _ _ u2 ms f2 wc HN.out.mem HME.out (by have := HU2.out; omega) (by omega)).mono ?_
      rintro e w8 ⟨rfl, hb⟩
      have hF := HST.out.below hF hb
      clear hd0 hd1 hd2 hg0 hg1 hg2 hn0 hn1 hn2 ht0 ht1 ht2 HME HN HT hb hcmp
      obtain ⟨fX, fS, fM, fL, fN, fT, hB⟩ := HFE.out _ hF
      have HX := Lib.hid fX
      have HS := Lib.hid fS
      have HM := Lib.hid fM
      have HL := Lib.hid fL
      have HN := Lib.hid fN
      have HT := Lib.hid fT
      clear fX fS fM fL fN fT
      obtain ⟨hn0, hn1, hn2⟩ := HN.out.cells
      have HB := Lib.hid hB
      clear hB HS HL HT hF
      go_wp2
      go_loopw [160] (fun iv wr => ∃ (i : Nat) (us' : List Int), i ≤ u2.length ∧ iv = .int .i64 i ∧ us'.length = u2.length ∧ PVar wr w4p.heap.size w5p.heap.size zn (.slice pN u2.length cN) (.slice qN ms.length dN) us' ms f2 ∧ PVar wr w1.heap.size w2p.heap.size zm (.slice (some ⟨gw, 0, none⟩) us.length d0) (.slice (some ⟨gl, 0, none⟩) ms.length d1) us ms f ∧ MBox wr W.heap.size (.slice p0 n0 c0) (.slice p1 n1 c1) f ∧ Below W.heap.size W wr) (fun iv _ => u2.length - (intOf iv).toNat)
      case atStart => exact ⟨0, u2, Nat.zero_le _, rfl, rfl, HN.out, HM.out, HX.out, HB.out⟩
      case round =>
        obtain ⟨i, us', hi, rfl, hul', hp, hm, hx, hB⟩ := hrel
        clear HN HM HX hn0 hn1 hn2 HB
        have HP := Lib.hid hp
        have HM := Lib.hid hm
        have HX := Lib.hid hx
        have HU := Lib.hid hul'
        clear hp hm hx hul'
        obtain ⟨hp0, hp1, hp2⟩ := HP.out.cells
        have hu16 : u2.length ≤ 16 := by have := HU2.out; omega
        by_cases hlt : i < u2.length
        · obtain ⟨g, cg, hf, hBg, hgs⟩ := own_form HP.out.words (by have := HU.out; omega)
          injection hf with hf hf2 hf3
          subst hf
          clear hf2 hf3
          have hw1 := HP.out.word (k := i) (by have := HU.out; omega)
          have hwf := HP.out.wfree i
          obtain ⟨y, hy⟩ : ∃ y, y = us'[i]'(by have := HU.out; omega) := ⟨_, rfl⟩
          rw [← hy] at hw1
          have hgz : w4p.heap.size ≤ g ∧ g < w5p.heap.size := ⟨(HP.out.words.lt g rfl).1, HP.out.wlt g rfl⟩
          have HSET := Lib.hid (fun t : Int => HP.out.set i t)
          have HMS2 := Lib.hid (fun t : Int => HM.out.keeps (Keeps.setCell wr (S := fun q => q = g) (p := ⟨g, i, none⟩) rfl (.int .u64 t)) (fun q hq => by have hq : q = g := hq; exact .inr (by omega)))
          have HXS := Lib.hid (fun t : Int => HX.out.keeps (Keeps.setCell wr (S := fun q => q = g) (p := ⟨g, i, none⟩) rfl (.int .u64 t)) (fun hq => by have hq : W.heap.size = g := hq; omega))
          have HBS := Lib.hid (fun t : Int => hB.setCell (p := ⟨g, i, none⟩) (by have : W.heap.size ≤ g := by omega
                                                                                 exact this) (.int .u64 t))
          have HUL' := Lib.hid (show ∀ t : Int, (us'.set i t).length = u2.length from fun t => by simp [HU.out])
          clear hy hBg hgs HP HM HX hB hgz
          go_wp2
          go_roundw
          case rel => exact ⟨i + 1, _, by omega, by go_num, HUL'.out _, HSET.out _, HMS2.out _, HXS.out _, HBS.out _⟩
          case measure => simp [intOf]; omega
        · clear hp0 hp1 hp2 HP
          go_upto_region 28 with (fail)
          refine wpTwo_begin (T := fun w' => MBox w' zm (.slice (some ⟨gw, 0, none⟩) us.length d0) (.slice (some ⟨gl, 0, none⟩) ms.length d1) f ∧ MBox w' W.heap.size (.slice p0 n0 c0) (.slice p1 n1 c1) f) (S := fun _ => True) (late := fun _ => false) (by kernel_rfl) ?_
          obtain ⟨X0, hX0⟩ : ∃ X : World, X = wr.drew := ⟨_, rfl⟩
          rw [← hX0]
          have hb : Below wr.heap.size wr X0 := by rw [hX0]; exact (Below.refl _ _).drew
          have hT0 := And.intro (HM.out.box.below hb) (HX.out.below hb)
          have HM0 := Lib.hid (HM.out.below hb)
          have hB := below_then hB hB.size hb
          clear hX0 hb HM HX
          refine wpTwo_takeT (i := 0) (v := .agg #[.slice (some ⟨gw, 0, none⟩) us.length d0, .slice (some ⟨gl, 0, none⟩) ms.length d1, .bool f]) rfl (by kernel_rfl) (by kernel_rfl) (by kernel_rfl) (fun _ _ _ h => h) ⟨by rfl, ?_⟩ hT0 ?_
          · rintro w hTw
            obtain ⟨⟨t0, t1, t2⟩, _⟩ := mbox_cells hTw.1
            go_simp
          (try simp only [Act.put, List.getElem_toArray, List.getElem_cons_zero, List.setIfInBounds_toArray, List.set_cons_succ, List.set_cons_zero])
          refine wpTwo_takeT (i := 1) (v := .agg #[.slice p0 n0 c0, .slice p1 n1 c1, .bool f]) rfl (by kernel_rfl) (by kernel_rfl) (by kernel_rfl) (fun _ _ _ h => h) ⟨by rfl, ?_⟩ hT0 ?_
          · rintro w hTw
            obtain ⟨⟨t0, t1, t2⟩, _⟩ := mbox_cells hTw.2
            go_simp
          (try simp only [Act.put, List.getElem_toArray, List.getElem_cons_succ, List.getElem_cons_zero, List.setIfInBounds_toArray, List.set_cons_succ, List.set_cons_zero])
          refine wpTwo_ready (rs := [2]) (by kernel_rfl) (by simp) ?_
          refine (AllTwo.cons rfl (fun K hK => ?_) AllTwo.nil)
          go_simp
          refine (own_c _ _ f ws ls _ (H0.out.below hB) (H1.out.below hB) HWL.out HLL.out).mono ?_
          rintro e X1 ⟨hg, hb⟩
          rw [← HUS.out, ← HMS.out] at hg
          obtain ⟨p6, n6, c6, p7, n7, c7, rfl, hN0, hN1⟩ := hg.reads
          have hT1 := And.intro (hT0.1.below hb) (hT0.2.below hb)
          have HM1 := Lib.hid (HM0.out.below hb)
          have HMR := Lib.hid (show MemAt X1 (.agg #[.slice p6 n6 c6, .slice p7 n7 c7, .bool f]) us ms f from ⟨_, _, rfl, hN0, hN1⟩)
          have hB := below_then hB hB.size hb
          clear hb hg hN0 hN1
          go_wp2_with fail
          refine hK.out _ _ ⟨hT1, fun _ _ => trivial⟩ ?_
          clear hK K HM0 hT0
          (try simp only [Act.put, List.getElem_toArray, List.getElem_cons_succ, List.getElem_cons_zero, List.setIfInBounds_toArray, List.set_cons_succ, List.set_cons_zero])
          refine wpTwo_ready (rs := [3]) (by kernel_rfl) (by simp) ?_
          refine (AllTwo.cons rfl (fun K hK => ?_) AllTwo.nil)
          go_simp
          refine (refSame_t _ _ us ms f X1 HM1.out.mem HMR.out (by omega) (by omega)).mono ?_
          rintro e X2 ⟨rfl, hb⟩
          have hT2 := And.intro (hT1.1.below hb) (hT1.2.below hb)
          have HBE := Lib.hid (below_then hB hB.size hb)
          clear hb hB
          go_wp2_with fail
          refine hK.out _ _ ⟨hT2, fun _ _ => trivial⟩ ?_
          clear hK K HM1 HMR hT1
          (try simp only [Act.put, List.getElem_toArray, List.getElem_cons_succ, List.getElem_cons_zero, List.setIfInBounds_toArray, List.set_cons_succ, List.set_cons_zero])
          refine wpTwo_takeT (i := 4) (v := .bool true) rfl (by kernel_rfl) (by kernel_rfl) (by kernel_rfl) (fun _ _ _ h => h) ⟨by rfl, ?_⟩ hT2 ?_
          · rintro w hTw
            go_simp
          (try simp only [Act.put, List.getElem_toArray, List.getElem_cons_succ, List.getElem_cons_zero, List.setIfInBounds_toArray, List.set_cons_succ, List.set_cons_zero])
          refine wpTwo_end (by kernel_rfl) ?_ _
          go_wp2
          go_ret
          exact ⟨rfl, HBE.out⟩

end Go.Proofs.Ytcnpmkigiklnnaa
