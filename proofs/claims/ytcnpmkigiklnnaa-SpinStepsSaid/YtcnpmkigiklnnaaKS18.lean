/-
  A lock that is laid, and a step: the statement's body, where no lock can be laid, and who wants one may not be.
  Conditions: the memory is one that came in; the ranges of Go's types.
-/
import Derived.Test.YtcnpmkigiklnnaaKS17
/-
  A lock that is laid, and a step: the statement's body, where the memory may not be.
  Conditions: the memory is one that came in; the ranges of Go's types.
-/
namespace Go.Proofs.Ytcnpmkigiklnnaa
open Go.RowKit Go.Shelf
attribute [local go_sem] Oper.semAt_some

set_option maxRecDepth 100000 in
set_option maxHeartbeats 40000000 in
theorem steps_A (v0 v1 : Value) (f : Bool) (ws : List Int) (ls : List Bool) (q a p t : Int) (W : World) (h0 : ArgR W v0 (ws.map (Value.int .u64))) (h1 : ArgR W v1 (ls.map Value.bool)) (hw : ws.length ≤ 9223372036854775807) (hl : ls.length ≤ 9223372036854775807)
    (hq : -9223372036854775808 ≤ q ∧ q ≤ 9223372036854775807) (hsr : SpR ⟨a, p, t⟩) (hrg : WRange ws) (hr : rightB (ws.take 16) (ls.take 16) = false) :
    Calls Try.prog 4 #[.agg #[v0, v1, .bool f], .int .i64 q, .agg #[.int .i64 a, .int .i64 p, .int .u64 t]] W fun e w' => e = .returned (.bool true) ∧ Below W.heap.size W w' := by
  have h0' := h0
  have h1' := h1
  obtain ⟨p0, n0, c0, rfl, -, -⟩ := h0'
  obtain ⟨p1, n1, c1, rfl, -, -⟩ := h1'
  have H0 := Lib.hid h0
  have H1 := Lib.hid h1
  have HWL := Lib.hid hw
  have HLL := Lib.hid hl
  have HRG := Lib.hid (show WRange (ws.take 16) from fun x hx => hrg x (List.mem_of_mem_take hx))
  have HSR := Lib.hid hsr
  have HQ := Lib.hid hq
  clear h0 h1 hw hl hrg hsr
  obtain ⟨wo, hwo⟩ : ∃ wo : World, wo = (W.alloc (.cells #[.slice p0 n0 c0, .slice p1 n1 c1, .bool f] 46)).alloc (.cells #[.int .i64 a, .int .i64 p, .int .u64 t] 24) := ⟨_, rfl⟩
  obtain ⟨zs, hzs⟩ : ∃ z, z = W.heap.size + 1 := ⟨_, rfl⟩
  have hB : Below W.heap.size W wo := by rw [hwo]; exact below2 W _ _
  have HX := Lib.hid (show MBox wo W.heap.size (.slice p0 n0 c0) (.slice p1 n1 c1) f by rw [hwo]; exact (MBox.new _ _ _ _).alloc _)
  have HS := Lib.hid (show SpBox wo zs a p t by
    rw [hwo, hzs]
    have := World.alloc_heap_new (W.alloc (.cells #[.slice p0 n0 c0, .slice p1 n1 c1, .bool f] 46)) (.cells #[.int .i64 a, .int .i64 p, .int .u64 t] 24)
    rw [World.size_alloc] at this
    exact this)
  have hszo : zs < wo.heap.size := by rw [hwo, hzs]; simp
  have hzsW : W.heap.size < zs := by omega
  go_enter Try.func4, Try.ntmps4
  go_wp2_with fail
  rw [← hwo, ← hzs]
  clear hwo hzs
  refine (qwakes _).mono ?_
  rintro e w1 ⟨rfl, hb⟩
  have HX' := Lib.hid ((HX.out.below hb))
  clear HX
  have HX := HX'
  clear HX'
  have HS' := Lib.hid ((HS.out.below hb))
  clear HS
  have HS := HS'
  clear HS'
  have hB := below_then hB hB.size hb
  have hsz1 := hb.size
  clear hb
  obtain ⟨hx0, hx1, hx2⟩ := (mbox_cells HX.out).1
  go_wp2_with fail
  clear hx0 hx1 hx2
  refine (own_c _ _ f ws ls _ (H0.out.below hB) (H1.out.below hB) HWL.out HLL.out).mono ?_
  rintro e w2 ⟨hg, hb⟩
  obtain ⟨q0, d0, q1, d1, rfl, w2p, hw2p, hM, hbp⟩ := own_putP hg hb.size
  have hul : (ws.take 16).length ≤ 16 := by simp; omega
  have hml : (ls.take 16).length ≤ 16 := by simp; omega
  have HM := Lib.hid hM
  have HX' := Lib.hid (((HX.out.below hb).below hbp))
  clear HX
  have HX := HX'
  clear HX'
  have HS' := Lib.hid (((HS.out.below hb).below hbp))
  clear HS
  have HS := HS'
  clear HS'
  have hB := below_then (below_then hB hB.size hb) (Nat.le_trans hB.size hb.size) hbp
  have hsz2 := Nat.le_trans hb.size hbp.size
  clear hg hM hb hbp
  obtain ⟨us, hus⟩ : ∃ u, u = ws.take 16 := ⟨_, rfl⟩
  obtain ⟨ms, hms⟩ : ∃ u, u = ls.take 16 := ⟨_, rfl⟩
  rw [← hus, ← hms] at hr
  rw [← hus] at hul HM hw2p HRG
  rw [← hms] at hml HM hw2p
  have HUS := Lib.hid hus
  have HMS := Lib.hid hms
  clear hus hms
  obtain ⟨zm, hzm⟩ : ∃ z, z = w2.heap.size := ⟨_, rfl⟩
  obtain ⟨hm0, hm1, hm2⟩ := HM.out.cells
  unfold putM at hw2p
  rw [hw2p] at hm0 hm1 hm2
  rw [← HUS.out, ← HMS.out]
  go_wp2_with fail
  rw [← hw2p, ← hzm]
  rw [← hzm] at HM
  clear hw2p hzm hm0 hm1 hm2
  have HCK := refRight_c _ us ms f w2p HM.out.mem (by omega)
  rw [hr] at HCK
  refine HCK.mono ?_
  rintro e w3 ⟨rfl, hb⟩
  have HX' := Lib.hid ((HX.out.below hb))
  clear HX
  have HX := HX'
  clear HX'
  have HS' := Lib.hid ((HS.out.below hb))
  clear HS
  have HS := HS'
  clear HS'
  have HM' := Lib.hid ((HM.out.below hb))
  clear HM
  have HM := HM'
  clear HM'
  have hB := below_then hB hB.size hb
  have hsz3 := hb.size
  clear hb HCK
  obtain ⟨hm0, hm1, hm2⟩ := HM.out.cells
  go_wp2_with fail
  clear hm0 hm1 hm2
  refine (qlay_mem _ us ms f q w3 HM.out.mem hr (by omega) HQ.out).mono ?_
  rintro e w4 ⟨rfl, hb⟩
  obtain ⟨w4p, hw4p⟩ : ∃ x, x = putM w4 (.slice none 0 0) (.slice none 0 0) false := ⟨_, rfl⟩
  have hbp : Below w4.heap.size w4 w4p := by rw [hw4p]; exact putM_below _ _ _ _
  have hN := nil_putP _ w4 hb.size
  rw [← hw4p] at hN
  have HX' := Lib.hid (((HX.out.below hb).below hbp))
  clear HX
  have HX := HX'
  clear HX'
  have HS' := Lib.hid (((HS.out.below hb).below hbp))
  clear HS
  have HS := HS'
  clear HS'
  have HM' := Lib.hid (((HM.out.below hb).below hbp))
  clear HM
  have HM := HM'
  clear HM'
  have HL := Lib.hid hN
  have hB := below_then (below_then hB hB.size hb) (Nat.le_trans hB.size hb.size) hbp
  have hszw4 := Nat.le_trans hb.size hbp.size
  clear hN hb hbp
  unfold putM at hw4p
  obtain ⟨hm0, hm1, hm2⟩ := HM.out.cells
  obtain ⟨hs0, hs1, hs2⟩ := HS.out.cells
  rw [hw4p] at hm0 hm1 hm2 hs0 hs1 hs2
  go_wp2_with fail
  rw [← hw4p]
  clear hw4p hm0 hm1 hm2 hs0 hs1 hs2
  refine (qstep_mem _ us ms f a p t w4p HM.out.mem hr (by omega)).mono ?_
  rintro e w5 ⟨rfl, hb⟩
  obtain ⟨w5p, hw5p⟩ : ∃ x, x = putMS w5 (.slice none 0 0) (.slice none 0 0) false 0 0 0 := ⟨_, rfl⟩
  have hbp : Below w5.heap.size w5 w5p := by rw [hw5p]; exact putMS_below _ _ _ _ _ _ _
  have hN := putMS_nil w5 0 0 0 hb.size
  have hT := putMS_sbox w5 (.slice none 0 0) (.slice none 0 0) false 0 0 0
  rw [← hw5p] at hN hT
  have HX' := Lib.hid (((HX.out.below hb).below hbp))
  clear HX
  have HX := HX'
  clear HX'
  have HS' := Lib.hid (((HS.out.below hb).below hbp))
  clear HS
  have HS := HS'
  clear HS'
  have HM' := Lib.hid (((HM.out.below hb).below hbp))
  clear HM
  have HM := HM'
  clear HM'
  have HL' := Lib.hid (((HL.out.below hb).below hbp))
  clear HL
  have HL := HL'
  clear HL'
  have HN := Lib.hid hN
  have HT := Lib.hid hT
  have hB := below_then (below_then hB hB.size hb) (Nat.le_trans hB.size hb.size) hbp
  have hszw5 := Nat.le_trans hb.size hbp.size
  have hszt : w5.heap.size + 1 < w5p.heap.size := by rw [hw5p, putMS_size]; omega
  clear hN hT hb hbp
  obtain ⟨zn, hzn⟩ : ∃ z, z = w5.heap.size := ⟨_, rfl⟩
  obtain ⟨zt, hzt⟩ : ∃ z, z = w5.heap.size + 1 := ⟨_, rfl⟩
  rw [← hzt] at HT hszt
  rw [← hzn] at HN
  unfold putMS at hw5p
  obtain ⟨hl0, hl1, hl2⟩ := HL.out.cells
  obtain ⟨hn0, hn1, hn2⟩ := HN.out.cells
  obtain ⟨ht0, ht1, ht2⟩ := HT.out.cells
  rw [hw5p] at hl0 hl1 hl2 hn0 hn1 hn2 ht0 ht1 ht2
  go_upto_region 14 with (fail)
  rw [← hw5p]
  clear hw5p hzn hzt hl0 hl1 hl2 hn0 hn1 hn2 ht0 ht1 ht2 HL HN HT
  refine wpTwo_begin (T := fun w' => MBox w' zm (.slice q0 us.length d0) (.slice q1 ms.length d1) f ∧ MBox w' W.heap.size (.slice p0 n0 c0) (.slice p1 n1 c1) f) (S := fun _ => True) (late := fun _ => false) (by kernel_rfl) ?_
  obtain ⟨X0, hX0⟩ : ∃ X : World, X = w5p.drew := ⟨_, rfl⟩
  rw [← hX0]
  have hb : Below w5p.heap.size w5p X0 := by rw [hX0]; exact (Below.refl _ _).drew
  have hT0 := And.intro (HM.out.box.below hb) (HX.out.below hb)
  have HM0 := Lib.hid (HM.out.below hb)
  have hB := below_then hB hB.size hb
  clear hX0 hb HM HX
  refine wpTwo_takeT (i := 0) (v := .agg #[.slice q0 us.length d0, .slice q1 ms.length d1, .bool f]) rfl (by kernel_rfl) (by kernel_rfl) (by kernel_rfl) (fun _ _ _ h => h) ⟨by rfl, ?_⟩ hT0 ?_
  · rintro w hTw
    obtain ⟨⟨t0, t1, t2⟩, _⟩ := mbox_cells hTw.1
    go_simp
  (try simp only [Act.put, List.getElem_toArray, List.getElem_cons_zero, List.setIfInBounds_toArray, List.set_cons_succ, List.set_cons_zero])
  refine wpTwo_takeT (i := 1) (v := .agg #[.slice p0 n0 c0, .slice p1 n1 c1, .bool f]) rfl (by kernel_rfl) (by kernel_rfl) (by kernel_rfl) (fun _ _ _ h => h) ⟨by rfl, ?_⟩ hT0 ?_
  · rintro w hTw
    obtain ⟨⟨t0, t1, t2⟩, _⟩ := mbox_cells hTw.2
    go_simp
  (try simp only [Act.put, List.getElem_toArray, List.getElem_cons_succ, List.getElem_cons_zero, List.setIfInBounds_toArray, List.set_cons_succ, List.set_cons_zero])
  refine wpTwo_ready (rs := [2]) (by kernel_rfl) (by simp) ?_
  refine (AllTwo.cons rfl (fun K hK => ?_) AllTwo.nil)
  go_simp
  refine (own_c _ _ f ws ls _ (H0.out.below hB) (H1.out.below hB) HWL.out HLL.out).mono ?_
  rintro e X1 ⟨hg, hb⟩
  rw [← HUS.out, ← HMS.out] at hg
  obtain ⟨p6, n6, c6, p7, n7, c7, rfl, hN0, hN1⟩ := hg.reads
  have hT1 := And.intro (hT0.1.below hb) (hT0.2.below hb)
  have HM1 := Lib.hid (HM0.out.below hb)
  have HMR := Lib.hid (show MemAt X1 (.agg #[.slice p6 n6 c6, .slice p7 n7 c7, .bool f]) us ms f from ⟨_, _, rfl, hN0, hN1⟩)
  have hB := below_then hB hB.size hb
  clear hb hg hN0 hN1
  go_wp2_with fail
  refine hK.out _ _ ⟨hT1, fun _ _ => trivial⟩ ?_
  clear hK K HM0 hT0
  (try simp only [Act.put, List.getElem_toArray, List.getElem_cons_succ, List.getElem_cons_zero, List.setIfInBounds_toArray, List.set_cons_succ, List.set_cons_zero])
  refine wpTwo_ready (rs := [3]) (by kernel_rfl) (by simp) ?_
  refine (AllTwo.cons rfl (fun K hK => ?_) AllTwo.nil)
  go_simp
  refine (refSame_t _ _ us ms f X1 HM1.out.mem HMR.out (by omega) (by omega)).mono ?_
  rintro e X2 ⟨rfl, hb⟩
  have hT2 := And.intro (hT1.1.below hb) (hT1.2.below hb)
  have HBE := Lib.hid (below_then hB hB.size hb)
  clear hb hB
  go_wp2_with fail
  refine hK.out _ _ ⟨hT2, fun _ _ => trivial⟩ ?_
  clear hK K HM1 HMR hT1
  (try simp only [Act.put, List.getElem_toArray, List.getElem_cons_succ, List.getElem_cons_zero, List.setIfInBounds_toArray, List.set_cons_succ, List.set_cons_zero])
  refine wpTwo_takeT (i := 4) (v := .bool true) rfl (by kernel_rfl) (by kernel_rfl) (by kernel_rfl) (fun _ _ _ h => h) ⟨by rfl, ?_⟩ hT2 ?_
  · rintro w hTw
    go_simp
  (try simp only [Act.put, List.getElem_toArray, List.getElem_cons_succ, List.getElem_cons_zero, List.setIfInBounds_toArray, List.set_cons_succ, List.set_cons_zero])
  refine wpTwo_end (by kernel_rfl) ?_ _
  go_wp2
  go_ret
  exact ⟨rfl, HBE.out⟩

end Go.Proofs.Ytcnpmkigiklnnaa
namespace Go.Proofs.Ytcnpmkigiklnnaa
open Go.RowKit Go.Shelf
attribute [local go_sem] Oper.semAt_some

set_option maxRecDepth 100000 in
set_option maxHeartbeats 40000000 in
theorem steps_B (v0 v1 : Value) (f : Bool) (ws : List Int) (ls : List Bool) (q a p t : Int) (W : World) (h0 : ArgR W v0 (ws.map (Value.int .u64))) (h1 : ArgR W v1 (ls.map Value.bool)) (hw : ws.length ≤ 9223372036854775807) (hl : ls.length ≤ 9223372036854775807)
    (hq : -9223372036854775808 ≤ q ∧ q ≤ 9223372036854775807) (hsr : SpR ⟨a, p, t⟩) (hrg : WRange ws) (hr : rightB (ws.take 16) (ls.take 16) = true) (hs : rightS ⟨a, p, t⟩ = false) (hly : LayNo (ws.take 16) (ls.take 16) q) :
    Calls Try.prog 4 #[.agg #[v0, v1, .bool f], .int .i64 q, .agg #[.int .i64 a, .int .i64 p, .int .u64 t]] W fun e w' => e = .returned (.bool true) ∧ Below W.heap.size W w' := by
  have h0' := h0
  have h1' := h1
  obtain ⟨p0, n0, c0, rfl, -, -⟩ := h0'
  obtain ⟨p1, n1, c1, rfl, -, -⟩ := h1'
  have H0 := Lib.hid h0
  have H1 := Lib.hid h1
  have HWL := Lib.hid hw
  have HLL := Lib.hid hl
  have HRG := Lib.hid (show WRange (ws.take 16) from fun x hx => hrg x (List.mem_of_mem_take hx))
  have HSR := Lib.hid hsr
  have HQ := Lib.hid hq
  clear h0 h1 hw hl hrg hsr
  obtain ⟨wo, hwo⟩ : ∃ wo : World, wo = (W.alloc (.cells #[.slice p0 n0 c0, .slice p1 n1 c1, .bool f] 46)).alloc (.cells #[.int .i64 a, .int .i64 p, .int .u64 t] 24) := ⟨_, rfl⟩
  obtain ⟨zs, hzs⟩ : ∃ z, z = W.heap.size + 1 := ⟨_, rfl⟩
  have hB : Below W.heap.size W wo := by rw [hwo]; exact below2 W _ _
  have HX := Lib.hid (show MBox wo W.heap.size (.slice p0 n0 c0) (.slice p1 n1 c1) f by rw [hwo]; exact (MBox.new _ _ _ _).alloc _)
  have HS := Lib.hid (show SpBox wo zs a p t by
    rw [hwo, hzs]
    have := World.alloc_heap_new (W.alloc (.cells #[.slice p0 n0 c0, .slice p1 n1 c1, .bool f] 46)) (.cells #[.int .i64 a, .int .i64 p, .int .u64 t] 24)
    rw [World.size_alloc] at this
    exact this)
  have hszo : zs < wo.heap.size := by rw [hwo, hzs]; simp
  have hzsW : W.heap.size < zs := by omega
  go_enter Try.func4, Try.ntmps4
  go_wp2_with fail
  rw [← hwo, ← hzs]
  clear hwo hzs
  refine (qwakes _).mono ?_
  rintro e w1 ⟨rfl, hb⟩
  have HX' := Lib.hid ((HX.out.below hb))
  clear HX
  have HX := HX'
  clear HX'
  have HS' := Lib.hid ((HS.out.below hb))
  clear HS
  have HS := HS'
  clear HS'
  have hB := below_then hB hB.size hb
  have hsz1 := hb.size
  clear hb
  obtain ⟨hx0, hx1, hx2⟩ := (mbox_cells HX.out).1
  go_wp2_with fail
  clear hx0 hx1 hx2
  refine (own_c _ _ f ws ls _ (H0.out.below hB) (H1.out.below hB) HWL.out HLL.out).mono ?_
  rintro e w2 ⟨hg, hb⟩
  obtain ⟨q0, d0, q1, d1, rfl, w2p, hw2p, hM, hbp⟩ := own_putP hg hb.size
  have hul : (ws.take 16).length ≤ 16 := by simp; omega
  have hml : (ls.take 16).length ≤ 16 := by simp; omega
  have HM := Lib.hid hM
  have HX' := Lib.hid (((HX.out.below hb).below hbp))
  clear HX
  have HX := HX'
  clear HX'
  have HS' := Lib.hid (((HS.out.below hb).below hbp))
  clear HS
  have HS := HS'
  clear HS'
  have hB := below_then (below_then hB hB.size hb) (Nat.le_trans hB.size hb.size) hbp
  have hsz2 := Nat.le_trans hb.size hbp.size
  clear hg hM hb hbp
  obtain ⟨us, hus⟩ : ∃ u, u = ws.take 16 := ⟨_, rfl⟩
  obtain ⟨ms, hms⟩ : ∃ u, u = ls.take 16 := ⟨_, rfl⟩
  rw [← hus, ← hms] at hr
  rw [← hus, ← hms] at hly
  rw [← hus] at hul HM hw2p HRG
  rw [← hms] at hml HM hw2p
  have HUS := Lib.hid hus
  have HMS := Lib.hid hms
  clear hus hms
  obtain ⟨zm, hzm⟩ : ∃ z, z = w2.heap.size := ⟨_, rfl⟩
  obtain ⟨hm0, hm1, hm2⟩ := HM.out.cells
  unfold putM at hw2p
  rw [hw2p] at hm0 hm1 hm2
  rw [← HUS.out, ← HMS.out]
  go_wp2_with fail
  rw [← hw2p, ← hzm]
  rw [← hzm] at HM
  clear hw2p hzm hm0 hm1 hm2
  have HCK := refRight_c _ us ms f w2p HM.out.mem (by omega)
  rw [hr] at HCK
  refine HCK.mono ?_
  rintro e w3 ⟨rfl, hb⟩
  have HX' := Lib.hid ((HX.out.below hb))
  clear HX
  have HX := HX'
  clear HX'
  have HS' := Lib.hid ((HS.out.below hb))
  clear HS
  have HS := HS'
  clear HS'
  have HM' := Lib.hid ((HM.out.below hb))
  clear HM
  have HM := HM'
  clear HM'
  have hB := below_then hB hB.size hb
  have hsz3 := hb.size
  clear hb HCK
  obtain ⟨hm0, hm1, hm2⟩ := HM.out.cells
  go_wp2_with fail
  clear hm0 hm1 hm2
  have hlen := (rightB_iff.1 hr).2.2.1
  have hn1 := (rightB_iff.1 hr).1
  obtain ⟨gw, xg, hf, -, -⟩ := own_form HM.out.words (by omega)
  injection hf with hf hf2 hf3
  subst hf hf3
  obtain ⟨gl, xl, hf, -, -⟩ := own_form HM.out.lives (by omega)
  injection hf with hf hf4 hf3
  subst hf hf3
  clear hf2 hf4
  have HLEN := Lib.hid hlen
  clear hlen
  have HLY := Lib.hid hly
  clear hly
  refine (qlay_no _ us ms f q w3 HM.out.mem hr HQ.out (layno_live HLY.out)).mono ?_
  rintro e w4 ⟨rfl, hb⟩
  obtain ⟨w4p, hw4p⟩ : ∃ x, x = putM w4 (.slice none 0 0) (.slice none 0 0) false := ⟨_, rfl⟩
  have hbp : Below w4.heap.size w4 w4p := by rw [hw4p]; exact putM_below _ _ _ _
  have hN := nil_putP _ w4 hb.size
  rw [← hw4p] at hN
  have HX' := Lib.hid (((HX.out.below hb).below hbp))
  clear HX
  have HX := HX'
  clear HX'
  have HS' := Lib.hid (((HS.out.below hb).below hbp))
  clear HS
  have HS := HS'
  clear HS'
  have HM' := Lib.hid (((HM.out.below hb).below hbp))
  clear HM
  have HM := HM'
  clear HM'
  have HL := Lib.hid hN
  have hB := below_then (below_then hB hB.size hb) (Nat.le_trans hB.size hb.size) hbp
  have hszw4 := Nat.le_trans hb.size hbp.size
  clear hN hb hbp
  unfold putM at hw4p
  obtain ⟨zl, hzl⟩ : ∃ z, z = w4.heap.size := ⟨_, rfl⟩
  rw [← hzl] at HL
  obtain ⟨hm0, hm1, hm2⟩ := HM.out.cells
  obtain ⟨hs0, hs1, hs2⟩ := HS.out.cells
  rw [hw4p] at hm0 hm1 hm2 hs0 hs1 hs2
  go_wp2_with fail
  rw [← hw4p]
  clear hw4p hm0 hm1 hm2 hs0 hs1 hs2
  refine (qstep_spin _ us ms f a p t w4p HM.out.mem hr hs).mono ?_
  rintro e w5 ⟨rfl, hb⟩
  obtain ⟨w5p, hw5p⟩ : ∃ x, x = putMS w5 (.slice none 0 0) (.slice none 0 0) false 0 0 0 := ⟨_, rfl⟩
  have hbp : Below w5.heap.size w5 w5p := by rw [hw5p]; exact putMS_below _ _ _ _ _ _ _
  have hN := putMS_nil w5 0 0 0 hb.size
  have hT := putMS_sbox w5 (.slice none 0 0) (.slice none 0 0) false 0 0 0
  rw [← hw5p] at hN hT
  have HX' := Lib.hid (((HX.out.below hb).below hbp))
  clear HX
  have HX := HX'
  clear HX'
  have HS' := Lib.hid (((HS.out.below hb).below hbp))
  clear HS
  have HS := HS'
  clear HS'
  have HM' := Lib.hid (((HM.out.below hb).below hbp))
  clear HM
  have HM := HM'
  clear HM'
  have HL' := Lib.hid (((HL.out.below hb).below hbp))
  clear HL
  have HL := HL'
  clear HL'
  have HN := Lib.hid hN
  have HT := Lib.hid hT
  have hB := below_then (below_then hB hB.size hb) (Nat.le_trans hB.size hb.size) hbp
  have hszw5 := Nat.le_trans hb.size hbp.size
  have hszt : w5.heap.size + 1 < w5p.heap.size := by rw [hw5p, putMS_size]; omega
  clear hN hT hb hbp
  obtain ⟨zn, hzn⟩ : ∃ z, z = w5.heap.size := ⟨_, rfl⟩
  obtain ⟨zt, hzt⟩ : ∃ z, z = w5.heap.size + 1 := ⟨_, rfl⟩
  rw [← hzt] at HT hszt
  rw [← hzn] at HN
  unfold putMS at hw5p
  have hzml : zl < w4p.heap.size := HL.out.to'
  have hzmm : zm < w2p.heap.size := HM.out.to'
  obtain ⟨F, hFE⟩ : ∃ F : World → Prop, F = fun w => MBox w W.heap.size (.slice p0 n0 c0) (.slice p1 n1 c1) f ∧ SpBox w zs a p t ∧ PVar w w1.heap.size w2p.heap.size zm (.slice (some ⟨gw, 0, none⟩) us.length d0) (.slice (some ⟨gl, 0, none⟩) ms.length d1) us ms f ∧ PVar w w3.heap.size w4p.heap.size zl (.slice none 0 0) (.slice none 0 0) [] [] false ∧ PVar w w4p.heap.size w5p.heap.size zn (.slice none 0 0) (.slice none 0 0) [] [] false ∧ SpBox w zt 0 0 0 ∧ Below W.heap.size W w := ⟨_, rfl⟩
  have HFE := Lib.hid (show ∀ w, F w → MBox w W.heap.size (.slice p0 n0 c0) (.slice p1 n1 c1) f ∧ SpBox w zs a p t ∧ PVar w w1.heap.size w2p.heap.size zm (.slice (some ⟨gw, 0, none⟩) us.length d0) (.slice (some ⟨gl, 0, none⟩) ms.length d1) us ms f ∧ PVar w w3.heap.size w4p.heap.size zl (.slice none 0 0) (.slice none 0 0) [] [] false ∧ PVar w w4p.heap.size w5p.heap.size zn (.slice none 0 0) (.slice none 0 0) [] [] false ∧ SpBox w zt 0 0 0 ∧ Below W.heap.size W w from fun w h => by rw [hFE] at h; exact h)
  have hF : F w5p := by rw [hFE]; exact ⟨HX.out, HS.out, HM.out, HL.out, HN.out, HT.out, hB⟩
  have HST := Lib.hid (show Stab w5p.heap.size F from fun w w' h hk => by
    rw [hFE] at h ⊢
    obtain ⟨g1, g2, g3, g4, g5, g6, g7⟩ := h
    exact ⟨g1.keeps hk (by omega), g2.keeps hk (by omega), g3.keeps hk (fun q hq => .inr (by omega)), g4.keeps hk (fun q hq => .inr (by omega)), g5.keeps hk (fun q hq => .inr hq), g6.keeps hk (by omega), g7.trans (hk.below g7.size (fun q hq => by omega))⟩)
  have HF := Lib.hid hF
  clear hFE hF
  go_upto_block 0 with fail
  rw [← hw5p, ← hzl, ← hzt, ← hzn]
  clear hw5p hzl hzn hzt
  have HWW : Hid (W.heap.size ≤ w5p.heap.size) := Lib.hid hB.size
  clear hB
  go_cut [] (fun wc => Hid (F wc ∧ w5p.heap.size ≤ wc.heap.size))
  case first =>
    rcases HLY.out with ⟨hq0, -⟩ | ⟨k, rfl, hkl, -⟩ | ⟨k, rfl, hk, hkl, hv1, -⟩ | ⟨k, rfl, hk, hkl, hv1, hv2, -⟩
    · obtain ⟨hm0, hm1, hm2⟩ := HM.out.cells
      obtain ⟨hl0, hl1, hl2⟩ := HL.out.cells
      clear HM HL HS HN HT HX
      go_wp2
      go_meet
      exact Lib.hid ⟨HF.out, Nat.le_refl _⟩
    · obtain ⟨hm0, hm1, hm2⟩ := HM.out.cells
      obtain ⟨hl0, hl1, hl2⟩ := HL.out.cells
      clear HM HL HS HN HT HX
      go_wp2
      go_meet
      exact Lib.hid ⟨HF.out, Nat.le_refl _⟩
    · obtain ⟨hm0, hm1, hm2⟩ := HM.out.cells
      obtain ⟨hl0, hl1, hl2⟩ := HL.out.cells
      have hb1 := HM.out.lv hv1
      have hkm : k < ms.length := by have := HLEN.out; omega
      clear HM HL HS HN HT HX hv1
      go_wp2
      go_meet
      exact Lib.hid ⟨HF.out, Nat.le_refl _⟩
    · obtain ⟨hm0, hm1, hm2⟩ := HM.out.cells
      obtain ⟨hl0, hl1, hl2⟩ := HL.out.cells
      have hb1 := HM.out.lv hv1
      have hb2 := HM.out.lv hv2
      have hkm : k + 1 < ms.length := by have := HLEN.out; omega
      clear HM HL HS HN HT HX hv1 hv2
      go_wp2
      go_meet
      exact Lib.hid ⟨HF.out, Nat.le_refl _⟩
  case rest =>
    obtain ⟨hF, hszc⟩ := hcut.out
    clear hcut HX HS HM HL HN HT HF
    obtain ⟨fX, fS, fM, fL, fN, fT, hB⟩ := HFE.out _ hF
    have HX := Lib.hid fX
    have HS := Lib.hid fS
    have HM := Lib.hid fM
    have HL := Lib.hid fL
    have HN := Lib.hid fN
    have HT := Lib.hid fT
    clear fX fS fM fL fN fT
    obtain ⟨hs0, hs1, hs2⟩ := HS.out.cells
    go_wp2_with fail
    have HCK := qrright ⟨a, p, t⟩ wc
    rw [hs] at HCK
    refine HCK.mono ?_
    rintro e w6 ⟨rfl, hb⟩
    have hF := HST.out.below hF hb
    have hszc := Nat.le_trans hszc hb.size
    clear hs0 hs1 hs2 hb hB HX HS HM HL HN HT HCK
    obtain ⟨fX, fS, fM, fL, fN, fT, hB⟩ := HFE.out _ hF
    have HX := Lib.hid fX
    have HS := Lib.hid fS
    have HM := Lib.hid fM
    have HL := Lib.hid fL
    have HN := Lib.hid fN
    have HT := Lib.hid fT
    clear fX fS fM fL fN fT
    have HBE := Lib.hid hB
    obtain ⟨hn0, hn1, hn2⟩ := HN.out.cells
    obtain ⟨ht0, ht1, ht2⟩ := HT.out.cells
    clear hB HX HS HM HL HN HT
    go_wp2
    go_ret
    exact ⟨rfl, HBE.out⟩

end Go.Proofs.Ytcnpmkigiklnnaa
