/-
  The reader of package script: picks reads picks; begin, with no words and with some; one round of reading.
  Conditions: the reader lies so; the package's table of parts is as it was laid.
-/
import Derived.Test.YtjgdkfgcfningaaDoorSRd2
namespace Go.Proofs.YtjgdkfgcfningaaDoor
open Go.RowKit Go.Shelf
attribute [local go_sem] Oper.semAt_some

theorem int_info : (Tryd.prog.info? 3).map (fun i => (i.zero, i.size, i.bytes)) = some (some (.int .i64 0), 1, 8) := by kernel_rfl
theorem RdrP.box2 {Y1 Y2 : World} {r z c g : Nat} {st : RdS} {ws : List Nat} {vs : List Value} {vp : Value} {p : Option Addr} {n d : Nat} (h : RdrP Y1 r z c g st ws vs vp p n d) (hg : Y1.grownBy Y2 vp.ownBlock) : RBox Y2 r (.int .i64 (c : Int)) (.int .i64 (g : Int)) (.slice (some ⟨z, 0, none⟩) c c) vp (.slice p n d) :=
  (hg.block r h.box.lt (fun e => by have := (h.picks.lt r e.symm).1; have := h.lt; omega)).trans h.box
/-- A pick more. -/
theorem RdrP.pick {Y1 Y2 : World} {r z c g : Nat} {st : RdS} {ws : List Nat} {vs : List Value} {vp v' : Value} {p : Option Addr} {n d : Nat} {x : Int} (h : RdrP Y1 r z c g st ws vs vp p n d) (hown : Y2.ownsRow (z + 1) 3 1 v' (st.2.length + 1) (st.2.map (Value.int .i64) ++ [.int .i64 x])) (hg : Y1.grownBy Y2 vp.ownBlock) :
    RdrP (Y2.setCell ⟨r, 3, none⟩ v') r z c g (st.1, st.2 ++ [x]) ws vs v' p n d ∧ Below r Y1 (Y2.setCell ⟨r, 3, none⟩ v') := by
  have hrz := h.lt
  have hub : ∀ gg, vp.ownBlock = some gg → z + 1 ≤ gg := fun gg e => (h.picks.lt gg e).1
  have hne : ∀ b, b ≤ z → some b ≠ vp.ownBlock := fun b hb e => by have := hub b e.symm; omega
  have hbox2 : RBox Y2 r _ _ _ _ _ := (hg.block r h.box.lt (hne r (by omega))).trans h.box
  have hk2 : Keeps (fun q => q = r) Y2 (Y2.setCell ⟨r, 3, none⟩ v') := Keeps.setCell Y2 (S := fun q => q = r) (p := ⟨r, 3, none⟩) rfl _
  have hk1 : Keeps (fun q => some q = vp.ownBlock) Y1 Y2 := ⟨hg.os, hg.tape, hg.output, hg.size, fun q hq hn => hg.block q hq hn⟩
  have hrows : RowsC Y2 z vs st.1 := h.rows.keeps hk1 (hne z (Nat.le_refl _)) (fun j hj q hq e => by
    have h2 : j < st.1.length := by rw [← h.rows.len]; exact hj
    exact owns_ne (h.rows.own j hj h2) h.picks (by decide) hq e.symm rfl)
  have hB : Below r Y1 (Y2.setCell ⟨r, 3, none⟩ v') := ((Below.refl r Y1).grown hg (by have := h.box.lt; omega) (fun q e => by have := hub q e; omega)).setCell (p := ⟨r, 3, none⟩) (Nat.le_refl _) _
  refine ⟨⟨hbox2.set3 v', hrows.keeps hk2 (by omega) (fun j hj q hq e => by
    subst e
    have h2 : j < st.1.length := by rw [← h.rows.len]; exact hj
    have := ((h.rows.own j hj h2).lt _ hq).1
    omega), ?_, h.left.below hB (Nat.le_refl _), hrz⟩, hB⟩
  rw [List.length_append, List.map_append]
  exact ownsRow_setCell_below hown (a := ⟨r, 3, none⟩) (by show r < z + 1; omega) v'

set_option maxRecDepth 100000 in
set_option maxHeartbeats 4000000 in
theorem picks_c (r z c g h : Nat) (st : RdS) (ws : List Nat) (W : World) (H : Rdr W r z c g st ws) (hh : h < 18446744073709551616) (hc1 : 1 ≤ c) (hc8 : c ≤ 8) (hp : st.2.length ≤ 4096) (hT : Tab W) :
    Calls Tryd.prog 36 #[.pointer (some ⟨r, 0, none⟩), .int .u64 (h : Int)] W fun e w' => e = .returned (.tuple #[]) ∧ Rdr w' r z c g (pickS c h st) ws ∧ Below r W w' ∧ Fars W w' := by
  obtain ⟨vs, vp, p, n, d, H⟩ := H
  have HCP := Lib.hid (cpu_c r h c hh hc1 hc8 _ _ _ _ W H.box hT)
  have hr1 : r < W.heap.size := H.box.lt
  have hgl := getN_small h (i := 4) (by omega)
  obtain ⟨gg, hgg⟩ : ∃ x, x = getN h (partAt 4) (partW 4) := ⟨_, rfl⟩
  have HCG := Lib.hid (show ∀ W', Tab W' → Calls Tryd.prog 38 #[.int .u64 h, .int .i64 4] W' fun e w' => e = .returned (.int .i64 (gg : Nat)) ∧ Below W'.heap.size W' w' from fun W' ht => by rw [hgg]; exact part_c h hh 4 (by omega) W' ht)
  rw [← hgg] at hgl
  obtain ⟨np, hnp⟩ : ∃ n, n = st.2.length := ⟨_, rfl⟩
  rw [← hnp] at hp
  obtain ⟨M, hM⟩ : ∃ m, m = manyS h np := ⟨_, rfl⟩
  have hMe : M = min (gg + 1) (4096 - np) := by rw [hM, hgg]; rfl
  have hMl : M ≤ 256 := by omega
  have hML : M ≤ 4096 - np := by omega
  have hmin : ∀ w, (Builtin.min_ #[3, 3] 3 #[.int .i64 ((gg : Int) + 1), .int .i64 (4096 - (np : Int))]).run Tryd.prog w = .ok (.int .i64 (M : Int)) w := fun w => by
    have : (if 4096 - (np : Int) < (gg : Int) + 1 then 4096 - (np : Int) else (gg : Int) + 1) = (M : Int) := by rw [hMe]; split <;> omega
    simp [Builtin.min_, Builtin.min2, this]
  have HH := Lib.hid H
  have HT := Lib.hid hT
  have HNP := Lib.hid hnp
  have HPS := Lib.hid (show pickS c h st = (st.1, st.2 ++ List.replicate M (cpuOf c h : Int)) by rw [hM, hnp]; rfl)
  clear H hT hgg hM hMe hnp
  go_enter Tryd.func36, Tryd.ntmps36
  go_wp2_with fail
  refine HCP.out.mono ?_
  rintro e w1 ⟨rfl, hb1⟩
  have HR1 := Lib.hid (HH.out.below hb1)
  have HT1 := Lib.hid (HT.out.below hb1)
  have HB1 := Lib.hid (hb1.mono (Nat.le_of_lt hr1))
  have HF1 := Lib.hid (Fars.below hb1)
  have hq0 := cpuOf_lt hc1 h
  obtain ⟨q, hq⟩ : ∃ q, q = cpuOf c h := ⟨_, rfl⟩
  rw [← hq] at hq0 ⊢
  have HQ := Lib.hid hq
  clear hb1 HCP hq HT
  obtain ⟨pp, cp, hvp⟩ := owns_slice HR1.out.picks
  rw [← HNP.out] at hvp
  subst hvp
  go_upto_region 1 with (fail)
  refine wpTwo_begin (T := fun w' => w'.cell? ⟨r, 3, none⟩ = some (.slice pp np cp)) (S := fun _ => True) (late := fun _ => false) (by kernel_rfl) ?_
  obtain ⟨X0, hX0⟩ : ∃ X : World, X = w1.drew := ⟨_, rfl⟩
  have hd : Below w1.heap.size w1 X0 := by rw [hX0]; exact (Below.refl _ _).drew
  have HR2 := Lib.hid (HR1.out.below hd)
  have HT2 := Lib.hid (HT1.out.below hd)
  have hr2 : r < w1.heap.size := HR1.out.box.lt
  have HB2 := Lib.hid (HB1.out.trans (hd.mono (Nat.le_of_lt hr2)))
  have HF2 := Lib.hid (HF1.out.trans (Fars.below hd))
  have hT0 : X0.cell? ⟨r, 3, none⟩ = some (.slice pp np cp) := HR2.out.box.cells.1.2.2.2.1
  rw [← hX0]
  clear hX0 hd HR1 HT1 HB1
  refine wpTwo_takeT (i := 0) (v := .int .u64 (h : Int)) rfl (by kernel_rfl) (by kernel_rfl) (by kernel_rfl) (fun _ _ _ h => h) ⟨by rfl, ?_⟩ hT0 ?_
  · intro w _
    go_simp
  (try simp only [Act.put, List.getElem_toArray, List.getElem_cons_zero, List.setIfInBounds_toArray, List.set_cons_succ, List.set_cons_zero])
  refine wpTwo_takeT (i := 3) (v := .pointer (some ⟨r, 0, none⟩)) rfl (by kernel_rfl) (by kernel_rfl) (by kernel_rfl) (fun _ _ _ h => h) ⟨by rfl, ?_⟩ hT0 ?_
  · intro w _
    go_simp
  (try simp only [Act.put, List.getElem_toArray, List.getElem_cons_succ, List.getElem_cons_zero, List.setIfInBounds_toArray, List.set_cons_succ, List.set_cons_zero])
  refine wpTwo_takeT (i := 4) (v := .pointer (some ⟨r, 0, none⟩)) rfl (by kernel_rfl) (by kernel_rfl) (by kernel_rfl) (fun _ _ _ h => h) ⟨by rfl, ?_⟩ hT0 ?_
  · intro w _
    go_simp
  (try simp only [Act.put, List.getElem_toArray, List.getElem_cons_succ, List.getElem_cons_zero, List.setIfInBounds_toArray, List.set_cons_succ, List.set_cons_zero])
  refine wpTwo_takeT (i := 5) (v := .pointer (some ⟨r, 0, none⟩)) rfl (by kernel_rfl) (by kernel_rfl) (by kernel_rfl) (fun _ _ _ h => h) ⟨by rfl, ?_⟩ hT0 ?_
  · intro w _
    go_simp
  (try simp only [Act.put, List.getElem_toArray, List.getElem_cons_succ, List.getElem_cons_zero, List.setIfInBounds_toArray, List.set_cons_succ, List.set_cons_zero])
  refine wpTwo_takeT (i := 6) (v := .pointer (some ⟨r, 3, none⟩)) rfl (by kernel_rfl) (by kernel_rfl) (by kernel_rfl) (fun _ _ _ h => h) ⟨by rfl, ?_⟩ hT0 ?_
  · intro w _
    go_simp
  (try simp only [Act.put, List.getElem_toArray, List.getElem_cons_succ, List.getElem_cons_zero, List.setIfInBounds_toArray, List.set_cons_succ, List.set_cons_zero])
  refine wpTwo_takeT (i := 7) (v := .slice pp np cp) rfl (by kernel_rfl) (by kernel_rfl) (by kernel_rfl) (fun _ _ _ h => h) ⟨by rfl, ?_⟩ hT0 ?_
  · intro w hTw
    go_simp
  (try simp only [Act.put, List.getElem_toArray, List.getElem_cons_succ, List.getElem_cons_zero, List.setIfInBounds_toArray, List.set_cons_succ, List.set_cons_zero])
  refine wpTwo_takeT (i := 8) (v := .int .i64 (np : Int)) rfl (by kernel_rfl) (by kernel_rfl) (by kernel_rfl) (fun _ _ _ h => h) ⟨by rfl, ?_⟩ hT0 ?_
  · intro w _
    go_simp
  (try simp only [Act.put, List.getElem_toArray, List.getElem_cons_succ, List.getElem_cons_zero, List.setIfInBounds_toArray, List.set_cons_succ, List.set_cons_zero])
  refine wpTwo_takeT (i := 9) (v := .int .i64 (4096 - (np : Int))) rfl (by kernel_rfl) (by kernel_rfl) (by kernel_rfl) (fun _ _ _ h => h) ⟨by rfl, ?_⟩ hT0 ?_
  · intro w _
    go_simp
    exact IntWalk.i64_in _ (by omega)
  (try simp only [Act.put, List.getElem_toArray, List.getElem_cons_succ, List.getElem_cons_zero, List.setIfInBounds_toArray, List.set_cons_succ, List.set_cons_zero])
  refine wpTwo_takeT (i := 11) (v := .int .i64 0) rfl (by kernel_rfl) (by kernel_rfl) (by kernel_rfl) (fun _ _ _ h => h) ⟨by rfl, ?_⟩ hT0 ?_
  · intro w _
    go_simp
  (try simp only [Act.put, List.getElem_toArray, List.getElem_cons_succ, List.getElem_cons_zero, List.setIfInBounds_toArray, List.set_cons_succ, List.set_cons_zero])
  refine wpTwo_ready (rs := [1]) (by kernel_rfl) (by simp) ?_
  refine (AllTwo.cons rfl (fun K hK => ?_) AllTwo.nil)
  go_simp
  refine (HCG.out _ HT2.out).mono ?_
  rintro e X1 ⟨rfl, hb2⟩
  have hT1 := below_cell hb2 hT0
  have HR3 := Lib.hid (HR2.out.below hb2)
  have hr3 : r < X0.heap.size := HR2.out.box.lt
  have HB3 := Lib.hid (HB2.out.trans (hb2.mono (Nat.le_of_lt hr3)))
  have HF3 := Lib.hid (HF2.out.trans (Fars.below hb2))
  go_wp2_with fail
  refine hK.out _ _ ⟨hT1, fun _ _ => trivial⟩ ?_
  clear hK K hb2 hT0 HR2 HT2 HB2 HCG
  (try simp only [Act.put, List.getElem_toArray, List.getElem_cons_succ, List.getElem_cons_zero, List.setIfInBounds_toArray, List.set_cons_succ, List.set_cons_zero])
  refine wpTwo_takeT (i := 2) (v := .int .i64 ((gg : Int) + 1)) rfl (by kernel_rfl) (by kernel_rfl) (by kernel_rfl) (fun _ _ _ h => h) ⟨by rfl, ?_⟩ hT1 ?_
  · intro w _
    go_simp
    exact IntWalk.i64_in _ (by omega)
  (try simp only [Act.put, List.getElem_toArray, List.getElem_cons_succ, List.getElem_cons_zero, List.setIfInBounds_toArray, List.set_cons_succ, List.set_cons_zero])
  refine wpTwo_ready (rs := [10]) (by kernel_rfl) (by simp) ?_
  refine (AllTwo.cons rfl (fun K hK => ?_) AllTwo.nil)
  go_simp
  refine hK.out _ _ ⟨hT1, fun _ _ => trivial⟩ ?_
  clear hK K hmin hT1
  (try simp only [Act.put, List.getElem_toArray, List.getElem_cons_succ, List.getElem_cons_zero, List.setIfInBounds_toArray, List.set_cons_succ, List.set_cons_zero])
  refine wpTwo_end (by kernel_rfl) ?_ _
  go_wp2
  go_loopw [19] (fun iv wr => ∃ i : Nat, i ≤ M ∧ iv = .int .i64 i ∧ Hid (Rdr wr r z c g (st.1, st.2 ++ List.replicate i (q : Int)) ws ∧ Below r W wr ∧ Fars W wr)) (fun iv _ => M - (intOf iv).toNat)
  case atStart => exact ⟨0, Nat.zero_le _, rfl, Lib.hid ⟨⟨_, _, _, _, _, by simpa using HR3.out⟩, HB3.out, HF3.out⟩⟩
  case round =>
    clear HR3 HB3 HF3
    obtain ⟨i, hi, rfl, HRI⟩ := hrel
    by_cases hlt : i < M
    · obtain ⟨⟨vs2, vp2, p2, n2, d2, hR⟩, hBI, hFI⟩ := HRI.out
      have hcl := hR.box.cells
      obtain ⟨⟨h0, h1, h2, h3, h4⟩, hf⟩ := hcl
      have hf3 := hf 3
      have hlen : (st.2 ++ List.replicate i (q : Int)).length = np + i := by rw [List.length_append, List.length_replicate, ← HNP.out]
      have hown := hR.picks
      simp only [hlen] at hown
      obtain ⟨pq, cq, rfl⟩ := owns_slice hown
      obtain ⟨i0, hi0, hz0, hz1, hz2⟩ := info_parts int_info
      have hwz : z + 1 ≤ wr.heap.size := by have := hR.rows.box.lt; omega
      have hbA : Below wr.heap.size wr (wr.alloc (.cells #[.int .i64 (q : Int)] 3)) := (Below.refl _ _).alloc (Nat.le_refl _) _
      have HRA := Lib.hid (hR.below hbA)
      have hrr : r < wr.heap.size := hR.box.lt
      have HBA := Lib.hid (hBI.trans (hbA.mono (Nat.le_of_lt hrr)))
      have HFA := Lib.hid (hFI.trans (Fars.below hbA))
      have HOA := Lib.hid (owns_below hown hbA)
      have HLN := Lib.hid hlen
      obtain ⟨ln, hln⟩ : ∃ l, l = np + i := ⟨_, rfl⟩
      rw [← hln] at h3 HOA HLN
      rw [← hln] at HRA
      have hlnb : ln ≤ 8192 := by omega
      clear hR hBI hFI h0 h1 h2 h4 hf hown hlen hbA hln
      go_wp2_with (at_builtin; refine wpList_append_own _ rfl _ _ 23 rfl (z + 1) 3 i0 (.int .i64 0) 1 8 Tryd.underlying23 hi0 hz0 hz1 hz2 rfl (by decide) _ _ _ rfl HOA.out ⟨wr.heap.size, 0, none⟩ 1 1 [.int .i64 (q : Int)] rfl rfl (World.news_of_block (World.alloc_heap_new _ _)) (fun y hy => by rw [List.mem_singleton.1 hy]; rfl) (by unfold maxLen; omega) (by omega) (by simp; omega) ?_; intro v' w2 hown' hgrow _; obtain ⟨pv, cv, rfl⟩ := owns_slice hown'; have hbx := HRA.out.box2 hgrow; have hcc := hbx.cells.1.2.2.2.1; have hff := hbx.cells.2 3; have X := Lib.hid (And.intro hown' hgrow); clear hown' hgrow hbx)
      obtain ⟨hown2, hgrow⟩ := X.out
      have hpk := HRA.out.pick (x := (q : Int)) (by rw [HLN.out]; exact hown2) hgrow
      have HFIN := Lib.hid (show Rdr (w2.setCell ⟨r, 3, none⟩ (.slice pv (ln + 1) cv)) r z c g (st.1, st.2 ++ List.replicate (i + 1) (q : Int)) ws ∧ Below r W (w2.setCell ⟨r, 3, none⟩ (.slice pv (ln + 1) cv)) ∧ Fars W (w2.setCell ⟨r, 3, none⟩ (.slice pv (ln + 1) cv)) from ⟨⟨_, _, _, _, _, by
        have := hpk.1
        simp only [List.append_assoc] at this
        rw [List.replicate_succ']
        exact this⟩, HBA.out.trans hpk.2, HFA.out.trans fun T h1 _ _ h4 => (Far.grown hgrow HOA.out h4).trans (Far.keep (Keeps.setCell w2 (S := fun k => k = r) (p := ⟨r, 3, none⟩) rfl _) (HRA.out.box2 hgrow) h1)⟩)
      clear hpk hown2 hgrow
      go_roundw
      case rel => exact ⟨i + 1, by omega, by go_num, HFIN⟩
      case measure => simp [intOf]; omega
    · obtain rfl : i = M := by omega
      go_wp2
      go_end0
      exact ⟨rfl, by rw [HPS.out, ← HQ.out]; exact HRI.out.1, HRI.out.2⟩

end Go.Proofs.YtjgdkfgcfningaaDoor
