/-
  step and turn, of a play of package spin: the step of one who wants a lock; what lies outside the play stays.
  Conditions: the play lies so; there is such a one; all may be.
-/
import Derived.Test.YtcledklajcdfiaaQPlay0
import Derived.Deep.Cut
namespace Go.Proofs.Ytcledklajcdfiaa
open Go.RowKit Go.Shelf
attribute [local go_sem] spV ndV
attribute [local go_sem] Oper.semAt_some

theorem stepP_no {ls : List Bool} {P : PlM} {i : Nat} (h : hasS (P.ss.getD i dS) = false) (hi : i < P.ss.length) : stepP ls P i = P := by
  unfold stepP stepM
  rw [h]
  obtain ⟨ws, f, ss⟩ := P
  simp only [Bool.false_eq_true, if_false]
  congr 1
  rw [List.getD_eq_getElem?_getD, List.getElem?_eq_getElem hi]
  exact List.set_getElem_self hi
/-- The index of a cell of the places. -/
theorem idx_int (i n : Nat) (_h : i < n) : ((i : Int) < (n : Int)) := by omega
set_option maxRecDepth 100000 in
set_option maxHeartbeats 4000000 in
theorem qstep_no (B r g n i : Nat) (ls : List Bool) (P : PlM) (W : World) (h : PlayAt W B r g ls P n) (hi : i < n) (_hn : n ≤ 1099511627776) (hok : PlOk ls P) (hh : hasS (P.ss.getD i dS) = false) :
    Calls Try.prog 40 #[.pointer (some ⟨r, 0, none⟩), .int .i64 (i : Int)] W fun e w' => e = .returned (.tuple #[]) ∧ PlayAt w' B r g ls (stepP ls P i) n ∧ Keeps (fun q => q = r ∨ q = g) W w' := by
  obtain ⟨x, y, h⟩ := h
  obtain ⟨⟨c0, c1, c2⟩, hfz, hg⟩ := h.cell hi
  obtain ⟨k0, k1, k2, k3⟩ := h.box.cells
  have hil : i < P.ss.length := by rw [h.len]; exact hi
  have HN := Lib.hid (qneed_no (P.ss.getD i dS) (hok.sr _ (getD_mem hil)) (.inr hh) W)
  have HP := Lib.hid (show PlayAt W B r g ls (stepP ls P i) n by rw [stepP_no hh hil]; exact ⟨x, y, h⟩)
  have HH := Lib.hid h
  obtain ⟨⟨a, p, t⟩, hs⟩ : ∃ s, s = P.ss.getD i dS := ⟨_, rfl⟩
  rw [← hs] at HN c0 c1 c2
  simp only [spV, ndV] at HN
  clear hs h hok hh hil hfz k0 k1 k2
  go_enter Try.func40, Try.ntmps40
  go_wp2_with fail
  refine HN.out.mono ?_
  rintro e w1 ⟨rfl, hb⟩
  have HF := Lib.hid (And.intro ((HP.out.below hb).below (below1 w1 (.cells #[.int .i64 0, .int .i64 0, .int .u64 0, .int .u64 0] 31))) (Keeps.of_below (S := fun q => q = r ∨ q = g) (below_then hb hb.size (below1 w1 (.cells #[.int .i64 0, .int .i64 0, .int .u64 0, .int .u64 0] 31)))))
  clear hb HN HP c0 c1 c2 k3 HH
  go_wp2
  refine bodyPost_ret (results_none rfl _ _ _) rfl ?_
  exact ⟨rfl, HF.out⟩
set_option maxRecDepth 100000 in
set_option maxHeartbeats 8000000 in
theorem qstep_yes (B r g n i : Nat) (ls : List Bool) (P : PlM) (W : World) (h : PlayAt W B r g ls P n) (hi : i < n) (_hn : n ≤ 1099511627776) (hok : PlOk ls P) (hh : hasS (P.ss.getD i dS) = true) (hB : B ≤ W.heap.size) :
    Calls Try.prog 40 #[.pointer (some ⟨r, 0, none⟩), .int .i64 (i : Int)] W fun e w' => e = .returned (.tuple #[]) ∧ PlayAt w' B r g ls (stepP ls P i) n ∧ Keeps (fun q => q = r ∨ q = g) W w' := by
  obtain ⟨x, y, h⟩ := h
  have hil : i < P.ss.length := by rw [h.len]; exact hi
  have hmem := getD_mem hil
  have HN := Lib.hid (qneed_yes (P.ss.getD i dS) (hok.may _ hmem) (hok.sr _ hmem) hh W)
  have hkd := (needS_rng (P.ss.getD i dS)).1
  obtain ⟨s, hs⟩ : ∃ s, s = P.ss.getD i dS := ⟨_, rfl⟩
  have hsa := hok.may _ hmem
  have hsr := hok.sr _ hmem
  rw [← hs] at HN hkd hh hsa hsr
  obtain ⟨R, hR⟩ : ∃ R, R = accM P.ws ls P.f (needS s).k (needS s).a (needS s).o (needS s).n := ⟨_, rfl⟩
  have hRl : R.1.length = P.ws.length := by rw [hR]; exact accM_length ..
  have HST := Lib.hid (show stepP ls P i = ⟨R.1, R.2.1, P.ss.set i (takeS s R.2.2.1 R.2.2.2)⟩ by
    unfold stepP stepM
    rw [← hs, hh, if_pos rfl, ← hR])
  have HTK := Lib.hid (fun W' => qtake_yes s hsa hsr hh R.2.2.1 R.2.2.2 W')
  obtain ⟨s2, hs2⟩ : ∃ s2, s2 = takeS s R.2.2.1 R.2.2.2 := ⟨_, rfl⟩
  rw [← hs2] at HST HTK
  obtain ⟨nd, hnd⟩ : ∃ nd, nd = needS s := ⟨_, rfl⟩
  rw [← hnd] at HN hkd hR
  obtain ⟨k, a, o, m⟩ := nd
  have HSTEP := Lib.hid (fun (Z : World) (hb : Below W.heap.size W Z) => step_yes (.agg #[x, y, .bool P.f]) k a o m P.ws ls P.f Z (h.mem.below hb) hok.mem hkd)
  simp only at hR
  rw [← hR] at HSTEP
  obtain ⟨a2, p2, t2⟩ := s2
  obtain ⟨sa, sp, st⟩ := s
  simp only [spV, ndV] at HN HTK
  obtain ⟨⟨c0, c1, c2⟩, hfz, hg⟩ := h.cell hi
  rw [← hs] at c0 c1 c2
  simp only at c0 c1 c2
  obtain ⟨k0, k1, k2, k3⟩ := h.box.cells
  have HH := Lib.hid h
  have HFZ := Lib.hid hfz
  have hrg : r ≠ g := h.ne
  have hrl : r < W.heap.size := h.box.lt
  have HRL := Lib.hid hRl
  have hii : (i : Int) < (n : Int) := by omega
  have hs0 := hs
  clear hs h hok hh hil hfz k0 k1 k2 hmem hsa hsr hR hs2 hnd hkd hRl
  have HS0 := Lib.hid hs0
  clear hs0
  go_enter Try.func40, Try.ntmps40
  go_wp2_with fail
  refine HN.out.mono ?_
  rintro e w1 ⟨rfl, hb⟩
  obtain ⟨z, hz⟩ : ∃ z, z = w1.heap.size := ⟨_, rfl⟩
  obtain ⟨w2, hw2⟩ : ∃ w : World, w = (w1.alloc (.cells #[.int .i64 k, .int .i64 a, .int .u64 o, .int .u64 m] 31)).alloc (.cells #[.int .u64 0, .bool false] 36) := ⟨_, rfl⟩
  have hb2 : Below w1.heap.size w1 w2 := by rw [hw2]; exact below2 _ _ _
  have hAC : AcBox w2 z k a o m := by rw [hw2, hz]; exact ((below1 (w1.alloc (.cells #[.int .i64 k, .int .i64 a, .int .u64 o, .int .u64 m] 31)) _).block _ (by simp)).trans (World.alloc_heap_new w1 _)
  have hGB : GBox w2 (z + 1) 0 false := by
    have := World.alloc_heap_new (w1.alloc (.cells #[.int .i64 k, .int .i64 a, .int .u64 o, .int .u64 m] 31)) (.cells #[.int .u64 0, .bool false] 36)
    rw [World.size_alloc] at this
    rw [hw2, hz]; exact this
  have hbW : Below W.heap.size W w2 := below_then hb hb.size hb2
  have hzW : W.heap.size ≤ z := by rw [hz]; exact hb.size
  have HE := Lib.hid (And.intro hw2 hz)
  have HB2 := Lib.hid hbW
  have HAG := Lib.hid (And.intro hAC hGB)
  have HP2 := Lib.hid ((HH.out.below hb).below hb2)
  clear hb hb2 hAC hGB hbW hw2 hz HN c0 c1 c2 k3
  go_upto_region 3 with (fail)
  rw [← HE.out.1, ← HE.out.2]
  refine wpTwo_begin (T := fun w' => AcBox w' z k a o m) (S := fun w' => PBox w' r x y P.f (.slice (some ⟨g, 0, none⟩) n n)) (late := fun j => [13, 14].contains j) (by kernel_rfl) ?_
  obtain ⟨X0, hX0⟩ : ∃ X : World, X = w2.drew := ⟨_, rfl⟩
  rw [← hX0]
  have hbX : Below w2.heap.size w2 X0 := by rw [hX0]; exact (Below.refl _ _).drew
  have hT := HAG.out.1.below hbX
  have hS := HP2.out.box.below hbX
  have HP3 := Lib.hid (HP2.out.below hbX)
  have HGB := Lib.hid (HAG.out.2.below hbX)
  have HB3 := Lib.hid (below_then HB2.out HB2.out.size hbX)
  clear hX0 hbX HAG HP2 HB2 HE
  refine wpTwo_takeT (i := 0) (v := .pointer (some ⟨r, 0, none⟩)) rfl (by kernel_rfl) (by kernel_rfl) (by kernel_rfl) (fun _ _ _ h => h) ⟨by rfl, ?_⟩ hT ?_
  · rintro w hTw
    go_simp
  (try simp only [Act.put, List.getElem_toArray, List.getElem_cons_zero, List.setIfInBounds_toArray, List.set_cons_succ, List.set_cons_zero])
  refine wpTwo_takeT (i := 1) (v := .pointer (some ⟨r, 0, none⟩)) rfl (by kernel_rfl) (by kernel_rfl) (by kernel_rfl) (fun _ _ _ h => h) ⟨by rfl, ?_⟩ hT ?_
  · rintro w hTw
    go_simp
  (try simp only [Act.put, List.getElem_toArray, List.getElem_cons_succ, List.getElem_cons_zero, List.setIfInBounds_toArray, List.set_cons_succ, List.set_cons_zero])
  refine wpTwo_takeT (i := 2) (v := .pointer (some ⟨r, 0, none⟩)) rfl (by kernel_rfl) (by kernel_rfl) (by kernel_rfl) (fun _ _ _ h => h) ⟨by rfl, ?_⟩ hT ?_
  · rintro w hTw
    go_simp
  (try simp only [Act.put, List.getElem_toArray, List.getElem_cons_succ, List.getElem_cons_zero, List.setIfInBounds_toArray, List.set_cons_succ, List.set_cons_zero])
  refine wpTwo_takeT (i := 3) (v := .pointer (some ⟨r, 0, none⟩)) rfl (by kernel_rfl) (by kernel_rfl) (by kernel_rfl) (fun _ _ _ h => h) ⟨by rfl, ?_⟩ hT ?_
  · rintro w hTw
    go_simp
  (try simp only [Act.put, List.getElem_toArray, List.getElem_cons_succ, List.getElem_cons_zero, List.setIfInBounds_toArray, List.set_cons_succ, List.set_cons_zero])
  refine wpTwo_takeS (i := 4) (v := .agg #[x, y, .bool P.f]) (waits_all (by kernel_rfl)) rfl (by kernel_rfl) (by kernel_rfl) (by kernel_rfl) (fun _ _ _ h => h) ⟨by rfl, ?_⟩ ⟨hT, hS⟩ ?_
  · rintro w ⟨-, hSw⟩
    obtain ⟨t0, t1, t2, t3⟩ := PBox.cells hSw
    go_simp
  (try simp only [Act.put, List.getElem_toArray, List.getElem_cons_succ, List.getElem_cons_zero, List.setIfInBounds_toArray, List.set_cons_succ, List.set_cons_zero])
  refine wpTwo_takeT (i := 5) (v := .agg #[.int .i64 k, .int .i64 a, .int .u64 o, .int .u64 m]) rfl (by kernel_rfl) (by kernel_rfl) (by kernel_rfl) (fun _ _ _ h => h) ⟨by rfl, ?_⟩ hT ?_
  · rintro w hTw
    obtain ⟨t0, t1, t2, t3⟩ := AcBox.cells hTw
    go_simp
  (try simp only [Act.put, List.getElem_toArray, List.getElem_cons_succ, List.getElem_cons_zero, List.setIfInBounds_toArray, List.set_cons_succ, List.set_cons_zero])
  refine wpTwo_ready (rs := [6]) (by kernel_rfl) (by simp) ?_
  refine (AllTwo.cons rfl (fun K hK => ?_) AllTwo.nil)
  go_simp
  refine (HSTEP.out X0 HB3.out).mono ?_
  rintro e X1 ⟨⟨gw, cw, gl, cl, rfl, how, hol⟩, hb⟩
  obtain ⟨u, f2, gv, gd⟩ := R
  simp only at how hol HST HTK HRL
  obtain ⟨nu, hnu⟩ : ∃ nu, nu = u.length := ⟨_, rfl⟩
  have HNU := Lib.hid hnu
  rw [← hnu] at how
  obtain ⟨nl, hnl⟩ : ∃ nl, nl = ls.length := ⟨_, rfl⟩
  have HNL := Lib.hid hnl
  rw [← hnl] at hol
  simp only [← hnu, ← hnl]
  clear hnu hnl
  have HOW := Lib.hid (And.intro how hol)
  have hT := hT.below hb
  have hS := hS.below hb
  have HP4 := Lib.hid (HP3.out.below hb)
  have HGB4 := Lib.hid (HGB.out.below hb)
  have HB4 := Lib.hid (below_then HB3.out HB3.out.size hb)
  have HX0 := Lib.hid HB3.out.size
  clear hb how hol HP3 HGB HB3 HSTEP
  go_wp2_with fail
  refine hK.out _ _ ⟨hT, fun _ _ => hS⟩ ?_
  clear hK K
  (try simp only [Act.put, List.getElem_toArray, List.getElem_cons_succ, List.getElem_cons_zero, List.setIfInBounds_toArray, List.set_cons_succ, List.set_cons_zero])
  refine wpTwo_takeT (i := 7) (v := .tuple #[.agg #[.slice (some ⟨gw, 0, none⟩) nu cw, .slice (some ⟨gl, 0, none⟩) nl cl, .bool f2], .agg #[.int .u64 gv, .bool gd], .int .i64 0]) rfl (by kernel_rfl) (by kernel_rfl) (by kernel_rfl) (fun _ _ _ h => h) ⟨by rfl, ?_⟩ hT ?_
  · rintro w hTw
    go_simp
  (try simp only [Act.put, List.getElem_toArray, List.getElem_cons_succ, List.getElem_cons_zero, List.setIfInBounds_toArray, List.set_cons_succ, List.set_cons_zero])
  refine wpTwo_takeT (i := 8) (v := .agg #[.slice (some ⟨gw, 0, none⟩) nu cw, .slice (some ⟨gl, 0, none⟩) nl cl, .bool f2]) rfl (by kernel_rfl) (by kernel_rfl) (by kernel_rfl) (fun _ _ _ h => h) ⟨by rfl, ?_⟩ hT ?_
  · rintro w hTw
    go_simp
  (try simp only [Act.put, List.getElem_toArray, List.getElem_cons_succ, List.getElem_cons_zero, List.setIfInBounds_toArray, List.set_cons_succ, List.set_cons_zero])
  refine wpTwo_takeT (i := 9) (v := .agg #[.int .u64 gv, .bool gd]) rfl (by kernel_rfl) (by kernel_rfl) (by kernel_rfl) (fun _ _ _ h => h) ⟨by rfl, ?_⟩ hT ?_
  · rintro w hTw
    go_simp
  (try simp only [Act.put, List.getElem_toArray, List.getElem_cons_succ, List.getElem_cons_zero, List.setIfInBounds_toArray, List.set_cons_succ, List.set_cons_zero])
  refine wpTwo_takeT (i := 10) (v := .int .i64 0) rfl (by kernel_rfl) (by kernel_rfl) (by kernel_rfl) (fun _ _ _ h => h) ⟨by rfl, ?_⟩ hT ?_
  · rintro w hTw
    go_simp
  (try simp only [Act.put, List.getElem_toArray, List.getElem_cons_succ, List.getElem_cons_zero, List.setIfInBounds_toArray, List.set_cons_succ, List.set_cons_zero])
  refine wpTwo_takeT (i := 11) (v := .pointer (some ⟨r, 0, none⟩)) rfl (by kernel_rfl) (by kernel_rfl) (by kernel_rfl) (fun _ _ _ h => h) ⟨by rfl, ?_⟩ hT ?_
  · rintro w hTw
    go_simp
  (try simp only [Act.put, List.getElem_toArray, List.getElem_cons_succ, List.getElem_cons_zero, List.setIfInBounds_toArray, List.set_cons_succ, List.set_cons_zero])
  refine wpTwo_takeT (i := 12) (v := .pointer (some ⟨r, 0, none⟩)) rfl (by kernel_rfl) (by kernel_rfl) (by kernel_rfl) (fun _ _ _ h => h) ⟨by rfl, ?_⟩ hT ?_
  · rintro w hTw
    go_simp
  (try simp only [Act.put, List.getElem_toArray, List.getElem_cons_succ, List.getElem_cons_zero, List.setIfInBounds_toArray, List.set_cons_succ, List.set_cons_zero])
  refine wpTwo_ready (rs := [13]) (by kernel_rfl) (by simp) ?_
  refine (AllTwo.cons rfl (fun K hK => ?_) AllTwo.nil)
  obtain ⟨t0, t1, t2, t3⟩ := hS.cells
  have hf := hS.free
  have hf0 := hf 0
  have hf1 := hf 1
  have hf2 := hf 2
  obtain ⟨X2, hX2⟩ : ∃ X : World, X = ((X1.setCell ⟨r, 0, none⟩ (.slice (some ⟨gw, 0, none⟩) nu cw)).setCell ⟨r, 1, none⟩ (.slice (some ⟨gl, 0, none⟩) nl cl)).setCell ⟨r, 2, none⟩ (.bool f2) := ⟨_, rfl⟩
  have k0 : ∀ (X : World) (i : Nat) (v : Value), Keeps (fun q => q = r) X (X.setCell ⟨r, i, none⟩ v) := fun X i v => Keeps.setCell X (S := fun q => q = r) (p := ⟨r, i, none⟩) rfl v
  have hk : Keeps (fun q => q = r) X1 X2 := by rw [hX2]; exact ((k0 _ _ _).trans (k0 _ _ _)).trans (k0 _ _ _)
  have hPB : PBox X2 r (.slice (some ⟨gw, 0, none⟩) nu cw) (.slice (some ⟨gl, 0, none⟩) nl cl) f2 (.slice (some ⟨g, 0, none⟩) n n) := by rw [hX2]; exact hS.set _ _ _
  have hX0s := HX0.out
  have hT2 := hT.keeps hk (fun e => by have e : z = r := e; omega)
  have HP5 := Lib.hid (show PlayIn X2 B r g ls ⟨u, f2, P.ss⟩ (.slice (some ⟨gw, 0, none⟩) nu cw) (.slice (some ⟨gl, 0, none⟩) nl cl) n from by
    have h0 := HP4.out
    have hw := HOW.out.1
    have hl := HOW.out.2
    rw [HNU.out] at hw hPB ⊢
    rw [HNL.out] at hl hPB ⊢
    refine ⟨hPB, (hk.row hw (fun q hq e => by have := (hw.lt q hq).1; have e : q = r := e; omega)).mono (by omega), (hk.row hl (fun q hq e => by have := (hl.lt q hq).1; have e : q = r := e; omega)).mono (by omega), hk.row h0.places (fun q hq e => by have e : q = r := e; subst e; exact hrg (by cases hq; rfl)), h0.len, h0.lo⟩)
  have HGB5 := Lib.hid (HGB4.out.keeps hk (fun e => by have e : z + 1 = r := e; omega))
  have HK5 := Lib.hid (show Keeps (fun q => q = r ∨ q = g) W X2 from (Keeps.of_below HB4.out).trans (hk.sub (fun q _ hq => .inl hq)))
  go_simp
  rw [← hX2]
  refine hK.out _ _ ⟨hT2, fun h _ => absurd h (by decide)⟩ ?_
  clear hK K t0 t1 t2 t3 hf hf0 hf1 hf2 hX2 k0 hk hPB hT hS HP4 HGB4 HB4 HOW
  (try simp only [Act.put, List.getElem_toArray, List.getElem_cons_succ, List.getElem_cons_zero, List.setIfInBounds_toArray, List.set_cons_succ, List.set_cons_zero])
  refine wpTwo_ready (rs := [14]) (by kernel_rfl) (by simp) ?_
  refine (AllTwo.cons rfl (fun K hK => ?_) AllTwo.nil)
  obtain ⟨t0, t1⟩ := HGB5.out.cells
  have hf0 : X2.frozen? ⟨z + 1, 0, none⟩ = false := (gbox_cells HGB5.out).2.1
  have hf1 : X2.frozen? ⟨z + 1, 1, none⟩ = false := (gbox_cells HGB5.out).2.2
  obtain ⟨X3, hX3⟩ : ∃ X : World, X = (X2.setCell ⟨z + 1, 0, none⟩ (.int .u64 gv)).setCell ⟨z + 1, 1, none⟩ (.bool gd) := ⟨_, rfl⟩
  have hG3 : GBox X3 (z + 1) gv gd := by
    unfold GBox
    rw [hX3, heap_setCell_same _ (z + 1) 1 _ _ _ (heap_setCell_same X2 (z + 1) 0 _ _ _ HGB5.out)]; rfl
  have hk : Keeps (fun q => q = z + 1) X2 X3 := by rw [hX3]; exact (Keeps.setCell X2 (S := fun q => q = z + 1) (p := ⟨z + 1, 0, none⟩) rfl _).trans (Keeps.setCell _ (S := fun q => q = z + 1) (p := ⟨z + 1, 1, none⟩) rfl _)
  have hno : ∀ (E : TypeId) (s n : Nat) (v : Value) (xs : List Value), E ≠ 36 → X2.ownsRow B E s v n xs → ∀ gg, v.ownBlock = some gg → ¬ gg = z + 1 := fun E s n v xs hE hr gg hgg e => by
    subst e
    obtain ⟨cc, f, h7⟩ := Lib.ownsRow_kind hr _ hgg
    rw [show X2.heap[z + 1]? = _ from HGB5.out] at h7
    injection h7 with h7
    injection h7 with _ h8
    exact hE h8.symm
  have HP6 := Lib.hid (show PlayIn X3 B r g ls ⟨u, f2, P.ss⟩ (.slice (some ⟨gw, 0, none⟩) nu cw) (.slice (some ⟨gl, 0, none⟩) nl cl) n from
    ⟨HP5.out.box.keeps hk (fun e => by have e : r = z + 1 := e; omega), hk.row HP5.out.words (hno _ _ _ _ _ (by decide) HP5.out.words), hk.row HP5.out.lives (hno _ _ _ _ _ (by decide) HP5.out.lives), hk.row HP5.out.places (hno _ _ _ _ _ (by decide) HP5.out.places), HP5.out.len, HP5.out.lo⟩)
  have HK6 := Lib.hid (show Keeps (fun q => q = r ∨ q = g) W X3 from by
    refine ⟨hk.os.trans HK5.out.os, hk.tape.trans HK5.out.tape, hk.output.trans HK5.out.output, Nat.le_trans HK5.out.size hk.size, fun q hq hn => (hk.block q (Nat.lt_of_lt_of_le hq HK5.out.size) (fun e => by have e : q = z + 1 := e; omega)).trans (HK5.out.block q hq hn)⟩)
  have hT3 := hT2.keeps hk (fun e => by have e : z = z + 1 := e; omega)
  have HG3 := Lib.hid hG3
  have hz1 : W.heap.size ≤ z + 1 := by omega
  go_simp
  rw [← hX3]
  refine hK.out _ _ ⟨hT3, fun h _ => absurd h (by decide)⟩ ?_
  clear hK K t0 t1 hf0 hf1 hX3 hk hno hG3 HP5 HK5 HGB5 hT2 hT3
  (try simp only [Act.put, List.getElem_toArray, List.getElem_cons_succ, List.getElem_cons_zero, List.setIfInBounds_toArray, List.set_cons_succ, List.set_cons_zero])
  refine wpTwo_end (by kernel_rfl) ?_ _
  go_upto_region 4 with (fail)
  obtain ⟨⟨c0, c1, c2⟩, hfz, hgl⟩ := HP6.out.cell hi
  have HCS := Lib.hid (show ((⟨u, f2, P.ss⟩ : PlM).ss.getD i dS) = ⟨sa, sp, st⟩ from HS0.out.symm)
  rw [HCS.out] at c0 c1 c2
  simp only at c0 c1 c2
  refine wpTwo_begin (T := fun w' => w'.cell? ⟨r, 3, none⟩ = some (.slice (some ⟨g, 0, none⟩) n n) ∧ GBox w' (z + 1) gv gd) (S := fun w' => w'.cell? ⟨g, i * 3, none⟩ = some (.int .i64 sa) ∧ w'.cell? ⟨g, i * 3 + 1, none⟩ = some (.int .i64 sp) ∧ w'.cell? ⟨g, i * 3 + 2, none⟩ = some (.int .u64 st)) (late := fun j => [18].contains j) (by kernel_rfl) ?_
  obtain ⟨X4, hX4⟩ : ∃ X : World, X = X3.drew := ⟨_, rfl⟩
  rw [← hX4]
  have hbX : Below X3.heap.size X3 X4 := by rw [hX4]; exact (Below.refl _ _).drew
  have hT := And.intro (below_cell hbX HP6.out.box.cells.2.2.2) (HG3.out.below hbX)
  have hS := And.intro (below_cell hbX c0) (And.intro (below_cell hbX c1) (below_cell hbX c2))
  have HP7 := Lib.hid (HP6.out.below hbX)
  have HK7 := Lib.hid (HK6.out.trans (Keeps.of_below hbX))
  clear hX4 hbX HP6 HK6 HG3 c0 c1 c2 hfz HCS HS0
  refine wpTwo_takeT (i := 0) (v := .pointer (some ⟨r, 0, none⟩)) rfl (by kernel_rfl) (by kernel_rfl) (by kernel_rfl) (fun _ _ _ h => h) ⟨by rfl, ?_⟩ hT ?_
  · rintro w ⟨t0, t1⟩
    go_simp
  (try simp only [Act.put, List.getElem_toArray, List.getElem_cons_zero, List.setIfInBounds_toArray, List.set_cons_succ, List.set_cons_zero])
  refine wpTwo_takeT (i := 1) (v := .pointer (some ⟨r, 0, none⟩)) rfl (by kernel_rfl) (by kernel_rfl) (by kernel_rfl) (fun _ _ _ h => h) ⟨by rfl, ?_⟩ hT ?_
  · rintro w ⟨t0, t1⟩
    go_simp
  (try simp only [Act.put, List.getElem_toArray, List.getElem_cons_succ, List.getElem_cons_zero, List.setIfInBounds_toArray, List.set_cons_succ, List.set_cons_zero])
  refine wpTwo_takeT (i := 2) (v := .pointer (some ⟨r, 3, none⟩)) rfl (by kernel_rfl) (by kernel_rfl) (by kernel_rfl) (fun _ _ _ h => h) ⟨by rfl, ?_⟩ hT ?_
  · rintro w ⟨t0, t1⟩
    go_simp
  (try simp only [Act.put, List.getElem_toArray, List.getElem_cons_succ, List.getElem_cons_zero, List.setIfInBounds_toArray, List.set_cons_succ, List.set_cons_zero])
  refine wpTwo_takeT (i := 3) (v := .slice (some ⟨g, 0, none⟩) n n) rfl (by kernel_rfl) (by kernel_rfl) (by kernel_rfl) (fun _ _ _ h => h) ⟨by rfl, ?_⟩ hT ?_
  · rintro w ⟨t0, t1⟩
    go_simp
  (try simp only [Act.put, List.getElem_toArray, List.getElem_cons_succ, List.getElem_cons_zero, List.setIfInBounds_toArray, List.set_cons_succ, List.set_cons_zero])
  refine wpTwo_takeT (i := 4) (v := .int .i64 (i : Int)) rfl (by kernel_rfl) (by kernel_rfl) (by kernel_rfl) (fun _ _ _ h => h) ⟨by rfl, ?_⟩ hT ?_
  · rintro w hTw
    go_simp
  (try simp only [Act.put, List.getElem_toArray, List.getElem_cons_succ, List.getElem_cons_zero, List.setIfInBounds_toArray, List.set_cons_succ, List.set_cons_zero])
  refine wpTwo_takeT (i := 5) (v := .pointer (some ⟨r, 0, none⟩)) rfl (by kernel_rfl) (by kernel_rfl) (by kernel_rfl) (fun _ _ _ h => h) ⟨by rfl, ?_⟩ hT ?_
  · rintro w ⟨t0, t1⟩
    go_simp
  (try simp only [Act.put, List.getElem_toArray, List.getElem_cons_succ, List.getElem_cons_zero, List.setIfInBounds_toArray, List.set_cons_succ, List.set_cons_zero])
  refine wpTwo_takeT (i := 6) (v := .pointer (some ⟨r, 0, none⟩)) rfl (by kernel_rfl) (by kernel_rfl) (by kernel_rfl) (fun _ _ _ h => h) ⟨by rfl, ?_⟩ hT ?_
  · rintro w ⟨t0, t1⟩
    go_simp
  (try simp only [Act.put, List.getElem_toArray, List.getElem_cons_succ, List.getElem_cons_zero, List.setIfInBounds_toArray, List.set_cons_succ, List.set_cons_zero])
  refine wpTwo_takeT (i := 7) (v := .pointer (some ⟨r, 3, none⟩)) rfl (by kernel_rfl) (by kernel_rfl) (by kernel_rfl) (fun _ _ _ h => h) ⟨by rfl, ?_⟩ hT ?_
  · rintro w ⟨t0, t1⟩
    go_simp
  (try simp only [Act.put, List.getElem_toArray, List.getElem_cons_succ, List.getElem_cons_zero, List.setIfInBounds_toArray, List.set_cons_succ, List.set_cons_zero])
  refine wpTwo_takeT (i := 8) (v := .slice (some ⟨g, 0, none⟩) n n) rfl (by kernel_rfl) (by kernel_rfl) (by kernel_rfl) (fun _ _ _ h => h) ⟨by rfl, ?_⟩ hT ?_
  · rintro w ⟨t0, t1⟩
    go_simp
  (try simp only [Act.put, List.getElem_toArray, List.getElem_cons_succ, List.getElem_cons_zero, List.setIfInBounds_toArray, List.set_cons_succ, List.set_cons_zero])
  refine wpTwo_takeT (i := 9) (v := .int .i64 (i : Int)) rfl (by kernel_rfl) (by kernel_rfl) (by kernel_rfl) (fun _ _ _ h => h) ⟨by rfl, ?_⟩ hT ?_
  · rintro w hTw
    go_simp
  (try simp only [Act.put, List.getElem_toArray, List.getElem_cons_succ, List.getElem_cons_zero, List.setIfInBounds_toArray, List.set_cons_succ, List.set_cons_zero])
  refine wpTwo_takeT (i := 10) (v := .pointer (some ⟨g, i * 3, none⟩)) rfl (by kernel_rfl) (by kernel_rfl) (by kernel_rfl) (fun _ _ _ h => h) ⟨by rfl, ?_⟩ hT ?_
  · rintro w hTw
    go_simp
  (try simp only [Act.put, List.getElem_toArray, List.getElem_cons_succ, List.getElem_cons_zero, List.setIfInBounds_toArray, List.set_cons_succ, List.set_cons_zero])
  refine wpTwo_takeS (i := 11) (v := .agg #[.int .i64 sa, .int .i64 sp, .int .u64 st]) (waits_all (by kernel_rfl)) rfl (by kernel_rfl) (by kernel_rfl) (by kernel_rfl) (fun _ _ _ h => h) ⟨by rfl, ?_⟩ ⟨hT, hS⟩ ?_
  · rintro w ⟨-, s0, s1, s2⟩
    go_simp
  (try simp only [Act.put, List.getElem_toArray, List.getElem_cons_succ, List.getElem_cons_zero, List.setIfInBounds_toArray, List.set_cons_succ, List.set_cons_zero])
  refine wpTwo_takeT (i := 12) (v := .agg #[.int .u64 gv, .bool gd]) rfl (by kernel_rfl) (by kernel_rfl) (by kernel_rfl) (fun _ _ _ h => h) ⟨by rfl, ?_⟩ hT ?_
  · rintro w ⟨-, hGw⟩
    obtain ⟨t0, t1⟩ := GBox.cells hGw
    go_simp
  (try simp only [Act.put, List.getElem_toArray, List.getElem_cons_succ, List.getElem_cons_zero, List.setIfInBounds_toArray, List.set_cons_succ, List.set_cons_zero])
  refine wpTwo_ready (rs := [13]) (by kernel_rfl) (by simp) ?_
  refine (AllTwo.cons rfl (fun K hK => ?_) AllTwo.nil)
  go_simp
  refine (HTK.out X4).mono ?_
  rintro e X5 ⟨rfl, hb⟩
  have hT := And.intro (below_cell hb hT.1) (hT.2.below hb)
  have hS := And.intro (below_cell hb hS.1) (And.intro (below_cell hb hS.2.1) (below_cell hb hS.2.2))
  have HP8 := Lib.hid (HP7.out.below hb)
  have HK8 := Lib.hid (HK7.out.trans (Keeps.of_below hb))
  clear hb HP7 HK7 HTK
  go_wp2_with fail
  refine hK.out _ _ ⟨hT, fun _ _ => hS⟩ ?_
  clear hK K
  (try simp only [Act.put, List.getElem_toArray, List.getElem_cons_succ, List.getElem_cons_zero, List.setIfInBounds_toArray, List.set_cons_succ, List.set_cons_zero])
  refine wpTwo_takeT (i := 14) (v := .tuple #[.agg #[.int .i64 a2, .int .i64 p2, .int .u64 t2], .int .i64 0]) rfl (by kernel_rfl) (by kernel_rfl) (by kernel_rfl) (fun _ _ _ h => h) ⟨by rfl, ?_⟩ hT ?_
  · rintro w hTw
    go_simp
  (try simp only [Act.put, List.getElem_toArray, List.getElem_cons_succ, List.getElem_cons_zero, List.setIfInBounds_toArray, List.set_cons_succ, List.set_cons_zero])
  refine wpTwo_takeT (i := 15) (v := .agg #[.int .i64 a2, .int .i64 p2, .int .u64 t2]) rfl (by kernel_rfl) (by kernel_rfl) (by kernel_rfl) (fun _ _ _ h => h) ⟨by rfl, ?_⟩ hT ?_
  · rintro w hTw
    go_simp
  (try simp only [Act.put, List.getElem_toArray, List.getElem_cons_succ, List.getElem_cons_zero, List.setIfInBounds_toArray, List.set_cons_succ, List.set_cons_zero])
  refine wpTwo_takeT (i := 16) (v := .int .i64 0) rfl (by kernel_rfl) (by kernel_rfl) (by kernel_rfl) (fun _ _ _ h => h) ⟨by rfl, ?_⟩ hT ?_
  · rintro w hTw
    go_simp
  (try simp only [Act.put, List.getElem_toArray, List.getElem_cons_succ, List.getElem_cons_zero, List.setIfInBounds_toArray, List.set_cons_succ, List.set_cons_zero])
  refine wpTwo_takeT (i := 17) (v := .pointer (some ⟨g, i * 3, none⟩)) rfl (by kernel_rfl) (by kernel_rfl) (by kernel_rfl) (fun _ _ _ h => h) ⟨by rfl, ?_⟩ hT ?_
  · rintro w hTw
    go_simp
  (try simp only [Act.put, List.getElem_toArray, List.getElem_cons_succ, List.getElem_cons_zero, List.setIfInBounds_toArray, List.set_cons_succ, List.set_cons_zero])
  refine wpTwo_ready (rs := [18]) (by kernel_rfl) (by simp) ?_
  refine (AllTwo.cons rfl (fun K hK => ?_) AllTwo.nil)
  obtain ⟨-, hfz, hgl⟩ := HP8.out.cell hi
  have hf0 := hfz (i * 3)
  have hf1 := hfz (i * 3 + 1)
  have hf2 := hfz (i * 3 + 2)
  obtain ⟨X6, hX6⟩ : ∃ X : World, X = ((X5.setCell ⟨g, i * 3, none⟩ (.int .i64 a2)).setCell ⟨g, i * 3 + 1, none⟩ (.int .i64 p2)).setCell ⟨g, i * 3 + 2, none⟩ (.int .u64 t2) := ⟨_, rfl⟩
  obtain ⟨hPF, hkF⟩ := HP8.out.put ⟨a2, p2, t2⟩ hX6
  have HF := Lib.hid (show PlayAt X6 B r g ls (stepP ls P i) n ∧ Keeps (fun q => q = r ∨ q = g) W X6 from ⟨⟨_, _, by rw [HST.out]; exact hPF⟩, HK8.out.trans (hkF.sub (fun q _ hq => .inr hq))⟩)
  obtain ⟨s0, s1, s2⟩ := hS
  have hT6 := And.intro (hkF.cell hT.1 (show ¬ r = g from hrg)) (hT.2.keeps hkF (fun e => by have e : z + 1 = g := e; omega))
  go_simp
  rw [← hX6]
  refine hK.out _ _ ⟨hT6, fun h _ => absurd h (by decide)⟩ ?_
  clear hK K hf0 hf1 hf2 hfz s0 s1 s2 hX6 hPF hkF HP8 HK8
  (try simp only [Act.put, List.getElem_toArray, List.getElem_cons_succ, List.getElem_cons_zero, List.setIfInBounds_toArray, List.set_cons_succ, List.set_cons_zero])
  refine wpTwo_end (by kernel_rfl) ?_ _
  go_end0
  exact ⟨rfl, HF.out⟩
theorem qstep (B r g n i : Nat) (ls : List Bool) (P : PlM) (W : World) (h : PlayAt W B r g ls P n) (hi : i < n) (hn : n ≤ 1099511627776) (hok : PlOk ls P) (hB : B ≤ W.heap.size) :
    Calls Try.prog 40 #[.pointer (some ⟨r, 0, none⟩), .int .i64 (i : Int)] W fun e w' => e = .returned (.tuple #[]) ∧ PlayAt w' B r g ls (stepP ls P i) n ∧ Keeps (fun q => q = r ∨ q = g) W w' := by
  cases hh : hasS (P.ss.getD i dS) with
  | true => exact qstep_yes B r g n i ls P W h hi hn hok hh hB
  | false => exact qstep_no B r g n i ls P W h hi hn hok hh

end Go.Proofs.Ytcledklajcdfiaa
