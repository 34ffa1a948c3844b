/-
  begin, of package spin: a memory of the play's own, and where all are in a row of its own.
  Conditions: the memory may be.
-/
import Derived.Test.YtcnpmkigiklnnaaKS9
import Derived.Deep.Cut
import Derived.Test.YtcnpmkigiklnnaaKS3
import Derived.Laws.CopyRow
import Derived.Laws.CopyOwn
/-
  step and turn, of a play of package spin: the step of one who wants a lock; what lies outside the play stays.
  Conditions: the play lies so; there is such a one; all may be.
-/
namespace Go.Proofs.Ytcnpmkigiklnnaa
open Go.RowKit Go.Shelf
attribute [local go_sem] spV ndV
attribute [local go_sem] Oper.semAt_some

theorem stepP_no {ls : List Bool} {P : PlM} {i : Nat} (h : hasS (P.ss.getD i dS) = false) (hi : i < P.ss.length) : stepP ls P i = P := by
  unfold stepP stepM
  rw [h]
  obtain ⟨ws, f, ss⟩ := P
  simp only [Bool.false_eq_true, if_false]
  congr 1
  rw [List.getD_eq_getElem?_getD, List.getElem?_eq_getElem hi]
  exact List.set_getElem_self hi
/-- The index of a cell of the places. -/
theorem idx_int (i n : Nat) (_h : i < n) : ((i : Int) < (n : Int)) := by omega
set_option maxRecDepth 100000 in
set_option maxHeartbeats 4000000 in
theorem qstep_no (B r g n i : Nat) (ls : List Bool) (P : PlM) (W : World) (h : PlayAt W B r g ls P n) (hi : i < n) (_hn : n ≤ 1099511627776) (hok : PlOk ls P) (hh : hasS (P.ss.getD i dS) = false) :
    Calls Try.prog 40 #[.pointer (some ⟨r, 0, none⟩), .int .i64 (i : Int)] W fun e w' => e = .returned (.tuple #[]) ∧ PlayAt w' B r g ls (stepP ls P i) n ∧ Keeps (fun q => q = r ∨ q = g) W w' := by
  obtain ⟨x, y, h⟩ := h
  obtain ⟨⟨c0, c1, c2⟩, hfz, hg⟩ := h.cell hi
  obtain ⟨k0, k1, k2, k3⟩ := h.box.cells
  have hil : i < P.ss.length := by rw [h.len]; exact hi
  have HN := Lib.hid (qneed_no (P.ss.getD i dS) (hok.sr _ (getD_mem hil)) (.inr hh) W)
  have HP := Lib.hid (show PlayAt W B r g ls (stepP ls P i) n by rw [stepP_no hh hil]; exact ⟨x, y, h⟩)
  have HH := Lib.hid h
  obtain ⟨⟨a, p, t⟩, hs⟩ : ∃ s, s = P.ss.getD i dS := ⟨_, rfl⟩
  rw [← hs] at HN c0 c1 c2
  simp only [spV, ndV] at HN
  clear hs h hok hh hil hfz k0 k1 k2
  go_enter Try.func40, Try.ntmps40
  go_wp2_with fail
  refine HN.out.mono ?_
  rintro e w1 ⟨rfl, hb⟩
  have HF := Lib.hid (And.intro ((HP.out.below hb).below (below1 w1 (.cells #[.int .i64 0, .int .i64 0, .int .u64 0, .int .u64 0] 31))) (Keeps.of_below (S := fun q => q = r ∨ q = g) (below_then hb hb.size (below1 w1 (.cells #[.int .i64 0, .int .i64 0, .int .u64 0, .int .u64 0] 31)))))
  clear hb HN HP c0 c1 c2 k3 HH
  go_wp2
  refine bodyPost_ret (results_none rfl _ _ _) rfl ?_
  exact ⟨rfl, HF.out⟩
set_option maxRecDepth 100000 in
set_option maxHeartbeats 8000000 in
theorem qstep_yes (B r g n i : Nat) (ls : List Bool) (P : PlM) (W : World) (h : PlayAt W B r g ls P n) (hi : i < n) (_hn : n ≤ 1099511627776) (hok : PlOk ls P) (hh : hasS (P.ss.getD i dS) = true) (hB : B ≤ W.heap.size) :
    Calls Try.prog 40 #[.pointer (some ⟨r, 0, none⟩), .int .i64 (i : Int)] W fun e w' => e = .returned (.tuple #[]) ∧ PlayAt w' B r g ls (stepP ls P i) n ∧ Keeps (fun q => q = r ∨ q = g) W w' := by
  obtain ⟨x, y, h⟩ := h
  have hil : i < P.ss.length := by rw [h.len]; exact hi
  have hmem := getD_mem hil
  have HN := Lib.hid (qneed_yes (P.ss.getD i dS) (hok.may _ hmem) (hok.sr _ hmem) hh W)
  have hkd := (needS_rng (P.ss.getD i dS)).1
  obtain ⟨s, hs⟩ : ∃ s, s = P.ss.getD i dS := ⟨_, rfl⟩
  have hsa := hok.may _ hmem
  have hsr := hok.sr _ hmem
  rw [← hs] at HN hkd hh hsa hsr
  obtain ⟨R, hR⟩ : ∃ R, R = accM P.ws ls P.f (needS s).k (needS s).a (needS s).o (needS s).n := ⟨_, rfl⟩
  have hRl : R.1.length = P.ws.length := by rw [hR]; exact accM_length ..
  have HST := Lib.hid (show stepP ls P i = ⟨R.1, R.2.1, P.ss.set i (takeS s R.2.2.1 R.2.2.2)⟩ by
    unfold stepP stepM
    rw [← hs, hh, if_pos rfl, ← hR])
  have HTK := Lib.hid (fun W' => qtake_yes s hsa hsr hh R.2.2.1 R.2.2.2 W')
  obtain ⟨s2, hs2⟩ : ∃ s2, s2 = takeS s R.2.2.1 R.2.2.2 := ⟨_, rfl⟩
  rw [← hs2] at HST HTK
  obtain ⟨nd, hnd⟩ : ∃ nd, nd = needS s := ⟨_, rfl⟩
  rw [← hnd] at HN hkd hR
  obtain ⟨k, a, o, m⟩ := nd
  have HSTEP := Lib.hid (fun (Z : World) (hb : Below W.heap.size W Z) => step_yes (.agg #[x, y, .bool P.f]) k a o m P.ws ls P.f Z (h.mem.below hb) hok.mem hkd)
  simp only at hR
  rw [← hR] at HSTEP
  obtain ⟨a2, p2, t2⟩ := s2
  obtain ⟨sa, sp, st⟩ := s
  simp only [spV, ndV] at HN HTK
  obtain ⟨⟨c0, c1, c2⟩, hfz, hg⟩ := h.cell hi
  rw [← hs] at c0 c1 c2
  simp only at c0 c1 c2
  obtain ⟨k0, k1, k2, k3⟩ := h.box.cells
  have HH := Lib.hid h
  have HFZ := Lib.hid hfz
  have hrg : r ≠ g := h.ne
  have hrl : r < W.heap.size := h.box.lt
  have HRL := Lib.hid hRl
  have hii : (i : Int) < (n : Int) := by omega
  have hs0 := hs
  clear hs h hok hh hil hfz k0 k1 k2 hmem hsa hsr hR hs2 hnd hkd hRl
  have HS0 := Lib.hid hs0
  clear hs0
  go_enter Try.func40, Try.ntmps40
  go_wp2_with fail
  refine HN.out.mono ?_
  rintro e w1 ⟨rfl, hb⟩
  obtain ⟨z, hz⟩ : ∃ z, z = w1.heap.size := ⟨_, rfl⟩
  obtain ⟨w2, hw2⟩ : ∃ w : World, w = (w1.alloc (.cells #[.int .i64 k, .int .i64 a, .int .u64 o, .int .u64 m] 31)).alloc (.cells #[.int .u64 0, .bool false] 36) := ⟨_, rfl⟩
  have hb2 : Below w1.heap.size w1 w2 := by rw [hw2]; exact below2 _ _ _
  have hAC : AcBox w2 z k a o m := by rw [hw2, hz]; exact ((below1 (w1.alloc (.cells #[.int .i64 k, .int .i64 a, .int .u64 o, .int .u64 m] 31)) _).block _ (by simp)).trans (World.alloc_heap_new w1 _)
  have hGB : GBox w2 (z + 1) 0 false := by
    have := World.alloc_heap_new (w1.alloc (.cells #[.int .i64 k, .int .i64 a, .int .u64 o, .int .u64 m] 31)) (.cells #[.int .u64 0, .bool false] 36)
    rw [World.size_alloc] at this
    rw [hw2, hz]; exact this
  have hbW : Below W.heap.size W w2 := below_then hb hb.size hb2
  have hzW : W.heap.size ≤ z := by rw [hz]; exact hb.size
  have HE := Lib.hid (And.intro hw2 hz)
  have HB2 := Lib.hid hbW
  have HAG := Lib.hid (And.intro hAC hGB)
  have HP2 := Lib.hid ((HH.out.below hb).below hb2)
  clear hb hb2 hAC hGB hbW hw2 hz HN c0 c1 c2 k3
  go_upto_region 3 with (fail)
  rw [← HE.out.1, ← HE.out.2]
  refine wpTwo_begin (T := fun w' => AcBox w' z k a o m) (S := fun w' => YBox w' r x y P.f (.slice (some ⟨g, 0, none⟩) n n)) (late := fun j => [13, 14].contains j) (by kernel_rfl) ?_
  obtain ⟨X0, hX0⟩ : ∃ X : World, X = w2.drew := ⟨_, rfl⟩
  rw [← hX0]
  have hbX : Below w2.heap.size w2 X0 := by rw [hX0]; exact (Below.refl _ _).drew
  have hT := HAG.out.1.below hbX
  have hS := HP2.out.box.below hbX
  have HP3 := Lib.hid (HP2.out.below hbX)
  have HGB := Lib.hid (HAG.out.2.below hbX)
  have HB3 := Lib.hid (below_then HB2.out HB2.out.size hbX)
  clear hX0 hbX HAG HP2 HB2 HE
  refine wpTwo_takeT (i := 0) (v := .pointer (some ⟨r, 0, none⟩)) rfl (by kernel_rfl) (by kernel_rfl) (by kernel_rfl) (fun _ _ _ h => h) ⟨by rfl, ?_⟩ hT ?_
  · rintro w hTw
    go_simp
  (try simp only [Act.put, List.getElem_toArray, List.getElem_cons_zero, List.setIfInBounds_toArray, List.set_cons_succ, List.set_cons_zero])
  refine wpTwo_takeT (i := 1) (v := .pointer (some ⟨r, 0, none⟩)) rfl (by kernel_rfl) (by kernel_rfl) (by kernel_rfl) (fun _ _ _ h => h) ⟨by rfl, ?_⟩ hT ?_
  · rintro w hTw
    go_simp
  (try simp only [Act.put, List.getElem_toArray, List.getElem_cons_succ, List.getElem_cons_zero, List.setIfInBounds_toArray, List.set_cons_succ, List.set_cons_zero])
  refine wpTwo_takeT (i := 2) (v := .pointer (some ⟨r, 0, none⟩)) rfl (by kernel_rfl) (by kernel_rfl) (by kernel_rfl) (fun _ _ _ h => h) ⟨by rfl, ?_⟩ hT ?_
  · rintro w hTw
    go_simp
  (try simp only [Act.put, List.getElem_toArray, List.getElem_cons_succ, List.getElem_cons_zero, List.setIfInBounds_toArray, List.set_cons_succ, List.set_cons_zero])
  refine wpTwo_takeT (i := 3) (v := .pointer (some ⟨r, 0, none⟩)) rfl (by kernel_rfl) (by kernel_rfl) (by kernel_rfl) (fun _ _ _ h => h) ⟨by rfl, ?_⟩ hT ?_
  · rintro w hTw
    go_simp
  (try simp only [Act.put, List.getElem_toArray, List.getElem_cons_succ, List.getElem_cons_zero, List.setIfInBounds_toArray, List.set_cons_succ, List.set_cons_zero])
  refine wpTwo_takeS (i := 4) (v := .agg #[x, y, .bool P.f]) (waits_all (by kernel_rfl)) rfl (by kernel_rfl) (by kernel_rfl) (by kernel_rfl) (fun _ _ _ h => h) ⟨by rfl, ?_⟩ ⟨hT, hS⟩ ?_
  · rintro w ⟨-, hSw⟩
    obtain ⟨t0, t1, t2, t3⟩ := YBox.cells hSw
    go_simp
  (try simp only [Act.put, List.getElem_toArray, List.getElem_cons_succ, List.getElem_cons_zero, List.setIfInBounds_toArray, List.set_cons_succ, List.set_cons_zero])
  refine wpTwo_takeT (i := 5) (v := .agg #[.int .i64 k, .int .i64 a, .int .u64 o, .int .u64 m]) rfl (by kernel_rfl) (by kernel_rfl) (by kernel_rfl) (fun _ _ _ h => h) ⟨by rfl, ?_⟩ hT ?_
  · rintro w hTw
    obtain ⟨t0, t1, t2, t3⟩ := AcBox.cells hTw
    go_simp
  (try simp only [Act.put, List.getElem_toArray, List.getElem_cons_succ, List.getElem_cons_zero, List.setIfInBounds_toArray, List.set_cons_succ, List.set_cons_zero])
  refine wpTwo_ready (rs := [6]) (by kernel_rfl) (by simp) ?_
  refine (AllTwo.cons rfl (fun K hK => ?_) AllTwo.nil)
  go_simp
  refine (HSTEP.out X0 HB3.out).mono ?_
  rintro e X1 ⟨⟨gw, cw, gl, cl, rfl, how, hol⟩, hb⟩
  obtain ⟨u, f2, gv, gd⟩ := R
  simp only at how hol HST HTK HRL
  obtain ⟨nu, hnu⟩ : ∃ nu, nu = u.length := ⟨_, rfl⟩
  have HNU := Lib.hid hnu
  rw [← hnu] at how
  obtain ⟨nl, hnl⟩ : ∃ nl, nl = ls.length := ⟨_, rfl⟩
  have HNL := Lib.hid hnl
  rw [← hnl] at hol
  simp only [← hnu, ← hnl]
  clear hnu hnl
  have HOW := Lib.hid (And.intro how hol)
  have hT := hT.below hb
  have hS := hS.below hb
  have HP4 := Lib.hid (HP3.out.below hb)
  have HGB4 := Lib.hid (HGB.out.below hb)
  have HB4 := Lib.hid (below_then HB3.out HB3.out.size hb)
  have HX0 := Lib.hid HB3.out.size
  clear hb how hol HP3 HGB HB3 HSTEP
  go_wp2_with fail
  refine hK.out _ _ ⟨hT, fun _ _ => hS⟩ ?_
  clear hK K
  (try simp only [Act.put, List.getElem_toArray, List.getElem_cons_succ, List.getElem_cons_zero, List.setIfInBounds_toArray, List.set_cons_succ, List.set_cons_zero])
  refine wpTwo_takeT (i := 7) (v := .tuple #[.agg #[.slice (some ⟨gw, 0, none⟩) nu cw, .slice (some ⟨gl, 0, none⟩) nl cl, .bool f2], .agg #[.int .u64 gv, .bool gd], .int .i64 0]) rfl (by kernel_rfl) (by kernel_rfl) (by kernel_rfl) (fun _ _ _ h => h) ⟨by rfl, ?_⟩ hT ?_
  · rintro w hTw
    go_simp
  (try simp only [Act.put, List.getElem_toArray, List.getElem_cons_succ, List.getElem_cons_zero, List.setIfInBounds_toArray, List.set_cons_succ, List.set_cons_zero])
  refine wpTwo_takeT (i := 8) (v := .agg #[.slice (some ⟨gw, 0, none⟩) nu cw, .slice (some ⟨gl, 0, none⟩) nl cl, .bool f2]) rfl (by kernel_rfl) (by kernel_rfl) (by kernel_rfl) (fun _ _ _ h => h) ⟨by rfl, ?_⟩ hT ?_
  · rintro w hTw
    go_simp
  (try simp only [Act.put, List.getElem_toArray, List.getElem_cons_succ, List.getElem_cons_zero, List.setIfInBounds_toArray, List.set_cons_succ, List.set_cons_zero])
  refine wpTwo_takeT (i := 9) (v := .agg #[.int .u64 gv, .bool gd]) rfl (by kernel_rfl) (by kernel_rfl) (by kernel_rfl) (fun _ _ _ h => h) ⟨by rfl, ?_⟩ hT ?_
  · rintro w hTw
    go_simp
  (try simp only [Act.put, List.getElem_toArray, List.getElem_cons_succ, List.getElem_cons_zero, List.setIfInBounds_toArray, List.set_cons_succ, List.set_cons_zero])
  refine wpTwo_takeT (i := 10) (v := .int .i64 0) rfl (by kernel_rfl) (by kernel_rfl) (by kernel_rfl) (fun _ _ _ h => h) ⟨by rfl, ?_⟩ hT ?_
  · rintro w hTw
    go_simp
  (try simp only [Act.put, List.getElem_toArray, List.getElem_cons_succ, List.getElem_cons_zero, List.setIfInBounds_toArray, List.set_cons_succ, List.set_cons_zero])
  refine wpTwo_takeT (i := 11) (v := .pointer (some ⟨r, 0, none⟩)) rfl (by kernel_rfl) (by kernel_rfl) (by kernel_rfl) (fun _ _ _ h => h) ⟨by rfl, ?_⟩ hT ?_
  · rintro w hTw
    go_simp
  (try simp only [Act.put, List.getElem_toArray, List.getElem_cons_succ, List.getElem_cons_zero, List.setIfInBounds_toArray, List.set_cons_succ, List.set_cons_zero])
  refine wpTwo_takeT (i := 12) (v := .pointer (some ⟨r, 0, none⟩)) rfl (by kernel_rfl) (by kernel_rfl) (by kernel_rfl) (fun _ _ _ h => h) ⟨by rfl, ?_⟩ hT ?_
  · rintro w hTw
    go_simp
  (try simp only [Act.put, List.getElem_toArray, List.getElem_cons_succ, List.getElem_cons_zero, List.setIfInBounds_toArray, List.set_cons_succ, List.set_cons_zero])
  refine wpTwo_ready (rs := [13]) (by kernel_rfl) (by simp) ?_
  refine (AllTwo.cons rfl (fun K hK => ?_) AllTwo.nil)
  obtain ⟨t0, t1, t2, t3⟩ := hS.cells
  have hf := hS.free
  have hf0 := hf 0
  have hf1 := hf 1
  have hf2 := hf 2
  obtain ⟨X2, hX2⟩ : ∃ X : World, X = ((X1.setCell ⟨r, 0, none⟩ (.slice (some ⟨gw, 0, none⟩) nu cw)).setCell ⟨r, 1, none⟩ (.slice (some ⟨gl, 0, none⟩) nl cl)).setCell ⟨r, 2, none⟩ (.bool f2) := ⟨_, rfl⟩
  have k0 : ∀ (X : World) (i : Nat) (v : Value), Keeps (fun q => q = r) X (X.setCell ⟨r, i, none⟩ v) := fun X i v => Keeps.setCell X (S := fun q => q = r) (p := ⟨r, i, none⟩) rfl v
  have hk : Keeps (fun q => q = r) X1 X2 := by rw [hX2]; exact ((k0 _ _ _).trans (k0 _ _ _)).trans (k0 _ _ _)
  have hPB : YBox X2 r (.slice (some ⟨gw, 0, none⟩) nu cw) (.slice (some ⟨gl, 0, none⟩) nl cl) f2 (.slice (some ⟨g, 0, none⟩) n n) := by rw [hX2]; exact hS.set _ _ _
  have hX0s := HX0.out
  have hT2 := hT.keeps hk (fun e => by have e : z = r := e; omega)
  have HP5 := Lib.hid (show PlayIn X2 B r g ls ⟨u, f2, P.ss⟩ (.slice (some ⟨gw, 0, none⟩) nu cw) (.slice (some ⟨gl, 0, none⟩) nl cl) n from by
    have h0 := HP4.out
    have hw := HOW.out.1
    have hl := HOW.out.2
    rw [HNU.out] at hw hPB ⊢
    rw [HNL.out] at hl hPB ⊢
    refine ⟨hPB, (hk.row hw (fun q hq e => by have := (hw.lt q hq).1; have e : q = r := e; omega)).mono (by omega), (hk.row hl (fun q hq e => by have := (hl.lt q hq).1; have e : q = r := e; omega)).mono (by omega), hk.row h0.places (fun q hq e => by have e : q = r := e; subst e; exact hrg (by cases hq; rfl)), h0.len, h0.lo⟩)
  have HGB5 := Lib.hid (HGB4.out.keeps hk (fun e => by have e : z + 1 = r := e; omega))
  have HK5 := Lib.hid (show Keeps (fun q => q = r ∨ q = g) W X2 from (Keeps.of_below HB4.out).trans (hk.sub (fun q _ hq => .inl hq)))
  go_simp
  rw [← hX2]
  refine hK.out _ _ ⟨hT2, fun h _ => absurd h (by decide)⟩ ?_
  clear hK K t0 t1 t2 t3 hf hf0 hf1 hf2 hX2 k0 hk hPB hT hS HP4 HGB4 HB4 HOW
  (try simp only [Act.put, List.getElem_toArray, List.getElem_cons_succ, List.getElem_cons_zero, List.setIfInBounds_toArray, List.set_cons_succ, List.set_cons_zero])
  refine wpTwo_ready (rs := [14]) (by kernel_rfl) (by simp) ?_
  refine (AllTwo.cons rfl (fun K hK => ?_) AllTwo.nil)
  obtain ⟨t0, t1⟩ := HGB5.out.cells
  have hf0 : X2.frozen? ⟨z + 1, 0, none⟩ = false := (gbox_cells HGB5.out).2.1
  have hf1 : X2.frozen? ⟨z + 1, 1, none⟩ = false := (gbox_cells HGB5.out).2.2
  obtain ⟨X3, hX3⟩ : ∃ X : World, X = (X2.setCell ⟨z + 1, 0, none⟩ (.int .u64 gv)).setCell ⟨z + 1, 1, none⟩ (.bool gd) := ⟨_, rfl⟩
  have hG3 : GBox X3 (z + 1) gv gd := by
    unfold GBox
    rw [hX3, heap_setCell_same _ (z + 1) 1 _ _ _ (heap_setCell_same X2 (z + 1) 0 _ _ _ HGB5.out)]; rfl
  have hk : Keeps (fun q => q = z + 1) X2 X3 := by rw [hX3]; exact (Keeps.setCell X2 (S := fun q => q = z + 1) (p := ⟨z + 1, 0, none⟩) rfl _).trans (Keeps.setCell _ (S := fun q => q = z + 1) (p := ⟨z + 1, 1, none⟩) rfl _)
  have hno : ∀ (E : TypeId) (s n : Nat) (v : Value) (xs : List Value), E ≠ 36 → X2.ownsRow B E s v n xs → ∀ gg, v.ownBlock = some gg → ¬ gg = z + 1 := fun E s n v xs hE hr gg hgg e => by
    subst e
    obtain ⟨cc, f, h7⟩ := Lib.ownsRow_kind hr _ hgg
    rw [show X2.heap[z + 1]? = _ from HGB5.out] at h7
    injection h7 with h7
    injection h7 with _ h8
    exact hE h8.symm
  have HP6 := Lib.hid (show PlayIn X3 B r g ls ⟨u, f2, P.ss⟩ (.slice (some ⟨gw, 0, none⟩) nu cw) (.slice (some ⟨gl, 0, none⟩) nl cl) n from
    ⟨HP5.out.box.keeps hk (fun e => by have e : r = z + 1 := e; omega), hk.row HP5.out.words (hno _ _ _ _ _ (by decide) HP5.out.words), hk.row HP5.out.lives (hno _ _ _ _ _ (by decide) HP5.out.lives), hk.row HP5.out.places (hno _ _ _ _ _ (by decide) HP5.out.places), HP5.out.len, HP5.out.lo⟩)
  have HK6 := Lib.hid (show Keeps (fun q => q = r ∨ q = g) W X3 from by
    refine ⟨hk.os.trans HK5.out.os, hk.tape.trans HK5.out.tape, hk.output.trans HK5.out.output, Nat.le_trans HK5.out.size hk.size, fun q hq hn => (hk.block q (Nat.lt_of_lt_of_le hq HK5.out.size) (fun e => by have e : q = z + 1 := e; omega)).trans (HK5.out.block q hq hn)⟩)
  have hT3 := hT2.keeps hk (fun e => by have e : z = z + 1 := e; omega)
  have HG3 := Lib.hid hG3
  have hz1 : W.heap.size ≤ z + 1 := by omega
  go_simp
  rw [← hX3]
  refine hK.out _ _ ⟨hT3, fun h _ => absurd h (by decide)⟩ ?_
  clear hK K t0 t1 hf0 hf1 hX3 hk hno hG3 HP5 HK5 HGB5 hT2 hT3
  (try simp only [Act.put, List.getElem_toArray, List.getElem_cons_succ, List.getElem_cons_zero, List.setIfInBounds_toArray, List.set_cons_succ, List.set_cons_zero])
  refine wpTwo_end (by kernel_rfl) ?_ _
  go_upto_region 4 with (fail)
  obtain ⟨⟨c0, c1, c2⟩, hfz, hgl⟩ := HP6.out.cell hi
  have HCS := Lib.hid (show ((⟨u, f2, P.ss⟩ : PlM).ss.getD i dS) = ⟨sa, sp, st⟩ from HS0.out.symm)
  rw [HCS.out] at c0 c1 c2
  simp only at c0 c1 c2
  refine wpTwo_begin (T := fun w' => w'.cell? ⟨r, 3, none⟩ = some (.slice (some ⟨g, 0, none⟩) n n) ∧ GBox w' (z + 1) gv gd) (S := fun w' => w'.cell? ⟨g, i * 3, none⟩ = some (.int .i64 sa) ∧ w'.cell? ⟨g, i * 3 + 1, none⟩ = some (.int .i64 sp) ∧ w'.cell? ⟨g, i * 3 + 2, none⟩ = some (.int .u64 st)) (late := fun j => [18].contains j) (by kernel_rfl) ?_
  obtain ⟨X4, hX4⟩ : ∃ X : World, X = X3.drew := ⟨_, rfl⟩
  rw [← hX4]
  have hbX : Below X3.heap.size X3 X4 := by rw [hX4]; exact (Below.refl _ _).drew
  have hT := And.intro (below_cell hbX HP6.out.box.cells.2.2.2) (HG3.out.below hbX)
  have hS := And.intro (below_cell hbX c0) (And.intro (below_cell hbX c1) (below_cell hbX c2))
  have HP7 := Lib.hid (HP6.out.below hbX)
  have HK7 := Lib.hid (HK6.out.trans (Keeps.of_below hbX))
  clear hX4 hbX HP6 HK6 HG3 c0 c1 c2 hfz HCS HS0
  refine wpTwo_takeT (i := 0) (v := .pointer (some ⟨r, 0, none⟩)) rfl (by kernel_rfl) (by kernel_rfl) (by kernel_rfl) (fun _ _ _ h => h) ⟨by rfl, ?_⟩ hT ?_
  · rintro w ⟨t0, t1⟩
    go_simp
  (try simp only [Act.put, List.getElem_toArray, List.getElem_cons_zero, List.setIfInBounds_toArray, List.set_cons_succ, List.set_cons_zero])
  refine wpTwo_takeT (i := 1) (v := .pointer (some ⟨r, 0, none⟩)) rfl (by kernel_rfl) (by kernel_rfl) (by kernel_rfl) (fun _ _ _ h => h) ⟨by rfl, ?_⟩ hT ?_
  · rintro w ⟨t0, t1⟩
    go_simp
  (try simp only [Act.put, List.getElem_toArray, List.getElem_cons_succ, List.getElem_cons_zero, List.setIfInBounds_toArray, List.set_cons_succ, List.set_cons_zero])
  refine wpTwo_takeT (i := 2) (v := .pointer (some ⟨r, 3, none⟩)) rfl (by kernel_rfl) (by kernel_rfl) (by kernel_rfl) (fun _ _ _ h => h) ⟨by rfl, ?_⟩ hT ?_
  · rintro w ⟨t0, t1⟩
    go_simp
  (try simp only [Act.put, List.getElem_toArray, List.getElem_cons_succ, List.getElem_cons_zero, List.setIfInBounds_toArray, List.set_cons_succ, List.set_cons_zero])
  refine wpTwo_takeT (i := 3) (v := .slice (some ⟨g, 0, none⟩) n n) rfl (by kernel_rfl) (by kernel_rfl) (by kernel_rfl) (fun _ _ _ h => h) ⟨by rfl, ?_⟩ hT ?_
  · rintro w ⟨t0, t1⟩
    go_simp
  (try simp only [Act.put, List.getElem_toArray, List.getElem_cons_succ, List.getElem_cons_zero, List.setIfInBounds_toArray, List.set_cons_succ, List.set_cons_zero])
  refine wpTwo_takeT (i := 4) (v := .int .i64 (i : Int)) rfl (by kernel_rfl) (by kernel_rfl) (by kernel_rfl) (fun _ _ _ h => h) ⟨by rfl, ?_⟩ hT ?_
  · rintro w hTw
    go_simp
  (try simp only [Act.put, List.getElem_toArray, List.getElem_cons_succ, List.getElem_cons_zero, List.setIfInBounds_toArray, List.set_cons_succ, List.set_cons_zero])
  refine wpTwo_takeT (i := 5) (v := .pointer (some ⟨r, 0, none⟩)) rfl (by kernel_rfl) (by kernel_rfl) (by kernel_rfl) (fun _ _ _ h => h) ⟨by rfl, ?_⟩ hT ?_
  · rintro w ⟨t0, t1⟩
    go_simp
  (try simp only [Act.put, List.getElem_toArray, List.getElem_cons_succ, List.getElem_cons_zero, List.setIfInBounds_toArray, List.set_cons_succ, List.set_cons_zero])
  refine wpTwo_takeT (i := 6) (v := .pointer (some ⟨r, 0, none⟩)) rfl (by kernel_rfl) (by kernel_rfl) (by kernel_rfl) (fun _ _ _ h => h) ⟨by rfl, ?_⟩ hT ?_
  · rintro w ⟨t0, t1⟩
    go_simp
  (try simp only [Act.put, List.getElem_toArray, List.getElem_cons_succ, List.getElem_cons_zero, List.setIfInBounds_toArray, List.set_cons_succ, List.set_cons_zero])
  refine wpTwo_takeT (i := 7) (v := .pointer (some ⟨r, 3, none⟩)) rfl (by kernel_rfl) (by kernel_rfl) (by kernel_rfl) (fun _ _ _ h => h) ⟨by rfl, ?_⟩ hT ?_
  · rintro w ⟨t0, t1⟩
    go_simp
  (try simp only [Act.put, List.getElem_toArray, List.getElem_cons_succ, List.getElem_cons_zero, List.setIfInBounds_toArray, List.set_cons_succ, List.set_cons_zero])
  refine wpTwo_takeT (i := 8) (v := .slice (some ⟨g, 0, none⟩) n n) rfl (by kernel_rfl) (by kernel_rfl) (by kernel_rfl) (fun _ _ _ h => h) ⟨by rfl, ?_⟩ hT ?_
  · rintro w ⟨t0, t1⟩
    go_simp
  (try simp only [Act.put, List.getElem_toArray, List.getElem_cons_succ, List.getElem_cons_zero, List.setIfInBounds_toArray, List.set_cons_succ, List.set_cons_zero])
  refine wpTwo_takeT (i := 9) (v := .int .i64 (i : Int)) rfl (by kernel_rfl) (by kernel_rfl) (by kernel_rfl) (fun _ _ _ h => h) ⟨by rfl, ?_⟩ hT ?_
  · rintro w hTw
    go_simp
  (try simp only [Act.put, List.getElem_toArray, List.getElem_cons_succ, List.getElem_cons_zero, List.setIfInBounds_toArray, List.set_cons_succ, List.set_cons_zero])
  refine wpTwo_takeT (i := 10) (v := .pointer (some ⟨g, i * 3, none⟩)) rfl (by kernel_rfl) (by kernel_rfl) (by kernel_rfl) (fun _ _ _ h => h) ⟨by rfl, ?_⟩ hT ?_
  · rintro w hTw
    go_simp
  (try simp only [Act.put, List.getElem_toArray, List.getElem_cons_succ, List.getElem_cons_zero, List.setIfInBounds_toArray, List.set_cons_succ, List.set_cons_zero])
  refine wpTwo_takeS (i := 11) (v := .agg #[.int .i64 sa, .int .i64 sp, .int .u64 st]) (waits_all (by kernel_rfl)) rfl (by kernel_rfl) (by kernel_rfl) (by kernel_rfl) (fun _ _ _ h => h) ⟨by rfl, ?_⟩ ⟨hT, hS⟩ ?_
  · rintro w ⟨-, s0, s1, s2⟩
    go_simp
  (try simp only [Act.put, List.getElem_toArray, List.getElem_cons_succ, List.getElem_cons_zero, List.setIfInBounds_toArray, List.set_cons_succ, List.set_cons_zero])
  refine wpTwo_takeT (i := 12) (v := .agg #[.int .u64 gv, .bool gd]) rfl (by kernel_rfl) (by kernel_rfl) (by kernel_rfl) (fun _ _ _ h => h) ⟨by rfl, ?_⟩ hT ?_
  · rintro w ⟨-, hGw⟩
    obtain ⟨t0, t1⟩ := GBox.cells hGw
    go_simp
  (try simp only [Act.put, List.getElem_toArray, List.getElem_cons_succ, List.getElem_cons_zero, List.setIfInBounds_toArray, List.set_cons_succ, List.set_cons_zero])
  refine wpTwo_ready (rs := [13]) (by kernel_rfl) (by simp) ?_
  refine (AllTwo.cons rfl (fun K hK => ?_) AllTwo.nil)
  go_simp
  refine (HTK.out X4).mono ?_
  rintro e X5 ⟨rfl, hb⟩
  have hT := And.intro (below_cell hb hT.1) (hT.2.below hb)
  have hS := And.intro (below_cell hb hS.1) (And.intro (below_cell hb hS.2.1) (below_cell hb hS.2.2))
  have HP8 := Lib.hid (HP7.out.below hb)
  have HK8 := Lib.hid (HK7.out.trans (Keeps.of_below hb))
  clear hb HP7 HK7 HTK
  go_wp2_with fail
  refine hK.out _ _ ⟨hT, fun _ _ => hS⟩ ?_
  clear hK K
  (try simp only [Act.put, List.getElem_toArray, List.getElem_cons_succ, List.getElem_cons_zero, List.setIfInBounds_toArray, List.set_cons_succ, List.set_cons_zero])
  refine wpTwo_takeT (i := 14) (v := .tuple #[.agg #[.int .i64 a2, .int .i64 p2, .int .u64 t2], .int .i64 0]) rfl (by kernel_rfl) (by kernel_rfl) (by kernel_rfl) (fun _ _ _ h => h) ⟨by rfl, ?_⟩ hT ?_
  · rintro w hTw
    go_simp
  (try simp only [Act.put, List.getElem_toArray, List.getElem_cons_succ, List.getElem_cons_zero, List.setIfInBounds_toArray, List.set_cons_succ, List.set_cons_zero])
  refine wpTwo_takeT (i := 15) (v := .agg #[.int .i64 a2, .int .i64 p2, .int .u64 t2]) rfl (by kernel_rfl) (by kernel_rfl) (by kernel_rfl) (fun _ _ _ h => h) ⟨by rfl, ?_⟩ hT ?_
  · rintro w hTw
    go_simp
  (try simp only [Act.put, List.getElem_toArray, List.getElem_cons_succ, List.getElem_cons_zero, List.setIfInBounds_toArray, List.set_cons_succ, List.set_cons_zero])
  refine wpTwo_takeT (i := 16) (v := .int .i64 0) rfl (by kernel_rfl) (by kernel_rfl) (by kernel_rfl) (fun _ _ _ h => h) ⟨by rfl, ?_⟩ hT ?_
  · rintro w hTw
    go_simp
  (try simp only [Act.put, List.getElem_toArray, List.getElem_cons_succ, List.getElem_cons_zero, List.setIfInBounds_toArray, List.set_cons_succ, List.set_cons_zero])
  refine wpTwo_takeT (i := 17) (v := .pointer (some ⟨g, i * 3, none⟩)) rfl (by kernel_rfl) (by kernel_rfl) (by kernel_rfl) (fun _ _ _ h => h) ⟨by rfl, ?_⟩ hT ?_
  · rintro w hTw
    go_simp
  (try simp only [Act.put, List.getElem_toArray, List.getElem_cons_succ, List.getElem_cons_zero, List.setIfInBounds_toArray, List.set_cons_succ, List.set_cons_zero])
  refine wpTwo_ready (rs := [18]) (by kernel_rfl) (by simp) ?_
  refine (AllTwo.cons rfl (fun K hK => ?_) AllTwo.nil)
  obtain ⟨-, hfz, hgl⟩ := HP8.out.cell hi
  have hf0 := hfz (i * 3)
  have hf1 := hfz (i * 3 + 1)
  have hf2 := hfz (i * 3 + 2)
  obtain ⟨X6, hX6⟩ : ∃ X : World, X = ((X5.setCell ⟨g, i * 3, none⟩ (.int .i64 a2)).setCell ⟨g, i * 3 + 1, none⟩ (.int .i64 p2)).setCell ⟨g, i * 3 + 2, none⟩ (.int .u64 t2) := ⟨_, rfl⟩
  obtain ⟨hPF, hkF⟩ := HP8.out.put ⟨a2, p2, t2⟩ hX6
  have HF := Lib.hid (show PlayAt X6 B r g ls (stepP ls P i) n ∧ Keeps (fun q => q = r ∨ q = g) W X6 from ⟨⟨_, _, by rw [HST.out]; exact hPF⟩, HK8.out.trans (hkF.sub (fun q _ hq => .inr hq))⟩)
  obtain ⟨s0, s1, s2⟩ := hS
  have hT6 := And.intro (hkF.cell hT.1 (show ¬ r = g from hrg)) (hT.2.keeps hkF (fun e => by have e : z + 1 = g := e; omega))
  go_simp
  rw [← hX6]
  refine hK.out _ _ ⟨hT6, fun h _ => absurd h (by decide)⟩ ?_
  clear hK K hf0 hf1 hf2 hfz s0 s1 s2 hX6 hPF hkF HP8 HK8
  (try simp only [Act.put, List.getElem_toArray, List.getElem_cons_succ, List.getElem_cons_zero, List.setIfInBounds_toArray, List.set_cons_succ, List.set_cons_zero])
  refine wpTwo_end (by kernel_rfl) ?_ _
  go_end0
  exact ⟨rfl, HF.out⟩
theorem qstep (B r g n i : Nat) (ls : List Bool) (P : PlM) (W : World) (h : PlayAt W B r g ls P n) (hi : i < n) (hn : n ≤ 1099511627776) (hok : PlOk ls P) (hB : B ≤ W.heap.size) :
    Calls Try.prog 40 #[.pointer (some ⟨r, 0, none⟩), .int .i64 (i : Int)] W fun e w' => e = .returned (.tuple #[]) ∧ PlayAt w' B r g ls (stepP ls P i) n ∧ Keeps (fun q => q = r ∨ q = g) W w' := by
  cases hh : hasS (P.ss.getD i dS) with
  | true => exact qstep_yes B r g n i ls P W h hi hn hok hh hB
  | false => exact qstep_no B r g n i ls P W h hi hn hok hh

end Go.Proofs.Ytcnpmkigiklnnaa
/-
  turn, of a play of package spin: the step of one who is picked; what lies outside the play stays.
  Conditions: the play lies so; there is such a one; all may be.
-/
namespace Go.Proofs.Ytcnpmkigiklnnaa
open Go.RowKit Go.Shelf
attribute [local go_sem] spV ndV
attribute [local go_sem] Oper.semAt_some

set_option maxRecDepth 100000 in
set_option maxHeartbeats 4000000 in
theorem qturn_no (B r g n i : Nat) (ls : List Bool) (P : PlM) (W : World) (h : PlayAt W B r g ls P n) (hi : i < n) (hn : n ≤ 1099511627776) (hok : PlOk ls P) (hB : B ≤ W.heap.size) (hp : (P.ss.getD i dS).p ≠ 3) :
    Calls Try.prog 44 #[.pointer (some ⟨r, 0, none⟩), .int .i64 (i : Int)] W fun e w' => e = .returned (.tuple #[]) ∧ PlayAt w' B r g ls (turnP ls P i) n ∧ Keeps (fun q => q = r ∨ q = g) W w' := by
  obtain ⟨x, y, h⟩ := h
  have hil : i < P.ss.length := by rw [h.len]; exact hi
  have hmem := getD_mem hil
  obtain ⟨s, hs⟩ : ∃ s, s = P.ss.getD i dS := ⟨_, rfl⟩
  have hsa := hok.may _ hmem
  have hsr := hok.sr _ hmem
  rw [← hs] at hsa hsr hp
  have HLV := Lib.hid (qleave_no s hsa hp W)
  have HT := Lib.hid (show turnP ls P i = stepP ls P i by
    unfold turnP
    have e : leaveS (P.ss.getD i dS) = P.ss.getD i dS := by unfold leaveS; rw [← hs, if_neg hp]
    rw [e]
    have e2 : P.ss.set i (P.ss.getD i dS) = P.ss := by
      rw [List.getD_eq_getElem?_getD, List.getElem?_eq_getElem hil]; exact List.set_getElem_self hil
    rw [e2])
  obtain ⟨⟨c0, c1, c2⟩, hfz, hg⟩ := h.cell hi
  rw [← hs] at c0 c1 c2
  obtain ⟨k0, k1, k2, k3⟩ := h.box.cells
  obtain ⟨sa, sp, st⟩ := s
  simp only [spV] at HLV c0 c1 c2
  have HP := Lib.hid (show PlayAt W B r g ls P n from ⟨x, y, h⟩)
  have HST := Lib.hid (fun (Z : World) (hz : PlayAt Z B r g ls P n) (hb : B ≤ Z.heap.size) => qstep B r g n i ls P Z hz hi hn hok hb)
  clear hs h hok hil hfz k0 k1 k2 hmem hsa hsr hp
  go_enter Try.func44, Try.ntmps44
  go_wp2_with fail
  refine HLV.out.mono ?_
  rintro e w1 ⟨rfl, hb⟩
  obtain ⟨w2, hw2⟩ : ∃ w : World, w = w1.alloc (.cells #[.int .i64 0, .int .i64 0, .int .u64 0] 24) := ⟨_, rfl⟩
  have hb2 : Below W.heap.size W w2 := by rw [hw2]; exact below_then hb hb.size (below1 _ _)
  have HP2 := Lib.hid (HP.out.below hb2)
  have HB2 := Lib.hid hb2
  have HE := Lib.hid hw2
  clear hb hb2 hw2 HLV HP c0 c1 c2 k3
  go_upto_region 3 with (fail)
  rw [← HE.out]
  go_wp2_with fail
  refine (HST.out w2 HP2.out (Nat.le_trans hB HB2.out.size)).mono ?_
  rintro e w3 ⟨rfl, hP3, hk3⟩
  have HF := Lib.hid (show PlayAt w3 B r g ls (turnP ls P i) n ∧ Keeps (fun q => q = r ∨ q = g) W w3 from ⟨by rw [HT.out]; exact hP3, (Keeps.of_below HB2.out).trans hk3⟩)
  clear hP3 hk3 HST HP2 HB2 HE
  go_wp2
  go_end0
  exact ⟨rfl, HF.out⟩
set_option maxRecDepth 100000 in
set_option maxHeartbeats 4000000 in
theorem qturn_yes (B r g n i : Nat) (ls : List Bool) (P : PlM) (W : World) (h : PlayAt W B r g ls P n) (hi : i < n) (hn : n ≤ 1099511627776) (hok : PlOk ls P) (hB : B ≤ W.heap.size) (hp : (P.ss.getD i dS).p = 3) :
    Calls Try.prog 44 #[.pointer (some ⟨r, 0, none⟩), .int .i64 (i : Int)] W fun e w' => e = .returned (.tuple #[]) ∧ PlayAt w' B r g ls (turnP ls P i) n ∧ Keeps (fun q => q = r ∨ q = g) W w' := by
  obtain ⟨x, y, h⟩ := h
  have hil : i < P.ss.length := by rw [h.len]; exact hi
  have hmem := getD_mem hil
  obtain ⟨s, hs⟩ : ∃ s, s = P.ss.getD i dS := ⟨_, rfl⟩
  have hsa := hok.may _ hmem
  have hsr := hok.sr _ hmem
  rw [← hs] at hsa hsr hp
  have HLV := Lib.hid (qleave_held s hsa hp W)
  have hlv : leaveS s = ⟨s.a, 4, s.t⟩ := by unfold leaveS; rw [if_pos hp]
  have hpo := hok.put i (leaveS_ok hsa hsr).1 (leaveS_ok hsa hsr).2
  rw [hlv] at hpo
  have HT := Lib.hid (show turnP ls P i = stepP ls ⟨P.ws, P.f, P.ss.set i ⟨s.a, 4, s.t⟩⟩ i by unfold turnP; rw [← hs, hlv])
  obtain ⟨⟨c0, c1, c2⟩, hfz, hg⟩ := h.cell hi
  rw [← hs] at c0 c1 c2
  obtain ⟨k0, k1, k2, k3⟩ := h.box.cells
  obtain ⟨sa, sp, st⟩ := s
  simp only [spV] at HLV c0 c1 c2 HT hpo
  have HP := Lib.hid h
  have HST := Lib.hid (fun (Z : World) (hz : PlayAt Z B r g ls ⟨P.ws, P.f, P.ss.set i ⟨sa, 4, st⟩⟩ n) (hb : B ≤ Z.heap.size) => qstep B r g n i ls _ Z hz hi hn hpo hb)
  have hrg : r ≠ g := h.ne
  have hrl : r < W.heap.size := h.box.lt
  clear hs h hok hil hfz k0 k1 k2 hmem hsa hsr hp hlv hpo
  go_enter Try.func44, Try.ntmps44
  go_wp2_with fail
  refine HLV.out.mono ?_
  rintro e w1 ⟨rfl, hb⟩
  obtain ⟨z, hz⟩ : ∃ z, z = w1.heap.size := ⟨_, rfl⟩
  obtain ⟨w2, hw2⟩ : ∃ w : World, w = w1.alloc (.cells #[.int .i64 sa, .int .i64 4, .int .u64 st] 24) := ⟨_, rfl⟩
  have hb2 : Below W.heap.size W w2 := by rw [hw2]; exact below_then hb hb.size (below1 _ _)
  have HSB := Lib.hid (show SpBox w2 z sa 4 st by rw [hw2, hz]; exact World.alloc_heap_new _ _)
  have hzW : W.heap.size ≤ z := by rw [hz]; exact hb.size
  have HP2 := Lib.hid (HP.out.below hb2)
  have HB2 := Lib.hid hb2
  have HE := Lib.hid (And.intro hw2 hz)
  clear hb hb2 hw2 hz HLV HP c0 c1 c2 k3
  go_upto_region 2 with (fail)
  rw [← HE.out.1, ← HE.out.2]
  refine wpTwo_begin (T := fun w' => w'.cell? ⟨r, 3, none⟩ = some (.slice (some ⟨g, 0, none⟩) n n) ∧ SpBox w' z sa 4 st) (S := fun _ => True) (late := fun j => [7].contains j) (by kernel_rfl) ?_
  obtain ⟨X0, hX0⟩ : ∃ X : World, X = w2.drew := ⟨_, rfl⟩
  rw [← hX0]
  have hbX : Below w2.heap.size w2 X0 := by rw [hX0]; exact (Below.refl _ _).drew
  have hT := And.intro (below_cell hbX HP2.out.box.cells.2.2.2) (HSB.out.below hbX)
  have HP3 := Lib.hid (HP2.out.below hbX)
  have HB3 := Lib.hid (below_then HB2.out HB2.out.size hbX)
  clear hX0 hbX HP2 HSB HB2 HE
  refine wpTwo_takeT (i := 0) (v := .pointer (some ⟨r, 0, none⟩)) rfl (by kernel_rfl) (by kernel_rfl) (by kernel_rfl) (fun _ _ _ h => h) ⟨by rfl, ?_⟩ hT ?_
  · rintro w hTw
    go_simp
  (try simp only [Act.put, List.getElem_toArray, List.getElem_cons_zero, List.setIfInBounds_toArray, List.set_cons_succ, List.set_cons_zero])
  refine wpTwo_takeT (i := 1) (v := .pointer (some ⟨r, 0, none⟩)) rfl (by kernel_rfl) (by kernel_rfl) (by kernel_rfl) (fun _ _ _ h => h) ⟨by rfl, ?_⟩ hT ?_
  · rintro w hTw
    go_simp
  (try simp only [Act.put, List.getElem_toArray, List.getElem_cons_succ, List.getElem_cons_zero, List.setIfInBounds_toArray, List.set_cons_succ, List.set_cons_zero])
  refine wpTwo_takeT (i := 2) (v := .pointer (some ⟨r, 3, none⟩)) rfl (by kernel_rfl) (by kernel_rfl) (by kernel_rfl) (fun _ _ _ h => h) ⟨by rfl, ?_⟩ hT ?_
  · rintro w hTw
    go_simp
  (try simp only [Act.put, List.getElem_toArray, List.getElem_cons_succ, List.getElem_cons_zero, List.setIfInBounds_toArray, List.set_cons_succ, List.set_cons_zero])
  refine wpTwo_takeT (i := 3) (v := .slice (some ⟨g, 0, none⟩) n n) rfl (by kernel_rfl) (by kernel_rfl) (by kernel_rfl) (fun _ _ _ h => h) ⟨by rfl, ?_⟩ hT ?_
  · rintro w ⟨t0, t1⟩
    go_simp
  (try simp only [Act.put, List.getElem_toArray, List.getElem_cons_succ, List.getElem_cons_zero, List.setIfInBounds_toArray, List.set_cons_succ, List.set_cons_zero])
  refine wpTwo_takeT (i := 4) (v := .int .i64 (i : Int)) rfl (by kernel_rfl) (by kernel_rfl) (by kernel_rfl) (fun _ _ _ h => h) ⟨by rfl, ?_⟩ hT ?_
  · rintro w hTw
    go_simp
  (try simp only [Act.put, List.getElem_toArray, List.getElem_cons_succ, List.getElem_cons_zero, List.setIfInBounds_toArray, List.set_cons_succ, List.set_cons_zero])
  refine wpTwo_takeT (i := 5) (v := .agg #[.int .i64 sa, .int .i64 4, .int .u64 st]) rfl (by kernel_rfl) (by kernel_rfl) (by kernel_rfl) (fun _ _ _ h => h) ⟨by rfl, ?_⟩ hT ?_
  · rintro w ⟨-, hGw⟩
    obtain ⟨t0, t1, t2⟩ := SpBox.cells hGw
    go_simp
  (try simp only [Act.put, List.getElem_toArray, List.getElem_cons_succ, List.getElem_cons_zero, List.setIfInBounds_toArray, List.set_cons_succ, List.set_cons_zero])
  have hii : (i : Int) < (n : Int) := by omega
  refine wpTwo_takeT (i := 6) (v := .pointer (some ⟨g, i * 3, none⟩)) rfl (by kernel_rfl) (by kernel_rfl) (by kernel_rfl) (fun _ _ _ h => h) ⟨by rfl, ?_⟩ hT ?_
  · rintro w hTw
    go_simp
  (try simp only [Act.put, List.getElem_toArray, List.getElem_cons_succ, List.getElem_cons_zero, List.setIfInBounds_toArray, List.set_cons_succ, List.set_cons_zero])
  refine wpTwo_ready (rs := [7]) (by kernel_rfl) (by simp) ?_
  refine (AllTwo.cons rfl (fun K hK => ?_) AllTwo.nil)
  obtain ⟨⟨s0, s1, s2⟩, hfz, hgl⟩ := HP3.out.cell hi
  have hf0 := hfz (i * 3)
  have hf1 := hfz (i * 3 + 1)
  have hf2 := hfz (i * 3 + 2)
  obtain ⟨X1, hX1⟩ : ∃ X : World, X = ((X0.setCell ⟨g, i * 3, none⟩ (.int .i64 sa)).setCell ⟨g, i * 3 + 1, none⟩ (.int .i64 4)).setCell ⟨g, i * 3 + 2, none⟩ (.int .u64 st) := ⟨_, rfl⟩
  obtain ⟨hPF, hkF⟩ := HP3.out.put ⟨sa, 4, st⟩ hX1
  have hgz : ¬ z = g := fun e => by have := HP3.out.places.lt g rfl; have := hg; omega
  have hT1 := And.intro (hkF.cell hT.1 (show ¬ r = g from hrg)) (hT.2.keeps hkF hgz)
  have HP4 := Lib.hid (show PlayAt X1 B r g ls ⟨P.ws, P.f, P.ss.set i ⟨sa, 4, st⟩⟩ n from ⟨_, _, hPF⟩)
  have HK4 := Lib.hid (show Keeps (fun q => q = r ∨ q = g) W X1 from (Keeps.of_below HB3.out).trans (hkF.sub (fun q _ hq => .inr hq)))
  go_simp
  rw [← hX1]
  refine hK.out _ _ ⟨hT1, fun _ _ => trivial⟩ ?_
  clear hK K s0 s1 s2 hf0 hf1 hf2 hfz hX1 hPF hkF HP3 HB3 hT hT1
  (try simp only [Act.put, List.getElem_toArray, List.getElem_cons_succ, List.getElem_cons_zero, List.setIfInBounds_toArray, List.set_cons_succ, List.set_cons_zero])
  refine wpTwo_end (by kernel_rfl) ?_ _
  go_wp2_with fail
  refine (HST.out X1 HP4.out (Nat.le_trans hB HK4.out.size)).mono ?_
  rintro e w3 ⟨rfl, hP3, hk3⟩
  have HF := Lib.hid (show PlayAt w3 B r g ls (turnP ls P i) n ∧ Keeps (fun q => q = r ∨ q = g) W w3 from ⟨by rw [HT.out]; exact hP3, HK4.out.trans hk3⟩)
  clear hP3 hk3 HST HP4 HK4
  go_wp2
  go_end0
  exact ⟨rfl, HF.out⟩
theorem qturn (B r g n i : Nat) (ls : List Bool) (P : PlM) (W : World) (h : PlayAt W B r g ls P n) (hi : i < n) (hn : n ≤ 1099511627776) (hok : PlOk ls P) (hB : B ≤ W.heap.size) :
    Calls Try.prog 44 #[.pointer (some ⟨r, 0, none⟩), .int .i64 (i : Int)] W fun e w' => e = .returned (.tuple #[]) ∧ PlayAt w' B r g ls (turnP ls P i) n ∧ Keeps (fun q => q = r ∨ q = g) W w' := by
  by_cases hp : (P.ss.getD i dS).p = 3
  · exact qturn_yes B r g n i ls P W h hi hn hok hB hp
  · exact qturn_no B r g n i ls P W h hi hn hok hB hp

end Go.Proofs.Ytcnpmkigiklnnaa
namespace Go.Proofs.Ytcnpmkigiklnnaa
open Go.RowKit Go.Shelf
attribute [local go_sem] Oper.semAt_some

/-- A slice that reads as these. -/
def SpinsAt (w : World) (v : Value) (ss : List SpM) : Prop := ∃ q cap, v = .slice q ss.length cap ∧ (ss ≠ [] → ∃ b off, q = some ⟨b, off, none⟩ ∧ ∀ j u, (flatS ss)[j]? = some u → w.cell? ⟨b, off + j, none⟩ = some u)
theorem SpinsAt.below {w w' : World} {v : Value} {ss : List SpM} (h : SpinsAt w v ss) (hb : Below w.heap.size w w') : SpinsAt w' v ss := by
  obtain ⟨q, cap, rfl, hc⟩ := h
  refine ⟨q, cap, rfl, fun hne => ?_⟩
  obtain ⟨b, off, rfl, hcs⟩ := hc hne
  exact ⟨b, off, rfl, fun j u hj => (hb.cell (World.block_lt_of_cell? w _ (hcs j u hj))).trans (hcs j u hj)⟩

theorem run_copy_rows {P : Program} (w : World) (dT sT ty elem : TypeId) (g dCap sCap n k : Nat) (sp : Option Addr) (cur : Array Value) (t : TypeId) (cs : List Value)
    (hu : P.underlying dT = some (.slice elem)) (hs : (P.info? elem).map (·.size) = some k) (hg : w.heap[g]? = some (.cells cur t (0, 0))) (hn : cs.length = n * k) (hcur : cur.size = n * k)
    (hsrc : 0 < n → ∃ a, sp = some a ∧ ∀ j v, cs[j]? = some v → w.cell? (a.add j) = some v) (h1 : ∀ v ∈ cs, v.oneCell' = true) :
    (Builtin.copy_ #[dT, sT] ty #[.slice (some ⟨g, 0, none⟩) n dCap, .slice sp n sCap]).run P w = .ok (goInt n) (w.setRow g cs.toArray) := by
  cases hq : P.info? elem with
  | none => simp [hq] at hs
  | some i =>
    have hi : i.size = k := by simpa [hq] using hs
    by_cases h0 : n = 0
    · subst h0
      have hc0 : cs = [] := List.eq_nil_of_length_eq_zero (by omega)
      have hcu : cur = #[] := Array.eq_empty_of_size_eq_zero (by omega)
      subst hc0 hcu
      have hl : ∀ (x : Addr), (loadCells x 0).run P w = .ok #[] w := fun x => by simpa using run_loadCells_list (P := P) w x [] (by simp)
      have hset : w.setRow g #[] = w := setRow_self w g #[] t (0, 0) hg
      cases sp <;> simp [Builtin.copy_, run_underlying hu, Builtin.lenOf, Builtin.firstCells, sizeOf, typeInfo, hq, storeCells, hl, hset]
    · obtain ⟨a, rfl, hsr⟩ := hsrc (by omega)
      have hl := run_loadCells_list (P := P) w a cs hsr
      have hst := run_storeCells_at P g 0 t cs 0 cur w hg (by omega) h1
      have hd : cur.toList.drop (n * k) = [] := List.drop_eq_nil_of_le (by simp; omega)
      simp [hn, hd] at hst
      rw [hn] at hl
      simp [Builtin.copy_, run_underlying hu, Builtin.lenOf, Builtin.firstCells, sizeOf, typeInfo, hq, hi, hl, hst]
theorem wpList_copy_rows {P : Program} {w : World} {ops : Array Oper} {rest : List Oper} {o : Oper} {a : Act} {Q : Exit → Act → World → Prop} (hgd : o.guard = none) (d s : Operand) (dT sT : TypeId)
    (ho : o.op = .call { callee := .builtin .copy, args := #[d, s], argTypes := #[dT, sT] }) (elem : TypeId) (hu : P.underlying dT = some (.slice elem)) (k : Nat) (hsz : (P.info? elem).map (·.size) = some k)
    (n dCap sCap g : Nat) (sp : Option Addr) (hd : a.eval d = .slice (some ⟨g, 0, none⟩) n dCap) (hs : a.eval s = .slice sp n sCap) (cur : Array Value) (t : TypeId) (hg : w.heap[g]? = some (.cells cur t (0, 0))) (cs : List Value) (hn : cs.length = n * k) (hcur : cur.size = n * k)
    (hsrc : 0 < n → ∃ a, sp = some a ∧ ∀ j v, cs[j]? = some v → w.cell? (a.add j) = some v) (h1 : ∀ v ∈ cs, v.oneCell' = true)
    (h : wpList P ops Q rest (a.put o.dst (goInt n)) (w.setRow g cs.toArray)) : wpList P ops Q (o :: rest) a w := by
  refine wpList_plain hgd fun K hK => ?_
  have hrun := run_copy_rows (P := P) w dT sT o.type elem g dCap sCap n k sp cur t cs hu hsz hg hn hcur hsrc h1
  unfold Oper.wp
  simp [execOp, ho, resolve, invoke, builtin, hd, hs, hrun, Result.andThen]
  exact hK _ _ h
theorem setRow_alloc (w : World) (cur cs : Array Value) (T : TypeId) (fr : Nat × Nat) : (w.alloc (.cells cur T fr)).setRow w.heap.size cs = w.alloc (.cells cs T fr) := by
  unfold World.setRow World.alloc
  congr 1
  apply Array.ext
  · simp
  · intro i h1 h2
    simp only [Array.getElem_modify, Array.getElem_push]
    by_cases hi : i < w.heap.size
    · have : w.heap.size ≠ i := by omega
      simp [hi, this]
    · have : w.heap.size = i := by simp at h2; omega
      simp [this]

theorem run_nil (v : Value) (ws : List Int) (ls : List Bool) (f : Bool) (W : World) (hv : MemAt W v ws ls f) (hr : rightB ws ls = true) :
    Calls Try.prog 38 #[v, .slice none 0 0] W fun e w' => (∃ gw cw gl cl vg, e = .returned (.tuple #[.agg #[.slice (some ⟨gw, 0, none⟩) ws.length cw, .slice (some ⟨gl, 0, none⟩) ls.length cl, .bool f], vg, .int .i64 0]) ∧
      w'.ownsRow W.heap.size 22 1 (.slice (some ⟨gw, 0, none⟩) ws.length cw) ws.length (ws.map (Value.int .u64)) ∧ w'.ownsRow W.heap.size 4 1 (.slice (some ⟨gl, 0, none⟩) ls.length cl) ls.length (ls.map Value.bool)) ∧ Below W.heap.size W w' :=
  (run_yes v (.slice none 0 0) ws ls f [] W hv hr ⟨none, 0, rfl, fun h => absurd rfl h⟩ (Nat.zero_le _) rfl).mono fun e w' h => by
    obtain ⟨⟨gw, cw, gl, cl, vg, he, h1, h2, _⟩, hb⟩ := h
    exact ⟨⟨gw, cw, gl, cl, vg, he, h1, h2⟩, hb⟩

theorem spin_info : (Try.prog.info? 24).map (fun i => (i.zero, i.size, i.bytes)) = some (some (.agg #[.int .i64 0, .int .i64 0, .int .u64 0]), 3, 24) := by kernel_rfl

set_option maxRecDepth 100000 in
set_option maxHeartbeats 8000000 in
theorem qbegin (v v1 : Value) (ws : List Int) (ls : List Bool) (f : Bool) (ss : List SpM) (W : World) (hv : MemAt W v ws ls f) (hr : rightB ws ls = true) (hS : SpinsAt W v1 ss) (hmax : ss.length ≤ 1099511627776) :
    Calls Try.prog 39 #[v, v1] W fun e w' => ((∀ s ∈ ss, rightS s = true) ∧ (∃ r g, e = .returned (.tuple #[.pointer (some ⟨r, 0, none⟩), .int .i64 0]) ∧ PlayAt w' W.heap.size r g ls ⟨ws, f, ss⟩ ss.length) ∨ (∃ s ∈ ss, rightS s = false) ∧ e = .returned (.tuple #[.pointer none, .int .i64 150])) ∧ Below W.heap.size W w' := by
  have hl1 : 1 ≤ ws.length := (rightB_iff.1 hr).1
  have hl2 : ls.length = ws.length := (rightB_iff.1 hr).2.2.1
  have hm := hv
  have hs := hS
  obtain ⟨vw, vl, rfl, ⟨pw, cw, rfl, hcw⟩, pl, cl, rfl, hcl⟩ := hv
  obtain ⟨q, cap, rfl, hc⟩ := hS
  have HRUN := Lib.hid (fun (Z : World) (hb : Below W.heap.size W Z) => (run_nil _ ws ls f Z (hm.below hb) hr).mono fun e w' h => by
    obtain ⟨⟨gw, cw, gl, cl, vg, he, h1, h2⟩, h3⟩ := h
    exact (⟨gw, cw, gl, cl, vg, he, h1.mono hb.size, h2.mono hb.size, (h1.lt gw rfl).1, (h2.lt gl rfl).1, h3⟩ : ∃ gw cw gl cl vg, e = .returned (.tuple #[.agg #[.slice (some ⟨gw, 0, none⟩) ws.length cw, .slice (some ⟨gl, 0, none⟩) ls.length cl, .bool f], vg, .int .i64 0]) ∧
      w'.ownsRow W.heap.size 22 1 (.slice (some ⟨gw, 0, none⟩) ws.length cw) ws.length (ws.map (Value.int .u64)) ∧ w'.ownsRow W.heap.size 4 1 (.slice (some ⟨gl, 0, none⟩) ls.length cl) ls.length (ls.map Value.bool) ∧ Z.heap.size ≤ gw ∧ Z.heap.size ≤ gl ∧ Below Z.heap.size Z w'))
  have HS := Lib.hid hs
  have HC := Lib.hid hc
  have HL := Lib.hid (And.intro hl1 hl2)
  clear hm hs hcw hcl hc hr hl1 hl2
  obtain ⟨z, hz⟩ : ∃ z, z = W.heap.size := ⟨_, rfl⟩
  obtain ⟨n, hn⟩ : ∃ n, n = ss.length := ⟨_, rfl⟩
  have HN := Lib.hid hn
  rw [← hn] at hmax
  rw [← hn]
  clear hn
  have HZ0 := Lib.hid (MBox.new W (.slice pw ws.length cw) (.slice pl ls.length cl) f)
  go_enter Try.func39, Try.ntmps39
  go_wp2_with fail
  refine (HRUN.out _ (below1 _ _)).mono ?_
  rintro e w1 ⟨gw, cw2, gl, cl2, vg, rfl, how, hol, hgw, hgl, hb1⟩
  rw [← hz]
  have HZ1 := Lib.hid (HZ0.out.below hb1)
  rw [← hz] at HZ1
  obtain ⟨⟨hd0, hd1, hd2⟩, he0, he1, he2⟩ := mbox_cells HZ1.out
  have HB1 := Lib.hid (below_then (below1 W _) (below1 W _).size hb1)
  have hzw : z < w1.heap.size := HZ1.out.lt
  have HOW := Lib.hid how
  have HOL := Lib.hid hol
  have HG := Lib.hid (show z < gw ∧ z < gl by rw [World.size_alloc] at hgw hgl; omega)
  have HZW := Lib.hid hz
  clear how hol hgw hgl hb1 HRUN HZ0 hz
  go_upto_region 4 with (fail)
  obtain ⟨w2, hw2⟩ : ∃ w2 : World, w2 = ((w1.setCell ⟨z, 0, none⟩ (.slice (some ⟨gw, 0, none⟩) ws.length cw2)).setCell ⟨z, 1, none⟩ (.slice (some ⟨gl, 0, none⟩) ls.length cl2)).setCell ⟨z, 2, none⟩ (.bool f) := ⟨_, rfl⟩
  rw [← hw2]
  have hkz : Keeps (· = z) w1 w2 := by
    rw [hw2]
    exact ((Keeps.setCell w1 (S := (· = z)) (p := ⟨z, 0, none⟩) rfl _).trans (Keeps.setCell _ (S := (· = z)) (p := ⟨z, 1, none⟩) rfl _)).trans (Keeps.setCell _ (S := (· = z)) (p := ⟨z, 2, none⟩) rfl _)
  have HZ2 := Lib.hid (show MBox w2 z (.slice (some ⟨gw, 0, none⟩) ws.length cw2) (.slice (some ⟨gl, 0, none⟩) ls.length cl2) f by rw [hw2]; exact HZ1.out.set _ _ _)
  have HOW2 := Lib.hid (hkz.row HOW.out (by intro g hg; have := HG.out; simp [Value.ownBlock] at hg; omega))
  have HOL2 := Lib.hid (hkz.row HOL.out (by intro g hg; have := HG.out; simp [Value.ownBlock] at hg; omega))
  have HB2 := Lib.hid (HB1.out.trans (hkz.below HB1.out.size (fun q hq => by rw [hq]; exact Nat.le_of_eq HZW.out.symm)))
  clear hw2 hkz HZ1 HOW HOL HB1 hd0 hd1 hd2 he0 he1 he2 hzw
  go_wp2
  go_loopw [23] (fun iv wr => ∃ i : Nat, i ≤ n ∧ iv = .int .i64 i ∧ Hid (∀ s ∈ ss.take i, rightS s = true) ∧ Hid (Below w2.heap.size w2 wr)) (fun iv _ => n - (intOf iv).toNat)
  case atStart => exact ⟨0, Nat.zero_le _, rfl, Lib.hid (fun s h => by simp at h), Lib.hid (Below.refl _ _)⟩
  case round =>
    obtain ⟨i, hi, rfl, HA, HBR⟩ := hrel
    by_cases hlt : i < n
    · have hil : i < ss.length := by have := HN.out; omega
      obtain ⟨b, off, rfl, hcs⟩ := HC.out (by intro e; rw [e] at hil; cases hil)
      obtain ⟨f0, f1, f2⟩ := flatS_get ss i hil
      have hbW := below_then HB2.out HB2.out.size HBR.out
      have g0 : wr.cell? ⟨b, off + i * 3, none⟩ = _ := (hbW.cell (World.block_lt_of_cell? W _ (hcs _ _ f0))).trans (hcs _ _ f0)
      have g1 : wr.cell? ⟨b, off + i * 3 + 1, none⟩ = _ := (hbW.cell (World.block_lt_of_cell? W _ (hcs _ _ f1))).trans (hcs _ _ f1)
      have g2 : wr.cell? ⟨b, off + i * 3 + 2, none⟩ = _ := (hbW.cell (World.block_lt_of_cell? W _ (hcs _ _ f2))).trans (hcs _ _ f2)
      have hst : ∀ s ∈ ss.take i, rightS s = true := HA.out
      obtain ⟨s, hs⟩ : ∃ s, s = ss[i] := ⟨_, rfl⟩
      rw [← hs] at g0 g1 g2
      have HMEM := Lib.hid (show s ∈ ss by rw [hs]; exact List.getElem_mem hil)
      have HNXT := Lib.hid (show rightS s = true → ∀ t ∈ ss.take (i + 1), rightS t = true from fun h t ht => by
        rw [List.take_succ_eq_append_getElem hil] at ht
        rcases List.mem_append.1 ht with h1 | h1
        · exact hst t h1
        · rw [List.mem_singleton.1 h1, ← hs]; exact h)
      obtain ⟨sa, sp, st⟩ := s
      simp only at g0 g1 g2
      clear hcs f0 f1 f2 hbW hst hs HA
      rcases Bool.eq_false_or_eq_true (rightS ⟨sa, sp, st⟩) with hrs | hrs
      · have HCK := Lib.hid (fun Z => qcheck_yes ⟨sa, sp, st⟩ hrs Z)
        simp only [spV] at HCK
        have HN2 := Lib.hid (HNXT.out hrs)
        clear hrs
        go_wp2_with fail
        refine (HCK.out _).mono ?_
        rintro e w3 ⟨rfl, hb3⟩
        have HBR3 := Lib.hid (below_then (HBR.out.alloc HBR.out.size (.cells #[.int .i64 sa, .int .i64 sp, .int .u64 st] 24)) (by have := HBR.out.size; simp; omega) hb3)
        clear hb3 g0 g1 g2
        go_wp2
        go_roundw
        case rel => exact ⟨i + 1, by omega, by go_num, HN2, HBR3⟩
        case measure => simp [intOf]; omega
      · have HCK := Lib.hid (fun Z => qcheck_no ⟨sa, sp, st⟩ hrs Z)
        simp only [spV] at HCK
        have HRS := Lib.hid hrs
        clear hrs
        go_wp2_with fail
        refine (HCK.out _).mono ?_
        rintro e w3 ⟨rfl, hb3⟩
        have HBR3 := Lib.hid (below_then (HBR.out.alloc HBR.out.size (.cells #[.int .i64 sa, .int .i64 sp, .int .u64 st] 24)) (by have := HBR.out.size; simp; omega) hb3)
        clear hb3 g0 g1 g2
        go_wp2
        refine bodyPost_ret (v := .tuple #[.pointer none, .int .i64 150]) (by simp [results, Try.results39, go_sem]) rfl ?_
        exact ⟨.inr ⟨⟨_, HMEM.out, HRS.out⟩, rfl⟩, below_then HB2.out HB2.out.size HBR3.out⟩
    · obtain rfl : i = n := by omega
      have HALL := Lib.hid (show ∀ s ∈ ss, rightS s = true by
        have := HA.out
        rwa [List.take_of_length_le (by have := HN.out; omega)] at this)
      have HZR := Lib.hid (HZ2.out.below HBR.out)
      obtain ⟨⟨hd0, hd1, hd2⟩, _⟩ := mbox_cells HZR.out
      have HBW := Lib.hid (below_then HB2.out HB2.out.size HBR.out)
      obtain ⟨i0, hi0, hy0, hy1, hy2⟩ := info_parts spin_info
      obtain ⟨cur, hcur⟩ : ∃ c : Array Value, c = madeCells (Value.agg #[.int .i64 0, .int .i64 0, .int .u64 0]).cells (i * 3) := ⟨_, rfl⟩
      have hmk : ∀ w, (Instr.makeSlice 57 (.int .i64 (i : Int)) (.int .i64 (i : Int))).run Try.prog w = .ok (.slice (some ⟨w.heap.size, 0, none⟩) i i) (w.alloc (.cells cur 24)) := fun w => by
        have := run_make (P := Try.prog) w 57 24 i0 (.agg #[.int .i64 0, .int .i64 0, .int .u64 0]) Try.underlying57 hi0 hy0 .i64 .i64 (i : Int) (i : Int) (by omega) (Int.le_refl _) (by rw [hy2]; omega) (by omega)
        rw [this, hcur, hy1]; rfl
      have HCUR := Lib.hid (show cur.size = i * 3 by rw [hcur, size_madeCells])
      clear hcur hi0 hy0 hy1 hy2
      have HSRC := Lib.hid (show 0 < i → ∃ a, q = some a ∧ ∀ j v, (flatS ss)[j]? = some v → (wr.alloc (.cells cur 24)).cell? (a.add j) = some v from fun h0 => by
        obtain ⟨b, off, rfl, hcs⟩ := HC.out (by intro e; have h1 := HN.out; rw [e] at h1; simp at h1; omega)
        refine ⟨_, rfl, fun j v hj => ?_⟩
        have hadd : (⟨b, off, none⟩ : Addr).add j = ⟨b, off + j, none⟩ := by unfold Addr.add; split <;> simp_all
        rw [hadd]
        have h1 := hcs j v hj
        have hbA := below_then HBW.out HBW.out.size (below1 wr (.cells cur 24))
        exact (hbA.cell (World.block_lt_of_cell? W _ h1)).trans h1)
      have HLN := Lib.hid (show (flatS ss).length = i * 3 by rw [flatS_length, HN.out])
      obtain ⟨w5, hw5⟩ : ∃ w5 : World, w5 = wr.alloc (.cells (flatS ss).toArray 24) := ⟨_, rfl⟩
      have HW5 : Hid (wr.alloc (.cells (flatS ss).toArray 24) = w5) := Lib.hid hw5.symm
      clear hw5 hd0 hd1 hd2
      have hz5 := HZR.out.below (show Below wr.heap.size wr w5 by rw [← HW5.out]; exact below1 wr _)
      obtain ⟨⟨hd0, hd1, hd2⟩, _⟩ := mbox_cells hz5
      have HFB := Lib.hid (show Below W.heap.size W (w5.alloc (.cells #[.slice (some ⟨gw, 0, none⟩) ws.length cw2, .slice (some ⟨gl, 0, none⟩) ls.length cl2, .bool f, .slice (some ⟨wr.heap.size, 0, none⟩) i i] 90)) from by
        rw [← HW5.out]
        exact below_then HBW.out HBW.out.size (below2 wr _ _))
      have HFIN := Lib.hid (show PlayAt (w5.alloc (.cells #[.slice (some ⟨gw, 0, none⟩) ws.length cw2, .slice (some ⟨gl, 0, none⟩) ls.length cl2, .bool f, .slice (some ⟨wr.heap.size, 0, none⟩) i i] 90)) W.heap.size w5.heap.size wr.heap.size ls ⟨ws, f, ss⟩ i from by
        have hb := below_then HBR.out HBR.out.size (below2 wr (.cells (flatS ss).toArray 24) (.cells #[.slice (some ⟨gw, 0, none⟩) ws.length cw2, .slice (some ⟨gl, 0, none⟩) ls.length cl2, .bool f, .slice (some ⟨wr.heap.size, 0, none⟩) i i] 90))
        rw [HW5.out] at hb
        have h5 : (wr.alloc (.cells (flatS ss).toArray 24)).ownsRow W.heap.size 24 3 (.slice (some ⟨wr.heap.size, 0, none⟩) i i) i (flatS ss) := by
          have := World.ownsRow_lit (base := W.heap.size) (e := 24) (size := 3) wr (flatS ss).toArray i HBW.out.size (by unfold maxLen; omega) (by have := HLN.out; simp; omega)
          simpa using this
        rw [HW5.out] at h5
        exact ⟨_, _, World.alloc_heap_new w5 _, (Keeps.of_below (S := fun _ => False) hb).row HOW2.out (fun _ _ h => h), (Keeps.of_below (S := fun _ => False) hb).row HOL2.out (fun _ _ h => h), h5.alloc _, HN.out.symm, by rw [← HW5.out, World.size_alloc]; have := HBW.out.size; omega⟩)
      clear hz5
      go_wp2_with (with_reducible refine wpList_copy_rows (o := ⟨some 38, _, _, _, _, _⟩) rfl (.tmp 36) (.tmp 37) 57 57 rfl 24 Try.underlying57 3 (by kernel_rfl) i i cap wr.heap.size q rfl rfl cur 24 (World.alloc_heap_new wr _) (flatS ss) HLN.out HCUR.out HSRC.out (flatS_one ss) ?_; rw [setRow_alloc]; rw [HW5.out])
      refine bodyPost_ret (v := .tuple #[.pointer (some ⟨w5.heap.size, 0, none⟩), .int .i64 0]) (by simp [results, Try.results39, go_sem]) rfl ?_
      exact ⟨.inl ⟨HALL.out, w5.heap.size, wr.heap.size, rfl, HFIN.out⟩, HFB.out⟩

end Go.Proofs.Ytcnpmkigiklnnaa
