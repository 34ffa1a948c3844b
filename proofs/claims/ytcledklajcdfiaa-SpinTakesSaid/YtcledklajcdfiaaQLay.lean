/-
  Lay, of package spin: a lock is laid.
  Conditions: none but the ranges of Go's types.
-/
import Derived.Test.YtcledklajcdfiaaQBegin
namespace Go.Proofs.Ytcledklajcdfiaa
open Go.RowKit Go.Shelf
attribute [local go_sem] Oper.semAt_some

def layM (ws : List Int) (ls : List Bool) (f : Bool) (a : Int) : (List Int × Bool) × ((Int × Bool) × (Int × Bool)) :=
  let r0 := accM ws ls f 2 a 0 0
  let r1 := accM r0.1 ls r0.2.1 2 (incI a) 0 0
  ((r1.1, r1.2.1), (r0.2.2, r1.2.2))
theorem layM_run (ws : List Int) (ls : List Bool) (f : Bool) (a : Int) : runS ls ws f [⟨2, a, 0, 0⟩, ⟨2, incI a, 0, 0⟩] = ((layM ws ls f a).1.1, (layM ws ls f a).1.2, [(layM ws ls f a).2.1, (layM ws ls f a).2.2]) := rfl
theorem layM_length (ws : List Int) (ls : List Bool) (f : Bool) (a : Int) : (layM ws ls f a).1.1.length = ws.length := by
  unfold layM
  simp only [accM_length]

set_option maxRecDepth 100000 in
set_option maxHeartbeats 8000000 in
theorem qlay (v : Value) (ws : List Int) (ls : List Bool) (f : Bool) (a : Int) (W : World) (hv : MemAt W v ws ls f) (hr : rightB ws ls = true) (ha : -9223372036854775808 ≤ a ∧ a ≤ 9223372036854775807) :
    Calls Try.prog 20 #[v, .int .i64 a] W fun e w' => (((layM ws ls f a).2.1.2 = true ∧ (layM ws ls f a).2.2.2 = true ∧ ∃ x y, e = .returned (.tuple #[.agg #[x, y, .bool (layM ws ls f a).1.2], .int .i64 0]) ∧
      w'.ownsRow W.heap.size 22 1 x ws.length ((layM ws ls f a).1.1.map (Value.int .u64)) ∧ w'.ownsRow W.heap.size 4 1 y ls.length (ls.map Value.bool)) ∨
      ((layM ws ls f a).2.1.2 && (layM ws ls f a).2.2.2) = false ∧ e = .returned (.tuple #[.agg #[.slice none 0 0, .slice none 0 0, .bool false], .int .i64 2])) ∧ Below W.heap.size W w' := by
  have hll := layM_length ws ls f a
  have hrun := layM_run ws ls f a
  obtain ⟨⟨⟨us, f2⟩, ⟨g0, d0⟩, ⟨g1, d1⟩⟩, hL⟩ : ∃ L, L = layM ws ls f a := ⟨_, rfl⟩
  rw [← hL] at hll hrun
  rw [← hL]
  simp only at hll hrun ⊢
  clear hL
  have hm := hv
  obtain ⟨vw, vl, rfl, ⟨pw, cw, rfl, hcw⟩, pl, cl, rfl, hcl⟩ := hv
  obtain ⟨z, hz⟩ : ∃ z, z = W.heap.size := ⟨_, rfl⟩
  obtain ⟨ai, hai⟩ : ∃ ai, ai = incI a := ⟨_, rfl⟩
  have HRUN := Lib.hid (fun (Z : World) (hb : Below W.heap.size W Z) (u : Value) (hA : AccsAt Z u [⟨2, a, 0, 0⟩, ⟨2, incI a, 0, 0⟩]) => (run_yes _ u ws ls f [⟨2, a, 0, 0⟩, ⟨2, incI a, 0, 0⟩] Z (hm.below hb) hr hA (by simp) rfl).mono fun e w' h => by
    rw [hrun] at h
    obtain ⟨⟨gw, cw, gl, cl, vg, he, h1, h2, h3⟩, h4⟩ := h
    simp only [hll] at he h1
    obtain ⟨gg, cg, rfl, h5, h6⟩ := own_form h3 (by simp)
    exact (⟨gw, cw, gl, cl, gg, cg, he, h1, h2, h3, h4⟩ : ∃ gw cw gl cl gg cg, e = .returned (.tuple #[.agg #[.slice (some ⟨gw, 0, none⟩) ws.length cw, .slice (some ⟨gl, 0, none⟩) ls.length cl, .bool f2], .slice (some ⟨gg, 0, none⟩) 2 cg, .int .i64 0]) ∧
      w'.ownsRow Z.heap.size 22 1 (.slice (some ⟨gw, 0, none⟩) ws.length cw) ws.length (us.map (Value.int .u64)) ∧ w'.ownsRow Z.heap.size 4 1 (.slice (some ⟨gl, 0, none⟩) ls.length cl) ls.length (ls.map Value.bool) ∧ w'.ownsRow Z.heap.size 36 2 (.slice (some ⟨gg, 0, none⟩) 2 cg) 2 (flatG [(g0, d0), (g1, d1)]) ∧ Below Z.heap.size Z w'))
  obtain ⟨nw, hnw⟩ : ∃ nw, nw = ws.length := ⟨_, rfl⟩
  obtain ⟨nl, hnl⟩ : ∃ nl, nl = ls.length := ⟨_, rfl⟩
  rw [← hnw, ← hnl] at HRUN
  rw [← hnw, ← hnl]
  clear hm hcw hcl hr hrun hll hnw hnl
  go_enter Try.func20, Try.ntmps20
  go_wp2_with fail
  obtain ⟨Z, hZ⟩ : ∃ Z : World, Z = ((W.alloc (.cells #[.slice pw nw cw, .slice pl nl cl, .bool f] 46)).alloc (.cells #[.slice none 0 0, .slice none 0 0, .bool false] 46)).alloc (.cells #[.int .i64 2, .int .i64 a, .int .u64 0, .int .u64 0, .int .i64 2, .int .i64 (wrap64 (a + 1)), .int .u64 0, .int .u64 0] 31) := ⟨_, rfl⟩
  have hbZ : Below W.heap.size W Z := by rw [hZ]; exact below3 _ _ _ _
  have hzs : Z.heap.size = W.heap.size + 3 := by rw [hZ]; simp only [World.size_alloc]
  have hacc : AccsAt Z (.slice (some ⟨W.heap.size + 1 + 1, 0, none⟩) 2 2) [⟨2, a, 0, 0⟩, ⟨2, incI a, 0, 0⟩] := by
    have hnew := World.alloc_heap_new ((W.alloc (.cells #[.slice pw nw cw, .slice pl nl cl, .bool f] 46)).alloc (.cells #[.slice none 0 0, .slice none 0 0, .bool false] 46)) (.cells #[.int .i64 2, .int .i64 a, .int .u64 0, .int .u64 0, .int .i64 2, .int .i64 (wrap64 (a + 1)), .int .u64 0, .int .u64 0] 31)
    rw [← hZ, World.size_alloc, World.size_alloc] at hnew
    refine ⟨_, 2, rfl, fun _ => ⟨_, 0, rfl, fun i hi => ?_⟩⟩
    match i, hi with
    | 0, _ => simp [World.cell?, hnew]
    | 1, _ => simp [World.cell?, hnew, incI]
    | i + 2, hi => exact absurd hi (by simp)
  have hm0 : MBox Z W.heap.size (.slice pw nw cw) (.slice pl nl cl) f := by
    rw [hZ]; exact ((MBox.new W _ _ _).alloc _).alloc _
  have hm1 : MBox Z (W.heap.size + 1) (.slice none 0 0) (.slice none 0 0) false := by
    have := (MBox.new (W.alloc (.cells #[.slice pw nw cw, .slice pl nl cl, .bool f] 46)) (.slice none 0 0) (.slice none 0 0) false).alloc (.cells #[.int .i64 2, .int .i64 a, .int .u64 0, .int .u64 0, .int .i64 2, .int .i64 (wrap64 (a + 1)), .int .u64 0, .int .u64 0] 31)
    rw [World.size_alloc, ← hZ] at this
    exact this
  rw [← hZ]
  refine (HRUN.out Z hbZ _ hacc).mono ?_
  rintro e w1 ⟨gw, cw2, gl, cl2, gg, cg, rfl, how, hol, hog, hb1⟩
  rw [← hz] at hm0 hm1 hzs ⊢
  have HZ1 := Lib.hid (And.intro (hm0.below hb1) (hm1.below hb1))
  obtain ⟨⟨hd0, hd1, hd2⟩, he0, he1, he2⟩ := mbox_cells HZ1.out.1
  have HB1 := Lib.hid (below_then hbZ hbZ.size hb1)
  obtain ⟨w2, hw2⟩ : ∃ w2 : World, w2 = ((w1.setCell ⟨z, 0, none⟩ (.slice (some ⟨gw, 0, none⟩) nw cw2)).setCell ⟨z, 1, none⟩ (.slice (some ⟨gl, 0, none⟩) nl cl2)).setCell ⟨z, 2, none⟩ (.bool f2) := ⟨_, rfl⟩
  have hkz : Keeps (· = z) w1 w2 := by
    rw [hw2]
    exact ((Keeps.setCell w1 (S := (· = z)) (p := ⟨z, 0, none⟩) rfl _).trans (Keeps.setCell _ (S := (· = z)) (p := ⟨z, 1, none⟩) rfl _)).trans (Keeps.setCell _ (S := (· = z)) (p := ⟨z, 2, none⟩) rfl _)
  have hno : ∀ {E : TypeId} {s m : Nat} {u : Value} {us : List Value}, w1.ownsRow Z.heap.size E s u m us → w2.ownsRow Z.heap.size E s u m us := fun hr => hkz.row hr (fun q hq e => by have e : q = z := e; have := (hr.lt q hq).1; omega)
  have HZ2 := Lib.hid (show MBox w2 z (.slice (some ⟨gw, 0, none⟩) nw cw2) (.slice (some ⟨gl, 0, none⟩) nl cl2) f2 by rw [hw2]; exact HZ1.out.1.set _ _ _)
  have HR2 := Lib.hid (HZ1.out.2.keeps hkz (fun e => by have e : z + 1 = z := e; omega))
  have HOW := Lib.hid (And.intro (hno how) (And.intro (hno hol) (hno hog)))
  have HB2 := Lib.hid (HB1.out.trans (hkz.below HB1.out.size (fun q hq => by have e : q = z := hq; omega)))
  have HW2 := Lib.hid hw2
  have HZZ := Lib.hid (And.intro hz hzs)
  clear hkz hno hw2 hacc hm0 hm1 hbZ hZ how hol hog hb1 HB1 hz hzs HRUN
  go_upto_region 4 with (fail)
  rw [← HW2.out]
  have q0 : w2.cell? ⟨gg, 0, none⟩ = some (.int .u64 g0) := HOW.out.2.2.cellAt 0 (by decide)
  have q1 : w2.cell? ⟨gg, 1, none⟩ = some (.bool d0) := HOW.out.2.2.cellAt 1 (by decide)
  have q2 : w2.cell? ⟨gg, 2, none⟩ = some (.int .u64 g1) := HOW.out.2.2.cellAt 2 (by decide)
  have q3 : w2.cell? ⟨gg, 3, none⟩ = some (.bool d1) := HOW.out.2.2.cellAt 3 (by decide)
  clear hd0 hd1 hd2 he0 he1 he2 q0 q2
  obtain ⟨⟨hd0, hd1, hd2⟩, he0, he1, he2⟩ := mbox_cells HZ2.out
  obtain ⟨⟨hc0, hc1, hc2⟩, hf0, hf1, hf2⟩ := mbox_cells HR2.out
  cases d0
  · go_wp2
    obtain ⟨w3, hw3⟩ : ∃ w3 : World, w3 = ((w2.setCell ⟨z + 1, 0, none⟩ (.slice none 0 0)).setCell ⟨z + 1, 1, none⟩ (.slice none 0 0)).setCell ⟨z + 1, 2, none⟩ (.bool false) := ⟨_, rfl⟩
    rw [← hw3]
    have hk : Keeps (· = z + 1) w2 w3 := by
      rw [hw3]
      exact ((Keeps.setCell w2 (S := (· = z + 1)) (p := ⟨z + 1, 0, none⟩) rfl _).trans (Keeps.setCell _ (S := (· = z + 1)) (p := ⟨z + 1, 1, none⟩) rfl _)).trans (Keeps.setCell _ (S := (· = z + 1)) (p := ⟨z + 1, 2, none⟩) rfl _)
    have hM : MBox w3 (z + 1) (.slice none 0 0) (.slice none 0 0) false := by rw [hw3]; exact HR2.out.set _ _ _
    have hzz := HZZ.out
    obtain ⟨⟨r0, r1, r2⟩, _⟩ := mbox_cells hM
    refine bodyPost_ret (v := .tuple #[.agg #[.slice none 0 0, .slice none 0 0, .bool false], .int .i64 2]) (by simp [results, Try.results20, go_sem, r0, r1, r2]) rfl ?_
    exact ⟨.inr ⟨rfl, rfl⟩, HB2.out.trans (hk.below HB2.out.size (fun q hq => by have e : q = z + 1 := hq; omega))⟩
  · cases d1
    · go_wp2
      obtain ⟨w3, hw3⟩ : ∃ w3 : World, w3 = ((w2.setCell ⟨z + 1, 0, none⟩ (.slice none 0 0)).setCell ⟨z + 1, 1, none⟩ (.slice none 0 0)).setCell ⟨z + 1, 2, none⟩ (.bool false) := ⟨_, rfl⟩
      rw [← hw3]
      have hk : Keeps (· = z + 1) w2 w3 := by
        rw [hw3]
        exact ((Keeps.setCell w2 (S := (· = z + 1)) (p := ⟨z + 1, 0, none⟩) rfl _).trans (Keeps.setCell _ (S := (· = z + 1)) (p := ⟨z + 1, 1, none⟩) rfl _)).trans (Keeps.setCell _ (S := (· = z + 1)) (p := ⟨z + 1, 2, none⟩) rfl _)
      have hM : MBox w3 (z + 1) (.slice none 0 0) (.slice none 0 0) false := by rw [hw3]; exact HR2.out.set _ _ _
      have hzz := HZZ.out
      obtain ⟨⟨r0, r1, r2⟩, _⟩ := mbox_cells hM
      refine bodyPost_ret (v := .tuple #[.agg #[.slice none 0 0, .slice none 0 0, .bool false], .int .i64 2]) (by simp [results, Try.results20, go_sem, r0, r1, r2]) rfl ?_
      exact ⟨rfl, HB2.out.trans (hk.below HB2.out.size (fun q hq => by have e : q = z + 1 := hq; omega))⟩
    · go_wp2
      obtain ⟨w3, hw3⟩ : ∃ w3 : World, w3 = ((w2.setCell ⟨z + 1, 0, none⟩ (.slice (some ⟨gw, 0, none⟩) nw cw2)).setCell ⟨z + 1, 1, none⟩ (.slice (some ⟨gl, 0, none⟩) nl cl2)).setCell ⟨z + 1, 2, none⟩ (.bool f2) := ⟨_, rfl⟩
      rw [← hw3]
      have hk : Keeps (· = z + 1) w2 w3 := by
        rw [hw3]
        exact ((Keeps.setCell w2 (S := (· = z + 1)) (p := ⟨z + 1, 0, none⟩) rfl _).trans (Keeps.setCell _ (S := (· = z + 1)) (p := ⟨z + 1, 1, none⟩) rfl _)).trans (Keeps.setCell _ (S := (· = z + 1)) (p := ⟨z + 1, 2, none⟩) rfl _)
      have hM : MBox w3 (z + 1) (.slice (some ⟨gw, 0, none⟩) nw cw2) (.slice (some ⟨gl, 0, none⟩) nl cl2) f2 := by rw [hw3]; exact HR2.out.set _ _ _
      have hzz := HZZ.out
      have hrow : ∀ {E : TypeId} {s m : Nat} {u : Value} {us : List Value}, w2.ownsRow Z.heap.size E s u m us → w3.ownsRow W.heap.size E s u m us := fun hr => (hk.row hr (fun q hq e => by have e : q = z + 1 := e; have := (hr.lt q hq).1; omega)).mono (by omega)
      obtain ⟨⟨r0, r1, r2⟩, _⟩ := mbox_cells hM
      refine bodyPost_ret (v := .tuple #[.agg #[.slice (some ⟨gw, 0, none⟩) nw cw2, .slice (some ⟨gl, 0, none⟩) nl cl2, .bool f2], .int .i64 0]) (by simp [results, Try.results20, go_sem, r0, r1, r2]) rfl ?_
      exact ⟨⟨_, _, rfl, hrow HOW.out.1, hrow HOW.out.2.1⟩, HB2.out.trans (hk.below HB2.out.size (fun q hq => by have e : q = z + 1 := hq; omega))⟩

end Go.Proofs.Ytcledklajcdfiaa
