/-
  ScriptRuns returns true for every row of picks; what was in memory stays.
  Conditions: the row reads as ints; the package's table of parts is as it was laid.
-/
import Derived.Test.YtjgdkfgcfningaaDoorSRepeat
namespace Go.Proofs.YtjgdkfgcfningaaDoor
open Go.RowKit Go.Shelf
attribute [local go_sem] Oper.semAt_some

theorem flat_app : ∀ (a b : List (Int × Nat)), flatR (a ++ b) = flatR b ++ flatR a
  | [], b => by simp [flatR]
  | x :: a, b => by rw [List.cons_append, flatR, flat_app a b, flatR, List.append_assoc]
/-- The picks of the first i runs. -/
def preF (rv : List (Int × Nat)) (i : Nat) : List Int := flatR (rv.take i).reverse
theorem preF_zero (rv : List (Int × Nat)) : preF rv 0 = [] := rfl
theorem preF_succ (rv : List (Int × Nat)) (i : Nat) (h : i < rv.length) : preF rv (i + 1) = preF rv i ++ List.replicate rv[i].2 rv[i].1 := by
  unfold preF
  rw [List.take_succ_eq_append_getElem h, List.reverse_append, List.reverse_singleton, List.singleton_append, flatR]
theorem preF_all (rv : List (Int × Nat)) : preF rv rv.length = flatR rv.reverse := by unfold preF; rw [List.take_length]
theorem preF_le (rv : List (Int × Nat)) (i : Nat) : (preF rv i).length ≤ (flatR rv.reverse).length := by
  have : rv.reverse = (rv.drop i).reverse ++ (rv.take i).reverse := by rw [← List.reverse_append, List.take_append_drop]
  rw [this, flat_app, List.length_append]
  unfold preF; omega
theorem cellsR_get : ∀ (rs : List (Int × Nat)) (i : Nat) (h : i < rs.reverse.length), (cellsR rs)[i * 2]? = some (.int .i64 rs.reverse[i].1) ∧ (cellsR rs)[i * 2 + 1]? = some (.int .i64 (rs.reverse[i].2 : Int))
  | [], i, h => by cases h
  | x :: r, i, h => by
    have hl := cellsR_length r
    simp only [List.reverse_cons] at h ⊢
    rw [cellsR]
    by_cases hi : i < r.reverse.length
    · have hr : i < r.length := by simpa using hi
      obtain ⟨h1, h2⟩ := cellsR_get r i hi
      rw [List.getElem?_append_left (by omega), List.getElem?_append_left (by omega), List.getElem_append_left hi]
      exact ⟨h1, h2⟩
    · have hr : i = r.length := by simp at h hi; omega
      subst hr
      rw [List.getElem?_append_right (by omega), List.getElem?_append_right (by omega), List.getElem_append_right (by simp), show r.length * 2 - (cellsR r).length = 0 by omega, show r.length * 2 + 1 - (cellsR r).length = 1 by omega]
      simp
theorem okR_at : ∀ {rs : List (Int × Nat)}, OkR rs → (∀ j (h : j < rs.length), 1 ≤ rs[j].2 ∧ rs[j].2 ≤ 256) ∧ ∀ j (h : j + 1 < rs.length), rs[j + 1].1 = rs[j].1 → rs[j + 1].2 = 256
  | [], _ => ⟨(fun j h => by cases h), (fun j h => by cases h)⟩
  | [x], h => ⟨fun j hj => by
      obtain rfl : j = 0 := by simp at hj; exact hj
      exact h, fun j hj => by simp at hj⟩
  | x :: y :: r, h => by
    obtain ⟨h1, h2, h3⟩ := h
    obtain ⟨i1, i2⟩ := okR_at h3
    refine ⟨fun j hj => ?_, fun j hj e => ?_⟩
    · rcases j with _ | j
      · exact h1
      · exact i1 j (by simpa using hj)
    · rcases j with _ | j
      · exact h2 e
      · exact i2 j (by simpa using hj) e
theorem okR_rev {rs rv : List (Int × Nat)} (h : OkR rs) (e : rv = rs.reverse) : (∀ i (hi : i < rv.length), 1 ≤ rv[i].2 ∧ rv[i].2 ≤ 256) ∧ ∀ i (hi : i + 1 < rv.length), rv[i].1 = rv[i + 1].1 → rv[i].2 = 256 := by
  subst e
  obtain ⟨h1, h2⟩ := okR_at h
  refine ⟨fun i hi => ?_, fun i hi hh => ?_⟩
  · rw [List.getElem_reverse]; exact h1 _ _
  · rw [List.getElem_reverse, List.getElem_reverse] at hh
    rw [List.getElem_reverse]
    rw [List.length_reverse] at hi
    have h3 := h2 (rs.length - 1 - (i + 1)) (by omega)
    have e1 : rs.length - 1 - (i + 1) + 1 = rs.length - 1 - i := by omega
    simp only [e1] at h3
    exact h3 hh

/-- Where runs lie. -/
theorem VRow.pairs {W : World} {p : Option Addr} {n c : Nat} {rs : List (Int × Nat)} (h : VRow W p n c 2 (cellsR rs)) (hn : 0 < rs.length) :
    ∃ b off, p = some ⟨b, off, none⟩ ∧ ∀ i (hi : i < rs.reverse.length), W.cell? ⟨b, off + i * 2, none⟩ = some (.int .i64 rs.reverse[i].1) ∧ W.cell? ⟨b, off + i * 2 + 1, none⟩ = some (.int .i64 (rs.reverse[i].2 : Int)) := by
  have hl := cellsR_length rs
  obtain ⟨b, off, hp, hc⟩ := h.cells (by intro e; rw [e] at hl; simp at hl; omega)
  refine ⟨b, off, hp, fun i hi => ?_⟩
  obtain ⟨h1, h2⟩ := cellsR_get rs i hi
  obtain ⟨e1, g1⟩ := List.getElem?_eq_some_iff.1 h1
  obtain ⟨e2, g2⟩ := List.getElem?_eq_some_iff.1 h2
  exact ⟨by rw [hc _ e1, g1], by rw [Nat.add_assoc, hc _ e2, g2]⟩
theorem one_new (X : World) (r : Int) : (X.alloc (.cells #[.int .i64 r] 3)).cell? ⟨X.heap.size, 0, none⟩ = some (.int .i64 r) := by
  have h := World.alloc_heap_new X (.cells #[.int .i64 r] 3)
  unfold World.cell?
  rw [h]; rfl
theorem pair_new (X : World) (r s : Int) : (X.alloc (.cells #[.int .i64 r, .int .i64 s] 40)).cell? ⟨X.heap.size, 0, none⟩ = some (.int .i64 r) ∧ (X.alloc (.cells #[.int .i64 r, .int .i64 s] 40)).cell? ⟨X.heap.size, 1, none⟩ = some (.int .i64 s) := by
  have h := World.alloc_heap_new X (.cells #[.int .i64 r, .int .i64 s] 40)
  unfold World.cell?
  rw [h]; exact ⟨rfl, rfl⟩

/-- What holds while runs are put one behind the other. -/
structure RunsIn (W : World) (rs : List (Int × Nat)) (lv av : Value) (i : Nat) (X : World) : Prop where
  l : X.ownsRow W.heap.size 40 2 lv rs.length (cellsR rs)
  a : X.ownsRow W.heap.size 3 1 av (preF rs.reverse i).length ((preF rs.reverse i).map (Value.int .i64))
  b : Below W.heap.size W X
theorem RunsIn.on {W : World} {rs : List (Int × Nat)} {lv av : Value} {i : Nat} {X Y : World} (h : RunsIn W rs lv av i X) (hb : Below X.heap.size X Y) : RunsIn W rs lv av i Y :=
  ⟨owns_below h.l hb, owns_below h.a hb, below_then h.b h.b.size hb⟩
theorem RunsIn.step {W : World} {rs : List (Int × Nat)} {lv av v' : Value} {i : Nat} {X Y : World} {zs : List Int} (h : RunsIn W rs lv av i X) (hg : X.grownBy Y av.ownBlock) (ho : Y.ownsRow W.heap.size 3 1 v' zs.length (zs.map (Value.int .i64))) (hz : zs = preF rs.reverse (i + 1)) : RunsIn W rs lv v' (i + 1) Y := by
  subst hz
  refine ⟨h.l.kept hg (by
    cases hvb : lv.ownBlock with
    | none => exact .inl rfl
    | some gg => exact .inr fun e => owns_ne h.l h.a (by decide) hvb e.symm rfl), ho, h.b.grown hg h.b.size (fun q e => (h.a.lt q e).1)⟩

set_option maxRecDepth 100000 in
set_option maxHeartbeats 8000000 in
theorem scriptRuns_walk (p : Option Addr) (n d : Nat) (xs : List Int) (W : World) (h : RI W p n d xs) (hn : n ≤ 9223372036854775807) (hT : Tab W) :
    Calls Tryd.prog 7 #[.slice p n d] W fun e w' => e = .returned (.bool true) ∧ Below W.heap.size W w' := by
  obtain ⟨k, hk⟩ : ∃ k, k = min n 2000 := ⟨_, rfl⟩
  have hkn : k ≤ n := by omega
  have hk2 : k ≤ 2000 := by omega
  have hm : ∀ w, (Builtin.min_ #[3, 3] 3 #[.int .i64 (n : Int), .int .i64 2000]).run Tryd.prog w = .ok (.int .i64 (k : Int)) w := run_minI n k 2000 hk
  have hcut := run_cutI p n d k (Nat.le_trans hkn h.room)
  have hR := h.take k hkn
  obtain ⟨L, hL⟩ : ∃ L, L = xs.take k := ⟨_, rfl⟩
  rw [← hL] at hR
  have hLk : L.length = k := hR.len.symm
  have HR := Lib.hid hR
  clear hL h hk hR
  go_enter Tryd.func7, Tryd.ntmps7
  go_wp2_with fail
  refine (wakes_c _ hT).mono ?_
  rintro e w1 ⟨rfl, hb1⟩
  go_wp2_with fail
  refine (runsF_c _ L w1 (HR.out.below hb1).nums (by omega)).mono ?_
  rintro e w2 ⟨⟨lv, rfl, ho⟩, hb2⟩
  obtain ⟨rs, hrs⟩ : ∃ rs, rs = runsR L := ⟨_, rfl⟩
  rw [← hrs] at ho
  obtain ⟨N, hN⟩ : ∃ N, N = rs.length := ⟨_, rfl⟩
  have hws := hb1.size
  obtain ⟨q, c, rfl⟩ := owns_slice ho
  have hv := VRow.of_owns ho
  have HV := Lib.hid hv
  have HI0 := Lib.hid (show RunsIn W rs (.slice q rs.length c) (.slice none 0 0) 0 w2 from ⟨ho.mono hws, World.ownsRow_nil _ _ _ _, below_then hb1 hb1.size hb2⟩)
  obtain ⟨hO1, hO2⟩ := okR_rev (rs := rs) (by rw [hrs]; exact runs_ok L) rfl
  have HO1 := Lib.hid hO1
  have HO2 := Lib.hid hO2
  have hfl : flatR rs = L := by rw [hrs]; exact runs_flat L
  have HFL := Lib.hid hfl
  have HLK := Lib.hid hLk
  rw [← hN] at HI0 HV ⊢
  have HN := Lib.hid hN
  clear hO1 hO2 hfl ho hb1 hb2 hrs hN hv hws hm hcut hT hLk
  have hNn : N ≤ 9223372036854775807 := by
    rcases HI0.out.l.2 with ⟨_, h0⟩ | ⟨g, cap, cur, e, _, _, hle, hmx, _⟩
    · have := HN.out; omega
    · unfold maxLen at hmx; have := HN.out; omega
  go_wp2
  go_loopw [3, 5, 6, 18] (fun av _ _ iv wr => ∃ i : Nat, i ≤ N ∧ iv = .int .i64 i ∧ (∃ q3 c3, av = .slice q3 (preF rs.reverse i).length c3) ∧ Hid (RunsIn W rs (.slice q N c) av i wr)) (fun _ _ _ iv _ => N - (intOf iv).toNat)
  case atStart => exact ⟨0, Nat.zero_le _, rfl, ⟨_, _, rfl⟩, HI0⟩
  case round =>
    obtain ⟨i, hi, rfl, ⟨q3, c3, rfl⟩, HI⟩ := hrel
    by_cases hlt : i < N
    · have hir : i < rs.reverse.length := by rw [List.length_reverse, ← HN.out]; exact hlt
      obtain ⟨h1, h256⟩ := HO1.out i hir
      obtain ⟨b, off, rfl, hcs⟩ := (VRow.of_owns (n := N) (by have := HI.out.l; rw [← HN.out] at this; exact this)).pairs (by rw [← HN.out]; omega)
      obtain ⟨hx0, hx1⟩ := hcs i hir
      have hsucc := preF_succ rs.reverse i hir
      obtain ⟨r0, hr0⟩ : ∃ x, x = rs.reverse[i].1 := ⟨_, rfl⟩
      obtain ⟨r1, hr1⟩ : ∃ x, x = rs.reverse[i].2 := ⟨_, rfl⟩
      obtain ⟨rb, hrb⟩ : ∃ x, x = wr.heap.size := ⟨_, rfl⟩
      have HPR := Lib.hid (show ∀ j, i = j + 1 → ∃ x0 : Int, ∃ x1 : Nat, wr.cell? ⟨b, off + j * 2, none⟩ = some (.int .i64 x0) ∧ wr.cell? ⟨b, off + j * 2 + 1, none⟩ = some (.int .i64 (x1 : Int)) ∧ (x0 = r0 → x1 = 256) from fun j e => by
        subst e
        obtain ⟨hy0, hy1⟩ := hcs j (by omega)
        exact ⟨_, _, hy0, hy1, fun e => HO2.out j hir (by rw [← hr0]; exact e)⟩)
      rw [← hr0, ← hr1] at hsucc
      rw [← hr0] at hx0
      rw [← hr1] at hx1 h1 h256
      have HSC := Lib.hid hsucc
      obtain ⟨wb, hwb⟩ : ∃ w : World, w = wr.alloc (.cells #[.int .i64 r0, .int .i64 (r1 : Int)] 40) := ⟨_, rfl⟩
      have hbw : Below wr.heap.size wr wb := by rw [hwb]; exact (Below.refl _ _).alloc (Nat.le_refl _) _
      obtain ⟨hc0, hc1⟩ := pair_new wr r0 (r1 : Int)
      rw [← hwb, ← hrb] at hc0 hc1
      have HIb := Lib.hid (HI.out.on hbw)
      have HBW := Lib.hid hbw
      have HWB := Lib.hid (And.intro hwb hrb)
      clear hcs hsucc hr0 hr1 hir hbw hwb hrb HI
      obtain ⟨M, hM⟩ : ∃ M, M = (preF rs.reverse i).length := ⟨_, rfl⟩
      have hM2 : M ≤ 2000 := by
        have := preF_le rs.reverse i
        rw [List.reverse_reverse, HFL.out, HLK.out] at this
        omega
      rw [← hM]
      have HM := Lib.hid hM
      clear hM
      go_upto_region 9 with (fail)
      rw [← HWB.out.1, ← HWB.out.2]
      have hd1 : decide ((r1 : Int) < 1) = false := by rw [decide_eq_false_iff_not]; omega
      have hd2 : decide ((256 : Int) < (r1 : Int)) = false := by rw [decide_eq_false_iff_not]; omega
      clear hx0 hx1
      by_cases h0 : i = 0
      · have hd3 : decide (0 < i) = false := by rw [decide_eq_false_iff_not]; omega
        clear h0
        go_quiet (fail)
        all_goals go_upto_region 11 with (fail)
        clear hd1 hd2 hd3
        obtain ⟨wd, hwd⟩ : ∃ w : World, w = wb.drewN nq := ⟨_, rfl⟩
        have hbd : Below wb.heap.size wb wd := by rw [hwd]; exact below_drewN (Below.refl _ _) _
        have hk0 := below_cell hbd hc0
        have hk1 := below_cell hbd hc1
        obtain ⟨we, hwe⟩ : ∃ w : World, w = wd.alloc (.cells #[.int .i64 r0] 3) := ⟨_, rfl⟩
        have hbe : Below wd.heap.size wd we := by rw [hwe]; exact (Below.refl _ _).alloc (Nat.le_refl _) _
        have hk2 : (wd.alloc (.cells #[.int .i64 r0] 3)).cell? ⟨rb, 1, none⟩ = some (.int .i64 (r1 : Int)) := below_cell ((Below.refl _ _).alloc (Nat.le_refl _) _) hk1
        have HRP := Lib.hid (repeat_c r0 wd.heap.size r1 we (by rw [hwe]; exact one_new wd r0) h1 (by omega))
        have HIe := Lib.hid ((HIb.out.on hbd).on hbe)
        have HWD := Lib.hid hwd
        have HWE := Lib.hid hwe
        rw [← HWD.out]
        clear hwd hwe hbd hbe hc0 hc1
        go_wp2_with fail
        rw [← HWE.out]
        refine HRP.out.mono ?_
        rintro e wf ⟨⟨v4, rfl, hof⟩, hbf⟩
        obtain ⟨q4, d4, rfl⟩ := owns_slice hof
        obtain ⟨b4, o4, rfl, hcs4⟩ := (VRow.of_owns hof).cells (by intro e; have := congrArg List.length e; rw [List.length_replicate] at this; simp at this; omega)
        have HNW := Lib.hid (show ∀ j u, (List.replicate r1 (Value.int .i64 r0))[j]? = some u → wf.cell? ((⟨b4, o4, none⟩ : Addr).add j) = some u from fun j u hj => by
          obtain ⟨h6, h7⟩ := List.getElem?_eq_some_iff.1 hj
          rw [addr_add_off, hcs4 j h6, h7])
        have HON := Lib.hid (show ∀ u ∈ List.replicate r1 (Value.int .i64 r0), u.oneCell' = true from fun v hv => by rw [List.eq_of_mem_replicate hv]; rfl)
        have HIf := Lib.hid (show RunsIn W rs (.slice (some ⟨b, off, none⟩) N c) (.slice q3 M c3) i wf by rw [HM.out]; exact HIe.out.on hbf)
        have HA := Lib.hid (show wf.ownsRow W.heap.size 3 1 (.slice q3 M c3) M ((preF rs.reverse i).map (Value.int .i64)) by have := HIf.out.a; rw [← HM.out] at this; exact this)
        have HLR := Lib.hid (show (List.replicate r1 (Value.int .i64 r0)).length = r1 * 1 by simp)
        clear hof hcs4 hbf hk0 hk1 hk2 HRP HIe HIb
        obtain ⟨i0, hi0, hz0, hz1, hz2⟩ := info_parts int_info
        have HI9 := Lib.hid (And.intro hi0 (And.intro hz0 (And.intro hz1 hz2)))
        clear hi0 hz0 hz1 hz2
        go_wp2_with (at_builtin; refine wpList_append_own _ rfl _ _ 23 rfl W.heap.size 3 i0 (.int .i64 0) 1 8 Tryd.underlying23 HI9.out.1 HI9.out.2.1 HI9.out.2.2.1 HI9.out.2.2.2 rfl (by decide) _ _ _ rfl HA.out ⟨b4, o4, none⟩ r1 d4 (List.replicate r1 (Value.int .i64 r0)) rfl HLR.out HNW.out HON.out (by unfold maxLen; omega) (by omega) HIf.out.b.size ?_; intro v5 w5 hown' hgrow _; obtain ⟨q5, d5, rfl⟩ := owns_slice hown'; have X := Lib.hid (And.intro hown' hgrow); clear hown' hgrow)
        have hln : (preF rs.reverse (i + 1)).length = M + r1 := by rw [HSC.out, List.length_append, List.length_replicate, HM.out]
        have HFIN := Lib.hid (HIf.out.step (v' := .slice q5 (M + r1) d5) X.out.2 (zs := preF rs.reverse (i + 1)) (by
          rw [hln, HSC.out, List.map_append, List.map_replicate]
          exact X.out.1) rfl)
        rw [← hln] at HFIN ⊢
        have HLN := Lib.hid hln
        clear X hln
        go_roundw
        case rel => exact ⟨i + 1, by omega, by go_num, ⟨q5, d5, rfl⟩, HFIN⟩
        case measure => simp [intOf]; omega
      · have hd3 : decide (0 < i) = true := by rw [decide_eq_true_eq]; omega
        obtain ⟨j, hj⟩ : ∃ j, i = j + 1 := ⟨i - 1, by omega⟩
        obtain ⟨x0, x1, hy0, hy1, hxx⟩ := HPR.out j hj
        have hz0 := below_cell HBW.out hy0
        have hz1 := below_cell HBW.out hy1
        have hw1 : IntKind.i64.wrap ((i : Int) - 1) = (j : Int) := by simp [IntKind.wrap, IntKind.signed, IntKind.bits]; omega
        have hw2 : wrap64 ((i : Int) - 1) = (j : Int) := by unfold wrap64; omega
        have hjN : j < N := by omega
        clear h0 hy0 hy1 hj
        by_cases he : x0 = r0
        · have he1 : (x0 == r0) = true := by rw [beq_iff_eq]; exact he
          have he2 : ((x1 : Int) != 256) = false := by rw [hxx he]; rfl
          clear he hxx
          go_quiet (fail)
          all_goals go_upto_region 11 with (fail)
          clear hd1 hd2 hd3 hz0 hz1 hw1 hw2 he1 he2 hjN
          obtain ⟨wd, hwd⟩ : ∃ w : World, w = wb.drewN nq := ⟨_, rfl⟩
          have hbd : Below wb.heap.size wb wd := by rw [hwd]; exact below_drewN (Below.refl _ _) _
          have hk0 := below_cell hbd hc0
          have hk1 := below_cell hbd hc1
          obtain ⟨we, hwe⟩ : ∃ w : World, w = wd.alloc (.cells #[.int .i64 r0] 3) := ⟨_, rfl⟩
          have hbe : Below wd.heap.size wd we := by rw [hwe]; exact (Below.refl _ _).alloc (Nat.le_refl _) _
          have hk2 : (wd.alloc (.cells #[.int .i64 r0] 3)).cell? ⟨rb, 1, none⟩ = some (.int .i64 (r1 : Int)) := below_cell ((Below.refl _ _).alloc (Nat.le_refl _) _) hk1
          have HRP := Lib.hid (repeat_c r0 wd.heap.size r1 we (by rw [hwe]; exact one_new wd r0) h1 (by omega))
          have HIe := Lib.hid ((HIb.out.on hbd).on hbe)
          have HWD := Lib.hid hwd
          have HWE := Lib.hid hwe
          rw [← HWD.out]
          clear hwd hwe hbd hbe hc0 hc1
          go_wp2_with fail
          rw [← HWE.out]
          refine HRP.out.mono ?_
          rintro e wf ⟨⟨v4, rfl, hof⟩, hbf⟩
          obtain ⟨q4, d4, rfl⟩ := owns_slice hof
          obtain ⟨b4, o4, rfl, hcs4⟩ := (VRow.of_owns hof).cells (by intro e; have := congrArg List.length e; rw [List.length_replicate] at this; simp at this; omega)
          have HNW := Lib.hid (show ∀ j u, (List.replicate r1 (Value.int .i64 r0))[j]? = some u → wf.cell? ((⟨b4, o4, none⟩ : Addr).add j) = some u from fun j u hj => by
            obtain ⟨h6, h7⟩ := List.getElem?_eq_some_iff.1 hj
            rw [addr_add_off, hcs4 j h6, h7])
          have HON := Lib.hid (show ∀ u ∈ List.replicate r1 (Value.int .i64 r0), u.oneCell' = true from fun v hv => by rw [List.eq_of_mem_replicate hv]; rfl)
          have HIf := Lib.hid (show RunsIn W rs (.slice (some ⟨b, off, none⟩) N c) (.slice q3 M c3) i wf by rw [HM.out]; exact HIe.out.on hbf)
          have HA := Lib.hid (show wf.ownsRow W.heap.size 3 1 (.slice q3 M c3) M ((preF rs.reverse i).map (Value.int .i64)) by have := HIf.out.a; rw [← HM.out] at this; exact this)
          have HLR := Lib.hid (show (List.replicate r1 (Value.int .i64 r0)).length = r1 * 1 by simp)
          clear hof hcs4 hbf hk0 hk1 hk2 HRP HIe HIb
          obtain ⟨i0, hi0, hz0, hz1, hz2⟩ := info_parts int_info
          have HI9 := Lib.hid (And.intro hi0 (And.intro hz0 (And.intro hz1 hz2)))
          clear hi0 hz0 hz1 hz2
          go_wp2_with (at_builtin; refine wpList_append_own _ rfl _ _ 23 rfl W.heap.size 3 i0 (.int .i64 0) 1 8 Tryd.underlying23 HI9.out.1 HI9.out.2.1 HI9.out.2.2.1 HI9.out.2.2.2 rfl (by decide) _ _ _ rfl HA.out ⟨b4, o4, none⟩ r1 d4 (List.replicate r1 (Value.int .i64 r0)) rfl HLR.out HNW.out HON.out (by unfold maxLen; omega) (by omega) HIf.out.b.size ?_; intro v5 w5 hown' hgrow _; obtain ⟨q5, d5, rfl⟩ := owns_slice hown'; have X := Lib.hid (And.intro hown' hgrow); clear hown' hgrow)
          have hln : (preF rs.reverse (i + 1)).length = M + r1 := by rw [HSC.out, List.length_append, List.length_replicate, HM.out]
          have HFIN := Lib.hid (HIf.out.step (v' := .slice q5 (M + r1) d5) X.out.2 (zs := preF rs.reverse (i + 1)) (by
            rw [hln, HSC.out, List.map_append, List.map_replicate]
            exact X.out.1) rfl)
          rw [← hln] at HFIN ⊢
          have HLN := Lib.hid hln
          clear X hln
          go_roundw
          case rel => exact ⟨i + 1, by omega, by go_num, ⟨q5, d5, rfl⟩, HFIN⟩
          case measure => simp [intOf]; omega
        · have he1 : (x0 == r0) = false := by rw [beq_eq_false_iff_ne]; exact he
          clear he hxx
          go_quiet (fail)
          all_goals go_upto_region 11 with (fail)
          clear hd1 hd2 hd3 hz0 hz1 hw1 hw2 he1 hjN
          obtain ⟨wd, hwd⟩ : ∃ w : World, w = wb.drewN nq := ⟨_, rfl⟩
          have hbd : Below wb.heap.size wb wd := by rw [hwd]; exact below_drewN (Below.refl _ _) _
          have hk0 := below_cell hbd hc0
          have hk1 := below_cell hbd hc1
          obtain ⟨we, hwe⟩ : ∃ w : World, w = wd.alloc (.cells #[.int .i64 r0] 3) := ⟨_, rfl⟩
          have hbe : Below wd.heap.size wd we := by rw [hwe]; exact (Below.refl _ _).alloc (Nat.le_refl _) _
          have hk2 : (wd.alloc (.cells #[.int .i64 r0] 3)).cell? ⟨rb, 1, none⟩ = some (.int .i64 (r1 : Int)) := below_cell ((Below.refl _ _).alloc (Nat.le_refl _) _) hk1
          have HRP := Lib.hid (repeat_c r0 wd.heap.size r1 we (by rw [hwe]; exact one_new wd r0) h1 (by omega))
          have HIe := Lib.hid ((HIb.out.on hbd).on hbe)
          have HWD := Lib.hid hwd
          have HWE := Lib.hid hwe
          rw [← HWD.out]
          clear hwd hwe hbd hbe hc0 hc1
          go_wp2_with fail
          rw [← HWE.out]
          refine HRP.out.mono ?_
          rintro e wf ⟨⟨v4, rfl, hof⟩, hbf⟩
          obtain ⟨q4, d4, rfl⟩ := owns_slice hof
          obtain ⟨b4, o4, rfl, hcs4⟩ := (VRow.of_owns hof).cells (by intro e; have := congrArg List.length e; rw [List.length_replicate] at this; simp at this; omega)
          have HNW := Lib.hid (show ∀ j u, (List.replicate r1 (Value.int .i64 r0))[j]? = some u → wf.cell? ((⟨b4, o4, none⟩ : Addr).add j) = some u from fun j u hj => by
            obtain ⟨h6, h7⟩ := List.getElem?_eq_some_iff.1 hj
            rw [addr_add_off, hcs4 j h6, h7])
          have HON := Lib.hid (show ∀ u ∈ List.replicate r1 (Value.int .i64 r0), u.oneCell' = true from fun v hv => by rw [List.eq_of_mem_replicate hv]; rfl)
          have HIf := Lib.hid (show RunsIn W rs (.slice (some ⟨b, off, none⟩) N c) (.slice q3 M c3) i wf by rw [HM.out]; exact HIe.out.on hbf)
          have HA := Lib.hid (show wf.ownsRow W.heap.size 3 1 (.slice q3 M c3) M ((preF rs.reverse i).map (Value.int .i64)) by have := HIf.out.a; rw [← HM.out] at this; exact this)
          have HLR := Lib.hid (show (List.replicate r1 (Value.int .i64 r0)).length = r1 * 1 by simp)
          clear hof hcs4 hbf hk0 hk1 hk2 HRP HIe HIb
          obtain ⟨i0, hi0, hz0, hz1, hz2⟩ := info_parts int_info
          have HI9 := Lib.hid (And.intro hi0 (And.intro hz0 (And.intro hz1 hz2)))
          clear hi0 hz0 hz1 hz2
          go_wp2_with (at_builtin; refine wpList_append_own _ rfl _ _ 23 rfl W.heap.size 3 i0 (.int .i64 0) 1 8 Tryd.underlying23 HI9.out.1 HI9.out.2.1 HI9.out.2.2.1 HI9.out.2.2.2 rfl (by decide) _ _ _ rfl HA.out ⟨b4, o4, none⟩ r1 d4 (List.replicate r1 (Value.int .i64 r0)) rfl HLR.out HNW.out HON.out (by unfold maxLen; omega) (by omega) HIf.out.b.size ?_; intro v5 w5 hown' hgrow _; obtain ⟨q5, d5, rfl⟩ := owns_slice hown'; have X := Lib.hid (And.intro hown' hgrow); clear hown' hgrow)
          have hln : (preF rs.reverse (i + 1)).length = M + r1 := by rw [HSC.out, List.length_append, List.length_replicate, HM.out]
          have HFIN := Lib.hid (HIf.out.step (v' := .slice q5 (M + r1) d5) X.out.2 (zs := preF rs.reverse (i + 1)) (by
            rw [hln, HSC.out, List.map_append, List.map_replicate]
            exact X.out.1) rfl)
          rw [← hln] at HFIN ⊢
          have HLN := Lib.hid hln
          clear X hln
          go_roundw
          case rel => exact ⟨i + 1, by omega, by go_num, ⟨q5, d5, rfl⟩, HFIN⟩
          case measure => simp [intOf]; omega
    · obtain rfl : i = N := by omega
      have hall : preF rs.reverse i = L := by
        have := preF_all rs.reverse
        rw [List.length_reverse, ← HN.out, List.reverse_reverse, HFL.out] at this
        exact this
      have ha := HI.out.a
      rw [hall, HLK.out] at ha
      rw [hall, HLK.out]
      have HE := Lib.hid (equalI_c _ _ L L wr (nums_of_owns HLK.out ha) (HR.out.below HI.out.b).nums (by have := HLK.out; omega) (by have := HLK.out; omega))
      have HB := Lib.hid HI.out.b
      clear ha hall HI
      go_wp2_with fail
      refine HE.out.mono ?_
      rintro e w9 ⟨rfl, hb9⟩
      go_wp2
      go_ret
      exact ⟨ret_bool (by simp), below_then HB.out HB.out.size hb9⟩

end Go.Proofs.YtjgdkfgcfningaaDoor
