/-
  A range over an iterator that writes cells of memory that was there: its contract, and the law of an outermost loop over it.
  Conditions: the loop stands in no round of another one.
-/
import Derived.Test.YtdllhiihmpinoaaGreatVB9
import Derived.Test.YtdllhiihmpinoaaGreatVB1
/-
  Package rcu: call: a period is asked for, and a callback put for that one.
  Conditions: the ranges of Go's types.
-/
namespace Go.Proofs.YtdllhiihmpinoaaGreat
set_option maxRecDepth 100000
open Go.RowKit Go.Shelf
attribute [local go_sem] Oper.semAt_some

def qAt (r : RcS) (i : Nat) : Int × List (Int × Int) := r.qs.getD i (0, [])
theorem qAt_lt {r : RcS} {i : Nat} (h : i < r.qs.length) : qAt r i = r.qs[i] := by unfold qAt; rw [List.getD_eq_getElem?_getD, List.getElem?_eq_getElem h]; rfl
def callE (r : RcS) (i : Nat) : Int := if askE r.g ≠ 0 then 6 else if (qAt r i).2.length = 16 then 6 else 0
def callR (r : RcS) (i : Nat) (x : Int) : RcS := { r with g := askG r.g, qs := r.qs.set i ((qAt r i).1, (qAt r i).2 ++ [(nextG r.g, x)]) }

theorem lastP_mem {l : List (Int × Int)} {a : Int} (h : ∀ c ∈ l, c.1 ≤ a) (ha : 0 ≤ a) : U.lastP l ≤ a := by
  unfold U.lastP
  split
  · exact ha
  · next hne => exact h _ (List.getElem_mem _)

set_option maxHeartbeats 32000000 in
theorem rcall_c (z B : Nat) (r : RcS) (u v nv : Value) (qb qc : Nat) (lv : Value) (ls : List Int) (k x : Int) (i : Nat) (W : World) (h : VtAt W z B r u v nv qb qc lv ls) (hm : rmayB r = true) (hi : i < r.qs.length) :
    Calls Tryz.prog 122 #[.pointer (some ⟨z, 0, none⟩), .agg #[.int .i64 k, .int .i64 (i : Int), .int .u64 x]] W fun e w' => OpQ z B (callE r i) (callR r i x) ls qb qc lv e W w' := by
  obtain ⟨hgs, hmg, hl1, hl2, hqs⟩ := rmay_facts hm
  obtain ⟨hq1, hq2, hq3⟩ := hqs _ (List.getElem_mem hi)
  obtain ⟨hnd1, hnd8, hd0, hda, ha⟩ := mayG_facts hmg
  obtain ⟨n, hn⟩ : ∃ n, n = r.qs.length := ⟨_, rfl⟩
  have hin : i < n := by omega
  have hn8 : n ≤ 8 := by omega
  obtain ⟨over, hov⟩ : ∃ o, o = r.qs[i].1 := ⟨_, rfl⟩
  obtain ⟨l, hl⟩ : ∃ l, l = r.qs[i].2 := ⟨_, rfl⟩
  rw [← hov, ← hl] at hq1
  rw [← hov] at hq2
  rw [← hl] at hq3
  have hqat : qAt r i = (over, l) := by rw [qAt_lt hi, hov, hl]
  obtain ⟨N, hN⟩ : ∃ N, N = nextG r.g := ⟨_, rfl⟩
  have hN' : (N = over + 1 ∨ N = over + 2) ∧ r.g.asked ≤ N := by
    rw [hN, hq2]
    have := (goodG_iff r.g).1 hmg
    unfold nextG
    cases hon : r.g.on with
    | true => rw [if_pos rfl]; have := (this.on1 hon).2; omega
    | false => rw [if_neg Bool.false_ne_true]; have := (this.on0 hon).2; omega
  have hput : U.putE over l (N - over) = if l.length = 16 then 6 else 0 := by
    unfold U.putE
    rw [if_pos hq1, if_neg (by omega), if_pos]
    have h1 := lastP_mem hq3 (by omega)
    unfold U.allowsB
    simp only [Bool.and_eq_true, decide_eq_true_eq]
    omega
  obtain ⟨E, hE⟩ : ∃ E, E = callE r i := ⟨_, rfl⟩
  rw [← hE]
  obtain ⟨w0, hw0⟩ : ∃ X : World, X = W.alloc (.cells #[.int .i64 k, .int .i64 (i : Int), .int .u64 x] 37) := ⟨_, rfl⟩
  have hb0 : Below W.heap.size W w0 := by rw [hw0]; exact below1 _ _
  obtain ⟨zo, hzo⟩ : ∃ x, x = W.heap.size := ⟨_, rfl⟩
  have hx : ABox w0 zo k (i : Int) x := by rw [hw0, hzo]; exact ABox.new _ _ _ _
  have h0 := h.below hb0
  have HZ := Lib.hid (show z < zo ∧ z < B ∧ B ≤ zo ∧ zo < w0.heap.size ∧ z ≠ qb from ⟨by rw [hzo]; exact h.box.lt, h.zB, by rw [hzo]; exact h.BW, hx.lt, fun e => h.qz e.symm⟩)
  have HV := Lib.hid (show VtAt w0 z B r u v nv qb qc lv ls ∧ ABox w0 zo k (i : Int) x ∧ Keeps (dS z qb lv) W w0 from ⟨h0, hx, Keeps.of_below hb0⟩)
  have HC := Lib.hid (gAsk_c r.g nv w0 h0.needs.1 (by omega))
  have HG := Lib.hid (show E = callE r i ∧ mayG r.g = true ∧ qAt r i = (over, l) ∧ N = nextG r.g ∧ ((N = over + 1 ∨ N = over + 2) ∧ r.g.asked ≤ N) ∧ U.putE over l (N - over) = (if l.length = 16 then 6 else 0) ∧ over = r.g.done ∧ n = r.qs.length ∧ r.g.nd.length = n from ⟨hE, hmg, hqat, hN, hN', hput, hq2, hn, by omega⟩)
  have HR := Lib.hid (show 0 ≤ over ∧ over ≤ 2147483645 ∧ n ≤ 8 ∧ i < n ∧ l.length ≤ 16 ∧ over = r.qs[i].1 ∧ l = r.qs[i].2 from ⟨by omega, by omega, hn8, hin, (U.may_parts hq1).2.1, hov, hl⟩)
  obtain ⟨p1, c1, p2, c2, p3, c3, p4, c4, q1, q2, q3, q4⟩ := h.inn.sl
  rw [show r.g.nd.length = n by omega] at q3
  subst q1 q2 q3
  have HW0 := Lib.hid (And.intro hw0 hzo)
  have HVX := Lib.hid (show qb < w0.heap.size ∧ ∀ g, lv.ownBlock = some g → g < w0.heap.size from ⟨h0.row.lt, fun g hg => (h0.lB hg).2⟩)
  obtain ⟨t0, t1, t2, t3, t4, t5, t6, t7, t8⟩ := h0.box.cells
  clear h h0 hx hgs hmg hl1 hl2 hqs hq1 hq2 hq3 hnd1 hnd8 hd0 hda ha hE hn hw0 hzo hb0 hqat hN hN' hput hov hl q4 hn8 hin hm
  go_enter Tryz.func122, Tryz.ntmps122
  go_upto_region 1 with fail
  rw [← HW0.out.1, ← HW0.out.2]
  clear HW0
  go_wp2_with fail
  (with_reducible refine HC.out.mono ?_)
  rintro e w1 ⟨⟨d, a, on, pp, nn, cc, kk, xx, rfl, hA, hkk⟩, hb1⟩
  have hae : errG r.g (askE r.g) = askE r.g := if_pos HG.out.2.1
  rw [hae] at hA hkk
  have HV1 := Lib.hid (show VtAt w1 z B r _ _ _ qb qc lv ls ∧ ABox w1 zo k (i : Int) x ∧ Keeps (dS z qb lv) W w1 ∧ w0.heap.size ≤ w1.heap.size from ⟨HV.out.1.below hb1, HV.out.2.1.below hb1, HV.out.2.2.trans (Keeps.of_below hb1), hb1.size⟩)
  obtain ⟨w2, hw2⟩ : ∃ X : World, X = w1.alloc (.cells #[.int .i64 d, .int .i64 a, .bool on, .slice pp nn cc] 27) := ⟨_, rfl⟩
  have hb2 : Below w1.heap.size w1 w2 := by rw [hw2]; exact below1 _ _
  obtain ⟨z4, hz4⟩ : ∃ x, x = w1.heap.size := ⟨_, rfl⟩
  have hg2 : GBox w2 z4 d a on (.slice pp nn cc) := by rw [hw2, hz4]; exact GBox.new _ _ _ _ _
  have HV2 := Lib.hid (show VtAt w2 z B r (.slice p1 r.s.ns.length c1) (.slice p2 r.s.os.length c2) (.slice p3 n c3) qb qc lv ls ∧ ABox w2 zo k (i : Int) x ∧ Keeps (dS z qb lv) W w2 ∧ GBox w2 z4 d a on (.slice pp nn cc) ∧ w0.heap.size ≤ z4 from ⟨HV1.out.1.below hb2, HV1.out.2.1.below hb2, HV1.out.2.2.1.trans (Keeps.of_below hb2), hg2, by rw [hz4]; exact HV1.out.2.2.2⟩)
  have HW2 := Lib.hid (And.intro hw2 hz4)
  have HA := Lib.hid (show (askE r.g ≠ 0 ∧ xx = askE r.g) ∨ (askE r.g = 0 ∧ xx = 0 ∧ N = kk ∧ r.g.done = d ∧ N = a ∧ r.g.on = on ∧ ∃ nb, pp = some ⟨nb, 0, none⟩ ∧ n = nn ∧ n = cc ∧ BBlock w2 nb r.g.nd ∧ w0.heap.size ≤ nb ∧ nb < w1.heap.size) from by
    rcases hA with ⟨h1, h2, -⟩ | ⟨h1, h2, h3, h4, h5, nb, h6, h7, h8, h9, h10⟩
    · exact .inl ⟨h1, h2⟩
    · rw [if_pos h1] at hkk
      have e := HG.out.2.2.2.2.2.2.2.2
      exact .inr ⟨h1, h2, by rw [hkk]; exact HG.out.2.2.2.1, h3.symm, by rw [h4]; exact HG.out.2.2.2.1, h5.symm, nb, h6, (h7.trans e).symm, (h8.trans e).symm, BBlock.below h9 hb2, h10, BBlock.lt h9⟩)
  clear hA hkk hae hb1 hb2 hw2 hz4 hg2 HC HV HV1 t0 t1 t2 t3 t4 t5 t6 t7 t8
  go_upto_region 2 with fail
  rw [← HW2.out.1, ← HW2.out.2]
  clear HW2
  by_cases hE : askE r.g = 0
  · obtain ⟨rfl, rfl, rfl, rfl, rfl, nb, rfl, hn1, hn2, hB, hnb1, hnb2⟩ : xx = 0 ∧ N = kk ∧ r.g.done = d ∧ N = a ∧ r.g.on = on ∧ ∃ nb, pp = some ⟨nb, 0, none⟩ ∧ n = nn ∧ n = cc ∧ BBlock w2 nb r.g.nd ∧ w0.heap.size ≤ nb ∧ nb < w1.heap.size := by
      rcases HA.out with h | h
      · exact absurd hE h.1
      · exact h.2
    subst hn1 hn2
    go_wp2_with fail
    (with_reducible refine (rmust_ok w2).mono ?_)
    rintro e w ⟨rfl, hww⟩
    rw [hww]
    clear hww w
    have HZ4a := Lib.hid (show w0.heap.size ≤ z4 from HV2.out.2.2.2.2)
    have HZOa := Lib.hid (show zo ≠ qb from fun e => by
      obtain ⟨cur, h1, -⟩ := HV2.out.1.row
      have h2 : w2.heap[zo]? = _ := HV2.out.2.1
      rw [e, h1] at h2; injection h2 with h2; injection h2 with _ h2 _; revert h2; decide)
    have hS : ∀ b, w0.heap.size ≤ b → ¬ vS B qb lv b := fun b hb h => by
      have := HZ.out
      rcases h with h | h | h
      · omega
      · have := HVX.out.1; omega
      · have := HVX.out.2 b h.symm; omega
    have hag := HV2.out.1.setG (askG r.g) nb n hB (HG.out.2.2.2.2.2.2.2.2) (hS nb hnb1)
    have hkk := VtBox.putGK w2 z r.g.done N r.g.on (.slice (some ⟨nb, 0, none⟩) n n)
    rw [show (askG r.g).asked = N from HG.out.2.2.2.1.symm, show (askG r.g).done = r.g.done from rfl, show (askG r.g).on = r.g.on from rfl] at hag
    obtain ⟨w3, hw3⟩ : ∃ X : World, X = (((w2.setCell ⟨z, 3, none⟩ (.int .i64 r.g.done)).setCell ⟨z, 4, none⟩ (.int .i64 N)).setCell ⟨z, 5, none⟩ (.bool r.g.on)).setCell ⟨z, 6, none⟩ (.slice (some ⟨nb, 0, none⟩) n n) := ⟨_, rfl⟩
    rw [← hw3] at hag hkk
    have HV3 := Lib.hid (show VtAt w3 z B { r with g := askG r.g } (.slice p1 r.s.ns.length c1) (.slice p2 r.s.os.length c2) (.slice (some ⟨nb, 0, none⟩) n n) qb qc lv ls ∧ ABox w3 zo k (i : Int) x ∧ Keeps (dS z qb lv) W w3 ∧ GBox w3 z4 r.g.done N r.g.on (.slice (some ⟨nb, 0, none⟩) n n) from by
      have := HZ.out
      have := HV2.out.2.2.2.2
      exact ⟨hag, HV2.out.2.1.keeps hkk (by omega), HV2.out.2.2.1.trans (hkk.sub fun k _ e => .inl e), HV2.out.2.2.2.1.keeps hkk (by omega)⟩)
    obtain ⟨t0, t1, t2, t3, t4, t5, t6, t7, t8⟩ := HV2.out.1.box.cells
    have m3 := HV2.out.1.box.marks 3
    have m4 := HV2.out.1.box.marks 4
    have m5 := HV2.out.1.box.marks 5
    have m6 := HV2.out.1.box.marks 6
    obtain ⟨g0, g1, g2, g3⟩ := HV2.out.2.2.2.1.cells
    have HW3 := Lib.hid hw3
    have HSv := Lib.hid hS
    clear hag hkk hw3 hB hnb1 hnb2 HV2 hS
    go_upto_region 4 with fail
    rw [← HW3.out]
    clear HW3 t0 t1 t2 t3 t4 t5 t6 t7 t8 m3 m4 m5 m6 g0 g1 g2 g3
    obtain ⟨lvq, hc0, hc1, hcb⟩ := HV3.out.1.row.cell i (by have := HR.out; have := HG.out.2.2.2.2.2.2.2.1; simp only; omega)
    change w3.cell? ⟨qb, i * 2 + 1, none⟩ = some (.int .u64 r.qs[i].1) at hc1
    change U.CbOut (vS B qb lv) w3 lvq r.qs[i].2 at hcb
    rw [← HR.out.2.2.2.2.2.1] at hc1
    rw [← HR.out.2.2.2.2.2.2] at hcb
    obtain ⟨lp, lc, rfl, -⟩ := id hcb
    obtain ⟨m, hmm⟩ : ∃ m, m = l.length := ⟨_, rfl⟩
    rw [← hmm] at hc0 hcb
    have hi0 : (0 : Int) ≤ (i : Int) := by omega
    have hin : (i : Int) < (r.qs.length : Int) := by have := HR.out; have := HG.out.2.2.2.2.2.2.2.1; omega
    have hw64 : IntKind.i64.wrap (N - r.g.done) = N - over := by
      have h1 := HG.out.2.2.2.2.1
      have h2 := HG.out.2.2.2.2.2.2.1
      rw [← h2]
      simp [IntKind.wrap, IntKind.signed, IntKind.bits]
      omega
    have HBN := Lib.hid (fun (w : World) (h : VtAt w z B { r with g := askG r.g } (.slice p1 r.s.ns.length c1) (.slice p2 r.s.os.length c2) (.slice (some ⟨nb, 0, none⟩) n n) qb qc lv ls) => (show VtBox w z r.s.now (.slice p1 r.s.ns.length c1) (.slice p2 r.s.os.length c2) r.g.done N r.g.on (.slice (some ⟨nb, 0, none⟩) n n) (.slice (some ⟨qb, 0, none⟩) r.qs.length qc) lv from by
      have := h.box
      rw [show (askG r.g).asked = N from HG.out.2.2.2.1.symm] at this
      exact this))
    have HMM := Lib.hid hmm
    have HZ4 := Lib.hid (show w0.heap.size ≤ z4 from HZ4a.out)
    have HZO := Lib.hid (show zo ≠ qb from HZOa.out)
    have HCB := Lib.hid hcb
    clear hcb hmm
    refine wpTwo_begin (T := fun w' => VtBox w' z r.s.now (.slice p1 r.s.ns.length c1) (.slice p2 r.s.os.length c2) r.g.done N r.g.on (.slice (some ⟨nb, 0, none⟩) n n) (.slice (some ⟨qb, 0, none⟩) r.qs.length qc) lv ∧ ABox w' zo k (i : Int) x ∧ GBox w' z4 r.g.done N r.g.on (.slice (some ⟨nb, 0, none⟩) n n)) (S := fun w' => w'.cell? ⟨qb, i * 2, none⟩ = some (.slice lp m lc) ∧ w'.cell? ⟨qb, i * 2 + 1, none⟩ = some (.int .u64 over)) (late := fun j => [27].contains j) (by kernel_rfl) ?_
    obtain ⟨X, hX⟩ : ∃ Y : World, Y = w3.drew := ⟨_, rfl⟩
    rw [← hX]
    have hbx : Below w3.heap.size w3 X := by rw [hX]; exact (Below.refl _ _).drew
    clear hX
    have HX := Lib.hid (show (VtAt X z B { r with g := askG r.g } (.slice p1 r.s.ns.length c1) (.slice p2 r.s.os.length c2) (.slice (some ⟨nb, 0, none⟩) n n) qb qc lv ls ∧ ABox X zo k (i : Int) x ∧ Keeps (dS z qb lv) W X ∧ GBox X z4 r.g.done N r.g.on (.slice (some ⟨nb, 0, none⟩) n n)) ∧ U.CbOut (vS B qb lv) X (.slice lp m lc) l ∧ w0.heap.size ≤ X.heap.size from ⟨⟨HV3.out.1.below hbx, HV3.out.2.1.below hbx, HV3.out.2.2.1.trans (Keeps.of_below hbx), HV3.out.2.2.2.below hbx⟩, HCB.out.below hbx, by have := HV3.out.2.2.2.lt; have := hbx.size; have := HZ4.out; omega⟩)
    have hT0 : (fun w' => VtBox w' z r.s.now (.slice p1 r.s.ns.length c1) (.slice p2 r.s.os.length c2) r.g.done N r.g.on (.slice (some ⟨nb, 0, none⟩) n n) (.slice (some ⟨qb, 0, none⟩) r.qs.length qc) lv ∧ ABox w' zo k (i : Int) x ∧ GBox w' z4 r.g.done N r.g.on (.slice (some ⟨nb, 0, none⟩) n n)) X := ⟨HBN.out _ HX.out.1.1, HX.out.1.2.1, HX.out.1.2.2.2⟩
    have hS0 : (fun w' => w'.cell? ⟨qb, i * 2, none⟩ = some (.slice lp m lc) ∧ w'.cell? ⟨qb, i * 2 + 1, none⟩ = some (.int .u64 over)) X := ⟨below_cell hbx hc0, below_cell hbx hc1⟩
    clear hbx HV3 HCB hc0 hc1
    refine wpTwo_takeT (i := 0) (v := .pointer (some ⟨z, 0, none⟩)) rfl (by kernel_rfl) (by kernel_rfl) (by kernel_rfl) (fun _ _ _ h => h) ⟨by rfl, ?_⟩ hT0 ?_
    · intro w _
      go_simp
    (try simp only [Act.put, List.getElem_toArray, List.getElem_cons_zero, List.setIfInBounds_toArray, List.set_cons_succ, List.set_cons_zero])
    refine wpTwo_takeT (i := 1) (v := .pointer (some ⟨z, 0, none⟩)) rfl (by kernel_rfl) (by kernel_rfl) (by kernel_rfl) (fun _ _ _ h => h) ⟨by rfl, ?_⟩ hT0 ?_
    · intro w _
      go_simp
    (try simp only [Act.put, List.getElem_toArray, List.getElem_cons_succ, List.getElem_cons_zero, List.setIfInBounds_toArray, List.set_cons_succ, List.set_cons_zero])
    refine wpTwo_takeT (i := 2) (v := .pointer (some ⟨z, 0, none⟩)) rfl (by kernel_rfl) (by kernel_rfl) (by kernel_rfl) (fun _ _ _ h => h) ⟨by rfl, ?_⟩ hT0 ?_
    · intro w _
      go_simp
    (try simp only [Act.put, List.getElem_toArray, List.getElem_cons_succ, List.getElem_cons_zero, List.setIfInBounds_toArray, List.set_cons_succ, List.set_cons_zero])
    refine wpTwo_takeT (i := 3) (v := .pointer (some ⟨z, 7, none⟩)) rfl (by kernel_rfl) (by kernel_rfl) (by kernel_rfl) (fun _ _ _ h => h) ⟨by rfl, ?_⟩ hT0 ?_
    · intro w _
      go_simp
    (try simp only [Act.put, List.getElem_toArray, List.getElem_cons_succ, List.getElem_cons_zero, List.setIfInBounds_toArray, List.set_cons_succ, List.set_cons_zero])
    refine wpTwo_takeT (i := 4) (v := .slice (some ⟨qb, 0, none⟩) r.qs.length qc) rfl (by kernel_rfl) (by kernel_rfl) (by kernel_rfl) (fun _ _ _ h => h) ⟨by rfl, ?_⟩ hT0 ?_
    · rintro w ⟨hT1, hT2, hT3⟩
      obtain ⟨t0, t1, t2, t3, t4, t5, t6, t7, t8⟩ := hT1.cells
      obtain ⟨s0, s1, s2⟩ := hT2.cells
      obtain ⟨g0, g1, g2, g3⟩ := hT3.cells
      go_simp
    (try simp only [Act.put, List.getElem_toArray, List.getElem_cons_succ, List.getElem_cons_zero, List.setIfInBounds_toArray, List.set_cons_succ, List.set_cons_zero])
    refine wpTwo_takeT (i := 5) (v := .pointer (some ⟨zo, 1, none⟩)) rfl (by kernel_rfl) (by kernel_rfl) (by kernel_rfl) (fun _ _ _ h => h) ⟨by rfl, ?_⟩ hT0 ?_
    · intro w _
      go_simp
    (try simp only [Act.put, List.getElem_toArray, List.getElem_cons_succ, List.getElem_cons_zero, List.setIfInBounds_toArray, List.set_cons_succ, List.set_cons_zero])
    refine wpTwo_takeT (i := 6) (v := .int .i64 (i : Int)) rfl (by kernel_rfl) (by kernel_rfl) (by kernel_rfl) (fun _ _ _ h => h) ⟨by rfl, ?_⟩ hT0 ?_
    · rintro w ⟨hT1, hT2, hT3⟩
      obtain ⟨t0, t1, t2, t3, t4, t5, t6, t7, t8⟩ := hT1.cells
      obtain ⟨s0, s1, s2⟩ := hT2.cells
      obtain ⟨g0, g1, g2, g3⟩ := hT3.cells
      go_simp
    (try simp only [Act.put, List.getElem_toArray, List.getElem_cons_succ, List.getElem_cons_zero, List.setIfInBounds_toArray, List.set_cons_succ, List.set_cons_zero])
    refine wpTwo_takeT (i := 7) (v := .pointer (some ⟨z, 0, none⟩)) rfl (by kernel_rfl) (by kernel_rfl) (by kernel_rfl) (fun _ _ _ h => h) ⟨by rfl, ?_⟩ hT0 ?_
    · intro w _
      go_simp
    (try simp only [Act.put, List.getElem_toArray, List.getElem_cons_succ, List.getElem_cons_zero, List.setIfInBounds_toArray, List.set_cons_succ, List.set_cons_zero])
    refine wpTwo_takeT (i := 8) (v := .pointer (some ⟨z, 0, none⟩)) rfl (by kernel_rfl) (by kernel_rfl) (by kernel_rfl) (fun _ _ _ h => h) ⟨by rfl, ?_⟩ hT0 ?_
    · intro w _
      go_simp
    (try simp only [Act.put, List.getElem_toArray, List.getElem_cons_succ, List.getElem_cons_zero, List.setIfInBounds_toArray, List.set_cons_succ, List.set_cons_zero])
    refine wpTwo_takeT (i := 9) (v := .pointer (some ⟨z, 0, none⟩)) rfl (by kernel_rfl) (by kernel_rfl) (by kernel_rfl) (fun _ _ _ h => h) ⟨by rfl, ?_⟩ hT0 ?_
    · intro w _
      go_simp
    (try simp only [Act.put, List.getElem_toArray, List.getElem_cons_succ, List.getElem_cons_zero, List.setIfInBounds_toArray, List.set_cons_succ, List.set_cons_zero])
    refine wpTwo_takeT (i := 10) (v := .pointer (some ⟨z, 7, none⟩)) rfl (by kernel_rfl) (by kernel_rfl) (by kernel_rfl) (fun _ _ _ h => h) ⟨by rfl, ?_⟩ hT0 ?_
    · intro w _
      go_simp
    (try simp only [Act.put, List.getElem_toArray, List.getElem_cons_succ, List.getElem_cons_zero, List.setIfInBounds_toArray, List.set_cons_succ, List.set_cons_zero])
    refine wpTwo_takeT (i := 11) (v := .slice (some ⟨qb, 0, none⟩) r.qs.length qc) rfl (by kernel_rfl) (by kernel_rfl) (by kernel_rfl) (fun _ _ _ h => h) ⟨by rfl, ?_⟩ hT0 ?_
    · rintro w ⟨hT1, hT2, hT3⟩
      obtain ⟨t0, t1, t2, t3, t4, t5, t6, t7, t8⟩ := hT1.cells
      obtain ⟨s0, s1, s2⟩ := hT2.cells
      obtain ⟨g0, g1, g2, g3⟩ := hT3.cells
      go_simp
    (try simp only [Act.put, List.getElem_toArray, List.getElem_cons_succ, List.getElem_cons_zero, List.setIfInBounds_toArray, List.set_cons_succ, List.set_cons_zero])
    refine wpTwo_takeT (i := 12) (v := .pointer (some ⟨zo, 1, none⟩)) rfl (by kernel_rfl) (by kernel_rfl) (by kernel_rfl) (fun _ _ _ h => h) ⟨by rfl, ?_⟩ hT0 ?_
    · intro w _
      go_simp
    (try simp only [Act.put, List.getElem_toArray, List.getElem_cons_succ, List.getElem_cons_zero, List.setIfInBounds_toArray, List.set_cons_succ, List.set_cons_zero])
    refine wpTwo_takeT (i := 13) (v := .int .i64 (i : Int)) rfl (by kernel_rfl) (by kernel_rfl) (by kernel_rfl) (fun _ _ _ h => h) ⟨by rfl, ?_⟩ hT0 ?_
    · rintro w ⟨hT1, hT2, hT3⟩
      obtain ⟨t0, t1, t2, t3, t4, t5, t6, t7, t8⟩ := hT1.cells
      obtain ⟨s0, s1, s2⟩ := hT2.cells
      obtain ⟨g0, g1, g2, g3⟩ := hT3.cells
      go_simp
    (try simp only [Act.put, List.getElem_toArray, List.getElem_cons_succ, List.getElem_cons_zero, List.setIfInBounds_toArray, List.set_cons_succ, List.set_cons_zero])
    refine wpTwo_takeT (i := 14) (v := .pointer (some ⟨qb, i * 2, none⟩)) rfl (by kernel_rfl) (by kernel_rfl) (by kernel_rfl) (fun _ _ _ h => h) ⟨by rfl, ?_⟩ hT0 ?_
    · intro w _
      go_simp
    (try simp only [Act.put, List.getElem_toArray, List.getElem_cons_succ, List.getElem_cons_zero, List.setIfInBounds_toArray, List.set_cons_succ, List.set_cons_zero])
    refine wpTwo_takeS (i := 15) (v := .agg #[.slice lp m lc, .int .u64 over]) (waits_all (by kernel_rfl)) rfl (by kernel_rfl) (by kernel_rfl) (by kernel_rfl) (fun _ _ _ h => h) ⟨by rfl, ?_⟩ ⟨hT0, hS0⟩ ?_
    · rintro w ⟨-, hS1, hS2⟩
      go_simp
    (try simp only [Act.put, List.getElem_toArray, List.getElem_cons_succ, List.getElem_cons_zero, List.setIfInBounds_toArray, List.set_cons_succ, List.set_cons_zero])
    refine wpTwo_takeT (i := 16) (v := .pointer (some ⟨zo, 2, none⟩)) rfl (by kernel_rfl) (by kernel_rfl) (by kernel_rfl) (fun _ _ _ h => h) ⟨by rfl, ?_⟩ hT0 ?_
    · intro w _
      go_simp
    (try simp only [Act.put, List.getElem_toArray, List.getElem_cons_succ, List.getElem_cons_zero, List.setIfInBounds_toArray, List.set_cons_succ, List.set_cons_zero])
    refine wpTwo_takeT (i := 17) (v := .int .u64 x) rfl (by kernel_rfl) (by kernel_rfl) (by kernel_rfl) (fun _ _ _ h => h) ⟨by rfl, ?_⟩ hT0 ?_
    · rintro w ⟨hT1, hT2, hT3⟩
      obtain ⟨t0, t1, t2, t3, t4, t5, t6, t7, t8⟩ := hT1.cells
      obtain ⟨s0, s1, s2⟩ := hT2.cells
      obtain ⟨g0, g1, g2, g3⟩ := hT3.cells
      go_simp
    (try simp only [Act.put, List.getElem_toArray, List.getElem_cons_succ, List.getElem_cons_zero, List.setIfInBounds_toArray, List.set_cons_succ, List.set_cons_zero])
    refine wpTwo_takeT (i := 18) (v := .int .i64 N) rfl (by kernel_rfl) (by kernel_rfl) (by kernel_rfl) (fun _ _ _ h => h) ⟨by rfl, ?_⟩ hT0 ?_
    · intro w _
      go_simp
    (try simp only [Act.put, List.getElem_toArray, List.getElem_cons_succ, List.getElem_cons_zero, List.setIfInBounds_toArray, List.set_cons_succ, List.set_cons_zero])
    refine wpTwo_takeT (i := 19) (v := .pointer (some ⟨z4, 0, none⟩)) rfl (by kernel_rfl) (by kernel_rfl) (by kernel_rfl) (fun _ _ _ h => h) ⟨by rfl, ?_⟩ hT0 ?_
    · intro w _
      go_simp
    (try simp only [Act.put, List.getElem_toArray, List.getElem_cons_succ, List.getElem_cons_zero, List.setIfInBounds_toArray, List.set_cons_succ, List.set_cons_zero])
    refine wpTwo_takeT (i := 20) (v := .int .i64 r.g.done) rfl (by kernel_rfl) (by kernel_rfl) (by kernel_rfl) (fun _ _ _ h => h) ⟨by rfl, ?_⟩ hT0 ?_
    · rintro w ⟨hT1, hT2, hT3⟩
      obtain ⟨t0, t1, t2, t3, t4, t5, t6, t7, t8⟩ := hT1.cells
      obtain ⟨s0, s1, s2⟩ := hT2.cells
      obtain ⟨g0, g1, g2, g3⟩ := hT3.cells
      go_simp
    (try simp only [Act.put, List.getElem_toArray, List.getElem_cons_succ, List.getElem_cons_zero, List.setIfInBounds_toArray, List.set_cons_succ, List.set_cons_zero])
    refine wpTwo_takeT (i := 21) (v := .int .i64 (N - over)) rfl (by kernel_rfl) (by kernel_rfl) (by kernel_rfl) (fun _ _ _ h => h) ⟨by rfl, ?_⟩ hT0 ?_
    · intro w _
      go_simp
      (try rw [hw64])
    (try simp only [Act.put, List.getElem_toArray, List.getElem_cons_succ, List.getElem_cons_zero, List.setIfInBounds_toArray, List.set_cons_succ, List.set_cons_zero])
    have HC := Lib.hid (U.put_c (.slice lp m lc) over l x (N - over) X (HX.out.2.1.sub (fun _ h => False.elim h)) HR.out.1)
    refine wpTwo_ready (rs := [22]) (by kernel_rfl) (by simp) ?_
    refine (AllTwo.cons rfl (fun K hK => ?_) AllTwo.nil)
    go_simp
    (with_reducible refine HC.out.mono ?_)
    rintro e X1 ⟨hPQ, hb1⟩
    have HX1 := Lib.hid (show (VtAt X1 z B { r with g := askG r.g } (.slice p1 r.s.ns.length c1) (.slice p2 r.s.os.length c2) (.slice (some ⟨nb, 0, none⟩) n n) qb qc lv ls ∧ ABox X1 zo k (i : Int) x ∧ Keeps (dS z qb lv) W X1 ∧ GBox X1 z4 r.g.done N r.g.on (.slice (some ⟨nb, 0, none⟩) n n)) ∧ w0.heap.size ≤ X.heap.size from ⟨⟨HX.out.1.1.below hb1, HX.out.1.2.1.below hb1, HX.out.1.2.2.1.trans (Keeps.of_below hb1), HX.out.1.2.2.2.below hb1⟩, HX.out.2.2⟩)
    have hT1 : (fun w' => VtBox w' z r.s.now (.slice p1 r.s.ns.length c1) (.slice p2 r.s.os.length c2) r.g.done N r.g.on (.slice (some ⟨nb, 0, none⟩) n n) (.slice (some ⟨qb, 0, none⟩) r.qs.length qc) lv ∧ ABox w' zo k (i : Int) x ∧ GBox w' z4 r.g.done N r.g.on (.slice (some ⟨nb, 0, none⟩) n n)) X1 := ⟨HBN.out _ HX1.out.1.1, HX1.out.1.2.1, HX1.out.1.2.2.2⟩
    have hS1 : (fun w' => w'.cell? ⟨qb, i * 2, none⟩ = some (.slice lp m lc) ∧ w'.cell? ⟨qb, i * 2 + 1, none⟩ = some (.int .u64 over)) X1 := ⟨below_cell hb1 hS0.1, below_cell hb1 hS0.2⟩
    obtain ⟨F, o', l', hF, hl', ⟨v', rfl, ho⟩⟩ : ∃ F o' l', F = (if l.length = 16 then (6 : Int) else 0) ∧ (F = 0 → o' = over ∧ l' = l ++ [(N, x)]) ∧ U.AnsQ X.heap.size F o' l' e X1 := by
      rw [← HG.out.2.2.2.2.2.1]
      rcases hPQ with ⟨h1, h2⟩ | ⟨h1, h2⟩
      · exact ⟨0, over, l ++ [(over + (N - over), x)], h1.symm, fun _ => ⟨rfl, by rw [show over + (N - over) = N by omega]⟩, h2⟩
      · exact ⟨_, 0, [], rfl, fun h => absurd h h1, h2⟩
    obtain ⟨p', c', rfl⟩ := owns_slice ho
    obtain ⟨m', hm'⟩ : ∃ m', m' = l'.length := ⟨_, rfl⟩
    rw [← hm'] at ho
    rw [← hm']
    have HO := Lib.hid (show U.CbOut (fun k => k < X.heap.size) X1 (.slice p' m' c') l' ∧ (F = 0 → o' = over ∧ l' = l ++ [(N, x)]) ∧ F = (if l.length = 16 then (6 : Int) else 0) from ⟨U.cb_of_owns ho, hl', hF⟩)
    clear hPQ hb1 HC HX hT0 hS0 ho hl' hF hm'
    go_wp2_with fail
    refine hK.out _ _ ⟨hT1, fun _ _ => hS1⟩ ?_
    clear hK K
    (try simp only [Act.put, List.getElem_toArray, List.getElem_cons_succ, List.getElem_cons_zero, List.setIfInBounds_toArray, List.set_cons_succ, List.set_cons_zero])
    refine wpTwo_takeT (i := 23) (v := .agg #[.slice p' m' c', .int .u64 o']) rfl (by kernel_rfl) (by kernel_rfl) (by kernel_rfl) (fun _ _ _ h => h) ⟨by rfl, ?_⟩ hT1 ?_
    · intro w _
      go_simp
    (try simp only [Act.put, List.getElem_toArray, List.getElem_cons_succ, List.getElem_cons_zero, List.setIfInBounds_toArray, List.set_cons_succ, List.set_cons_zero])
    refine wpTwo_takeT (i := 24) (v := .int .i64 F) rfl (by kernel_rfl) (by kernel_rfl) (by kernel_rfl) (fun _ _ _ h => h) ⟨by rfl, ?_⟩ hT1 ?_
    · intro w _
      go_simp
    (try simp only [Act.put, List.getElem_toArray, List.getElem_cons_succ, List.getElem_cons_zero, List.setIfInBounds_toArray, List.set_cons_succ, List.set_cons_zero])
    by_cases hF0 : F = 0
    · subst hF0
      have HE := Lib.hid (show E = 0 ∧ callR r i x = { { r with g := askG r.g } with qs := r.qs.set i (over, l ++ [(N, x)]) } from ⟨by rw [HG.out.1]; unfold callE; rw [if_neg (fun h => h hE), HG.out.2.2.1]; exact HO.out.2.2.symm, by unfold callR; rw [HG.out.2.2.1, HG.out.2.2.2.1]⟩)
      obtain ⟨rfl, rfl⟩ := HO.out.2.1 rfl
      refine wpTwo_ready (rs := [25]) (by kernel_rfl) (by simp) ?_
      refine (AllTwo.cons rfl (fun K hK => ?_) AllTwo.nil)
      go_simp
      (with_reducible refine (gotQ_ok p' m' c' o' X1).mono ?_)
      rintro e X2 ⟨rfl, hb2⟩
      have HX2 := Lib.hid (show (VtAt X2 z B { r with g := askG r.g } (.slice p1 r.s.ns.length c1) (.slice p2 r.s.os.length c2) (.slice (some ⟨nb, 0, none⟩) n n) qb qc lv ls ∧ ABox X2 zo k (i : Int) x ∧ Keeps (dS z qb lv) W X2 ∧ GBox X2 z4 r.g.done N r.g.on (.slice (some ⟨nb, 0, none⟩) n n)) ∧ w0.heap.size ≤ X.heap.size ∧ U.CbOut (fun k => k < X.heap.size) X2 (.slice p' m' c') (l ++ [(N, x)]) from ⟨⟨HX1.out.1.1.below hb2, HX1.out.1.2.1.below hb2, HX1.out.1.2.2.1.trans (Keeps.of_below hb2), HX1.out.1.2.2.2.below hb2⟩, HX1.out.2, HO.out.1.below hb2⟩)
      have hT2 : (fun w' => VtBox w' z r.s.now (.slice p1 r.s.ns.length c1) (.slice p2 r.s.os.length c2) r.g.done N r.g.on (.slice (some ⟨nb, 0, none⟩) n n) (.slice (some ⟨qb, 0, none⟩) r.qs.length qc) lv ∧ ABox w' zo k (i : Int) x ∧ GBox w' z4 r.g.done N r.g.on (.slice (some ⟨nb, 0, none⟩) n n)) X2 := ⟨HBN.out _ HX2.out.1.1, HX2.out.1.2.1, HX2.out.1.2.2.2⟩
      have hS2 : (fun w' => w'.cell? ⟨qb, i * 2, none⟩ = some (.slice lp m lc) ∧ w'.cell? ⟨qb, i * 2 + 1, none⟩ = some (.int .u64 o')) X2 := ⟨below_cell hb2 hS1.1, below_cell hb2 hS1.2⟩
      clear hb2 HX1 HO
      go_wp2_with fail
      refine hK.out _ _ ⟨hT2, fun _ _ => hS2⟩ ?_
      clear hK K hT1 hS1
      (try simp only [Act.put, List.getElem_toArray, List.getElem_cons_succ, List.getElem_cons_zero, List.setIfInBounds_toArray, List.set_cons_succ, List.set_cons_zero])
      refine wpTwo_takeT (i := 26) (v := .pointer (some ⟨qb, i * 2, none⟩)) rfl (by kernel_rfl) (by kernel_rfl) (by kernel_rfl) (fun _ _ _ h => h) ⟨by rfl, ?_⟩ hT2 ?_
      · intro w _
        go_simp
      (try simp only [Act.put, List.getElem_toArray, List.getElem_cons_succ, List.getElem_cons_zero, List.setIfInBounds_toArray, List.set_cons_succ, List.set_cons_zero])
      have mq0 := HX2.out.1.1.row.free (i * 2)
      have mq1 := HX2.out.1.1.row.free (i * 2 + 1)
      obtain ⟨cq0, cq1⟩ := hS2
      have HF := Lib.hid (show OpQ z B E (callR r i x) ls qb qc lv (.returned (.tuple #[])) W ((X2.setCell ⟨qb, i * 2, none⟩ (.slice p' m' c')).setCell ⟨qb, i * 2 + 1, none⟩ (.int .u64 o')) from by
        have hxx := HX2.out.2.1
        have := HX2.out.1.1.setQ i (by have := HR.out; have := HG.out.2.2.2.2.2.2.2.1; simp only; omega) (.slice p' m' c') o' (l ++ [(N, x)]) (HX2.out.2.2.sub (fun k hk => Nat.lt_of_not_le fun hle => HSv.out k (by omega) hk))
        rw [HE.out.2]
        exact ⟨HX2.out.1.2.2.1.trans (((setK X2 qb (i * 2) _).trans (setK _ qb (i * 2 + 1) _)).sub fun k _ e => .inr (.inl e)), .inr ⟨HE.out.1, rfl, _, _, _, _, this, fun _ hg => .inl hg⟩⟩)
      have hT3 : (fun w' => VtBox w' z r.s.now (.slice p1 r.s.ns.length c1) (.slice p2 r.s.os.length c2) r.g.done N r.g.on (.slice (some ⟨nb, 0, none⟩) n n) (.slice (some ⟨qb, 0, none⟩) r.qs.length qc) lv ∧ ABox w' zo k (i : Int) x ∧ GBox w' z4 r.g.done N r.g.on (.slice (some ⟨nb, 0, none⟩) n n)) ((X2.setCell ⟨qb, i * 2, none⟩ (.slice p' m' c')).setCell ⟨qb, i * 2 + 1, none⟩ (.int .u64 o')) := by
        have hk := (setK X2 qb (i * 2) (.slice p' m' c')).trans (setK _ qb (i * 2 + 1) (.int .u64 o'))
        have := HZ.out
        have := HZ4.out
        have := HVX.out.1
        exact ⟨hT2.1.keeps hk (by omega), hT2.2.1.keeps hk (by have := HZO.out; omega), hT2.2.2.keeps hk (by omega)⟩
      refine wpTwo_ready (rs := [27]) (by kernel_rfl) (by simp) ?_
      refine (AllTwo.cons rfl (fun K hK => ?_) AllTwo.nil)
      go_simp
      refine hK.out _ _ ⟨hT3, fun h => absurd h (by decide)⟩ ?_
      clear hK K
      (try simp only [Act.put, List.getElem_toArray, List.getElem_cons_succ, List.getElem_cons_zero, List.setIfInBounds_toArray, List.set_cons_succ, List.set_cons_zero])
      refine wpTwo_end (by kernel_rfl) ?_ _
      clear mq0 mq1 cq0 cq1 hT2 hT3 HX2
      go_wp2
      go_end0
      exact HF.out
    · have h6 : F = 6 := by
        have := HO.out.2.2
        split at this
        · exact this
        · exact absurd this hF0
      have HE := Lib.hid (show E = 6 from by rw [HG.out.1]; unfold callE; rw [if_neg (fun h => h hE), HG.out.2.2.1]; rw [← HO.out.2.2]; exact h6)
      subst h6
      have HC := Lib.hid (gotQ_no p' m' c' o' 6 (by decide) X1)
      refine wpTwo_ready (rs := [25]) (by kernel_rfl) (by simp) ?_
      refine (AllTwo.cons rfl (fun K hK => ?_) AllTwo.nil)
      go_simp
      (with_reducible refine HC.out.mono ?_)
      rintro e X2 ⟨rfl, hb2⟩
      exact ⟨rfl, HX1.out.1.2.2.1.trans (Keeps.of_below hb2), .inl ⟨by rw [HE.out]; decide, by rw [HE.out]; rfl, HX1.out.1.1.any.keeps (Keeps.of_below (S := fun _ => False) hb2) id⟩⟩
  · obtain rfl : xx = askE r.g := by
      rcases HA.out with h | h
      · exact h.2
      · exact absurd h.1 hE
    have h6 : askE r.g = 6 := by unfold askE at hE ⊢; split at hE <;> simp_all
    have HF := Lib.hid (show E = 6 ∧ E ≠ 0 from by
      have : E = 6 := by rw [HG.out.1]; unfold callE; rw [if_pos hE]
      exact ⟨this, by rw [this]; decide⟩)
    rw [h6]
    clear hE h6
    go_wp2_with fail
    (with_reducible refine (rmust_no 6 (by decide) w2).mono ?_)
    rintro e w ⟨rfl, hww⟩
    rw [hww]
    exact ⟨rfl, HV2.out.2.2.1,   .inl ⟨HF.out.2, by rw [HF.out.1]; rfl, HV2.out.1.any⟩⟩

end Go.Proofs.YtdllhiihmpinoaaGreat
/-
  Package rcu: pick: a CPU is picked; the queues are told, if a period is over by that.
  Conditions: the ranges of Go's types.
-/
namespace Go.Proofs.YtdllhiihmpinoaaGreat
set_option maxRecDepth 100000
open Go.RowKit Go.Shelf
attribute [local go_sem] Oper.semAt_some

theorem pickG_facts (g : GrS) (i : Nat) (q : Bool) : (pickG g i q).asked = g.asked ∧ (pickG g i q).nd.length = g.nd.length ∧ ((pickG g i q).done = g.done ∨ (pickG g i q).done = g.done + 1) := by
  refine ⟨?_, pickG_len g i q, ?_⟩
  · unfold pickG reportG beginG
    split <;> split <;> (try split) <;> rfl
  · unfold pickG reportG beginG
    split <;> split <;> (try split) <;> simp
/-- The queues of which so many have been told. -/
def endQs (d : Int) (qs : List (Int × List (Int × Int))) (j : Nat) : List (Int × List (Int × Int)) := (qs.take j).map (fun q => (d, q.2)) ++ qs.drop j
theorem endQs_len (d : Int) (qs : List (Int × List (Int × Int))) (j : Nat) : (endQs d qs j).length = qs.length := by
  unfold endQs
  simp only [List.length_append, List.length_map, List.length_take, List.length_drop]
  omega
theorem endQs_at (d : Int) (qs : List (Int × List (Int × Int))) (j : Nat) (h : j < qs.length) : (endQs d qs j)[j]'(by rw [endQs_len]; exact h) = qs[j] := by
  have e : ((qs.take j).map (fun q => (d, q.2))).length = j := by simp; omega
  unfold endQs
  rw [List.getElem_append_right (by omega)]
  simp only [e, List.getElem_drop]
  congr 1
  omega
theorem endQs_next (d : Int) (qs : List (Int × List (Int × Int))) (j : Nat) (h : j < qs.length) : (endQs d qs j).set j (d, qs[j].2) = endQs d qs (j + 1) := by
  have e : ((qs.take j).map (fun q => (d, q.2))).length = j := by simp; omega
  unfold endQs
  rw [List.set_append_right _ _ (by omega), e, Nat.sub_self, List.drop_eq_getElem_cons h, List.set_cons_zero, List.take_succ_eq_append_getElem h, List.map_append, List.append_assoc]
  rfl
def pickR (r : RcS) (i : Nat) : RcS :=
  if (pickG r.g i (quietB r.s i)).done = r.g.done then { r with g := pickG r.g i (quietB r.s i) } else { s := r.s, g := pickG r.g i (quietB r.s i), qs := r.qs.map fun q => ((pickG r.g i (quietB r.s i)).done, q.2) }

set_option maxHeartbeats 32000000 in
theorem rpick_c (z B : Nat) (r : RcS) (u v nv : Value) (qb qc : Nat) (lv : Value) (ls : List Int) (k x : Int) (i : Nat) (W : World) (h : VtAt W z B r u v nv qb qc lv ls) (hm : rmayB r = true) (hi : i < r.qs.length) :
    Calls Tryz.prog 82 #[.pointer (some ⟨z, 0, none⟩), .agg #[.int .i64 k, .int .i64 (i : Int), .int .u64 x]] W fun e w' => OpQ z B 0 (pickR r i) ls qb qc lv e W w' := by
  obtain ⟨hgs, hmg, hl1, hl2, hqs⟩ := rmay_facts hm
  obtain ⟨hnd1, hnd8, hd0, hda, ha⟩ := mayG_facts hmg
  obtain ⟨n, hn⟩ : ∃ n, n = r.qs.length := ⟨_, rfl⟩
  have hlo := hgs.lo
  obtain ⟨Q, hQ⟩ : ∃ Q, Q = quietB r.s i := ⟨_, rfl⟩
  obtain ⟨g', hg'⟩ : ∃ g', g' = pickG r.g i Q := ⟨_, rfl⟩
  have hgf := pickG_facts r.g i Q
  rw [← hg'] at hgf
  have hgg : mayG g' = true := by rw [hg']; exact (goodG_iff _).2 (((goodG_iff _).1 hmg).pick i Q)
  have hI : ∀ y ∈ r.s.os, I64 y := fun y hy => by
    obtain ⟨i, hi, rfl⟩ := List.mem_iff_getElem.1 hy
    have := hgs.each i (by omega)
    have h2 := hgs.n1
    have h3 : oO r.s i = r.s.os[i] := getD_lt hi
    rw [h3] at this
    unfold I64
    omega
  obtain ⟨w0, hw0⟩ : ∃ X : World, X = W.alloc (.cells #[.int .i64 k, .int .i64 (i : Int), .int .u64 x] 37) := ⟨_, rfl⟩
  have hb0 : Below W.heap.size W w0 := by rw [hw0]; exact below1 _ _
  obtain ⟨zo, hzo⟩ : ∃ x, x = W.heap.size := ⟨_, rfl⟩
  have hx : ABox w0 zo k (i : Int) x := by rw [hw0, hzo]; exact ABox.new _ _ _ _
  have h0 := h.below hb0
  have HZ := Lib.hid (show z < zo ∧ z < B ∧ B ≤ zo ∧ zo < w0.heap.size ∧ z ≠ qb from ⟨by rw [hzo]; exact h.box.lt, h.zB, by rw [hzo]; exact h.BW, hx.lt, fun e => h.qz e.symm⟩)
  have HV := Lib.hid (show VtAt w0 z B r u v nv qb qc lv ls ∧ ABox w0 zo k (i : Int) x ∧ Keeps (dS z qb lv) W w0 from ⟨h0, hx, Keeps.of_below hb0⟩)
  have HG := Lib.hid (show Good r.s ∧ mayG r.g = true ∧ Q = quietB r.s i ∧ g' = pickG r.g i Q ∧ (g'.asked = r.g.asked ∧ g'.nd.length = n ∧ (g'.done = r.g.done ∨ g'.done = r.g.done + 1)) ∧ mayG g' = true ∧ (∀ y ∈ r.s.os, I64 y) ∧ n = r.qs.length ∧ (∀ q ∈ r.qs, U.mayB q.1 q.2 = true ∧ q.1 = r.g.done) from ⟨hgs, hmg, hQ, hg', ⟨hgf.1, by omega, hgf.2.2⟩, hgg, hI, hn, fun q hq => ⟨(hqs q hq).1, (hqs q hq).2.1⟩⟩)
  have HR := Lib.hid (show 0 ≤ r.g.done ∧ r.g.done ≤ 2147483645 ∧ n ≤ 8 ∧ i < n ∧ r.s.ns.length = n ∧ r.s.os.length = n ∧ r.g.nd.length = n from by omega)
  obtain ⟨p1, c1, p2, c2, p3, c3, p4, c4, q1, q2, q3, q4⟩ := h.inn.sl
  rw [hl1, ← hn] at q1
  rw [hlo, hl1, ← hn] at q2
  rw [hl2, ← hn] at q3
  subst q1 q2 q3
  have HW0 := Lib.hid (And.intro hw0 hzo)
  have HVX := Lib.hid (show qb < w0.heap.size ∧ (∀ g, lv.ownBlock = some g → g < w0.heap.size) ∧ zo ≠ qb from ⟨h0.row.lt, fun g hg => (h0.lB hg).2, fun e => by have := h.row.lt; omega⟩)
  obtain ⟨t0, t1, t2, t3, t4, t5, t6, t7, t8⟩ := h0.box.cells
  rw [← hn] at t7
  clear h h0 hx hgs hmg hl1 hl2 hqs hnd1 hnd8 hd0 hda ha hw0 hzo hb0 q4 hlo hQ hg' hgf hgg hI hm hn
  go_enter Tryz.func82, Tryz.ntmps82
  go_upto_region 1 with fail
  rw [← HW0.out.1, ← HW0.out.2]
  clear HW0
  go_upto_region 2 with fail
  clear t0 t1 t2 t3 t4 t5 t6 t7 t8
  go_cut [13] (fun _ wc => Hid (∃ nv', VtAt wc z B { r with g := g' } (.slice p1 n c1) (.slice p2 n c2) nv' qb qc lv ls ∧ ABox wc zo k (i : Int) x ∧ Keeps (dS z qb lv) W wc))
  case first =>
    refine wpTwo_begin (T := fun w' => ABox w' zo k (i : Int) x) (S := fun w' => VtBox w' z r.s.now (.slice p1 n c1) (.slice p2 n c2) r.g.done r.g.asked r.g.on (.slice p3 n c3) (.slice (some ⟨qb, 0, none⟩) r.qs.length qc) lv) (late := fun j => [23].contains j) (by kernel_rfl) ?_
    obtain ⟨X, hX⟩ : ∃ Y : World, Y = w0.drew := ⟨_, rfl⟩
    rw [← hX]
    have hbx : Below w0.heap.size w0 X := by rw [hX]; exact (Below.refl _ _).drew
    clear hX
    have HX := Lib.hid (show (VtAt X z B r (.slice p1 n c1) (.slice p2 n c2) (.slice p3 n c3) qb qc lv ls ∧ ABox X zo k (i : Int) x ∧ Keeps (dS z qb lv) W X) ∧ w0.heap.size ≤ X.heap.size from ⟨⟨HV.out.1.below hbx, HV.out.2.1.below hbx, HV.out.2.2.trans (Keeps.of_below hbx)⟩, hbx.size⟩)
    have hT0 := HX.out.1.2.1
    have hS0 := HX.out.1.1.box
    clear hbx HV
    refine wpTwo_takeT (i := 0) (v := .pointer (some ⟨z, 0, none⟩)) rfl (by kernel_rfl) (by kernel_rfl) (by kernel_rfl) (fun _ _ _ h => h) ⟨by rfl, ?_⟩ hT0 ?_
    · intro w _
      go_simp
    (try simp only [Act.put, List.getElem_toArray, List.getElem_cons_zero, List.setIfInBounds_toArray, List.set_cons_succ, List.set_cons_zero])
    refine wpTwo_takeT (i := 1) (v := .pointer (some ⟨z, 0, none⟩)) rfl (by kernel_rfl) (by kernel_rfl) (by kernel_rfl) (fun _ _ _ h => h) ⟨by rfl, ?_⟩ hT0 ?_
    · intro w _
      go_simp
    (try simp only [Act.put, List.getElem_toArray, List.getElem_cons_succ, List.getElem_cons_zero, List.setIfInBounds_toArray, List.set_cons_succ, List.set_cons_zero])
    refine wpTwo_takeT (i := 2) (v := .pointer (some ⟨z, 0, none⟩)) rfl (by kernel_rfl) (by kernel_rfl) (by kernel_rfl) (fun _ _ _ h => h) ⟨by rfl, ?_⟩ hT0 ?_
    · intro w _
      go_simp
    (try simp only [Act.put, List.getElem_toArray, List.getElem_cons_succ, List.getElem_cons_zero, List.setIfInBounds_toArray, List.set_cons_succ, List.set_cons_zero])
    refine wpTwo_takeT (i := 3) (v := .pointer (some ⟨z, 0, none⟩)) rfl (by kernel_rfl) (by kernel_rfl) (by kernel_rfl) (fun _ _ _ h => h) ⟨by rfl, ?_⟩ hT0 ?_
    · intro w _
      go_simp
    (try simp only [Act.put, List.getElem_toArray, List.getElem_cons_succ, List.getElem_cons_zero, List.setIfInBounds_toArray, List.set_cons_succ, List.set_cons_zero])
    refine wpTwo_takeT (i := 4) (v := .pointer (some ⟨z, 3, none⟩)) rfl (by kernel_rfl) (by kernel_rfl) (by kernel_rfl) (fun _ _ _ h => h) ⟨by rfl, ?_⟩ hT0 ?_
    · intro w _
      go_simp
    (try simp only [Act.put, List.getElem_toArray, List.getElem_cons_succ, List.getElem_cons_zero, List.setIfInBounds_toArray, List.set_cons_succ, List.set_cons_zero])
    refine wpTwo_takeS (i := 5) (v := .agg #[.int .i64 r.g.done, .int .i64 r.g.asked, .bool r.g.on, .slice p3 n c3]) (waits_all (by kernel_rfl)) rfl (by kernel_rfl) (by kernel_rfl) (by kernel_rfl) (fun _ _ _ h => h) ⟨by rfl, ?_⟩ ⟨hT0, hS0⟩ ?_
    · rintro w ⟨hT, hS⟩
      obtain ⟨t0, t1, t2, t3, t4, t5, t6, t7, t8⟩ := hS.cells
      go_simp
    (try simp only [Act.put, List.getElem_toArray, List.getElem_cons_succ, List.getElem_cons_zero, List.setIfInBounds_toArray, List.set_cons_succ, List.set_cons_zero])
    refine wpTwo_takeT (i := 6) (v := .pointer (some ⟨zo, 1, none⟩)) rfl (by kernel_rfl) (by kernel_rfl) (by kernel_rfl) (fun _ _ _ h => h) ⟨by rfl, ?_⟩ hT0 ?_
    · intro w _
      go_simp
    (try simp only [Act.put, List.getElem_toArray, List.getElem_cons_succ, List.getElem_cons_zero, List.setIfInBounds_toArray, List.set_cons_succ, List.set_cons_zero])
    refine wpTwo_takeT (i := 7) (v := .int .i64 (i : Int)) rfl (by kernel_rfl) (by kernel_rfl) (by kernel_rfl) (fun _ _ _ h => h) ⟨by rfl, ?_⟩ hT0 ?_
    · rintro w hT
      obtain ⟨s0, s1, s2⟩ := hT.cells
      go_simp
    (try simp only [Act.put, List.getElem_toArray, List.getElem_cons_succ, List.getElem_cons_zero, List.setIfInBounds_toArray, List.set_cons_succ, List.set_cons_zero])
    refine wpTwo_takeT (i := 8) (v := .pointer (some ⟨z, 0, none⟩)) rfl (by kernel_rfl) (by kernel_rfl) (by kernel_rfl) (fun _ _ _ h => h) ⟨by rfl, ?_⟩ hT0 ?_
    · intro w _
      go_simp
    (try simp only [Act.put, List.getElem_toArray, List.getElem_cons_succ, List.getElem_cons_zero, List.setIfInBounds_toArray, List.set_cons_succ, List.set_cons_zero])
    refine wpTwo_takeT (i := 9) (v := .pointer (some ⟨z, 0, none⟩)) rfl (by kernel_rfl) (by kernel_rfl) (by kernel_rfl) (fun _ _ _ h => h) ⟨by rfl, ?_⟩ hT0 ?_
    · intro w _
      go_simp
    (try simp only [Act.put, List.getElem_toArray, List.getElem_cons_succ, List.getElem_cons_zero, List.setIfInBounds_toArray, List.set_cons_succ, List.set_cons_zero])
    refine wpTwo_takeT (i := 10) (v := .pointer (some ⟨z, 0, none⟩)) rfl (by kernel_rfl) (by kernel_rfl) (by kernel_rfl) (fun _ _ _ h => h) ⟨by rfl, ?_⟩ hT0 ?_
    · intro w _
      go_simp
    (try simp only [Act.put, List.getElem_toArray, List.getElem_cons_succ, List.getElem_cons_zero, List.setIfInBounds_toArray, List.set_cons_succ, List.set_cons_zero])
    refine wpTwo_takeT (i := 11) (v := .pointer (some ⟨z, 0, none⟩)) rfl (by kernel_rfl) (by kernel_rfl) (by kernel_rfl) (fun _ _ _ h => h) ⟨by rfl, ?_⟩ hT0 ?_
    · intro w _
      go_simp
    (try simp only [Act.put, List.getElem_toArray, List.getElem_cons_succ, List.getElem_cons_zero, List.setIfInBounds_toArray, List.set_cons_succ, List.set_cons_zero])
    refine wpTwo_takeS (i := 12) (v := .agg #[.int .i64 r.s.now, .slice p1 n c1, .slice p2 n c2]) (waits_all (by kernel_rfl)) rfl (by kernel_rfl) (by kernel_rfl) (by kernel_rfl) (fun _ _ _ h => h) ⟨by rfl, ?_⟩ ⟨hT0, hS0⟩ ?_
    · rintro w ⟨hT, hS⟩
      obtain ⟨t0, t1, t2, t3, t4, t5, t6, t7, t8⟩ := hS.cells
      go_simp
    (try simp only [Act.put, List.getElem_toArray, List.getElem_cons_succ, List.getElem_cons_zero, List.setIfInBounds_toArray, List.set_cons_succ, List.set_cons_zero])
    refine wpTwo_takeT (i := 13) (v := .pointer (some ⟨zo, 1, none⟩)) rfl (by kernel_rfl) (by kernel_rfl) (by kernel_rfl) (fun _ _ _ h => h) ⟨by rfl, ?_⟩ hT0 ?_
    · intro w _
      go_simp
    (try simp only [Act.put, List.getElem_toArray, List.getElem_cons_succ, List.getElem_cons_zero, List.setIfInBounds_toArray, List.set_cons_succ, List.set_cons_zero])
    refine wpTwo_takeT (i := 14) (v := .int .i64 (i : Int)) rfl (by kernel_rfl) (by kernel_rfl) (by kernel_rfl) (fun _ _ _ h => h) ⟨by rfl, ?_⟩ hT0 ?_
    · rintro w hT
      obtain ⟨s0, s1, s2⟩ := hT.cells
      go_simp
    (try simp only [Act.put, List.getElem_toArray, List.getElem_cons_succ, List.getElem_cons_zero, List.setIfInBounds_toArray, List.set_cons_succ, List.set_cons_zero])
    have hC := quiet_c r.s (.slice p1 n c1) (.slice p2 n c2) (i : Int) X HX.out.1.1.nest.1 HX.out.1.1.opened.1 (by have := HR.out; omega) (by have := HR.out; omega) HG.out.2.2.2.2.2.2.1
    rw [← HG.out.2.2.1] at hC
    have HC := Lib.hid hC
    clear hC
    refine wpTwo_ready (rs := [15]) (by kernel_rfl) (by simp) ?_
    refine (AllTwo.cons rfl (fun K hK => ?_) AllTwo.nil)
    go_simp
    (with_reducible refine HC.out.mono ?_)
    rintro e X1 ⟨rfl, hb1⟩
    have HX1 := Lib.hid (show (VtAt X1 z B r (.slice p1 n c1) (.slice p2 n c2) (.slice p3 n c3) qb qc lv ls ∧ ABox X1 zo k (i : Int) x ∧ Keeps (dS z qb lv) W X1) ∧ w0.heap.size ≤ X1.heap.size from ⟨⟨HX.out.1.1.below hb1, HX.out.1.2.1.below hb1, HX.out.1.2.2.trans (Keeps.of_below hb1)⟩, Nat.le_trans HX.out.2 hb1.size⟩)
    have hT1 := HX1.out.1.2.1
    have hS1 := HX1.out.1.1.box
    clear hb1 HC HX hT0 hS0
    go_wp2_with fail
    refine hK.out _ _ ⟨hT1, fun _ _ => hS1⟩ ?_
    clear hK K
    (try simp only [Act.put, List.getElem_toArray, List.getElem_cons_succ, List.getElem_cons_zero, List.setIfInBounds_toArray, List.set_cons_succ, List.set_cons_zero])
    have HC := Lib.hid (gPick_c r.g (.slice p3 n c3) (i : Int) Q X1 HX1.out.1.1.needs.1 (by have := HR.out; omega))
    refine wpTwo_ready (rs := [16]) (by kernel_rfl) (by simp) ?_
    refine (AllTwo.cons rfl (fun K hK => ?_) AllTwo.nil)
    go_simp
    (with_reducible refine HC.out.mono ?_)
    rintro e X2 ⟨⟨d, a, on, pp, nn, cc, xx, rfl, hA⟩, hb2⟩
    have HX2 := Lib.hid (show (VtAt X2 z B r (.slice p1 n c1) (.slice p2 n c2) (.slice p3 n c3) qb qc lv ls ∧ ABox X2 zo k (i : Int) x ∧ Keeps (dS z qb lv) W X2) ∧ w0.heap.size ≤ X1.heap.size from ⟨⟨HX1.out.1.1.below hb2, HX1.out.1.2.1.below hb2, HX1.out.1.2.2.trans (Keeps.of_below hb2)⟩, HX1.out.2⟩)
    have hE0 : errG r.g (pickE r.g (i : Int)) = 0 := by
      unfold errG pickE hasB
      rw [if_pos HG.out.2.1, decide_eq_true (by omega), decide_eq_true (by have := HR.out; omega)]
      rfl
    obtain ⟨rfl, rfl, rfl, rfl, nb, rfl, hn1, hn2, hB, hnb⟩ : 0 = xx ∧ g'.done = d ∧ g'.asked = a ∧ g'.on = on ∧ ∃ nb, pp = some ⟨nb, 0, none⟩ ∧ n = nn ∧ n = cc ∧ BBlock X2 nb g'.nd ∧ X1.heap.size ≤ nb := by
      rw [Int.toNat_natCast, ← HG.out.2.2.2.1, hE0] at hA
      rcases hA with h | ⟨h1, h2, h3, h4, h5, nb, h6, h7, h8, h9, h10⟩
      · exact absurd rfl h.1
      · have e := HG.out.2.2.2.2.1.2.1
        exact ⟨h2.symm, h3.symm, h4.symm, h5.symm, nb, h6, (h7.trans e).symm, (h8.trans e).symm, h9, h10⟩
    subst hn1 hn2
    have HB := Lib.hid (And.intro hB hnb)
    have hT2 := HX2.out.1.2.1
    have hS2 := HX2.out.1.1.box
    clear hb2 HC HX1 hT1 hS1 hA hE0 hB hnb
    go_wp2_with fail
    refine hK.out _ _ ⟨hT2, fun _ _ => hS2⟩ ?_
    clear hK K
    (try simp only [Act.put, List.getElem_toArray, List.getElem_cons_succ, List.getElem_cons_zero, List.setIfInBounds_toArray, List.set_cons_succ, List.set_cons_zero])
    refine wpTwo_takeT (i := 17) (v := .agg #[.int .i64 g'.done, .int .i64 g'.asked, .bool g'.on, .slice (some ⟨nb, 0, none⟩) n n]) rfl (by kernel_rfl) (by kernel_rfl) (by kernel_rfl) (fun _ _ _ h => h) ⟨by rfl, ?_⟩ hT2 ?_
    · intro w _
      go_simp
    (try simp only [Act.put, List.getElem_toArray, List.getElem_cons_succ, List.getElem_cons_zero, List.setIfInBounds_toArray, List.set_cons_succ, List.set_cons_zero])
    refine wpTwo_takeT (i := 18) (v := .int .i64 0) rfl (by kernel_rfl) (by kernel_rfl) (by kernel_rfl) (fun _ _ _ h => h) ⟨by rfl, ?_⟩ hT2 ?_
    · intro w _
      go_simp
    (try simp only [Act.put, List.getElem_toArray, List.getElem_cons_succ, List.getElem_cons_zero, List.setIfInBounds_toArray, List.set_cons_succ, List.set_cons_zero])
    refine wpTwo_ready (rs := [19]) (by kernel_rfl) (by simp) ?_
    refine (AllTwo.cons rfl (fun K hK => ?_) AllTwo.nil)
    go_simp
    (with_reducible refine (gotG_ok g'.done g'.asked g'.on (some ⟨nb, 0, none⟩) n n X2).mono ?_)
    rintro e X3 ⟨rfl, hb3⟩
    have HX3 := Lib.hid (show (VtAt X3 z B r (.slice p1 n c1) (.slice p2 n c2) (.slice p3 n c3) qb qc lv ls ∧ ABox X3 zo k (i : Int) x ∧ Keeps (dS z qb lv) W X3) ∧ BBlock X3 nb g'.nd from ⟨⟨HX2.out.1.1.below hb3, HX2.out.1.2.1.below hb3, HX2.out.1.2.2.trans (Keeps.of_below hb3)⟩, HB.out.1.below hb3⟩)
    have HNB := Lib.hid (show w0.heap.size ≤ nb from Nat.le_trans HX2.out.2 HB.out.2)
    have hT3 := HX3.out.1.2.1
    have hS3 := HX3.out.1.1.box
    clear hb3 HX2 hT2 hS2 HB
    go_wp2_with fail
    refine hK.out _ _ ⟨hT3, fun _ _ => hS3⟩ ?_
    clear hK K
    (try simp only [Act.put, List.getElem_toArray, List.getElem_cons_succ, List.getElem_cons_zero, List.setIfInBounds_toArray, List.set_cons_succ, List.set_cons_zero])
    refine wpTwo_takeT (i := 20) (v := .pointer (some ⟨z, 0, none⟩)) rfl (by kernel_rfl) (by kernel_rfl) (by kernel_rfl) (fun _ _ _ h => h) ⟨by rfl, ?_⟩ hT3 ?_
    · intro w _
      go_simp
    (try simp only [Act.put, List.getElem_toArray, List.getElem_cons_succ, List.getElem_cons_zero, List.setIfInBounds_toArray, List.set_cons_succ, List.set_cons_zero])
    refine wpTwo_takeT (i := 21) (v := .pointer (some ⟨z, 0, none⟩)) rfl (by kernel_rfl) (by kernel_rfl) (by kernel_rfl) (fun _ _ _ h => h) ⟨by rfl, ?_⟩ hT3 ?_
    · intro w _
      go_simp
    (try simp only [Act.put, List.getElem_toArray, List.getElem_cons_succ, List.getElem_cons_zero, List.setIfInBounds_toArray, List.set_cons_succ, List.set_cons_zero])
    refine wpTwo_takeT (i := 22) (v := .pointer (some ⟨z, 3, none⟩)) rfl (by kernel_rfl) (by kernel_rfl) (by kernel_rfl) (fun _ _ _ h => h) ⟨by rfl, ?_⟩ hT3 ?_
    · intro w _
      go_simp
    (try simp only [Act.put, List.getElem_toArray, List.getElem_cons_succ, List.getElem_cons_zero, List.setIfInBounds_toArray, List.set_cons_succ, List.set_cons_zero])
    obtain ⟨t0, t1, t2, t3, t4, t5, t6, t7, t8⟩ := hS3.cells
    have m3 := hS3.marks 3
    have m4 := hS3.marks 4
    have m5 := hS3.marks 5
    have m6 := hS3.marks 6
    have hk4 := VtBox.putGK X3 z g'.done g'.asked g'.on (.slice (some ⟨nb, 0, none⟩) n n)
    have HF := Lib.hid (show VtAt ((((X3.setCell ⟨z, 3, none⟩ (.int .i64 g'.done)).setCell ⟨z, 4, none⟩ (.int .i64 g'.asked)).setCell ⟨z, 5, none⟩ (.bool g'.on)).setCell ⟨z, 6, none⟩ (.slice (some ⟨nb, 0, none⟩) n n)) z B { r with g := g' } (.slice p1 n c1) (.slice p2 n c2) (.slice (some ⟨nb, 0, none⟩) n n) qb qc lv ls ∧ ABox ((((X3.setCell ⟨z, 3, none⟩ (.int .i64 g'.done)).setCell ⟨z, 4, none⟩ (.int .i64 g'.asked)).setCell ⟨z, 5, none⟩ (.bool g'.on)).setCell ⟨z, 6, none⟩ (.slice (some ⟨nb, 0, none⟩) n n)) zo k (i : Int) x ∧ Keeps (dS z qb lv) W ((((X3.setCell ⟨z, 3, none⟩ (.int .i64 g'.done)).setCell ⟨z, 4, none⟩ (.int .i64 g'.asked)).setCell ⟨z, 5, none⟩ (.bool g'.on)).setCell ⟨z, 6, none⟩ (.slice (some ⟨nb, 0, none⟩) n n)) from by
      have hz := HZ.out
      refine ⟨HX3.out.1.1.setG g' nb n HX3.out.2 HG.out.2.2.2.2.1.2.1 (fun h => ?_), hT3.keeps hk4 (by omega), HX3.out.1.2.2.trans (hk4.sub fun k _ e => .inl e)⟩
      have := HNB.out
      rcases h with h | h | h
      · omega
      · have := HVX.out.1; omega
      · have := HVX.out.2.1 nb h.symm; omega)
    have hT4 := hT3.keeps hk4 (by have := HZ.out; omega)
    refine wpTwo_ready (rs := [23]) (by kernel_rfl) (by simp) ?_
    refine (AllTwo.cons rfl (fun K hK => ?_) AllTwo.nil)
    go_simp
    refine hK.out _ _ ⟨hT4, fun h => absurd h (by decide)⟩ ?_
    clear hK K
    (try simp only [Act.put, List.getElem_toArray, List.getElem_cons_succ, List.getElem_cons_zero, List.setIfInBounds_toArray, List.set_cons_succ, List.set_cons_zero])
    refine wpTwo_end (by kernel_rfl) ?_ _
    clear t0 t1 t2 t3 t4 t5 t6 t7 t8 m3 m4 m5 m6 hT3 hS3 hT4 hk4 HX3
    go_wp2_with fail
    go_meet
    exact Lib.hid ⟨_, HF.out⟩
  case rest =>
    obtain ⟨nv', hv, ho, hk⟩ := hcut.out
    have HV1 := Lib.hid (show VtAt wc z B { r with g := g' } (.slice p1 n c1) (.slice p2 n c2) nv' qb qc lv ls ∧ ABox wc zo k (i : Int) x ∧ Keeps (dS z qb lv) W wc from ⟨hv, ho, hk⟩)
    obtain ⟨-, -, -, -, p3', c3', -, -, -, -, q3, -⟩ := hv.inn.sl
    obtain ⟨n3, hn3⟩ : ∃ n3, n3 = g'.nd.length := ⟨_, rfl⟩
    change nv' = .slice p3' g'.nd.length c3' at q3
    rw [← hn3] at q3
    subst q3
    obtain ⟨t0, t1, t2, t3, t4, t5, t6, t7, t8⟩ := hv.box.cells
    change wc.cell? ⟨z, 3, none⟩ = some (.int .i64 g'.done) at t3
    change wc.cell? ⟨z, 7, none⟩ = some (.slice (some ⟨qb, 0, none⟩) r.qs.length qc) at t7
    rw [← HG.out.2.2.2.2.2.2.2.1] at t7
    clear hv ho hk hcut hn3
    by_cases hd : g'.done = r.g.done
    · have hd' : (g'.done == r.g.done) = true := by rw [beq_iff_eq]; exact hd
      have HF := Lib.hid (show OpQ z B 0 (pickR r i) ls qb qc lv (.returned (.tuple #[])) W wc from by
        have e : pickR r i = { r with g := g' } := by unfold pickR; rw [← HG.out.2.2.1, ← HG.out.2.2.2.1, if_pos hd]
        rw [e]
        exact ⟨HV1.out.2.2, .inr ⟨rfl, rfl, _, _, _, _, HV1.out.1, fun _ hg => .inl hg⟩⟩)
      clear hd HV1
      go_wp2
      refine bodyPost_ret (results_none rfl _ _ _) rfl ?_
      exact HF.out
    · have hd' : (g'.done == r.g.done) = false := by rw [beq_eq_false_iff_ne]; exact hd
      have HD := Lib.hid (show g'.done = r.g.done + 1 ∧ pickR r i = { s := r.s, g := g', qs := endQs g'.done r.qs n } from by
        refine ⟨by have := HG.out.2.2.2.2.1.2.2; omega, ?_⟩
        unfold pickR endQs
        rw [← HG.out.2.2.1, ← HG.out.2.2.2.1, if_neg hd, HG.out.2.2.2.2.2.2.2.1, List.take_length, List.drop_length, List.append_nil])
      clear hd
      go_wp2
      clear t0 t1 t2 t3 t4 t5 t6 t7 t8
      go_loopw [50] (fun iv wr => ∃ j : Nat, j ≤ n ∧ iv = .int .i64 (j : Int) ∧ Hid (VtAt wr z B { s := r.s, g := g', qs := endQs g'.done r.qs j } (.slice p1 n c1) (.slice p2 n c2) (.slice p3' n3 c3') qb qc lv ls ∧ Keeps (dS z qb lv) W wr)) (fun iv _ => n - (intOf iv).toNat)
      case atStart => exact ⟨0, Nat.zero_le _, rfl, Lib.hid ⟨HV1.out.1, HV1.out.2.2⟩⟩
      case round =>
        clear HV1
        obtain ⟨j, hj, rfl, HI⟩ := hrel
        by_cases hlt : j < n
        · have hjl : j < r.qs.length := by have := HG.out.2.2.2.2.2.2.2.1; omega
          have hjl' : j < (endQs g'.done r.qs j).length := by rw [endQs_len]; exact hjl
          obtain ⟨qv, hc0, hc1, hcb⟩ := HI.out.1.row.cell j hjl'
          change wr.cell? ⟨qb, j * 2 + 1, none⟩ = some (.int .u64 (endQs g'.done r.qs j)[j].1) at hc1
          change U.CbOut (vS B qb lv) wr qv (endQs g'.done r.qs j)[j].2 at hcb
          rw [endQs_at _ _ _ hjl] at hc1 hcb
          obtain ⟨hq1, hq2⟩ := HG.out.2.2.2.2.2.2.2.2 _ (List.getElem_mem hjl)
          obtain ⟨l, hl⟩ : ∃ l, l = r.qs[j].2 := ⟨_, rfl⟩
          rw [← hl] at hq1 hcb
          rw [hq2] at hq1 hc1
          have HL := Lib.hid (show U.mayB r.g.done l = true ∧ l = r.qs[j].2 from ⟨hq1, hl⟩)
          obtain ⟨lp, lc, rfl, -⟩ := id hcb
          obtain ⟨m, hmm⟩ : ∃ m, m = l.length := ⟨_, rfl⟩
          rw [← hmm] at hc0 hcb
          have hbl := World.block_lt_of_cell? wr _ hc0
          obtain ⟨z6, hz6⟩ : ∃ x, x = wr.heap.size := ⟨_, rfl⟩
          obtain ⟨w1, hw1⟩ : ∃ X : World, X = wr.alloc (.cells #[.slice lp m lc, .int .u64 r.g.done] 66) := ⟨_, rfl⟩
          have hb1 : Below wr.heap.size wr w1 := by rw [hw1]; exact below1 _ _
          have hq6 : U.QBox w1 z6 (.slice lp m lc) r.g.done := by rw [hw1, hz6]; exact U.QBox.new _ _ _
          have HX1 := Lib.hid (show VtAt w1 z B { s := r.s, g := g', qs := endQs g'.done r.qs j } (.slice p1 n c1) (.slice p2 n c2) (.slice p3' n3 c3') qb qc lv ls ∧ Keeps (dS z qb lv) W w1 ∧ U.QBox w1 z6 (.slice lp m lc) r.g.done ∧ U.CbOut (vS B qb lv) w1 (.slice lp m lc) l ∧ qb < z6 ∧ (∀ g, lv.ownBlock = some g → g < z6) ∧ z6 < w1.heap.size from ⟨HI.out.1.below hb1, HI.out.2.trans (Keeps.of_below hb1), hq6, hcb.below hb1, by rw [hz6]; exact HI.out.1.row.lt, fun g hg => by rw [hz6]; exact (HI.out.1.lB hg).2, hq6.lt⟩)
          have HM := Lib.hid hmm
          have HW1 := Lib.hid (And.intro hw1 hz6)
          have hj0 : (0 : Int) ≤ (j : Int) := by omega
          have hlt' : (j : Int) < (n : Int) := by omega
          clear hq1 hq2 hl hmm hcb hw1 hz6 hb1 hq6 HI
          go_upto_region 7 with fail
          rw [← HW1.out.1, ← HW1.out.2]
          clear HW1 hc0 hc1 hbl
          have HBN := Lib.hid (fun (w : World) (h : VtAt w z B { s := r.s, g := g', qs := endQs g'.done r.qs j } (.slice p1 n c1) (.slice p2 n c2) (.slice p3' n3 c3') qb qc lv ls) => (show VtBox w z r.s.now (.slice p1 n c1) (.slice p2 n c2) g'.done g'.asked g'.on (.slice p3' n3 c3') (.slice (some ⟨qb, 0, none⟩) n qc) lv from by
            have := h.box
            rw [show (endQs g'.done r.qs j).length = n by rw [endQs_len]; exact HG.out.2.2.2.2.2.2.2.1.symm] at this
            exact this))
          refine wpTwo_begin (T := fun w' => VtBox w' z r.s.now (.slice p1 n c1) (.slice p2 n c2) g'.done g'.asked g'.on (.slice p3' n3 c3') (.slice (some ⟨qb, 0, none⟩) n qc) lv ∧ U.QBox w' z6 (.slice lp m lc) r.g.done) (S := fun _ => True) (late := fun _ => false) (by kernel_rfl) ?_
          obtain ⟨X, hX⟩ : ∃ Y : World, Y = w1.drew := ⟨_, rfl⟩
          rw [← hX]
          have hbx : Below w1.heap.size w1 X := by rw [hX]; exact (Below.refl _ _).drew
          clear hX
          have HX := Lib.hid (show (VtAt X z B { s := r.s, g := g', qs := endQs g'.done r.qs j } (.slice p1 n c1) (.slice p2 n c2) (.slice p3' n3 c3') qb qc lv ls ∧ Keeps (dS z qb lv) W X ∧ U.QBox X z6 (.slice lp m lc) r.g.done) ∧ U.CbOut (vS B qb lv) X (.slice lp m lc) l ∧ qb < z6 ∧ (∀ g, lv.ownBlock = some g → g < z6) ∧ z6 < X.heap.size from ⟨⟨HX1.out.1.below hbx, HX1.out.2.1.trans (Keeps.of_below hbx), HX1.out.2.2.1.below hbx⟩, HX1.out.2.2.2.1.below hbx, HX1.out.2.2.2.2.1, HX1.out.2.2.2.2.2.1, Nat.lt_of_lt_of_le HX1.out.2.2.2.2.2.2 hbx.size⟩)
          have hT0 : (fun w' => VtBox w' z r.s.now (.slice p1 n c1) (.slice p2 n c2) g'.done g'.asked g'.on (.slice p3' n3 c3') (.slice (some ⟨qb, 0, none⟩) n qc) lv ∧ U.QBox w' z6 (.slice lp m lc) r.g.done) X := ⟨HBN.out _ HX.out.1.1, HX.out.1.2.2⟩
          clear hbx HX1
          have hwu : IntKind.u64.wrap g'.done = g'.done := by have h1 := HR.out; have h2 := HD.out.1; simp [IntKind.wrap, IntKind.signed, IntKind.bits]; omega
          refine wpTwo_takeT (i := 0) (v := .pointer (some ⟨z, 0, none⟩)) rfl (by kernel_rfl) (by kernel_rfl) (by kernel_rfl) (fun _ _ _ h => h) ⟨by rfl, ?_⟩ hT0 ?_
          · intro w _
            go_simp
          (try simp only [Act.put, List.getElem_toArray, List.getElem_cons_zero, List.setIfInBounds_toArray, List.set_cons_succ, List.set_cons_zero])
          refine wpTwo_takeT (i := 1) (v := .pointer (some ⟨z, 0, none⟩)) rfl (by kernel_rfl) (by kernel_rfl) (by kernel_rfl) (fun _ _ _ h => h) ⟨by rfl, ?_⟩ hT0 ?_
          · intro w _
            go_simp
          (try simp only [Act.put, List.getElem_toArray, List.getElem_cons_succ, List.getElem_cons_zero, List.setIfInBounds_toArray, List.set_cons_succ, List.set_cons_zero])
          refine wpTwo_takeT (i := 2) (v := .pointer (some ⟨z, 0, none⟩)) rfl (by kernel_rfl) (by kernel_rfl) (by kernel_rfl) (fun _ _ _ h => h) ⟨by rfl, ?_⟩ hT0 ?_
          · intro w _
            go_simp
          (try simp only [Act.put, List.getElem_toArray, List.getElem_cons_succ, List.getElem_cons_zero, List.setIfInBounds_toArray, List.set_cons_succ, List.set_cons_zero])
          refine wpTwo_takeT (i := 3) (v := .pointer (some ⟨z, 7, none⟩)) rfl (by kernel_rfl) (by kernel_rfl) (by kernel_rfl) (fun _ _ _ h => h) ⟨by rfl, ?_⟩ hT0 ?_
          · intro w _
            go_simp
          (try simp only [Act.put, List.getElem_toArray, List.getElem_cons_succ, List.getElem_cons_zero, List.setIfInBounds_toArray, List.set_cons_succ, List.set_cons_zero])
          refine wpTwo_takeT (i := 4) (v := .slice (some ⟨qb, 0, none⟩) n qc) rfl (by kernel_rfl) (by kernel_rfl) (by kernel_rfl) (fun _ _ _ h => h) ⟨by rfl, ?_⟩ hT0 ?_
          · rintro w ⟨hT1, hT2⟩
            obtain ⟨t0, t1, t2, t3, t4, t5, t6, t7, t8⟩ := hT1.cells
            obtain ⟨s0, s1⟩ := hT2.cells
            go_simp
          (try simp only [Act.put, List.getElem_toArray, List.getElem_cons_succ, List.getElem_cons_zero, List.setIfInBounds_toArray, List.set_cons_succ, List.set_cons_zero])
          refine wpTwo_takeT (i := 5) (v := .int .i64 (j : Int)) rfl (by kernel_rfl) (by kernel_rfl) (by kernel_rfl) (fun _ _ _ h => h) ⟨by rfl, ?_⟩ hT0 ?_
          · intro w _
            go_simp
          (try simp only [Act.put, List.getElem_toArray, List.getElem_cons_succ, List.getElem_cons_zero, List.setIfInBounds_toArray, List.set_cons_succ, List.set_cons_zero])
          refine wpTwo_takeT (i := 6) (v := .agg #[.slice lp m lc, .int .u64 r.g.done]) rfl (by kernel_rfl) (by kernel_rfl) (by kernel_rfl) (fun _ _ _ h => h) ⟨by rfl, ?_⟩ hT0 ?_
          · rintro w ⟨hT1, hT2⟩
            obtain ⟨t0, t1, t2, t3, t4, t5, t6, t7, t8⟩ := hT1.cells
            obtain ⟨s0, s1⟩ := hT2.cells
            go_simp
          (try simp only [Act.put, List.getElem_toArray, List.getElem_cons_succ, List.getElem_cons_zero, List.setIfInBounds_toArray, List.set_cons_succ, List.set_cons_zero])
          refine wpTwo_takeT (i := 7) (v := .pointer (some ⟨z, 0, none⟩)) rfl (by kernel_rfl) (by kernel_rfl) (by kernel_rfl) (fun _ _ _ h => h) ⟨by rfl, ?_⟩ hT0 ?_
          · intro w _
            go_simp
          (try simp only [Act.put, List.getElem_toArray, List.getElem_cons_succ, List.getElem_cons_zero, List.setIfInBounds_toArray, List.set_cons_succ, List.set_cons_zero])
          refine wpTwo_takeT (i := 8) (v := .pointer (some ⟨z, 0, none⟩)) rfl (by kernel_rfl) (by kernel_rfl) (by kernel_rfl) (fun _ _ _ h => h) ⟨by rfl, ?_⟩ hT0 ?_
          · intro w _
            go_simp
          (try simp only [Act.put, List.getElem_toArray, List.getElem_cons_succ, List.getElem_cons_zero, List.setIfInBounds_toArray, List.set_cons_succ, List.set_cons_zero])
          refine wpTwo_takeT (i := 9) (v := .pointer (some ⟨z, 0, none⟩)) rfl (by kernel_rfl) (by kernel_rfl) (by kernel_rfl) (fun _ _ _ h => h) ⟨by rfl, ?_⟩ hT0 ?_
          · intro w _
            go_simp
          (try simp only [Act.put, List.getElem_toArray, List.getElem_cons_succ, List.getElem_cons_zero, List.setIfInBounds_toArray, List.set_cons_succ, List.set_cons_zero])
          refine wpTwo_takeT (i := 10) (v := .pointer (some ⟨z, 3, none⟩)) rfl (by kernel_rfl) (by kernel_rfl) (by kernel_rfl) (fun _ _ _ h => h) ⟨by rfl, ?_⟩ hT0 ?_
          · intro w _
            go_simp
          (try simp only [Act.put, List.getElem_toArray, List.getElem_cons_succ, List.getElem_cons_zero, List.setIfInBounds_toArray, List.set_cons_succ, List.set_cons_zero])
          refine wpTwo_takeT (i := 11) (v := .pointer (some ⟨z, 3, none⟩)) rfl (by kernel_rfl) (by kernel_rfl) (by kernel_rfl) (fun _ _ _ h => h) ⟨by rfl, ?_⟩ hT0 ?_
          · intro w _
            go_simp
          (try simp only [Act.put, List.getElem_toArray, List.getElem_cons_succ, List.getElem_cons_zero, List.setIfInBounds_toArray, List.set_cons_succ, List.set_cons_zero])
          refine wpTwo_takeT (i := 12) (v := .int .i64 g'.done) rfl (by kernel_rfl) (by kernel_rfl) (by kernel_rfl) (fun _ _ _ h => h) ⟨by rfl, ?_⟩ hT0 ?_
          · rintro w ⟨hT1, hT2⟩
            obtain ⟨t0, t1, t2, t3, t4, t5, t6, t7, t8⟩ := hT1.cells
            obtain ⟨s0, s1⟩ := hT2.cells
            go_simp
          (try simp only [Act.put, List.getElem_toArray, List.getElem_cons_succ, List.getElem_cons_zero, List.setIfInBounds_toArray, List.set_cons_succ, List.set_cons_zero])
          refine wpTwo_takeT (i := 13) (v := .int .u64 g'.done) rfl (by kernel_rfl) (by kernel_rfl) (by kernel_rfl) (fun _ _ _ h => h) ⟨by rfl, ?_⟩ hT0 ?_
          · intro w _
            go_simp
            (try rw [hwu])
          (try simp only [Act.put, List.getElem_toArray, List.getElem_cons_succ, List.getElem_cons_zero, List.setIfInBounds_toArray, List.set_cons_succ, List.set_cons_zero])
          have HC := Lib.hid (U.end_c (.slice lp m lc) r.g.done l g'.done X (HX.out.2.1.sub (fun _ h => False.elim h)) HR.out.1)
          refine wpTwo_ready (rs := [14]) (by kernel_rfl) (by simp) ?_
          refine (AllTwo.cons rfl (fun K hK => ?_) AllTwo.nil)
          go_simp
          (with_reducible refine HC.out.mono ?_)
          rintro e X1 ⟨hEQ, hb1⟩
          obtain ⟨v', rfl, ho⟩ : U.AnsQ X.heap.size 0 g'.done l e X1 := by
            rcases hEQ with ⟨-, h⟩ | ⟨h, -⟩
            · exact h
            · exact absurd (show U.endE r.g.done l g'.done = 0 by unfold U.endE; rw [if_pos HL.out.1, if_neg (by have := HD.out.1; have := HR.out; omega)]) h
          obtain ⟨p', c', rfl⟩ := owns_slice ho
          rw [← HM.out] at ho
          rw [← HM.out]
          have HX2 := Lib.hid (show (VtAt X1 z B { s := r.s, g := g', qs := endQs g'.done r.qs j } (.slice p1 n c1) (.slice p2 n c2) (.slice p3' n3 c3') qb qc lv ls ∧ Keeps (dS z qb lv) W X1 ∧ U.QBox X1 z6 (.slice lp m lc) r.g.done) ∧ U.CbOut (fun k => k < X.heap.size) X1 (.slice p' m c') l ∧ qb < X.heap.size ∧ (∀ g, lv.ownBlock = some g → g < X.heap.size) ∧ B ≤ X.heap.size from ⟨⟨HX.out.1.1.below hb1, HX.out.1.2.1.trans (Keeps.of_below hb1), HX.out.1.2.2.below hb1⟩, U.cb_of_owns ho, by have := HX.out.2; omega, fun g hg => by have := HX.out.2.2.2.1 g hg; have := HX.out.2.2.2.2; omega, HX.out.1.1.BW⟩)
          have hT1 : (fun w' => VtBox w' z r.s.now (.slice p1 n c1) (.slice p2 n c2) g'.done g'.asked g'.on (.slice p3' n3 c3') (.slice (some ⟨qb, 0, none⟩) n qc) lv ∧ U.QBox w' z6 (.slice lp m lc) r.g.done) X1 := ⟨HBN.out _ HX2.out.1.1, HX2.out.1.2.2⟩
          have HX9 := Lib.hid HX.out.2.2.1
          clear hEQ hb1 HC HX hT0 ho
          go_wp2_with fail
          refine hK.out _ _ ⟨hT1, fun _ _ => trivial⟩ ?_
          clear hK K
          (try simp only [Act.put, List.getElem_toArray, List.getElem_cons_succ, List.getElem_cons_zero, List.setIfInBounds_toArray, List.set_cons_succ, List.set_cons_zero])
          refine wpTwo_takeT (i := 15) (v := .agg #[.slice p' m c', .int .u64 g'.done]) rfl (by kernel_rfl) (by kernel_rfl) (by kernel_rfl) (fun _ _ _ h => h) ⟨by rfl, ?_⟩ hT1 ?_
          · intro w _
            go_simp
          (try simp only [Act.put, List.getElem_toArray, List.getElem_cons_succ, List.getElem_cons_zero, List.setIfInBounds_toArray, List.set_cons_succ, List.set_cons_zero])
          refine wpTwo_takeT (i := 16) (v := .int .i64 0) rfl (by kernel_rfl) (by kernel_rfl) (by kernel_rfl) (fun _ _ _ h => h) ⟨by rfl, ?_⟩ hT1 ?_
          · intro w _
            go_simp
          (try simp only [Act.put, List.getElem_toArray, List.getElem_cons_succ, List.getElem_cons_zero, List.setIfInBounds_toArray, List.set_cons_succ, List.set_cons_zero])
          refine wpTwo_ready (rs := [17]) (by kernel_rfl) (by simp) ?_
          refine (AllTwo.cons rfl (fun K hK => ?_) AllTwo.nil)
          go_simp
          (with_reducible refine (gotQ_ok p' m c' g'.done X1).mono ?_)
          rintro e X2 ⟨rfl, hb2⟩
          have HX3 := Lib.hid (show (VtAt X2 z B { s := r.s, g := g', qs := endQs g'.done r.qs j } (.slice p1 n c1) (.slice p2 n c2) (.slice p3' n3 c3') qb qc lv ls ∧ Keeps (dS z qb lv) W X2 ∧ U.QBox X2 z6 (.slice lp m lc) r.g.done) ∧ U.CbOut (fun k => k < X.heap.size) X2 (.slice p' m c') l ∧ qb < X.heap.size ∧ (∀ g, lv.ownBlock = some g → g < X.heap.size) ∧ B ≤ X.heap.size from ⟨⟨HX2.out.1.1.below hb2, HX2.out.1.2.1.trans (Keeps.of_below hb2), HX2.out.1.2.2.below hb2⟩, HX2.out.2.1.below hb2, HX2.out.2.2⟩)
          have hT2 : (fun w' => VtBox w' z r.s.now (.slice p1 n c1) (.slice p2 n c2) g'.done g'.asked g'.on (.slice p3' n3 c3') (.slice (some ⟨qb, 0, none⟩) n qc) lv ∧ U.QBox w' z6 (.slice lp m lc) r.g.done) X2 := ⟨HBN.out _ HX3.out.1.1, HX3.out.1.2.2⟩
          clear hb2 HX2 hT1
          go_wp2_with fail
          refine hK.out _ _ ⟨hT2, fun _ _ => trivial⟩ ?_
          clear hK K
          (try simp only [Act.put, List.getElem_toArray, List.getElem_cons_succ, List.getElem_cons_zero, List.setIfInBounds_toArray, List.set_cons_succ, List.set_cons_zero])
          refine wpTwo_takeT (i := 18) (v := .pointer (some ⟨qb, j * 2, none⟩)) rfl (by kernel_rfl) (by kernel_rfl) (by kernel_rfl) (fun _ _ _ h => h) ⟨by rfl, ?_⟩ hT2 ?_
          · intro w _
            go_simp
          (try simp only [Act.put, List.getElem_toArray, List.getElem_cons_succ, List.getElem_cons_zero, List.setIfInBounds_toArray, List.set_cons_succ, List.set_cons_zero])
          have mq0 := HX3.out.1.1.row.free (j * 2)
          have mq1 := HX3.out.1.1.row.free (j * 2 + 1)
          obtain ⟨cv, cq0, cq1, -⟩ := HX3.out.1.1.row.cell j hjl'
          have HN := Lib.hid (show VtAt ((X2.setCell ⟨qb, j * 2, none⟩ (.slice p' m c')).setCell ⟨qb, j * 2 + 1, none⟩ (.int .u64 g'.done)) z B { s := r.s, g := g', qs := endQs g'.done r.qs (j + 1) } (.slice p1 n c1) (.slice p2 n c2) (.slice p3' n3 c3') qb qc lv ls ∧ Keeps (dS z qb lv) W ((X2.setCell ⟨qb, j * 2, none⟩ (.slice p' m c')).setCell ⟨qb, j * 2 + 1, none⟩ (.int .u64 g'.done)) from by
            have := HX3.out.1.1.setQ j hjl' (.slice p' m c') g'.done l (HX3.out.2.1.sub (fun k hk => by
              rcases hk with h | h | h
              · have := HX3.out.2.2.2.2; omega
              · rw [h]; exact HX3.out.2.2.1
              · exact HX3.out.2.2.2.1 k h.symm))
            rw [HL.out.2] at this
            rw [show ({ s := r.s, g := g', qs := endQs g'.done r.qs j } : RcS).qs.set j (g'.done, r.qs[j].2) = endQs g'.done r.qs (j + 1) from endQs_next _ _ _ hjl] at this
            exact ⟨this, HX3.out.1.2.1.trans (((setK X2 qb (j * 2) _).trans (setK _ qb (j * 2 + 1) _)).sub fun k _ e => .inr (.inl e))⟩)
          have hT3 : (fun w' => VtBox w' z r.s.now (.slice p1 n c1) (.slice p2 n c2) g'.done g'.asked g'.on (.slice p3' n3 c3') (.slice (some ⟨qb, 0, none⟩) n qc) lv ∧ U.QBox w' z6 (.slice lp m lc) r.g.done) ((X2.setCell ⟨qb, j * 2, none⟩ (.slice p' m c')).setCell ⟨qb, j * 2 + 1, none⟩ (.int .u64 g'.done)) := by
            have hk := (setK X2 qb (j * 2) (.slice p' m c')).trans (setK _ qb (j * 2 + 1) (.int .u64 g'.done))
            have := HZ.out
            have := HX9.out
            exact ⟨hT2.1.keeps hk (by omega), hT2.2.keeps hk (by omega)⟩
          have HXF := Lib.hid (show True from trivial)
          refine wpTwo_ready (rs := [19]) (by kernel_rfl) (by simp) ?_
          refine (AllTwo.cons rfl (fun K hK => ?_) AllTwo.nil)
          go_simp
          refine hK.out _ _ ⟨hT3, fun _ _ => trivial⟩ ?_
          clear hK K
          (try simp only [Act.put, List.getElem_toArray, List.getElem_cons_succ, List.getElem_cons_zero, List.setIfInBounds_toArray, List.set_cons_succ, List.set_cons_zero])
          refine wpTwo_end (by kernel_rfl) ?_ _
          have hn8 := HR.out.2.2.1
          clear HXF mq0 mq1 cq0 cq1 hT2 hT3 HX3
          go_wp2
          go_roundw
          case rel => exact ⟨j + 1, by omega, by go_num, HN⟩
          case measure => simp [intOf]; omega
        · obtain rfl : j = n := by omega
          have HF := Lib.hid (show OpQ z B 0 (pickR r i) ls qb qc lv (.returned (.tuple #[])) W wr from by
            rw [HD.out.2]
            exact ⟨HI.out.2, .inr ⟨rfl, rfl, _, _, _, _, HI.out.1, fun _ hg => .inl hg⟩⟩)
          clear HI hlt hj
          go_wp2
          go_end0
          exact HF.out

end Go.Proofs.YtdllhiihmpinoaaGreat
/-
  Package rcu: a turn where a loop's own objects change; which callbacks go.
  Conditions: none.
-/
namespace Go.Proofs.YtdllhiihmpinoaaGreat
set_option maxRecDepth 100000
open Go.RowKit Go.Shelf
attribute [local go_sem] Oper.semAt_some

theorem cell_own {W Y : World} {row : Option Nat} {p : Addr} {v : Value} (h : W.cell? p = some v) (hg : W.grownBy Y row) (hr : ∀ r, row = some r → ∃ o : Obj, W.heap[r]? = some o ∧ o.isCells = false) : Y.cell? p = some v := by
  have hk : Y.heap[p.block]? = W.heap[p.block]? := hg.block _ (World.block_lt_of_cell? W _ h) (fun e => by
    obtain ⟨o, ho, hc⟩ := hr _ e.symm
    unfold World.cell? at h
    rw [ho] at h
    cases o <;> simp_all [Obj.isCells])
  rw [World.cell?_of_block hk]; exact h
theorem NumsOut.own {S : Nat → Prop} {W Y : World} {row : Option Nat} {v : Value} {xs : List Int} (h : NumsOut S W v xs) (hg : W.grownBy Y row) (hr : ∀ r, row = some r → ∃ o : Obj, W.heap[r]? = some o ∧ o.isCells = false) : NumsOut S Y v xs := by
  obtain ⟨⟨p, cap, rfl, hc⟩, hS⟩ := h
  refine ⟨⟨p, cap, rfl, fun hne => ?_⟩, hS⟩
  obtain ⟨b, off, rfl, hcs⟩ := hc hne
  exact ⟨b, off, rfl, fun i hi => cell_own (hcs i hi) hg hr⟩
theorem BoolsOut.own {S : Nat → Prop} {W Y : World} {row : Option Nat} {v : Value} {xs : List Bool} (h : BoolsOut S W v xs) (hg : W.grownBy Y row) (hr : ∀ r, row = some r → ∃ o : Obj, W.heap[r]? = some o ∧ o.isCells = false) : BoolsOut S Y v xs := by
  obtain ⟨⟨p, cap, rfl, hc⟩, hS⟩ := h
  refine ⟨⟨p, cap, rfl, fun hne => ?_⟩, hS⟩
  obtain ⟨b, off, rfl, hcs⟩ := hc hne
  exact ⟨b, off, rfl, fun i hi => cell_own (hcs i hi) hg hr⟩
theorem cb_own {S : Nat → Prop} {W Y : World} {row : Option Nat} {v : Value} {l : List (Int × Int)} (h : U.CbOut S W v l) (hg : W.grownBy Y row) (hr : ∀ r, row = some r → ∃ o : Obj, W.heap[r]? = some o ∧ o.isCells = false) : U.CbOut S Y v l := by
  obtain ⟨p, cap, rfl, h1, h2, hc⟩ := h
  refine ⟨p, cap, rfl, h1, h2, fun hne => ?_⟩
  obtain ⟨b, off, rfl, hS, hcs⟩ := hc hne
  exact ⟨b, off, rfl, hS, fun i hi => ⟨cell_own (hcs i hi).1 hg hr, cell_own (hcs i hi).2 hg hr⟩⟩
theorem QRow.own {S : Nat → Prop} {W Y : World} {row : Option Nat} {qb qc : Nat} {qs : List (Int × List (Int × Int))} (h : QRow S W qb qc qs) (hg : W.grownBy Y row) (hr : ∀ r, row = some r → ∃ o : Obj, W.heap[r]? = some o ∧ o.isCells = false) : QRow S Y qb qc qs := by
  obtain ⟨cur, h1, h2, h3⟩ := h
  refine ⟨cur, heap_own h1 hg hr, h2, fun i hi => ?_⟩
  obtain ⟨lv, g1, g2, g3⟩ := h3 i hi
  exact ⟨lv, g1, g2, cb_own g3 hg hr⟩
theorem row_own {B n s : Nat} {E : TypeId} {v : Value} {xs : List Value} {W Y : World} {row : Option Nat} (h : W.ownsRow B E s v n xs) (hg : W.grownBy Y row) (hr : ∀ r, row = some r → ∃ o : Obj, W.heap[r]? = some o ∧ o.isCells = false) : Y.ownsRow B E s v n xs :=
  (show Keeps (fun k => some k = row) W Y from ⟨hg.os, hg.tape, hg.output, hg.size, fun k hk hn => hg.block k hk hn⟩).row h (fun g hgv e => by
    obtain ⟨c, f, h1⟩ := Lib.ownsRow_kind h g hgv
    obtain ⟨o, ho, hc⟩ := hr g e.symm
    rw [h1] at ho; cases ho; cases hc)
theorem VtAt.own {W Y : World} {row : Option Nat} {z B : Nat} {r : RcS} {u v nv : Value} {qb qc : Nat} {lv : Value} {ls : List Int} (h : VtAt W z B r u v nv qb qc lv ls) (hg : W.grownBy Y row) (hr : ∀ r, row = some r → ∃ o : Obj, W.heap[r]? = some o ∧ o.isCells = false) : VtAt Y z B r u v nv qb qc lv ls :=
  ⟨heap_own h.box hg hr, h.nest.own hg hr, h.opened.own hg hr, h.needs.own hg hr, h.row.own hg hr, row_own h.run hg hr, h.zB, h.qB⟩
theorem keeps_own {S : Nat → Prop} {W X Y : World} {row : Option Nat} {zz : Nat} (h : Keeps S W X) (hg : X.grownBy Y row) (hz : W.heap.size ≤ zz) (hr : ∀ r, row = some r → zz ≤ r) : Keeps S W Y :=
  ⟨hg.os.trans h.os, hg.tape.trans h.tape, hg.output.trans h.output, Nat.le_trans h.size hg.size, fun k hk hn => (hg.block k (Nat.lt_of_lt_of_le hk h.size) (fun e => by have := hr k e.symm; omega)).trans (h.block k hk hn)⟩

/-- It behind so many callbacks of a CPU that were taken. -/
def dropR (r : RcS) (i k : Nat) : RcS := { r with qs := r.qs.set i ((qAt r i).1, (qAt r i).2.drop k) }
/-- What these were. -/
def told (r : RcS) (i : Nat) : List Int := U.whats (U.dones (qAt r i).1 (qAt r i).2)
theorem dropR_zero (r : RcS) (i : Nat) (hi : i < r.qs.length) : dropR r i 0 = r := by
  unfold dropR
  rw [qAt_lt hi, List.drop_zero]
  have : r.qs.set i (r.qs[i].1, r.qs[i].2) = r.qs := List.set_getElem_self hi
  rw [this]
theorem dropR_at (r : RcS) (i k : Nat) : (dropR r i k).qs.length = r.qs.length ∧ ∀ h : i < (dropR r i k).qs.length, (dropR r i k).qs[i] = ((qAt r i).1, (qAt r i).2.drop k) := by
  refine ⟨List.length_set .., fun h => ?_⟩
  unfold dropR
  exact List.getElem_set_self ..
theorem dropR_next (r : RcS) (i k j : Nat) : { dropR r i k with qs := (dropR r i k).qs.set i ((qAt r i).1, ((qAt r i).2.drop k).drop j) } = dropR r i (k + j) := by
  unfold dropR
  simp only [List.set_set, List.drop_drop]

end Go.Proofs.YtdllhiihmpinoaaGreat
namespace Go.Proofs.YtdllhiihmpinoaaGreat
open Go.RowKit

/-- The contract: between two rounds I0 holds; the iterator makes Iy of it ahead of each round; of what a loop keeps its own books in it leaves all that is no cell. -/
def SeqW {α : Type} (F : Fence) (n : Nat) (P : Program) (g : Nat) (lb : Array Value) (encs : α → Array Value) (I0 : List α → World → Prop) (Iy : List α → α → World → Prop) (S : List α → Prop) (w : World) : Prop :=
  ∀ (l zz : Nat) (E Ex : World → Prop) (W : World), w.heap.size ≤ zz → zz ≤ W.heap.size →
    (∀ A B, E A → KeepsFrom zz A B → E B) →
    (∀ pre x W1, Iy pre x W1 → E W1 → YieldAt F (n - 1) P l (encs x) W1 fun e W' =>
      (e = .returned (.bool true) ∧ I0 (pre ++ [x]) W' ∧ E W') ∨ (e = .returned (.bool false) ∧ Ex W')) →
    I0 [] W → E W →
    CallsIn F n P g (#[.func (.yield l) #[] #[]] ++ lb) W fun e W' => (∃ v, e = .returned v) ∧ ((∃ xs, S xs ∧ I0 xs W' ∧ E W') ∨ Ex W')

/-- THE LAW. -/
theorem wpIn_rangeW {α : Type} {F : Fence} {n : Nat} {P : Program} {w : World} {g : Operand} {ps : Array Tmp} {assign body : Code} {Q : Exit → Act → World → Prop} {a : Act}
    (hro : F.round = none) (h1 : 1 ≤ n) {gf : Nat} {lb : Array Value} (hg : a.eval g = .func (.func gf) #[] lb) (hFg : F.fn gf) (eg : ∀ args w, (callFunc gf args).run P w = .ok (.enter gf args) w)
    {encs : α → Array Value} {I0 : List α → World → Prop} {Iy : List α → α → World → Prop} {S : List α → Prop} {w0 : World} (hseq : SeqW F (n - 1) P gf lb encs I0 Iy S w0) (hw0 : w0.heap.size ≤ w.heap.size) (hps : ∀ x, (encs x).size = ps.size)
    (Ix : Code → List α → World → Prop) (hI : OwnFrom w.heap.size I0) (hIy : ∀ x, OwnFrom w.heap.size (fun pre W => Iy pre x W)) (hIx : ∀ c, OwnFrom w.heap.size (Ix c)) (h0 : I0 [] w) (Ax : α → Act → Prop)
    (hassign : ∀ (l : Nat) (x : α) (W : World) (K : Act → World → Prop), (∀ a', Ax x a' → K a' W) →
      assign.wpIn (F.inRound l) (n - 1 - 1) P (Exit.then K (fun _ _ _ => False)) { tmps := (ps.zip (encs x)).foldl (fun t (p, v) => t.setIfInBounds p v) a.tmps, defers := [] } W)
    (hbody : ∀ (l : Nat) (pre : List α) (x : α) (a' : Act) (W : World), w.heap.size ≤ l → (∃ r, W.heap[l]? = some (.loop r)) → Iy pre x W → Ax x a' → body.wpIn (F.inRound l) (n - 1 - 1) P (ownPostG w.heap.size (fun _ _ => True) I0 Ix (pre ++ [x]) W) a' W)
    (hdone : ∀ (D : Nat) (xs : List α) (W : World), w.heap.size ≤ D → S xs → I0 xs W → W.heap[D]? = some (.deferred (some [])) → Q .normal { a with defers := { target := .collected D, args := #[] } :: a.defers } W)
    (hstop : ∀ (D : Nat) (c : Code) (pre : List α) (W : World), w.heap.size ≤ D → Ix c pre W → W.heap[D]? = some (.deferred (some [])) → c.wpIn F n P Q { a with defers := { target := .collected D, args := #[] } :: a.defers } W) :
    (Code.rangeFunc g ps assign body).wpIn F n P Q a w := by
  refine wpIn_rangeFunc fun fn hfn => ?_
  rw [hro]
  generalize hz : w.heap.size = z at *
  obtain ⟨rec, hrec⟩ : ∃ rec : LoopState → Option Code → Loop, ∀ st pe, rec st pe = { state := st, pending := pe, fn, tmps := a.tmps, params := ps, assign, body, defers := z } := ⟨fun st pe => _, fun _ _ => rfl⟩
  obtain ⟨W1, hW1⟩ : ∃ W1, W1 = (w.alloc (.deferred (some []))).alloc (.loop (rec .ready none)) := ⟨_, rfl⟩
  have hz1 : W1.heap.size = z + 2 := by rw [hW1]; simp [hz]
  have hB1 : Books z (rec .ready none) W1 := by
    rw [hW1]
    constructor
    · have := World.alloc_heap_new (w.alloc (.deferred (some []))) (.loop (rec .ready none))
      rwa [World.size_alloc, hz] at this
    · rw [← hz]; exact (Below.heap_alloc _ _ _ (by simp)).trans (World.alloc_heap_new w _)
  have hI1 : I0 [] W1 := by rw [hW1]; exact hI.alloc _ (hI.alloc _ h0)
  refine ⟨z + 1, [{ target := .collected z, args := #[] }], W1, { target := .fn (.func gf) lb, args := #[.func (.yield (z + 1)) #[] #[]] }, W1, gf, #[.func (.yield (z + 1)) #[] #[]] ++ lb, W1, ?_, ?_, ?_, ?_, fun _ => h1, ?_⟩
  · have := run_enterLoop_outer (P := P) (w := w) fn a.tmps ps assign body
    rw [hW1, hrec, ← hz]; exact this
  · simp only [resolve, hg]
    simp [go_sem]
  · intro f' hf'; simp [Target.leads] at hf'; subst hf'; exact hFg
  · simp only [invoke, eg]
  · refine (hseq (z + 1) z (Books z (rec .ready none)) (fun W => ∃ pre c, Ix c pre W ∧ Books z (rec .done (some c)) W) W1 (by omega) (by omega) (fun A B hb hk => hb.from hk) ?_ hI1 hB1).mono ?_
    · rintro pre x W hi hb
      have hy := run_yield (P := P) (args := encs x) hb.1 (by rw [hrec]; exact hps x)
      rw [hrec] at hy
      refine ⟨fn, _, assign, body, hy, roundIn_of_wpIn hfn (hassign _ x W _ ?_)⟩
      clear hy
      intro a' hax
      refine ⟨_, run_beginRound hb.1 (by rw [hrec]), ?_⟩
      have hb2 : Books z (rec .busy none) (W.putObj (z + 1) (.loop (rec .busy none))) := hb.turn
      have hsame : ({ rec .ready none with state := .busy } : Loop) = rec .busy none := by rw [hrec, hrec]
      rw [hsame]
      refine wpIn_mono (hbody _ pre x a' _ (by omega) ⟨_, hb2.1⟩ ((hIy x).putObj _ hi (by omega) hb.1 rfl) hax) ?_
      have fin : ∀ (jump : Option Code) (W3 : World), KeepsFrom z (W.putObj (z + 1) (.loop (rec .busy none))) W3 →
          (Instr.endRound (z + 1) jump).run P W3 = .ok (.bool jump.isNone) (W3.putObj (z + 1) (.loop (rec (if jump.isNone then .ready else .done) jump))) ∧
          Books z (rec .busy none) W3 ∧ Books z (rec (if jump.isNone then .ready else .done) jump) (W3.putObj (z + 1) (.loop (rec (if jump.isNone then .ready else .done) jump))) := fun jump W3 hk3 => by
        have hb3 := hb2.from hk3
        have := run_endRound (P := P) jump hb3.1
        rw [hrec] at this
        rw [hrec]
        exact ⟨this, hb3, by rw [← hrec]; exact hb3.turn⟩
      rintro e a3 W3 hp
      cases e with
      | normal =>
        obtain ⟨hk3, -, hi3⟩ := hp
        obtain ⟨hr, hb3, hb4⟩ := fin none W3 hk3
        exact ⟨_, _, hr, .inl ⟨rfl, hI.putObj _ hi3 (by omega) hb3.1 rfl, hb4⟩⟩
      | ret =>
        obtain ⟨hk3, hi3⟩ := hp
        obtain ⟨hr, hb3, hb4⟩ := fin (some .ret) W3 hk3
        exact ⟨_, _, hr, .inr ⟨rfl, pre ++ [x], .ret, (hIx _).putObj _ hi3 (by omega) hb3.1 rfl, hb4⟩⟩
      | exit id =>
        obtain ⟨hk3, hi3⟩ := hp
        obtain ⟨hr, hb3, hb4⟩ := fin (some (.exit id)) W3 hk3
        exact ⟨_, _, hr, .inr ⟨rfl, pre ++ [x], .exit id, (hIx _).putObj _ hi3 (by omega) hb3.1 rfl, hb4⟩⟩
      | goto t =>
        obtain ⟨hk3, hi3⟩ := hp
        obtain ⟨hr, hb3, hb4⟩ := fin (some (.goto t)) W3 hk3
        exact ⟨_, _, hr, .inr ⟨rfl, pre ++ [x], .goto t, (hIx _).putObj _ hi3 (by omega) hb3.1 rfl, hb4⟩⟩
      | panic ch => exact hp.elim
      | outgrown => exact hp.elim
    · rintro e W2 ⟨⟨v, rfl⟩, (⟨xs, hS, hi, hb⟩ | ⟨pre, c, hi, hb⟩)⟩
      · refine ⟨none, _, by have := run_endLoop (P := P) hb.1 (by rw [hrec]; simp); rw [hrec] at this; exact this, ?_⟩
        exact hdone _ xs _ (by omega) hS (hI.putObj _ hi (by omega) hb.1 rfl) ((World.putObj_heap_other (by omega)).trans hb.2)
      · refine ⟨some c, _, by have := run_endLoop (P := P) hb.1 (by rw [hrec]; simp); rw [hrec] at this; exact this, ?_⟩
        exact hstop _ c pre _ (by omega) ((hIx c).putObj _ hi (by omega) hb.1 rfl) ((World.putObj_heap_other (by omega)).trans hb.2)
end Go.Proofs.YtdllhiihmpinoaaGreat
