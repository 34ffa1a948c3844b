/-
  own, of the statements of layer 7: a pool with the first 70 of its free pages, in memory of its own.
  Conditions: the pool is one that came in.
-/
import Derived.Test.YthjkaabbbhfjhaaPGive
namespace Go.Proofs.Ythjkaabbbhfjhaa
open Go.RowKit Go.Shelf
attribute [local go_sem] Oper.semAt_some

/-- A slice that came in: nil, or at an address. -/
def ArgR (W : World) (v : Value) (xs : List Value) : Prop := ∃ p n c, v = .slice p n c ∧ n = xs.length ∧ ((p = none ∧ n = 0 ∧ c = 0) ∨ ∃ a : Addr, p = some a ∧ n ≤ c ∧ ∀ j u, xs[j]? = some u → W.cell? (a.add j) = some u)
theorem ArgR.below {w w' : World} {v : Value} {xs : List Value} (h : ArgR w v xs) (hb : Below w.heap.size w w') : ArgR w' v xs := by
  obtain ⟨p, n, c, rfl, hn, h⟩ := h
  refine ⟨p, n, c, rfl, hn, ?_⟩
  rcases h with h | ⟨a, rfl, hc, hcs⟩
  · exact .inl h
  · exact .inr ⟨a, rfl, hc, fun j u hj => below_cell hb (hcs j u hj)⟩
theorem vals_cut {W : World} {p : Option Addr} {n c : Nat} {xs : List Value} (hn : n = xs.length) (h : (p = none ∧ n = 0 ∧ c = 0) ∨ ∃ a : Addr, p = some a ∧ n ≤ c ∧ ∀ j u, xs[j]? = some u → W.cell? (a.add j) = some u) :
    ValsAt W (.slice p (min n 70) c) 1 (min n 70) (xs.take 70) := by
  refine ⟨by rw [List.length_take, hn]; omega, p, c, rfl, ?_⟩
  rcases h with ⟨rfl, rfl, rfl⟩ | ⟨a, rfl, _, hcs⟩
  · exact .inl ⟨rfl, rfl, rfl⟩
  · refine .inr ⟨a, rfl, fun j u hj => hcs j u ?_⟩
    rw [List.getElem?_take] at hj
    split at hj
    · exact hj
    · cases hj
theorem run_cut70 (p : Option Addr) (n c k : Nat) (h : k ≤ c) (wx : World) :
    (Instr.slice 22 (.slice p n c) none (some (.int .i64 (k : Int))) none).run Try.prog wx = .ok (.slice p k c) wx := by
  rw [run_slice_h wx 22 p n c Try.underlying22 .i64 (k : Int) (by omega) (by omega)]
  have hE : (sizeOf (Try.prog.elem 22)).run Try.prog wx = .ok 1 wx := by go_simp
  rw [hE]
  have : Option.map (fun x : Addr => x.add 0) p = p := by cases p <;> simp [Addr.add_zero']
  simp [sliced, Result.andThen, this]

theorem results_cell1 {fn : Func} {a : Tmp} {t : TypeId} (h : fn.results = #[.cell a t]) (tmps : Array Value) (P : Program) (w : World) {p : Addr} {x : Value} (ha : tmps.getD a undef = .pointer (some p)) (hx : (loadVar t p).run P w = .ok x w) : (results fn tmps).run P w = .ok x w := by
  unfold results
  rw [h]
  simp only [Array.mapM_eq_foldlM, List.foldlM_toArray, List.foldlM_cons, List.foldlM_nil, ha, asAddr, run_fmap, Sem.run_bind, Sem.run_pure, Result.andThen_ok, hx]
  rfl
set_option maxRecDepth 100000 in
set_option maxHeartbeats 4000000 in
theorem own7_c (b pg : Int) (v : Value) (xs : List Int) (W : World) (h0 : ArgR W v (xs.map (Value.int .i64))) (hw : xs.length ≤ 9223372036854775807) :
    Calls Try.prog 8 #[.agg #[.int .i64 b, .int .i64 pg, v]] W fun e w' => (∃ p' c', e = .returned (.agg #[.int .i64 b, .int .i64 pg, .slice p' (xs.take 70).length c']) ∧ w'.ownsRow W.heap.size 3 1 (.slice p' (xs.take 70).length c') (xs.take 70).length ((xs.take 70).map (Value.int .i64))) ∧ Below W.heap.size W w' := by
  obtain ⟨p0, n0, c0, rfl, hn0, hp0⟩ := id h0
  rw [List.length_map] at hn0
  have hlk : (xs.take 70).length = min n0 70 := by simp [hn0]; omega
  rw [hlk]
  obtain ⟨k0, hk0⟩ : ∃ k, k = min n0 70 := ⟨_, rfl⟩
  have hk70 : k0 ≤ 70 := by omega
  have hcw : ∀ Z : World, Below W.heap.size W Z → Calls Try.prog 25 #[.slice p0 k0 c0] Z fun e w' => OwnsNew Z.heap.size 3 1 k0 ((xs.take 70).map (Value.int .i64)) e w' ∧ Below Z.heap.size Z w' := fun Z hb => by
    obtain ⟨p1, n1, c1, e, hn1, hp1⟩ := h0.below hb
    injection e with e1 e2 e3
    subst e1 e2 e3
    have h := cloneI _ _ _ Z (vals_cut hn1 hp1) (fun u hu => by obtain ⟨x, _, rfl⟩ := List.mem_map.1 (List.mem_of_mem_take hu); rfl) (by omega)
    rw [← List.map_take, ← hk0] at h
    exact h
  have HCW := Lib.hid hcw
  rw [← hk0]
  have hnc0 : n0 ≤ c0 := by rcases hp0 with ⟨_, b, c⟩ | ⟨_, _, b, _⟩ <;> omega
  have hs0 : ∀ wx, (Instr.slice 22 (.slice p0 n0 c0) none (some (.int .i64 (k0 : Int))) none).run Try.prog wx = .ok (.slice p0 k0 c0) wx := run_cut70 p0 n0 c0 k0 (by omega)
  have hm0 : ∀ wx, (Builtin.min_ #[3, 3] 3 #[.int .i64 (n0 : Int), .int .i64 70]).run Try.prog wx = .ok (.int .i64 (k0 : Int)) wx := fun wx => by
    have : (if (70 : Int) < (n0 : Int) then (70 : Int) else n0) = (k0 : Int) := by rw [hk0]; split <;> omega
    simp [Builtin.min_, Builtin.min2, this]
  have hw0 : n0 ≤ 9223372036854775807 := by omega
  obtain ⟨w0, hwo⟩ : ∃ X, X = wG W b pg (.slice p0 n0 c0) := ⟨_, rfl⟩
  have HG := Lib.hid (wG_facts W b pg (.slice p0 n0 c0))
  rw [← hwo] at HG
  unfold wG at hwo
  obtain ⟨d0, d1, d2⟩ := HG.out.1.cells
  clear hp0 hk0 hw hn0 hnc0 h0 hlk hcw
  go_enter Try.func8, Try.ntmps8
  go_wp2_with fail
  rw [← hwo]
  clear hwo
  refine (HCW.out _ HG.out.2.2.1).mono ?_
  rintro e w1 ⟨⟨v', rfl, ho⟩, hb1⟩
  obtain ⟨p', c', rfl⟩ := owns_slice ho
  have HP1 := Lib.hid (HG.out.1.below hb1)
  have HR1 := Lib.hid (HG.out.2.1.below hb1)
  have HB1 := Lib.hid (below_then HG.out.2.2.1 HG.out.2.2.1.size hb1)
  have HO1 := Lib.hid (ho.mono (Nat.le_of_eq HG.out.2.2.2.symm))
  clear ho hb1 d0 d1 d2 hs0 hm0 HCW
  obtain ⟨d0, d1, d2⟩ := HP1.out.cells
  have l2 := HP1.out.marks 2
  obtain ⟨w2, hw2⟩ : ∃ X : World, X = w1.setCell ⟨W.heap.size, 2, none⟩ (.slice p' k0 c') := ⟨_, rfl⟩
  have hk2 : Keeps (fun k => k = W.heap.size) w1 w2 := by rw [hw2]; exact Keeps.setCell w1 (S := (· = W.heap.size)) (p := ⟨W.heap.size, 2, none⟩) rfl _
  have HP2 := Lib.hid (show PBox w2 W.heap.size b pg (.slice p' k0 c') by rw [hw2]; unfold PBox; rw [heap_setCell_same w1 W.heap.size 2 _ _ _ HP1.out]; rfl)
  have HR2 := Lib.hid (HR1.out.keeps hk2 (by omega))
  have HB2 := Lib.hid (HB1.out.trans (hk2.below HB1.out.size (fun k e => by omega)))
  have HO2 := Lib.hid (hk2.row HO1.out (fun g hg e => by have := (HO1.out.lt g hg).1; omega))
  have HW2 := Lib.hid hw2
  clear hw2 hk2
  go_upto_region 2 with fail
  rw [← HW2.out]
  clear d0 d1 d2 l2 HP1 HR1 HB1 HO1 HW2
  obtain ⟨d0, d1, d2⟩ := HP2.out.cells
  obtain ⟨f0, f1, f2⟩ := HR2.out.cells
  have m0 := HR2.out.marks 0
  have m1 := HR2.out.marks 1
  have m2 := HR2.out.marks 2
  have HP := Lib.hid (HR2.out.put b pg (.slice p' k0 c'))
  have hK := PBox.putK w2 (W.heap.size + 1) b pg (.slice p' k0 c')
  obtain ⟨w3, hw3⟩ : ∃ X : World, X = (((w2.setCell ⟨W.heap.size + 1, 0, none⟩ (.int .i64 b)).setCell ⟨W.heap.size + 1, 1, none⟩ (.int .i64 pg)).setCell ⟨W.heap.size + 1, 2, none⟩ (.slice p' k0 c')) := ⟨_, rfl⟩
  rw [← hw3] at HP hK
  have HFIN := Lib.hid (show w3.ownsRow W.heap.size 3 1 (.slice p' k0 c') k0 ((xs.take 70).map (Value.int .i64)) ∧ Below W.heap.size W w3 from ⟨(hK.row HO2.out (fun g hg e => by have := (HO2.out.lt g hg).1; omega)).mono (by omega), HB2.out.trans (hK.below HB2.out.size (fun k e => by omega))⟩)
  have HW3 := Lib.hid hw3
  clear hw3 hK
  go_wp2
  rw [← HW3.out]
  exact bodyPost_ret (v := .agg #[.int .i64 b, .int .i64 pg, .slice p' k0 c']) (results_cell1 rfl _ _ _ rfl (pool_load HP.out)) rfl ⟨⟨p', c', rfl, HFIN.out.1⟩, HFIN.out.2⟩

end Go.Proofs.Ythjkaabbbhfjhaa
