/-
  own, of the statements of layer 14: an Rcu with the first of its CPUs, and of their callbacks, in memory of its own.
  Conditions: the Rcu is one that came in.
-/
import Derived.Test.YtdpkfahaojhkhaaGreatVA17
namespace Go.Proofs.YtdpkfahaojhkhaaGreat
set_option maxRecDepth 100000
open Go.RowKit Go.Shelf
attribute [local go_sem] Oper.semAt_some

theorem numsOut_owns {B : Nat} {W : World} {v : Value} {xs : List Int} (h : W.ownsRow B 3 1 v xs.length (xs.map (Value.int .i64))) : NumsOut (fun k => k < B) W v xs :=
  ⟨nums_of_owns rfl h, fun b off n c e hne hb => by
    subst e
    have := (h.lt b rfl).1
    omega⟩
theorem boolsOut_owns {B : Nat} {W : World} {v : Value} {xs : List Bool} (h : W.ownsRow B 4 1 v xs.length (xs.map Value.bool)) : BoolsOut (fun k => k < B) W v xs :=
  ⟨bools_of_owns rfl h, fun b off n c e hne hb => by
    subst e
    have := (h.lt b rfl).1
    omega⟩
theorem QOwn.out {S T : Nat → Prop} {B : Nat} {W : World} {v : Value} {qs : List (Int × List (Int × Int))} (h : QOwn S B W v qs) (hT : ∀ k, T k → S k) (hB : ∀ k, T k → k < B) : QsOut T W v qs := by
  by_cases hne : qs = []
  · subst hne
    obtain ⟨m, h1, -⟩ := h
    obtain ⟨p, c, e⟩ := owns_slice h1
    exact ⟨p, c, e, fun h => absurd rfl h⟩
  · obtain ⟨qb, qc, rfl, hb, hr⟩ := h.row hne
    exact hr.out hT (fun e => by have := hB _ e; omega)

theorem RcBox.putN {W : World} {z : Nat} {now : Int} {u : Value} {v : Value} {d : Int} {a : Int} {on : Bool} {nv0 : Value} {qv : Value} (h : RcBox W z now u v d a on nv0 qv) (nv : Value) : RcBox (W.setCell ⟨z, 6, none⟩ (nv)) z now u v d a on nv qv := by
  have h0 := heap_setCell_same W z 6 _ _ (nv) h
  unfold RcBox
  rw [h0]
  rfl

/-- Between two queues. -/
structure OwI (W : World) (B zr : Nat) (now d a : Int) (on : Bool) (s1 s2 s3 : Value) (ns os : List Int) (nd : List Bool) (qs : List (Int × List (Int × Int))) (i : Nat) (q : Value) (wr : World) : Prop where
  box : RcBox wr zr now s1 s2 d a on s3 q
  r1 : wr.ownsRow W.heap.size 3 1 s1 ns.length (ns.map (Value.int .i64))
  r2 : wr.ownsRow W.heap.size 3 1 s2 os.length (os.map (Value.int .i64))
  r3 : wr.ownsRow W.heap.size 4 1 s3 nd.length (nd.map Value.bool)
  l1 : ∀ g, s1.ownBlock = some g → g < B
  l2 : ∀ g, s2.ownBlock = some g → g < B
  l3 : ∀ g, s3.ownBlock = some g → g < B
  row : QOwn (hS B q) B wr q ((qs.take i).map cutQ)
  zB : zr < B
  zW : W.heap.size ≤ zr
  kp : Below W.heap.size W wr
  BW : B ≤ wr.heap.size
theorem OwI.below {W : World} {B zr : Nat} {now d a : Int} {on : Bool} {s1 s2 s3 : Value} {ns os : List Int} {nd : List Bool} {qs : List (Int × List (Int × Int))} {i : Nat} {q : Value} {wr w : World} (h : OwI W B zr now d a on s1 s2 s3 ns os nd qs i q wr) (hb : Below wr.heap.size wr w) : OwI W B zr now d a on s1 s2 s3 ns os nd qs i q w :=
  ⟨h.box.below hb, owns_below h.r1 hb, owns_below h.r2 hb, owns_below h.r3 hb, h.l1, h.l2, h.l3, h.row.below hb, h.zB, h.zW, below_then h.kp h.kp.size hb, Nat.le_trans h.BW hb.size⟩
theorem OwI.sl {W : World} {B zr : Nat} {now d a : Int} {on : Bool} {s1 s2 s3 : Value} {ns os : List Int} {nd : List Bool} {qs : List (Int × List (Int × Int))} {i : Nat} {q : Value} {wr : World} (h : OwI W B zr now d a on s1 s2 s3 ns os nd qs i q wr) (hi : i ≤ qs.length) : ∃ p c, q = .slice p i c := by
  obtain ⟨m, h1, -⟩ := h.row
  obtain ⟨p, c, e⟩ := owns_slice h1
  exact ⟨p, c, by rw [e, List.length_map, List.length_take]; congr 1; omega⟩
theorem OwI.next {W : World} {B zr : Nat} {now d a : Int} {on : Bool} {s1 s2 s3 : Value} {ns os : List Int} {nd : List Bool} {qs : List (Int × List (Int × Int))} {i : Nat} {q q' : Value} {wr w : World} (h : OwI W B zr now d a on s1 s2 s3 ns os nd qs i q wr) (hi : i < qs.length) (hk : Keeps (fun k => some k = q.ownBlock) wr w)
    (hrow : QOwn (hS B q') B w q' ((qs.take i).map cutQ ++ [cutQ qs[i]])) (hq' : q'.ownBlock = q.ownBlock ∨ q'.ownBlock = some wr.heap.size) : OwI W B zr now d a on s1 s2 s3 ns os nd qs (i + 1) q' (w.setCell ⟨zr, 7, none⟩ q') := by
  have hqB : ∀ k, some k = q.ownBlock → B ≤ k := fun k e => by
    obtain ⟨m, h1, -⟩ := h.row
    exact (h1.lt k e.symm).1
  have hkz := setK w zr 7 q'
  have h4 := h.zB
  have h5 := h.zW
  have h6 := h.BW
  have hb1 := h.box.keeps hk (fun e => by have := hqB _ e; omega)
  have hbl : Below W.heap.size W w := h.kp.trans (hk.below h.kp.size (fun k e => by have := hqB k e; omega))
  have key : ∀ {T : TypeId} {v : Value} {n : Nat} {xs : List Value}, T ≠ 30 → (∀ g, v.ownBlock = some g → g < B) → wr.ownsRow W.heap.size T 1 v n xs → (w.setCell ⟨zr, 7, none⟩ q').ownsRow W.heap.size T 1 v n xs := fun {T v n xs} hT hl hr => by
    have h1 := hk.row hr (fun g hg e => by have := hl g hg; have := hqB g e; omega)
    exact hkz.row h1 (fun g hg e => ne_rowT hb1 hT h1 g hg e)
  refine ⟨hb1.putQ q', key (by decide) h.l1 h.r1, key (by decide) h.l2 h.r2, key (by decide) h.l3 h.r3, h.l1, h.l2, h.l3, ?_, h.zB, h.zW, hbl.trans (hkz.below hbl.size (fun k e => by omega)), ?_⟩
  · rw [List.take_succ_eq_append_getElem hi, List.map_append]
    exact hrow.keeps hkz (fun k e => .inl (by omega)) (fun g hg e => by
      rcases hq' with h' | h'
      · rw [h'] at hg; have := hqB g hg.symm; omega
      · rw [h'] at hg; injection hg with hg; omega)
  · have := hk.size
    have := hkz.size
    omega
/-- What own answers. -/
def GivesRc (B : Nat) (r : RcS) (e : Ending) (w' : World) : Prop := ∃ p1 c1 p2 c2 p3 c3 p4 c4, e = .returned (.agg #[.int .i64 r.s.now, .slice p1 r.s.ns.length c1, .slice p2 r.s.os.length c2, .int .i64 r.g.done, .int .i64 r.g.asked, .bool r.g.on, .slice p3 r.g.nd.length c3, .slice p4 r.qs.length c4]) ∧ RcIn (fun k => k < B) w' (.slice p1 r.s.ns.length c1) (.slice p2 r.s.os.length c2) (.slice p3 r.g.nd.length c3) (.slice p4 r.qs.length c4) r

set_option maxHeartbeats 32000000 in
theorem own14_c (r : RcS) (u v nv qv : Value) (W : World) (hA : ArgRc W u v nv qv r) :
    Calls Tryz.prog 9 #[.agg #[.int .i64 r.s.now, u, v, .int .i64 r.g.done, .int .i64 r.g.asked, .bool r.g.on, nv, qv]] W fun e w' => GivesRc W.heap.size (ownRc r) e w' ∧ Below W.heap.size W w' := by
  obtain ⟨⟨now, ns, os⟩, ⟨d, a, on, nd⟩, qs⟩ := r
  obtain ⟨h1, h2, h3, h4, hl1, hl2, hl3, hl4⟩ := hA
  simp only at h1 h2 h3 h4 hl1 hl2 hl3 hl4
  obtain ⟨p1, n1, c1, rfl, hn1, hp1⟩ := id h1
  obtain ⟨p2, n2, c2, rfl, hn2, hp2⟩ := id h2
  obtain ⟨p3, n3, c3, rfl, hn3, hp3⟩ := id h3
  obtain ⟨p4, n4, c4, rfl, hn4, hnc4, hq4⟩ := id h4
  rw [List.length_map] at hn1 hn2 hn3
  obtain ⟨k1, hk1⟩ : ∃ k, k = min n1 9 := ⟨_, rfl⟩
  obtain ⟨k2, hk2⟩ : ∃ k, k = min n2 9 := ⟨_, rfl⟩
  obtain ⟨k3, hk3⟩ : ∃ k, k = min n3 9 := ⟨_, rfl⟩
  obtain ⟨k4, hk4⟩ : ∃ k, k = min n4 9 := ⟨_, rfl⟩
  have HLEN := Lib.hid (show (ns.take 9).length = k1 ∧ (os.take 9).length = k2 ∧ (nd.take 9).length = k3 ∧ (qs.take 9).length = k4 ∧ k4 ≤ 9 ∧ k4 ≤ qs.length by simp only [List.length_take]; omega)
  have hcw : ∀ (p : Option Addr) (n c : Nat) (zs : List Int) (k : Nat), k = min n 9 → n = zs.length → ArgR W (.slice p n c) (zs.map (Value.int .i64)) → ∀ Z : World, Below W.heap.size W Z → Calls Tryz.prog 30 #[.slice p k c] Z (ClQ 3 k ((zs.take 9).map (Value.int .i64)) Z) := fun p n c zs k hk hn h Z hb => by
    obtain ⟨p1, n1, c1, e, hn1, hp1⟩ := h.below hb
    injection e with e1 e2 e3
    subst e1 e2 e3
    have h := cloneI _ _ _ Z (vals_cut hn1 hp1) (fun u hu => by obtain ⟨x, _, rfl⟩ := List.mem_map.1 (List.mem_of_mem_take hu); rfl) (by omega)
    rw [← List.map_take, ← hk] at h
    refine h.mono ?_
    rintro e w' ⟨⟨v', rfl, ho⟩, hb⟩
    obtain ⟨p', c', rfl⟩ := owns_slice ho
    exact ⟨⟨p', c', rfl, ho⟩, hb⟩
  have HC1 := Lib.hid (hcw p1 n1 c1 ns k1 hk1 hn1 h1)
  have HC2 := Lib.hid (hcw p2 n2 c2 os k2 hk2 hn2 h2)
  have HC3 := Lib.hid (show ∀ Z : World, Below W.heap.size W Z → Calls Tryz.prog 31 #[.slice p3 k3 c3] Z (ClQ 4 k3 ((nd.take 9).map Value.bool) Z) from fun Z hb => by
    obtain ⟨q1, m1, e1, e, hn1, hp1⟩ := h3.below hb
    injection e with e1 e2 e3
    subst e1 e2 e3
    have h := cloneB _ _ _ Z (vals_cut hn1 hp1) (fun u hu => by obtain ⟨x, _, rfl⟩ := List.mem_map.1 (List.mem_of_mem_take hu); rfl) (by omega)
    rw [← List.map_take, ← hk3] at h
    refine h.mono ?_
    rintro e w' ⟨⟨v', rfl, ho⟩, hb⟩
    obtain ⟨p', c', rfl⟩ := owns_slice ho
    exact ⟨⟨p', c', rfl, ho⟩, hb⟩)
  have hnc1 : n1 ≤ c1 := by rcases hp1 with ⟨_, b, c⟩ | ⟨_, _, b, _⟩ <;> omega
  have hnc2 : n2 ≤ c2 := by rcases hp2 with ⟨_, b, c⟩ | ⟨_, _, b, _⟩ <;> omega
  have hnc3 : n3 ≤ c3 := by rcases hp3 with ⟨_, b, c⟩ | ⟨_, _, b, _⟩ <;> omega
  have HS := Lib.hid (And.intro (run_cut9 p1 n1 c1 k1 (by omega)) (And.intro (run_cut9 p2 n2 c2 k2 (by omega)) (And.intro (run_min9 n1 k1 hk1) (run_min9 n2 k2 hk2))))
  have HS3 := Lib.hid (And.intro (run_cutB9 p3 n3 c3 k3 (by omega)) (And.intro (run_cutQ9 p4 n4 c4 k4 (by omega)) (And.intro (run_min9 n3 k3 hk3) (run_min9 n4 k4 hk4))))
  have HQ4 := Lib.hid (show ∀ Z : World, Below W.heap.size W Z → ArgQs Z (.slice p4 n4 c4) qs from fun Z hb => h4.below hb)
  obtain ⟨wA, hwA⟩ : ∃ X : World, X = (W.alloc (.cells #[.int .i64 now, .slice p1 n1 c1, .slice p2 n2 c2, .int .i64 d, .int .i64 a, .bool on, .slice p3 n3 c3, .slice p4 n4 c4] 30)).alloc (.cells #[.int .i64 0, .slice none 0 0, .slice none 0 0, .int .i64 0, .int .i64 0, .bool false, .slice none 0 0, .slice none 0 0] 30) := ⟨_, rfl⟩
  obtain ⟨rb, hrb⟩ : ∃ b, b = W.heap.size := ⟨_, rfl⟩
  obtain ⟨ob, hob⟩ : ∃ b, b = W.heap.size + 1 := ⟨_, rfl⟩
  have HB := Lib.hid (show RcBox wA rb now (.slice p1 n1 c1) (.slice p2 n2 c2) d a on (.slice p3 n3 c3) (.slice p4 n4 c4) ∧ RcBox wA ob 0 (.slice none 0 0) (.slice none 0 0) 0 0 false (.slice none 0 0) (.slice none 0 0) ∧ Below W.heap.size W wA ∧ wA.heap.size = W.heap.size + 2 from ⟨by rw [hwA, hrb]; exact (RcBox.new W _ _ _ _ _ _ _ _).below (below1 _ _), by
      rw [hwA, hob]
      have := RcBox.new (W.alloc (.cells #[.int .i64 now, .slice p1 n1 c1, .slice p2 n2 c2, .int .i64 d, .int .i64 a, .bool on, .slice p3 n3 c3, .slice p4 n4 c4] 30)) 0 (.slice none 0 0) (.slice none 0 0) 0 0 false (.slice none 0 0) (.slice none 0 0)
      rwa [World.size_alloc] at this, by rw [hwA]; exact below2 _ _ _, by rw [hwA]; simp⟩)
  have hl3' : n3 ≤ 9223372036854775807 := by omega
  have hl4' : n4 ≤ 9223372036854775807 := by omega
  have HL34 := Lib.hid (And.intro hl3' hl4')
  have HW := Lib.hid (And.intro hwA (And.intro hrb hob))
  clear h1 h2 h3 h4 hl1 hl2 hl3 hl4 hp1 hp2 hp3 hq4 hn1 hn2 hn3 hn4 hcw hnc1 hnc2 hnc3 hnc4 hk1 hk2 hk3 hk4 hwA hrb hob hl3' hl4'
  go_enter Tryz.func9, Tryz.ntmps9
  go_upto_region 1 with fail
  rw [← HW.out.1, ← HW.out.2.2, ← HW.out.2.1]
  refine own_reg1 rb now d a on p1 n1 c1 k1 p2 n2 c2 k2 p3 n3 c3 p4 n4 c4 _ _ wA HB.out.1 (ns.take 9) (os.take 9) HS.out.1 HS.out.2.1 HS.out.2.2.1 HS.out.2.2.2 (fun Z hZ => HC1.out Z (below_then HB.out.2.2.1 HB.out.2.2.1.size hZ)) (fun Z hZ => HC2.out Z (below_then HB.out.2.2.1 HB.out.2.2.1.size hZ)) _ (by kernel_rfl) _ (fun c a i v w h => by cases i <;> exact h) ?_
  intro zr g1 e1 g2 e2 w1 hF
  have HF := Lib.hid hF
  have HB1 := Lib.hid (show RcBox w1 rb now (.slice p1 n1 c1) (.slice p2 n2 c2) d a on (.slice p3 n3 c3) (.slice p4 n4 c4) ∧ RcBox w1 ob 0 (.slice none 0 0) (.slice none 0 0) 0 0 false (.slice none 0 0) (.slice none 0 0) ∧ Below W.heap.size W w1 from ⟨HB.out.1.below hF.2.2.2.2, HB.out.2.1.below hF.2.2.2.2, below_then HB.out.2.2.1 HB.out.2.2.1.size hF.2.2.2.2⟩)
  obtain ⟨w2, hw2⟩ : ∃ X : World, X = (((w1.setCell ⟨zr, 3, none⟩ (.int .i64 d)).setCell ⟨zr, 4, none⟩ (.int .i64 a)).setCell ⟨zr, 5, none⟩ (.bool on)).setCell ⟨zr, 6, none⟩ (.slice p3 n3 c3) := ⟨_, rfl⟩
  have HNE := Lib.hid (show rb ≠ zr ∧ ob ≠ zr ∧ W.heap.size ≤ zr ∧ W.heap.size ≤ wA.heap.size ∧ ob < wA.heap.size from by
    have := hF.2.2.2.1
    have := HB.out.2.2.2
    have := HW.out.2
    omega)
  have HB2 := Lib.hid (show RcBox w2 zr now (.slice g1 k1 e1) (.slice g2 k2 e2) d a on (.slice p3 n3 c3) (.slice none 0 0) ∧ w2.ownsRow W.heap.size 3 1 (.slice g1 k1 e1) k1 ((ns.take 9).map (Value.int .i64)) ∧ w2.ownsRow W.heap.size 3 1 (.slice g2 k2 e2) k2 ((os.take 9).map (Value.int .i64)) ∧ RcBox w2 rb now (.slice p1 n1 c1) (.slice p2 n2 c2) d a on (.slice p3 n3 c3) (.slice p4 n4 c4) ∧ RcBox w2 ob 0 (.slice none 0 0) (.slice none 0 0) 0 0 false (.slice none 0 0) (.slice none 0 0) ∧ Below W.heap.size W w2 from by
    have hk : Keeps (fun k => k = zr) w1 w2 := by rw [hw2]; exact RcBox.putGK w1 zr _ _ _ _
    obtain ⟨f1, f2, f3, f4, f5⟩ := hF
    have := HNE.out
    refine ⟨by rw [hw2]; exact f1.putG _ _ _ _, (hk.row f2 (fun g hg e => ne_rowT f1 (by decide) f2 g hg e)).mono (by omega), (hk.row f3 (fun g hg e => ne_rowT f1 (by decide) f3 g hg e)).mono (by omega), HB1.out.1.keeps hk (by omega), HB1.out.2.1.keeps hk (by omega), HB1.out.2.2.trans (hk.below HB1.out.2.2.size (fun k e => by omega))⟩)
  have HC3' := Lib.hid (HC3.out w2 HB2.out.2.2.2.2.2)
  obtain ⟨hs3, hs4, hm3, hm4⟩ := HS3.out
  obtain ⟨hl3, hl4⟩ := HL34.out
  obtain ⟨d0, d1, d2, d3, d4, d5, d6, d7⟩ := HB1.out.1.cells
  obtain ⟨f0, f1, f2, f3, f4, f5, f6, f7⟩ := HF.out.1.cells
  have m3 := HF.out.1.marks 3
  have m4 := HF.out.1.marks 4
  have m5 := HF.out.1.marks 5
  have m6 := HF.out.1.marks 6
  obtain ⟨hne1, hne2, -⟩ := HNE.out
  have HW2 := Lib.hid hw2
  clear hF hw2 HB HC1 HC2 HC3 HS
  go_wp2_with fail
  rw [← HW2.out]
  (with_reducible refine HC3'.out.mono ?_)
  rintro e w3 ⟨⟨g3, e3, rfl, ho3⟩, hb3⟩
  clear d0 d1 d2 d3 d4 d5 d6 d7 f0 f1 f2 f3 f4 f5 f6 f7 m3 m4 m5 m6
  obtain ⟨w4, hw4⟩ : ∃ X : World, X = w3.setCell ⟨zr, 6, none⟩ (.slice g3 k3 e3) := ⟨_, rfl⟩
  have HX3 := Lib.hid (show RcBox w3 zr now (.slice g1 k1 e1) (.slice g2 k2 e2) d a on (.slice p3 n3 c3) (.slice none 0 0) ∧ RcBox w3 rb now (.slice p1 n1 c1) (.slice p2 n2 c2) d a on (.slice p3 n3 c3) (.slice p4 n4 c4) from ⟨HB2.out.1.below hb3, HB2.out.2.2.2.1.below hb3⟩)
  have HI4 := Lib.hid (show (RcBox w4 ob 0 (.slice none 0 0) (.slice none 0 0) 0 0 false (.slice none 0 0) (.slice none 0 0) ∧ RcBox w4 rb now (.slice p1 n1 c1) (.slice p2 n2 c2) d a on (.slice p3 n3 c3) (.slice p4 n4 c4)) ∧ OwI W w4.heap.size zr now d a on (.slice g1 k1 e1) (.slice g2 k2 e2) (.slice g3 k3 e3) (ns.take 9) (os.take 9) (nd.take 9) (qs.take 9) 0 (.slice none 0 0) w4 from by
    obtain ⟨f1, f2, f3, f4, f5, f6⟩ := HB2.out
    have hz := HNE.out
    have hk : Keeps (fun k => k = zr) w3 w4 := by rw [hw4]; exact setK w3 zr 6 _
    have x1 := f1.below hb3
    have x2 := owns_below f2 hb3
    have x3 := owns_below f3 hb3
    have x4 : w3.ownsRow W.heap.size 4 1 (.slice g3 k3 e3) k3 ((nd.take 9).map Value.bool) := ho3.mono (by have := f6.size; omega)
    have y2 := hk.row x2 (fun g hg e => ne_rowT x1 (by decide) x2 g hg e)
    have y3 := hk.row x3 (fun g hg e => ne_rowT x1 (by decide) x3 g hg e)
    have y4 := hk.row x4 (fun g hg e => ne_rowT x1 (by decide) x4 g hg e)
    have hb := below_then f6 f6.size hb3
    have hbx : RcBox w4 zr now (.slice g1 k1 e1) (.slice g2 k2 e2) d a on (.slice g3 k3 e3) (.slice none 0 0) := by
      rw [hw4]
      have := x1.putN (.slice g3 k3 e3)
      exact this
    refine ⟨⟨(f5.below hb3).keeps hk (by omega), (f4.below hb3).keeps hk (by omega)⟩, hbx, ?_, ?_, ?_, fun g hg => (y2.lt g hg).2, fun g hg => (y3.lt g hg).2, fun g hg => (y4.lt g hg).2, ?_, hbx.lt, by omega, hb.trans (hk.below hb.size (fun k e => by omega)), Nat.le_refl _⟩
    · rw [HLEN.out.1]; exact y2
    · rw [HLEN.out.2.1]; exact y3
    · rw [HLEN.out.2.2.1]; exact y4
    · rw [List.take_zero]; exact QOwn.nil _ _ _)
  obtain ⟨d0, d1, d2, d3, d4, d5, d6, d7⟩ := HX3.out.2.cells
  obtain ⟨f0, f1, f2, f3, f4, f5, f6, f7⟩ := HX3.out.1.cells
  have m6 := HX3.out.1.marks 6
  have HW4 := Lib.hid hw4
  have HOB := Lib.hid (show ob < w4.heap.size from HI4.out.1.1.lt)
  obtain ⟨B, hB⟩ : ∃ B, B = w4.heap.size := ⟨_, rfl⟩
  rw [← hB] at HI4 HOB
  clear ho3 hb3 hw4 HB2 HC3' HF HB1 HW2 hB
  go_upto_region 5 with fail
  rw [← HW4.out]
  clear HW4 d0 d1 d2 d3 d4 d5 d6 d7 f0 f1 f2 f3 f4 f5 f6 f7 m6 HX3
  go_loopw [54] (fun iv wr => ∃ i : Nat, i ≤ k4 ∧ iv = .int .i64 (i : Int) ∧ ∃ q, Hid (RcBox wr ob 0 (.slice none 0 0) (.slice none 0 0) 0 0 false (.slice none 0 0) (.slice none 0 0) ∧ OwI W B zr now d a on (.slice g1 k1 e1) (.slice g2 k2 e2) (.slice g3 k3 e3) (ns.take 9) (os.take 9) (nd.take 9) (qs.take 9) i q wr)) (fun iv _ => k4 - (intOf iv).toNat)
  case atStart => exact ⟨0, Nat.zero_le _, rfl, .slice none 0 0, Lib.hid ⟨HI4.out.1.1, HI4.out.2⟩⟩
  case round =>
    clear HI4
    obtain ⟨i, hi, rfl, q, HI⟩ := hrel
    by_cases hlt : i < k4
    · have hil : i < qs.length := by have := HLEN.out; omega
      obtain ⟨q4, m4', c4', e4', hq1, hq2, hq3⟩ := HQ4.out wr HI.out.2.kp
      obtain ⟨b, off, rfl, hcb⟩ := hq3 (by rintro rfl; simp at hil)
      injection e4' with ea eb ec
      subst ea eb ec
      obtain ⟨lv, hx, hy, hcl⟩ := hcb i hil
      obtain ⟨pq, cq, rfl⟩ := HI.out.2.sl (by have := HLEN.out; omega)
      obtain ⟨y, hye⟩ : ∃ y, y = qs[i].1 := ⟨_, rfl⟩
      obtain ⟨l, hle⟩ : ∃ l, l = qs[i].2 := ⟨_, rfl⟩
      have HYL := Lib.hid (show (qs.take 9)[i]'(by have := HLEN.out; omega) = (y, l) by rw [List.getElem_take, hye, hle])
      rw [← hye] at hy
      rw [← hle] at hcl
      obtain ⟨lp, lc, rfl, hlc, hlm, -⟩ := id hcl.1
      obtain ⟨ln, hln⟩ : ∃ k, k = l.length := ⟨_, rfl⟩
      rw [← hln] at hx hcl hlc
      obtain ⟨lk, hlk⟩ : ∃ k, k = min ln 18 := ⟨_, rfl⟩
      obtain ⟨z9, hz9⟩ : ∃ x, x = wr.heap.size := ⟨_, rfl⟩
      obtain ⟨wb, hwb⟩ : ∃ X : World, X = wr.alloc (.cells #[.slice lp ln lc, .int .u64 y] 66) := ⟨_, rfl⟩
      have hbb : Below wr.heap.size wr wb := by rw [hwb]; exact below1 _ _
      have hqx : U.QBox wb z9 (.slice lp ln lc) y := by rw [hwb, hz9]; exact U.QBox.new _ _ _
      have HBX := Lib.hid (show (RcBox wb ob 0 (.slice none 0 0) (.slice none 0 0) 0 0 false (.slice none 0 0) (.slice none 0 0) ∧ OwI W B zr now d a on (.slice g1 k1 e1) (.slice g2 k2 e2) (.slice g3 k3 e3) (ns.take 9) (os.take 9) (nd.take 9) (qs.take 9) i (.slice pq i cq) wb) ∧ U.QBox wb z9 (.slice lp ln lc) y ∧ ArgQ wb (.slice lp ln lc) l from ⟨⟨HI.out.1.below hbb, HI.out.2.below hbb⟩, hqx, hcl.below hbb⟩)
      have hcut := U.run_cutC lp ln lc lk (by omega) hlm
      have hmin := run_min18 ln lk hlk
      have HLK := Lib.hid (show lk ≤ 18 ∧ (l.take 18).length = lk ∧ lk = min ln 18 ∧ ln ≤ 9223372036854775807 from ⟨by omega, by rw [List.length_take]; omega, hlk, by omega⟩)
      have HZ9 := Lib.hid (show (∀ g, (Value.slice pq i cq).ownBlock = some g → g < z9) ∧ zr < z9 ∧ ob < B from ⟨fun g hg => by obtain ⟨m, h1, -⟩ := HI.out.2.row; rw [hz9]; exact (h1.lt g hg).2, by rw [hz9]; exact HI.out.2.box.lt, HOB.out⟩)
      have HWB := Lib.hid (And.intro hwb hz9)
      have hi0 : (0 : Int) ≤ (i : Int) := by omega
      have hlt' : (i : Int) < (k4 : Int) := by omega
      have hk4m : k4 ≤ 9223372036854775807 := by have := HLEN.out; omega
      clear hwb hz9 hbb hqx hcl HI hye hle hln hlk hlc hlm hq1 hq2 hq3 hcb
      go_upto_region 7 with fail
      rw [← HWB.out.1, ← HWB.out.2]
      clear HWB hx hy
      refine wpTwo_begin (T := fun w' => U.QBox w' z9 (.slice lp ln lc) y) (S := fun w' => RcBox w' zr now (.slice g1 k1 e1) (.slice g2 k2 e2) d a on (.slice g3 k3 e3) (.slice pq i cq)) (late := fun j => [16].contains j) (by kernel_rfl) ?_
      obtain ⟨X, hX⟩ : ∃ Y : World, Y = wb.drew := ⟨_, rfl⟩
      rw [← hX]
      have hbx : Below wb.heap.size wb X := by rw [hX]; exact (Below.refl _ _).drew
      clear hX
      have HX := Lib.hid (show (RcBox X ob 0 (.slice none 0 0) (.slice none 0 0) 0 0 false (.slice none 0 0) (.slice none 0 0) ∧ OwI W B zr now d a on (.slice g1 k1 e1) (.slice g2 k2 e2) (.slice g3 k3 e3) (ns.take 9) (os.take 9) (nd.take 9) (qs.take 9) i (.slice pq i cq) X) ∧ U.QBox X z9 (.slice lp ln lc) y ∧ ArgQ X (.slice lp ln lc) l from ⟨⟨HBX.out.1.1.below hbx, HBX.out.1.2.below hbx⟩, HBX.out.2.1.below hbx, HBX.out.2.2.below hbx⟩)
      have hT0 : RcBox X zr now (.slice g1 k1 e1) (.slice g2 k2 e2) d a on (.slice g3 k3 e3) (.slice pq i cq) ∧ U.QBox X z9 (.slice lp ln lc) y := ⟨HX.out.1.2.box, HX.out.2.1⟩
      have hlm9 : ln ≤ 9223372036854775807 := HLK.out.2.2.2
      clear hbx HBX
      refine wpTwo_takeT (i := 0) (v := .pointer (some ⟨zr, 7, none⟩)) rfl (by kernel_rfl) (by kernel_rfl) (by kernel_rfl) (fun _ _ _ h => h) ⟨by rfl, ?_⟩ hT0.2 ?_
      · intro w _
        go_simp
      (try simp only [Act.put, List.getElem_toArray, List.getElem_cons_zero, List.setIfInBounds_toArray, List.set_cons_succ, List.set_cons_zero])
      refine wpTwo_takeS (i := 1) (v := .slice pq i cq) (waits_all (by kernel_rfl)) rfl (by kernel_rfl) (by kernel_rfl) (by kernel_rfl) (fun _ _ _ h => h) ⟨by rfl, ?_⟩ ⟨hT0.2, hT0.1⟩ ?_
      · rintro w ⟨hT2, hT1⟩
        obtain ⟨t0, t1, t2, t3, t4, t5, t6, t7⟩ := hT1.cells
        go_simp
      (try simp only [Act.put, List.getElem_toArray, List.getElem_cons_succ, List.getElem_cons_zero, List.setIfInBounds_toArray, List.set_cons_succ, List.set_cons_zero])
      refine wpTwo_takeT (i := 2) (v := .pointer (some ⟨z9, 1, none⟩)) rfl (by kernel_rfl) (by kernel_rfl) (by kernel_rfl) (fun _ _ _ h => h) ⟨by rfl, ?_⟩ hT0.2 ?_
      · intro w _
        go_simp
      (try simp only [Act.put, List.getElem_toArray, List.getElem_cons_succ, List.getElem_cons_zero, List.setIfInBounds_toArray, List.set_cons_succ, List.set_cons_zero])
      refine wpTwo_takeT (i := 3) (v := .int .u64 y) rfl (by kernel_rfl) (by kernel_rfl) (by kernel_rfl) (fun _ _ _ h => h) ⟨by rfl, ?_⟩ hT0.2 ?_
      · rintro w hT2
        obtain ⟨s0, s1⟩ := hT2.cells
        go_simp
      (try simp only [Act.put, List.getElem_toArray, List.getElem_cons_succ, List.getElem_cons_zero, List.setIfInBounds_toArray, List.set_cons_succ, List.set_cons_zero])
      refine wpTwo_takeT (i := 4) (v := .pointer (some ⟨z9, 0, none⟩)) rfl (by kernel_rfl) (by kernel_rfl) (by kernel_rfl) (fun _ _ _ h => h) ⟨by rfl, ?_⟩ hT0.2 ?_
      · intro w _
        go_simp
      (try simp only [Act.put, List.getElem_toArray, List.getElem_cons_succ, List.getElem_cons_zero, List.setIfInBounds_toArray, List.set_cons_succ, List.set_cons_zero])
      refine wpTwo_takeT (i := 5) (v := .slice lp ln lc) rfl (by kernel_rfl) (by kernel_rfl) (by kernel_rfl) (fun _ _ _ h => h) ⟨by rfl, ?_⟩ hT0.2 ?_
      · rintro w hT2
        obtain ⟨s0, s1⟩ := hT2.cells
        go_simp
      (try simp only [Act.put, List.getElem_toArray, List.getElem_cons_succ, List.getElem_cons_zero, List.setIfInBounds_toArray, List.set_cons_succ, List.set_cons_zero])
      refine wpTwo_takeT (i := 6) (v := .pointer (some ⟨z9, 0, none⟩)) rfl (by kernel_rfl) (by kernel_rfl) (by kernel_rfl) (fun _ _ _ h => h) ⟨by rfl, ?_⟩ hT0.2 ?_
      · intro w _
        go_simp
      (try simp only [Act.put, List.getElem_toArray, List.getElem_cons_succ, List.getElem_cons_zero, List.setIfInBounds_toArray, List.set_cons_succ, List.set_cons_zero])
      refine wpTwo_takeT (i := 7) (v := .slice lp ln lc) rfl (by kernel_rfl) (by kernel_rfl) (by kernel_rfl) (fun _ _ _ h => h) ⟨by rfl, ?_⟩ hT0.2 ?_
      · rintro w hT2
        obtain ⟨s0, s1⟩ := hT2.cells
        go_simp
      (try simp only [Act.put, List.getElem_toArray, List.getElem_cons_succ, List.getElem_cons_zero, List.setIfInBounds_toArray, List.set_cons_succ, List.set_cons_zero])
      refine wpTwo_takeT (i := 8) (v := .int .i64 (ln : Int)) rfl (by kernel_rfl) (by kernel_rfl) (by kernel_rfl) (fun _ _ _ h => h) ⟨by rfl, ?_⟩ hT0.2 ?_
      · intro w _
        go_simp
      (try simp only [Act.put, List.getElem_toArray, List.getElem_cons_succ, List.getElem_cons_zero, List.setIfInBounds_toArray, List.set_cons_succ, List.set_cons_zero])
      refine wpTwo_takeT (i := 9) (v := .int .i64 (lk : Int)) rfl (by kernel_rfl) (by kernel_rfl) (by kernel_rfl) (fun _ _ _ h => h) ⟨by rfl, ?_⟩ hT0.2 ?_
      · intro w _
        go_simp
      (try simp only [Act.put, List.getElem_toArray, List.getElem_cons_succ, List.getElem_cons_zero, List.setIfInBounds_toArray, List.set_cons_succ, List.set_cons_zero])
      refine wpTwo_takeT (i := 10) (v := .slice lp lk lc) rfl (by kernel_rfl) (by kernel_rfl) (by kernel_rfl) (fun _ _ _ h => h) ⟨by rfl, ?_⟩ hT0.2 ?_
      · intro w _
        go_simp
      (try simp only [Act.put, List.getElem_toArray, List.getElem_cons_succ, List.getElem_cons_zero, List.setIfInBounds_toArray, List.set_cons_succ, List.set_cons_zero])
      have HC := Lib.hid (U.cloneC (.slice lp lk lc) lk (U.cvs (l.take 18)) X (vals_cb18 HX.out.2.2.1 (HX.out.2.2.2 _ _ _ rfl) lk HLK.out.2.2.1) (U.cvs_one _) (by have := HLK.out.1; omega))
      refine wpTwo_ready (rs := [11]) (by kernel_rfl) (by simp) ?_
      refine (AllTwo.cons rfl (fun K hK => ?_) AllTwo.nil)
      go_simp
      (with_reducible refine HC.out.mono ?_)
      rintro e X1 ⟨⟨v', rfl, ho⟩, hb1⟩
      obtain ⟨p', c', rfl⟩ := owns_slice ho
      have HX1 := Lib.hid (show (RcBox X1 ob 0 (.slice none 0 0) (.slice none 0 0) 0 0 false (.slice none 0 0) (.slice none 0 0) ∧ OwI W B zr now d a on (.slice g1 k1 e1) (.slice g2 k2 e2) (.slice g3 k3 e3) (ns.take 9) (os.take 9) (nd.take 9) (qs.take 9) i (.slice pq i cq) X1) ∧ U.QBox X1 z9 (.slice lp ln lc) y ∧ U.CbOut (fun k => k < X.heap.size) X1 (.slice p' lk c') (l.take 18) ∧ (∀ g, (Value.slice pq i cq).ownBlock = some g → g < X.heap.size) ∧ B ≤ X.heap.size from ⟨⟨HX.out.1.1.below hb1, HX.out.1.2.below hb1⟩, HX.out.2.1.below hb1, by have ho' := ho; rw [← HLK.out.2.1] at ho' ⊢; exact U.cb_of_owns ho', (fun g hg => by obtain ⟨m, h1, -⟩ := HX.out.1.2.row; exact (h1.lt g hg).2), HX.out.1.2.BW⟩)
      have hT1 : RcBox X1 zr now (.slice g1 k1 e1) (.slice g2 k2 e2) d a on (.slice g3 k3 e3) (.slice pq i cq) ∧ U.QBox X1 z9 (.slice lp ln lc) y := ⟨HX1.out.1.2.box, HX1.out.2.1⟩
      clear hb1 ho HC HX hT0
      go_wp2_with fail
      refine hK.out _ _ ⟨hT1.2, fun _ _ => hT1.1⟩ ?_
      clear hK K
      (try simp only [Act.put, List.getElem_toArray, List.getElem_cons_succ, List.getElem_cons_zero, List.setIfInBounds_toArray, List.set_cons_succ, List.set_cons_zero])
      refine wpTwo_takeT (i := 12) (v := .agg #[.slice p' lk c', .int .u64 y]) rfl (by kernel_rfl) (by kernel_rfl) (by kernel_rfl) (fun _ _ _ h => h) ⟨by rfl, ?_⟩ hT1.2 ?_
      · intro w _
        go_simp
      (try simp only [Act.put, List.getElem_toArray, List.getElem_cons_succ, List.getElem_cons_zero, List.setIfInBounds_toArray, List.set_cons_succ, List.set_cons_zero])
      refine wpTwo_ready (rs := [13]) (by kernel_rfl) (by simp) ?_
      refine (AllTwo.cons rfl (fun K hK => ?_) AllTwo.nil)
      go_simp
      obtain ⟨zb, hzb⟩ : ∃ x, x = X1.heap.size := ⟨_, rfl⟩
      obtain ⟨X3, hX3⟩ : ∃ V : World, V = X1.alloc (.cells #[.slice p' lk c', .int .u64 y] 66) := ⟨_, rfl⟩
      rw [← hX3, ← hzb]
      have hb3 : Below X1.heap.size X1 X3 := by rw [hX3]; exact below1 _ _
      have hq3 : U.QBox X3 zb (.slice p' lk c') y := by rw [hX3, hzb]; exact U.QBox.new _ _ _
      have HX3 := Lib.hid (show (RcBox X3 ob 0 (.slice none 0 0) (.slice none 0 0) 0 0 false (.slice none 0 0) (.slice none 0 0) ∧ OwI W B zr now d a on (.slice g1 k1 e1) (.slice g2 k2 e2) (.slice g3 k3 e3) (ns.take 9) (os.take 9) (nd.take 9) (qs.take 9) i (.slice pq i cq) X3) ∧ U.QBox X3 z9 (.slice lp ln lc) y ∧ U.CbOut (fun k => k < X.heap.size) X3 (.slice p' lk c') (l.take 18) ∧ (∀ g, (Value.slice pq i cq).ownBlock = some g → g < X.heap.size) ∧ B ≤ X.heap.size from ⟨⟨HX1.out.1.1.below hb3, HX1.out.1.2.below hb3⟩, HX1.out.2.1.below hb3, HX1.out.2.2.1.below hb3, HX1.out.2.2.2.1, HX1.out.2.2.2.2⟩)
      obtain ⟨a0, a1⟩ := hq3.cells
      have hlen : (((qs.take 9).take i).map cutQ).length = i := by rw [List.length_map, List.length_take]; have := HLEN.out; omega
      have happ := run_app_q (hS B (.slice pq i cq)) B (.slice pq i cq) (((qs.take 9).take i).map cutQ) X3 HX3.out.1.2.row zb 1 (.slice p' lk c') y (l.take 18) a0 a1 (HX3.out.2.2.1.sub (fun k hk => by rcases hk with h | h; have := HX3.out.2.2.2.2; omega; exact HX3.out.2.2.2.1 k h.symm)) (by rw [hlen]; have := HLEN.out; omega) HX3.out.1.2.BW (fun k h => .inr h)
      rw [hlen] at happ
      obtain ⟨pq', cq', X4, hr, hown, hk4, hob⟩ := happ
      have HN := Lib.hid (show RcBox (X4.setCell ⟨zr, 7, none⟩ (.slice pq' (i + 1) cq')) ob 0 (.slice none 0 0) (.slice none 0 0) 0 0 false (.slice none 0 0) (.slice none 0 0) ∧ OwI W B zr now d a on (.slice g1 k1 e1) (.slice g2 k2 e2) (.slice g3 k3 e3) (ns.take 9) (os.take 9) (nd.take 9) (qs.take 9) (i + 1) (.slice pq' (i + 1) cq') (X4.setCell ⟨zr, 7, none⟩ (.slice pq' (i + 1) cq')) from by
        refine ⟨(HX3.out.1.1.keeps hk4 (fun e => ?_)).keeps (setK X4 zr 7 _) (by have := HNE.out; omega), HX3.out.1.2.next (by have := HLEN.out; omega) hk4 ?_ hob⟩
        · obtain ⟨m, h1, -⟩ := HX3.out.1.2.row
          have := (h1.lt ob e.symm).1
          have := HOB.out
          omega
        · rw [HYL.out]
          refine hown _ (fun k hk => ?_)
          rcases hk with h | h
          · exact .inl (.inl h)
          · rcases hob with e | e
            · exact .inl (.inr (h.trans e))
            · rw [e] at h; injection h with h; exact .inr (by omega))
      have hV4 : RcBox X4 zr now (.slice g1 k1 e1) (.slice g2 k2 e2) d a on (.slice g3 k3 e3) (.slice pq i cq) ∧ U.QBox X4 z9 (.slice lp ln lc) y := ⟨HX3.out.1.2.box.keeps hk4 (fun e => by obtain ⟨m, h1, -⟩ := HX3.out.1.2.row; have := (h1.lt zr e.symm).1; have := HX3.out.1.2.zB; omega), HX3.out.2.1.keeps hk4 (fun e => by have := HZ9.out.1 z9 e.symm; omega)⟩
      have hV3 := And.intro HX3.out.1.2.box HX3.out.2.1
      clear hX3 hb3 hq3 hown hk4 hob HX1 hT1 hlen
      refine hK.out _ _ ⟨hV3.2, fun _ _ => hV3.1⟩ ?_
      clear hK K
      (try simp only [Act.put, List.getElem_toArray, List.getElem_cons_succ, List.getElem_cons_zero, List.setIfInBounds_toArray, List.set_cons_succ, List.set_cons_zero])
      refine wpTwo_ready (rs := [14]) (by kernel_rfl) (by simp) ?_
      refine (AllTwo.cons rfl (fun K hK => ?_) AllTwo.nil)
      refine two_app 28 (.tmp 59) (.tmp 71) _ _ _ hr rfl rfl rfl rfl rfl ?_
      refine hK _ _ ⟨hV4.2, fun _ _ => hV4.1⟩ ?_
      clear hK K hr a0 a1
      (try simp only [Act.put, List.getElem_toArray, List.getElem_cons_succ, List.getElem_cons_zero, List.setIfInBounds_toArray, List.set_cons_succ, List.set_cons_zero])
      refine wpTwo_takeT (i := 15) (v := .pointer (some ⟨zr, 7, none⟩)) rfl (by kernel_rfl) (by kernel_rfl) (by kernel_rfl) (fun _ _ _ h => h) ⟨by rfl, ?_⟩ hV4.2 ?_
      · intro w _
        go_simp
      (try simp only [Act.put, List.getElem_toArray, List.getElem_cons_succ, List.getElem_cons_zero, List.setIfInBounds_toArray, List.set_cons_succ, List.set_cons_zero])
      obtain ⟨e0, e1', e2', e3', e4, e5, e6, e7⟩ := hV4.1.cells
      have m7 := hV4.1.marks 7
      refine wpTwo_ready (rs := [16]) (by kernel_rfl) (by simp) ?_
      refine (AllTwo.cons rfl (fun K hK => ?_) AllTwo.nil)
      go_simp
      refine hK.out _ _ ⟨hV4.2.keeps (setK X4 zr 7 _) (by have := HZ9.out.2.1; omega), fun h => absurd h (by decide)⟩ ?_
      clear hK K
      (try simp only [Act.put, List.getElem_toArray, List.getElem_cons_succ, List.getElem_cons_zero, List.setIfInBounds_toArray, List.set_cons_succ, List.set_cons_zero])
      refine wpTwo_end (by kernel_rfl) ?_ _
      clear hV3 hV4 e0 e1' e2' e3' e4 e5 e6 e7 m7 HX3
      have hn8 : k4 ≤ 9 := HLEN.out.2.2.2.2.1
      go_wp2
      go_roundw
      case rel => exact ⟨i + 1, by omega, by go_num, _, HN⟩
      case measure => simp [intOf]; omega
    · obtain rfl : i = k4 := by omega
      have hbx := HI.out.2.box
      obtain ⟨pq, cq, rfl⟩ := HI.out.2.sl (by have := HLEN.out; omega)
      obtain ⟨d0, d1, d2, d3, d4, d5, d6, d7⟩ := hbx.cells
      obtain ⟨f0, f1, f2, f3, f4, f5, f6, f7⟩ := HI.out.1.cells
      have v0 := HI.out.1.marks 0
      have v1 := HI.out.1.marks 1
      have v2 := HI.out.1.marks 2
      have v3 := HI.out.1.marks 3
      have v4 := HI.out.1.marks 4
      have v5 := HI.out.1.marks 5
      have v6 := HI.out.1.marks 6
      have v7 := HI.out.1.marks 7
      obtain ⟨wz, hwz⟩ : ∃ X : World, X = (((((((wr.setCell ⟨ob, 0, none⟩ (.int .i64 now)).setCell ⟨ob, 1, none⟩ (.slice g1 k1 e1)).setCell ⟨ob, 2, none⟩ (.slice g2 k2 e2)).setCell ⟨ob, 3, none⟩ (.int .i64 d)).setCell ⟨ob, 4, none⟩ (.int .i64 a)).setCell ⟨ob, 5, none⟩ (.bool on)).setCell ⟨ob, 6, none⟩ (.slice g3 k3 e3)).setCell ⟨ob, 7, none⟩ (.slice pq i cq) := ⟨_, rfl⟩
      have HZ := Lib.hid (show RcBox wz ob now (.slice g1 k1 e1) (.slice g2 k2 e2) d a on (.slice g3 k3 e3) (.slice pq i cq) ∧ RcIn (fun k => k < W.heap.size) wz (.slice g1 k1 e1) (.slice g2 k2 e2) (.slice g3 k3 e3) (.slice pq i cq) (ownRc ⟨⟨now, ns, os⟩, ⟨d, a, on, nd⟩, qs⟩) ∧ Below W.heap.size W wz from by
        have hk : Keeps (fun k => k = ob) wr wz := by rw [hwz]; exact RcBox.putAllK wr ob _ _ _ _ _ _ _ _
        obtain ⟨x0, x⟩ := HI.out
        have ho : W.heap.size < ob := by have := HW.out.2.2; omega
        have y1 := hk.row x.r1 (fun g hg e => ne_rowT x0 (by decide) x.r1 g hg e)
        have y2 := hk.row x.r2 (fun g hg e => ne_rowT x0 (by decide) x.r2 g hg e)
        have y3 := hk.row x.r3 (fun g hg e => ne_rowT x0 (by decide) x.r3 g hg e)
        have hrow := x.row
        rw [List.take_of_length_le (by have := HLEN.out; omega)] at hrow
        have hrow2 := hrow.keeps hk (fun k e => .inl (by rw [e]; exact HOB.out)) (fun g hg e => by obtain ⟨m, h1, -⟩ := hrow; have := (h1.lt g hg).1; have := HOB.out; omega)
        have hBW : W.heap.size ≤ B := by have := x.zB; have := x.zW; omega
        exact ⟨by rw [hwz]; exact x0.putAll _ _ _ _ _ _ _ _, ⟨numsOut_owns y1, numsOut_owns y2, boolsOut_owns y3, hrow2.out (fun k hk => .inl (by omega)) (fun k hk => by omega)⟩, x.kp.trans (hk.below x.kp.size (fun k e => by omega))⟩)
      have HWZ := Lib.hid hwz
      have hzo : zr ≠ ob := HNE.out.2.1.symm
      clear hwz hbx HI
      go_wp2
      rw [← HWZ.out]
      have hout := HZ.out.2.1
      refine bodyPost_ret (v := .agg #[.int .i64 now, .slice g1 k1 e1, .slice g2 k2 e2, .int .i64 d, .int .i64 a, .bool on, .slice g3 k3 e3, .slice pq i cq]) (results_cell1 rfl _ _ _ rfl HZ.out.1.load) rfl ⟨?_, HZ.out.2.2⟩
      refine ⟨g1, e1, g2, e2, g3, e3, pq, cq, ?_, ?_⟩
      · simp only [ownRc, List.length_map]
        rw [HLEN.out.1, HLEN.out.2.1, HLEN.out.2.2.1, HLEN.out.2.2.2.1]
      · simp only [ownRc, List.length_map] at hout ⊢
        rw [HLEN.out.1, HLEN.out.2.1, HLEN.out.2.2.1, HLEN.out.2.2.2.1]
        exact hout

end Go.Proofs.YtdpkfahaojhkhaaGreat
