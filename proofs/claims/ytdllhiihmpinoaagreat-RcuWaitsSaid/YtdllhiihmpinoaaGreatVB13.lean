/-
  A region's operations, wherever it lies in a function's text.
  Conditions: none.
-/
import Derived.Test.YtdllhiihmpinoaaGreatVB12
import Derived.Test.YtdllhiihmpinoaaGreatVB6
import Derived.Test.YtdllhiihmpinoaaGreatVB5
import Derived.Test.YtdllhiihmpinoaaGreatVB4
import Derived.Test.YtdllhiihmpinoaaGreatVB1
import Derived.Lib.SmallJoins
import Derived.Laws.IdiomArrays
import Derived.Deep.Grids
import Derived.Test.YtdllhiihmpinoaaGreatVB7
import Derived.Maps.OwnSet
import Derived.Maps.OwnIn
import Derived.Maps.OwnOps
import Derived.ArgAppend
import Derived.Deep.Upon
/-
  Package rcu: Step.
  Conditions: the ranges of Go's types.
-/
namespace Go.Proofs.YtdllhiihmpinoaaGreat
set_option maxRecDepth 100000
open Go.RowKit Go.Shelf
attribute [local go_sem] Oper.semAt_some

def stepAE (r : RcS) (o : Int × Int × Int) : Int := if rmayB r = true then opE r o else 240
def toldO (r : RcS) (o : Int × Int × Int) : Int := (opW r o).headD 0
/-- What Step answers. -/
def StQ (B : Nat) (E : Int) (r' : RcS) (y : Int) (e : Ending) (w' : World) : Prop := ∃ now u v d a on nv qv x, e = .returned (.tuple #[.agg #[.int .i64 now, u, v, .int .i64 d, .int .i64 a, .bool on, nv, qv], .int .u64 (if E = 0 then y else 0), .int .i64 x]) ∧ AnsX B E r' [] now u v d a on nv qv nilV x w'
theorem ansX_nil {B : Nat} {E : Int} {r' : RcS} {ws : List Int} {now : Int} {u v : Value} {d a : Int} {on : Bool} {nv qv lv : Value} {x : Int} {X : World} (h : AnsX B E r' ws now u v d a on nv qv lv x X) : AnsX B E r' [] now u v d a on nv qv nilV x X := by
  obtain ⟨⟨s1, s2, s3, s4, s5⟩, h | ⟨h1, h2, h3, h4, h5, h6, h7, h8⟩⟩ := h
  · obtain ⟨h1, h2, h3, h4, h5, h6, h7, h8, h9, h10, h11⟩ := h
    exact ⟨⟨s1, s2, s3, s4, nil_sl⟩, .inl ⟨h1, h2, h3, h4, h5, h6, h7, h8, h9, h10, rfl⟩⟩
  · exact ⟨⟨s1, s2, s3, s4, nil_sl⟩, .inr ⟨h1, h2, h3, h4, h5, h6, h7, World.ownsRow_nil _ _ _ _⟩⟩

set_option maxHeartbeats 32000000 in
theorem rStep_c (r : RcS) (u v nv qv : Value) (k c x0 : Int) (W : World) (hi : RcIn U.NoS W u v nv qv r) (hr : RcR r) :
    Calls Tryz.prog 11 #[.agg #[.int .i64 r.s.now, u, v, .int .i64 r.g.done, .int .i64 r.g.asked, .bool r.g.on, nv, qv], .agg #[.int .i64 k, .int .i64 c, .int .u64 x0]] W fun e w' => StQ W.heap.size (stepAE r (k, c, x0)) (opR r (k, c, x0)) (toldO r (k, c, x0)) e w' ∧ Below W.heap.size W w' := by
  obtain ⟨y, hy⟩ : ∃ y, y = toldO r (k, c, x0) := ⟨_, rfl⟩
  rw [← hy]
  obtain ⟨ws, hws⟩ : ∃ ws, ws = opW r (k, c, x0) := ⟨_, rfl⟩
  obtain ⟨E, hE⟩ : ∃ E, E = stepAE r (k, c, x0) := ⟨_, rfl⟩
  have hwl := opW_len r (k, c, x0)
  unfold toldO at hy
  rw [← hws] at hy hwl
  have hAE : runAE r [(k, c, x0)] = E := by
    rw [hE]
    unfold runAE stepAE
    split
    · show (if opE r (k, c, x0) = 0 then (0 : Int) else opE r (k, c, x0)) = _
      split
      · next h => exact h.symm
      · rfl
    · rfl
  have hAW : opsW r [(k, c, x0)] = ws := by rw [hws]; show opW r (k, c, x0) ++ [] = _; rw [List.append_nil]
  obtain ⟨wa, hwa⟩ : ∃ X : World, X = W.alloc (.cells #[.int .i64 r.s.now, u, v, .int .i64 r.g.done, .int .i64 r.g.asked, .bool r.g.on, nv, qv] 30) := ⟨_, rfl⟩
  obtain ⟨wb, hwb⟩ : ∃ X : World, X = wa.alloc (.cells #[.int .i64 k, .int .i64 c, .int .u64 x0] 37) := ⟨_, rfl⟩
  obtain ⟨wz, hwz⟩ : ∃ X : World, X = wb.alloc (.cells #[.int .i64 0, .slice none 0 0, .slice none 0 0, .int .i64 0, .int .i64 0, .bool false, .slice none 0 0, .slice none 0 0] 30) := ⟨_, rfl⟩
  obtain ⟨w0, hw0⟩ : ∃ X : World, X = wz.alloc (.cells #[.int .i64 k, .int .i64 c, .int .u64 x0] 37) := ⟨_, rfl⟩
  obtain ⟨-, ba, xa⟩ := rc_boxed hi hwa
  have bb : Below wa.heap.size wa wb := by rw [hwb]; exact below1 _ _
  have bz : Below wb.heap.size wb wz := by rw [hwz]; exact below1 _ _
  have b0 : Below wz.heap.size wz w0 := by rw [hw0]; exact below1 _ _
  have sa : wa.heap.size = W.heap.size + 1 := by rw [hwa]; simp
  have sb : wb.heap.size = W.heap.size + 1 + 1 := by rw [hwb, World.size_alloc, sa]
  have sz : wz.heap.size = W.heap.size + 1 + 1 + 1 := by rw [hwz, World.size_alloc, sb]
  have s0 : w0.heap.size = W.heap.size + 1 + 1 + 1 + 1 := by rw [hw0, World.size_alloc, sz]
  have hbz := below_then (below_then ba ba.size bb) (below_then ba ba.size bb).size bz
  have hbW := below_then hbz hbz.size b0
  have x0b : RcBox w0 (W.heap.size + 1 + 1) 0 nilV nilV 0 0 false nilV nilV := by
    have : RcBox wz wb.heap.size 0 nilV nilV 0 0 false nilV nilV := by rw [hwz]; exact RcBox.new _ _ _ _ _ _ _ _ _
    rw [sb] at this
    exact this.below b0
  have hops : OpsOut U.NoS w0 (.slice (some ⟨W.heap.size + 1 + 1 + 1, 0, none⟩) 1 1) [(k, c, x0)] := ⟨_, _, rfl, fun _ => ⟨_, 0, rfl, fun h => h, fun i hi => by
    have hi0 : i = 0 := by simp at hi; omega
    subst hi0
    have : ABox w0 wz.heap.size k c x0 := by rw [hw0]; exact ABox.new _ _ _ _
    rw [sz] at this
    exact this.cells⟩⟩
  have HF := Lib.hid (show RcBox w0 W.heap.size r.s.now u v r.g.done r.g.asked r.g.on nv qv ∧ RcBox w0 (W.heap.size + 1 + 1) 0 nilV nilV 0 0 false nilV nilV ∧ Below W.heap.size W w0 ∧ w0.heap.size = W.heap.size + 1 + 1 + 1 + 1 from ⟨((xa.below bb).below bz).below b0, x0b, hbW, s0⟩)
  have hC := rRun_c r u v nv qv _ [(k, c, x0)] w0 (hi.below hbW) hr hops (by simp)
  rw [hAE, hAW, show opsR r [(k, c, x0)] = opR r (k, c, x0) from rfl] at hC
  have HC := Lib.hid hC
  obtain ⟨p1, c1, p2, c2, p3, c3, p4, c4, rfl, rfl, rfl, rfl⟩ := hi.sl
  have HW := Lib.hid (show wz = ((W.alloc (.cells #[.int .i64 r.s.now, .slice p1 r.s.ns.length c1, .slice p2 r.s.os.length c2, .int .i64 r.g.done, .int .i64 r.g.asked, .bool r.g.on, .slice p3 r.g.nd.length c3, .slice p4 r.qs.length c4] 30)).alloc (.cells #[.int .i64 k, .int .i64 c, .int .u64 x0] 37)).alloc (.cells #[.int .i64 0, .slice none 0 0, .slice none 0 0, .int .i64 0, .int .i64 0, .bool false, .slice none 0 0, .slice none 0 0] 30) ∧ w0 = wz.alloc (.cells #[.int .i64 k, .int .i64 c, .int .u64 x0] 37) ∧ wz.heap.size = W.heap.size + 1 + 1 + 1 by exact ⟨by rw [hwz, hwb, hwa], hw0, sz⟩)
  have hxz : RcBox wz W.heap.size r.s.now (.slice p1 r.s.ns.length c1) (.slice p2 r.s.os.length c2) r.g.done r.g.asked r.g.on (.slice p3 r.g.nd.length c3) (.slice p4 r.qs.length c4) := (xa.below bb).below bz
  have hoz : ABox wz (W.heap.size + 1) k c x0 := by
    have : ABox wb wa.heap.size k c x0 := by rw [hwb]; exact ABox.new _ _ _ _
    rw [sa] at this
    exact this.below bz
  obtain ⟨d0, d1, d2, d3, d4, d5, d6, d7⟩ := hxz.cells
  obtain ⟨a0, a1, a2⟩ := hoz.cells
  have HY := Lib.hid (And.intro hy hwl)
  rw [← hE]
  clear hi hr hwa hwb hw0 hwz ba xa bb b0 bz sa sb s0 sz hbz hbW x0b hops hC hAE hAW hws hE hxz hoz hy hwl
  go_enter Tryz.func11, Tryz.ntmps11
  go_upto_region 1 with fail
  rw [← HW.out.1]
  go_wp2_with fail
  rw [← HW.out.2.1, HW.out.2.2]
  clear HW d0 d1 d2 d3 d4 d5 d6 d7 a0 a1 a2
  (with_reducible refine HC.out.mono ?_)
  rintro e w1 ⟨⟨now, u, v, d, a, on, nv, qv, lv, x, rfl, hA⟩, hb1⟩
  obtain ⟨⟨q1, m1, e1, rfl⟩, ⟨q2, m2, e2, rfl⟩, ⟨q3, m3, e3, rfl⟩, ⟨q4, m4, e4, rfl⟩, ⟨q5, m5, e5, rfl⟩⟩ := hA.1
  have hx1 := HF.out.1.below hb1
  have hB1 := below_then HF.out.2.2.1 HF.out.2.2.1.size hb1
  have hput := hx1.putAll now (.slice q1 m1 e1) (.slice q2 m2 e2) d a on (.slice q3 m3 e3) (.slice q4 m4 e4)
  have hkp := RcBox.putAllK w1 W.heap.size now (.slice q1 m1 e1) (.slice q2 m2 e2) d a on (.slice q3 m3 e3) (.slice q4 m4 e4)
  obtain ⟨w2, hw2⟩ : ∃ X : World, X = ((((((((w1.setCell ⟨W.heap.size, 0, none⟩ (.int .i64 now)).setCell ⟨W.heap.size, 1, none⟩ (.slice q1 m1 e1)).setCell ⟨W.heap.size, 2, none⟩ (.slice q2 m2 e2)).setCell ⟨W.heap.size, 3, none⟩ (.int .i64 d)).setCell ⟨W.heap.size, 4, none⟩ (.int .i64 a)).setCell ⟨W.heap.size, 5, none⟩ (.bool on)).setCell ⟨W.heap.size, 6, none⟩ (.slice q3 m3 e3)).setCell ⟨W.heap.size, 7, none⟩ (.slice q4 m4 e4)) := ⟨_, rfl⟩
  rw [← hw2] at hput hkp
  have hsz := HF.out.2.2.2
  have HX2 := Lib.hid (show RcBox w2 W.heap.size now (.slice q1 m1 e1) (.slice q2 m2 e2) d a on (.slice q3 m3 e3) (.slice q4 m4 e4) ∧ RcBox w2 (W.heap.size + 1 + 1) 0 nilV nilV 0 0 false nilV nilV ∧ Below W.heap.size W w2 ∧ AnsX w0.heap.size E (opR r (k, c, x0)) ws now (.slice q1 m1 e1) (.slice q2 m2 e2) d a on (.slice q3 m3 e3) (.slice q4 m4 e4) (.slice q5 m5 e5) x w2 from
    ⟨hput, (HF.out.2.1.below hb1).keeps hkp (by omega), hB1.trans (hkp.below hB1.size (fun k e => by omega)), hA.keeps hkp (fun k e => by omega)⟩)
  obtain ⟨d0, d1, d2, d3, d4, d5, d6, d7⟩ := hx1.cells
  have k0 := hx1.marks 0
  have k1 := hx1.marks 1
  have k2 := hx1.marks 2
  have k3 := hx1.marks 3
  have k4 := hx1.marks 4
  have k5 := hx1.marks 5
  have k6 := hx1.marks 6
  have k7 := hx1.marks 7
  have HS := Lib.hid hsz
  have HW2 := Lib.hid hw2
  clear hx1 hB1 hput hkp hsz hA hb1 hw2 HC HF
  go_upto_region 2 with fail
  rw [← HW2.out]
  clear HW2 d0 d1 d2 d3 d4 d5 d6 d7 k0 k1 k2 k3 k4 k5 k6 k7
  obtain ⟨d0, d1, d2, d3, d4, d5, d6, d7⟩ := HX2.out.1.cells
  obtain ⟨f0, f1, f2, f3, f4, f5, f6, f7⟩ := HX2.out.2.1.cells
  have k0 := HX2.out.2.1.marks 0
  have k1 := HX2.out.2.1.marks 1
  have k2 := HX2.out.2.1.marks 2
  have k3 := HX2.out.2.1.marks 3
  have k4 := HX2.out.2.1.marks 4
  have k5 := HX2.out.2.1.marks 5
  have k6 := HX2.out.2.1.marks 6
  have k7 := HX2.out.2.1.marks 7
  unfold nilV at f1 f2 f6 f7
  have hput := HX2.out.2.1.putAll now (.slice q1 m1 e1) (.slice q2 m2 e2) d a on (.slice q3 m3 e3) (.slice q4 m4 e4)
  have hkp := RcBox.putAllK w2 (W.heap.size + 1 + 1) now (.slice q1 m1 e1) (.slice q2 m2 e2) d a on (.slice q3 m3 e3) (.slice q4 m4 e4)
  obtain ⟨w3, hw3⟩ : ∃ X : World, X = ((((((((w2.setCell ⟨W.heap.size + 1 + 1, 0, none⟩ (.int .i64 now)).setCell ⟨W.heap.size + 1 + 1, 1, none⟩ (.slice q1 m1 e1)).setCell ⟨W.heap.size + 1 + 1, 2, none⟩ (.slice q2 m2 e2)).setCell ⟨W.heap.size + 1 + 1, 3, none⟩ (.int .i64 d)).setCell ⟨W.heap.size + 1 + 1, 4, none⟩ (.int .i64 a)).setCell ⟨W.heap.size + 1 + 1, 5, none⟩ (.bool on)).setCell ⟨W.heap.size + 1 + 1, 6, none⟩ (.slice q3 m3 e3)).setCell ⟨W.heap.size + 1 + 1, 7, none⟩ (.slice q4 m4 e4)) := ⟨_, rfl⟩
  rw [← hw3] at hput hkp
  have HW3 := Lib.hid hw3
  have HX3 := Lib.hid (show RcBox w3 (W.heap.size + 1 + 1) now (.slice q1 m1 e1) (.slice q2 m2 e2) d a on (.slice q3 m3 e3) (.slice q4 m4 e4) ∧ Below W.heap.size W w3 ∧ AnsX W.heap.size E (opR r (k, c, x0)) [] now (.slice q1 m1 e1) (.slice q2 m2 e2) d a on (.slice q3 m3 e3) (.slice q4 m4 e4) nilV x w3 from
    ⟨hput, HX2.out.2.2.1.trans (hkp.below HX2.out.2.2.1.size (fun k e => by omega)), (ansX_nil (HX2.out.2.2.2.keeps hkp (fun k e => by have := HS.out; omega))).mono (by have := HS.out; omega)⟩)
  clear hput hkp hw3
  by_cases hm5 : m5 = 0
  · have HYZ := Lib.hid (show (if E = 0 then y else 0) = 0 from by
      split
      · next hE =>
        rw [HY.out.1]
        rcases HX2.out.2.2.2.2 with h | h
        · exact absurd hE h.1
        · have := h.2.2.2.2.2.2.2
          obtain ⟨p', c', e'⟩ := owns_slice this
          injection e' with _ e' _
          rw [hm5] at e'
          rw [List.eq_nil_of_length_eq_zero e'.symm]
          rfl
      · rfl)
    subst hm5
    clear HX2
    go_wp2
    rw [← HW3.out]
    refine bodyPost_ret (v := .tuple #[.agg #[.int .i64 now, .slice q1 m1 e1, .slice q2 m2 e2, .int .i64 d, .int .i64 a, .bool on, .slice q3 m3 e3, .slice q4 m4 e4], .int .u64 0, .int .i64 x]) (results_cttt rfl _ _ _ rfl rfl rfl HX3.out.1.load) rfl ⟨⟨_, _, _, _, _, _, _, _, _, by rw [HYZ.out], HX3.out.2.2⟩, HX3.out.2.1⟩
  · obtain ⟨hE0, hrow⟩ : E = 0 ∧ w2.ownsRow w0.heap.size 35 1 (.slice q5 m5 e5) ws.length (ws.map (Value.int .u64)) := by
      rcases HX2.out.2.2.2.2 with h | h
      · exfalso
        have := h.2.2.2.2.2.2.2.2.2.2
        unfold nilV at this
        injection this with _ h2 _
        exact hm5 h2
      · exact ⟨h.1, h.2.2.2.2.2.2.2⟩
    have hwn : ws.length = 1 := by
      obtain ⟨p', c', e'⟩ := owns_slice hrow
      injection e' with _ e' _
      have := HY.out.2
      omega
    obtain ⟨y0, rfl⟩ : ∃ y0, ws = [y0] := by
      match ws, hwn with
      | [y0], _ => exact ⟨y0, rfl⟩
    obtain ⟨b5, rfl, hb5⟩ : ∃ b, q5 = some ⟨b, 0, none⟩ ∧ w2.cell? ⟨b, 0, none⟩ = some (.int .u64 y0) := by
      have hm1 : m5 = 1 := by obtain ⟨p', c', e'⟩ := owns_slice hrow; injection e' with _ e' _
      subst hm1
      rcases hrow.2 with ⟨e, -⟩ | ⟨g, cap, cur, e, -⟩
      · injection e with _ h2 _; cases h2
      · injection e with e _ _
        subst e
        have hrow' : w2.ownsRow w0.heap.size 35 1 (.slice (some ⟨g, 0, none⟩) 1 e5) 1 ([y0].map (Value.int .u64)) := hrow
        exact ⟨g, rfl, by simpa using hrow'.cellAt 0 (by decide)⟩
    have hm1 : m5 = 1 := by obtain ⟨p', c', e'⟩ := owns_slice hrow; injection e' with _ e' _
    subst hm1
    have HYZ := Lib.hid (show (if E = 0 then y else 0) = y0 from by rw [if_pos hE0, HY.out.1]; rfl)
    have hne : ¬ W.heap.size = W.heap.size + 1 + 1 := by omega
    have hne5 : ¬ b5 = W.heap.size + 1 + 1 := by
      have := (hrow.lt b5 rfl).1
      have := HS.out
      omega
    clear HX2 hrow hwn hE0 hm5 HY
    go_upto_region 4 with fail
    go_region
    go_wp2
    rw [← HW3.out]
    refine bodyPost_ret (v := .tuple #[.agg #[.int .i64 now, .slice q1 m1 e1, .slice q2 m2 e2, .int .i64 d, .int .i64 a, .bool on, .slice q3 m3 e3, .slice q4 m4 e4], .int .u64 y0, .int .i64 x]) (results_cttt rfl _ _ _ rfl rfl rfl (RcBox.load (HX3.out.1.below (Below.refl _ _).drew))) rfl ⟨⟨_, _, _, _, _, _, _, _, _, by rw [HYZ.out], HX3.out.2.2.below (Below.refl _ _).drew⟩, HX3.out.2.1.drew⟩

end Go.Proofs.YtdllhiihmpinoaaGreat
/-
  Package queue: the segments of a queue; slices.Equal at rows of words.
  Conditions: the ranges of Go's types.
-/
namespace Go.Proofs.YtdllhiihmpinoaaGreat.U
set_option maxRecDepth 100000
open Go.RowKit Go.Shelf
attribute [local go_sem] Oper.semAt_some

set_option maxHeartbeats 4000000 in
theorem equalW_c (v0 v1 : Value) (xs ys : List Int) (W : World) (hv0 : NumsAt W .u64 v0 xs) (hv1 : NumsAt W .u64 v1 ys) (hl0 : xs.length ≤ 9223372036854775807) (hl1 : ys.length ≤ 9223372036854775807) :
    Calls Tryz.prog 16 #[v0, v1] W fun e w' => e = .returned (.bool (decide (xs = ys))) ∧ Below W.heap.size W w' := by
  obtain ⟨p0, cap0, rfl, hc0⟩ := hv0
  obtain ⟨p1, cap1, rfl, hc1⟩ := hv1
  go_enter Tryz.func16, Tryz.ntmps16
  by_cases hlen : xs.length = ys.length
  · have hne : ((xs.length : Int) != (ys.length : Int)) = false := by rw [bne_eq_false_iff_eq]; omega
    have HL := Lib.hid hlen
    clear hlen
    go_wp2
    clear hne
    go_loopw [13] (fun iv wr => ∃ i : Nat, i ≤ xs.length ∧ iv = .int .i64 i ∧ xs.take i = ys.take i ∧ Below W.heap.size W wr) (fun iv _ => xs.length - (intOf iv).toNat)
    case atStart => exact ⟨0, Nat.zero_le _, rfl, rfl, Below.refl _ _⟩
    case round =>
      obtain ⟨i, hi, rfl, heq, hB⟩ := hrel
      by_cases hlt : i < xs.length
      · obtain ⟨b0, off0, rfl, hcs0⟩ := hc0 (by intro e; rw [e] at hlt; cases hlt)
        have hlt1 : i < ys.length := by have := HL.out; omega
        obtain ⟨b1, off1, rfl, hcs1⟩ := hc1 (by intro e; rw [e] at hlt1; cases hlt1)
        have hx := hcs0 i hlt
        have hy := hcs1 i hlt1
        have ha := List.take_succ_eq_append_getElem hlt
        have hb := List.take_succ_eq_append_getElem hlt1
        obtain ⟨x, hxe⟩ : ∃ x, x = xs[i] := ⟨_, rfl⟩
        obtain ⟨y, hye⟩ : ∃ y, y = ys[i] := ⟨_, rfl⟩
        rw [← hxe] at hx ha
        rw [← hye] at hy hb
        have hx' := (hB.cell (World.block_lt_of_cell? W _ hx)).trans hx
        have hy' := (hB.cell (World.block_lt_of_cell? W _ hy)).trans hy
        have HE := Lib.hid heq
        have HA := Lib.hid ha
        have HB := Lib.hid hb
        have HXY := Lib.hid (And.intro hxe hye)
        clear hx hy hcs0 hcs1 heq ha hb hxe hye
        by_cases hxy : x = y
        · subst hxy
          go_wp2
          go_quiet (fail)
          go_wp2
          all_goals
            go_roundw
            case rel => exact ⟨i + 1, by omega, by go_num, by rw [HA.out, HB.out, HE.out], below_drewN hB _⟩
            case measure => simp [intOf]; omega
        · have hne : (x != y) = true := by rw [bne_iff_ne]; exact hxy
          have hr : decide (xs = ys) = false := by
            rw [decide_eq_false_iff_not]
            intro e
            subst e
            exact hxy (HXY.out.1.trans HXY.out.2.symm)
          have HR := Lib.hid hr
          clear hr hxy
          go_wp2
          go_quiet (fail)
          go_wp2
          all_goals go_ret
          all_goals exact ⟨ret_bool HR.out.symm, below_drewN hB _⟩
      · have heq2 : xs = ys := by rwa [List.take_of_length_le (by omega), List.take_of_length_le (by have := HL.out; omega)] at heq
        have HE := Lib.hid heq2
        clear heq heq2
        go_wp2
        go_ret
        exact ⟨ret_bool (by simp [HE.out]), hB⟩
  · have hne : ((xs.length : Int) != (ys.length : Int)) = true := by rw [bne_iff_ne]; omega
    have hr : decide (xs = ys) = false := by rw [decide_eq_false_iff_not]; intro e; rw [e] at hlen; exact hlen rfl
    have HR := Lib.hid hr
    clear hr hlen
    go_wp2
    go_ret
    exact ⟨ret_bool HR.out.symm, Below.refl _ _⟩


/-- The segment of a period. -/
def segB (over p : Int) : Nat := if over + 1 < p then 2 else if over < p then 1 else 0
/-- How many are of this segment. -/
def segN (over : Int) (j : Nat) (l : List (Int × Int)) : Nat := (l.filter fun c => segB over c.1 == j).length
theorem segN_snoc (over : Int) (j : Nat) (l : List (Int × Int)) (c : Int × Int) : segN over j (l ++ [c]) = segN over j l + if segB over c.1 = j then 1 else 0 := by
  unfold segN
  rw [List.filter_append, List.length_append]
  by_cases h : segB over c.1 = j <;> simp [h]
theorem segN_le (over : Int) (j : Nat) (l : List (Int × Int)) : segN over j l ≤ l.length := List.length_filter_le _ _
/-- What Segments answers. -/
def segV (over : Int) (l : List (Int × Int)) : Value := if mayB over l = true then .agg #[.int .i64 (segN over 0 l : Int), .int .i64 (segN over 1 l : Int), .int .i64 (segN over 2 l : Int)] else .agg #[.int .i64 0, .int .i64 0, .int .i64 0]
end Go.Proofs.YtdllhiihmpinoaaGreat.U
/-
  What the first test of the statements of layer 14 stands on.
  Conditions: as each has them.
-/
namespace Go.Proofs.YtdllhiihmpinoaaGreat
set_option maxRecDepth 100000
open Go.RowKit Go.Shelf
attribute [local go_sem] Oper.semAt_some

/-- A region's operations. -/
def regOps (id : Nat) : Code → Option (Array Oper)
  | .region i ops _ => if i = id then some ops else none
  | .seq a b => match regOps id a with
    | some o => some o
    | none => regOps id b
  | _ => none
/-- An operation that runs to a value. -/
theorem step_val {P : Program} {ops : Array Oper} {o : Oper} {a : Act} {w : World} {K : Act → World → Prop} {Q : Exit → Act → World → Prop} {E : Prop} (hg : o.guard = none) {v : Value} {w' : World} (hrun : (execOp a.eval o).run P w = .ok (.value v) w') (h : K (a.put o.dst v) w') :
    if Region.wanted o (yielded ops a.tmps) = true then Oper.wp P o a w K Q else E := by
  have hw : Region.wanted o (yielded ops a.tmps) = true := by simp [Region.wanted, hg]
  rw [if_pos hw]
  unfold Oper.wp
  rw [hrun]
  exact h
/-- An operation that runs to nothing. -/
theorem step_skip {P : Program} {ops : Array Oper} {o : Oper} {a : Act} {w : World} {K : Act → World → Prop} {Q : Exit → Act → World → Prop} {E : Prop} (hg : o.guard = none) {w' : World} (hrun : (execOp a.eval o).run P w = .ok .skip w') (h : K (a.put o.dst undef) w') :
    if Region.wanted o (yielded ops a.tmps) = true then Oper.wp P o a w K Q else E := by
  have hw : Region.wanted o (yielded ops a.tmps) = true := by simp [Region.wanted, hg]
  rw [if_pos hw]
  unfold Oper.wp
  rw [hrun]
  exact h
/-- A call, by its contract: it returns. -/
theorem step_ent {P : Program} {ops : Array Oper} {o : Oper} {a : Act} {w : World} {K : Act → World → Prop} {Q : Exit → Act → World → Prop} {E : Prop} (hg : o.guard = none) {f : FuncId} {args : Array Value} {w' : World} (hrun : (execOp a.eval o).run P w = .ok (.enter f args) w') {R : Ending → World → Prop} (hc : Calls P f args w' R) (h : ∀ e w'', R e w'' → ∃ v, e = .returned v ∧ K (a.put o.dst v) w'') :
    if Region.wanted o (yielded ops a.tmps) = true then Oper.wp P o a w K Q else E := by
  have hw : Region.wanted o (yielded ops a.tmps) = true := by simp [Region.wanted, hg]
  rw [if_pos hw]
  unfold Oper.wp
  rw [hrun]
  refine hc.mono fun e w'' hr => ?_
  obtain ⟨v, rfl, hk⟩ := h e w'' hr
  exact hk


theorem GoodR.rcr {r : RcS} (h : GoodR r) : RcR r := by
  obtain ⟨g1, g2, g3, g4, g5⟩ := rmay_facts h.may
  have hg := (goodG_iff r.g).1 g2
  have hl := g1.l8
  have hlo := g1.lo
  refine ⟨by omega, by omega, by omega, by omega, fun x hx => ?_, fun q hq => ?_, h.pe, ?_⟩
  · obtain ⟨i, hi, rfl⟩ := List.getElem_of_mem hx
    have he := g1.each i (by omega)
    have hn := g1.n1
    have : oO r.s i = r.s.os[i] := getD_lt hi
    unfold I64
    omega
  · obtain ⟨_, h2, _⟩ := g5 q hq
    rw [h2]
    have := hg.d0
    omega
  · have := hg.d0
    have h1 := hg.a1
    have h2 : r.g.done ≤ r.g.asked := by
      cases ho : r.g.on with
      | true => have := hg.on1 ho; omega
      | false => have := hg.on0 ho; omega
    unfold I64
    omega

theorem rcop_info : (Tryz.prog.info? 37).map (·.size) = some 3 := by kernel_rfl
theorem op_c (k c x : Int) (W : World) : Calls Tryz.prog 28 #[.int .i64 k, .int .i64 c, .int .u64 x] W fun e w' => e = .returned (.agg #[.int .i64 k, .int .i64 c, .int .u64 x]) ∧ Below W.heap.size W w' := by
  go_enter Tryz.func28, Tryz.ntmps28
  go_wp2
  have hh : (W.alloc (.cells #[.int .i64 k, .int .i64 c, .int .u64 x] 37)).heap[W.heap.size]? = some (.cells #[.int .i64 k, .int .i64 c, .int .u64 x] 37 (0, 0)) := World.alloc_heap_new W _
  refine bodyPost_ret (v := .agg #[.int .i64 k, .int .i64 c, .int .u64 x]) (results_cell1 rfl _ _ _ rfl ?_) rfl ⟨rfl, below1 _ _⟩
  refine run_loadVar_mid _ W.heap.size 0 37 [.int .i64 k, .int .i64 c, .int .u64 x] _ (fun j u hj => ?_) Tryz.underlying37 rfl rcop_info
  rw [Nat.zero_add]
  match j, hj with
  | 0, hj => cases hj; unfold World.cell?; rw [hh]; rfl
  | 1, hj => cases hj; unfold World.cell?; rw [hh]; rfl
  | 2, hj => cases hj; unfold World.cell?; rw [hh]; rfl
  | (k + 3), hj => simp at hj

theorem ops_block {w : World} {tb : Nat} {l : List (Int × Int × Int)} {cs : Array Value} (h : w.heap[tb]? = some (.cells cs 37 (0, 0))) (hc : ∀ i (hi : i < l.length), cs[i * 3]? = some (.int .i64 l[i].1) ∧ cs[i * 3 + 1]? = some (.int .i64 l[i].2.1) ∧ cs[i * 3 + 2]? = some (.int .u64 l[i].2.2)) : OpsOut U.NoS w (.slice (some ⟨tb, 0, none⟩) l.length l.length) l := by
  refine ⟨_, _, rfl, fun _ => ⟨tb, 0, rfl, id, fun i hi => ?_⟩⟩
  rw [Nat.zero_add]
  unfold World.cell?
  rw [h]
  exact hc i hi

def wkL2 : List (Int × Int × Int) := [(3, 0, 7), (4, 0, 0), (4, 0, 0), (4, 1, 0), (5, 0, 0)]
def wkL3 : List (Int × Int × Int) := [(1, 1, 0), (3, 0, 7), (4, 0, 0), (4, 0, 0), (4, 1, 0)]
def wkL5 : List (Int × Int × Int) := [(2, 1, 0), (4, 1, 0), (5, 0, 0)]
def wkS : RcS := opsR (rNew 2) wkL3
theorem wk_good0 : GoodR (rNew 2) := ⟨by kernel_rfl, fun q hq c hc => by
  simp [rNew] at hq
  rw [hq] at hc
  cases hc⟩
theorem GoodR.ops {r : RcS} : ∀ (l : List (Int × Int × Int)), GoodR r → opsE r l = 0 → GoodR (opsR r l)
  | [], h, _ => h
  | o :: l, h, he => by
    unfold opsE at he
    by_cases h0 : opE r o = 0
    · rw [if_pos h0] at he
      exact GoodR.ops l (h.op h0) he
    · rw [if_neg h0] at he
      exact absurd he h0
theorem wk_e2 : runAE (rNew 2) wkL2 = 0 := by kernel_rfl
theorem wk_w2 : opsW (rNew 2) wkL2 = [7] := by kernel_rfl
theorem wk_e3 : runAE (rNew 2) wkL3 = 0 := by kernel_rfl
theorem wk_goodS : GoodR wkS := wk_good0.ops wkL3 (by kernel_rfl)
theorem wk_e4 : stepAE wkS (5, 0, 0) = 4 := by kernel_rfl
theorem wk_e5 : runAE wkS wkL5 = 0 := by kernel_rfl
theorem wk_w5 : opsW wkS wkL5 = [7] := by kernel_rfl
theorem wk_open : rmayB wkS = true ∧ openB wkS.s = true := ⟨wk_goodS.may, by kernel_rfl⟩
theorem wk_many : (if rmayB wkS = true then manyQ wkS.qs else 0) = 1 := by kernel_rfl
theorem wk_idle0 : (rmayB (rNew 2) && idleB (rNew 2)) = true := by kernel_rfl
theorem wk_idleS : (rmayB wkS && idleB wkS) = false := by kernel_rfl

/-- What a run of the test answers. -/
def WkQ (B : Nat) (r' : RcS) (ws : List Int) (e : Ending) (w' : World) : Prop := ∃ q1 m1 e1 q2 m2 e2 q3 m3 e3 q4 m4 e4 q5 m5 e5, e = .returned (.tuple #[.agg #[.int .i64 r'.s.now, .slice q1 m1 e1, .slice q2 m2 e2, .int .i64 r'.g.done, .int .i64 r'.g.asked, .bool r'.g.on, .slice q3 m3 e3, .slice q4 m4 e4], .slice q5 m5 e5, .int .i64 0]) ∧
  RcIn (fun k => k < B) w' (.slice q1 m1 e1) (.slice q2 m2 e2) (.slice q3 m3 e3) (.slice q4 m4 e4) r' ∧ w'.ownsRow 0 35 1 (.slice q5 m5 e5) ws.length (ws.map (Value.int .u64))
theorem wk_run {r r' : RcS} {ws : List Int} (l : List (Int × Int × Int)) (hE : runAE r l = 0) (hR : opsR r l = r') (hW : opsW r l = ws) (hr : RcR r) (hl : l.length ≤ 999999) (u v nv qv ov : Value) (W : World) (hi : RcIn U.NoS W u v nv qv r) (ho : OpsOut U.NoS W ov l) :
    Calls Tryz.prog 15 #[.agg #[.int .i64 r.s.now, u, v, .int .i64 r.g.done, .int .i64 r.g.asked, .bool r.g.on, nv, qv], ov] W fun e w' => WkQ W.heap.size r' ws e w' ∧ Below W.heap.size W w' := by
  refine (rRun_c r u v nv qv ov l W hi hr ho hl).mono ?_
  rintro e w' ⟨⟨now, u', v', d, a, on, nv', qv', lv, x, rfl, hA⟩, hb⟩
  refine ⟨?_, hb⟩
  rw [hE, hR, hW] at hA
  obtain ⟨⟨⟨q1, m1, e1, rfl⟩, ⟨q2, m2, e2, rfl⟩, ⟨q3, m3, e3, rfl⟩, ⟨q4, m4, e4, rfl⟩, ⟨q5, m5, e5, rfl⟩⟩, ⟨h0, -⟩ | ⟨-, hx, hnow, hd, ha, hon, hin, hro⟩⟩ := hA
  · exact absurd rfl h0
  subst hx hnow hd ha hon
  exact ⟨_, _, _, _, _, _, _, _, _, _, _, _, _, _, _, rfl, hin, hro.mono (Nat.zero_le _)⟩
/-- What a refused step of the test answers. -/
theorem wk_step {r : RcS} (k c x0 : Int) (E : Int) (h0 : E ≠ 0) (hE : stepAE r (k, c, x0) = E) (hr : RcR r) (u v nv qv : Value) (W : World) (hi : RcIn U.NoS W u v nv qv r) :
    Calls Tryz.prog 11 #[.agg #[.int .i64 r.s.now, u, v, .int .i64 r.g.done, .int .i64 r.g.asked, .bool r.g.on, nv, qv], .agg #[.int .i64 k, .int .i64 c, .int .u64 x0]] W fun e w' => e = .returned (.tuple #[.agg #[.int .i64 0, .slice none 0 0, .slice none 0 0, .int .i64 0, .int .i64 0, .bool false, .slice none 0 0, .slice none 0 0], .int .u64 0, .int .i64 E]) ∧ Below W.heap.size W w' := by
  refine (rStep_c r u v nv qv k c x0 W hi hr).mono ?_
  rintro e w' ⟨⟨now, u', v', d, a, on, nv', qv', x, rfl, hA⟩, hb⟩
  refine ⟨?_, hb⟩
  rw [hE] at hA ⊢
  rw [if_neg h0]
  obtain ⟨-, ⟨-, rfl, rfl, rfl, rfl, rfl, rfl, rfl, rfl, rfl, -⟩ | ⟨h, -⟩⟩ := hA
  · rfl
  · exact absurd h h0

/-- The Rcu that a region reads. -/
def WkB (b : Nat) (r : RcS) (u v nv qv : Value) (w : World) : Prop := RcBox w b r.s.now u v r.g.done r.g.asked r.g.on nv qv
def WkA (b : Nat) (r : RcS) (u v nv qv : Value) (w : World) : Prop := RcBox w b r.s.now u v r.g.done r.g.asked r.g.on nv qv ∧ RcIn U.NoS w u v nv qv r
theorem WkA.below {b : Nat} {r : RcS} {u v nv qv : Value} {w w' : World} (h : WkA b r u v nv qv w) (hb : Below w.heap.size w w') : WkA b r u v nv qv w' := ⟨h.1.below hb, h.2.below hb⟩
/-- What a run of the test has left. -/
def WkF (B : World) (z : Nat) (r' : RcS) (ws : List Int) (u v nv qv lv : Value) (w : World) : Prop := RcBox w z r'.s.now u v r'.g.done r'.g.asked r'.g.on nv qv ∧ RcIn U.NoS w u v nv qv r' ∧ w.ownsRow 0 35 1 lv ws.length (ws.map (Value.int .u64)) ∧ Below B.heap.size B w
theorem ne_row64 {w : World} {z : Nat} {now d a : Int} {u v nv qv : Value} {on : Bool} (h : RcBox w z now u v d a on nv qv) {B n : Nat} {lv : Value} {xs : List Value} (hr : w.ownsRow B 35 1 lv n xs) : ∀ g, lv.ownBlock = some g → g ≠ z := by
  intro g hg e
  subst e
  rcases hr.2 with ⟨rfl, _⟩ | ⟨g', cap, cur, rfl, _, hg', _⟩
  · cases hg
  · simp only [Value.ownBlock, Option.some.injEq] at hg
    subst hg
    have h' : w.heap[g']? = _ := h
    rw [hg'] at h'
    injection h' with h'
    injection h' with _ h' _
    exact absurd h' (by decide)
theorem wk_keep {B X Xa : World} {z b b0 e0 : Nat} {r r' : RcS} {ws : List Int} {u v nv qv lv u0 v0 nv0 qv0 : Value} (hA : WkA b r u0 v0 nv0 qv0 B) (hB : Below B.heap.size B X) (hz : RcBox X z 0 (.slice none 0 0) (.slice none 0 0) 0 0 false (.slice none 0 0) (.slice none 0 0)) (hzB : B.heap.size ≤ z) (hw : RcIn (fun k => k < b0 ∨ e0 ≤ k) X u v nv qv r' ∧ X.ownsRow 0 35 1 lv ws.length (ws.map (Value.int .u64))) (hZ : z < b0 ∨ e0 ≤ z)
    (hXa : Xa = ((((((((X.setCell ⟨z, 0, none⟩ (.int .i64 r'.s.now)).setCell ⟨z, 1, none⟩ u).setCell ⟨z, 2, none⟩ v).setCell ⟨z, 3, none⟩ (.int .i64 r'.g.done)).setCell ⟨z, 4, none⟩ (.int .i64 r'.g.asked)).setCell ⟨z, 5, none⟩ (.bool r'.g.on)).setCell ⟨z, 6, none⟩ nv).setCell ⟨z, 7, none⟩ qv)) : WkB b r u0 v0 nv0 qv0 Xa ∧ WkF B z r' ws u v nv qv lv Xa := by
  have hk : Keeps (fun k => k = z) X Xa := by rw [hXa]; exact RcBox.putAllK X z _ _ _ _ _ _ _ _
  have hbl := hB.trans (hk.below hB.size (fun k e => by omega))
  refine ⟨hA.1.below hbl, by rw [hXa]; exact hz.putAll _ _ _ _ _ _ _ _, ((hw.1.keeps (hk.sub fun k _ e => by omega)).apart (fun q h => h.elim)), hk.row hw.2 (fun g hg e => ne_row64 hz hw.2 g hg e), hbl⟩

end Go.Proofs.YtdllhiihmpinoaaGreat
/-
  own, of the statements of layer 11: readers with the first nine of their CPUs, in memory of their own.
  Conditions: the readers are ones that came in.
-/
namespace Go.Proofs.YtdllhiihmpinoaaGreat
set_option maxRecDepth 100000
open Go.RowKit Go.Shelf
attribute [local go_sem] Oper.semAt_some

/-- A slice that came in: nil, or at an address. -/
def ArgR (W : World) (v : Value) (xs : List Value) : Prop := ∃ p n c, v = .slice p n c ∧ n = xs.length ∧ ((p = none ∧ n = 0 ∧ c = 0) ∨ ∃ a : Addr, p = some a ∧ n ≤ c ∧ ∀ j u, xs[j]? = some u → W.cell? (a.add j) = some u)
theorem ArgR.below {w w' : World} {v : Value} {xs : List Value} (h : ArgR w v xs) (hb : Below w.heap.size w w') : ArgR w' v xs := by
  obtain ⟨p, n, c, rfl, hn, h⟩ := h
  refine ⟨p, n, c, rfl, hn, ?_⟩
  rcases h with h | ⟨a, rfl, hc, hcs⟩
  · exact .inl h
  · exact .inr ⟨a, rfl, hc, fun j u hj => below_cell hb (hcs j u hj)⟩
theorem vals_cut {W : World} {p : Option Addr} {n c : Nat} {xs : List Value} (hn : n = xs.length) (h : (p = none ∧ n = 0 ∧ c = 0) ∨ ∃ a : Addr, p = some a ∧ n ≤ c ∧ ∀ j u, xs[j]? = some u → W.cell? (a.add j) = some u) :
    ValsAt W (.slice p (min n 9) c) 1 (min n 9) (xs.take 9) := by
  refine ⟨by rw [List.length_take, hn]; omega, p, c, rfl, ?_⟩
  rcases h with ⟨rfl, rfl, rfl⟩ | ⟨a, rfl, _, hcs⟩
  · exact .inl ⟨rfl, rfl, rfl⟩
  · refine .inr ⟨a, rfl, fun j u hj => hcs j u ?_⟩
    rw [List.getElem?_take] at hj
    split at hj
    · exact hj
    · cases hj
theorem run_cut9 (p : Option Addr) (n c k : Nat) (h : k ≤ c) (wx : World) :
    (Instr.slice 22 (.slice p n c) none (some (.int .i64 (k : Int))) none).run Tryz.prog wx = .ok (.slice p k c) wx := by
  rw [run_slice_h wx 22 p n c Tryz.underlying22 .i64 (k : Int) (by omega) (by omega)]
  have hE : (sizeOf (Tryz.prog.elem 22)).run Tryz.prog wx = .ok 1 wx := by go_simp
  rw [hE]
  have : Option.map (fun x : Addr => x.add 0) p = p := by cases p <;> simp [Addr.add_zero']
  simp [sliced, Result.andThen, this]
theorem run_min9 (n k : Nat) (hk : k = min n 9) (wx : World) : (Builtin.min_ #[3, 3] 3 #[.int .i64 (n : Int), .int .i64 9]).run Tryz.prog wx = .ok (.int .i64 (k : Int)) wx := by
  have : (if (9 : Int) < (n : Int) then (9 : Int) else n) = (k : Int) := by rw [hk]; split <;> omega
  simp [Builtin.min_, Builtin.min2, this]
/-- Readers that lie in new memory. -/
def OwnR (B : Nat) (s : RdS) (u v : Value) (w : World) : Prop := w.ownsRow B 3 1 u s.ns.length (s.ns.map (Value.int .i64)) ∧ w.ownsRow B 3 1 v s.os.length (s.os.map (Value.int .i64))
theorem OwnR.below {B : Nat} {s : RdS} {u v : Value} {w w' : World} (h : OwnR B s u v w) (hb : Below w.heap.size w w') : OwnR B s u v w' := ⟨owns_below h.1 hb, owns_below h.2 hb⟩
theorem OwnR.nums {B : Nat} {s : RdS} {u v : Value} {w : World} (h : OwnR B s u v w) : NumsAt w .i64 u s.ns ∧ NumsAt w .i64 v s.os := ⟨nums_of_owns rfl h.1, nums_of_owns rfl h.2⟩
def GivesR (B : Nat) (s : RdS) (e : Ending) (w' : World) : Prop := ∃ p0 c0 p1 c1, e = .returned (.agg #[.int .i64 s.now, .slice p0 s.ns.length c0, .slice p1 s.os.length c1]) ∧ OwnR B s (.slice p0 s.ns.length c0) (.slice p1 s.os.length c1) w'

end Go.Proofs.YtdllhiihmpinoaaGreat
/-
  Opening arguments of layer 11: readers.
  Conditions: none.
-/
namespace Go.Proofs.YtdllhiihmpinoaaGreat
open Go.ChangeShapes Go.WideShapes Go.ChangeAt Go.RowKit Go.Deep Go.Joins

theorem ints_argr {H : Type} {enc : TypeId × Value → H} {P : Program} {W : World} {t e : TypeId} {n : Nat} {v : Value} {y : DataW H × List MemPlace} (ht : P.underlying t = some (.slice e)) (he : P.underlying e = some (.int .i64)) (hc : P.cellsOf e = 1)
    (hf : DataW.trod enc P W 0 (fun _ => true) true n t [v] = some y) :
    ∃ ns : List Int, ArgR W v (ns.map (Value.int .i64)) ∧ ns.length ≤ 9223372036854775807 ∧ ∀ x ∈ ns, I64 x := by
  rcases open_ints ht he hc hf with ⟨hcs, _⟩ | ⟨a, len', cap', zs, hcs, _, hl, hm, hz, _, hcell, hwz⟩
  · simp only [List.cons.injEq, and_true] at hcs
    subst hcs
    exact ⟨[], ⟨_, _, _, rfl, rfl, .inl ⟨rfl, rfl, rfl⟩⟩, by decide, fun x hx => by cases hx⟩
  · simp only [List.cons.injEq, and_true] at hcs
    subst hcs
    simp only [if_true] at hz
    have hlen : (zs.take len').length = len' := List.length_take_of_le (by omega)
    refine ⟨zs.take len', ⟨_, _, _, rfl, by rw [List.length_map, hlen], .inr ⟨a, rfl, hl, fun j u hj => ?_⟩⟩, by rw [hlen]; unfold maxLen at hm; omega, fun x hx => by
      have := hwz x (List.mem_of_mem_take hx)
      simpa [Lit.wf, IntKind.min, IntKind.max, IntKind.signed, IntKind.bits, I64] using this⟩
    obtain ⟨hj1, rfl⟩ := List.getElem?_eq_some_iff.1 hj
    have hj2 : j < len' := by
      have := hj1
      rw [List.length_map, hlen] at this
      exact this
    have h1 := hcell j (by omega)
    rw [List.getD_eq_getElem?_getD, List.getElem?_eq_getElem (by omega)] at h1
    simpa using h1
set_option maxRecDepth 100000 in
theorem readers_open {H : Type} {enc : TypeId × Value → H} {W : World} {base : Nat} {v : Value} {d : DataW H} {ps : List MemPlace}
    (hval : Value.okWide Tryz.prog W .any base 24 v) (h : DataW.Trod enc Tryz.prog W 0 (fun _ => true) true 24 v d ps) :
    ∃ (now : Int) (u1 u2 : Value) (xs ys : List Int), v = .agg #[.int .i64 now, u1, u2] ∧ ArgR W u1 (xs.map (Value.int .i64)) ∧ ArgR W u2 (ys.map (Value.int .i64)) ∧ xs.length ≤ 9223372036854775807 ∧ ys.length ≤ 9223372036854775807 ∧ (∀ y ∈ ys, I64 y) ∧ I64 now := by
  obtain ⟨v0, v1, v2, y0, y1, y2, n, rfl, _, _, h0, h1, h2⟩ := open_agg3 Tryz.underlying24 (by kernel_rfl) (by kernel_rfl) hval h
  obtain ⟨b, hb, _, wb⟩ := DataW.trod_int (t := 3) Tryz.underlying3 h0
  simp only [List.cons.injEq, and_true] at hb
  subst hb
  obtain ⟨xs, hx, lx, -⟩ := ints_argr (t := 22) Tryz.underlying22 Tryz.underlying3 (by kernel_rfl) h1
  obtain ⟨ys, hy, ly, ry⟩ := ints_argr (t := 22) Tryz.underlying22 Tryz.underlying3 (by kernel_rfl) h2
  exact ⟨b, v1, v2, xs, ys, rfl, hx, hy, lx, ly, ry, by simpa [Lit.wf, IntKind.min, IntKind.max, IntKind.signed, IntKind.bits, I64] using wb⟩
end Go.Proofs.YtdllhiihmpinoaaGreat
/-
  Opening an argument of layer 14: lists, places, structs.
  Conditions: none.
-/
namespace Go.Proofs.YtdllhiihmpinoaaGreat
open Go.ChangeShapes Go.WideShapes Go.ChangeAt Go.RowKit Go.Deep Go.Joins

theorem choose_lt' {α : Type} [Inhabited α] {P : Nat → α → Prop} {n : Nat} (h : ∀ i, i < n → ∃ x, P i x) : ∃ F : Nat → α, ∀ i, i < n → P i (F i) := by
  classical
  refine ⟨fun i => if hi : i < n then (h i hi).choose else default, fun i hi => ?_⟩
  simp only [hi, dif_pos]
  exact (h i hi).choose_spec
theorem spot_none' {W : World} {a : Addr} {v : Value} (h : W.cell? a = some v) : ∃ b off, a = ⟨b, off, none⟩ := by
  obtain ⟨b, off, sp⟩ := a
  cases sp with
  | none => exact ⟨b, off, rfl⟩
  | some x =>
    simp only [World.cell?] at h
    split at h <;> simp at h
theorem list_of' {α : Type} (P : Nat → α → Prop) : ∀ n : Nat, (∀ j, j < n → ∃ x, P j x) → ∃ xs : List α, xs.length = n ∧ ∀ j (h : j < xs.length), P j xs[j]
  | 0, _ => ⟨[], rfl, fun j h => by cases h⟩
  | n + 1, h => by
    obtain ⟨xs, hl, hx⟩ := list_of' P n (fun j hj => h j (by omega))
    obtain ⟨x, hP⟩ := h n (by omega)
    refine ⟨xs ++ [x], by simp [hl], fun j hj => ?_⟩
    by_cases hjn : j < xs.length
    · rw [List.getElem_append_left hjn]; exact hx j hjn
    · have : j = n := by simp at hj; omega
      subst this
      rw [List.getElem_append_right (by omega)]
      simpa [hl] using hP
theorem etrod_struct2 {H : Type} {enc : TypeId × Value → H} {P : Program} {w : World} {base : Nat} {spare : Nat → Bool} {held : Bool} {t : TypeId} {f0 f1 : Field} {fuel : Nat} {cs : List Value} {x : DataW H × List MemPlace} (ht : P.underlying t = some (.struct #[f0, f1])) (h : DataW.trod enc P w base spare held fuel t cs = some x) :
    ∃ (y0 y1 : DataW H × List MemPlace) (n : Nat), DataW.trod enc P w base spare held n f0.type ((cs.drop f0.offset).take (P.cellsOf f0.type)) = some y0 ∧ DataW.trod enc P w base spare held n f1.type ((cs.drop f1.offset).take (P.cellsOf f1.type)) = some y1 := by
  obtain ⟨xs, n, _, rfl, hl, hlen, hf⟩ := DataW.trod_struct ht h
  match xs, hlen with
  | [y0, y1], _ => exact ⟨y0, y1, n, by simpa using hf 0 f0 rfl, by simpa using hf 1 f1 rfl⟩
theorem etrod_struct4 {H : Type} {enc : TypeId × Value → H} {P : Program} {w : World} {base : Nat} {spare : Nat → Bool} {held : Bool} {t : TypeId} {f0 f1 f2 f3 : Field} {fuel : Nat} {cs : List Value} {x : DataW H × List MemPlace} (ht : P.underlying t = some (.struct #[f0, f1, f2, f3])) (h : DataW.trod enc P w base spare held fuel t cs = some x) :
    ∃ (y0 y1 y2 y3 : DataW H × List MemPlace) (n : Nat), DataW.trod enc P w base spare held n f0.type ((cs.drop f0.offset).take (P.cellsOf f0.type)) = some y0 ∧ DataW.trod enc P w base spare held n f1.type ((cs.drop f1.offset).take (P.cellsOf f1.type)) = some y1 ∧ DataW.trod enc P w base spare held n f2.type ((cs.drop f2.offset).take (P.cellsOf f2.type)) = some y2 ∧ DataW.trod enc P w base spare held n f3.type ((cs.drop f3.offset).take (P.cellsOf f3.type)) = some y3 := by
  obtain ⟨xs, n, _, rfl, hl, hlen, hf⟩ := DataW.trod_struct ht h
  match xs, hlen with
  | [y0, y1, y2, y3], _ => exact ⟨y0, y1, y2, y3, n, by simpa using hf 0 f0 rfl, by simpa using hf 1 f1 rfl, by simpa using hf 2 f2 rfl, by simpa using hf 3 f3 rfl⟩
theorem etrod_struct3 {H : Type} {enc : TypeId × Value → H} {P : Program} {w : World} {base : Nat} {spare : Nat → Bool} {held : Bool} {t : TypeId} {f0 f1 f2 : Field} {fuel : Nat} {cs : List Value} {x : DataW H × List MemPlace} (ht : P.underlying t = some (.struct #[f0, f1, f2])) (h : DataW.trod enc P w base spare held fuel t cs = some x) :
    ∃ (y0 y1 y2 : DataW H × List MemPlace) (n : Nat), DataW.trod enc P w base spare held n f0.type ((cs.drop f0.offset).take (P.cellsOf f0.type)) = some y0 ∧ DataW.trod enc P w base spare held n f1.type ((cs.drop f1.offset).take (P.cellsOf f1.type)) = some y1 ∧ DataW.trod enc P w base spare held n f2.type ((cs.drop f2.offset).take (P.cellsOf f2.type)) = some y2 := by
  obtain ⟨xs, n, _, rfl, hl, hlen, hf⟩ := DataW.trod_struct ht h
  match xs, hlen with
  | [y0, y1, y2], _ => exact ⟨y0, y1, y2, n, by simpa using hf 0 f0 rfl, by simpa using hf 1 f1 rfl, by simpa using hf 2 f2 rfl⟩
theorem cut_cells {H : Type} {enc : TypeId × Value → H} {P : Program} {w : World} {base : Nat} {spare : Nat → Bool} {held : Bool} {n k : Nat} {t : TypeId} {cs cs' : List Value} {y : DataW H × List MemPlace} (hc : P.cellsOf t = k) (hcs : cs.take k = cs') (h : DataW.trod enc P w base spare held n t (cs.take (P.cellsOf t)) = some y) : DataW.trod enc P w base spare held n t cs' = some y := by
  rw [hc, hcs] at h
  exact h


end Go.Proofs.YtdllhiihmpinoaaGreat
/-
  Opening an argument of layer 14: a row of ops.
  Conditions: none.
-/
namespace Go.Proofs.YtdllhiihmpinoaaGreat
open Go.ChangeShapes Go.WideShapes Go.ChangeAt Go.RowKit Go.Deep Go.Joins

theorem cells3 {w : World} {a : Addr} {cs : List Value} (h : w.cells? 0 a 3 = some cs) : ∃ x0 x1 x2, cs = [x0, x1, x2] ∧ w.cell? a = some x0 ∧ w.cell? (a.add 1) = some x1 ∧ w.cell? (a.add 2) = some x2 := by
  unfold World.cells? at h
  rw [if_pos (Nat.zero_le _)] at h
  have r3 : List.range 3 = [0, 1, 2] := rfl
  have a0 : a.add 0 = a := rfl
  cases h0 : w.cell? a with
  | none => simp [r3, a0, h0] at h
  | some x0 =>
    cases h1 : w.cell? (a.add 1) with
    | none => simp [r3, a0, h0, h1] at h
    | some x1 =>
      cases h2 : w.cell? (a.add 2) with
      | none => simp [r3, a0, h0, h1, h2] at h
      | some x2 =>
        simp [r3, a0, h0, h1, h2] at h
        exact ⟨x0, x1, x2, h.symm, rfl, rfl, rfl⟩
set_option maxRecDepth 100000 in
theorem ops_open {H : Type} {enc : TypeId × Value → H} {W : World} {v : Value} {d : DataW H} {ps : List MemPlace} (h : DataW.Trod enc Tryz.prog W 0 (fun _ => true) true 31 v d ps) (hv : ∃ a len cap, v = .slice a len cap) :
    ∃ (l : List (Int × Int × Int)), OpsOut U.NoS W v l ∧ l.length ≤ 9223372036854775807 := by
  obtain ⟨a0, len0, cap0, rfl⟩ := hv
  obtain ⟨n, h⟩ := h
  have hce : Tryz.prog.cellsOf 37 = 3 := by kernel_rfl
  rcases DataW.trod_slice Tryz.underlying31 h with ⟨hcs, -⟩ | ⟨a, len, cap, elems, rest, m, -, hcs, -, -, hlc, hcm, hlen, hel, -, -⟩
  · simp [Value.cells] at hcs
    obtain ⟨rfl, rfl, rfl⟩ := hcs
    exact ⟨[], ⟨none, 0, rfl, fun h => absurd rfl h⟩, by decide⟩
  · simp [Value.cells] at hcs
    obtain ⟨rfl, rfl, rfl⟩ := hcs
    obtain ⟨rs, hrl, hrs⟩ := list_of' (fun i (x : Int × Int × Int) => W.cell? (a.add (i * 3)) = some (.int .i64 x.1) ∧ W.cell? ((a.add (i * 3)).add 1) = some (.int .i64 x.2.1) ∧ W.cell? ((a.add (i * 3)).add 2) = some (.int .u64 x.2.2)) len0 (fun i hi => by
      have h1 := hel i hi
      rw [hce, List.getElem?_eq_getElem (by omega)] at h1
      obtain ⟨cs, hcs, htr⟩ := Option.bind_eq_some_iff.1 h1
      obtain ⟨x0, x1, x2, rfl, k0, k1, k2⟩ := cells3 hcs
      obtain ⟨y0, y1, y2, k, g0, g1, g2⟩ := etrod_struct3 Tryz.underlying37 htr
      have g0 := cut_cells (k := 1) (t := 3) (cs' := [x0]) (by kernel_rfl) rfl g0
      have g1 := cut_cells (k := 1) (t := 3) (cs' := [x1]) (by kernel_rfl) rfl g1
      have g2 := cut_cells (k := 1) (t := 35) (cs' := [x2]) (by kernel_rfl) rfl g2
      obtain ⟨b0, e0, _, _⟩ := DataW.trod_int (t := 3) Tryz.underlying3 g0
      obtain ⟨b1, e1, _, _⟩ := DataW.trod_int (t := 3) Tryz.underlying3 g1
      obtain ⟨b2, e2, _, _⟩ := DataW.trod_int (t := 35) Tryz.underlying35 g2
      simp only [List.cons.injEq, and_true] at e0 e1 e2
      subst e0 e1 e2
      exact ⟨(b0, b1, b2), k0, k1, k2⟩)
    refine ⟨rs, ⟨some a, cap0, by rw [hrl], fun hne => ?_⟩, by rw [hrl]; unfold maxLen at hcm; omega⟩
    have hpos := List.length_pos_iff.2 hne
    obtain ⟨h0, -⟩ := hrs 0 hpos
    have ea : a.add (0 * 3) = a := rfl
    rw [ea] at h0
    obtain ⟨b, off, rfl⟩ := spot_none' h0
    refine ⟨b, off, rfl, id, fun i hi => ?_⟩
    obtain ⟨k0, k1, k2⟩ := hrs i hi
    simp only [addr_add_off] at k0 k1 k2
    exact ⟨k0, k1, k2⟩

end Go.Proofs.YtdllhiihmpinoaaGreat
/-
  What RcuWaits keeps: with which step each callback was queued, and what has been left when it runs.
  Conditions: none.
-/
namespace Go.Proofs.YtdllhiihmpinoaaGreat
set_option maxRecDepth 100000
open Go.RowKit Go.Shelf

theorem report_done (g : GrS) (i : Nat) : g.done ≤ (reportG g i).done ∧ (reportG g i).done ≤ g.done + 1 ∧ (reportG g i).asked = g.asked := by
  unfold reportG
  split
  · exact ⟨by show g.done ≤ g.done + 1; omega, Int.le_refl _, rfl⟩
  · exact ⟨Int.le_refl _, by show g.done ≤ g.done + 1; omega, rfl⟩
theorem pick_bound (g : GrS) (i : Nat) (q : Bool) : g.done ≤ (pickG g i q).done ∧ (pickG g i q).done ≤ g.done + 1 ∧ (pickG g i q).asked = g.asked := by
  unfold pickG
  split
  · split
    · exact report_done g i
    · exact ⟨Int.le_refl _, by omega, rfl⟩
  · split
    · exact ⟨Int.le_refl _, by show g.done ≤ g.done + 1; omega, rfl⟩
    · exact ⟨Int.le_refl _, by omega, rfl⟩
/-- Each period that was asked for has a step; once it is over, or while it is on as far as the CPUs are not needed, no section is open from then. -/
structure WInv (s : RdS) (g : GrS) (T : Int → Int) : Prop where
  rng : ∀ y, 1 ≤ y → y ≤ g.asked → 0 ≤ T y ∧ T y ≤ s.now
  old : ∀ y, 1 ≤ y → y ≤ g.done → ∀ j, j < s.ns.length → nN s j ≠ 0 → T y < oO s j
  run : g.on = true → ∀ j, j < s.ns.length → ndB g j = false → nN s j ≠ 0 → T (g.done + 1) < oO s j
/-- The steps, behind a tick. -/
def asksT (P : PlS) (t : Int × Int) (T : Int → Int) : Int → Int := if t.1 = 3 then fun y => if y = nextG P.g then P.s.now else T y else T
theorem open_step {s : RdS} {c : Int} {en : Bool} (g : Good s) (h : stepE s c en = 0) {x : Int} (hx : x ≤ s.now) (j : Nat) (hp : nN s j ≠ 0 → x < oO s j) : nN (stepS s c en) j ≠ 0 → x < oO (stepS s c en) j := by
  obtain ⟨i, rfl, hi, hnow, h8, h0⟩ := stepE_zero h
  have hio : i < s.os.length := by have := g.lo; omega
  intro hne
  rw [stepS_n s i en hi] at hne
  rw [stepS_o s i en hio]
  by_cases e : j = i
  · subst e
    rw [if_pos rfl] at hne
    rw [if_pos (rfl : j = j)]
    cases en
    · have := h0 rfl
      simp only [Bool.false_eq_true, if_false] at hne ⊢
      split
      · omega
      · exact hp this
    · simp only [if_true] at hne ⊢
      split
      · omega
      · rename_i hn
        exact hp hn
  · rw [if_neg e] at hne
    rw [if_neg e]
    exact hp hne
theorem WInv.step {s : RdS} {g : GrS} {T : Int → Int} (h : WInv s g T) (hs : Good s) (hg : GoodG g) {c : Int} {en : Bool} (he : stepE s c en = 0) : WInv (stepS s c en) g T := by
  have hl := (stepS_len s c en).1
  have hda : g.on = true → g.done < g.asked := fun ho => (hg.on1 ho).2.1
  have hda2 : g.done ≤ g.asked := by
    cases ho : g.on with
    | true => have := hg.on1 ho; omega
    | false => have := hg.on0 ho; omega
  refine ⟨fun y h1 h2 => ?_, fun y h1 h2 j hj => ?_, fun ho j hj hb => ?_⟩
  · have := h.rng y h1 h2
    rw [stepS_now]; omega
  · rw [hl] at hj
    exact open_step hs he (h.rng y h1 (by omega)).2 j (h.old y h1 h2 j hj)
  · rw [hl] at hj
    have := hda ho
    exact open_step hs he (h.rng _ (by have := hg.d0; omega) (by omega)).2 j (h.run ho j hj hb)
theorem WInv.tick {P : PlS} {T : Int → Int} {t : Int × Int} (h : WInv P.s P.g T) (hp : GoodP P) (he : tickE P t = 0) : WInv (tickP P t).s (tickP P t).g (asksT P t T) := by
  unfold tickE at he
  unfold tickP asksT
  by_cases h1 : t.1 = 1
  · rw [if_pos h1] at he
    rw [if_pos h1, if_neg (by omega)]
    exact h.step hp.s hp.g he
  · rw [if_neg h1] at he
    rw [if_neg h1]
    by_cases h2 : t.1 = 2
    · rw [if_pos h2] at he
      rw [if_pos h2, if_neg (by omega)]
      exact h.step hp.s hp.g he
    · rw [if_neg h2] at he
      rw [if_neg h2]
      by_cases h3 : t.1 = 3
      · rw [if_pos h3, if_pos h3]
        have hn := hp.g.next
        have hnn : P.g.asked = nextG P.g ∨ P.g.asked + 1 = nextG P.g := by
          unfold nextG
          cases ho : P.g.on with
          | true => have := hp.g.on1 ho; rw [if_pos rfl]; omega
          | false => have := hp.g.on0 ho; rw [if_neg Bool.false_ne_true]; omega
        refine ⟨fun y h1 h2 => ?_, fun y h1 h2 j hj hne => ?_, fun ho j hj hb hne => ?_⟩
        · have h2' : y ≤ nextG P.g := h2
          show 0 ≤ (if y = nextG P.g then P.s.now else T y) ∧ (if y = nextG P.g then P.s.now else T y) ≤ P.s.now
          split
          · exact ⟨hp.s.n0, Int.le_refl _⟩
          · exact h.rng y h1 (by omega)
        · have h2' : y ≤ P.g.done := h2
          show (if y = nextG P.g then P.s.now else T y) < _
          rw [if_neg (by omega)]
          exact h.old y h1 h2' j hj hne
        · have ho' : P.g.on = true := ho
          show (if P.g.done + 1 = nextG P.g then P.s.now else T (P.g.done + 1)) < _
          have e : nextG P.g = P.g.done + 1 + 1 := by unfold nextG; rw [if_pos ho']
          rw [if_neg (by omega)]
          exact h.run ho' j hj hb hne
      · rw [if_neg h3] at he
        rw [if_neg h3, if_neg h3]
        have hh : hasB P.g.nd.length t.2 = true := by
          cases hh : hasB P.g.nd.length t.2 with
          | true => rfl
          | false =>
            split at he
            · cases he
            · cases he
        obtain ⟨i, hi, hil⟩ := (has_iff _ _).1 hh
        show WInv P.s (pickG P.g t.2.toNat (quietB P.s t.2)) T
        rw [hi, Int.toNat_natCast, quiet_iff hp.s i (by rw [hp.len]; exact hil)]
        have hb := pick_bound P.g i (decide (nN P.s i = 0))
        unfold pickG at hb ⊢
        by_cases ho : P.g.on = true
        · rw [if_pos ho] at hb ⊢
          by_cases hq : nN P.s i = 0
          · rw [decide_eq_true hq, if_pos rfl] at hb ⊢
            have hkey : ∀ j, j < P.s.ns.length → (P.g.nd.set i false).getD j false = false → ndB P.g j = false ∨ nN P.s j = 0 := fun j hj hf => by
              rw [getB_set] at hf
              by_cases e : j = i
              · exact .inr (by rw [e]; exact hq)
              · rw [if_neg (fun h => e h.1)] at hf; exact .inl hf
            by_cases hl : lastB P.g.nd i = true
            · have e : reportG P.g i = ⟨P.g.done + 1, P.g.asked, false, P.g.nd.set i false⟩ := by unfold reportG; rw [if_pos hl]
              rw [e]
              refine ⟨h.rng, fun y h1 h2 j hj hne => ?_, fun ho => by cases ho⟩
              have h2' : y ≤ P.g.done + 1 := h2
              by_cases hy : y ≤ P.g.done
              · exact h.old y h1 hy j hj hne
              · obtain rfl : y = P.g.done + 1 := by omega
                refine h.run ho j hj ?_ hne
                cases hb2 : ndB P.g j with
                | false => rfl
                | true =>
                  have : j = i := (last_iff _ _).1 hl j (by rw [← hp.len]; exact hj) hb2
                  rw [this] at hne
                  exact absurd hq hne
            · have e : reportG P.g i = ⟨P.g.done, P.g.asked, P.g.on, P.g.nd.set i false⟩ := by unfold reportG; rw [if_neg hl]
              rw [e]
              refine ⟨h.rng, h.old, fun _ j hj hf hne => ?_⟩
              rcases hkey j hj hf with h4 | h4
              · exact h.run ho j hj h4 hne
              · exact absurd h4 hne
          · rw [decide_eq_false hq, if_neg Bool.false_ne_true] at hb ⊢
            exact h
        · rw [if_neg ho] at hb ⊢
          split
          · refine ⟨h.rng, h.old, fun _ j hj hf hne => ?_⟩
            exfalso
            have hf' : (List.replicate P.g.nd.length true).getD j false = false := hf
            rw [List.getD_eq_getElem?_getD, List.getElem?_replicate, if_pos (by rw [← hp.len]; exact hj)] at hf'
            cases hf'
          · exact h
/-- Over: then passed. -/
theorem WInv.passed {s : RdS} {g : GrS} {T : Int → Int} (h : WInv s g T) (hs : Good s) (hg : GoodG g) {y : Int} (ho : overB g y = true) : (mayB s.now s.ns s.os && passB s.now (oldM (secs (s.ns.zip s.os))) (T y)) = true := by
  unfold overB at ho
  simp only [Bool.and_eq_true, decide_eq_true_eq] at ho
  have hda : g.done ≤ g.asked := by
    cases ho : g.on with
    | true => have := hg.on1 ho; omega
    | false => have := hg.on0 ho; omega
  have h1 := h.rng y ho.2.1 (by omega)
  rw [(good_iff s).2 hs, Bool.true_and, pass_iff hs]
  exact ⟨h1.1, h1.2, h.old y ho.2.1 ho.2.2⟩
theorem GoodG.span {g : GrS} (h : GoodG g) : g.done ≤ g.asked := by
  cases ho : g.on with
  | true => have := h.on1 ho; omega
  | false => have := h.on0 ho; omega
theorem good_zero (n : Nat) (h1 : 1 ≤ n) (h8 : n ≤ 8) : Good ⟨0, List.replicate n 0, List.replicate n 0⟩ := by
  rw [← good_iff]
  obtain rfl | rfl | rfl | rfl | rfl | rfl | rfl | rfl : n = 1 ∨ n = 2 ∨ n = 3 ∨ n = 4 ∨ n = 5 ∨ n = 6 ∨ n = 7 ∨ n = 8 := by omega
  all_goals decide
theorem goodG_zero (n : Nat) (h1 : 1 ≤ n) (h8 : n ≤ 8) : GoodG ⟨0, 0, false, List.replicate n false⟩ := by
  rw [← goodG_iff]
  obtain rfl | rfl | rfl | rfl | rfl | rfl | rfl | rfl : n = 1 ∨ n = 2 ∨ n = 3 ∨ n = 4 ∨ n = 5 ∨ n = 6 ∨ n = 7 ∨ n = 8 := by omega
  all_goals decide
theorem winv_zero (n : Nat) : WInv ⟨0, List.replicate n 0, List.replicate n 0⟩ ⟨0, 0, false, List.replicate n false⟩ (fun _ => 0) :=
  ⟨fun y h1 h2 => by have h2 : y ≤ 0 := h2; omega, fun y h1 h2 => by have h2 : y ≤ 0 := h2; omega, fun h => by cases h⟩


/-- All that waits, by its numbers. -/
def whatsR (r : RcS) : List Int := (r.qs.map fun q => q.2.map (·.2)).flatten
theorem whatsR_set (r : RcS) (i : Nat) (hi : i < r.qs.length) : ∃ A B : List Int, whatsR r = A ++ ((qAt r i).2.map (·.2) ++ B) ∧ ∀ (r' : RcS) (y : Int) (l : List (Int × Int)), r'.qs = r.qs.set i (y, l) → whatsR r' = A ++ (l.map (·.2) ++ B) := by
  refine ⟨((r.qs.take i).map fun q => q.2.map (·.2)).flatten, ((r.qs.drop (i + 1)).map fun q => q.2.map (·.2)).flatten, ?_, fun r' y l e => ?_⟩
  · have h : r.qs = r.qs.take i ++ r.qs[i] :: r.qs.drop (i + 1) := by simp
    have h' := congrArg (fun l : List (Int × List (Int × Int)) => (l.map fun q => q.2.map (·.2)).flatten) h
    simp only [List.map_append, List.map_cons, List.flatten_append, List.flatten_cons] at h'
    unfold whatsR
    rw [qAt_lt hi]
    exact h'
  · unfold whatsR
    rw [e, List.set_eq_take_append_cons_drop, if_pos hi]
    simp
theorem whats_many : ∀ qs : List (Int × List (Int × Int)), manyQ qs = ((qs.map fun q => q.2.map (·.2)).flatten.length : Int)
  | [] => rfl
  | q :: l => by
    show (q.2.length : Int) + manyQ l = _
    rw [whats_many l]
    simp
theorem whatsR_call (r : RcS) (i : Nat) (hi : i < r.qs.length) (x : Int) : (whatsR (callR r i x)).Perm (x :: whatsR r) := by
  obtain ⟨A, B, h1, h2⟩ := whatsR_set r i hi
  rw [h1, h2 (callR r i x) _ _ rfl, List.map_append]
  have : A ++ ((qAt r i).2.map (·.2) ++ [(nextG r.g, x)].map (·.2) ++ B) = (A ++ (qAt r i).2.map (·.2)) ++ x :: B := by simp
  rw [this]
  refine List.perm_middle.trans ?_
  rw [List.append_assoc]
theorem whatsR_drop (r : RcS) (i : Nat) (hi : i < r.qs.length) {c : Int × Int} {l : List (Int × Int)} (h : (qAt r i).2 = c :: l) : (whatsR r).Perm (c.2 :: whatsR (dropR r i 1)) := by
  obtain ⟨A, B, h1, h2⟩ := whatsR_set r i hi
  rw [h1, h2 (dropR r i 1) _ _ rfl, h]
  exact List.perm_middle
theorem whatsR_pick (r : RcS) (i : Nat) : whatsR (pickR r i) = whatsR r := by
  unfold pickR
  split
  · rfl
  · unfold whatsR
    simp [Function.comp_def]
theorem qAt_pick (r : RcS) (i j : Nat) (hj : j < r.qs.length) : (qAt (pickR r i) j).2 = (qAt r j).2 := by
  unfold pickR
  split
  · rfl
  · rw [qAt_lt hj, qAt_lt (by simpa using hj)]
    simp
/-- What the law keeps. -/
structure RW (r : RcS) (T st : Int → Int) (m : Int) : Prop where
  w : WInv r.s r.g T
  good : GoodR r
  m0 : 0 ≤ m
  it : ∀ q ∈ r.qs, ∀ c ∈ q.2, (1 ≤ c.1 ∧ c.1 ≤ r.g.asked) ∧ (1 ≤ c.2 ∧ c.2 ≤ m) ∧ (0 ≤ st c.2 ∧ st c.2 ≤ T c.1)
  nd : (whatsR r).Nodup
theorem RW.goodP {r : RcS} {T st : Int → Int} {m : Int} (h : RW r T st m) : GoodP ⟨r.s, r.g, []⟩ := by
  obtain ⟨g1, g2, g3, g4, -⟩ := rmay_facts h.good.may
  exact ⟨g1, (goodG_iff r.g).1 g2, by show r.s.ns.length = r.g.nd.length; omega⟩
theorem whats_bound {r : RcS} {T st : Int → Int} {m : Int} (h : RW r T st m) {x : Int} (hx : x ∈ whatsR r) : 1 ≤ x ∧ x ≤ m := by
  unfold whatsR at hx
  obtain ⟨l, hl, hx⟩ := List.mem_flatten.1 hx
  obtain ⟨q, hq, rfl⟩ := List.mem_map.1 hl
  obtain ⟨c, hc, rfl⟩ := List.mem_map.1 hx
  exact (h.it q hq c hc).2.1
theorem RW.step {r : RcS} {T st : Int → Int} {m : Int} (h : RW r T st m) {c : Int} {en : Bool} (he : stepE r.s c en = 0) : RW { r with s := stepS r.s c en } T st m :=
  ⟨h.w.step h.goodP.s h.goodP.g he, h.good.step he, h.m0, h.it, h.nd⟩
theorem RW.call {r : RcS} {T st : Int → Int} {m : Int} (h : RW r T st m) {i : Nat} (hi : i < r.qs.length) (he : callE r i = 0) :
    RW (callR r i (m + 1)) (fun y => if y = nextG r.g then r.s.now else T y) (fun k => if k = m + 1 then r.s.now else st k) (m + 1) := by
  have hP := h.goodP
  have hil : i < r.g.nd.length := by have := hP.len; obtain ⟨g1, g2, g3, g4, -⟩ := rmay_facts h.good.may; omega
  have hask : askE r.g = 0 := by
    unfold callE at he
    split at he
    · cases he
    · rename_i h0; exact Classical.not_not.1 h0
  have hw := h.w.tick (P := ⟨r.s, r.g, []⟩) (t := (3, (i : Int))) hP (by
    unfold tickE
    rw [if_neg (by simp), if_neg (by simp), if_pos rfl, if_neg (by rw [(has_iff _ _).2 ⟨i, rfl, hil⟩]; decide)]
    exact hask)
  have hs0 := hP.s.n0
  have hnx : 1 ≤ nextG r.g ∧ r.g.asked ≤ nextG r.g := by
    have h0 := hP.g.d0
    unfold nextG
    cases ho : r.g.on with
    | true => have := hP.g.on1 ho; rw [if_pos rfl]; simp only at *; omega
    | false => have := hP.g.on0 ho; rw [if_neg Bool.false_ne_true]; simp only at *; omega
  refine ⟨hw, h.good.call hi he (m + 1), by have := h.m0; omega, fun q hq c hc => ?_, ?_⟩
  · have hq' : q ∈ r.qs.set i ((qAt r i).1, (qAt r i).2 ++ [(nextG r.g, m + 1)]) := hq
    have hold : ∀ q ∈ r.qs, ∀ c ∈ q.2, (1 ≤ c.1 ∧ c.1 ≤ nextG r.g) ∧ (1 ≤ c.2 ∧ c.2 ≤ m + 1) ∧ (0 ≤ (if c.2 = m + 1 then r.s.now else st c.2) ∧ (if c.2 = m + 1 then r.s.now else st c.2) ≤ (if c.1 = nextG r.g then r.s.now else T c.1)) := fun q hq c hc => by
      obtain ⟨⟨a1, a2⟩, ⟨b1, b2⟩, d1, d2⟩ := h.it q hq c hc
      have hr := h.w.rng c.1 a1 a2
      rw [if_neg (by omega)]
      refine ⟨⟨a1, by omega⟩, ⟨b1, by omega⟩, d1, ?_⟩
      split
      · omega
      · exact d2
    show (1 ≤ c.1 ∧ c.1 ≤ nextG r.g) ∧ (1 ≤ c.2 ∧ c.2 ≤ m + 1) ∧ (0 ≤ (if c.2 = m + 1 then r.s.now else st c.2) ∧ (if c.2 = m + 1 then r.s.now else st c.2) ≤ (if c.1 = nextG r.g then r.s.now else T c.1))
    rcases List.mem_or_eq_of_mem_set hq' with hq1 | rfl
    · exact hold q hq1 c hc
    · rcases List.mem_append.1 hc with hc | hc
      · exact hold _ (by rw [qAt_lt hi]; exact List.getElem_mem hi) c hc
      · obtain rfl : c = (nextG r.g, m + 1) := by simpa using hc
        rw [if_pos rfl, if_pos rfl]
        have := h.m0
        exact ⟨⟨hnx.1, Int.le_refl _⟩, ⟨by show 1 ≤ m + 1; omega, Int.le_refl _⟩, hs0, Int.le_refl _⟩
  · refine (whatsR_call r i hi (m + 1)).nodup_iff.2 (List.nodup_cons.2 ⟨fun hx => ?_, h.nd⟩)
    have := (whats_bound h hx).2
    omega
theorem RW.pick {r : RcS} {T st : Int → Int} {m : Int} (h : RW r T st m) {i : Nat} (hi : i < r.qs.length) : RW (pickR r i) T st m := by
  have hP := h.goodP
  have hil : i < r.g.nd.length := by have := hP.len; obtain ⟨g1, g2, g3, g4, -⟩ := rmay_facts h.good.may; omega
  have hw := h.w.tick (P := ⟨r.s, r.g, []⟩) (t := (4, (i : Int))) hP (by
    unfold tickE
    rw [if_neg (by simp), if_neg (by simp), if_neg (by simp), if_pos rfl, if_neg (by rw [(has_iff _ _).2 ⟨i, rfl, hil⟩]; decide)])
  have hask : (pickR r i).g.asked = r.g.asked := by
    have e : (pickR r i).g = pickG r.g i (quietB r.s i) := by unfold pickR; split <;> rfl
    rw [e]
    unfold pickG reportG beginG
    split
    · split
      · split <;> rfl
      · rfl
    · split <;> rfl
  have hw' : WInv (pickR r i).s (pickR r i).g T := by
    have e1 : (pickR r i).s = r.s := by unfold pickR; split <;> rfl
    have e2 : (pickR r i).g = pickG r.g i (quietB r.s i) := by unfold pickR; split <;> rfl
    rw [e1, e2]
    exact hw
  refine ⟨hw', h.good.pick i, h.m0, fun q hq c hc => ?_, by rw [whatsR_pick]; exact h.nd⟩
  rw [hask]
  unfold pickR at hq
  split at hq
  · exact h.it q hq c hc
  · obtain ⟨q', hq', rfl⟩ := List.mem_map.1 hq
    exact h.it q' hq' c hc
/-- What runs: it is the first of its CPU, and each section has been left that was open when it was queued. -/
theorem RW.run {r : RcS} {T st : Int → Int} {m : Int} (h : RW r T st m) {i : Nat} (hi : i < r.qs.length) (he : runE r i = 0) :
    ∃ c l, (qAt r i).2 = c :: l ∧ (told r i).take 1 = [c.2] ∧ (mayB r.s.now r.s.ns r.s.os && passB r.s.now (oldM (secs (r.s.ns.zip r.s.os))) (st c.2)) = true ∧ RW (dropR r i 1) T st m := by
  have hP := h.goodP
  have hne : told r i ≠ [] := by
    intro e
    unfold runE at he
    rw [if_pos e] at he
    cases he
  have hmem : qAt r i ∈ r.qs := by rw [qAt_lt hi]; exact List.getElem_mem hi
  cases hq : (qAt r i).2 with
  | nil =>
    exfalso
    apply hne
    unfold told
    rw [hq]
    rfl
  | cons c l =>
    have hd : c.1 ≤ (qAt r i).1 ∧ (told r i).take 1 = [c.2] := by
      unfold told U.dones U.whats at hne ⊢
      rw [hq] at hne ⊢
      by_cases hc : c.1 ≤ (qAt r i).1
      · exact ⟨hc, by simp [hc]⟩
      · exfalso
        apply hne
        simp [hc]
    obtain ⟨a1, a2, a3⟩ := h.it _ hmem c (by rw [hq]; exact List.mem_cons_self ..)
    obtain ⟨-, g2, -, -, g5⟩ := rmay_facts h.good.may
    have hov := (g5 _ hmem).2.1
    have hpass := h.w.passed hP.s hP.g (y := c.1) (by
      unfold overB
      rw [g2, decide_eq_true a1.1, decide_eq_true (show c.1 ≤ r.g.done by omega)]
      rfl)
    refine ⟨c, l, rfl, hd.2, ?_, ⟨h.w, h.good.drop hi 1, h.m0, fun q hq' c' hc' => ?_, ?_⟩⟩
    · simp only [Bool.and_eq_true] at hpass ⊢
      refine ⟨hpass.1, ?_⟩
      have h2 := hpass.2
      unfold passB at h2 ⊢
      simp only [Bool.and_eq_true, Bool.or_eq_true, decide_eq_true_eq] at h2 ⊢
      omega
    · have hq2 : q ∈ r.qs.set i ((qAt r i).1, (qAt r i).2.drop 1) := hq'
      rcases List.mem_or_eq_of_mem_set hq2 with hq1 | rfl
      · exact h.it q hq1 c' hc'
      · exact h.it _ hmem c' (List.mem_of_mem_drop hc')
    · exact (List.nodup_cons.1 ((whatsR_drop r i hi hq).nodup_iff.1 h.nd)).2
theorem rw_new (n : Nat) (l1 : 1 ≤ n) (l8 : n ≤ 8) : RW (rNew n) (fun _ => 0) (fun _ => 0) 0 := by
  have hg : GoodR (rNew n) := ⟨by
    obtain rfl | rfl | rfl | rfl | rfl | rfl | rfl | rfl : n = 1 ∨ n = 2 ∨ n = 3 ∨ n = 4 ∨ n = 5 ∨ n = 6 ∨ n = 7 ∨ n = 8 := by omega
    all_goals kernel_rfl, fun q hq c hc => by
    simp [rNew] at hq
    rw [hq.2] at hc
    cases hc⟩
  refine ⟨winv_zero n, hg, Int.le_refl _, fun q hq c hc => ?_, ?_⟩
  · simp [rNew] at hq
    rw [hq.2] at hc
    cases hc
  · have : whatsR (rNew n) = [] := by simp [whatsR, rNew]
    rw [this]
    exact List.nodup_nil

end Go.Proofs.YtdllhiihmpinoaaGreat
/-
  What RcuWaits keeps in memory: the map of the steps; the rows of what was queued, and the map of these.
  Conditions: as each has them.
-/
namespace Go.Proofs.YtdllhiihmpinoaaGreat
set_option maxRecDepth 100000
open Go.RowKit Go.Shelf Go.Maps

theorem u64Keyed : Keyed Tryz.prog 35 := int_keyed Tryz.underlying35
theorem kB' {w w' : World} (h : Below w.heap.size w w') : w.grownBy w' none := ⟨h.os, h.tape, h.output, h.size, fun i hi _ => h.block i hi⟩
theorem wfU' {x : Int} (h : 0 ≤ x ∧ x < 18446744073709551616) : (Lit.int .u64 x).wf = true := by simp [Lit.wf, IntKind.min, IntKind.max, IntKind.signed, IntKind.bits]; omega
theorem wfI' {x : Int} (h : -9223372036854775808 ≤ x ∧ x ≤ 9223372036854775807) : (Lit.int .i64 x).wf = true := by simp [Lit.wf, IntKind.min, IntKind.max, IntKind.signed, IntKind.bits]; omega
/-- The map of the steps: its keys are what waits. -/
def MapA (W : World) (mb k : Nat) (L : List Int) (st : Int → Int) : Prop := ∃ D : DataW Unit, W.ownsMap Tryz.prog 35 (plainElem Tryz.prog 3) mb k D ∧ Tidy D ∧ (∀ y : Int, Maps.has D (.int .u64 y) = decide (y ∈ L)) ∧ Maps.size D = L.length ∧ ∀ y ∈ L, ∀ zd, D.atKey (.int .u64 y) zd = .lit (.int .i64 (st y))
theorem MapA.new (W : World) (st : Int → Int) : MapA (W.alloc (.map #[] 0)) W.heap.size 0 [] st := ⟨.map [], World.ownsMap_made W _ _ _, tidy_empty, fun y => by simp [Maps.has_eq], rfl, fun y h => by cases h⟩
theorem MapA.below {W W' : World} {mb k : Nat} {L : List Int} {st : Int → Int} (h : MapA W mb k L st) (hb : Below W.heap.size W W') : MapA W' mb k L st := by
  obtain ⟨D, ho, hD⟩ := h
  exact ⟨D, ho.kept (kB' hb) (by simp), hD⟩
theorem MapA.lt {W : World} {mb k : Nat} {L : List Int} {st : Int → Int} (h : MapA W mb k L st) : mb < W.heap.size := by
  obtain ⟨D, ho, _⟩ := h
  exact ho.lt
theorem MapA.keeps {S : Nat → Prop} {W W' : World} {mb k : Nat} {L : List Int} {st : Int → Int} (h : MapA W mb k L st) (hk : Keeps S W W') (hS : ¬ S mb) : MapA W' mb k L st := by
  have hlt := h.lt
  obtain ⟨D, ⟨es, ck, h1, h2⟩, hD⟩ := h
  exact ⟨D, ⟨es, ck, (hk.block mb hlt hS).trans h1, h2⟩, hD⟩
theorem MapA.perm {W : World} {mb k : Nat} {L L' : List Int} {st st' : Int → Int} (h : MapA W mb k L st) (hp : L.Perm L') (hs : ∀ y ∈ L, st' y = st y) : MapA W mb k L' st' := by
  obtain ⟨D, h1, h2, h3, h4, h5⟩ := h
  exact ⟨D, h1, h2, fun y => by rw [h3, decide_eq_decide]; exact hp.mem_iff, by rw [h4]; exact hp.length_eq, fun y hy zd => by rw [h5 y (hp.mem_iff.2 hy), hs y (hp.mem_iff.2 hy)]⟩
theorem MapA.len {W : World} {mb k : Nat} {L : List Int} {st : Int → Int} (h : MapA W mb k L st) : (Builtin.len_ #[57] 3 #[.map (some mb)]).run Tryz.prog W = .ok (.int .i64 (L.length : Int)) W := by
  obtain ⟨D, ho, -, -, hs, -⟩ := h
  rw [← hs]
  exact ho.len Tryz.underlying57 _
theorem MapA.look {W : World} {mb k : Nat} {L : List Int} {st : Int → Int} (h : MapA W mb k L st) {y : Int} (hy : y ∈ L) (hr : 0 ≤ y ∧ y < 18446744073709551616) : (Instr.lookup 57 (.map (some mb)) (.int .u64 y) true).run Tryz.prog W = .ok (.tuple #[.int .i64 (st y), .bool true]) W := by
  obtain ⟨D, ho, hD⟩ := h
  obtain ⟨v, ps, hrun, hv⟩ := ho.look_ok u64Keyed Tryz.underlying57 (z := .int .i64 0) (by kernel_rfl) (plainElem_int Tryz.underlying3 (by decide)) (keyOf_int_mk Tryz.underlying35 (wfU' hr))
  obtain ⟨c, rfl, hc, hwc⟩ := plainElem_int_inv Tryz.underlying3 hv
  rw [hD.2.1, decide_eq_true hy] at hrun
  rw [hD.2.2.2 y hy] at hc
  have hc := congrArg Prod.fst hc
  simp only [DataW.lit.injEq, Lit.int.injEq, true_and] at hc
  rw [hrun, hc]
theorem MapA.put {W : World} {mb k : Nat} {L : List Int} {st : Int → Int} (h : MapA W mb k L st) (x c : Int) (hx : x ∉ L) (hr : 0 ≤ x ∧ x < 18446744073709551616) (hc : 0 ≤ c ∧ c ≤ 2147483648) (hn : k < 1000000000) :
    ∃ W', (Instr.mapUpdate 57 (.map (some mb)) (.int .u64 x) (.int .i64 c)).run Tryz.prog W = .ok () W' ∧ MapA W' mb (k + 1) (x :: L) (fun y => if y = x then c else st y) ∧ Keeps (fun k => k = mb) W W' := by
  obtain ⟨D, ho, ht, hD1, hD2, hD3⟩ := h
  have hmap : IsMap D := ho.isMap
  have hkey := keyOf_int_mk (P := Tryz.prog) (k := 35) Tryz.underlying35 (wfU' hr)
  obtain ⟨W', hrun, ho', hg⟩ := ho.update u64Keyed Tryz.underlying57 (by unfold maxLen; omega) hkey (plainElem_int Tryz.underlying3 (wfI' (x := c) (by omega)))
  refine ⟨W', hrun, ⟨_, ho', ht.put (u64Keyed.key hkey) _, fun z => ?_, ?_, fun z hz zd => ?_⟩, ⟨hg.os, hg.tape, hg.output, hg.size, fun i hi hne => hg.block i hi (fun e => hne (by injection e))⟩⟩
  · by_cases hz : z = x
    · subst hz
      rw [has_put_same hmap (u64Keyed.key hkey), decide_eq_true (List.mem_cons_self ..)]
    · rw [has_put_other (by intro e; injection e with _ e; exact hz e), hD1, decide_eq_decide]
      simp [hz]
  · rw [size_put ht, hD1, decide_eq_false hx, hD2]
    simp
  · by_cases hzx : z = x
    · subst hzx
      rw [atKey_put_same hmap (u64Keyed.key hkey)]; simp
    · have hz' : z ∈ L := (List.mem_cons.1 hz).resolve_left hzx
      rw [atKey_put_other (by intro e; injection e with _ e; exact hzx e), hD3 z hz']; simp [hzx]
theorem MapA.del {W : World} {mb k : Nat} {L : List Int} {st : Int → Int} (x : Int) (h : MapA W mb k (x :: L) st) (hx : x ∉ L) (hr : 0 ≤ x ∧ x < 18446744073709551616) (ty : TypeId) :
    ∃ W', (Builtin.delete_ #[57, 35] ty #[.map (some mb), .int .u64 x]).run Tryz.prog W = .ok (.tuple #[]) W' ∧ MapA W' mb k L st ∧ Keeps (fun k => k = mb) W W' := by
  obtain ⟨D, ho, ht, hD1, hD2, hD3⟩ := h
  have hkey := keyOf_int_mk (P := Tryz.prog) (k := 35) Tryz.underlying35 (wfU' hr)
  obtain ⟨W', hrun, ho', hg⟩ := ho.drop u64Keyed Tryz.underlying57 hkey ty
  have hg := hg.grown
  refine ⟨W', hrun, ⟨_, ho', ht.del _, fun z => ?_, ?_, fun z hz zd => ?_⟩, ⟨hg.os, hg.tape, hg.output, hg.size, fun i hi hne => hg.block i hi (fun e => hne (by injection e))⟩⟩
  · by_cases hz : z = x
    · subst hz
      rw [has_del_same, decide_eq_false hx]
    · rw [has_del_other (by intro e; injection e with _ e; exact hz e), hD1, decide_eq_decide]
      simp [hz]
  · have := size_del (k := .int .u64 x) ht
    rw [hD1, decide_eq_true (List.mem_cons_self ..), hD2] at this
    simp at this
    omega
  · have hzx : z ≠ x := fun e => hx (e ▸ hz)
    rw [atKey_del_other (by intro e; injection e with _ e; exact hzx e), hD3 z (List.mem_cons_of_mem _ hz)]

/-! ## The row of what is put -/
def PutR (B : Nat) (v : Value) (xs : List Int) (w : World) : Prop :=
  (v = .slice none 0 0 ∧ xs = []) ∨ ∃ g off c cur, v = .slice (some ⟨g, off, none⟩) xs.length c ∧ B ≤ g ∧ w.heap[g]? = some (.cells cur 35 (0, 0)) ∧ xs.length ≤ c ∧ c ≤ 9223372036854775807 ∧ off + c ≤ cur.size ∧ ∀ j (h : j < xs.length), cur[off + j]? = some (.int .u64 xs[j])
theorem PutR.kept {B : Nat} {v : Value} {xs : List Int} {w w' : World} (h : PutR B v xs w) (hk : ∀ g, v.ownBlock = some g → w'.heap[g]? = w.heap[g]?) : PutR B v xs w' := by
  rcases h with h | ⟨g, off, c, cur, rfl, h1, h2, h3, h4, h5⟩
  · exact .inl h
  · exact .inr ⟨g, off, c, cur, rfl, h1, (hk g rfl).trans h2, h3, h4, h5⟩
theorem PutR.lt {B : Nat} {v : Value} {xs : List Int} {w : World} (h : PutR B v xs w) {g : Nat} (hg : v.ownBlock = some g) : B ≤ g ∧ g < w.heap.size ∧ ∃ cur, w.heap[g]? = some (.cells cur 35 (0, 0)) := by
  rcases h with ⟨rfl, _⟩ | ⟨g', off, c, cur, rfl, h1, h2, _⟩
  · cases hg
  · have hg' : some g' = some g := hg
    injection hg' with hg'
    subst hg'
    exact ⟨h1, (Array.getElem?_eq_some_iff.1 h2).1, cur, h2⟩
theorem PutR.below {B : Nat} {v : Value} {xs : List Int} {w w' : World} (h : PutR B v xs w) (hb : Below w.heap.size w w') : PutR B v xs w' := h.kept (fun g e => hb.block g (h.lt e).2.1)
theorem PutR.keeps {S : Nat → Prop} {B : Nat} {v : Value} {xs : List Int} {w w' : World} (h : PutR B v xs w) (hk : Keeps S w w') (hS : ∀ g, v.ownBlock = some g → ¬ S g) : PutR B v xs w' := h.kept (fun g e => hk.block g (h.lt e).2.1 (hS g e))
theorem putR_of_owns {B C : Nat} {v : Value} {xs : List Int} {n : Nat} {w : World} (h : w.ownsRow C 35 1 v n (xs.map (Value.int .u64))) (hn : 0 < n) (hC : B ≤ C) : ∃ g c, v = .slice (some ⟨g, 0, none⟩) n c ∧ C ≤ g ∧ PutR B (.slice (some ⟨g, 0, none⟩) n c) xs w := by
  have hl := h.1
  rw [List.length_map] at hl
  obtain rfl : xs.length = n := by omega
  rcases id h.2 with ⟨_, h0⟩ | ⟨g, cap, cur, rfl, hB, hg, hcp, hmx, hsz, _⟩
  · omega
  · refine ⟨g, cap, rfl, hB, .inr ⟨g, 0, cap, cur, rfl, by omega, hg, hcp, by unfold maxLen at hmx; omega, by omega, fun j hj => ?_⟩⟩
    have h1 := h.cellAt j (by omega)
    simp only [World.cell?, hg] at h1
    rw [Nat.zero_add]
    simpa [hj] using h1
/-- The first one of it; the row behind it. -/
theorem PutR.first {B : Nat} {v : Value} {x : Int} {xs : List Int} {w : World} (h : PutR B v (x :: xs) w) : ∃ g off c, v = .slice (some ⟨g, off, none⟩) (xs.length + 1) c ∧ xs.length + 1 ≤ c ∧ c ≤ 9223372036854775807 ∧ w.cell? ⟨g, off, none⟩ = some (.int .u64 x) := by
  rcases h with ⟨_, h⟩ | ⟨g, off, c, cur, rfl, h1, h2, h3, h4, h5, h6⟩
  · cases h
  · have := h6 0 (by simp)
    exact ⟨g, off, c, rfl, h3, h4, by simp [World.cell?, h2]; simpa using this⟩
def restA (g off c : Nat) : Option Addr := if c = 1 then some ⟨g, off, none⟩ else some ⟨g, off + 1, none⟩
theorem PutR.rest {B g off c : Nat} {x : Int} {xs : List Int} {w : World} (h : PutR B (.slice (some ⟨g, off, none⟩) (xs.length + 1) c) (x :: xs) w) : PutR B (.slice (restA g off c) xs.length (c - 1)) xs w := by
  rcases h with ⟨_, h⟩ | ⟨g', off', c', cur, e, h1, h2, h3, h4, h5, h6⟩
  · cases h
  · injection e with e1 _ e3
    injection e1 with e1
    injection e1 with e1 e2
    subst e1 e2 e3
    have h3' : xs.length + 1 ≤ c := h3
    unfold restA
    by_cases hc : c = 1
    · rw [if_pos hc]
      exact .inr ⟨g, off, c - 1, cur, rfl, h1, h2, by omega, by omega, by omega, fun j hj => by omega⟩
    · rw [if_neg hc]
      refine .inr ⟨g, off + 1, c - 1, cur, rfl, h1, h2, by omega, by omega, by omega, fun j hj => ?_⟩
      have := h6 (j + 1) (by simp; omega)
      rw [show off + 1 + j = off + (j + 1) by omega, this]; rfl
theorem run_rest (g off n c : Nat) (h1 : 1 ≤ n) (_ : n ≤ c) (_ : c ≤ 9223372036854775807) (wx : World) :
    (Instr.slice 40 (.slice (some ⟨g, off, none⟩) n c) (some (.int .i64 1)) none none).run Tryz.prog wx = .ok (.slice (restA g off c) (n - 1) (c - 1)) wx := by
  rw [run_slice_l wx 40 (some ⟨g, off, none⟩) n c Tryz.underlying40 .i64 1 (by omega) (by omega)]
  have hE : (sizeOf (Tryz.prog.elem 40)).run Tryz.prog wx = .ok 1 wx := by go_simp
  rw [hE]
  simp only [sliced, Result.andThen, restA]
  by_cases hc1 : c = 1
  · rw [if_pos (by simpa using hc1), if_pos hc1]; rfl
  · rw [if_neg (by simpa using hc1), if_neg hc1]; rfl
theorem wpList_app_put {ops : Array Oper} {rest : List Oper} {o : Oper} {a : Act} {Q : Exit → Act → World → Prop} {w : World} (hgd : o.guard = none) (s x : Operand)
    (ho : o.op = .call { callee := .builtin .append, args := #[s, x], argTypes := #[40, 40] })
    (B : Nat) (v : Value) (xs : List Int) (hs : a.eval s = v) (h : PutR B v xs w) (b c : Nat) (y : Int) (hx : a.eval x = .slice (some ⟨b, 0, none⟩) 1 c) (h0 : w.cell? ⟨b, 0, none⟩ = some (.int .u64 y)) (hl : xs.length ≤ 1000000) (hB : B ≤ w.heap.size)
    (hK : ∀ g off r w', PutR B (.slice (some ⟨g, off, none⟩) (xs.length + 1) r) (xs ++ [y]) w' → Keeps (fun k => some k = v.ownBlock) w w' → (some g = v.ownBlock ∨ w.heap.size ≤ g) → wpList Tryz.prog ops Q rest (a.put o.dst (.slice (some ⟨g, off, none⟩) (xs.length + 1) r)) w') :
    wpList Tryz.prog ops Q (o :: rest) a w := by
  obtain ⟨i0, hi, hz0, hz1, hz2⟩ := info_parts U.info_w
  have hnews : ∀ j u, [Value.int .u64 y][j]? = some u → w.cell? ((⟨b, 0, none⟩ : Addr).add j) = some u := fun j u hj => by
    rw [addr_add_off, Nat.zero_add]
    match j, hj with
    | 0, hj => simp only [List.getElem?_cons_zero, Option.some.injEq] at hj; rw [← hj]; exact h0
  have h1c : ∀ u ∈ [Value.int .u64 y], u.oneCell' = true := fun u hu => by rw [List.mem_singleton.1 hu]; rfl
  have grown : ∀ {v' w'}, w'.ownsRow w.heap.size 35 1 v' (xs.length + 1) (xs.map (Value.int .u64) ++ [.int .u64 y]) → w.grownBy w' none → wpList Tryz.prog ops Q rest (a.put o.dst v') w' := fun {v' w'} r1 r2 => by
    have e : xs.map (Value.int .u64) ++ [.int .u64 y] = (xs ++ [y]).map (Value.int .u64) := by simp
    rw [e] at r1
    obtain ⟨g, c', rfl, hg, hp⟩ := putR_of_owns (B := B) r1 (by omega) hB
    exact hK g 0 c' w' hp ⟨r2.os, r2.tape, r2.output, r2.size, fun k hk _ => r2.block k hk (by simp)⟩ (.inr hg)
  rcases h with ⟨rfl, rfl⟩ | ⟨g, off, cp, cur, rfl, g1, g2, g3, g4, g5, g6⟩
  · refine wpList_append_own_at w hgd s x 40 ho w.heap.size 35 i0 (.int .u64 0) 1 8 Tryz.underlying40 hi hz0 hz1 hz2 rfl (by decide) (.slice none 0 0) 0 [] hs (World.ownsRow_nil _ _ _ _) ⟨b, 0, none⟩ 1 c [.int .u64 y] hx rfl hnews h1c (by unfold maxLen; omega) (by omega) (Nat.le_refl _) fun v' w' h2 h3 _ _ => grown h2 h3
  · have hcell : ∀ j, j < cp → (w.cell? ⟨g, off + j, none⟩).isSome = true := fun j hj => by
      simp only [World.cell?, g2]
      rw [Array.getElem?_eq_getElem (by omega)]; rfl
    refine wpList_append_arg w hgd s x 40 ho 35 i0 (.int .u64 0) 1 8 Tryz.underlying40 hi hz0 hz1 hz2 rfl (by decide) g off xs.length cp (xs.map (Value.int .u64)) hs (by simp) (fun j u hj => ?_) ⟨b, 0, none⟩ 1 c [.int .u64 y] hx rfl hnews h1c (fun hr j hj => ?_) (by unfold maxLen; omega) (by omega) (fun hr => ?_) (fun hr v' w' r1 r2 => grown r1 r2)
    · rw [List.getElem?_map] at hj
      obtain ⟨z, hz, rfl⟩ := Option.map_eq_some_iff.1 hj
      obtain ⟨hlt, hz'⟩ := List.getElem?_eq_some_iff.1 hz
      have := g6 j hlt
      rw [hz'] at this
      simp only [World.cell?, g2]
      exact this
    · have hj' : j = 0 := by simpa using hj
      subst hj'
      exact ⟨by simpa using hcell xs.length (by omega), by simp [World.frozen?, g2]⟩
    · have e : w.setCells g (off + xs.length * 1) [.int .u64 y] = w.setCell ⟨g, off + xs.length, none⟩ (.int .u64 y) := by rw [Nat.mul_one]; rfl
      rw [e]
      have hh := heap_setCell_same w g (off + xs.length) cur _ (.int .u64 y) g2
      refine hK g off cp _ (.inr ⟨g, off, cp, _, by simp, g1, hh, by simp; omega, g4, by simpa using g5, fun j hj => ?_⟩) ((Keeps.setCell w (S := (· = g)) (p := ⟨g, off + xs.length, none⟩) rfl _).sub fun k _ e => by rw [e]; rfl) (.inl rfl)
      rw [List.length_append, List.length_singleton] at hj
      by_cases hjx : j < xs.length
      · rw [Array.getElem?_setIfInBounds_ne (by omega), g6 j hjx, List.getElem_append_left hjx]
      · obtain rfl : j = xs.length := by omega
        rw [Array.getElem?_setIfInBounds_self_of_lt (by omega)]
        simp


/-! ## The map of the rows -/
/-- A row, read as where it lies. -/
def elemR : Value → Option (DataW Unit × List MemPlace)
  | .slice none 0 0 => some (.nil, [])
  | .slice (some ⟨g, off, none⟩) n c => some (.agg [.lit (.int .i64 (g : Int)), .lit (.int .i64 (off : Int)), .lit (.int .i64 (n : Int)), .lit (.int .i64 (c : Int))], [])
  | _ => none
def rowD : Value → DataW Unit
  | .slice (some ⟨g, off, none⟩) n c => .agg [.lit (.int .i64 (g : Int)), .lit (.int .i64 (off : Int)), .lit (.int .i64 (n : Int)), .lit (.int .i64 (c : Int))]
  | _ => .nil
theorem elemR_mk {B : Nat} {v : Value} {xs : List Int} {w : World} (h : PutR B v xs w) : elemR v = some (rowD v, []) := by
  rcases h with ⟨rfl, _⟩ | ⟨g, off, c, cur, rfl, _⟩
  · rfl
  · rfl
theorem elemR_inv {B : Nat} {v v' : Value} {xs : List Int} {w : World} (h : PutR B v xs w) {ps : List MemPlace} (hv : elemR v' = some (rowD v, ps)) : v' = v := by
  rcases h with ⟨rfl, _⟩ | ⟨g, off, c, cur, rfl, _⟩
  · unfold elemR at hv
    split at hv
    · rfl
    · simp [rowD] at hv
    · cases hv
  · unfold elemR at hv
    split at hv
    · simp [rowD] at hv
    · simp only [rowD, Option.some.injEq, Prod.mk.injEq, DataW.agg.injEq, List.cons.injEq, DataW.lit.injEq, Lit.int.injEq, true_and, and_true] at hv
      obtain ⟨⟨h1, h2, h3, h4⟩, -⟩ := hv
      have e1 := Int.ofNat.inj h1
      have e2 := Int.ofNat.inj h2
      have e3 := Int.ofNat.inj h3
      have e4 := Int.ofNat.inj h4
      subst e1 e2 e3 e4
      rfl
    · cases hv
/-- The map of the rows: of each CPU below n what F says, or nothing if it has none. -/
def MapQ (W : World) (mb k n : Nat) (F : Nat → Value) : Prop := ∃ D : DataW Unit, W.ownsMap Tryz.prog 3 elemR mb k D ∧ ∀ i, i < n → D.atKey (.int .i64 (i : Int)) .nil = rowD (F i)
theorem MapQ.new (W : World) (n : Nat) : MapQ (W.alloc (.map #[] 0)) W.heap.size 0 n (fun _ => .slice none 0 0) := ⟨.map [], World.ownsMap_made W _ _ _, fun _ _ => rfl⟩
theorem MapQ.below {W W' : World} {mb k n : Nat} {F : Nat → Value} (h : MapQ W mb k n F) (hb : Below W.heap.size W W') : MapQ W' mb k n F := by
  obtain ⟨D, ho, hD⟩ := h
  exact ⟨D, ho.kept (kB' hb) (by simp), hD⟩
theorem MapQ.lt {W : World} {mb k n : Nat} {F : Nat → Value} (h : MapQ W mb k n F) : mb < W.heap.size := by
  obtain ⟨D, ho, _⟩ := h
  exact ho.lt
theorem MapQ.keeps {S : Nat → Prop} {W W' : World} {mb k n : Nat} {F : Nat → Value} (h : MapQ W mb k n F) (hk : Keeps S W W') (hS : ¬ S mb) : MapQ W' mb k n F := by
  have hlt := h.lt
  obtain ⟨D, ⟨es, ck, h1, h2⟩, hD⟩ := h
  exact ⟨D, ⟨es, ck, (hk.block mb hlt hS).trans h1, h2⟩, hD⟩
theorem MapQ.look {W : World} {mb k n : Nat} {F : Nat → Value} (h : MapQ W mb k n F) {i : Nat} (hi : i < n) (hn : n ≤ 8) {B : Nat} {xs : List Int} {w : World} (hp : PutR B (F i) xs w) : (Instr.lookup 58 (.map (some mb)) (.int .i64 (i : Int)) false).run Tryz.prog W = .ok (F i) W := by
  obtain ⟨D, ho, hD⟩ := h
  obtain ⟨v, ps, hrun, hv⟩ := ho.lookup intKeyed Tryz.underlying58 (z := .slice none 0 0) (by kernel_rfl) (zd := .nil) (zp := []) rfl (keyOf_int_mk Tryz.underlying3 (wfI' (x := (i : Int)) (by omega)))
  rw [hD i hi] at hv
  rw [hrun, elemR_inv hp hv]
theorem MapQ.put {W : World} {mb k n : Nat} {F : Nat → Value} (h : MapQ W mb k n F) {i : Nat} (hi : i < n) (hn : n ≤ 8) (hk : k < 1000000000) {v : Value} {B : Nat} {xs : List Int} {w : World} (hp : PutR B v xs w) :
    ∃ W', (Instr.mapUpdate 58 (.map (some mb)) (.int .i64 (i : Int)) v).run Tryz.prog W = .ok () W' ∧ MapQ W' mb (k + 1) n (fun j => if j = i then v else F j) ∧ Keeps (fun k => k = mb) W W' := by
  obtain ⟨D, ho, hD⟩ := h
  have hmap : IsMap D := ho.isMap
  have hkey := keyOf_int_mk (P := Tryz.prog) (k := 3) Tryz.underlying3 (wfI' (x := (i : Int)) (by omega))
  obtain ⟨W', hrun, ho', hg⟩ := ho.update intKeyed Tryz.underlying58 (by unfold maxLen; omega) hkey (elemR_mk hp)
  refine ⟨W', hrun, ⟨_, ho', fun j hj => ?_⟩, ⟨hg.os, hg.tape, hg.output, hg.size, fun i hi hne => hg.block i hi (fun e => hne (by injection e))⟩⟩
  by_cases hji : j = i
  · subst hji
    rw [atKey_put_same hmap (intKeyed.key hkey)]; simp
  · rw [atKey_put_other (by intro e; injection e with _ e; exact hji (by omega)), hD j hj]; simp [hji]

end Go.Proofs.YtdllhiihmpinoaaGreat
namespace Go.Proofs.YtdllhiihmpinoaaGreat

/-- A region's operations, wherever it lies. -/
def regDeep (id : Nat) : Code → Option (Array Oper)
  | .region i ops _ => if i = id then some ops else none
  | .seq a b => match regDeep id a with
    | some o => some o
    | none => regDeep id b
  | .cond _ a b => match regDeep id a with
    | some o => some o
    | none => regDeep id b
  | .block _ a => regDeep id a
  | .loop a => regDeep id a
  | .scope a => regDeep id a
  | .rangeFunc _ _ a b => match regDeep id a with
    | some o => some o
    | none => regDeep id b
  | _ => none

end Go.Proofs.YtdllhiihmpinoaaGreat
