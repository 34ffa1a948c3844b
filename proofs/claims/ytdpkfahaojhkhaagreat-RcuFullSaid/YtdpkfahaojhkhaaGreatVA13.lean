/-
  What the first test of the statements of layer 14 stands on.
  Conditions: as each has them.
-/
import Derived.Test.YtdpkfahaojhkhaaGreatVA12
import Derived.Test.YtdpkfahaojhkhaaGreatVA6
import Derived.Test.YtdpkfahaojhkhaaGreatVA5
/-
  Package rcu: Step.
  Conditions: the ranges of Go's types.
-/
namespace Go.Proofs.YtdpkfahaojhkhaaGreat
set_option maxRecDepth 100000
open Go.RowKit Go.Shelf
attribute [local go_sem] Oper.semAt_some

def stepAE (r : RcS) (o : Int × Int × Int) : Int := if rmayB r = true then opE r o else 240
def toldO (r : RcS) (o : Int × Int × Int) : Int := (opW r o).headD 0
/-- What Step answers. -/
def StQ (B : Nat) (E : Int) (r' : RcS) (y : Int) (e : Ending) (w' : World) : Prop := ∃ now u v d a on nv qv x, e = .returned (.tuple #[.agg #[.int .i64 now, u, v, .int .i64 d, .int .i64 a, .bool on, nv, qv], .int .u64 (if E = 0 then y else 0), .int .i64 x]) ∧ AnsX B E r' [] now u v d a on nv qv nilV x w'
theorem ansX_nil {B : Nat} {E : Int} {r' : RcS} {ws : List Int} {now : Int} {u v : Value} {d a : Int} {on : Bool} {nv qv lv : Value} {x : Int} {X : World} (h : AnsX B E r' ws now u v d a on nv qv lv x X) : AnsX B E r' [] now u v d a on nv qv nilV x X := by
  obtain ⟨⟨s1, s2, s3, s4, s5⟩, h | ⟨h1, h2, h3, h4, h5, h6, h7, h8⟩⟩ := h
  · obtain ⟨h1, h2, h3, h4, h5, h6, h7, h8, h9, h10, h11⟩ := h
    exact ⟨⟨s1, s2, s3, s4, nil_sl⟩, .inl ⟨h1, h2, h3, h4, h5, h6, h7, h8, h9, h10, rfl⟩⟩
  · exact ⟨⟨s1, s2, s3, s4, nil_sl⟩, .inr ⟨h1, h2, h3, h4, h5, h6, h7, World.ownsRow_nil _ _ _ _⟩⟩

set_option maxHeartbeats 32000000 in
theorem rStep_c (r : RcS) (u v nv qv : Value) (k c x0 : Int) (W : World) (hi : RcIn U.NoS W u v nv qv r) (hr : RcR r) :
    Calls Tryz.prog 12 #[.agg #[.int .i64 r.s.now, u, v, .int .i64 r.g.done, .int .i64 r.g.asked, .bool r.g.on, nv, qv], .agg #[.int .i64 k, .int .i64 c, .int .u64 x0]] W fun e w' => StQ W.heap.size (stepAE r (k, c, x0)) (opR r (k, c, x0)) (toldO r (k, c, x0)) e w' ∧ Below W.heap.size W w' := by
  obtain ⟨y, hy⟩ : ∃ y, y = toldO r (k, c, x0) := ⟨_, rfl⟩
  rw [← hy]
  obtain ⟨ws, hws⟩ : ∃ ws, ws = opW r (k, c, x0) := ⟨_, rfl⟩
  obtain ⟨E, hE⟩ : ∃ E, E = stepAE r (k, c, x0) := ⟨_, rfl⟩
  have hwl := opW_len r (k, c, x0)
  unfold toldO at hy
  rw [← hws] at hy hwl
  have hAE : runAE r [(k, c, x0)] = E := by
    rw [hE]
    unfold runAE stepAE
    split
    · show (if opE r (k, c, x0) = 0 then (0 : Int) else opE r (k, c, x0)) = _
      split
      · next h => exact h.symm
      · rfl
    · rfl
  have hAW : opsW r [(k, c, x0)] = ws := by rw [hws]; show opW r (k, c, x0) ++ [] = _; rw [List.append_nil]
  obtain ⟨wa, hwa⟩ : ∃ X : World, X = W.alloc (.cells #[.int .i64 r.s.now, u, v, .int .i64 r.g.done, .int .i64 r.g.asked, .bool r.g.on, nv, qv] 30) := ⟨_, rfl⟩
  obtain ⟨wb, hwb⟩ : ∃ X : World, X = wa.alloc (.cells #[.int .i64 k, .int .i64 c, .int .u64 x0] 37) := ⟨_, rfl⟩
  obtain ⟨wz, hwz⟩ : ∃ X : World, X = wb.alloc (.cells #[.int .i64 0, .slice none 0 0, .slice none 0 0, .int .i64 0, .int .i64 0, .bool false, .slice none 0 0, .slice none 0 0] 30) := ⟨_, rfl⟩
  obtain ⟨w0, hw0⟩ : ∃ X : World, X = wz.alloc (.cells #[.int .i64 k, .int .i64 c, .int .u64 x0] 37) := ⟨_, rfl⟩
  obtain ⟨-, ba, xa⟩ := rc_boxed hi hwa
  have bb : Below wa.heap.size wa wb := by rw [hwb]; exact below1 _ _
  have bz : Below wb.heap.size wb wz := by rw [hwz]; exact below1 _ _
  have b0 : Below wz.heap.size wz w0 := by rw [hw0]; exact below1 _ _
  have sa : wa.heap.size = W.heap.size + 1 := by rw [hwa]; simp
  have sb : wb.heap.size = W.heap.size + 1 + 1 := by rw [hwb, World.size_alloc, sa]
  have sz : wz.heap.size = W.heap.size + 1 + 1 + 1 := by rw [hwz, World.size_alloc, sb]
  have s0 : w0.heap.size = W.heap.size + 1 + 1 + 1 + 1 := by rw [hw0, World.size_alloc, sz]
  have hbz := below_then (below_then ba ba.size bb) (below_then ba ba.size bb).size bz
  have hbW := below_then hbz hbz.size b0
  have x0b : RcBox w0 (W.heap.size + 1 + 1) 0 nilV nilV 0 0 false nilV nilV := by
    have : RcBox wz wb.heap.size 0 nilV nilV 0 0 false nilV nilV := by rw [hwz]; exact RcBox.new _ _ _ _ _ _ _ _ _
    rw [sb] at this
    exact this.below b0
  have hops : OpsOut U.NoS w0 (.slice (some ⟨W.heap.size + 1 + 1 + 1, 0, none⟩) 1 1) [(k, c, x0)] := ⟨_, _, rfl, fun _ => ⟨_, 0, rfl, fun h => h, fun i hi => by
    have hi0 : i = 0 := by simp at hi; omega
    subst hi0
    have : ABox w0 wz.heap.size k c x0 := by rw [hw0]; exact ABox.new _ _ _ _
    rw [sz] at this
    exact this.cells⟩⟩
  have HF := Lib.hid (show RcBox w0 W.heap.size r.s.now u v r.g.done r.g.asked r.g.on nv qv ∧ RcBox w0 (W.heap.size + 1 + 1) 0 nilV nilV 0 0 false nilV nilV ∧ Below W.heap.size W w0 ∧ w0.heap.size = W.heap.size + 1 + 1 + 1 + 1 from ⟨((xa.below bb).below bz).below b0, x0b, hbW, s0⟩)
  have hC := rRun_c r u v nv qv _ [(k, c, x0)] w0 (hi.below hbW) hr hops (by simp)
  rw [hAE, hAW, show opsR r [(k, c, x0)] = opR r (k, c, x0) from rfl] at hC
  have HC := Lib.hid hC
  obtain ⟨p1, c1, p2, c2, p3, c3, p4, c4, rfl, rfl, rfl, rfl⟩ := hi.sl
  have HW := Lib.hid (show wz = ((W.alloc (.cells #[.int .i64 r.s.now, .slice p1 r.s.ns.length c1, .slice p2 r.s.os.length c2, .int .i64 r.g.done, .int .i64 r.g.asked, .bool r.g.on, .slice p3 r.g.nd.length c3, .slice p4 r.qs.length c4] 30)).alloc (.cells #[.int .i64 k, .int .i64 c, .int .u64 x0] 37)).alloc (.cells #[.int .i64 0, .slice none 0 0, .slice none 0 0, .int .i64 0, .int .i64 0, .bool false, .slice none 0 0, .slice none 0 0] 30) ∧ w0 = wz.alloc (.cells #[.int .i64 k, .int .i64 c, .int .u64 x0] 37) ∧ wz.heap.size = W.heap.size + 1 + 1 + 1 by exact ⟨by rw [hwz, hwb, hwa], hw0, sz⟩)
  have hxz : RcBox wz W.heap.size r.s.now (.slice p1 r.s.ns.length c1) (.slice p2 r.s.os.length c2) r.g.done r.g.asked r.g.on (.slice p3 r.g.nd.length c3) (.slice p4 r.qs.length c4) := (xa.below bb).below bz
  have hoz : ABox wz (W.heap.size + 1) k c x0 := by
    have : ABox wb wa.heap.size k c x0 := by rw [hwb]; exact ABox.new _ _ _ _
    rw [sa] at this
    exact this.below bz
  obtain ⟨d0, d1, d2, d3, d4, d5, d6, d7⟩ := hxz.cells
  obtain ⟨a0, a1, a2⟩ := hoz.cells
  have HY := Lib.hid (And.intro hy hwl)
  rw [← hE]
  clear hi hr hwa hwb hw0 hwz ba xa bb b0 bz sa sb s0 sz hbz hbW x0b hops hC hAE hAW hws hE hxz hoz hy hwl
  go_enter Tryz.func12, Tryz.ntmps12
  go_upto_region 1 with fail
  rw [← HW.out.1]
  go_wp2_with fail
  rw [← HW.out.2.1, HW.out.2.2]
  clear HW d0 d1 d2 d3 d4 d5 d6 d7 a0 a1 a2
  (with_reducible refine HC.out.mono ?_)
  rintro e w1 ⟨⟨now, u, v, d, a, on, nv, qv, lv, x, rfl, hA⟩, hb1⟩
  obtain ⟨⟨q1, m1, e1, rfl⟩, ⟨q2, m2, e2, rfl⟩, ⟨q3, m3, e3, rfl⟩, ⟨q4, m4, e4, rfl⟩, ⟨q5, m5, e5, rfl⟩⟩ := hA.1
  have hx1 := HF.out.1.below hb1
  have hB1 := below_then HF.out.2.2.1 HF.out.2.2.1.size hb1
  have hput := hx1.putAll now (.slice q1 m1 e1) (.slice q2 m2 e2) d a on (.slice q3 m3 e3) (.slice q4 m4 e4)
  have hkp := RcBox.putAllK w1 W.heap.size now (.slice q1 m1 e1) (.slice q2 m2 e2) d a on (.slice q3 m3 e3) (.slice q4 m4 e4)
  obtain ⟨w2, hw2⟩ : ∃ X : World, X = ((((((((w1.setCell ⟨W.heap.size, 0, none⟩ (.int .i64 now)).setCell ⟨W.heap.size, 1, none⟩ (.slice q1 m1 e1)).setCell ⟨W.heap.size, 2, none⟩ (.slice q2 m2 e2)).setCell ⟨W.heap.size, 3, none⟩ (.int .i64 d)).setCell ⟨W.heap.size, 4, none⟩ (.int .i64 a)).setCell ⟨W.heap.size, 5, none⟩ (.bool on)).setCell ⟨W.heap.size, 6, none⟩ (.slice q3 m3 e3)).setCell ⟨W.heap.size, 7, none⟩ (.slice q4 m4 e4)) := ⟨_, rfl⟩
  rw [← hw2] at hput hkp
  have hsz := HF.out.2.2.2
  have HX2 := Lib.hid (show RcBox w2 W.heap.size now (.slice q1 m1 e1) (.slice q2 m2 e2) d a on (.slice q3 m3 e3) (.slice q4 m4 e4) ∧ RcBox w2 (W.heap.size + 1 + 1) 0 nilV nilV 0 0 false nilV nilV ∧ Below W.heap.size W w2 ∧ AnsX w0.heap.size E (opR r (k, c, x0)) ws now (.slice q1 m1 e1) (.slice q2 m2 e2) d a on (.slice q3 m3 e3) (.slice q4 m4 e4) (.slice q5 m5 e5) x w2 from
    ⟨hput, (HF.out.2.1.below hb1).keeps hkp (by omega), hB1.trans (hkp.below hB1.size (fun k e => by omega)), hA.keeps hkp (fun k e => by omega)⟩)
  obtain ⟨d0, d1, d2, d3, d4, d5, d6, d7⟩ := hx1.cells
  have k0 := hx1.marks 0
  have k1 := hx1.marks 1
  have k2 := hx1.marks 2
  have k3 := hx1.marks 3
  have k4 := hx1.marks 4
  have k5 := hx1.marks 5
  have k6 := hx1.marks 6
  have k7 := hx1.marks 7
  have HS := Lib.hid hsz
  have HW2 := Lib.hid hw2
  clear hx1 hB1 hput hkp hsz hA hb1 hw2 HC HF
  go_upto_region 2 with fail
  rw [← HW2.out]
  clear HW2 d0 d1 d2 d3 d4 d5 d6 d7 k0 k1 k2 k3 k4 k5 k6 k7
  obtain ⟨d0, d1, d2, d3, d4, d5, d6, d7⟩ := HX2.out.1.cells
  obtain ⟨f0, f1, f2, f3, f4, f5, f6, f7⟩ := HX2.out.2.1.cells
  have k0 := HX2.out.2.1.marks 0
  have k1 := HX2.out.2.1.marks 1
  have k2 := HX2.out.2.1.marks 2
  have k3 := HX2.out.2.1.marks 3
  have k4 := HX2.out.2.1.marks 4
  have k5 := HX2.out.2.1.marks 5
  have k6 := HX2.out.2.1.marks 6
  have k7 := HX2.out.2.1.marks 7
  unfold nilV at f1 f2 f6 f7
  have hput := HX2.out.2.1.putAll now (.slice q1 m1 e1) (.slice q2 m2 e2) d a on (.slice q3 m3 e3) (.slice q4 m4 e4)
  have hkp := RcBox.putAllK w2 (W.heap.size + 1 + 1) now (.slice q1 m1 e1) (.slice q2 m2 e2) d a on (.slice q3 m3 e3) (.slice q4 m4 e4)
  obtain ⟨w3, hw3⟩ : ∃ X : World, X = ((((((((w2.setCell ⟨W.heap.size + 1 + 1, 0, none⟩ (.int .i64 now)).setCell ⟨W.heap.size + 1 + 1, 1, none⟩ (.slice q1 m1 e1)).setCell ⟨W.heap.size + 1 + 1, 2, none⟩ (.slice q2 m2 e2)).setCell ⟨W.heap.size + 1 + 1, 3, none⟩ (.int .i64 d)).setCell ⟨W.heap.size + 1 + 1, 4, none⟩ (.int .i64 a)).setCell ⟨W.heap.size + 1 + 1, 5, none⟩ (.bool on)).setCell ⟨W.heap.size + 1 + 1, 6, none⟩ (.slice q3 m3 e3)).setCell ⟨W.heap.size + 1 + 1, 7, none⟩ (.slice q4 m4 e4)) := ⟨_, rfl⟩
  rw [← hw3] at hput hkp
  have HW3 := Lib.hid hw3
  have HX3 := Lib.hid (show RcBox w3 (W.heap.size + 1 + 1) now (.slice q1 m1 e1) (.slice q2 m2 e2) d a on (.slice q3 m3 e3) (.slice q4 m4 e4) ∧ Below W.heap.size W w3 ∧ AnsX W.heap.size E (opR r (k, c, x0)) [] now (.slice q1 m1 e1) (.slice q2 m2 e2) d a on (.slice q3 m3 e3) (.slice q4 m4 e4) nilV x w3 from
    ⟨hput, HX2.out.2.2.1.trans (hkp.below HX2.out.2.2.1.size (fun k e => by omega)), (ansX_nil (HX2.out.2.2.2.keeps hkp (fun k e => by have := HS.out; omega))).mono (by have := HS.out; omega)⟩)
  clear hput hkp hw3
  by_cases hm5 : m5 = 0
  · have HYZ := Lib.hid (show (if E = 0 then y else 0) = 0 from by
      split
      · next hE =>
        rw [HY.out.1]
        rcases HX2.out.2.2.2.2 with h | h
        · exact absurd hE h.1
        · have := h.2.2.2.2.2.2.2
          obtain ⟨p', c', e'⟩ := owns_slice this
          injection e' with _ e' _
          rw [hm5] at e'
          rw [List.eq_nil_of_length_eq_zero e'.symm]
          rfl
      · rfl)
    subst hm5
    clear HX2
    go_wp2
    rw [← HW3.out]
    refine bodyPost_ret (v := .tuple #[.agg #[.int .i64 now, .slice q1 m1 e1, .slice q2 m2 e2, .int .i64 d, .int .i64 a, .bool on, .slice q3 m3 e3, .slice q4 m4 e4], .int .u64 0, .int .i64 x]) (results_cttt rfl _ _ _ rfl rfl rfl HX3.out.1.load) rfl ⟨⟨_, _, _, _, _, _, _, _, _, by rw [HYZ.out], HX3.out.2.2⟩, HX3.out.2.1⟩
  · obtain ⟨hE0, hrow⟩ : E = 0 ∧ w2.ownsRow w0.heap.size 35 1 (.slice q5 m5 e5) ws.length (ws.map (Value.int .u64)) := by
      rcases HX2.out.2.2.2.2 with h | h
      · exfalso
        have := h.2.2.2.2.2.2.2.2.2.2
        unfold nilV at this
        injection this with _ h2 _
        exact hm5 h2
      · exact ⟨h.1, h.2.2.2.2.2.2.2⟩
    have hwn : ws.length = 1 := by
      obtain ⟨p', c', e'⟩ := owns_slice hrow
      injection e' with _ e' _
      have := HY.out.2
      omega
    obtain ⟨y0, rfl⟩ : ∃ y0, ws = [y0] := by
      match ws, hwn with
      | [y0], _ => exact ⟨y0, rfl⟩
    obtain ⟨b5, rfl, hb5⟩ : ∃ b, q5 = some ⟨b, 0, none⟩ ∧ w2.cell? ⟨b, 0, none⟩ = some (.int .u64 y0) := by
      have hm1 : m5 = 1 := by obtain ⟨p', c', e'⟩ := owns_slice hrow; injection e' with _ e' _
      subst hm1
      rcases hrow.2 with ⟨e, -⟩ | ⟨g, cap, cur, e, -⟩
      · injection e with _ h2 _; cases h2
      · injection e with e _ _
        subst e
        have hrow' : w2.ownsRow w0.heap.size 35 1 (.slice (some ⟨g, 0, none⟩) 1 e5) 1 ([y0].map (Value.int .u64)) := hrow
        exact ⟨g, rfl, by simpa using hrow'.cellAt 0 (by decide)⟩
    have hm1 : m5 = 1 := by obtain ⟨p', c', e'⟩ := owns_slice hrow; injection e' with _ e' _
    subst hm1
    have HYZ := Lib.hid (show (if E = 0 then y else 0) = y0 from by rw [if_pos hE0, HY.out.1]; rfl)
    have hne : ¬ W.heap.size = W.heap.size + 1 + 1 := by omega
    have hne5 : ¬ b5 = W.heap.size + 1 + 1 := by
      have := (hrow.lt b5 rfl).1
      have := HS.out
      omega
    clear HX2 hrow hwn hE0 hm5 HY
    go_upto_region 4 with fail
    go_region
    go_wp2
    rw [← HW3.out]
    refine bodyPost_ret (v := .tuple #[.agg #[.int .i64 now, .slice q1 m1 e1, .slice q2 m2 e2, .int .i64 d, .int .i64 a, .bool on, .slice q3 m3 e3, .slice q4 m4 e4], .int .u64 y0, .int .i64 x]) (results_cttt rfl _ _ _ rfl rfl rfl (RcBox.load (HX3.out.1.below (Below.refl _ _).drew))) rfl ⟨⟨_, _, _, _, _, _, _, _, _, by rw [HYZ.out], HX3.out.2.2.below (Below.refl _ _).drew⟩, HX3.out.2.1.drew⟩

end Go.Proofs.YtdpkfahaojhkhaaGreat
/-
  Package queue: the segments of a queue; slices.Equal at rows of words.
  Conditions: the ranges of Go's types.
-/
namespace Go.Proofs.YtdpkfahaojhkhaaGreat.U
set_option maxRecDepth 100000
open Go.RowKit Go.Shelf
attribute [local go_sem] Oper.semAt_some

set_option maxHeartbeats 4000000 in
theorem equalW_c (v0 v1 : Value) (xs ys : List Int) (W : World) (hv0 : NumsAt W .u64 v0 xs) (hv1 : NumsAt W .u64 v1 ys) (hl0 : xs.length ≤ 9223372036854775807) (hl1 : ys.length ≤ 9223372036854775807) :
    Calls Tryz.prog 17 #[v0, v1] W fun e w' => e = .returned (.bool (decide (xs = ys))) ∧ Below W.heap.size W w' := by
  obtain ⟨p0, cap0, rfl, hc0⟩ := hv0
  obtain ⟨p1, cap1, rfl, hc1⟩ := hv1
  go_enter Tryz.func17, Tryz.ntmps17
  by_cases hlen : xs.length = ys.length
  · have hne : ((xs.length : Int) != (ys.length : Int)) = false := by rw [bne_eq_false_iff_eq]; omega
    have HL := Lib.hid hlen
    clear hlen
    go_wp2
    clear hne
    go_loopw [13] (fun iv wr => ∃ i : Nat, i ≤ xs.length ∧ iv = .int .i64 i ∧ xs.take i = ys.take i ∧ Below W.heap.size W wr) (fun iv _ => xs.length - (intOf iv).toNat)
    case atStart => exact ⟨0, Nat.zero_le _, rfl, rfl, Below.refl _ _⟩
    case round =>
      obtain ⟨i, hi, rfl, heq, hB⟩ := hrel
      by_cases hlt : i < xs.length
      · obtain ⟨b0, off0, rfl, hcs0⟩ := hc0 (by intro e; rw [e] at hlt; cases hlt)
        have hlt1 : i < ys.length := by have := HL.out; omega
        obtain ⟨b1, off1, rfl, hcs1⟩ := hc1 (by intro e; rw [e] at hlt1; cases hlt1)
        have hx := hcs0 i hlt
        have hy := hcs1 i hlt1
        have ha := List.take_succ_eq_append_getElem hlt
        have hb := List.take_succ_eq_append_getElem hlt1
        obtain ⟨x, hxe⟩ : ∃ x, x = xs[i] := ⟨_, rfl⟩
        obtain ⟨y, hye⟩ : ∃ y, y = ys[i] := ⟨_, rfl⟩
        rw [← hxe] at hx ha
        rw [← hye] at hy hb
        have hx' := (hB.cell (World.block_lt_of_cell? W _ hx)).trans hx
        have hy' := (hB.cell (World.block_lt_of_cell? W _ hy)).trans hy
        have HE := Lib.hid heq
        have HA := Lib.hid ha
        have HB := Lib.hid hb
        have HXY := Lib.hid (And.intro hxe hye)
        clear hx hy hcs0 hcs1 heq ha hb hxe hye
        by_cases hxy : x = y
        · subst hxy
          go_wp2
          go_quiet (fail)
          go_wp2
          all_goals
            go_roundw
            case rel => exact ⟨i + 1, by omega, by go_num, by rw [HA.out, HB.out, HE.out], below_drewN hB _⟩
            case measure => simp [intOf]; omega
        · have hne : (x != y) = true := by rw [bne_iff_ne]; exact hxy
          have hr : decide (xs = ys) = false := by
            rw [decide_eq_false_iff_not]
            intro e
            subst e
            exact hxy (HXY.out.1.trans HXY.out.2.symm)
          have HR := Lib.hid hr
          clear hr hxy
          go_wp2
          go_quiet (fail)
          go_wp2
          all_goals go_ret
          all_goals exact ⟨ret_bool HR.out.symm, below_drewN hB _⟩
      · have heq2 : xs = ys := by rwa [List.take_of_length_le (by omega), List.take_of_length_le (by have := HL.out; omega)] at heq
        have HE := Lib.hid heq2
        clear heq heq2
        go_wp2
        go_ret
        exact ⟨ret_bool (by simp [HE.out]), hB⟩
  · have hne : ((xs.length : Int) != (ys.length : Int)) = true := by rw [bne_iff_ne]; omega
    have hr : decide (xs = ys) = false := by rw [decide_eq_false_iff_not]; intro e; rw [e] at hlen; exact hlen rfl
    have HR := Lib.hid hr
    clear hr hlen
    go_wp2
    go_ret
    exact ⟨ret_bool HR.out.symm, Below.refl _ _⟩


/-- The segment of a period. -/
def segB (over p : Int) : Nat := if over + 1 < p then 2 else if over < p then 1 else 0
/-- How many are of this segment. -/
def segN (over : Int) (j : Nat) (l : List (Int × Int)) : Nat := (l.filter fun c => segB over c.1 == j).length
theorem segN_snoc (over : Int) (j : Nat) (l : List (Int × Int)) (c : Int × Int) : segN over j (l ++ [c]) = segN over j l + if segB over c.1 = j then 1 else 0 := by
  unfold segN
  rw [List.filter_append, List.length_append]
  by_cases h : segB over c.1 = j <;> simp [h]
theorem segN_le (over : Int) (j : Nat) (l : List (Int × Int)) : segN over j l ≤ l.length := List.length_filter_le _ _
/-- What Segments answers. -/
def segV (over : Int) (l : List (Int × Int)) : Value := if mayB over l = true then .agg #[.int .i64 (segN over 0 l : Int), .int .i64 (segN over 1 l : Int), .int .i64 (segN over 2 l : Int)] else .agg #[.int .i64 0, .int .i64 0, .int .i64 0]
end Go.Proofs.YtdpkfahaojhkhaaGreat.U
namespace Go.Proofs.YtdpkfahaojhkhaaGreat
set_option maxRecDepth 100000
open Go.RowKit Go.Shelf
attribute [local go_sem] Oper.semAt_some

/-- A region's operations. -/
def regOps (id : Nat) : Code → Option (Array Oper)
  | .region i ops _ => if i = id then some ops else none
  | .seq a b => match regOps id a with
    | some o => some o
    | none => regOps id b
  | _ => none
/-- An operation that runs to a value. -/
theorem step_val {P : Program} {ops : Array Oper} {o : Oper} {a : Act} {w : World} {K : Act → World → Prop} {Q : Exit → Act → World → Prop} {E : Prop} (hg : o.guard = none) {v : Value} {w' : World} (hrun : (execOp a.eval o).run P w = .ok (.value v) w') (h : K (a.put o.dst v) w') :
    if Region.wanted o (yielded ops a.tmps) = true then Oper.wp P o a w K Q else E := by
  have hw : Region.wanted o (yielded ops a.tmps) = true := by simp [Region.wanted, hg]
  rw [if_pos hw]
  unfold Oper.wp
  rw [hrun]
  exact h
/-- An operation that runs to nothing. -/
theorem step_skip {P : Program} {ops : Array Oper} {o : Oper} {a : Act} {w : World} {K : Act → World → Prop} {Q : Exit → Act → World → Prop} {E : Prop} (hg : o.guard = none) {w' : World} (hrun : (execOp a.eval o).run P w = .ok .skip w') (h : K (a.put o.dst undef) w') :
    if Region.wanted o (yielded ops a.tmps) = true then Oper.wp P o a w K Q else E := by
  have hw : Region.wanted o (yielded ops a.tmps) = true := by simp [Region.wanted, hg]
  rw [if_pos hw]
  unfold Oper.wp
  rw [hrun]
  exact h
/-- A call, by its contract: it returns. -/
theorem step_ent {P : Program} {ops : Array Oper} {o : Oper} {a : Act} {w : World} {K : Act → World → Prop} {Q : Exit → Act → World → Prop} {E : Prop} (hg : o.guard = none) {f : FuncId} {args : Array Value} {w' : World} (hrun : (execOp a.eval o).run P w = .ok (.enter f args) w') {R : Ending → World → Prop} (hc : Calls P f args w' R) (h : ∀ e w'', R e w'' → ∃ v, e = .returned v ∧ K (a.put o.dst v) w'') :
    if Region.wanted o (yielded ops a.tmps) = true then Oper.wp P o a w K Q else E := by
  have hw : Region.wanted o (yielded ops a.tmps) = true := by simp [Region.wanted, hg]
  rw [if_pos hw]
  unfold Oper.wp
  rw [hrun]
  refine hc.mono fun e w'' hr => ?_
  obtain ⟨v, rfl, hk⟩ := h e w'' hr
  exact hk


theorem GoodR.rcr {r : RcS} (h : GoodR r) : RcR r := by
  obtain ⟨g1, g2, g3, g4, g5⟩ := rmay_facts h.may
  have hg := (goodG_iff r.g).1 g2
  have hl := g1.l8
  have hlo := g1.lo
  refine ⟨by omega, by omega, by omega, by omega, fun x hx => ?_, fun q hq => ?_, h.pe, ?_⟩
  · obtain ⟨i, hi, rfl⟩ := List.getElem_of_mem hx
    have he := g1.each i (by omega)
    have hn := g1.n1
    have : oO r.s i = r.s.os[i] := getD_lt hi
    unfold I64
    omega
  · obtain ⟨_, h2, _⟩ := g5 q hq
    rw [h2]
    have := hg.d0
    omega
  · have := hg.d0
    have h1 := hg.a1
    have h2 : r.g.done ≤ r.g.asked := by
      cases ho : r.g.on with
      | true => have := hg.on1 ho; omega
      | false => have := hg.on0 ho; omega
    unfold I64
    omega

theorem rcop_info : (Tryz.prog.info? 37).map (·.size) = some 3 := by kernel_rfl
theorem op_c (k c x : Int) (W : World) : Calls Tryz.prog 29 #[.int .i64 k, .int .i64 c, .int .u64 x] W fun e w' => e = .returned (.agg #[.int .i64 k, .int .i64 c, .int .u64 x]) ∧ Below W.heap.size W w' := by
  go_enter Tryz.func29, Tryz.ntmps29
  go_wp2
  have hh : (W.alloc (.cells #[.int .i64 k, .int .i64 c, .int .u64 x] 37)).heap[W.heap.size]? = some (.cells #[.int .i64 k, .int .i64 c, .int .u64 x] 37 (0, 0)) := World.alloc_heap_new W _
  refine bodyPost_ret (v := .agg #[.int .i64 k, .int .i64 c, .int .u64 x]) (results_cell1 rfl _ _ _ rfl ?_) rfl ⟨rfl, below1 _ _⟩
  refine run_loadVar_mid _ W.heap.size 0 37 [.int .i64 k, .int .i64 c, .int .u64 x] _ (fun j u hj => ?_) Tryz.underlying37 rfl rcop_info
  rw [Nat.zero_add]
  match j, hj with
  | 0, hj => cases hj; unfold World.cell?; rw [hh]; rfl
  | 1, hj => cases hj; unfold World.cell?; rw [hh]; rfl
  | 2, hj => cases hj; unfold World.cell?; rw [hh]; rfl
  | (k + 3), hj => simp at hj

theorem ops_block {w : World} {tb : Nat} {l : List (Int × Int × Int)} {cs : Array Value} (h : w.heap[tb]? = some (.cells cs 37 (0, 0))) (hc : ∀ i (hi : i < l.length), cs[i * 3]? = some (.int .i64 l[i].1) ∧ cs[i * 3 + 1]? = some (.int .i64 l[i].2.1) ∧ cs[i * 3 + 2]? = some (.int .u64 l[i].2.2)) : OpsOut U.NoS w (.slice (some ⟨tb, 0, none⟩) l.length l.length) l := by
  refine ⟨_, _, rfl, fun _ => ⟨tb, 0, rfl, id, fun i hi => ?_⟩⟩
  rw [Nat.zero_add]
  unfold World.cell?
  rw [h]
  exact hc i hi

def wkL2 : List (Int × Int × Int) := [(3, 0, 7), (4, 0, 0), (4, 0, 0), (4, 1, 0), (5, 0, 0)]
def wkL3 : List (Int × Int × Int) := [(1, 1, 0), (3, 0, 7), (4, 0, 0), (4, 0, 0), (4, 1, 0)]
def wkL5 : List (Int × Int × Int) := [(2, 1, 0), (4, 1, 0), (5, 0, 0)]
def wkS : RcS := opsR (rNew 2) wkL3
theorem wk_good0 : GoodR (rNew 2) := ⟨by kernel_rfl, fun q hq c hc => by
  simp [rNew] at hq
  rw [hq] at hc
  cases hc⟩
theorem GoodR.ops {r : RcS} : ∀ (l : List (Int × Int × Int)), GoodR r → opsE r l = 0 → GoodR (opsR r l)
  | [], h, _ => h
  | o :: l, h, he => by
    unfold opsE at he
    by_cases h0 : opE r o = 0
    · rw [if_pos h0] at he
      exact GoodR.ops l (h.op h0) he
    · rw [if_neg h0] at he
      exact absurd he h0
theorem wk_e2 : runAE (rNew 2) wkL2 = 0 := by kernel_rfl
theorem wk_w2 : opsW (rNew 2) wkL2 = [7] := by kernel_rfl
theorem wk_e3 : runAE (rNew 2) wkL3 = 0 := by kernel_rfl
theorem wk_goodS : GoodR wkS := wk_good0.ops wkL3 (by kernel_rfl)
theorem wk_e4 : stepAE wkS (5, 0, 0) = 4 := by kernel_rfl
theorem wk_e5 : runAE wkS wkL5 = 0 := by kernel_rfl
theorem wk_w5 : opsW wkS wkL5 = [7] := by kernel_rfl
theorem wk_open : rmayB wkS = true ∧ openB wkS.s = true := ⟨wk_goodS.may, by kernel_rfl⟩
theorem wk_many : (if rmayB wkS = true then manyQ wkS.qs else 0) = 1 := by kernel_rfl
theorem wk_idle0 : (rmayB (rNew 2) && idleB (rNew 2)) = true := by kernel_rfl
theorem wk_idleS : (rmayB wkS && idleB wkS) = false := by kernel_rfl

/-- What a run of the test answers. -/
def WkQ (B : Nat) (r' : RcS) (ws : List Int) (e : Ending) (w' : World) : Prop := ∃ q1 m1 e1 q2 m2 e2 q3 m3 e3 q4 m4 e4 q5 m5 e5, e = .returned (.tuple #[.agg #[.int .i64 r'.s.now, .slice q1 m1 e1, .slice q2 m2 e2, .int .i64 r'.g.done, .int .i64 r'.g.asked, .bool r'.g.on, .slice q3 m3 e3, .slice q4 m4 e4], .slice q5 m5 e5, .int .i64 0]) ∧
  RcIn (fun k => k < B) w' (.slice q1 m1 e1) (.slice q2 m2 e2) (.slice q3 m3 e3) (.slice q4 m4 e4) r' ∧ w'.ownsRow 0 35 1 (.slice q5 m5 e5) ws.length (ws.map (Value.int .u64))
theorem wk_run {r r' : RcS} {ws : List Int} (l : List (Int × Int × Int)) (hE : runAE r l = 0) (hR : opsR r l = r') (hW : opsW r l = ws) (hr : RcR r) (hl : l.length ≤ 999999) (u v nv qv ov : Value) (W : World) (hi : RcIn U.NoS W u v nv qv r) (ho : OpsOut U.NoS W ov l) :
    Calls Tryz.prog 16 #[.agg #[.int .i64 r.s.now, u, v, .int .i64 r.g.done, .int .i64 r.g.asked, .bool r.g.on, nv, qv], ov] W fun e w' => WkQ W.heap.size r' ws e w' ∧ Below W.heap.size W w' := by
  refine (rRun_c r u v nv qv ov l W hi hr ho hl).mono ?_
  rintro e w' ⟨⟨now, u', v', d, a, on, nv', qv', lv, x, rfl, hA⟩, hb⟩
  refine ⟨?_, hb⟩
  rw [hE, hR, hW] at hA
  obtain ⟨⟨⟨q1, m1, e1, rfl⟩, ⟨q2, m2, e2, rfl⟩, ⟨q3, m3, e3, rfl⟩, ⟨q4, m4, e4, rfl⟩, ⟨q5, m5, e5, rfl⟩⟩, ⟨h0, -⟩ | ⟨-, hx, hnow, hd, ha, hon, hin, hro⟩⟩ := hA
  · exact absurd rfl h0
  subst hx hnow hd ha hon
  exact ⟨_, _, _, _, _, _, _, _, _, _, _, _, _, _, _, rfl, hin, hro.mono (Nat.zero_le _)⟩
/-- What a refused step of the test answers. -/
theorem wk_step {r : RcS} (k c x0 : Int) (E : Int) (h0 : E ≠ 0) (hE : stepAE r (k, c, x0) = E) (hr : RcR r) (u v nv qv : Value) (W : World) (hi : RcIn U.NoS W u v nv qv r) :
    Calls Tryz.prog 12 #[.agg #[.int .i64 r.s.now, u, v, .int .i64 r.g.done, .int .i64 r.g.asked, .bool r.g.on, nv, qv], .agg #[.int .i64 k, .int .i64 c, .int .u64 x0]] W fun e w' => e = .returned (.tuple #[.agg #[.int .i64 0, .slice none 0 0, .slice none 0 0, .int .i64 0, .int .i64 0, .bool false, .slice none 0 0, .slice none 0 0], .int .u64 0, .int .i64 E]) ∧ Below W.heap.size W w' := by
  refine (rStep_c r u v nv qv k c x0 W hi hr).mono ?_
  rintro e w' ⟨⟨now, u', v', d, a, on, nv', qv', x, rfl, hA⟩, hb⟩
  refine ⟨?_, hb⟩
  rw [hE] at hA ⊢
  rw [if_neg h0]
  obtain ⟨-, ⟨-, rfl, rfl, rfl, rfl, rfl, rfl, rfl, rfl, rfl, -⟩ | ⟨h, -⟩⟩ := hA
  · rfl
  · exact absurd h h0

/-- The Rcu that a region reads. -/
def WkB (b : Nat) (r : RcS) (u v nv qv : Value) (w : World) : Prop := RcBox w b r.s.now u v r.g.done r.g.asked r.g.on nv qv
def WkA (b : Nat) (r : RcS) (u v nv qv : Value) (w : World) : Prop := RcBox w b r.s.now u v r.g.done r.g.asked r.g.on nv qv ∧ RcIn U.NoS w u v nv qv r
theorem WkA.below {b : Nat} {r : RcS} {u v nv qv : Value} {w w' : World} (h : WkA b r u v nv qv w) (hb : Below w.heap.size w w') : WkA b r u v nv qv w' := ⟨h.1.below hb, h.2.below hb⟩
/-- What a run of the test has left. -/
def WkF (B : World) (z : Nat) (r' : RcS) (ws : List Int) (u v nv qv lv : Value) (w : World) : Prop := RcBox w z r'.s.now u v r'.g.done r'.g.asked r'.g.on nv qv ∧ RcIn U.NoS w u v nv qv r' ∧ w.ownsRow 0 35 1 lv ws.length (ws.map (Value.int .u64)) ∧ Below B.heap.size B w
theorem ne_row64 {w : World} {z : Nat} {now d a : Int} {u v nv qv : Value} {on : Bool} (h : RcBox w z now u v d a on nv qv) {B n : Nat} {lv : Value} {xs : List Value} (hr : w.ownsRow B 35 1 lv n xs) : ∀ g, lv.ownBlock = some g → g ≠ z := by
  intro g hg e
  subst e
  rcases hr.2 with ⟨rfl, _⟩ | ⟨g', cap, cur, rfl, _, hg', _⟩
  · cases hg
  · simp only [Value.ownBlock, Option.some.injEq] at hg
    subst hg
    have h' : w.heap[g']? = _ := h
    rw [hg'] at h'
    injection h' with h'
    injection h' with _ h' _
    exact absurd h' (by decide)
theorem wk_keep {B X Xa : World} {z b b0 e0 : Nat} {r r' : RcS} {ws : List Int} {u v nv qv lv u0 v0 nv0 qv0 : Value} (hA : WkA b r u0 v0 nv0 qv0 B) (hB : Below B.heap.size B X) (hz : RcBox X z 0 (.slice none 0 0) (.slice none 0 0) 0 0 false (.slice none 0 0) (.slice none 0 0)) (hzB : B.heap.size ≤ z) (hw : RcIn (fun k => k < b0 ∨ e0 ≤ k) X u v nv qv r' ∧ X.ownsRow 0 35 1 lv ws.length (ws.map (Value.int .u64))) (hZ : z < b0 ∨ e0 ≤ z)
    (hXa : Xa = ((((((((X.setCell ⟨z, 0, none⟩ (.int .i64 r'.s.now)).setCell ⟨z, 1, none⟩ u).setCell ⟨z, 2, none⟩ v).setCell ⟨z, 3, none⟩ (.int .i64 r'.g.done)).setCell ⟨z, 4, none⟩ (.int .i64 r'.g.asked)).setCell ⟨z, 5, none⟩ (.bool r'.g.on)).setCell ⟨z, 6, none⟩ nv).setCell ⟨z, 7, none⟩ qv)) : WkB b r u0 v0 nv0 qv0 Xa ∧ WkF B z r' ws u v nv qv lv Xa := by
  have hk : Keeps (fun k => k = z) X Xa := by rw [hXa]; exact RcBox.putAllK X z _ _ _ _ _ _ _ _
  have hbl := hB.trans (hk.below hB.size (fun k e => by omega))
  refine ⟨hA.1.below hbl, by rw [hXa]; exact hz.putAll _ _ _ _ _ _ _ _, ((hw.1.keeps (hk.sub fun k _ e => by omega)).apart (fun q h => h.elim)), hk.row hw.2 (fun g hg e => ne_row64 hz hw.2 g hg e), hbl⟩

end Go.Proofs.YtdpkfahaojhkhaaGreat
