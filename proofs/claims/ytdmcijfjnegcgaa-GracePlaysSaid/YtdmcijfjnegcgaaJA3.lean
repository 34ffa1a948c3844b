/-
  Package grace: whether all that are needed are one CPU.
  Conditions: the ranges of Go's types.
-/
import Derived.Test.YtdmcijfjnegcgaaJA2
import Derived.Test.YtdmcijfjnegcgaaJA1
import Derived.Lib.SmallJoins
import Derived.Laws.IdiomArrays
import Derived.Deep.Grids
import Derived.Lib.Hide
import Derived.WalkLawsBesides
import Derived.Maps.AppendAt
import Derived.RegionTactic
/-
  Package reader: Check, Same, Quiet, Passed.
  Conditions: the ranges of Go's types.
-/
namespace Go.Proofs.Ytdmcijfjnegcgaa
set_option maxRecDepth 100000
open Go.RowKit Go.Shelf
attribute [local go_sem] Oper.semAt_some

def sameB (s t : RdS) : Bool := decide (s.now = t.now) && (decide (s.ns = t.ns) && decide (s.os = t.os))
/-- Two boxes. -/
def wS (W : World) (now : Int) (u v : Value) (now' : Int) (u' v' : Value) : World := (W.alloc (.cells #[.int .i64 now, u, v] 45)).alloc (.cells #[.int .i64 now', u', v'] 45)
theorem wS_facts (W : World) (now : Int) (u v : Value) (now' : Int) (u' v' : Value) : RBox (wS W now u v now' u' v') W.heap.size now u v ∧ RBox (wS W now u v now' u' v') (W.heap.size + 1) now' u' v' ∧ Below W.heap.size W (wS W now u v now' u' v') := by
  refine ⟨(RBox.new W now u v).below (below1 _ _), ?_, below2 _ _ _⟩
  have := RBox.new (W.alloc (.cells #[.int .i64 now, u, v] 45)) now' u' v'
  rwa [World.size_alloc] at this

/-- Is the CPU there, and quiet? -/
def quietB (s : RdS) (c : Int) : Bool := mayB s.now s.ns s.os && (hasB s.ns.length c && decide (s.ns.getD c.toNat 0 = 0))
set_option maxHeartbeats 4000000 in
theorem quiet_c (s : RdS) (u v : Value) (c : Int) (W : World) (hn : NumsAt W .i64 u s.ns) (ho : NumsAt W .i64 v s.os) (h1 : s.ns.length ≤ 9223372036854775807) (h2 : s.os.length ≤ 9223372036854775807) (hr : ∀ x ∈ s.os, I64 x) :
    Calls Try.prog 88 #[.agg #[.int .i64 s.now, u, v], .int .i64 c] W fun e w' => e = .returned (.bool (quietB s c)) ∧ Below W.heap.size W w' := by
  obtain ⟨w0, hw0⟩ : ∃ X : World, X = W.alloc (.cells #[.int .i64 s.now, u, v] 45) := ⟨_, rfl⟩
  have hb0 : Below W.heap.size W w0 := by rw [hw0]; exact below1 _ _
  have HB := Lib.hid hb0
  have HC := Lib.hid (may_c s.now u v s.ns s.os w0 (nums_below hn hb0) (nums_below ho hb0) h1 h2 hr)
  have hbx : RBox w0 W.heap.size s.now u v := by rw [hw0]; exact RBox.new _ _ _ _
  have HBX := Lib.hid hbx
  obtain ⟨d0, d1, d2⟩ := hbx.cells
  have HN := Lib.hid (nums_below hn hb0)
  obtain ⟨p, cp, rfl, -⟩ := hn
  obtain ⟨p2, cp2, rfl, -⟩ := ho
  have HH := Lib.hid (fun Z => has_c s.now c p s.ns.length cp (.slice p2 s.os.length cp2) Z)
  clear hb0 hr h1 h2 hbx
  unfold quietB
  cases hm : mayB s.now s.ns s.os with
  | false =>
    rw [hm] at HC
    rw [Bool.false_and]
    clear hm HH
    go_enter Try.func88, Try.ntmps88
    go_wp2_with fail
    rw [← hw0]
    clear hw0
    (with_reducible refine HC.out.mono ?_)
    rintro e w1 ⟨rfl, hb1⟩
    have HB1 := Lib.hid (below_then HB.out HB.out.size hb1)
    clear hb1
    go_wp2
    go_ret
    exact ⟨rfl, HB1.out⟩
  | true =>
    rw [hm] at HC
    rw [Bool.true_and]
    clear hm
    cases hh : hasB s.ns.length c with
    | false =>
      rw [hh] at HH
      rw [Bool.false_and]
      clear hh
      go_enter Try.func88, Try.ntmps88
      go_wp2_with fail
      rw [← hw0]
      clear hw0
      (with_reducible refine HC.out.mono ?_)
      rintro e w1 ⟨rfl, hb1⟩
      have HB1 := Lib.hid (below_then HB.out HB.out.size hb1)
      obtain ⟨d0, d1, d2⟩ := (HBX.out.below hb1).cells
      clear hb1
      go_wp2_with fail
      (with_reducible refine (HH.out _).mono ?_)
      rintro e w2 ⟨rfl, hb2⟩
      have HB2 := Lib.hid (below_then HB1.out HB1.out.size hb2)
      clear hb2
      go_wp2
      go_ret
      exact ⟨rfl, HB2.out⟩
    | true =>
      obtain ⟨i, rfl, hi⟩ := (has_iff _ _).1 hh
      rw [hh] at HH
      rw [Bool.true_and, Int.toNat_natCast, getD_lt hi]
      clear hh
      obtain ⟨n, hn⟩ : ∃ n, n = s.ns[i] := ⟨_, rfl⟩
      rw [← hn]
      have HX := Lib.hid (show ∃ b off, p = some ⟨b, off, none⟩ ∧ w0.cell? ⟨b, off + i, none⟩ = some (.int .i64 n) by
        obtain ⟨q, cc, e, hcs⟩ := HN.out
        injection e with e1 e2 e3
        subst e1
        obtain ⟨b, off, e, hc⟩ := hcs (by intro e; rw [e] at hi; simp at hi)
        exact ⟨b, off, e, by rw [hn]; exact hc i hi⟩)
      obtain ⟨b, off, rfl, hx⟩ := HX.out
      have hi0 : (0 : Int) ≤ (i : Int) := by omega
      have hil : (i : Int) < (s.ns.length : Int) := by omega
      clear hn HX
      by_cases hz : n = 0
      · have hq : (n == 0) = true := by rw [hz]; rfl
        rw [decide_eq_true hz]
        clear hz
        go_enter Try.func88, Try.ntmps88
        go_wp2_with fail
        rw [← hw0]
        clear hw0
        (with_reducible refine HC.out.mono ?_)
        rintro e w1 ⟨rfl, hb1⟩
        have HB1 := Lib.hid (below_then HB.out HB.out.size hb1)
        have HBX1 := Lib.hid (HBX.out.below hb1)
        obtain ⟨d0, d1, d2⟩ := HBX1.out.cells
        have hx1 := below_cell hb1 hx
        clear hb1 hx
        go_wp2_with fail
        (with_reducible refine (HH.out _).mono ?_)
        rintro e w2 ⟨rfl, hb2⟩
        have HB2 := Lib.hid (below_then HB1.out HB1.out.size hb2)
        obtain ⟨d0, d1, d2⟩ := (HBX1.out.below hb2).cells
        have hx2 := below_cell hb2 hx1
        clear hb2 hx1
        go_wp2
        go_ret
        exact ⟨rfl, HB2.out⟩
      · have hq : (n == 0) = false := by rw [beq_eq_false_iff_ne]; exact hz
        rw [decide_eq_false hz]
        clear hz
        go_enter Try.func88, Try.ntmps88
        go_wp2_with fail
        rw [← hw0]
        clear hw0
        (with_reducible refine HC.out.mono ?_)
        rintro e w1 ⟨rfl, hb1⟩
        have HB1 := Lib.hid (below_then HB.out HB.out.size hb1)
        have HBX1 := Lib.hid (HBX.out.below hb1)
        obtain ⟨d0, d1, d2⟩ := HBX1.out.cells
        have hx1 := below_cell hb1 hx
        clear hb1 hx
        go_wp2_with fail
        (with_reducible refine (HH.out _).mono ?_)
        rintro e w2 ⟨rfl, hb2⟩
        have HB2 := Lib.hid (below_then HB1.out HB1.out.size hb2)
        obtain ⟨d0, d1, d2⟩ := (HBX1.out.below hb2).cells
        have hx2 := below_cell hb2 hx1
        clear hb2 hx1
        go_wp2
        go_ret
        exact ⟨rfl, HB2.out⟩

end Go.Proofs.Ytdmcijfjnegcgaa
/-
  own, of the statements of layer 11: readers with the first nine of their CPUs, in memory of their own.
  Conditions: the readers are ones that came in.
-/
namespace Go.Proofs.Ytdmcijfjnegcgaa
set_option maxRecDepth 100000
open Go.RowKit Go.Shelf
attribute [local go_sem] Oper.semAt_some

/-- A slice that came in: nil, or at an address. -/
def ArgR (W : World) (v : Value) (xs : List Value) : Prop := ∃ p n c, v = .slice p n c ∧ n = xs.length ∧ ((p = none ∧ n = 0 ∧ c = 0) ∨ ∃ a : Addr, p = some a ∧ n ≤ c ∧ ∀ j u, xs[j]? = some u → W.cell? (a.add j) = some u)
theorem ArgR.below {w w' : World} {v : Value} {xs : List Value} (h : ArgR w v xs) (hb : Below w.heap.size w w') : ArgR w' v xs := by
  obtain ⟨p, n, c, rfl, hn, h⟩ := h
  refine ⟨p, n, c, rfl, hn, ?_⟩
  rcases h with h | ⟨a, rfl, hc, hcs⟩
  · exact .inl h
  · exact .inr ⟨a, rfl, hc, fun j u hj => below_cell hb (hcs j u hj)⟩
theorem vals_cut {W : World} {p : Option Addr} {n c : Nat} {xs : List Value} (hn : n = xs.length) (h : (p = none ∧ n = 0 ∧ c = 0) ∨ ∃ a : Addr, p = some a ∧ n ≤ c ∧ ∀ j u, xs[j]? = some u → W.cell? (a.add j) = some u) :
    ValsAt W (.slice p (min n 9) c) 1 (min n 9) (xs.take 9) := by
  refine ⟨by rw [List.length_take, hn]; omega, p, c, rfl, ?_⟩
  rcases h with ⟨rfl, rfl, rfl⟩ | ⟨a, rfl, _, hcs⟩
  · exact .inl ⟨rfl, rfl, rfl⟩
  · refine .inr ⟨a, rfl, fun j u hj => hcs j u ?_⟩
    rw [List.getElem?_take] at hj
    split at hj
    · exact hj
    · cases hj
theorem run_cut9 (p : Option Addr) (n c k : Nat) (h : k ≤ c) (wx : World) :
    (Instr.slice 25 (.slice p n c) none (some (.int .i64 (k : Int))) none).run Try.prog wx = .ok (.slice p k c) wx := by
  rw [run_slice_h wx 25 p n c Try.underlying25 .i64 (k : Int) (by omega) (by omega)]
  have hE : (sizeOf (Try.prog.elem 25)).run Try.prog wx = .ok 1 wx := by go_simp
  rw [hE]
  have : Option.map (fun x : Addr => x.add 0) p = p := by cases p <;> simp [Addr.add_zero']
  simp [sliced, Result.andThen, this]
theorem run_min9 (n k : Nat) (hk : k = min n 9) (wx : World) : (Builtin.min_ #[3, 3] 3 #[.int .i64 (n : Int), .int .i64 9]).run Try.prog wx = .ok (.int .i64 (k : Int)) wx := by
  have : (if (9 : Int) < (n : Int) then (9 : Int) else n) = (k : Int) := by rw [hk]; split <;> omega
  simp [Builtin.min_, Builtin.min2, this]
/-- Readers that lie in new memory. -/
def OwnR (B : Nat) (s : RdS) (u v : Value) (w : World) : Prop := w.ownsRow B 3 1 u s.ns.length (s.ns.map (Value.int .i64)) ∧ w.ownsRow B 3 1 v s.os.length (s.os.map (Value.int .i64))
theorem OwnR.below {B : Nat} {s : RdS} {u v : Value} {w w' : World} (h : OwnR B s u v w) (hb : Below w.heap.size w w') : OwnR B s u v w' := ⟨owns_below h.1 hb, owns_below h.2 hb⟩
theorem OwnR.nums {B : Nat} {s : RdS} {u v : Value} {w : World} (h : OwnR B s u v w) : NumsAt w .i64 u s.ns ∧ NumsAt w .i64 v s.os := ⟨nums_of_owns rfl h.1, nums_of_owns rfl h.2⟩
def GivesR (B : Nat) (s : RdS) (e : Ending) (w' : World) : Prop := ∃ p0 c0 p1 c1, e = .returned (.agg #[.int .i64 s.now, .slice p0 s.ns.length c0, .slice p1 s.os.length c1]) ∧ OwnR B s (.slice p0 s.ns.length c0) (.slice p1 s.os.length c1) w'

end Go.Proofs.Ytdmcijfjnegcgaa
/-
  Opening arguments of layer 11: readers.
  Conditions: none.
-/
namespace Go.Proofs.Ytdmcijfjnegcgaa
open Go.ChangeShapes Go.WideShapes Go.ChangeAt Go.RowKit Go.Deep Go.Joins

theorem ints_argr {H : Type} {enc : TypeId × Value → H} {P : Program} {W : World} {t e : TypeId} {n : Nat} {v : Value} {y : DataW H × List MemPlace} (ht : P.underlying t = some (.slice e)) (he : P.underlying e = some (.int .i64)) (hc : P.cellsOf e = 1)
    (hf : DataW.trod enc P W 0 (fun _ => true) true n t [v] = some y) :
    ∃ ns : List Int, ArgR W v (ns.map (Value.int .i64)) ∧ ns.length ≤ 9223372036854775807 ∧ ∀ x ∈ ns, I64 x := by
  rcases open_ints ht he hc hf with ⟨hcs, _⟩ | ⟨a, len', cap', zs, hcs, _, hl, hm, hz, _, hcell, hwz⟩
  · simp only [List.cons.injEq, and_true] at hcs
    subst hcs
    exact ⟨[], ⟨_, _, _, rfl, rfl, .inl ⟨rfl, rfl, rfl⟩⟩, by decide, fun x hx => by cases hx⟩
  · simp only [List.cons.injEq, and_true] at hcs
    subst hcs
    simp only [if_true] at hz
    have hlen : (zs.take len').length = len' := List.length_take_of_le (by omega)
    refine ⟨zs.take len', ⟨_, _, _, rfl, by rw [List.length_map, hlen], .inr ⟨a, rfl, hl, fun j u hj => ?_⟩⟩, by rw [hlen]; unfold maxLen at hm; omega, fun x hx => by
      have := hwz x (List.mem_of_mem_take hx)
      simpa [Lit.wf, IntKind.min, IntKind.max, IntKind.signed, IntKind.bits, I64] using this⟩
    obtain ⟨hj1, rfl⟩ := List.getElem?_eq_some_iff.1 hj
    have hj2 : j < len' := by
      have := hj1
      rw [List.length_map, hlen] at this
      exact this
    have h1 := hcell j (by omega)
    rw [List.getD_eq_getElem?_getD, List.getElem?_eq_getElem (by omega)] at h1
    simpa using h1
set_option maxRecDepth 100000 in
theorem readers_open {H : Type} {enc : TypeId × Value → H} {W : World} {base : Nat} {v : Value} {d : DataW H} {ps : List MemPlace}
    (hval : Value.okWide Try.prog W .any base 45 v) (h : DataW.Trod enc Try.prog W 0 (fun _ => true) true 45 v d ps) :
    ∃ (now : Int) (u1 u2 : Value) (xs ys : List Int), v = .agg #[.int .i64 now, u1, u2] ∧ ArgR W u1 (xs.map (Value.int .i64)) ∧ ArgR W u2 (ys.map (Value.int .i64)) ∧ xs.length ≤ 9223372036854775807 ∧ ys.length ≤ 9223372036854775807 ∧ (∀ y ∈ ys, I64 y) ∧ I64 now := by
  obtain ⟨v0, v1, v2, y0, y1, y2, n, rfl, _, _, h0, h1, h2⟩ := open_agg3 Try.underlying45 (by kernel_rfl) (by kernel_rfl) hval h
  obtain ⟨b, hb, _, wb⟩ := DataW.trod_int (t := 3) Try.underlying3 h0
  simp only [List.cons.injEq, and_true] at hb
  subst hb
  obtain ⟨xs, hx, lx, -⟩ := ints_argr (t := 25) Try.underlying25 Try.underlying3 (by kernel_rfl) h1
  obtain ⟨ys, hy, ly, ry⟩ := ints_argr (t := 25) Try.underlying25 Try.underlying3 (by kernel_rfl) h2
  exact ⟨b, v1, v2, xs, ys, rfl, hx, hy, lx, ly, ry, by simpa [Lit.wf, IntKind.min, IntKind.max, IntKind.signed, IntKind.bits, I64] using wb⟩
end Go.Proofs.Ytdmcijfjnegcgaa
/-
  Opening arguments of layer 11: a row of readings.
  Conditions: none.
-/
namespace Go.Proofs.Ytdmcijfjnegcgaa
open Go.ChangeShapes Go.WideShapes Go.ChangeAt Go.RowKit Go.Deep Go.Joins

theorem choose_lt' {α : Type} [Inhabited α] {P : Nat → α → Prop} {n : Nat} (h : ∀ i, i < n → ∃ x, P i x) : ∃ F : Nat → α, ∀ i, i < n → P i (F i) := by
  classical
  refine ⟨fun i => if hi : i < n then (h i hi).choose else default, fun i hi => ?_⟩
  simp only [hi, dif_pos]
  exact (h i hi).choose_spec
theorem spot_none {W : World} {b off : Nat} {sp : Option Nat} {u : Value} (h : W.cell? ⟨b, off, sp⟩ = some u) : sp = none := by
  cases sp with
  | none => rfl
  | some x =>
    simp only [World.cell?] at h
    split at h <;> simp at h

set_option maxRecDepth 100000 in
theorem readings_open {H : Type} {enc : TypeId × Value → H} {W : World} {base : Nat} {v : Value} {d : DataW H} {ps : List MemPlace}
    (hval : Value.okWide Try.prog W .any base 108 v) (h : DataW.Trod enc Try.prog W 0 (fun _ => true) true 108 v d ps) :
    ∃ bs : List (Int × Bool), RgsAt W v bs ∧ bs.length ≤ 9223372036854775807 ∧ ∀ p n c, v = .slice p n c → n ≤ c ∧ (p = none → c = 0) := by
  obtain ⟨a0, len, cap, rfl⟩ := okWide_slice Try.underlying108 hval
  obtain ⟨fuel, hf⟩ := h
  have hce : Try.prog.cellsOf 102 = 2 := by kernel_rfl
  have hcu : Try.prog.cellsOf 3 = 1 := by kernel_rfl
  have hcb : Try.prog.cellsOf 4 = 1 := by kernel_rfl
  rcases open_slice Try.underlying108 hf with ⟨hcs, _⟩ | ⟨a, len', cap', m, n, D, Pl, hcs, _, hl, hm, hmm, _, hall⟩
  · simp [Value.cells] at hcs
    obtain ⟨rfl, rfl, rfl⟩ := hcs
    exact ⟨[], ⟨_, _, rfl, fun h => absurd rfl h⟩, by decide, fun p n c e => by cases e; exact ⟨Nat.le_refl _, fun _ => rfl⟩⟩
  · simp [Value.cells] at hcs
    obtain ⟨rfl, rfl, rfl⟩ := hcs
    simp only [if_true] at hmm
    have hone : ∀ i, i < len → ∃ g : Int × Bool, W.cell? (a.add (i * 2)) = some (.int .i64 g.1) ∧ W.cell? (a.add (i * 2 + 1)) = some (.bool g.2) := by
      intro i hi
      obtain ⟨cs', hc, ht⟩ := hall i (by omega)
      rw [hce] at hc
      obtain ⟨_, hcl, hat⟩ := World.cells?_some hc
      obtain ⟨xs, k, _, _, _, hlx, hx⟩ := DataW.trod_struct Try.underlying102 ht
      have hlx : xs.length = 2 := hlx
      match cs', hcl with
      | [c0, c1], _ =>
        have h0 : DataW.trod enc Try.prog W 0 (fun _ => true) true k 3 (([c0, c1].drop 0).take (Try.prog.cellsOf 3)) = xs[0]? := hx 0 _ rfl
        have h1 : DataW.trod enc Try.prog W 0 (fun _ => true) true k 4 (([c0, c1].drop 1).take (Try.prog.cellsOf 4)) = xs[1]? := hx 1 _ rfl
        rw [hcu] at h0
        rw [hcb] at h1
        simp only [List.drop_zero, List.take_succ_cons, List.take_zero, List.drop_succ_cons] at h0 h1
        rw [List.getElem?_eq_getElem (by omega)] at h0 h1
        have e0 := hat 0 (by decide)
        have e1 := hat 1 (by decide)
        rw [Go.Deep.add_add] at e0 e1
        obtain ⟨x0, y0, _, w0⟩ := DataW.trod_int (t := 3) Try.underlying3 h0
        obtain ⟨x1, y1, _⟩ := DataW.trod_bool (t := 4) Try.underlying4 h1
        simp only [List.cons.injEq, and_true] at y0 y1
        subst y0 y1
        exact ⟨(x0, x1), by simpa using e0, by simpa using e1⟩
    obtain ⟨F, hF⟩ := choose_lt' hone
    have hlen : ((List.range len).map F).length = len := by simp
    refine ⟨(List.range len).map F, ⟨_, _, by rw [hlen], fun hne => ?_⟩, by rw [hlen]; unfold maxLen at hm; omega, fun p n c e => by cases e; exact ⟨hl, fun h => by cases h⟩⟩
    have hpos : 0 < len := by
      rcases Nat.eq_zero_or_pos len with e | e
      · subst e; exact absurd rfl hne
      · exact e
    obtain ⟨b, off, sp⟩ := a
    have h0 := (hF 0 hpos).1
    rw [Nat.zero_mul, Addr.add_zero'] at h0
    obtain rfl := spot_none h0
    refine ⟨b, off, rfl, fun i hi => ?_⟩
    rw [hlen] at hi
    have hg := hF i hi
    rw [addr_add_off, addr_add_off] at hg
    simp only [List.getElem_map, List.getElem_range]
    exact ⟨hg.1, by rw [Nat.add_assoc]; exact hg.2⟩


end Go.Proofs.Ytdmcijfjnegcgaa
/-
  Package grace: graces, their boxes, and rows of truth values; which CPUs there are; who is needed.
  Conditions: none.
-/
namespace Go.Proofs.Ytdmcijfjnegcgaa
set_option maxRecDepth 100000
open Go.RowKit Go.Shelf
attribute [local go_sem] Oper.semAt_some

/-- A grace. -/
structure GrS where
  done : Int
  asked : Int
  on : Bool
  nd : List Bool

/-- A slice of truth values. -/
def BoolsAt (W : World) (v : Value) (bs : List Bool) : Prop := ∃ p cap, v = .slice p bs.length cap ∧ (bs ≠ [] → ∃ b off, p = some ⟨b, off, none⟩ ∧ ∀ i (h : i < bs.length), W.cell? ⟨b, off + i, none⟩ = some (.bool bs[i]))
theorem bools_below {W W' : World} {v : Value} {bs : List Bool} (h : BoolsAt W v bs) (hb : Below W.heap.size W W') : BoolsAt W' v bs := by
  obtain ⟨p, cap, rfl, hc⟩ := h
  refine ⟨p, cap, rfl, fun hne => ?_⟩
  obtain ⟨b, off, rfl, hcs⟩ := hc hne
  exact ⟨b, off, rfl, fun i hi => below_cell hb (hcs i hi)⟩
theorem bools_of_owns {B : Nat} {E : TypeId} {W : World} {v : Value} {bs : List Bool} {n : Nat} (hl : bs.length = n) (h : W.ownsRow B E 1 v n (bs.map Value.bool)) : BoolsAt W v bs := by
  subst hl
  rcases h.2 with ⟨rfl, h0⟩ | ⟨g, cap, cur, rfl, _⟩
  · obtain rfl : bs = [] := List.eq_nil_of_length_eq_zero h0
    exact ⟨none, 0, rfl, fun h => absurd rfl h⟩
  · refine ⟨_, _, rfl, fun _ => ⟨g, 0, rfl, fun i hi => ?_⟩⟩
    have h1 := h.cellAt i (by omega)
    rw [List.getElem?_eq_getElem (by simpa using hi)] at h1
    simpa using h1
/-- A block that holds these truth values. -/
def BBlock (W : World) (g : Nat) (bs : List Bool) : Prop := W.heap[g]? = some (.cells (bs.map Value.bool).toArray 4 (0, 0))
theorem BBlock.lt {W : World} {g : Nat} {bs : List Bool} (h : BBlock W g bs) : g < W.heap.size := (Array.getElem?_eq_some_iff.1 h).1
theorem BBlock.below {W W' : World} {g : Nat} {bs : List Bool} (h : BBlock W g bs) (hb : Below W.heap.size W W') : BBlock W' g bs := (hb.block g h.lt).trans h
theorem BBlock.keeps {S : Nat → Prop} {W W' : World} {g : Nat} {bs : List Bool} (h : BBlock W g bs) (hk : Keeps S W W') (hS : ¬ S g) : BBlock W' g bs := (hk.block g h.lt hS).trans h
theorem BBlock.cell {W : World} {g : Nat} {bs : List Bool} (h : BBlock W g bs) (i : Nat) (hi : i < bs.length) : W.cell? ⟨g, i, none⟩ = some (.bool bs[i]) := by
  have h' : W.heap[g]? = _ := h
  simp [World.cell?, h', hi]
theorem BBlock.free {W : World} {g : Nat} {bs : List Bool} (h : BBlock W g bs) (i : Nat) : W.frozen? ⟨g, i, none⟩ = false := by
  have h' : W.heap[g]? = _ := h
  simp [World.frozen?, h']
theorem BBlock.set {W : World} {g : Nat} {bs : List Bool} (h : BBlock W g bs) (i : Nat) (x : Bool) : BBlock (W.setCell ⟨g, i, none⟩ (.bool x)) g (bs.set i x) := by
  unfold BBlock
  rw [heap_setCell_same W g i _ _ (.bool x) h]
  simp [List.map_set]
theorem BBlock.bools {W : World} {g : Nat} {bs : List Bool} (h : BBlock W g bs) : BoolsAt W (.slice (some ⟨g, 0, none⟩) bs.length bs.length) bs :=
  ⟨_, _, rfl, fun _ => ⟨g, 0, rfl, fun i hi => by rw [Nat.zero_add]; exact h.cell i hi⟩⟩
theorem BBlock.owns {W : World} {B g : Nat} {bs : List Bool} (h : BBlock W g bs) (hB : B ≤ g) (hl : bs.length ≤ 1099511627776) : W.ownsRow B 4 1 (.slice (some ⟨g, 0, none⟩) bs.length bs.length) bs.length (bs.map Value.bool) :=
  ⟨by rw [List.length_map]; omega, .inr ⟨g, bs.length, _, rfl, hB, h, Nat.le_refl _, by unfold maxLen; omega, by rw [List.size_toArray, List.length_map]; omega, by rw [List.toList_toArray]; exact List.take_of_length_le (by rw [List.length_map]; omega)⟩⟩

/-- A row of truth values lies there, outside of S. -/
def BoolOut (S : Nat → Prop) (W : World) (p : Option Addr) (bs : List Bool) : Prop := bs ≠ [] → ∃ b off, p = some ⟨b, off, none⟩ ∧ ¬ S b ∧ ∀ i (h : i < bs.length), W.cell? ⟨b, off + i, none⟩ = some (.bool bs[i])
theorem BoolOut.keeps {S : Nat → Prop} {W W' : World} {p : Option Addr} {bs : List Bool} (h : BoolOut S W p bs) (hk : KeepsCells S W W') : BoolOut S W' p bs := fun hne => by
  obtain ⟨b, off, e, hS, hc⟩ := h hne
  exact ⟨b, off, e, hS, fun i hi => hk _ _ _ hS (hc i hi)⟩
theorem BoolOut.below {S : Nat → Prop} {W W' : World} {p : Option Addr} {bs : List Bool} (h : BoolOut S W p bs) (hb : Below W.heap.size W W') : BoolOut S W' p bs := fun hne => by
  obtain ⟨b, off, e, hS, hc⟩ := h hne
  exact ⟨b, off, e, hS, fun i hi => below_cell hb (hc i hi)⟩

/-- What box a grace lies in. -/
def GBox (W : World) (z : Nat) (d a : Int) (on : Bool) (v : Value) : Prop := W.heap[z]? = some (.cells #[.int .i64 d, .int .i64 a, .bool on, v] 24 (0, 0))
theorem GBox.cells {W : World} {z : Nat} {d a : Int} {on : Bool} {v : Value} (h : GBox W z d a on v) : W.cell? ⟨z, 0, none⟩ = some (.int .i64 d) ∧ W.cell? ⟨z, 1, none⟩ = some (.int .i64 a) ∧ W.cell? ⟨z, 2, none⟩ = some (.bool on) ∧ W.cell? ⟨z, 3, none⟩ = some v := by
  have h' : W.heap[z]? = _ := h
  simp [World.cell?, h']
theorem GBox.marks {W : World} {z : Nat} {d a : Int} {on : Bool} {v : Value} (h : GBox W z d a on v) (i : Nat) : W.frozen? ⟨z, i, none⟩ = false := by
  have h' : W.heap[z]? = _ := h
  simp [World.frozen?, h']
theorem GBox.lt {W : World} {z : Nat} {d a : Int} {on : Bool} {v : Value} (h : GBox W z d a on v) : z < W.heap.size := (Array.getElem?_eq_some_iff.1 h).1
theorem GBox.below {W W' : World} {z : Nat} {d a : Int} {on : Bool} {v : Value} (h : GBox W z d a on v) (hb : Below W.heap.size W W') : GBox W' z d a on v := (hb.block z h.lt).trans h
theorem GBox.keeps {S : Nat → Prop} {W W' : World} {z : Nat} {d a : Int} {on : Bool} {v : Value} (h : GBox W z d a on v) (hk : Keeps S W W') (hz : ¬ S z) : GBox W' z d a on v := (hk.block z h.lt hz).trans h
theorem GBox.new (W : World) (d a : Int) (on : Bool) (v : Value) : GBox (W.alloc (.cells #[.int .i64 d, .int .i64 a, .bool on, v] 24)) W.heap.size d a on v := World.alloc_heap_new W _
theorem GBox.put {W : World} {z : Nat} {d0 a0 : Int} {on0 : Bool} {v0 : Value} (h : GBox W z d0 a0 on0 v0) (d a : Int) (on : Bool) (v : Value) : GBox ((((W.setCell ⟨z, 0, none⟩ (.int .i64 d)).setCell ⟨z, 1, none⟩ (.int .i64 a)).setCell ⟨z, 2, none⟩ (.bool on)).setCell ⟨z, 3, none⟩ v) z d a on v := by
  have h0 := heap_setCell_same W z 0 _ _ (.int .i64 d) h
  have h1 := heap_setCell_same _ z 1 _ _ (.int .i64 a) h0
  have h2 := heap_setCell_same _ z 2 _ _ (.bool on) h1
  have h3 := heap_setCell_same _ z 3 _ _ v h2
  unfold GBox
  rw [h3]
  rfl
theorem GBox.putK (W : World) (z : Nat) (d a : Int) (on : Bool) (v : Value) : Keeps (fun k => k = z) W ((((W.setCell ⟨z, 0, none⟩ (.int .i64 d)).setCell ⟨z, 1, none⟩ (.int .i64 a)).setCell ⟨z, 2, none⟩ (.bool on)).setCell ⟨z, 3, none⟩ v) :=
  (((Keeps.setCell W (S := (· = z)) (p := ⟨z, 0, none⟩) rfl _).trans (Keeps.setCell _ (S := (· = z)) (p := ⟨z, 1, none⟩) rfl _)).trans (Keeps.setCell _ (S := (· = z)) (p := ⟨z, 2, none⟩) rfl _)).trans (Keeps.setCell _ (S := (· = z)) (p := ⟨z, 3, none⟩) rfl _)
theorem grace_info : (Try.prog.info? 24).map (·.size) = some 4 := by kernel_rfl
theorem grace_load {W : World} {z : Nat} {d a : Int} {on : Bool} {v : Value} (h : GBox W z d a on v) : (loadVar 24 ⟨z, 0, none⟩).run Try.prog W = .ok (.agg #[.int .i64 d, .int .i64 a, .bool on, v]) W := by
  obtain ⟨h0, h1, h2, h3⟩ := h.cells
  refine run_loadVar_mid W z 0 24 [.int .i64 d, .int .i64 a, .bool on, v] _ (fun j u hj => ?_) Try.underlying24 rfl grace_info
  rw [Nat.zero_add]
  match j, hj with
  | 0, hj => cases hj; exact h0
  | 1, hj => cases hj; exact h1
  | 2, hj => cases hj; exact h2
  | 3, hj => cases hj; exact h3
  | (k + 4), hj => simp at hj
theorem GBox.result2 {fn : Func} {W : World} {z : Nat} {a b : Tmp} {d k : Int} {on : Bool} {v x : Value} (h : GBox W z d k on v) (hf : fn.results = #[.cell a 24, .tmp b]) (tmps : Array Value) (h2 : tmps.getD a undef = .pointer (some ⟨z, 0, none⟩)) (h3 : tmps.getD b undef = x) :
    (results fn tmps).run Try.prog W = .ok (.tuple #[.agg #[.int .i64 d, .int .i64 k, .bool on, v], x]) W := results_ct hf tmps Try.prog W h2 h3 (grace_load h)
theorem GBox.result3 {fn : Func} {W : World} {z : Nat} {a b c : Tmp} {d k : Int} {on : Bool} {v x y : Value} (h : GBox W z d k on v) (hf : fn.results = #[.cell a 24, .tmp b, .tmp c]) (tmps : Array Value) (h2 : tmps.getD a undef = .pointer (some ⟨z, 0, none⟩)) (h3 : tmps.getD b undef = x) (h4 : tmps.getD c undef = y) :
    (results fn tmps).run Try.prog W = .ok (.tuple #[.agg #[.int .i64 d, .int .i64 k, .bool on, v], x, y]) W := results_ctt hf tmps Try.prog W h2 h3 h4 (grace_load h)

set_option maxHeartbeats 4000000 in
theorem gmayBe_c (n : Int) (W : World) : Calls Try.prog 72 #[.int .i64 n] W fun e w' => e = .returned (.bool (mayCpus n)) ∧ w' = W := by
  have hc : (n < 1 ∧ mayCpus n = false) ∨ (1 ≤ n ∧ mayCpus n = decide (n ≤ 8)) := by
    unfold mayCpus
    by_cases h : 1 ≤ n
    · rw [decide_eq_true h]; exact .inr ⟨h, rfl⟩
    · rw [decide_eq_false h]; exact .inl ⟨by omega, rfl⟩
  rcases hc with ⟨h0, hr⟩ | ⟨h0, hr⟩
  all_goals
    rw [hr]; clear hr
    go_enter Try.func72, Try.ntmps72
    go_wp2
    go_ret
    exact ⟨rfl, rfl⟩

set_option maxHeartbeats 4000000 in
theorem ghas_c (d a n : Int) (on : Bool) (p : Option Addr) (k c : Nat) (W : World) : Calls Try.prog 75 #[.agg #[.int .i64 d, .int .i64 a, .bool on, .slice p k c], .int .i64 n] W fun e w' => e = .returned (.bool (hasB k n)) ∧ Below W.heap.size W w' := by
  have hc : (n < 0 ∧ hasB k n = false) ∨ (0 ≤ n ∧ hasB k n = decide (n < (k : Int))) := by
    unfold hasB
    by_cases h : 0 ≤ n
    · rw [decide_eq_true h]; exact .inr ⟨h, rfl⟩
    · rw [decide_eq_false h]; exact .inl ⟨by omega, rfl⟩
  rcases hc with ⟨h0, hr⟩ | ⟨h0, hr⟩
  all_goals
    rw [hr]; clear hr
    go_enter Try.func75, Try.ntmps75
    go_wp2
    go_ret
    exact ⟨rfl, by first | exact below1 _ _ | exact below2 _ _ _⟩

set_option maxHeartbeats 4000000 in
theorem needed_c (d a : Int) (on : Bool) (v : Value) (W : World) : Calls Try.prog 65 #[.agg #[.int .i64 d, .int .i64 a, .bool on, v]] W fun e w' => e = .returned (.func (.func 76) #[] #[.pointer (some ⟨W.heap.size, 0, none⟩)]) ∧ w' = W.alloc (.cells #[.int .i64 d, .int .i64 a, .bool on, v] 24) := by
  go_enter Try.func65, Try.ntmps65
  go_wp2
  go_ret
  exact ⟨rfl, rfl⟩

/-- Who is needed of the first so many CPUs. -/
def trN (nd : List Bool) : Nat → List Int
  | 0 => []
  | j + 1 => trN nd j ++ (if nd.getD j false = true then [(j : Int)] else [])
theorem trN_len (nd : List Bool) : ∀ j, (trN nd j).length ≤ j
  | 0 => Nat.le_refl _
  | j + 1 => by
    have := trN_len nd j
    unfold trN
    rw [List.length_append]
    split <;> simp <;> omega
theorem trN_mem (nd : List Bool) (x : Int) : ∀ j, x ∈ trN nd j ↔ ∃ i : Nat, i < j ∧ x = (i : Int) ∧ nd.getD i false = true
  | 0 => by unfold trN; simp
  | j + 1 => by
    unfold trN
    rw [List.mem_append, trN_mem nd x j]
    constructor
    · rintro (⟨i, h, e, hi⟩ | h)
      · exact ⟨i, by omega, e, hi⟩
      · split at h
        · rename_i hj
          exact ⟨j, by omega, List.mem_singleton.1 h, hj⟩
        · cases h
    · rintro ⟨i, h, e, hi⟩
      by_cases hij : i = j
      · subst hij
        rw [if_pos hi]
        exact .inr (by rw [e]; simp)
      · exact .inl ⟨i, by omega, e, hi⟩
theorem trN_pre (nd : List Bool) (j : Nat) : ∀ k, ∃ m, trN nd (j + k) = trN nd j ++ m
  | 0 => ⟨[], by simp⟩
  | k + 1 => by
    obtain ⟨m, h⟩ := trN_pre nd j k
    refine ⟨m ++ (if nd.getD (j + k) false = true then [((j + k : Nat) : Int)] else []), ?_⟩
    rw [← List.append_assoc, ← h]
    rfl

end Go.Proofs.Ytdmcijfjnegcgaa
/-
  Package grace: needed tells the CPUs that are needed, CPU by CPU.
  Conditions: who ranges over them leaves the grace, and its row, as they are.
-/
namespace Go.Proofs.Ytdmcijfjnegcgaa
set_option maxRecDepth 100000
open Go.RowKit Go.Shelf
attribute [local go_sem] Oper.semAt_some

set_option maxHeartbeats 4000000 in
theorem needed_stops (n : Nat) (hn : 1 ≤ n) (S : Nat → Prop) (lb : Nat) (d a : Int) (on : Bool) (p : Option Addr) (c : Nat) (nd : List Bool) (w : World) (hmax : nd.length ≤ 4611686018427387904)
    (hc : GBox w lb d a on (.slice p nd.length c)) (hl : BoolOut S w p nd) :
    SeqDeep Fence.wide n Try.prog 76 #[.pointer (some ⟨lb, 0, none⟩)] (fun x : Int => #[.int .i64 x]) (KeepsCells S)
      (fun xs => xs = trN nd nd.length) (fun xs => ∃ j, j ≤ nd.length ∧ xs = trN nd j) nd.length w := fun l J Jx W hW hJ hJx hY h0 => by
  refine callsIn_of_wp Try.func76 rfl trivial ?_ rfl
  simp only [Try.ntmps76, List.size_toArray, List.length_cons, List.length_nil, Nat.reduceAdd, Nat.reduceSub, Array.replicate_succ, Array.replicate_zero, List.push_toArray, List.append_toArray, List.nil_append, List.cons_append]
  have hcW := (hc.below hW).cells.2.2.2
  have HLW := Lib.hid (hl.below hW)
  have HJ := Lib.hid (And.intro hJ hJx)
  clear hc hl hJ hJx
  gi_wp2
  gi_loopw [8] (fun iv wr => ∃ (j : Nat) (pre : List Int), j ≤ nd.length ∧ iv = .int .i64 (j : Int) ∧ Hid (BoolOut S wr p nd ∧ W.heap.size ≤ wr.heap.size) ∧ Hid (J pre wr) ∧ Hid (pre = trN nd j)) (fun iv _ => nd.length - (intOf iv).toNat)
  case atStart => exact ⟨0, [], Nat.zero_le _, rfl, ⟨HLW.out, Nat.le_refl _⟩, h0, rfl⟩
  case round =>
    clear HLW hcW h0
    obtain ⟨j, pre, hj, rfl, HL, HJp, HE⟩ := hrel
    by_cases hjl : j < nd.length
    · have hne : nd ≠ [] := by intro e; rw [e] at hjl; simp at hjl
      obtain ⟨h1, hsz⟩ := HL.out
      obtain ⟨b1, off1, hp, hSb1, hcs1⟩ := h1 hne
      have hx := hcs1 j hjl
      obtain ⟨x, hxe⟩ : ∃ x, x = nd[j] := ⟨_, rfl⟩
      have HXE := Lib.hid (show nd.getD j false = x by rw [List.getD_eq_getElem?_getD, List.getElem?_eq_getElem hjl, hxe]; rfl)
      rw [← hxe] at hx
      have HLN := Lib.hid (fun (wr' : World) (hk : KeepsCells S wr wr') (hz : wr.heap.size ≤ wr'.heap.size) => (show BoolOut S wr' p nd ∧ W.heap.size ≤ wr'.heap.size from ⟨h1.keeps hk, Nat.le_trans hsz hz⟩))
      have HLP := Lib.hid (show pre.length < nd.length by rw [HE.out]; have := trN_len nd j; omega)
      have HSZ := Lib.hid hsz
      clear hcs1 hne hxe h1 hsz
      subst hp
      have hj0 : (0 : Int) ≤ (j : Int) := by omega
      have hjl' : (j : Int) < (nd.length : Int) := by omega
      have hb1 := World.block_lt_of_cell? wr _ hx
      cases x with
      | false =>
        have HE2 := Lib.hid (show pre = trN nd (j + 1) by unfold trN; rw [if_neg (by rw [HXE.out]; exact Bool.false_ne_true), List.append_nil]; exact HE.out)
        clear HE hY HLP HXE
        gi_wp2
        refine ⟨fun f h => (by cases h), ?_⟩
        gi_wp2
        go_roundw
        case rel => exact ⟨j + 1, pre, by omega, rfl, HLN.out _ (KeepsCells.refl _ _) (Nat.le_refl _), HJp, HE2⟩
        case measure => first | omega | (simp [intOf]; omega)
      | true =>
        have HE2 := Lib.hid (show pre ++ [(j : Int)] = trN nd (j + 1) by unfold trN; rw [if_pos HXE.out, ← HE.out])
        obtain ⟨fn, tmps, assign, body, hy2, hR⟩ := hY pre (j : Int) wr HJp.out HLP.out ⟨j + 1, by omega, HE2.out⟩
        clear HE hY HLP HXE HJp
        gi_wp2
        refine hR.mono ?_
        rintro e W3 (⟨rfl, hJ3, hk3, hf3⟩ | ⟨rfl, hJx3, -⟩)
        · have HL3 := Lib.hid (HLN.out W3 hk3 hf3.size)
          have HJ3 := Lib.hid hJ3
          clear hJ3 hk3 hf3 hR
          gi_wp2
          go_roundw
          case rel => exact ⟨j + 1, _, by omega, rfl, HL3, HJ3, HE2⟩
          case measure => first | omega | (simp [intOf]; omega)
        · have HJX := Lib.hid (show (∃ pre', (∃ j, j ≤ nd.length ∧ pre' = trN nd j) ∧ Jx pre' W3) from ⟨_, ⟨j + 1, by omega, HE2.out⟩, hJx3⟩)
          clear hJx3 hR
          gi_wp2
          refine bodyPost_ret (results_none rfl _ _ _) rfl ?_
          exact ⟨⟨_, rfl⟩, .inr HJX.out⟩
    · obtain rfl : j = nd.length := by omega
      have HF := Lib.hid (show ∃ xs, xs = trN nd nd.length ∧ J xs wr from ⟨pre, HE.out, HJp.out⟩)
      clear HE HJp hjl hj
      gi_wp2
      go_end0
      exact ⟨⟨_, rfl⟩, .inl HF.out⟩

end Go.Proofs.Ytdmcijfjnegcgaa
/-
  Package grace: which graces may be.
  Conditions: the ranges of Go's types.
-/
namespace Go.Proofs.Ytdmcijfjnegcgaa
set_option maxRecDepth 100000
open Go.RowKit Go.Shelf
attribute [local go_sem] Oper.semAt_some

/-- How many CPUs are needed. -/
def manyG (nd : List Bool) : Nat := (trN nd nd.length).length
def numsG (g : GrS) : Bool := mayCpus g.nd.length && (decide (0 ≤ g.done) && (decide (g.done ≤ g.asked) && decide (g.asked ≤ 2147483645)))
def tellG (g : GrS) : Bool := if g.on = true then decide (0 < (manyG g.nd : Int)) && (decide (1 ≤ g.asked - g.done) && decide (g.asked - g.done ≤ 2)) else decide ((manyG g.nd : Int) = 0) && decide (g.asked - g.done ≤ 1)
/-- Which graces may be. -/
def mayG (g : GrS) : Bool := numsG g && tellG g

set_option maxHeartbeats 4000000 in
theorem gmay_no (g : GrS) (p : Option Addr) (c : Nat) (W : World) (h : numsG g = false) (hk : g.nd.length ≤ 9223372036854775807) :
    Calls Try.prog 58 #[.agg #[.int .i64 g.done, .int .i64 g.asked, .bool g.on, .slice p g.nd.length c]] W fun e w' => e = .returned (.bool false) ∧ Below W.heap.size W w' := by
  obtain ⟨d, a, on, nd⟩ := g
  unfold numsG at h
  simp only at h hk ⊢
  have hc : mayCpus nd.length = false ∨ (mayCpus nd.length = true ∧ d < 0) ∨ (mayCpus nd.length = true ∧ 0 ≤ d ∧ a < d) ∨ (mayCpus nd.length = true ∧ 0 ≤ d ∧ d ≤ a ∧ 2147483645 < a) := by
    cases hh : mayCpus nd.length with
    | false => exact .inl rfl
    | true =>
      rw [hh] at h
      simp only [Bool.true_and, Bool.and_eq_false_iff, decide_eq_false_iff_not] at h
      refine .inr ?_
      by_cases h1 : d < 0
      · exact .inl ⟨rfl, h1⟩
      · by_cases h2 : a < d
        · exact .inr (.inl ⟨rfl, by omega, h2⟩)
        · exact .inr (.inr ⟨rfl, by omega, by omega, by omega⟩)
  clear h
  obtain ⟨n, hn⟩ : ∃ n, n = nd.length := ⟨_, rfl⟩
  rw [← hn] at hc hk ⊢
  clear hn
  have HC := Lib.hid (fun (W : World) => gmayBe_c (n : Int) W)
  rcases hc with h1 | ⟨h1, h2⟩ | ⟨h1, h2, h3⟩ | ⟨h1, h2, h3, h4⟩
  all_goals
    rw [h1] at HC
    clear h1
    go_enter Try.func58, Try.ntmps58
    go_wp2_with fail
    (with_reducible refine (HC.out _).mono ?_)
    rintro e w1 ⟨rfl, rfl⟩
    go_wp2
    go_ret
    exact ⟨rfl, below1 _ _⟩

def wG (W : World) (d a : Int) (on : Bool) (v : Value) : World := (W.alloc (.cells #[.int .i64 d, .int .i64 a, .bool on, v] 24)).alloc (.cells #[.int .i64 0] 3)
theorem wG_facts (W : World) (d a : Int) (on : Bool) (v : Value) : GBox (wG W d a on v) W.heap.size d a on v ∧ Boxed (wG W d a on v) (W.heap.size + 1) 3 (.int .i64 0) ∧ Below W.heap.size W (wG W d a on v) ∧ (wG W d a on v).heap.size = W.heap.size + 2 := by
  refine ⟨(GBox.new W d a on v).below (below1 _ _), ?_, below2 _ _ _, by unfold wG; simp⟩
  have := Boxed.new (W.alloc (.cells #[.int .i64 d, .int .i64 a, .bool on, v] 24)) 3 (.int .i64 0)
  simpa [wG] using this
/-- Between two rounds. -/
def GI (W : World) (d a : Int) (on : Bool) (v : Value) (pre : List Int) (W' : World) : Prop :=
  GBox W' W.heap.size d a on v ∧ Boxed W' (W.heap.size + 1) 3 (.int .i64 (pre.length : Int)) ∧ Below W.heap.size W W'
theorem gi_own (W : World) (d a : Int) (on : Bool) (v : Value) (z : Nat) (hz : W.heap.size + 3 ≤ z) : OwnFrom z (GI W d a on v) := by
  rintro s X Y row ⟨h1, h2, h3⟩ hg hr
  have hr' := fun r e => (hr r e).2
  exact ⟨heap_own h1 hg hr', heap_own h2 hg hr', h3.grown hg h3.size (fun k e => by have := (hr k e).1; omega)⟩

set_option maxHeartbeats 8000000 in
theorem gmay_yes (g : GrS) (p : Option Addr) (c : Nat) (W : World) (h : numsG g = true) (hl : BoolOut (fun _ => False) W p g.nd) :
    Calls Try.prog 58 #[.agg #[.int .i64 g.done, .int .i64 g.asked, .bool g.on, .slice p g.nd.length c]] W fun e w' => e = .returned (.bool (tellG g)) ∧ Below W.heap.size W w' := by
  obtain ⟨d, a, on, nd⟩ := g
  unfold numsG at h
  simp only [Bool.and_eq_true, decide_eq_true_eq] at h hl ⊢
  obtain ⟨h1, h2, h3, h4⟩ := h
  have hk8 : 1 ≤ nd.length ∧ nd.length ≤ 8 := by unfold mayCpus at h1; simp only [Bool.and_eq_true, decide_eq_true_eq] at h1; omega
  have HC := Lib.hid (fun (W : World) => gmayBe_c (nd.length : Int) W)
  rw [h1] at HC
  have HF := Lib.hid (wG_facts W d a on (.slice p nd.length c))
  obtain ⟨w0, hw0⟩ : ∃ X, X = wG W d a on (.slice p nd.length c) := ⟨_, rfl⟩
  rw [← hw0] at HF
  unfold wG at hw0
  have HL := Lib.hid (show BoolOut (fun k => k = W.heap.size + 1) w0 p nd from fun hne => by
    obtain ⟨bb, off, e, -, hcs⟩ := hl hne
    obtain ⟨i0, hi0⟩ : ∃ i : Nat, i < nd.length := ⟨0, by omega⟩
    have hlt := World.block_lt_of_cell? W _ (hcs i0 hi0)
    exact ⟨bb, off, e, (by simp only at hlt; omega), fun i hi => below_cell HF.out.2.2.1 (hcs i hi)⟩)
  have HN := Lib.hid hk8
  have hd1 : decide (d < 0) = false := by simp; omega
  have hd2 : decide (a < d) = false := by simp; omega
  have hd3 : decide (2147483645 < a) = false := by simp; omega
  clear h1 hl
  refine (callsIn_wide (n := 9)).1 ?_
  refine callsIn_of_wp_marks Try.func58 rfl trivial ?_ rfl
  simp only [Try.ntmps58, List.size_toArray, List.length_cons, List.length_nil, Nat.reduceAdd, Nat.reduceSub, Array.replicate_succ, Array.replicate_zero, List.push_toArray, List.append_toArray, List.nil_append, List.cons_append]
  gi_wp2_with fail
  refine ⟨trivial, (callsIn_wide.2 (HC.out _)).mono ?_⟩
  rintro e w1 ⟨rfl, rfl⟩
  obtain ⟨c0, c1, c2, c3⟩ := HF.out.1.cells
  clear HC
  gi_wp2_with fail
  rw [← hw0]
  clear hw0
  refine ⟨trivial, (callsIn_wide.2 (needed_c d a on (.slice p nd.length c) w0)).mono ?_⟩
  rintro e w2 ⟨rfl, hw2⟩
  have hb12 : Below w0.heap.size w0 w2 := by rw [hw2]; exact below1 _ _
  have HPB := Lib.hid (show GBox w2 w0.heap.size d a on (.slice p nd.length c) by rw [hw2]; exact GBox.new _ _ _ _ _)
  have HI0 := Lib.hid (show GI W d a on (.slice p nd.length c) [] w2 from ⟨HF.out.1.below hb12, (hb12.block _ HF.out.2.1.lt).trans HF.out.2.1, below_then HF.out.2.2.1 HF.out.2.2.1.size hb12⟩)
  have HL2 := Lib.hid (HL.out.below hb12)
  have hz0 : w0.heap.size = W.heap.size + 2 := HF.out.2.2.2
  have hz2 : w2.heap.size = W.heap.size + 3 := by rw [hw2, World.size_alloc, hz0]
  have HZ0 := Lib.hid (And.intro hz0 hz2)
  clear hw2 hb12 c0 c1 c2 c3 HL hz0 hz2
  gi_wp2
  have hGI := gi_own W d a on (.slice p nd.length c) w2.heap.size (by have := HZ0.out; omega)
  refine wpIn_rangeDeep rfl (by omega) (gf := 76) (lb := #[.pointer (some ⟨w0.heap.size, 0, none⟩)]) rfl trivial (enters_of Try.func76 (by kernel_rfl) rfl)
    (needed_stops 8 (by omega) (fun k => k = W.heap.size + 1) w0.heap.size d a on p c nd w2 (by omega) HPB.out HL2.out) (fun h k => h.trans k) (fun W l o o' _ => KeepsCells.turn _ W l o o') (Below.refl _ _) (fun _ => rfl)
    (GI W d a on (.slice p nd.length c)) (fun _ _ _ => False) hGI (fun _ => ownFrom_pure _ _) HI0.out
    (fun x a' _ => a' = { tmps := #[.agg #[.int .i64 d, .int .i64 a, .bool on, .slice p nd.length c], .pointer (some ⟨W.heap.size, 0, none⟩), .bool false, .pointer (some ⟨W.heap.size + 1, 0, none⟩), undef, .pointer (some ⟨W.heap.size, 3, none⟩), .slice p nd.length c, .int .i64 (nd.length : Int), .bool true, .bool false, .bool false, .pointer (some ⟨W.heap.size, 0, none⟩), .int .i64 d, .bool false, .bool false, .bool false, .pointer (some ⟨W.heap.size, 1, none⟩), .int .i64 a, .pointer (some ⟨W.heap.size, 0, none⟩), .int .i64 d, .bool false, .bool false, .bool false, .pointer (some ⟨W.heap.size, 1, none⟩), .int .i64 a, .bool false, .bool false, .agg #[.int .i64 d, .int .i64 a, .bool on, .slice p nd.length c], .func (.func 76) #[] #[.pointer (some ⟨w0.heap.size, 0, none⟩)], .int .i64 x, undef, undef, undef, undef, undef, undef, undef, undef, undef, undef, undef, undef, undef, undef, undef, undef, undef, undef, undef, undef, undef, undef, undef, undef, undef], defers := [] })
    ?hAx ?assign ?body ?done ?stop
  case hAx => exact fun x a' => ownFrom_pure _ _
  case assign =>
    rintro l' pre x X K hi hK
    gi_wp2
    exact hK _ _ (KeepsFrom.refl _ _) (KeepsCells.refl _ _) hi rfl
  case body =>
    rintro l' pre x a' X hl' _ hI rfl hlen -
    obtain ⟨hi1, hi2, hi3⟩ := hI
    have e1 := hi2.cell
    have f1 := hi2.frozen
    have HEQ := Lib.hid (show ((pre ++ [x]).length : Int) = (pre.length : Int) + 1 by simp)
    have HI := Lib.hid (And.intro hi1 (And.intro hi2 hi3))
    have hpl : pre.length < 8 := by have := HN.out; omega
    clear hi1 hi2 hi3 hlen hGI HI0 HPB HL2
    gi_wp2
    refine ⟨(KeepsOthers.setCell _ _ _).from _, KeepsCells.keeps (Keeps.setCell _ (S := (· = W.heap.size + 1)) (p := ⟨W.heap.size + 1, 0, none⟩) rfl _), ?_, ?_, HI.out.2.2.setCell (p := ⟨W.heap.size + 1, 0, none⟩) (by show W.heap.size ≤ W.heap.size + 1; omega) _⟩
    · exact HI.out.1.keeps (Keeps.setCell _ (S := (· = W.heap.size + 1)) (p := ⟨W.heap.size + 1, 0, none⟩) rfl _) (by omega)
    · rw [HEQ.out]; exact HI.out.2.1.set _
  case done =>
    rintro D xs X hD rfl ⟨h1, h2', h3'⟩ hK
    obtain ⟨c0, c1, c2, c3⟩ := h1.cells
    obtain ⟨m, hm⟩ : ∃ m : Nat, m = (trN nd nd.length).length := ⟨_, rfl⟩
    have HM := Lib.hid hm
    rw [← hm] at h2'
    have hm8 : m ≤ 8 := by have := trN_len nd nd.length; have := HN.out; omega
    have e4 := h2'.cell
    have HB := Lib.hid h3'
    have HW := Lib.hid (And.intro hD hK)
    have HSZ := Lib.hid (show W.heap.size ≤ w2.heap.size by have := HZ0.out; omega)
    clear h1 h2' h3' hGI HI0 HPB HL2 hD hK hm
    cases on with
    | true =>
      gi_wp2
      all_goals
        refine leaves_marks (B := W.heap.size) [D] _ ((Marks.nil _ _).cons (Nat.le_trans HSZ.out HW.out.1) (by simp) HW.out.2) fun X' hX' => ⟨_, results_tmp rfl _ _ _, ?_, HB.out.trans hX'⟩
        refine ret_bool ?_
        unfold tellG manyG
        simp only [if_true]
        rw [← HM.out, Bool.eq_iff_iff]
        simp only [Bool.and_eq_true, decide_eq_true_eq, Bool.false_eq_true, false_iff]
        omega
    | false =>
      gi_wp2
      all_goals
        refine leaves_marks (B := W.heap.size) [D] _ ((Marks.nil _ _).cons (Nat.le_trans HSZ.out HW.out.1) (by simp) HW.out.2) fun X' hX' => ⟨_, results_tmp rfl _ _ _, ?_, HB.out.trans hX'⟩
        refine ret_bool ?_
        unfold tellG manyG
        simp only [Bool.false_eq_true, if_false]
        rw [← HM.out, Bool.eq_iff_iff]
        simp only [Bool.and_eq_true, decide_eq_true_eq, Bool.false_eq_true, false_iff]
        omega
  case stop =>
    rintro D cc pre X hD - hF hK
    exact hF.elim

/-- Which graces may be. -/
theorem gmay_c (g : GrS) (v : Value) (W : World) (hn : BoolsAt W v g.nd) (h1 : g.nd.length ≤ 9223372036854775807) :
    Calls Try.prog 58 #[.agg #[.int .i64 g.done, .int .i64 g.asked, .bool g.on, v]] W fun e w' => e = .returned (.bool (mayG g)) ∧ Below W.heap.size W w' := by
  obtain ⟨p, c, rfl, hp⟩ := hn
  unfold mayG
  cases h : numsG g with
  | false => rw [Bool.false_and]; exact gmay_no g p c W h h1
  | true => rw [Bool.true_and]; exact gmay_yes g p c W h (fun hne => by obtain ⟨b, off, e, hc⟩ := hp hne; exact ⟨b, off, e, fun h => h, hc⟩)

end Go.Proofs.Ytdmcijfjnegcgaa
/-
  Rows of truth values: slices.Equal, slices.Clone, make.
  Conditions: their lengths.
-/
namespace Go.Proofs.Ytdmcijfjnegcgaa
set_option maxRecDepth 100000
open Go.RowKit Go.Shelf
attribute [local go_sem] Oper.semAt_some

set_option maxHeartbeats 4000000 in
theorem equalB_c (v0 v1 : Value) (xs ys : List Bool) (W : World) (hv0 : BoolsAt W v0 xs) (hv1 : BoolsAt W v1 ys) (hl0 : xs.length ≤ 9223372036854775807) (hl1 : ys.length ≤ 9223372036854775807) :
    Calls Try.prog 37 #[v0, v1] W fun e w' => e = .returned (.bool (decide (xs = ys))) ∧ Below W.heap.size W w' := by
  obtain ⟨p0, cap0, rfl, hc0⟩ := hv0
  obtain ⟨p1, cap1, rfl, hc1⟩ := hv1
  go_enter Try.func37, Try.ntmps37
  by_cases hlen : xs.length = ys.length
  · have hne : ((xs.length : Int) != (ys.length : Int)) = false := by rw [bne_eq_false_iff_eq]; omega
    have HL := Lib.hid hlen
    clear hlen
    go_wp2
    clear hne
    go_loopw [13] (fun iv wr => ∃ i : Nat, i ≤ xs.length ∧ iv = .int .i64 i ∧ xs.take i = ys.take i ∧ Below W.heap.size W wr) (fun iv _ => xs.length - (intOf iv).toNat)
    case atStart => exact ⟨0, Nat.zero_le _, rfl, rfl, Below.refl _ _⟩
    case round =>
      obtain ⟨i, hi, rfl, heq, hB⟩ := hrel
      by_cases hlt : i < xs.length
      · obtain ⟨b0, off0, rfl, hcs0⟩ := hc0 (by intro e; rw [e] at hlt; cases hlt)
        have hlt1 : i < ys.length := by have := HL.out; omega
        obtain ⟨b1, off1, rfl, hcs1⟩ := hc1 (by intro e; rw [e] at hlt1; cases hlt1)
        have hx := hcs0 i hlt
        have hy := hcs1 i hlt1
        have ha := List.take_succ_eq_append_getElem hlt
        have hb := List.take_succ_eq_append_getElem hlt1
        obtain ⟨x, hxe⟩ : ∃ x, x = xs[i] := ⟨_, rfl⟩
        obtain ⟨y, hye⟩ : ∃ y, y = ys[i] := ⟨_, rfl⟩
        rw [← hxe] at hx ha
        rw [← hye] at hy hb
        have hx' := (hB.cell (World.block_lt_of_cell? W _ hx)).trans hx
        have hy' := (hB.cell (World.block_lt_of_cell? W _ hy)).trans hy
        have HE := Lib.hid heq
        have HA := Lib.hid ha
        have HB := Lib.hid hb
        have HXY := Lib.hid (And.intro hxe hye)
        clear hx hy hcs0 hcs1 heq ha hb hxe hye
        by_cases hxy : x = y
        · subst hxy
          go_wp2
          go_quiet (fail)
          go_wp2
          all_goals
            go_roundw
            case rel => exact ⟨i + 1, by omega, by go_num, by rw [HA.out, HB.out, HE.out], below_drewN hB _⟩
            case measure => simp [intOf]; omega
        · have hr : decide (xs = ys) = false := by
            rw [decide_eq_false_iff_not]
            intro e
            subst e
            exact hxy (HXY.out.1.trans HXY.out.2.symm)
          have HR := Lib.hid hr
          obtain ⟨rfl, rfl⟩ | ⟨rfl, rfl⟩ : (x = true ∧ y = false) ∨ (x = false ∧ y = true) := by cases x <;> cases y <;> simp_all
          all_goals
            clear hr hxy
            go_wp2
            go_quiet (fail)
            go_wp2
            all_goals go_ret
            all_goals exact ⟨ret_bool HR.out.symm, below_drewN hB _⟩
      · have heq2 : xs = ys := by rwa [List.take_of_length_le (by omega), List.take_of_length_le (by have := HL.out; omega)] at heq
        have HE := Lib.hid heq2
        clear heq heq2
        go_wp2
        go_ret
        exact ⟨ret_bool (by simp [HE.out]), hB⟩
  · have hne : ((xs.length : Int) != (ys.length : Int)) = true := by rw [bne_iff_ne]; omega
    have hr : decide (xs = ys) = false := by rw [decide_eq_false_iff_not]; intro e; rw [e] at hlen; exact hlen rfl
    have HR := Lib.hid hr
    clear hr hlen
    go_wp2
    go_ret
    exact ⟨ret_bool HR.out.symm, Below.refl _ _⟩

theorem cloneB_info : (Try.prog.info? 4).map (fun i => (i.zero, i.size, i.bytes)) = some (some (.bool false), 1, 1) := by kernel_rfl

set_option maxHeartbeats 2000000 in
theorem cloneB (v : Value) (n : Nat) (xs : List Value) (W : World) (hv : ValsAt W v 1 n xs) (h1 : ∀ u ∈ xs, u.oneCell' = true) (hn : n ≤ 1099511627776) :
    Calls Try.prog 38 #[v] W fun e w' => OwnsNew W.heap.size 4 1 n xs e w' ∧ Below W.heap.size W w' := by
  obtain ⟨hlen, p, cap, rfl, ⟨rfl, rfl, rfl⟩ | ⟨ad, rfl, hcells⟩⟩ := hv
  · obtain rfl : xs = [] := List.eq_nil_of_length_eq_zero (by omega)
    have hcmp := fun w => Lib.run_eql_slice_nil (P := Try.prog) w 22 4 none 0 0 0 0 Try.underlying22
    go_enter Try.func38, Try.ntmps38
    go_wp2
    go_ret
    exact ⟨⟨_, rfl, World.ownsRow_nil _ _ _ _⟩, Below.refl _ _⟩
  · have hcmp := fun w => Lib.run_eql_slice_nil (P := Try.prog) w 22 4 (some ad) n cap 0 0 Try.underlying22
    obtain ⟨i0, hi, hz0, hz1, hz2⟩ := info_parts cloneB_info
    have hown := World.ownsRow_lit (base := W.heap.size) (e := 4) (size := 1) W #[] 0 (Nat.le_refl _) (by decide) rfl
    have hnews : ∀ j u, xs[j]? = some u → (W.alloc (Obj.cells #[] 4)).cell? (ad.add j) = some u := fun j u hj => by
      have h0 := hcells j u hj
      rw [World.cell?_alloc_lt _ _ _ (World.block_lt_of_cell? W _ h0)]
      exact h0
    have HN := Lib.hid hnews
    have H1 := Lib.hid h1
    have HO := Lib.hid hown
    clear hnews h1 hown hcells
    go_enter Try.func38, Try.ntmps38
    go_wp2_with (at_builtin; refine wpList_append_own _ rfl _ _ 22 rfl W.heap.size 4 i0 (.bool false) 1 1 Try.underlying22 hi hz0 hz1 hz2 rfl (by decide) _ _ _ rfl HO.out ad n cap xs rfl hlen HN.out H1.out (by unfold maxLen; omega) (by omega) (by simp) ?_; intro v' w1 hown' hgrow _)
    go_ret
    rw [Nat.zero_add, List.nil_append] at hown'
    exact ⟨⟨v', rfl, hown'⟩, below_grown ((Below.refl _ _).alloc (Nat.le_refl _) _) hgrow (fun k e => by cases e; exact Nat.le_refl _)⟩

theorem run_makeB (n : Nat) (hn : n ≤ 1099511627776) (w : World) : (Instr.makeSlice 22 (.int .i64 (n : Int)) (.int .i64 (n : Int))).run Try.prog w = .ok (.slice (some ⟨w.heap.size, 0, none⟩) n n) (w.alloc (.cells (Array.replicate n (Value.bool false)) 4)) := by
  obtain ⟨i0, hi, hz0, hz1, hz2⟩ := info_parts cloneB_info
  have := run_make (P := Try.prog) w 22 4 i0 (.bool false) Try.underlying22 hi hz0 .i64 .i64 (n : Int) (n : Int) (by omega) (by omega) (by rw [hz2]; omega) (by omega)
  rw [this, hz1]
  have e : madeCells (Value.bool false).cells ((n : Int).toNat * 1) = Array.replicate n (Value.bool false) := by
    apply Array.toList_inj.1
    rw [Nat.mul_one, Int.toNat_natCast, Array.toList_replicate]
    exact toList_madeCells_one _ n
  rw [e]
  simp

end Go.Proofs.Ytdmcijfjnegcgaa
/-
  Package grace: Check, Over, Same, New; must.
  Conditions: the ranges of Go's types.
-/
namespace Go.Proofs.Ytdmcijfjnegcgaa
set_option maxRecDepth 100000
open Go.RowKit Go.Shelf
attribute [local go_sem] Oper.semAt_some

/-- A panic of an error. -/
def woe (x : Int) : Ending := .panicked [{ v := .iface 29 (.int .i64 x), recovered := false }]

theorem must_ok (W : World) : Calls Try.prog 62 #[.int .i64 0] W fun e w' => e = .returned (.tuple #[]) ∧ w' = W := by
  go_enter Try.func62, Try.ntmps62
  go_wp2
  go_end0
  exact ⟨rfl, rfl⟩
theorem must_no (x : Int) (hx : x ≠ 0) (W : World) : Calls Try.prog 62 #[.int .i64 x] W fun e w' => e = woe x ∧ w' = W := by
  have hq : (x != 0) = true := by rw [bne_iff_ne]; exact hx
  clear hx
  go_enter Try.func62, Try.ntmps62
  go_wp2
  exact ⟨rfl, rfl, rfl⟩

set_option maxHeartbeats 4000000 in
theorem gcheck_c (g : GrS) (v : Value) (W : World) (hn : BoolsAt W v g.nd) (h1 : g.nd.length ≤ 9223372036854775807) :
    Calls Try.prog 33 #[.agg #[.int .i64 g.done, .int .i64 g.asked, .bool g.on, v]] W fun e w' => e = .returned (.int .i64 (if mayG g = true then 0 else 220)) ∧ Below W.heap.size W w' := by
  obtain ⟨w0, hw0⟩ : ∃ X : World, X = W.alloc (.cells #[.int .i64 g.done, .int .i64 g.asked, .bool g.on, v] 24) := ⟨_, rfl⟩
  have hb0 : Below W.heap.size W w0 := by rw [hw0]; exact below1 _ _
  have HB := Lib.hid hb0
  have HC := Lib.hid (gmay_c g v w0 (bools_below hn hb0) h1)
  have hbx : GBox w0 W.heap.size g.done g.asked g.on v := by rw [hw0]; exact GBox.new _ _ _ _ _
  obtain ⟨d0, d1, d2, d3⟩ := hbx.cells
  obtain ⟨p, c, rfl, -⟩ := hn
  clear hb0 h1 hbx
  cases hm : mayG g with
  | true =>
    rw [hm] at HC
    rw [if_pos rfl]
    clear hm
    go_enter Try.func33, Try.ntmps33
    go_wp2_with fail
    rw [← hw0]
    clear hw0
    (with_reducible refine HC.out.mono ?_)
    rintro e w1 ⟨rfl, hb1⟩
    have HB1 := Lib.hid (below_then HB.out HB.out.size hb1)
    clear hb1
    go_wp2
    go_ret
    exact ⟨rfl, HB1.out⟩
  | false =>
    rw [hm] at HC
    rw [if_neg Bool.false_ne_true]
    clear hm
    go_enter Try.func33, Try.ntmps33
    go_wp2_with fail
    rw [← hw0]
    clear hw0
    (with_reducible refine HC.out.mono ?_)
    rintro e w1 ⟨rfl, hb1⟩
    have HB1 := Lib.hid (below_then HB.out HB.out.size hb1)
    clear hb1
    go_wp2
    go_ret
    exact ⟨rfl, HB1.out⟩

def overB (g : GrS) (n : Int) : Bool := mayG g && (decide (1 ≤ n) && decide (n ≤ g.done))
set_option maxHeartbeats 4000000 in
theorem gover_c (g : GrS) (v : Value) (n : Int) (W : World) (hn : BoolsAt W v g.nd) (h1 : g.nd.length ≤ 9223372036854775807) :
    Calls Try.prog 30 #[.agg #[.int .i64 g.done, .int .i64 g.asked, .bool g.on, v], .int .i64 n] W fun e w' => e = .returned (.bool (overB g n)) ∧ Below W.heap.size W w' := by
  obtain ⟨w0, hw0⟩ : ∃ X : World, X = W.alloc (.cells #[.int .i64 g.done, .int .i64 g.asked, .bool g.on, v] 24) := ⟨_, rfl⟩
  have hb0 : Below W.heap.size W w0 := by rw [hw0]; exact below1 _ _
  have HB := Lib.hid hb0
  have HC := Lib.hid (gmay_c g v w0 (bools_below hn hb0) h1)
  have HBX := Lib.hid (show GBox w0 W.heap.size g.done g.asked g.on v by rw [hw0]; exact GBox.new _ _ _ _ _)
  obtain ⟨d0, d1, d2, d3⟩ := HBX.out.cells
  obtain ⟨p, c, rfl, -⟩ := hn
  unfold overB
  clear hb0 h1
  cases hm : mayG g with
  | true =>
    rw [hm] at HC
    rw [Bool.true_and]
    clear hm
    by_cases c1 : 1 ≤ n
    · rw [decide_eq_true c1, Bool.true_and]
      go_enter Try.func30, Try.ntmps30
      go_wp2_with fail
      rw [← hw0]
      clear hw0
      (with_reducible refine HC.out.mono ?_)
      rintro e w1 ⟨rfl, hb1⟩
      have HB1 := Lib.hid (below_then HB.out HB.out.size hb1)
      obtain ⟨d0, d1, d2, d3⟩ := (HBX.out.below hb1).cells
      clear hb1
      go_wp2
      go_ret
      exact ⟨rfl, HB1.out⟩
    · rw [decide_eq_false c1, Bool.false_and]
      go_enter Try.func30, Try.ntmps30
      go_wp2_with fail
      rw [← hw0]
      clear hw0
      (with_reducible refine HC.out.mono ?_)
      rintro e w1 ⟨rfl, hb1⟩
      have HB1 := Lib.hid (below_then HB.out HB.out.size hb1)
      obtain ⟨d0, d1, d2, d3⟩ := (HBX.out.below hb1).cells
      clear hb1
      go_wp2
      go_ret
      exact ⟨rfl, HB1.out⟩
  | false =>
    rw [hm] at HC
    rw [Bool.false_and]
    clear hm
    go_enter Try.func30, Try.ntmps30
    go_wp2_with fail
    rw [← hw0]
    clear hw0
    (with_reducible refine HC.out.mono ?_)
    rintro e w1 ⟨rfl, hb1⟩
    have HB1 := Lib.hid (below_then HB.out HB.out.size hb1)
    clear hb1
    go_wp2
    go_ret
    exact ⟨rfl, HB1.out⟩

def gsameB (s t : GrS) : Bool := decide (s.done = t.done) && (decide (s.asked = t.asked) && (decide (s.on = t.on) && decide (s.nd = t.nd)))
theorem gsameB_iff (s t : GrS) : gsameB s t = true ↔ s = t := by
  obtain ⟨a, b, c, d⟩ := s
  obtain ⟨a', b', c', d'⟩ := t
  unfold gsameB
  simp
/-- Two boxes. -/
def wSG (W : World) (d a : Int) (on : Bool) (v : Value) (d' a' : Int) (on' : Bool) (v' : Value) : World := (W.alloc (.cells #[.int .i64 d, .int .i64 a, .bool on, v] 24)).alloc (.cells #[.int .i64 d', .int .i64 a', .bool on', v'] 24)
theorem wSG_facts (W : World) (d a : Int) (on : Bool) (v : Value) (d' a' : Int) (on' : Bool) (v' : Value) : GBox (wSG W d a on v d' a' on' v') W.heap.size d a on v ∧ GBox (wSG W d a on v d' a' on' v') (W.heap.size + 1) d' a' on' v' ∧ Below W.heap.size W (wSG W d a on v d' a' on' v') := by
  refine ⟨(GBox.new W d a on v).below (below1 _ _), ?_, below2 _ _ _⟩
  have := GBox.new (W.alloc (.cells #[.int .i64 d, .int .i64 a, .bool on, v] 24)) d' a' on' v'
  rwa [World.size_alloc] at this

set_option maxHeartbeats 8000000 in
theorem gsame_c (s t : GrS) (v v' : Value) (W : World) (hn : BoolsAt W v s.nd) (hn' : BoolsAt W v' t.nd) (l1 : s.nd.length ≤ 9223372036854775807) (l2 : t.nd.length ≤ 9223372036854775807) :
    Calls Try.prog 35 #[.agg #[.int .i64 s.done, .int .i64 s.asked, .bool s.on, v], .agg #[.int .i64 t.done, .int .i64 t.asked, .bool t.on, v']] W fun e w' => e = .returned (.bool (gsameB s t)) ∧ Below W.heap.size W w' := by
  have HE := Lib.hid (fun (Z : World) (hb : Below W.heap.size W Z) => equalB_c v v' s.nd t.nd Z (bools_below hn hb) (bools_below hn' hb) l1 l2)
  have HF := Lib.hid (wSG_facts W s.done s.asked s.on v t.done t.asked t.on v')
  obtain ⟨w0, hw0⟩ : ∃ X, X = wSG W s.done s.asked s.on v t.done t.asked t.on v' := ⟨_, rfl⟩
  rw [← hw0] at HF
  unfold wSG at hw0
  obtain ⟨p, c, rfl, -⟩ := hn
  obtain ⟨p', c', rfl, -⟩ := hn'
  obtain ⟨d0, d1, d2, d3⟩ := HF.out.1.cells
  obtain ⟨e0, e1, e2, e3⟩ := HF.out.2.1.cells
  have HB := Lib.hid HF.out.2.2
  clear l1 l2
  unfold gsameB
  by_cases h1 : s.done = t.done
  · have q1 : (s.done == t.done) = true := by rw [beq_iff_eq]; exact h1
    rw [decide_eq_true h1, Bool.true_and]
    clear h1
    by_cases h2 : s.asked = t.asked
    · have q2 : (s.asked == t.asked) = true := by rw [beq_iff_eq]; exact h2
      rw [decide_eq_true h2, Bool.true_and]
      clear h2
      by_cases h3 : s.on = t.on
      · have q3 : (s.on == t.on) = true := by rw [beq_iff_eq]; exact h3
        rw [decide_eq_true h3, Bool.true_and]
        clear h3
        have HEE := Lib.hid (HE.out w0 HB.out)
        clear HE
        go_enter Try.func35, Try.ntmps35
        go_wp2_with fail
        rw [← hw0]
        clear hw0
        (with_reducible refine HEE.out.mono ?_)
        rintro e w1 ⟨rfl, hb1⟩
        have HB1 := Lib.hid (below_then HB.out HB.out.size hb1)
        clear hb1
        go_wp2
        go_ret
        exact ⟨rfl, HB1.out⟩
      · have q3 : (s.on == t.on) = false := by rw [beq_eq_false_iff_ne]; exact h3
        rw [decide_eq_false h3, Bool.false_and]
        clear h3 HE
        rw [hw0] at HB
        go_enter Try.func35, Try.ntmps35
        go_wp2
        go_ret
        exact ⟨rfl, below2 _ _ _⟩
    · have q2 : (s.asked == t.asked) = false := by rw [beq_eq_false_iff_ne]; exact h2
      rw [decide_eq_false h2, Bool.false_and]
      clear h2 HE
      rw [hw0] at HB
      go_enter Try.func35, Try.ntmps35
      go_wp2
      go_ret
      exact ⟨rfl, below2 _ _ _⟩
  · have q1 : (s.done == t.done) = false := by rw [beq_eq_false_iff_ne]; exact h1
    rw [decide_eq_false h1, Bool.false_and]
    clear h1 HE
    rw [hw0] at HB
    go_enter Try.func35, Try.ntmps35
    go_wp2
    go_ret
    exact ⟨rfl, below2 _ _ _⟩

/-- A grace's slot for an answer. -/
def zeroG : Value := .agg #[.int .i64 0, .int .i64 0, .bool false, .slice none 0 0]

set_option maxHeartbeats 4000000 in
theorem gnew_c (n : Nat) (h1 : 1 ≤ n) (h8 : n ≤ 8) (W : World) : Calls Try.prog 57 #[.int .i64 (n : Int)] W fun e w' => (∃ b, e = .returned (.tuple #[.agg #[.int .i64 0, .int .i64 0, .bool false, .slice (some ⟨b, 0, none⟩) n n], .int .i64 0]) ∧ BBlock w' b (List.replicate n false) ∧ W.heap.size ≤ b) ∧ Below W.heap.size W w' := by
  have hmk := run_makeB n (by omega)
  have HC := Lib.hid (fun (W : World) => gmayBe_c (n : Int) W)
  rw [show mayCpus (n : Int) = true by unfold mayCpus; simp; omega] at HC
  obtain ⟨wA, hwA⟩ : ∃ X : World, X = W.alloc (.cells #[.int .i64 0, .int .i64 0, .bool false, .slice none 0 0] 24) := ⟨_, rfl⟩
  have HA := Lib.hid (show GBox wA W.heap.size 0 0 false (.slice none 0 0) ∧ Below W.heap.size W wA ∧ wA.heap.size = W.heap.size + 1 by rw [hwA]; exact ⟨GBox.new W 0 0 false _, below1 _ _, World.size_alloc _ _⟩)
  obtain ⟨w0, hw0⟩ : ∃ X : World, X = wA.alloc (.cells (Array.replicate n (Value.bool false)) 4) := ⟨_, rfl⟩
  have hb0 : Below wA.heap.size wA w0 := by rw [hw0]; exact below1 _ _
  have HF := Lib.hid (show GBox w0 W.heap.size 0 0 false (.slice none 0 0) ∧ BBlock w0 wA.heap.size (List.replicate n false) ∧ Below W.heap.size W w0 from ⟨HA.out.1.below hb0, by
    unfold BBlock
    rw [hw0, World.alloc_heap_new]
    simp, below_then HA.out.2.1 HA.out.2.1.size hb0⟩)
  obtain ⟨d0, d1, d2, d3⟩ := HF.out.1.cells
  have m0 := HF.out.1.marks 0
  have m1 := HF.out.1.marks 1
  have m2 := HF.out.1.marks 2
  have m3 := HF.out.1.marks 3
  have HP := Lib.hid (HF.out.1.put 0 0 false (.slice (some ⟨wA.heap.size, 0, none⟩) n n))
  have HK := Lib.hid (GBox.putK w0 W.heap.size 0 0 false (.slice (some ⟨wA.heap.size, 0, none⟩) n n))
  rw [hw0] at d0 d1 d2 d3 m0 m1 m2 m3
  rw [hw0] at HP
  have HW0 := Lib.hid hw0
  clear hb0 hw0
  go_enter Try.func57, Try.ntmps57
  go_wp2_with fail
  (with_reducible refine (HC.out _).mono ?_)
  rintro e w1 ⟨rfl, rfl⟩
  go_upto_region 3 with fail
  rw [← hwA]
  clear hwA
  go_wp2
  refine bodyPost_ret (HP.out.result2 rfl _ rfl rfl) rfl ⟨⟨_, rfl, ?_, by have := HA.out.2.2; omega⟩, ?_⟩
  · rw [← HW0.out]; exact HF.out.2.1.keeps HK.out (by have := HA.out.2.2; omega)
  · rw [← HW0.out]; exact HF.out.2.2.trans (HK.out.below HF.out.2.2.size (fun k e => by omega))

end Go.Proofs.Ytdmcijfjnegcgaa
/-
  Package grace: what a turn holds; at, order.
  Conditions: the ranges of Go's types.
-/
namespace Go.Proofs.Ytdmcijfjnegcgaa
set_option maxRecDepth 100000
open Go.RowKit Go.Shelf
attribute [local go_sem] Oper.semAt_some

/-- What box a turn lies in. -/
def TBox (W : World) (z : Nat) (now : Int) (u v : Value) (d a : Int) (on : Bool) (nv lv : Value) : Prop := W.heap[z]? = some (.cells #[.int .i64 now, u, v, .int .i64 d, .int .i64 a, .bool on, nv, lv] 71 (0, 0))
theorem TBox.cells {W : World} {z : Nat} {now : Int} {u v : Value} {d a : Int} {on : Bool} {nv lv : Value} (h : TBox W z now u v d a on nv lv) : W.cell? ⟨z, 0, none⟩ = some (.int .i64 now) ∧ W.cell? ⟨z, 1, none⟩ = some u ∧ W.cell? ⟨z, 2, none⟩ = some v ∧ W.cell? ⟨z, 3, none⟩ = some (.int .i64 d) ∧ W.cell? ⟨z, 4, none⟩ = some (.int .i64 a) ∧ W.cell? ⟨z, 5, none⟩ = some (.bool on) ∧ W.cell? ⟨z, 6, none⟩ = some nv ∧ W.cell? ⟨z, 7, none⟩ = some lv := by
  have h' : W.heap[z]? = _ := h
  simp [World.cell?, h']
theorem TBox.marks {W : World} {z : Nat} {now : Int} {u v : Value} {d a : Int} {on : Bool} {nv lv : Value} (h : TBox W z now u v d a on nv lv) (i : Nat) : W.frozen? ⟨z, i, none⟩ = false := by
  have h' : W.heap[z]? = _ := h
  simp [World.frozen?, h']
theorem TBox.lt {W : World} {z : Nat} {now : Int} {u v : Value} {d a : Int} {on : Bool} {nv lv : Value} (h : TBox W z now u v d a on nv lv) : z < W.heap.size := (Array.getElem?_eq_some_iff.1 h).1
theorem TBox.below {W W' : World} {z : Nat} {now : Int} {u v : Value} {d a : Int} {on : Bool} {nv lv : Value} (h : TBox W z now u v d a on nv lv) (hb : Below W.heap.size W W') : TBox W' z now u v d a on nv lv := (hb.block z h.lt).trans h
theorem TBox.keeps {S : Nat → Prop} {W W' : World} {z : Nat} {now : Int} {u v : Value} {d a : Int} {on : Bool} {nv lv : Value} (h : TBox W z now u v d a on nv lv) (hk : Keeps S W W') (hz : ¬ S z) : TBox W' z now u v d a on nv lv := (hk.block z h.lt hz).trans h
theorem TBox.new (W : World) (now : Int) (u v : Value) (d a : Int) (on : Bool) (nv lv : Value) : TBox (W.alloc (.cells #[.int .i64 now, u, v, .int .i64 d, .int .i64 a, .bool on, nv, lv] 71)) W.heap.size now u v d a on nv lv := World.alloc_heap_new W _
theorem TBox.set3 {W : World} {z : Nat} {now : Int} {u v : Value} {d a : Int} {on : Bool} {nv lv : Value} (h : TBox W z now u v d a on nv lv) (x : Int) : TBox (W.setCell ⟨z, 3, none⟩ (.int .i64 x)) z now u v x a on nv lv := by
  unfold TBox; rw [heap_setCell_same W z 3 _ _ _ h]; rfl
theorem TBox.set4 {W : World} {z : Nat} {now : Int} {u v : Value} {d a : Int} {on : Bool} {nv lv : Value} (h : TBox W z now u v d a on nv lv) (x : Int) : TBox (W.setCell ⟨z, 4, none⟩ (.int .i64 x)) z now u v d x on nv lv := by
  unfold TBox; rw [heap_setCell_same W z 4 _ _ _ h]; rfl
theorem TBox.set5 {W : World} {z : Nat} {now : Int} {u v : Value} {d a : Int} {on : Bool} {nv lv : Value} (h : TBox W z now u v d a on nv lv) (x : Bool) : TBox (W.setCell ⟨z, 5, none⟩ (.bool x)) z now u v d a x nv lv := by
  unfold TBox; rw [heap_setCell_same W z 5 _ _ _ h]; rfl
theorem TBox.set7 {W : World} {z : Nat} {now : Int} {u v : Value} {d a : Int} {on : Bool} {nv lv : Value} (h : TBox W z now u v d a on nv lv) (x : Value) : TBox (W.setCell ⟨z, 7, none⟩ x) z now u v d a on nv x := by
  unfold TBox; rw [heap_setCell_same W z 7 _ _ _ h]; rfl
theorem TBox.putG {W : World} {z : Nat} {now : Int} {u v : Value} {d0 a0 : Int} {on0 : Bool} {nv0 lv : Value} (h : TBox W z now u v d0 a0 on0 nv0 lv) (d a : Int) (on : Bool) (nv : Value) : TBox ((((W.setCell ⟨z, 3, none⟩ (.int .i64 d)).setCell ⟨z, 4, none⟩ (.int .i64 a)).setCell ⟨z, 5, none⟩ (.bool on)).setCell ⟨z, 6, none⟩ nv) z now u v d a on nv lv := by
  have h3 := ((h.set3 d).set4 a).set5 on
  unfold TBox; rw [heap_setCell_same _ z 6 _ _ _ h3]; rfl
theorem TBox.putR {W : World} {z : Nat} {now0 : Int} {u0 v0 : Value} {d a : Int} {on : Bool} {nv lv : Value} (h : TBox W z now0 u0 v0 d a on nv lv) (now : Int) (u v : Value) : TBox (((W.setCell ⟨z, 0, none⟩ (.int .i64 now)).setCell ⟨z, 1, none⟩ u).setCell ⟨z, 2, none⟩ v) z now u v d a on nv lv := by
  have h0 := heap_setCell_same W z 0 _ _ (.int .i64 now) h
  have h1 := heap_setCell_same _ z 1 _ _ u h0
  have h2 := heap_setCell_same _ z 2 _ _ v h1
  unfold TBox; rw [h2]; rfl
theorem setK (W : World) (z i : Nat) (x : Value) : Keeps (fun k => k = z) W (W.setCell ⟨z, i, none⟩ x) := Keeps.setCell W (S := (· = z)) (p := ⟨z, i, none⟩) rfl _

/-- A turn in memory: its grace with its needs in a block of their own, and its numbers. -/
structure TuAt (W : World) (z B : Nat) (now : Int) (u v : Value) (g : GrS) (n nb : Nat) (lv : Value) (ls : List Int) : Prop where
  box : TBox W z now u v g.done g.asked g.on (.slice (some ⟨nb, 0, none⟩) n n) lv
  len : g.nd.length = n
  needs : BBlock W nb g.nd
  nums : W.ownsRow B 3 1 lv ls.length (ls.map (Value.int .i64))
theorem TBox.ne_bools {W : World} {z nb : Nat} {now : Int} {u v : Value} {d a : Int} {on : Bool} {nv lv : Value} {bs : List Bool} (h : TBox W z now u v d a on nv lv) (k : BBlock W nb bs) : z ≠ nb := fun e => by
  have h1 : W.heap[z]? = _ := h
  have h2 : W.heap[nb]? = _ := k
  rw [← e, h1] at h2; injection h2 with h2; injection h2 with _ h2 _; revert h2; decide
theorem TBox.ne_row {W : World} {z B n : Nat} {now : Int} {u v : Value} {d a : Int} {on : Bool} {nv lv x : Value} {xs : List Value} (h : TBox W z now u v d a on nv lv) (k : W.ownsRow B 3 1 x n xs) : ∀ g, x.ownBlock = some g → g ≠ z := fun g hg e => by
  obtain ⟨c, f, h1⟩ := Lib.ownsRow_kind k g hg
  have h2 : W.heap[z]? = _ := h
  rw [e, h2] at h1; injection h1 with h1; injection h1 with _ h1 _; revert h1; decide
theorem BBlock.ne_row {W : World} {nb B n : Nat} {x : Value} {bs : List Bool} {xs : List Value} (h : BBlock W nb bs) (k : W.ownsRow B 3 1 x n xs) : ∀ g, x.ownBlock = some g → g ≠ nb := fun g hg e => by
  obtain ⟨c, f, h1⟩ := Lib.ownsRow_kind k g hg
  have h2 : W.heap[nb]? = _ := h
  rw [e, h2] at h1; injection h1 with h1; injection h1 with _ h1 _; revert h1; decide
theorem TuAt.keeps {S : Nat → Prop} {W W' : World} {z B : Nat} {now : Int} {u v : Value} {g : GrS} {n nb : Nat} {lv : Value} {ls : List Int} (k : TuAt W z B now u v g n nb lv ls) (hk : Keeps S W W') (hz : ¬ S z) (hn : ¬ S nb) (hl : ∀ q, lv.ownBlock = some q → ¬ S q) : TuAt W' z B now u v g n nb lv ls :=
  ⟨k.box.keeps hk hz, k.len, k.needs.keeps hk hn, hk.row k.nums hl⟩
theorem TuAt.below {W W' : World} {z B : Nat} {now : Int} {u v : Value} {g : GrS} {n nb : Nat} {lv : Value} {ls : List Int} (k : TuAt W z B now u v g n nb lv ls) (hb : Below W.heap.size W W') : TuAt W' z B now u v g n nb lv ls :=
  k.keeps (Keeps.of_below (S := fun _ => False) hb) id id (fun _ _ => id)
theorem TuAt.alike {W W' : World} {z B : Nat} {now : Int} {u v : Value} {g : GrS} {n nb : Nat} {lv : Value} {ls : List Int} (k : TuAt W z B now u v g n nb lv ls) (hb : Below W.heap.size W W') : TuAt W' z B now u v g n nb lv ls := k.below hb
theorem TuAt.set3 {W : World} {z B : Nat} {now : Int} {u v : Value} {g : GrS} {n nb : Nat} {lv : Value} {ls : List Int} (k : TuAt W z B now u v g n nb lv ls) (x : Int) : TuAt (W.setCell ⟨z, 3, none⟩ (.int .i64 x)) z B now u v { g with done := x } n nb lv ls :=
  ⟨k.box.set3 x, k.len, k.needs.keeps (setK W z 3 _) (fun e => k.box.ne_bools k.needs e.symm), (setK W z 3 _).row k.nums (fun q hq e => k.box.ne_row k.nums q hq e)⟩
theorem TuAt.set4 {W : World} {z B : Nat} {now : Int} {u v : Value} {g : GrS} {n nb : Nat} {lv : Value} {ls : List Int} (k : TuAt W z B now u v g n nb lv ls) (x : Int) : TuAt (W.setCell ⟨z, 4, none⟩ (.int .i64 x)) z B now u v { g with asked := x } n nb lv ls :=
  ⟨k.box.set4 x, k.len, k.needs.keeps (setK W z 4 _) (fun e => k.box.ne_bools k.needs e.symm), (setK W z 4 _).row k.nums (fun q hq e => k.box.ne_row k.nums q hq e)⟩
theorem TuAt.set5 {W : World} {z B : Nat} {now : Int} {u v : Value} {g : GrS} {n nb : Nat} {lv : Value} {ls : List Int} (k : TuAt W z B now u v g n nb lv ls) (x : Bool) : TuAt (W.setCell ⟨z, 5, none⟩ (.bool x)) z B now u v { g with on := x } n nb lv ls :=
  ⟨k.box.set5 x, k.len, k.needs.keeps (setK W z 5 _) (fun e => k.box.ne_bools k.needs e.symm), (setK W z 5 _).row k.nums (fun q hq e => k.box.ne_row k.nums q hq e)⟩
theorem TuAt.setNeed {W : World} {z B : Nat} {now : Int} {u v : Value} {g : GrS} {n nb : Nat} {lv : Value} {ls : List Int} (k : TuAt W z B now u v g n nb lv ls) (i : Nat) (x : Bool) : TuAt (W.setCell ⟨nb, i, none⟩ (.bool x)) z B now u v { g with nd := g.nd.set i x } n nb lv ls :=
  ⟨k.box.keeps (setK W nb i _) (k.box.ne_bools k.needs), by simp only [List.length_set]; exact k.len, k.needs.set i x, (setK W nb i _).row k.nums (fun q hq e => k.needs.ne_row k.nums q hq e)⟩

/-- The number of the period that would be asked for. -/
def nextG (g : GrS) : Int := if g.on = true then g.done + 1 + 1 else g.done + 1

set_option maxHeartbeats 4000000 in
theorem gat_ok (z : Nat) (now : Int) (u v : Value) (d a : Int) (on : Bool) (p : Option Addr) (n cc : Nat) (lv : Value) (c : Int) (W : World) (k : TBox W z now u v d a on (.slice p n cc) lv) (h : hasB n c = true) :
    Calls Try.prog 63 #[.pointer (some ⟨z, 0, none⟩), .int .i64 c] W fun e w' => e = .returned (.tuple #[]) ∧ Below W.heap.size W w' := by
  obtain ⟨d0, d1, d2, d3, d4, d5, d6, d7⟩ := k.cells
  have HC := Lib.hid (ghas_c d a c on p n cc W)
  rw [h] at HC
  clear h k
  go_enter Try.func63, Try.ntmps63
  go_wp2_with fail
  (with_reducible refine HC.out.mono ?_)
  rintro e w1 ⟨rfl, hb1⟩
  have HB := Lib.hid hb1
  clear hb1
  go_wp2
  go_end0
  exact ⟨rfl, HB.out⟩
set_option maxHeartbeats 4000000 in
theorem gat_no (z : Nat) (now : Int) (u v : Value) (d a : Int) (on : Bool) (p : Option Addr) (n cc : Nat) (lv : Value) (c : Int) (W : World) (k : TBox W z now u v d a on (.slice p n cc) lv) (h : hasB n c = false) :
    Calls Try.prog 63 #[.pointer (some ⟨z, 0, none⟩), .int .i64 c] W fun e w' => e = woe 2 ∧ Below W.heap.size W w' := by
  obtain ⟨d0, d1, d2, d3, d4, d5, d6, d7⟩ := k.cells
  have HC := Lib.hid (ghas_c d a c on p n cc W)
  rw [h] at HC
  clear h k
  go_enter Try.func63, Try.ntmps63
  go_wp2_with fail
  (with_reducible refine HC.out.mono ?_)
  rintro e w1 ⟨rfl, hb1⟩
  have HB := Lib.hid hb1
  clear hb1
  go_wp2
  exact ⟨rfl, rfl, HB.out⟩

set_option maxHeartbeats 4000000 in
theorem gorder_no (z B : Nat) (now : Int) (u v : Value) (g : GrS) (n nb : Nat) (lv : Value) (ls : List Int) (W : World) (k : TuAt W z B now u v g n nb lv ls) (h0 : 0 ≤ g.done) (h2 : g.done ≤ 2147483645) (h1 : 2147483645 < nextG g) :
    Calls Try.prog 43 #[.pointer (some ⟨z, 0, none⟩)] W fun e w' => e = woe 6 ∧ w' = W := by
  obtain ⟨d, a, on, nd⟩ := g
  obtain ⟨d0, d1, d2, d3, d4, d5, d6, d7⟩ := k.box.cells
  unfold nextG at h1
  simp only at h0 h1 h2 d3 d4 d5
  clear k
  cases on with
  | true =>
    simp only [if_true] at h1
    go_enter Try.func43, Try.ntmps43
    go_wp2
    exact ⟨rfl, rfl, rfl⟩
  | false =>
    simp only [Bool.false_eq_true, if_false] at h1
    go_enter Try.func43, Try.ntmps43
    go_wp2
    exact ⟨rfl, rfl, rfl⟩

/-- What order leaves. -/
def OrdQ (z B : Nat) (now : Int) (u v : Value) (g : GrS) (n nb : Nat) (lv : Value) (ls : List Int) (W w' : World) : Prop :=
  ∃ lv', TuAt w' z B now u v { g with asked := nextG g } n nb lv' (ls ++ [nextG g]) ∧ Keeps (fun k => k = z ∨ some k = lv.ownBlock) W w' ∧ (∀ q, lv'.ownBlock = some q → lv.ownBlock = some q ∨ W.heap.size ≤ q) ∧ B ≤ w'.heap.size
theorem ord_fin (z B : Nat) (now : Int) (u v : Value) (d a : Int) (on : Bool) (nd : List Bool) (n nb : Nat) (pl : Option Addr) (cl : Nat) (ls : List Int) (W w1 w2 : World) (x : Int) (hx : nextG ⟨d, a, on, nd⟩ = x) (o : Obj) (q : Option Addr) (r : Nat)
    (k : TuAt w1 z B now u v ⟨d, x, on, nd⟩ n nb (.slice pl ls.length cl) ls) (hk : Keeps (fun k => k = z) W w1) (hB : B ≤ w1.heap.size) (hown : w2.ownsRow B 3 1 (.slice q (ls.length + 1) r) (ls.length + 1) (ls.map (Value.int .i64) ++ [.int .i64 x])) (hg : (w1.alloc o).grownBy w2 (Value.slice pl ls.length cl).ownBlock)
    (hb : (Value.slice q (ls.length + 1) r).ownBlock = (Value.slice pl ls.length cl).ownBlock ∨ (Value.slice q (ls.length + 1) r).ownBlock = some (w1.alloc o).heap.size) :
    TBox w2 z now u v d x on (.slice (some ⟨nb, 0, none⟩) n n) (.slice pl ls.length cl) ∧ OrdQ z B now u v ⟨d, a, on, nd⟩ n nb (.slice pl ls.length cl) ls W (w2.setCell ⟨z, 7, none⟩ (.slice q (ls.length + 1) r)) := by
  have hk2 : Keeps (fun k => some k = (Value.slice pl ls.length cl).ownBlock) w1 w2 := (Keeps.alloc _ w1 o).trans ⟨hg.os, hg.tape, hg.output, hg.size, fun k hk hn => hg.block k hk hn⟩
  have hbox := k.box.keeps hk2 (fun e => k.box.ne_row k.nums z e.symm rfl)
  have hnd := k.needs.keeps hk2 (fun e => k.needs.ne_row k.nums nb e.symm rfl)
  refine ⟨hbox, .slice q (ls.length + 1) r, ⟨?_, k.len, ?_, ?_⟩, ?_, ?_, Nat.le_trans hB (Nat.le_trans hk2.size (setK w2 z 7 _).size)⟩
  · rw [hx]; exact hbox.set7 _
  · exact hnd.keeps (setK w2 z 7 _) (fun e => hbox.ne_bools hnd e.symm)
  · rw [hx]
    have := (setK w2 z 7 (.slice q (ls.length + 1) r)).row hown (fun g hg e => hbox.ne_row hown g hg e)
    simpa using this
  · exact ((hk.sub (fun _ _ h => .inl h)).trans (hk2.sub (fun _ _ h => .inr h))).trans ((setK w2 z 7 _).sub (fun _ _ h => .inl h))
  · intro g hg
    rcases hb with h | h
    · exact .inl (h.symm.trans hg)
    · rw [h] at hg
      injection hg with hg
      refine .inr ?_
      have := hk.size
      rw [← hg, World.size_alloc]
      omega

set_option maxHeartbeats 8000000 in
theorem gorder_ok (z B : Nat) (now : Int) (u v : Value) (g : GrS) (n nb : Nat) (lv : Value) (ls : List Int) (W : World) (k : TuAt W z B now u v g n nb lv ls) (h0 : 0 ≤ g.done) (h1 : nextG g ≤ 2147483645) (hB : B ≤ W.heap.size) (hl : ls.length ≤ 1000000) :
    Calls Try.prog 43 #[.pointer (some ⟨z, 0, none⟩)] W fun e w' => e = .returned (.tuple #[]) ∧ OrdQ z B now u v g n nb lv ls W w' := by
  obtain ⟨d, a, on, nd⟩ := g
  obtain ⟨i0, hi, hz0, hz1, hz2⟩ := info_parts cloneI_info
  have HI0 := Lib.hid (And.intro hi (And.intro hz0 (And.intro hz1 hz2)))
  obtain ⟨pl, cl, rfl⟩ := owns_slice k.nums
  obtain ⟨d0, d1, d2, d3, d4, d5, d6, d7⟩ := k.box.cells
  have m4 := k.box.marks 4
  simp only at h0 d3 d4 d5
  have HX := Lib.hid h1
  unfold nextG at h1
  clear hi hz0 hz1 hz2
  cases on with
  | true =>
    simp only [if_true] at h1
    have HNX := Lib.hid (show nextG ⟨d, a, true, nd⟩ = (d + 1 + 1) from rfl)
    have K1 := Lib.hid (k.set4 (d + 1 + 1))
    have HK1 := Lib.hid (setK W z 4 (.int .i64 (d + 1 + 1)))
    obtain ⟨w1, hw1⟩ : ∃ Y : World, Y = W.setCell ⟨z, 4, none⟩ (.int .i64 (d + 1 + 1)) := ⟨_, rfl⟩
    rw [← hw1] at K1 HK1
    have HW1 := Lib.hid hw1
    have HL := Lib.hid (show ls.length ≤ 1000000 ∧ B ≤ w1.heap.size from ⟨hl, Nat.le_trans hB HK1.out.size⟩)
    clear hw1 k hl hB
    go_enter Try.func43, Try.ntmps43
    go_upto_region 6 with fail
    rw [← HW1.out]
    clear d0 d1 d2 d3 d4 d5 d6 d7 m4
    obtain ⟨d0, d1, d2, d3, d4, d5, d6, d7⟩ := K1.out.box.cells
    simp only at d3 d4 d5
    go_wp2_with (at_builtin; refine wpList_append_own_at _ rfl _ _ 25 rfl B 3 i0 (.int .i64 0) 1 8 Try.underlying25 HI0.out.1 HI0.out.2.1 HI0.out.2.2.1 HI0.out.2.2.2 rfl (by decide) (.slice pl ls.length cl) ls.length (ls.map (Value.int .i64)) rfl (K1.out.nums.alloc _) ⟨w1.heap.size, 0, none⟩ 1 1 [.int .i64 (d + 1 + 1)] rfl rfl (cell_one_new _ _ _) (fun y hy => by rw [List.mem_singleton.1 hy]; rfl) (by have := HL.out.1; unfold maxLen; omega) (by have := HL.out.1; omega) (by have := HL.out.2; rw [World.size_alloc]; omega) ?_; intro v' w2 hown' hgrow _ hblk; obtain ⟨q, r, rfl⟩ := owns_slice hown'; have HF := Lib.hid (ord_fin z B now u v d a true nd n nb pl cl ls W w1 w2 (d + 1 + 1) HNX.out _ q r K1.out HK1.out HL.out.2 hown' hgrow hblk); have e7 := HF.out.1.cells.2.2.2.2.2.2.2; have m7 := HF.out.1.marks 7; clear hown' hgrow hblk d0 d1 d2 d3 d4 d5 d6 d7)
    go_end0
    exact ⟨rfl, HF.out.2⟩
  | false =>
    simp only [Bool.false_eq_true, if_false] at h1
    have HNX := Lib.hid (show nextG ⟨d, a, false, nd⟩ = (d + 1) from rfl)
    have K1 := Lib.hid (k.set4 (d + 1))
    have HK1 := Lib.hid (setK W z 4 (.int .i64 (d + 1)))
    obtain ⟨w1, hw1⟩ : ∃ Y : World, Y = W.setCell ⟨z, 4, none⟩ (.int .i64 (d + 1)) := ⟨_, rfl⟩
    rw [← hw1] at K1 HK1
    have HW1 := Lib.hid hw1
    have HL := Lib.hid (show ls.length ≤ 1000000 ∧ B ≤ w1.heap.size from ⟨hl, Nat.le_trans hB HK1.out.size⟩)
    clear hw1 k hl hB
    go_enter Try.func43, Try.ntmps43
    go_upto_region 6 with fail
    rw [← HW1.out]
    clear d0 d1 d2 d3 d4 d5 d6 d7 m4
    obtain ⟨d0, d1, d2, d3, d4, d5, d6, d7⟩ := K1.out.box.cells
    simp only at d3 d4 d5
    go_wp2_with (at_builtin; refine wpList_append_own_at _ rfl _ _ 25 rfl B 3 i0 (.int .i64 0) 1 8 Try.underlying25 HI0.out.1 HI0.out.2.1 HI0.out.2.2.1 HI0.out.2.2.2 rfl (by decide) (.slice pl ls.length cl) ls.length (ls.map (Value.int .i64)) rfl (K1.out.nums.alloc _) ⟨w1.heap.size, 0, none⟩ 1 1 [.int .i64 (d + 1)] rfl rfl (cell_one_new _ _ _) (fun y hy => by rw [List.mem_singleton.1 hy]; rfl) (by have := HL.out.1; unfold maxLen; omega) (by have := HL.out.1; omega) (by have := HL.out.2; rw [World.size_alloc]; omega) ?_; intro v' w2 hown' hgrow _ hblk; obtain ⟨q, r, rfl⟩ := owns_slice hown'; have HF := Lib.hid (ord_fin z B now u v d a false nd n nb pl cl ls W w1 w2 (d + 1) HNX.out _ q r K1.out HK1.out HL.out.2 hown' hgrow hblk); have e7 := HF.out.1.cells.2.2.2.2.2.2.2; have m7 := HF.out.1.marks 7; clear hown' hgrow hblk d0 d1 d2 d3 d4 d5 d6 d7)
    go_end0
    exact ⟨rfl, HF.out.2⟩

end Go.Proofs.Ytdmcijfjnegcgaa
namespace Go.Proofs.Ytdmcijfjnegcgaa
set_option maxRecDepth 100000
open Go.RowKit Go.Shelf
attribute [local go_sem] Oper.semAt_some

theorem results_cell1 {fn : Func} {a : Tmp} {t : TypeId} (h : fn.results = #[.cell a t]) (tmps : Array Value) (P : Program) (w : World) {p : Addr} {x : Value} (ha : tmps.getD a undef = .pointer (some p)) (hx : (loadVar t p).run P w = .ok x w) : (results fn tmps).run P w = .ok x w := by
  unfold results
  rw [h]
  simp only [Array.mapM_eq_foldlM, List.foldlM_toArray, List.foldlM_cons, List.foldlM_nil, ha, asAddr, run_fmap, Sem.run_bind, Sem.run_pure, Result.andThen_ok, hx]
  rfl
theorem bool_load {W : World} {z : Nat} {x : Bool} (h : Boxed W z 4 (.bool x)) : (loadVar 4 ⟨z, 0, none⟩).run Try.prog W = .ok (.bool x) W := by
  have := h.cell
  simp [go_sem, this]
theorem boxed_under {W W' : World} {B : Nat} {t : TypeId} {v : Value} (h : Boxed W B t v) (hb : Below W.heap.size W W') : Boxed W' B t v := (hb.block B h.lt).trans h

theorem rep1_c (x c : Int) (b : Nat) (W : World) (hb : W.cell? ⟨b, 0, none⟩ = some (.int .i64 c)) :
    Calls Try.prog 66 #[.int .i64 x, .pointer (some ⟨b, 0, none⟩)] W fun e w' => e = .returned (.bool (x == c)) ∧ w' = W := by
  go_enter Try.func66, Try.ntmps66
  go_wp2
  go_ret
  exact ⟨rfl, rfl⟩

/-- The closure that report hands to all. -/
def repV (cb : Nat) : Value := .func (.func 66) #[] #[.pointer (some ⟨cb, 0, none⟩)]
/-- Between two rounds. -/
def AI (W : World) (cb : Nat) (c : Int) (pre : List Int) (W' : World) : Prop :=
  Boxed W' W.heap.size 93 (repV cb) ∧ Boxed W' (W.heap.size + 1) 4 (.bool false) ∧ Boxed W' cb 3 (.int .i64 c) ∧ Below W.heap.size W W' ∧ (pre.all (· == c)) = true
def AX (W : World) (c : Int) (cc : Code) (pre : List Int) (W' : World) : Prop :=
  cc = .ret ∧ Boxed W' (W.heap.size + 1) 4 (.bool false) ∧ Below W.heap.size W W' ∧ (pre.all (· == c)) = false
theorem ai_own (W : World) (cb : Nat) (c : Int) (z : Nat) (hz : W.heap.size + 2 ≤ z) : OwnFrom z (AI W cb c) := by
  rintro s X Y row ⟨h1, h2, h3, h4, h5⟩ hg hr
  have hr' := fun r e => (hr r e).2
  exact ⟨heap_own h1 hg hr', heap_own h2 hg hr', heap_own h3 hg hr', h4.grown hg h4.size (fun k e => by have := (hr k e).1; omega), h5⟩
theorem ax_own (W : World) (c : Int) (z : Nat) (hz : W.heap.size + 2 ≤ z) (cc : Code) : OwnFrom z (AX W c cc) := by
  rintro s X Y row ⟨h1, h2, h3, h4⟩ hg hr
  have hr' := fun r e => (hr r e).2
  exact ⟨h1, heap_own h2 hg hr', h3.grown hg h3.size (fun k e => by have := (hr k e).1; omega), h4⟩

set_option maxHeartbeats 8000000 in
theorem all_c (lb cb : Nat) (d a : Int) (on : Bool) (p : Option Addr) (k : Nat) (nd : List Bool) (c : Int) (W : World) (hmax : nd.length ≤ 4611686018427387904) (hg : GBox W lb d a on (.slice p nd.length k)) (hl : BoolOut (fun _ => False) W p nd) (hcb : Boxed W cb 3 (.int .i64 c)) :
    Calls Try.prog 64 #[.func (.func 76) #[] #[.pointer (some ⟨lb, 0, none⟩)], .func (.func 66) #[] #[.pointer (some ⟨cb, 0, none⟩)]] W fun e w' => e = .returned (.bool ((trN nd nd.length).all (· == c))) ∧ Below W.heap.size W w' := by
  obtain ⟨w0, hw0⟩ : ∃ X : World, X = (W.alloc (.cells #[repV cb] 93)).alloc (.cells #[.bool false] 4) := ⟨_, rfl⟩
  have hb0 : Below W.heap.size W w0 := by rw [hw0]; exact below2 _ _ _
  have HF := Lib.hid (show Boxed w0 W.heap.size 93 (repV cb) ∧ Boxed w0 (W.heap.size + 1) 4 (.bool false) ∧ w0.heap.size = W.heap.size + 2 by
    rw [hw0]
    refine ⟨(Boxed.new W _ (repV cb)).alloc _, ?_, by simp⟩
    have := Boxed.new (W.alloc (.cells #[repV cb] 93)) 4 (.bool false)
    rwa [World.size_alloc] at this)
  have HG := Lib.hid (show GBox w0 lb d a on (.slice p nd.length k) ∧ BoolOut (fun _ => False) w0 p nd ∧ AI W cb c [] w0 from ⟨hg.below hb0, hl.below hb0, HF.out.1, HF.out.2.1, boxed_under hcb hb0, hb0, rfl⟩)
  clear hg hl hcb hb0
  unfold repV at hw0
  refine (callsIn_wide (n := 9)).1 ?_
  refine callsIn_of_wp_marks Try.func64 rfl trivial ?_ rfl
  simp only [Try.ntmps64, List.size_toArray, List.length_cons, List.length_nil, Nat.reduceAdd, Nat.reduceSub, Array.replicate_succ, Array.replicate_zero, List.push_toArray, List.append_toArray, List.nil_append, List.cons_append]
  gi_wp2
  rw [← hw0]
  clear hw0
  have hAI := ai_own W cb c w0.heap.size (by have := HF.out.2.2; omega)
  refine wpIn_rangeDeep rfl (by omega) (gf := 76) (lb := #[.pointer (some ⟨lb, 0, none⟩)]) rfl trivial (enters_of Try.func76 (by kernel_rfl) rfl)
    (needed_stops 8 (by omega) (fun _ => False) lb d a on p k nd w0 hmax HG.out.1 HG.out.2.1) (fun h k => h.trans k) (fun W l o o' _ => KeepsCells.turn _ W l o o') (Below.refl _ _) (fun _ => rfl)
    (AI W cb c) (AX W c) hAI (ax_own W c _ (by have := HF.out.2.2; omega)) HG.out.2.2
    (fun x a' _ => a' = { tmps := #[.func (.func 76) #[] #[.pointer (some ⟨lb, 0, none⟩)], .func (.func 66) #[] #[.pointer (some ⟨cb, 0, none⟩)], undef, .pointer (some ⟨W.heap.size, 0, none⟩), .pointer (some ⟨W.heap.size + 1, 0, none⟩), .int .i64 x, .func (.func 76) #[] #[.pointer (some ⟨lb, 0, none⟩)], .int .i64 x, undef, undef, undef, undef], defers := [] })
    ?hAx ?assign ?body ?done ?stop
  case hAx => exact fun x a' => ownFrom_pure _ _
  case assign =>
    rintro l' pre x X K hi hK
    gi_wp2
    exact hK _ _ (KeepsFrom.refl _ _) (KeepsCells.refl _ _) hi rfl
  case body =>
    rintro l' pre x a' X hl' _ hI rfl hlen -
    obtain ⟨hi1, hi2, hi3, hi4, hi5⟩ := hI
    have e1 := hi1.cell
    unfold repV at e1
    have f2 := hi2.frozen
    have e2 := hi2.cell
    have HC := Lib.hid (rep1_c x c cb X hi3.cell)
    have HEQ := Lib.hid (show (pre ++ [x]).all (· == c) = (x == c) by rw [List.all_append, hi5]; simp)
    have HI := Lib.hid (And.intro hi1 (And.intro hi2 (And.intro hi3 hi4)))
    clear hi1 hi2 hi3 hi4 hi5 hlen hAI HG
    cases hx : (x == c) with
    | true =>
      rw [hx] at HC HEQ
      gi_wp2_with fail
      refine ⟨trivial, ((callsIn_wide.2 HC.out).inRound l').mono ?_⟩
      rintro e X2 ⟨rfl, rfl⟩
      gi_wp2
      exact ⟨KeepsFrom.refl _ _, KeepsCells.refl _ _, HI.out.1, HI.out.2.1, HI.out.2.2.1, HI.out.2.2.2, HEQ.out⟩
    | false =>
      rw [hx] at HC HEQ
      gi_wp2_with fail
      refine ⟨trivial, ((callsIn_wide.2 HC.out).inRound l').mono ?_⟩
      rintro e X2 ⟨rfl, rfl⟩
      gi_wp2
      exact ⟨(KeepsOthers.setCell _ _ _).from _, rfl, HI.out.2.1.set _, HI.out.2.2.2.setCell (p := ⟨W.heap.size + 1, 0, none⟩) (by show W.heap.size ≤ W.heap.size + 1; omega) _, HEQ.out⟩
  case done =>
    rintro D xs X hD rfl ⟨h1, h2, h3, h4, h5⟩ hK
    have e2 := h2.cell
    have f2 := h2.frozen
    have HX := Lib.hid (show Boxed (X.setCell ⟨W.heap.size + 1, 0, none⟩ (.bool true)) (W.heap.size + 1) 4 (.bool true) ∧ Below W.heap.size W (X.setCell ⟨W.heap.size + 1, 0, none⟩ (.bool true)) from ⟨h2.set _, h4.setCell (p := ⟨W.heap.size + 1, 0, none⟩) (by show W.heap.size ≤ W.heap.size + 1; omega) _⟩)
    have HK := Lib.hid (show (X.setCell ⟨W.heap.size + 1, 0, none⟩ (.bool true)).heap[D]? = some (.deferred (some [])) from ((setK X (W.heap.size + 1) 0 (.bool true)).block D (Array.getElem?_eq_some_iff.1 hK).1 (by have := HF.out.2.2; omega)).trans hK)
    have HW := Lib.hid hD
    have H5 := Lib.hid h5
    have HSZ := Lib.hid (show W.heap.size + 2 ≤ w0.heap.size by have := HF.out.2.2; omega)
    clear h1 h2 h3 h4 h5 hAI HG hD hK
    gi_wp2
    refine leaves_marks (B := W.heap.size + 2) [D] _ ((Marks.nil _ _).cons (Nat.le_trans HSZ.out HW.out) (by simp) HK.out) fun X' hX' => ⟨_, results_cell1 rfl _ _ _ rfl (bool_load ((hX'.block (W.heap.size + 1) (by omega)).trans HX.out.1)), ?_, HX.out.2.trans (hX'.mono (by omega))⟩
    rw [H5.out]
  case stop =>
    rintro D cc pre X hD ⟨j, hj, hpre⟩ ⟨rfl, h2, h3, h4⟩ hK
    have HR := Lib.hid (show (trN nd nd.length).all (· == c) = false by
      obtain ⟨m, hm⟩ := trN_pre nd j (nd.length - j)
      rw [show j + (nd.length - j) = nd.length by omega] at hm
      rw [hm, List.all_append, ← hpre, h4, Bool.false_and])
    have HX := Lib.hid (And.intro h2 h3)
    have HW := Lib.hid (And.intro hD hK)
    have HSZ := Lib.hid (show W.heap.size + 2 ≤ w0.heap.size by have := HF.out.2.2; omega)
    clear h2 h3 h4 hAI HG hD hK hpre hj
    gi_wp2
    refine leaves_marks (B := W.heap.size + 2) [D] _ ((Marks.nil _ _).cons (Nat.le_trans HSZ.out HW.out.1) (by simp) HW.out.2) fun X' hX' => ⟨_, results_cell1 rfl _ _ _ rfl (bool_load ((hX'.block (W.heap.size + 1) (by omega)).trans HX.out.1)), ?_, HX.out.2.trans (hX'.mono (by omega))⟩
    rw [HR.out]

end Go.Proofs.Ytdmcijfjnegcgaa
