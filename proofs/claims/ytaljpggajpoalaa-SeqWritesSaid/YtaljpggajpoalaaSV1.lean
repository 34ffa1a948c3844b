/-
  StepWrite, of package seq: a step of a write that may be; its values lie in a block behind the words'.
  Conditions: the ranges of Go's types.
-/
import Derived.Test.YtaljpggajpoalaaSBH
import Derived.Laws.AppendOwnNone
/-
  The reference's steps, of package seq: their words.
  Conditions: as each has them.
-/
namespace Go.Proofs.Ytaljpggajpoalaa
open Go.RowKit Go.Shelf

/-- append of a row of one's own to one of one's own. -/
theorem wpList_append_any {P : Program} {w : World} {ops : Array Oper} {rest : List Oper} {o : Oper} {a : Act} {Q : Exit → Act → World → Prop} (hgd : o.guard = none) (s x : Operand) (t : TypeId)
    (ho : o.op = .call { callee := .builtin .append, args := #[s, x], argTypes := #[t, t] })
    (base : Nat) (e : TypeId) (i : TypeInfo) (z : Value) (bytes : Nat) (ht : P.underlying t = some (.slice e)) (hi : P.info? e = some i) (hz : i.zero = some z)
    (hsize : i.size = 1) (hby : i.bytes = bytes) (hzs : z.cells.size = 1)
    (v : Value) (n : Nat) (xs : List Value) (hs : a.eval s = v) (hown : w.ownsRow base e 1 v n xs)
    (vx : Value) (B m : Nat) (news : List Value) (hx : a.eval x = vx) (hxo : w.ownsRow B e 1 vx m news) (h1 : ∀ u ∈ news, u.oneCell' = true)
    (h63 : n + m ≤ maxLen) (hbytes : (n + m) * bytes ≤ 140737488355328) (hbase : base ≤ w.heap.size)
    (h : ∀ v' w', w'.ownsRow base e 1 v' (n + m) (xs ++ news) → Keeps (fun q => some q = v.ownBlock) w w' → wpList P ops Q rest (a.put o.dst v') w') : wpList P ops Q (o :: rest) a w := by
  have hlen := hxo.1
  rcases id hxo.2 with ⟨rfl, rfl⟩ | ⟨g, cap, cur, rfl, _⟩
  · obtain rfl : news = [] := List.eq_nil_of_length_eq_zero (by omega)
    refine wpList_append_own_none hgd s x t ho base e i 1 ht hi v n xs hs hown hx (h _ _ ?_ (Keeps.refl _ _))
    rw [List.append_nil]
    exact hown
  · refine wpList_append_own w hgd s x t ho base e i z 1 bytes ht hi hz hsize hby hzs (by decide) v n xs hs hown ⟨g, 0, none⟩ m cap news hx (by omega) (fun j u hj => ?_) h1 h63 hbytes hbase fun v' w' h2 h3 _ => h v' w' h2 ⟨h3.os, h3.tape, h3.output, h3.size, fun k hk hn => h3.block k hk (fun e => hn e)⟩
    obtain ⟨hj1, rfl⟩ := List.getElem?_eq_some_iff.1 hj
    rw [addr_add_off, Nat.zero_add]
    rw [hxo.cellAt j (by omega), List.getElem?_eq_getElem hj1]
theorem RdBox.setP {w : World} {z : Nat} {s : RdM} {v : Value} (h : RdBox w z s v) (p : Int) : RdBox (w.setCell ⟨z, 3, none⟩ (.int .i64 p)) z { s with p := p } v := by
  have h3 := heap_setCell_same w z 3 _ _ (.int .i64 p) h
  exact h3
theorem RdBox.setB {w : World} {z : Nat} {s : RdM} {v : Value} (h : RdBox w z s v) (b : Int) : RdBox (w.setCell ⟨z, 4, none⟩ (.int .u64 b)) z { s with b := b } v := by
  have h3 := heap_setCell_same w z 4 _ _ (.int .u64 b) h
  exact h3
theorem RdBox.setT {w : World} {z : Nat} {s : RdM} {v : Value} (h : RdBox w z s v) (t : Int) : RdBox (w.setCell ⟨z, 6, none⟩ (.int .i64 t)) z { s with t := t } v := by
  have h3 := heap_setCell_same w z 6 _ _ (.int .i64 t) h
  exact h3
/-- What lies in memory beside the read: the memory, the results, the rows. -/
def EBr (B : Nat) (W w : World) (px : Option Addr) (cx : Nat) (py : Option Addr) (cy : Nat) (us : List Int) (ms : List Bool) (f : Bool) : Prop :=
  MBox w W.heap.size (.slice px us.length cx) (.slice py ms.length cy) f ∧ MBox w (W.heap.size + 2) (.slice none 0 0) (.slice none 0 0) false ∧ RdBox w (W.heap.size + 3) ⟨0, 0, 0, 0, 0, 0⟩ (.slice none 0 0) ∧
  w.ownsRow B 27 1 (.slice px us.length cx) us.length (us.map (Value.int .u64)) ∧ w.ownsRow B 4 1 (.slice py ms.length cy) ms.length (ms.map Value.bool) ∧ Below W.heap.size W w
theorem EBr.below {B : Nat} {W w w' : World} {px : Option Addr} {cx : Nat} {py : Option Addr} {cy : Nat} {us : List Int} {ms : List Bool} {f : Bool} (h : EBr B W w px cx py cy us ms f) (hb : Below w.heap.size w w') : EBr B W w' px cx py cy us ms f :=
  ⟨h.1.below hb, h.2.1.below hb, h.2.2.1.below hb, owns_below h.2.2.2.1 hb, owns_below h.2.2.2.2.1 hb, below_then h.2.2.2.2.2 h.2.2.2.2.2.size hb⟩
theorem EBr.keeps {B : Nat} {W w w' : World} {px : Option Addr} {cx : Nat} {py : Option Addr} {cy : Nat} {us : List Int} {ms : List Bool} {f : Bool} {s : RdM} {v : Value} (h : EBr B W w px cx py cy us ms f) (hR : RdBox w (W.heap.size + 1) s v) (hk : Keeps (fun k => k = W.heap.size + 1) w w') : EBr B W w' px cx py cy us ms f :=
  ⟨h.1.keeps hk (by omega), h.2.1.keeps hk (by omega), (hk.block (W.heap.size + 3) h.2.2.1.lt (by omega)).trans h.2.2.1, hk.row h.2.2.2.1 (fun g hg e => RdBox.row hR h.2.2.2.1 (by decide) hg e.symm), hk.row h.2.2.2.2.1 (fun g hg e => RdBox.row hR h.2.2.2.2.1 (by decide) hg e.symm), h.2.2.2.2.2.trans (hk.below h.2.2.2.2.2.size (fun k e => by omega))⟩
theorem EBr.below' {B : Nat} {W w w' : World} {px : Option Addr} {cx : Nat} {py : Option Addr} {cy : Nat} {us : List Int} {ms : List Bool} {f : Bool} (h : EBr B W w px cx py cy us ms f) (hb : Below w.heap.size w w') : EBr B W w' px cx py cy us ms f := h.below hb
/-- Only blocks from X on change. -/
theorem EBr.far {B : Nat} {W w w' : World} {px : Option Addr} {cx : Nat} {py : Option Addr} {cy : Nat} {us : List Int} {ms : List Bool} {f : Bool} {S : Nat → Prop} (h : EBr B W w px cx py cy us ms f) (hk : Keeps S w w') (hS : ∀ k, k < w.heap.size → ¬ S k) : EBr B W w' px cx py cy us ms f :=
  h.below ⟨hk.os, hk.tape, hk.output, hk.size, fun k hlt => hk.block k hlt (hS k hlt)⟩
theorem row_keep1 {B z : Nat} {w w' : World} {s : RdM} {v v1 : Value} {n : Nat} {xs : List Value} (h : w.ownsRow B 27 1 v1 n xs) (hR : RdBox w z s v) (hk : Keeps (fun k => k = z) w w') : w'.ownsRow B 27 1 v1 n xs := hk.row h (fun g hg e => RdBox.row hR h (by decide) hg e.symm)
theorem kset (w : World) (z i : Nat) (u : Value) : Keeps (fun k => k = z) w (w.setCell ⟨z, i, none⟩ u) := Keeps.setCell w (S := fun k => k = z) (p := ⟨z, i, none⟩) rfl u

end Go.Proofs.Ytaljpggajpoalaa
/-
  SeqStays, its words: a memory and a read in variables.
  Conditions: none.
-/
namespace Go.Proofs.Ytaljpggajpoalaa
open Go.RowKit Go.Shelf

theorem own_slice {X : World} {B : Nat} {E : TypeId} {s n : Nat} {v : Value} {xs : List Value} (h : X.ownsRow B E s v n xs) : ∃ p c, v = .slice p n c := by
  rcases h.2 with ⟨rfl, rfl⟩ | ⟨g, cap, cur, rfl, _⟩
  · exact ⟨_, _, rfl⟩
  · exact ⟨_, _, rfl⟩
theorem stepR_over (ms : List Bool) (us : List Int) (f : Bool) (s : RdM) (vs : List Int) (h : 4 ≤ s.p) : stepR ms us f s vs = ((us, f), s, vs) := by unfold stepR; rw [if_pos h]
theorem stepR_shape (ms : List Bool) (us : List Int) (f : Bool) (s : RdM) (vs : List Int) (h4 : ¬ 4 ≤ s.p) (hr : rightRB s vs.length = true) (hw : WRange us) (hb : 0 ≤ s.b ∧ s.b ≤ 18446744073709551615) :
    (((stepR ms us f s vs).1.2 = true ∧ (stepR ms us f s vs).2.1.p = 5) ∨ ((stepR ms us f s vs).1.2 = f ∧ (stepR ms us f s vs).2.1.p ≠ 5)) ∧ (s.t ≤ (stepR ms us f s vs).2.1.t ∧ (stepR ms us f s vs).2.1.t ≤ s.t + 1) ∧ (0 ≤ (stepR ms us f s vs).2.1.b ∧ (stepR ms us f s vs).2.1.b ≤ 18446744073709551615) := by
  obtain ⟨⟨hm0, hm1⟩, -, ht, hF⟩ := rightRB_parts hr
  obtain ⟨-, -, -, hp⟩ := fits_le hm0 hF
  obtain ⟨⟨us', u', h, d⟩, hq⟩ : ∃ x, x = accM us ms f 1 (if s.p = 2 then s.f + (vs.length : Int) else s.a) 0 0 := ⟨_, rfl⟩
  have hrg := acc_range hw hq.symm
  have hd : (d = false ∧ u' = true) ∨ (d = true ∧ u' = f) := by
    have e : (accM us ms f 1 (if s.p = 2 then s.f + (vs.length : Int) else s.a) 0 0) = (us', u', h, d) := hq.symm
    cases hl : liveAt us ms (if s.p = 2 then s.f + (vs.length : Int) else s.a) with
    | true => rw [accM_load hl] at e; injection e with _ e; injection e with e1 e; injection e with _ e2; exact .inr ⟨e2.symm, e1.symm⟩
    | false => rw [accM_out hl] at e; injection e with _ e; injection e with e1 e; injection e with _ e2; exact .inl ⟨e2.symm, e1.symm⟩
  unfold stepR
  rw [if_neg h4, ← hq]
  dsimp only
  have hph : ∀ (m : Int) (n : Nat), phR m n ≠ 5 := by intro m n; unfold phR; split <;> decide
  rcases hd with ⟨rfl, rfl⟩ | ⟨rfl, rfl⟩
  · rw [if_pos rfl]
    exact ⟨.inl ⟨rfl, rfl⟩, ⟨Int.le_refl _, by dsimp only; omega⟩, hb⟩
  · rw [if_neg (by decide)]
    split
    · split
      · exact ⟨.inr ⟨rfl, hph _ _⟩, ⟨Int.le_refl _, by dsimp only; omega⟩, hrg⟩
      · exact ⟨.inr ⟨rfl, by dsimp only; omega⟩, ⟨Int.le_refl _, by dsimp only; omega⟩, hb⟩
    · split
      · exact ⟨.inr ⟨rfl, hph _ _⟩, ⟨Int.le_refl _, by dsimp only; omega⟩, hb⟩
      · split
        · exact ⟨.inr ⟨rfl, by dsimp only; omega⟩, ⟨Int.le_refl _, by dsimp only; omega⟩, hb⟩
        · refine ⟨.inr ⟨rfl, by dsimp only; omega⟩, ⟨?_, ?_⟩, hb⟩ <;> dsimp only <;> split <;> omega

theorem rem20 (steps : Int) : ∃ N : Nat, wrap64 ((IntKind.u64.wrap steps).tmod 20) = (N : Int) ∧ N ≤ 19 := by
  have h := u64wrap_range steps
  obtain ⟨x, hx⟩ := Int.eq_ofNat_of_zero_le h.1
  refine ⟨x % 20, ?_, by omega⟩
  rw [hx]
  have e : ((x : Int)).tmod 20 = ((x % 20 : Nat) : Int) := rfl
  rw [e]
  unfold wrap64
  omega
/-- A memory and a read in two variables. -/
def StV (B : Nat) (w : World) (zm zr : Nat) (us : List Int) (ms : List Bool) (f : Bool) (s : RdM) (vs : List Int) : Prop :=
  ∃ px cx py cy pv cv, MBox w zm (.slice px us.length cx) (.slice py ms.length cy) f ∧ RdBox w zr s (.slice pv vs.length cv) ∧ w.ownsRow B 27 1 (.slice px us.length cx) us.length (us.map (Value.int .u64)) ∧ w.ownsRow B 4 1 (.slice py ms.length cy) ms.length (ms.map Value.bool) ∧ w.ownsRow B 27 1 (.slice pv vs.length cv) vs.length (vs.map (Value.int .u64))
theorem StV.below {B : Nat} {w w' : World} {zm zr : Nat} {us : List Int} {ms : List Bool} {f : Bool} {s : RdM} {vs : List Int} (h : StV B w zm zr us ms f s vs) (hb : Below w.heap.size w w') : StV B w' zm zr us ms f s vs := by
  obtain ⟨px, cx, py, cy, pv, cv, h1, h2, h3, h4, h5⟩ := h
  exact ⟨px, cx, py, cy, pv, cv, h1.below hb, h2.below hb, owns_below h3 hb, owns_below h4 hb, owns_below h5 hb⟩
theorem StV.mono {B B' : Nat} {w : World} {zm zr : Nat} {us : List Int} {ms : List Bool} {f : Bool} {s : RdM} {vs : List Int} (h : StV B w zm zr us ms f s vs) (hB : B' ≤ B) : StV B' w zm zr us ms f s vs := by
  obtain ⟨px, cx, py, cy, pv, cv, h1, h2, h3, h4, h5⟩ := h
  exact ⟨px, cx, py, cy, pv, cv, h1, h2, h3.mono hB, h4.mono hB, h5.mono hB⟩

end Go.Proofs.Ytaljpggajpoalaa
/-
  The reference's StepWrite, of package seq: its words.
  Conditions: as each has them.
-/
namespace Go.Proofs.Ytaljpggajpoalaa
open Go.RowKit Go.Shelf

theorem WrBox.setP {w : World} {z : Nat} {s : WrM} {v : Value} (h : WrBox w z s v) (p : Int) : WrBox (w.setCell ⟨z, 3, none⟩ (.int .i64 p)) z { s with p := p } v := by
  have h3 := heap_setCell_same w z 3 _ _ (.int .i64 p) h
  exact h3
theorem WrBox.setB {w : World} {z : Nat} {s : WrM} {v : Value} (h : WrBox w z s v) (b : Int) : WrBox (w.setCell ⟨z, 4, none⟩ (.int .u64 b)) z { s with b := b } v := by
  have h3 := heap_setCell_same w z 4 _ _ (.int .u64 b) h
  exact h3
theorem WrBox.setT {w : World} {z : Nat} {s : WrM} {v : Value} (h : WrBox w z s v) (t : Int) : WrBox (w.setCell ⟨z, 5, none⟩ (.int .i64 t)) z { s with w := t } v := by
  have h3 := heap_setCell_same w z 5 _ _ (.int .i64 t) h
  exact h3
/-- What lies in memory beside the write: the memory, the results, the rows. -/
def EBw (B : Nat) (W w : World) (px : Option Addr) (cx : Nat) (py : Option Addr) (cy : Nat) (us : List Int) (ms : List Bool) (f : Bool) : Prop :=
  MBox w W.heap.size (.slice px us.length cx) (.slice py ms.length cy) f ∧ MBox w (W.heap.size + 2) (.slice none 0 0) (.slice none 0 0) false ∧ WrBox w (W.heap.size + 3) ⟨0, 0, 0, 0, 0⟩ (.slice none 0 0) ∧
  w.ownsRow B 27 1 (.slice px us.length cx) us.length (us.map (Value.int .u64)) ∧ w.ownsRow B 4 1 (.slice py ms.length cy) ms.length (ms.map Value.bool) ∧ Below W.heap.size W w
theorem EBw.below {B : Nat} {W w w' : World} {px : Option Addr} {cx : Nat} {py : Option Addr} {cy : Nat} {us : List Int} {ms : List Bool} {f : Bool} (h : EBw B W w px cx py cy us ms f) (hb : Below w.heap.size w w') : EBw B W w' px cx py cy us ms f :=
  ⟨h.1.below hb, h.2.1.below hb, h.2.2.1.below hb, owns_below h.2.2.2.1 hb, owns_below h.2.2.2.2.1 hb, below_then h.2.2.2.2.2 h.2.2.2.2.2.size hb⟩
theorem EBw.keeps {B : Nat} {W w w' : World} {px : Option Addr} {cx : Nat} {py : Option Addr} {cy : Nat} {us : List Int} {ms : List Bool} {f : Bool} {s : WrM} {v : Value} (h : EBw B W w px cx py cy us ms f) (hR : WrBox w (W.heap.size + 1) s v) (hk : Keeps (fun k => k = W.heap.size + 1) w w') : EBw B W w' px cx py cy us ms f :=
  ⟨h.1.keeps hk (by omega), h.2.1.keeps hk (by omega), (hk.block (W.heap.size + 3) h.2.2.1.lt (by omega)).trans h.2.2.1, hk.row h.2.2.2.1 (fun g hg e => hR.row' h.2.2.2.1 (by decide) hg e.symm), hk.row h.2.2.2.2.1 (fun g hg e => hR.row' h.2.2.2.2.1 (by decide) hg e.symm), h.2.2.2.2.2.trans (hk.below h.2.2.2.2.2.size (fun k e => by omega))⟩
theorem row_keepW {B z : Nat} {w w' : World} {s : WrM} {v v1 : Value} {n : Nat} {xs : List Value} (h : w.ownsRow B 27 1 v1 n xs) (hR : WrBox w z s v) (hk : Keeps (fun k => k = z) w w') : w'.ownsRow B 27 1 v1 n xs := hk.row h (fun g hg e => hR.row' h (by decide) hg e.symm)
/-- The memory is another one. -/
theorem EBw.mem {B : Nat} {W w w' w'' : World} {px : Option Addr} {cx : Nat} {py : Option Addr} {cy : Nat} {us us' : List Int} {ms : List Bool} {f f' : Bool} {px' : Option Addr} {cx' : Nat} {py' : Option Addr} {cy' : Nat} (h : EBw B W w px cx py cy us ms f) (hb : Below w.heap.size w w') (hx : w'.ownsRow B 27 1 (.slice px' us'.length cx') us'.length (us'.map (Value.int .u64))) (hy : w'.ownsRow B 4 1 (.slice py' ms.length cy') ms.length (ms.map Value.bool))
    (hw : w'' = ((w'.setCell ⟨W.heap.size, 0, none⟩ (.slice px' us'.length cx')).setCell ⟨W.heap.size, 1, none⟩ (.slice py' ms.length cy')).setCell ⟨W.heap.size, 2, none⟩ (.bool f')) :
    EBw B W w'' px' cx' py' cy' us' ms f' ∧ Keeps (fun k => k = W.heap.size) w' w'' := by
  have hE := h.below hb
  have hk : Keeps (fun k => k = W.heap.size) w' w'' := by rw [hw]; exact ((kset w' W.heap.size 0 _).trans (kset _ W.heap.size 1 _)).trans (kset _ W.heap.size 2 _)
  exact ⟨⟨by rw [hw]; exact hE.1.set _ _ _, hE.2.1.keeps hk (by omega), (hk.block (W.heap.size + 3) hE.2.2.1.lt (by omega)).trans hE.2.2.1, hk.row hx (fun g hg e => hE.1.row hx (by decide) hg e.symm), hk.row hy (fun g hg e => hE.1.row hy (by decide) hg e.symm), hE.2.2.2.2.2.trans (hk.below hE.2.2.2.2.2.size (fun k e => by omega))⟩, hk⟩

end Go.Proofs.Ytaljpggajpoalaa
/-
  StepWrite, of the document's answers of layer 6.
  Conditions: the memory and the write may be, and lie in rows of their own.
-/
namespace Go.Proofs.Ytaljpggajpoalaa
open Go.RowKit Go.Shelf
attribute [local go_sem] Oper.semAt_some

/-- What the reference's StepWrite answers. -/
def ESW (B : Nat) (ms : List Bool) (r : (List Int × Bool) × WrM) (vs : List Int) (e : Ending) (w' : World) : Prop :=
  ∃ px cx py cy p c, e = .returned (.tuple #[.agg #[.slice px r.1.1.length cx, .slice py ms.length cy, .bool r.1.2], wrV r.2 (.slice p vs.length c)]) ∧
    w'.ownsRow B 27 1 (.slice px r.1.1.length cx) r.1.1.length (r.1.1.map (Value.int .u64)) ∧ w'.ownsRow B 4 1 (.slice py ms.length cy) ms.length (ms.map Value.bool) ∧ w'.ownsRow B 27 1 (.slice p vs.length c) vs.length (vs.map (Value.int .u64))

set_option maxRecDepth 100000 in
set_option maxHeartbeats 8000000 in
theorem estepW_c (B : Nat) (x y : Value) (us : List Int) (ms : List Bool) (f : Bool) (s : WrM) (q : Option Addr) (c : Nat) (vs : List Int) (W : World) (h0 : W.ownsRow B 27 1 x us.length (us.map (Value.int .u64))) (h1 : W.ownsRow B 4 1 y ms.length (ms.map Value.bool)) (hB : B ≤ W.heap.size) (hr : rightB us ms = true) (hw : WRange us)
    (hv : W.ownsRow B 27 1 (.slice q vs.length c) vs.length (vs.map (Value.int .u64))) (hR : rightWB s vs.length = true) (hsb : 0 ≤ s.b ∧ s.b ≤ 18446744073709551615) :
    Calls Try.prog 30 #[.agg #[x, y, .bool f], wrV s (.slice q vs.length c)] W fun e w' => ESW B ms (stepW ms us f s vs) vs e w' ∧ Below W.heap.size W w' := by
  obtain ⟨px, cx, rfl⟩ := own_slice h0
  obtain ⟨py, cy, rfl⟩ := own_slice h1
  obtain ⟨a, g, ph, b, t0⟩ := s
  dsimp only at hsb
  obtain ⟨fin, hfin⟩ : ∃ x, x = stepW ms us f ⟨a, g, ph, b, t0⟩ vs := ⟨_, rfl⟩
  rw [← hfin]
  have HLD := Lib.hid (fun (Z : World) (hb : Below W.heap.size W Z) (ad : Int) => eload B (.slice px us.length cx) (.slice py ms.length cy) us ms f ad Z (owns_below h0 hb) (owns_below h1 hb) (Nat.le_trans hB hb.size) hr)
  have HSD := Lib.hid (fun (Z : World) (hb : Below W.heap.size W Z) (ad n : Int) => estore B (.slice px us.length cx) (.slice py ms.length cy) us ms f ad n Z (owns_below h0 hb) (owns_below h1 hb) (Nat.le_trans hB hb.size) hr)
  have HRP := Lib.hid (show (1 ≤ vs.length ∧ vs.length ≤ 16) ∧ ((ph = 2 → 0 ≤ t0 ∧ t0 < vs.length) ∧ (0 ≤ t0 ∧ t0 ≤ vs.length) ∧ (ph = 0 ∨ ph = 1 ∨ ph = 2 ∨ ph = 3 ∨ ph = 4 ∨ ph = 5)) ∧ (0 ≤ g ∧ g ≤ 4096) from by
    have h1 := rightWB_parts hR
    have h2 := fitsW_parts h1.2.2
    refine ⟨h1.1, ⟨h2.2.1, h2.2.2.2.1, h2.2.2.2.2⟩, ?_⟩
    unfold rightWB apartB at hR
    simp only [Bool.and_eq_true, decide_eq_true_eq] at hR
    omega)
  have HFIN := Lib.hid hfin
  have HWR := Lib.hid hw
  unfold wrV
  dsimp only
  obtain ⟨w0, hw0⟩ : ∃ X : World, X = (((W.alloc (.cells #[.slice px us.length cx, .slice py ms.length cy, .bool f] 44)).alloc (.cells #[.int .i64 a, .int .i64 g, .slice q vs.length c, .int .i64 ph, .int .u64 b, .int .i64 t0] 34)).alloc (.cells #[.slice none 0 0, .slice none 0 0, .bool false] 44)).alloc (.cells #[.int .i64 0, .int .i64 0, .slice none 0 0, .int .i64 0, .int .u64 0, .int .i64 0] 34) := ⟨_, rfl⟩
  have hb0 : Below W.heap.size W w0 := by rw [hw0]; exact below4 W _ _ _ _
  have e1 := World.alloc_heap_new (W.alloc (.cells #[.slice px us.length cx, .slice py ms.length cy, .bool f] 44)) (.cells #[.int .i64 a, .int .i64 g, .slice q vs.length c, .int .i64 ph, .int .u64 b, .int .i64 t0] 34)
  have e2 := World.alloc_heap_new ((W.alloc (.cells #[.slice px us.length cx, .slice py ms.length cy, .bool f] 44)).alloc (.cells #[.int .i64 a, .int .i64 g, .slice q vs.length c, .int .i64 ph, .int .u64 b, .int .i64 t0] 34)) (.cells #[.slice none 0 0, .slice none 0 0, .bool false] 44)
  have e3 := World.alloc_heap_new (((W.alloc (.cells #[.slice px us.length cx, .slice py ms.length cy, .bool f] 44)).alloc (.cells #[.int .i64 a, .int .i64 g, .slice q vs.length c, .int .i64 ph, .int .u64 b, .int .i64 t0] 34)).alloc (.cells #[.slice none 0 0, .slice none 0 0, .bool false] 44)) (.cells #[.int .i64 0, .int .i64 0, .slice none 0 0, .int .i64 0, .int .u64 0, .int .i64 0] 34)
  simp only [World.size_alloc] at e1 e2 e3
  have HE := Lib.hid (show EBw B W w0 px cx py cy us ms f ∧ WrBox w0 (W.heap.size + 1) ⟨a, g, ph, b, t0⟩ (.slice q vs.length c) ∧ w0.ownsRow B 27 1 (.slice q vs.length c) vs.length (vs.map (Value.int .u64)) from
    ⟨⟨by rw [hw0]; exact (((MBox.new W _ _ f).alloc _).alloc _).alloc _, by
        have h : MBox _ (W.heap.size + 2) (.slice none 0 0) (.slice none 0 0) false := e2
        rw [hw0]; exact h.alloc _, by rw [hw0]; exact e3, owns_below h0 hb0, owns_below h1 hb0, hb0⟩, by
      have h : WrBox _ (W.heap.size + 1) ⟨a, g, ph, b, t0⟩ (.slice q vs.length c) := e1
      rw [hw0]
      exact (h.below (below1 _ _)).below (below1 _ _), owns_below hv hb0⟩)
  have HW0 := Lib.hid hw0
  have hb0' := hsb.1
  have hb1' := hsb.2
  clear h0 h1 hv hR hr hw hB hw0 hb0 e1 e2 e3 hfin hsb
  go_enter Try.func30, Try.ntmps30
  go_upto_region 1 with fail
  rw [← HW0.out]
  clear HW0
  obtain ⟨r0, r1, r2, r3, r4, r5⟩ := HE.out.2.1.cells
  dsimp only at r0 r1 r3 r4 r5
  have v3 := HE.out.2.1.marks 3
  have v4 := HE.out.2.1.marks 4
  have v5 := HE.out.2.1.marks 5
  obtain ⟨⟨m0, m1, m2⟩, -⟩ := mbox_cells HE.out.1.1
  go_upto_block 0 with fail
  go_cut [6, 7] (fun s6 s7 wc => ∃ (d : Bool) (x6 : Int) (us' : List Int) (f' : Bool) (s' : WrM) (px' : Option Addr) (cx' : Nat) (py' : Option Addr) (cy' : Nat), s6 = .int .u64 x6 ∧ s7 = .bool d ∧ Hid (fin = ((us', f'), if d = false then { s' with p := 5 } else s') ∧ EBw B W wc px' cx' py' cy' us' ms f' ∧ WrBox wc (W.heap.size + 1) s' (.slice q vs.length c) ∧ wc.ownsRow B 27 1 (.slice q vs.length c) vs.length (vs.map (Value.int .u64))))
  case first =>
    by_cases hp0 : ph = 0
    · subst hp0
      obtain ⟨⟨us', f', h, d⟩, hq⟩ : ∃ x, x = accM us ms f 1 a 0 0 := ⟨_, rfl⟩
      have hus : us' = us := by have := accM_keep us ms f a 0 0; rw [← hq] at this; exact this
      have hrg := acc_range HWR.out hq.symm
      subst us'
      have HC := Lib.hid (show Calls Try.prog 50 #[.agg #[.slice px us.length cx, .slice py ms.length cy, .bool f], .int .i64 a] w0 fun e w' => LoadRes B ms (us, f', h, d) e w' ∧ Below w0.heap.size w0 w' from by rw [hq]; exact HLD.out w0 HE.out.1.2.2.2.2.2 a)
      have HQ := Lib.hid (show fin = ((us, f'), if d = false then (⟨a, g, 5, b, t0⟩ : WrM) else if h % 2 = 0 then ⟨a, g, 1, h, t0⟩ else ⟨a, g, 0, b, t0⟩) from by
        rw [HFIN.out]
        unfold stepW
        rw [if_neg (by show ¬ ((4 : Int) ≤ 0); decide)]
        dsimp only
        rw [if_pos rfl, ← hq]
        rfl)
      clear hq
      go_wp2_with fail
      refine HC.out.mono ?_
      rintro e w1 ⟨⟨x', y', rfl, hx, hy⟩, hb1⟩
      dsimp only at hx hy
      obtain ⟨px', cx', rfl⟩ := own_slice hx
      obtain ⟨py', cy', rfl⟩ := own_slice hy
      obtain ⟨w2, hw2⟩ : ∃ X : World, X = ((w1.setCell ⟨W.heap.size, 0, none⟩ (.slice px' us.length cx')).setCell ⟨W.heap.size, 1, none⟩ (.slice py' ms.length cy')).setCell ⟨W.heap.size, 2, none⟩ (.bool f') := ⟨_, rfl⟩
      obtain ⟨hE2, hk2⟩ := HE.out.1.mem hb1 hx hy hw2
      have HE2 := Lib.hid (show EBw B W w2 px' cx' py' cy' us ms f' ∧ WrBox w2 (W.heap.size + 1) ⟨a, g, 0, b, t0⟩ (.slice q vs.length c) ∧ w2.ownsRow B 27 1 (.slice q vs.length c) vs.length (vs.map (Value.int .u64)) from
        ⟨hE2, (hk2.block (W.heap.size + 1) (HE.out.2.1.below hb1).lt (by omega)).trans (HE.out.2.1.below hb1), hk2.row (owns_below HE.out.2.2 hb1) (fun g hg e => (HE.out.1.below hb1).1.row (owns_below HE.out.2.2 hb1) (by decide) hg e.symm)⟩)
      obtain ⟨⟨n0, n1, n2⟩, n3, n4, n5⟩ := mbox_cells (HE.out.1.below hb1).1
      clear HC m0 m1 m2 r0 r1 r2 r3 r4 r5 v3 v4 v5
      have HW2 := Lib.hid hw2
      obtain ⟨r0, r1, r2, r3, r4, r5⟩ := HE2.out.2.1.cells
      dsimp only at r0 r1 r3 r4 r5
      have v3 := HE2.out.2.1.marks 3
      have v4 := HE2.out.2.1.marks 4
      have v5 := HE2.out.2.1.marks 5
      clear hb1 hE2 hk2 hw2 hx hy HE
      cases d with
      | false =>
        have HF := Lib.hid (show fin = ((us, f'), if false = false then ({ (⟨a, g, 0, b, t0⟩ : WrM) with p := 5 } : WrM) else ⟨a, g, 0, b, t0⟩) from HQ.out)
        clear HQ HFIN
        go_upto_region 6 with fail
        rw [← HW2.out]
        clear n0 n1 n2 n3 n4 n5 HW2
        go_wp2
        go_meet
        exact ⟨false, _, us, f', ⟨a, g, 0, b, t0⟩, px', cx', py', cy', rfl, rfl, Lib.hid ⟨HF.out, HE2.out⟩⟩
      | true =>
        by_cases he : h % 2 = 0
        · have heb : (h % 2 == 0) = true := by rw [he]; rfl
          have HF := Lib.hid (show fin = ((us, f'), if true = false then ({ (⟨a, g, 1, h, t0⟩ : WrM) with p := 5 } : WrM) else ⟨a, g, 1, h, t0⟩) from by rw [HQ.out, if_neg (by decide), if_pos he, if_neg (by decide)])
          clear HQ HFIN
          go_upto_region 6 with fail
          rw [← HW2.out]
          clear n0 n1 n2 n3 n4 n5 HW2
          go_wp2
          go_meet
          exact ⟨true, _, us, f', ⟨a, g, 1, h, t0⟩, px', cx', py', cy', rfl, rfl, Lib.hid ⟨HF.out, HE2.out.1.keeps HE2.out.2.1 ((kset w2 _ 4 _).trans (kset _ _ 3 _)), (HE2.out.2.1.setB h).setP 1, row_keepW HE2.out.2.2 HE2.out.2.1 ((kset w2 _ 4 _).trans (kset _ _ 3 _))⟩⟩
        · have heb : (h % 2 == 0) = false := by rw [beq_eq_false_iff_ne]; exact he
          have HF := Lib.hid (show fin = ((us, f'), if true = false then ({ (⟨a, g, 0, b, t0⟩ : WrM) with p := 5 } : WrM) else ⟨a, g, 0, b, t0⟩) from by rw [HQ.out, if_neg (by decide), if_neg he, if_neg (by decide)])
          clear HQ HFIN
          go_upto_region 6 with fail
          rw [← HW2.out]
          clear n0 n1 n2 n3 n4 n5 HW2
          go_wp2
          go_meet
          exact ⟨true, _, us, f', ⟨a, g, 0, b, t0⟩, px', cx', py', cy', rfl, rfl, Lib.hid ⟨HF.out, HE2.out⟩⟩
    · have hp0b : (ph == 0) = false := by rw [beq_eq_false_iff_ne]; exact hp0
      by_cases hp1 : ph = 1
      · subst hp1
        obtain ⟨⟨us', f', h, d⟩, hq⟩ : ∃ x, x = accM us ms f 2 a 0 (IntKind.u64.wrap (b + 1)) := ⟨_, rfl⟩
        have HC := Lib.hid (show Calls Try.prog 54 #[.agg #[.slice px us.length cx, .slice py ms.length cy, .bool f], .int .i64 a, .int .u64 (IntKind.u64.wrap (b + 1))] w0 fun e w' => StoreRes B ms (us', f', h, d) e w' ∧ Below w0.heap.size w0 w' from by rw [hq]; exact HSD.out w0 HE.out.1.2.2.2.2.2 a _)
        have HF := Lib.hid (show fin = ((us', f'), if d = false then ({ (⟨a, g, 2, b, t0⟩ : WrM) with p := 5 } : WrM) else ⟨a, g, 2, b, t0⟩) from by
          rw [HFIN.out]
          unfold stepW
          rw [if_neg (by show ¬ ((4 : Int) ≤ 1); decide)]
          dsimp only
          rw [if_neg (by decide), if_neg (by decide), if_pos rfl, ← hq]
          dsimp only
          rw [if_neg (show ¬ ((1 : Int) = 0) by decide), if_pos rfl])
        clear hq HFIN
        go_wp2_with fail
        refine HC.out.mono ?_
        rintro e w1 ⟨⟨x', y', rfl, hx, hy⟩, hb1⟩
        dsimp only at hx hy
        obtain ⟨px', cx', rfl⟩ := own_slice hx
        obtain ⟨py', cy', rfl⟩ := own_slice hy
        obtain ⟨w2, hw2⟩ : ∃ X : World, X = ((w1.setCell ⟨W.heap.size, 0, none⟩ (.slice px' us'.length cx')).setCell ⟨W.heap.size, 1, none⟩ (.slice py' ms.length cy')).setCell ⟨W.heap.size, 2, none⟩ (.bool f') := ⟨_, rfl⟩
        obtain ⟨hE2, hk2⟩ := HE.out.1.mem hb1 hx hy hw2
        have HE2 := Lib.hid (show EBw B W w2 px' cx' py' cy' us' ms f' ∧ WrBox w2 (W.heap.size + 1) ⟨a, g, 1, b, t0⟩ (.slice q vs.length c) ∧ w2.ownsRow B 27 1 (.slice q vs.length c) vs.length (vs.map (Value.int .u64)) from
          ⟨hE2, (hk2.block (W.heap.size + 1) (HE.out.2.1.below hb1).lt (by omega)).trans (HE.out.2.1.below hb1), hk2.row (owns_below HE.out.2.2 hb1) (fun g hg e => (HE.out.1.below hb1).1.row (owns_below HE.out.2.2 hb1) (by decide) hg e.symm)⟩)
        obtain ⟨⟨n0, n1, n2⟩, n3, n4, n5⟩ := mbox_cells (HE.out.1.below hb1).1
        clear HC m0 m1 m2 r0 r1 r2 r3 r4 r5 v3 v4 v5
        have HW2 := Lib.hid hw2
        obtain ⟨r0, r1, r2, r3, r4, r5⟩ := HE2.out.2.1.cells
        dsimp only at r0 r1 r3 r4 r5
        have v3 := HE2.out.2.1.marks 3
        have v4 := HE2.out.2.1.marks 4
        have v5 := HE2.out.2.1.marks 5
        clear hb1 hE2 hk2 hw2 hx hy HE
        go_upto_region 10 with fail
        rw [← HW2.out]
        clear n0 n1 n2 n3 n4 n5 HW2
        go_wp2
        go_meet
        exact ⟨d, _, us', f', ⟨a, g, 2, b, t0⟩, px', cx', py', cy', rfl, rfl, Lib.hid ⟨HF.out, HE2.out.1.keeps HE2.out.2.1 (kset w2 _ 3 _), HE2.out.2.1.setP 2, row_keepW HE2.out.2.2 HE2.out.2.1 (kset w2 _ 3 _)⟩⟩
      · have hp1b : (ph == 1) = false := by rw [beq_eq_false_iff_ne]; exact hp1
        by_cases hp2 : ph = 2
        · subst hp2
          obtain ⟨k, hk⟩ : ∃ k : Nat, t0 = k := Int.eq_ofNat_of_zero_le (HRP.out.2.1.1 rfl).1
          subst hk
          have hkl : k < vs.length := by have h1 := (HRP.out.2.1.1 rfl).2; omega
          have hl16 : vs.length ≤ 16 := HRP.out.1.2
          obtain ⟨hg0, hg1⟩ := HRP.out.2.2
          obtain ⟨gq, capq, eq, -, -⟩ := own_form HE.out.2.2 (by omega)
          injection eq with eq _ ec
          subst eq ec
          obtain ⟨x, hx⟩ : ∃ x, x = vs[k] := ⟨_, rfl⟩
          have hcx := HE.out.2.2.cellAt k (by omega)
          rw [List.getElem?_map, List.getElem?_eq_getElem hkl, ← hx] at hcx
          replace hcx : w0.cell? ⟨gq, k, none⟩ = some (.int .u64 x) := hcx
          obtain ⟨⟨us', f', h, d⟩, hq⟩ : ∃ r, r = accM us ms f 2 (g + (k : Int)) 0 x := ⟨_, rfl⟩
          have HC := Lib.hid (show ∀ Z : World, Below W.heap.size W Z → Calls Try.prog 54 #[.agg #[.slice px us.length cx, .slice py ms.length cy, .bool f], .int .i64 (g + (k : Int)), .int .u64 x] Z fun e w' => StoreRes B ms (us', f', h, d) e w' ∧ Below Z.heap.size Z w' from fun Z hb => by rw [hq]; exact HSD.out Z hb (g + (k : Int)) x)
          have HQ := Lib.hid (show fin = ((us', f'), if d = false then (⟨a, g, 5, b, (k : Int)⟩ : WrM) else ⟨a, g, (if (k : Int) + 1 = vs.length then 3 else 2), b, (k : Int) + 1⟩) from by
            rw [HFIN.out]
            unfold stepW
            rw [if_neg (by show ¬ ((4 : Int) ≤ 2); decide)]
            dsimp only
            rw [if_neg (show ¬ ((2 : Int) = 0) by decide), if_pos rfl, if_neg (show ¬ ((2 : Int) = 1) by decide), if_pos rfl, Int.toNat_natCast, List.getD_eq_getElem?_getD, List.getElem?_eq_getElem hkl, Option.getD_some, ← hx, ← hq]
            dsimp only
            rw [if_neg (show ¬ ((2:Int)=0) by decide), if_neg (show ¬ ((2:Int)=1) by decide), if_pos rfl])
          have HEK := Lib.hid (And.intro hkl hcx)
          clear hq HFIN hx hcx m0 m1 m2
          go_upto_region 12 with fail
          clear r0 r1 r2 r3 r4 r5 v3 v4 v5
          refine wpTwo_begin (T := fun w' => WrBox w' (W.heap.size + 1) ⟨a, g, 2, b, (k : Int)⟩ (.slice (some ⟨gq, 0, none⟩) vs.length c) ∧ w'.cell? ⟨gq, k, none⟩ = some (.int .u64 x)) (S := fun w' => MBox w' W.heap.size (.slice px us.length cx) (.slice py ms.length cy) f) (late := fun j => [16].contains j) (by kernel_rfl) ?_
          obtain ⟨X0, hX0⟩ : ∃ X : World, X = w0.drew := ⟨_, rfl⟩
          rw [← hX0]
          have hb : Below w0.heap.size w0 X0 := by rw [hX0]; exact (Below.refl _ _).drew
          have hT0 := And.intro (HE.out.2.1.below hb) (below_cell hb HEK.out.2)
          have hE0 := HE.out.1.below hb
          have hS0 := hE0.1
          have HE0 := Lib.hid (And.intro hE0 (owns_below HE.out.2.2 hb))
          clear hX0 hb hE0 HE
          refine wpTwo_takeS (i := 0) (v := .agg #[.slice px us.length cx, .slice py ms.length cy, .bool f]) (waits_all (by kernel_rfl)) rfl (by kernel_rfl) (by kernel_rfl) (by kernel_rfl) (fun _ _ _ h => h) ⟨by rfl, ?_⟩ ⟨hT0, hS0⟩ ?_
          · rintro w hTw
            obtain ⟨⟨t1, t2, t3⟩, _⟩ := mbox_cells hTw.2
            go_simp
          (try simp only [Act.put, List.getElem_toArray, List.getElem_cons_zero, List.setIfInBounds_toArray, List.set_cons_succ, List.set_cons_zero])
          refine wpTwo_takeT (i := 1) (v := .pointer (some ⟨W.heap.size + 1, 1, none⟩)) rfl (by kernel_rfl) (by kernel_rfl) (by kernel_rfl) (fun _ _ _ h => h) ⟨by rfl, ?_⟩ hT0 ?_
          · rintro w hTw
            go_simp
          (try simp only [Act.put, List.getElem_toArray, List.getElem_cons_succ, List.getElem_cons_zero, List.setIfInBounds_toArray, List.set_cons_succ, List.set_cons_zero])
          refine wpTwo_takeT (i := 2) (v := .int .i64 g) rfl (by kernel_rfl) (by kernel_rfl) (by kernel_rfl) (fun _ _ _ h => h) ⟨by rfl, ?_⟩ hT0 ?_
          · rintro w hTw
            obtain ⟨t1, t2, t3, t4, t5, t6⟩ := hTw.1.cells
            dsimp only at t1 t2 t4 t5 t6
            go_simp
          (try simp only [Act.put, List.getElem_toArray, List.getElem_cons_succ, List.getElem_cons_zero, List.setIfInBounds_toArray, List.set_cons_succ, List.set_cons_zero])
          refine wpTwo_takeT (i := 3) (v := .pointer (some ⟨W.heap.size + 1, 5, none⟩)) rfl (by kernel_rfl) (by kernel_rfl) (by kernel_rfl) (fun _ _ _ h => h) ⟨by rfl, ?_⟩ hT0 ?_
          · rintro w hTw
            go_simp
          (try simp only [Act.put, List.getElem_toArray, List.getElem_cons_succ, List.getElem_cons_zero, List.setIfInBounds_toArray, List.set_cons_succ, List.set_cons_zero])
          refine wpTwo_takeT (i := 4) (v := .int .i64 (k : Int)) rfl (by kernel_rfl) (by kernel_rfl) (by kernel_rfl) (fun _ _ _ h => h) ⟨by rfl, ?_⟩ hT0 ?_
          · rintro w hTw
            obtain ⟨t1, t2, t3, t4, t5, t6⟩ := hTw.1.cells
            dsimp only at t1 t2 t4 t5 t6
            go_simp
          (try simp only [Act.put, List.getElem_toArray, List.getElem_cons_succ, List.getElem_cons_zero, List.setIfInBounds_toArray, List.set_cons_succ, List.set_cons_zero])
          refine wpTwo_takeT (i := 5) (v := .int .i64 (g + (k : Int))) rfl (by kernel_rfl) (by kernel_rfl) (by kernel_rfl) (fun _ _ _ h => h) ⟨by rfl, ?_⟩ hT0 ?_
          · rintro w hTw
            go_simp
            exact IntWalk.i64_in _ (by omega)
          (try simp only [Act.put, List.getElem_toArray, List.getElem_cons_succ, List.getElem_cons_zero, List.setIfInBounds_toArray, List.set_cons_succ, List.set_cons_zero])
          refine wpTwo_takeT (i := 6) (v := .pointer (some ⟨W.heap.size + 1, 2, none⟩)) rfl (by kernel_rfl) (by kernel_rfl) (by kernel_rfl) (fun _ _ _ h => h) ⟨by rfl, ?_⟩ hT0 ?_
          · rintro w hTw
            go_simp
          (try simp only [Act.put, List.getElem_toArray, List.getElem_cons_succ, List.getElem_cons_zero, List.setIfInBounds_toArray, List.set_cons_succ, List.set_cons_zero])
          refine wpTwo_takeT (i := 7) (v := .slice (some ⟨gq, 0, none⟩) vs.length c) rfl (by kernel_rfl) (by kernel_rfl) (by kernel_rfl) (fun _ _ _ h => h) ⟨by rfl, ?_⟩ hT0 ?_
          · rintro w hTw
            obtain ⟨t1, t2, t3, t4, t5, t6⟩ := hTw.1.cells
            dsimp only at t1 t2 t4 t5 t6
            go_simp
          (try simp only [Act.put, List.getElem_toArray, List.getElem_cons_succ, List.getElem_cons_zero, List.setIfInBounds_toArray, List.set_cons_succ, List.set_cons_zero])
          refine wpTwo_takeT (i := 8) (v := .pointer (some ⟨W.heap.size + 1, 5, none⟩)) rfl (by kernel_rfl) (by kernel_rfl) (by kernel_rfl) (fun _ _ _ h => h) ⟨by rfl, ?_⟩ hT0 ?_
          · rintro w hTw
            go_simp
          (try simp only [Act.put, List.getElem_toArray, List.getElem_cons_succ, List.getElem_cons_zero, List.setIfInBounds_toArray, List.set_cons_succ, List.set_cons_zero])
          refine wpTwo_takeT (i := 9) (v := .int .i64 (k : Int)) rfl (by kernel_rfl) (by kernel_rfl) (by kernel_rfl) (fun _ _ _ h => h) ⟨by rfl, ?_⟩ hT0 ?_
          · rintro w hTw
            obtain ⟨t1, t2, t3, t4, t5, t6⟩ := hTw.1.cells
            dsimp only at t1 t2 t4 t5 t6
            go_simp
          (try simp only [Act.put, List.getElem_toArray, List.getElem_cons_succ, List.getElem_cons_zero, List.setIfInBounds_toArray, List.set_cons_succ, List.set_cons_zero])
          refine wpTwo_takeT (i := 10) (v := .pointer (some ⟨gq, k, none⟩)) rfl (by kernel_rfl) (by kernel_rfl) (by kernel_rfl) (fun _ _ _ h => h) ⟨by rfl, ?_⟩ hT0 ?_
          · rintro w hTw
            go_simp
          (try simp only [Act.put, List.getElem_toArray, List.getElem_cons_succ, List.getElem_cons_zero, List.setIfInBounds_toArray, List.set_cons_succ, List.set_cons_zero])
          refine wpTwo_takeT (i := 11) (v := .int .u64 x) rfl (by kernel_rfl) (by kernel_rfl) (by kernel_rfl) (fun _ _ _ h => h) ⟨by rfl, ?_⟩ hT0 ?_
          · rintro w hTw
            have t1 := hTw.2
            go_simp
          (try simp only [Act.put, List.getElem_toArray, List.getElem_cons_succ, List.getElem_cons_zero, List.setIfInBounds_toArray, List.set_cons_succ, List.set_cons_zero])
          refine wpTwo_ready (rs := [12]) (by kernel_rfl) (by simp) ?_
          refine (AllTwo.cons rfl (fun K hK => ?_) AllTwo.nil)
          go_simp
          refine (HC.out X0 HE0.out.1.2.2.2.2.2).mono ?_
          rintro e X1 ⟨⟨x', y', rfl, hx, hy⟩, hb1⟩
          dsimp only at hx hy
          obtain ⟨px', cx', rfl⟩ := own_slice hx
          obtain ⟨py', cy', rfl⟩ := own_slice hy
          have hT1 := And.intro (hT0.1.below hb1) (below_cell hb1 hT0.2)
          have hS1 := hS0.below hb1
          go_wp2_with fail
          refine hK.out _ _ ⟨hT1, fun _ _ => hS1⟩ ?_
          clear hK K
          (try simp only [Act.put, List.getElem_toArray, List.getElem_cons_succ, List.getElem_cons_zero, List.setIfInBounds_toArray, List.set_cons_succ, List.set_cons_zero])
          refine wpTwo_takeT (i := 13) (v := .tuple #[.agg #[.slice px' us'.length cx', .slice py' ms.length cy', .bool f'], .bool d]) rfl (by kernel_rfl) (by kernel_rfl) (by kernel_rfl) (fun _ _ _ h => h) ⟨by rfl, ?_⟩ hT1 ?_
          · rintro w hTw
            go_simp
          (try simp only [Act.put, List.getElem_toArray, List.getElem_cons_succ, List.getElem_cons_zero, List.setIfInBounds_toArray, List.set_cons_succ, List.set_cons_zero])
          refine wpTwo_takeT (i := 14) (v := .agg #[.slice px' us'.length cx', .slice py' ms.length cy', .bool f']) rfl (by kernel_rfl) (by kernel_rfl) (by kernel_rfl) (fun _ _ _ h => h) ⟨by rfl, ?_⟩ hT1 ?_
          · rintro w hTw
            go_simp
          (try simp only [Act.put, List.getElem_toArray, List.getElem_cons_succ, List.getElem_cons_zero, List.setIfInBounds_toArray, List.set_cons_succ, List.set_cons_zero])
          refine wpTwo_takeT (i := 15) (v := .bool d) rfl (by kernel_rfl) (by kernel_rfl) (by kernel_rfl) (fun _ _ _ h => h) ⟨by rfl, ?_⟩ hT1 ?_
          · rintro w hTw
            go_simp
          (try simp only [Act.put, List.getElem_toArray, List.getElem_cons_succ, List.getElem_cons_zero, List.setIfInBounds_toArray, List.set_cons_succ, List.set_cons_zero])
          refine wpTwo_ready (rs := [16]) (by kernel_rfl) (by simp) ?_
          refine (AllTwo.cons rfl (fun K hK => ?_) AllTwo.nil)
          obtain ⟨w2, hw2⟩ : ∃ X : World, X = ((X1.setCell ⟨W.heap.size, 0, none⟩ (.slice px' us'.length cx')).setCell ⟨W.heap.size, 1, none⟩ (.slice py' ms.length cy')).setCell ⟨W.heap.size, 2, none⟩ (.bool f') := ⟨_, rfl⟩
          obtain ⟨hE2, hk2⟩ := HE0.out.1.mem hb1 hx hy hw2
          have hV1 := owns_below HE0.out.2 hb1
          have HE2 := Lib.hid (show EBw B W w2 px' cx' py' cy' us' ms f' ∧ WrBox w2 (W.heap.size + 1) ⟨a, g, 2, b, (k : Int)⟩ (.slice (some ⟨gq, 0, none⟩) vs.length c) ∧ w2.ownsRow B 27 1 (.slice (some ⟨gq, 0, none⟩) vs.length c) vs.length (vs.map (Value.int .u64)) from
            ⟨hE2, (hk2.block (W.heap.size + 1) hT1.1.lt (by omega)).trans hT1.1, hk2.row hV1 (fun g hg e => hS1.row hV1 (by decide) hg e.symm)⟩)
          have hTx := And.intro HE2.out.2.1 (show w2.cell? ⟨gq, k, none⟩ = some (.int .u64 x) from hk2.cell hT1.2 (fun e => hS1.row hV1 (by decide) rfl e.symm))
          obtain ⟨⟨n0, n1, n2⟩, n3, n4, n5⟩ := mbox_cells hS1
          go_simp
          rw [← hw2]
          refine hK.out _ _ ⟨hTx, fun h => absurd h (by decide)⟩ ?_
          clear hK K n0 n1 n2 n3 n4 n5 hE2 hk2 hV1 hw2 hT1 hS1 hT0 hS0 hx hy hb1
          (try simp only [Act.put, List.getElem_toArray, List.getElem_cons_succ, List.getElem_cons_zero, List.setIfInBounds_toArray, List.set_cons_succ, List.set_cons_zero])
          refine wpTwo_takeT (i := 17) (v := .bool d) rfl (by kernel_rfl) (by kernel_rfl) (by kernel_rfl) (fun _ _ _ h => h) ⟨by rfl, ?_⟩ hTx ?_
          · rintro w hTw
            go_simp
          (try simp only [Act.put, List.getElem_toArray, List.getElem_cons_succ, List.getElem_cons_zero, List.setIfInBounds_toArray, List.set_cons_succ, List.set_cons_zero])
          refine wpTwo_end (by kernel_rfl) ?_ _
          clear hTx HE0 HC
          obtain ⟨r0, r1, r2, r3, r4, r5⟩ := HE2.out.2.1.cells
          have v3 := HE2.out.2.1.marks 3
          have v5 := HE2.out.2.1.marks 5
          dsimp only at r0 r1 r3 r4 r5
          have hkl' : (k : Int) < (vs.length : Int) := by omega
          cases d with
          | false =>
            have HF := Lib.hid (show fin = ((us', f'), if false = false then ({ (⟨a, g, 2, b, (k : Int)⟩ : WrM) with p := 5 } : WrM) else ⟨a, g, 2, b, (k : Int)⟩) from HQ.out)
            have hke : ((k : Int) == (vs.length : Int)) = false := by rw [beq_eq_false_iff_ne]; omega
            clear HQ
            go_wp2
            go_meet
            exact ⟨false, _, us', f', ⟨a, g, 2, b, (k : Int)⟩, px', cx', py', cy', rfl, rfl, Lib.hid ⟨HF.out, HE2.out⟩⟩
          | true =>
            by_cases hke : (k : Int) + 1 = (vs.length : Int)
            · have HF := Lib.hid (show fin = ((us', f'), if true = false then ({ (⟨a, g, 3, b, (k : Int) + 1⟩ : WrM) with p := 5 } : WrM) else ⟨a, g, 3, b, (k : Int) + 1⟩) from by rw [HQ.out, if_neg (by decide), if_pos hke, if_neg (by decide)])
              have hkb : ((k : Int) + 1 == (vs.length : Int)) = true := by rw [hke]; exact beq_self_eq_true _
              clear HQ hke
              go_wp2
              go_meet
              exact ⟨true, _, us', f', ⟨a, g, 3, b, (k : Int) + 1⟩, px', cx', py', cy', rfl, rfl, Lib.hid ⟨HF.out, HE2.out.1.keeps HE2.out.2.1 ((kset w2 _ 5 _).trans (kset _ _ 3 _)), (HE2.out.2.1.setT ((k : Int) + 1)).setP 3, row_keepW HE2.out.2.2 HE2.out.2.1 ((kset w2 _ 5 _).trans (kset _ _ 3 _))⟩⟩
            · have HF := Lib.hid (show fin = ((us', f'), if true = false then ({ (⟨a, g, 2, b, (k : Int) + 1⟩ : WrM) with p := 5 } : WrM) else ⟨a, g, 2, b, (k : Int) + 1⟩) from by rw [HQ.out, if_neg (by decide), if_neg hke, if_neg (by decide)])
              have hkb : ((k : Int) + 1 == (vs.length : Int)) = false := by rw [beq_eq_false_iff_ne]; exact hke
              clear HQ hke
              go_wp2
              go_meet
              exact ⟨true, _, us', f', ⟨a, g, 2, b, (k : Int) + 1⟩, px', cx', py', cy', rfl, rfl, Lib.hid ⟨HF.out, HE2.out.1.keeps HE2.out.2.1 (kset w2 _ 5 _), HE2.out.2.1.setT ((k : Int) + 1), row_keepW HE2.out.2.2 HE2.out.2.1 (kset w2 _ 5 _)⟩⟩
        · have hp2b : (ph == 2) = false := by rw [beq_eq_false_iff_ne]; exact hp2
          by_cases hp3 : ph = 3
          · subst hp3
            obtain ⟨⟨us', f', h, d⟩, hq⟩ : ∃ x, x = accM us ms f 2 a 0 (IntKind.u64.wrap (b + 2)) := ⟨_, rfl⟩
            have HC := Lib.hid (show Calls Try.prog 54 #[.agg #[.slice px us.length cx, .slice py ms.length cy, .bool f], .int .i64 a, .int .u64 (IntKind.u64.wrap (b + 2))] w0 fun e w' => StoreRes B ms (us', f', h, d) e w' ∧ Below w0.heap.size w0 w' from by rw [hq]; exact HSD.out w0 HE.out.1.2.2.2.2.2 a _)
            have HF := Lib.hid (show fin = ((us', f'), if d = false then ({ (⟨a, g, 4, b, t0⟩ : WrM) with p := 5 } : WrM) else ⟨a, g, 4, b, t0⟩) from by
              rw [HFIN.out]
              unfold stepW
              rw [if_neg (by show ¬ ((4 : Int) ≤ 3); decide)]
              dsimp only
              rw [if_neg (by decide), if_neg (by decide), if_neg (by decide), if_neg (by decide), ← hq]
              dsimp only
              rw [if_neg (show ¬ ((3 : Int) = 0) by decide), if_neg (show ¬ ((3 : Int) = 1) by decide), if_neg (show ¬ ((3 : Int) = 2) by decide)])
            clear hq HFIN
            go_wp2_with fail
            refine HC.out.mono ?_
            rintro e w1 ⟨⟨x', y', rfl, hx, hy⟩, hb1⟩
            dsimp only at hx hy
            obtain ⟨px', cx', rfl⟩ := own_slice hx
            obtain ⟨py', cy', rfl⟩ := own_slice hy
            obtain ⟨w2, hw2⟩ : ∃ X : World, X = ((w1.setCell ⟨W.heap.size, 0, none⟩ (.slice px' us'.length cx')).setCell ⟨W.heap.size, 1, none⟩ (.slice py' ms.length cy')).setCell ⟨W.heap.size, 2, none⟩ (.bool f') := ⟨_, rfl⟩
            obtain ⟨hE2, hk2⟩ := HE.out.1.mem hb1 hx hy hw2
            have HE2 := Lib.hid (show EBw B W w2 px' cx' py' cy' us' ms f' ∧ WrBox w2 (W.heap.size + 1) ⟨a, g, 3, b, t0⟩ (.slice q vs.length c) ∧ w2.ownsRow B 27 1 (.slice q vs.length c) vs.length (vs.map (Value.int .u64)) from
              ⟨hE2, (hk2.block (W.heap.size + 1) (HE.out.2.1.below hb1).lt (by omega)).trans (HE.out.2.1.below hb1), hk2.row (owns_below HE.out.2.2 hb1) (fun g hg e => (HE.out.1.below hb1).1.row (owns_below HE.out.2.2 hb1) (by decide) hg e.symm)⟩)
            obtain ⟨⟨n0, n1, n2⟩, n3, n4, n5⟩ := mbox_cells (HE.out.1.below hb1).1
            clear HC m0 m1 m2 r0 r1 r2 r3 r4 r5 v3 v4 v5
            have HW2 := Lib.hid hw2
            obtain ⟨r0, r1, r2, r3, r4, r5⟩ := HE2.out.2.1.cells
            dsimp only at r0 r1 r3 r4 r5
            have v3 := HE2.out.2.1.marks 3
            have v4 := HE2.out.2.1.marks 4
            have v5 := HE2.out.2.1.marks 5
            clear hb1 hE2 hk2 hw2 hx hy HE
            go_upto_region 19 with fail
            rw [← HW2.out]
            clear n0 n1 n2 n3 n4 n5 HW2
            go_wp2
            go_meet
            exact ⟨d, _, us', f', ⟨a, g, 4, b, t0⟩, px', cx', py', cy', rfl, rfl, Lib.hid ⟨HF.out, HE2.out.1.keeps HE2.out.2.1 (kset w2 _ 3 _), HE2.out.2.1.setP 4, row_keepW HE2.out.2.2 HE2.out.2.1 (kset w2 _ 3 _)⟩⟩
          · have hp3b : (ph == 3) = false := by rw [beq_eq_false_iff_ne]; exact hp3
            have hp4 : 4 ≤ ph := by have h1 := HRP.out.2.1.2.2; omega
            have HF := Lib.hid (show fin = ((us, f), if true = false then ({ (⟨a, g, ph, b, t0⟩ : WrM) with p := 5 } : WrM) else ⟨a, g, ph, b, t0⟩) from by
              rw [HFIN.out]
              unfold stepW
              rw [if_pos (show (4 : Int) ≤ ph from hp4)]
              rfl)
            clear hp4
            go_wp2
            go_meet
            exact ⟨true, _, us, f, _, px, cx, py, cy, rfl, rfl, Lib.hid ⟨HF.out, HE.out.1, HE.out.2.1, HE.out.2.2⟩⟩
  case rest =>
    obtain ⟨d, x6, us', f', s', px', cx', py', cy', rfl, rfl, HX⟩ := hcut
    clear HE HLD HSD r0 r1 r2 r3 r4 r5 v3 v4 v5 m0 m1 m2
    obtain ⟨w5, hw5⟩ : ∃ X : World, X = wc := ⟨_, rfl⟩
    rw [← hw5] at HX ⊢
    clear hw5
    obtain ⟨⟨us2, f2⟩, ⟨a2, g2, p2, b2, t2⟩⟩ := fin
    obtain ⟨sa, sf, sp, sb, sw⟩ := s'
    go_upto_if 86 with fail
    go_cut [] (fun wc => Hid (us2 = us' ∧ f2 = f' ∧ EBw B W wc px' cx' py' cy' us' ms f' ∧ WrBox wc (W.heap.size + 1) ⟨a2, g2, p2, b2, t2⟩ (.slice q vs.length c) ∧ wc.ownsRow B 27 1 (.slice q vs.length c) vs.length (vs.map (Value.int .u64))))
    case first =>
      have e := HX.out.1
      cases d with
      | false =>
        rw [if_pos rfl] at e
        injection e with e1 e2
        injection e1 with e3 e4
        injection e2 with e5 e6 e7 e8 e9
        dsimp only at e5 e6 e7 e8 e9
        subst us2 f2 a2 g2 p2 b2 t2
        obtain ⟨r0, r1, r2, r3, r4, r5⟩ := HX.out.2.2.1.cells
        have v3 := HX.out.2.2.1.marks 3
        dsimp only at r0 r1 r3 r4 r5
        go_wp2
        go_meet
        exact Lib.hid ⟨trivial, trivial, HX.out.2.1.keeps HX.out.2.2.1 (kset w5 _ 3 _), HX.out.2.2.1.setP 5, row_keepW HX.out.2.2.2 HX.out.2.2.1 (kset w5 _ 3 _)⟩
      | true =>
        rw [if_neg (by decide)] at e
        injection e with e1 e2
        injection e1 with e3 e4
        injection e2 with e5 e6 e7 e8 e9
        subst us2 f2 a2 g2 p2 b2 t2
        go_wp2
        go_meet
        exact Lib.hid ⟨trivial, trivial, HX.out.2⟩
    case rest =>
      have HE := hcut
      clear hcut HX
      obtain ⟨rfl, rfl, -⟩ := id HE.out
      have HE := Lib.hid HE.out.2.2
      obtain ⟨w9, hw9⟩ : ∃ X : World, X = wc := ⟨_, rfl⟩
      rw [← hw9] at HE ⊢
      clear hw9
      go_upto_region 22 with fail
      refine wpTwo_begin (T := fun w' => MBox w' W.heap.size (.slice px' us2.length cx') (.slice py' ms.length cy') f2 ∧ WrBox w' (W.heap.size + 1) ⟨a2, g2, p2, b2, t2⟩ (.slice q vs.length c)) (S := fun _ => True) (late := fun _ => false) (by kernel_rfl) ?_
      obtain ⟨X0, hX0⟩ : ∃ X : World, X = w9.drew := ⟨_, rfl⟩
      rw [← hX0]
      have hb : Below w9.heap.size w9 X0 := by rw [hX0]; exact (Below.refl _ _).drew
      have hE0 := HE.out.1.below hb
      have hT0 := And.intro hE0.1 (HE.out.2.1.below hb)
      have HE0 := Lib.hid hE0
      have HV0 := Lib.hid (owns_below HE.out.2.2 hb)
      clear hX0 hb hE0 HE
      refine wpTwo_takeT (i := 0) (v := .agg #[.slice px' us2.length cx', .slice py' ms.length cy', .bool f2]) rfl (by kernel_rfl) (by kernel_rfl) (by kernel_rfl) (fun _ _ _ h => h) ⟨by rfl, ?_⟩ hT0 ?_
      · rintro w hTw
        obtain ⟨⟨t1, t2, t3⟩, _⟩ := mbox_cells hTw.1
        go_simp
      (try simp only [Act.put, List.getElem_toArray, List.getElem_cons_zero, List.setIfInBounds_toArray, List.set_cons_succ, List.set_cons_zero])
      refine wpTwo_takeT (i := 1) (v := .agg #[.int .i64 a2, .int .i64 g2, .slice q vs.length c, .int .i64 p2, .int .u64 b2, .int .i64 t2]) rfl (by kernel_rfl) (by kernel_rfl) (by kernel_rfl) (fun _ _ _ h => h) ⟨by rfl, ?_⟩ hT0 ?_
      · rintro w hTw
        obtain ⟨t1, t2, t3, t4, t5, t6⟩ := hTw.2.cells
        go_simp
      (try simp only [Act.put, List.getElem_toArray, List.getElem_cons_succ, List.getElem_cons_zero, List.setIfInBounds_toArray, List.set_cons_succ, List.set_cons_zero])
      refine wpTwo_ready (rs := [2]) (by kernel_rfl) (by simp) ?_
      refine (AllTwo.cons rfl (fun K hK => ?_) AllTwo.nil)
      rw [show W.heap.size + 1 + 1 = W.heap.size + 2 from rfl]
      obtain ⟨⟨d0, d1, d2⟩, e0, e1, e2⟩ := mbox_cells HE0.out.2.1
      obtain ⟨Xa, hXa⟩ : ∃ X : World, X = ((X0.setCell ⟨W.heap.size + 2, 0, none⟩ (.slice px' us2.length cx')).setCell ⟨W.heap.size + 2, 1, none⟩ (.slice py' ms.length cy')).setCell ⟨W.heap.size + 2, 2, none⟩ (.bool f2) := ⟨_, rfl⟩
      have hka : Keeps (fun q => q = W.heap.size + 2) X0 Xa := by rw [hXa]; exact ((kset X0 (W.heap.size + 2) 0 _).trans (kset _ (W.heap.size + 2) 1 _)).trans (kset _ (W.heap.size + 2) 2 _)
      have hTa := And.intro (hT0.1.keeps hka (by omega)) (show WrBox Xa (W.heap.size + 1) ⟨a2, g2, p2, b2, t2⟩ (.slice q vs.length c) from (hka.block (W.heap.size + 1) hT0.2.lt (by omega)).trans hT0.2)
      have HAa := Lib.hid (show MBox Xa (W.heap.size + 2) (.slice px' us2.length cx') (.slice py' ms.length cy') f2 by rw [hXa]; exact HE0.out.2.1.set _ _ _)
      have HGa := Lib.hid (show WrBox Xa (W.heap.size + 3) ⟨0, 0, 0, 0, 0⟩ (.slice none 0 0) from (hka.block (W.heap.size + 3) HE0.out.2.2.1.lt (by omega)).trans HE0.out.2.2.1)
      have HOa := Lib.hid (And.intro (hka.row HE0.out.2.2.2.1 (fun g hg e => HE0.out.2.1.row HE0.out.2.2.2.1 (by decide) hg e.symm)) (And.intro (hka.row HE0.out.2.2.2.2.1 (fun g hg e => HE0.out.2.1.row HE0.out.2.2.2.2.1 (by decide) hg e.symm)) (hka.row HV0.out (fun g hg e => HE0.out.2.1.row HV0.out (by decide) hg e.symm))))
      have HBa := Lib.hid (HE0.out.2.2.2.2.2.trans (hka.below HE0.out.2.2.2.2.2.size (fun q hq => by omega)))
      go_simp
      rw [← hXa]
      refine hK.out _ _ ⟨hTa, fun _ _ => trivial⟩ ?_
      clear hK K d0 d1 d2 e0 e1 e2 hXa hka HE0 HV0 hT0
      (try simp only [Act.put, List.getElem_toArray, List.getElem_cons_succ, List.getElem_cons_zero, List.setIfInBounds_toArray, List.set_cons_succ, List.set_cons_zero])
      refine wpTwo_ready (rs := [3]) (by kernel_rfl) (by simp) ?_
      refine (AllTwo.cons rfl (fun K hK => ?_) AllTwo.nil)
      rw [show W.heap.size + 1 + 1 + 1 = W.heap.size + 3 from rfl]
      obtain ⟨d0, d1, d2, d3, d4, d5⟩ := HGa.out.cells
      dsimp only at d0 d1 d3 d4 d5
      have v0 := HGa.out.marks 0
      have v1 := HGa.out.marks 1
      have v2 := HGa.out.marks 2
      have v3 := HGa.out.marks 3
      have v4 := HGa.out.marks 4
      have v5 := HGa.out.marks 5
      obtain ⟨Xb, hXb⟩ : ∃ X : World, X = (((((Xa.setCell ⟨W.heap.size + 3, 0, none⟩ (.int .i64 a2)).setCell ⟨W.heap.size + 3, 1, none⟩ (.int .i64 g2)).setCell ⟨W.heap.size + 3, 2, none⟩ (.slice q vs.length c)).setCell ⟨W.heap.size + 3, 3, none⟩ (.int .i64 p2)).setCell ⟨W.heap.size + 3, 4, none⟩ (.int .u64 b2)).setCell ⟨W.heap.size + 3, 5, none⟩ (.int .i64 t2) := ⟨_, rfl⟩
      have hkb : Keeps (fun q => q = W.heap.size + 3) Xa Xb := by rw [hXb]; exact WrBox.putK Xa (W.heap.size + 3) ⟨a2, g2, p2, b2, t2⟩ (.slice q vs.length c)
      have hTb := And.intro (hTa.1.keeps hkb (by omega)) (show WrBox Xb (W.heap.size + 1) ⟨a2, g2, p2, b2, t2⟩ (.slice q vs.length c) from (hkb.block (W.heap.size + 1) hTa.2.lt (by omega)).trans hTa.2)
      have HAb := Lib.hid (HAa.out.keeps hkb (by omega))
      have HGb := Lib.hid (show WrBox Xb (W.heap.size + 3) ⟨a2, g2, p2, b2, t2⟩ (.slice q vs.length c) by rw [hXb]; exact HGa.out.put ⟨a2, g2, p2, b2, t2⟩ (.slice q vs.length c))
      have HOb := Lib.hid (And.intro (hkb.row HOa.out.1 (fun g hg e => WrBox.row' HGa.out HOa.out.1 (by decide) hg e.symm)) (And.intro (hkb.row HOa.out.2.1 (fun g hg e => WrBox.row' HGa.out HOa.out.2.1 (by decide) hg e.symm)) (hkb.row HOa.out.2.2 (fun g hg e => WrBox.row' HGa.out HOa.out.2.2 (by decide) hg e.symm))))
      have HBb := Lib.hid (HBa.out.trans (hkb.below HBa.out.size (fun q hq => by omega)))
      go_simp
      rw [← hXb]
      refine hK.out _ _ ⟨hTb, fun _ _ => trivial⟩ ?_
      clear hK K d0 d1 d2 d3 d4 d5 v0 v1 v2 v3 v4 v5 hXb hkb hTa hTb HAa HGa HOa HBa
      (try simp only [Act.put, List.getElem_toArray, List.getElem_cons_succ, List.getElem_cons_zero, List.setIfInBounds_toArray, List.set_cons_succ, List.set_cons_zero])
      refine wpTwo_end (by kernel_rfl) ?_ _
      go_wp2
      try simp only [Exit.jump]
      obtain ⟨⟨y0, y1, y2⟩, -, -, -⟩ := mbox_cells HAb.out
      obtain ⟨x0, x1, x2, x3, x4, x5⟩ := HGb.out.cells
      dsimp only at x0 x1 x3 x4 x5
      refine bodyPost_ret (v := .tuple #[.agg #[.slice px' us2.length cx', .slice py' ms.length cy', .bool f2], wrV ⟨a2, g2, p2, b2, t2⟩ (.slice q vs.length c)]) (by simp [results, Try.results30, go_sem, y0, y1, y2, x0, x1, x2, x3, x4, x5, wrV]) rfl ?_
      exact ⟨⟨px', cx', py', cy', q, c, rfl, HOb.out⟩, HBb.out⟩

end Go.Proofs.Ytaljpggajpoalaa
namespace Go.Proofs.Ytaljpggajpoalaa
open Go.RowKit Go.Shelf
attribute [local go_sem] Oper.semAt_some

/-- What StepWrite hands over. -/
def SWriteOk2 (B : Nat) (ms : List Bool) (x : (List Int × Bool) × WrM) (vs : List Int) (e : Ending) (w' : World) : Prop :=
  ∃ gw cw gl cl p c, e = .returned (.tuple #[.agg #[.slice (some ⟨gw, 0, none⟩) x.1.1.length cw, .slice (some ⟨gl, 0, none⟩) ms.length cl, .bool x.1.2], wrV x.2 (.slice p vs.length c), .int .i64 0]) ∧
  w'.ownsRow B 27 1 (.slice (some ⟨gw, 0, none⟩) x.1.1.length cw) x.1.1.length (x.1.1.map (Value.int .u64)) ∧ w'.ownsRow B 4 1 (.slice (some ⟨gl, 0, none⟩) ms.length cl) ms.length (ms.map Value.bool) ∧
  w'.ownsRow B 27 1 (.slice p vs.length c) vs.length (vs.map (Value.int .u64)) ∧ (∀ g, (Value.slice p vs.length c).ownBlock = some g → gw < g)
set_option maxRecDepth 100000 in
set_option maxHeartbeats 8000000 in
theorem swrite2_c (mv : Value) (us : List Int) (ms : List Bool) (u : Bool) (s : WrM) (rq : Option Addr) (rc : Nat) (vs : List Int) (W : World)
    (hM : MemAt W mv us ms u) (hr : rightB us ms = true) (hw : WRange us) (hV : VV (fun k => W.heap.size ≤ k) W (.slice rq vs.length rc) vs) (hR : rightWB s vs.length = true) (hsb : 0 ≤ s.b ∧ s.b ≤ 18446744073709551615) :
    Calls Try.prog 29 #[mv, wrV s (.slice rq vs.length rc)] W fun e w' => SWriteOk2 W.heap.size ms (stepW ms us u s vs) vs e w' ∧ Below W.heap.size W w' := by
  obtain ⟨fin, hfin⟩ : ∃ f, f = stepW ms us u s vs := ⟨_, rfl⟩
  rw [← hfin]
  have HM := Lib.hid hM
  obtain ⟨vw, vl, rfl, ⟨pw, cw0, rfl, hcw⟩, pl, cl0, rfl, hcl⟩ := hM
  clear hcw hcl
  have HAN := Lib.hid (fun (Z : World) (hb : Below W.heap.size W Z) => anew_yes _ us ms u Z (HM.out.below hb) hr)
  have HCP := Lib.hid (fun (Z : World) => checkWrite_c s rq vs.length rc hsb Z)
  rw [hR, if_pos rfl] at HCP
  obtain ⟨a, f, ph, b, t0⟩ := s
  have HALL := Lib.hid (And.intro hr (And.intro hw (And.intro hV (And.intro hR hfin))))
  obtain ⟨w0, hw0⟩ : ∃ X : World, X = (((W.alloc (.cells #[.slice pw us.length cw0, .slice pl ms.length cl0, .bool u] 44)).alloc (.cells #[.int .i64 a, .int .i64 f, .slice rq vs.length rc, .int .i64 ph, .int .u64 b, .int .i64 t0] 34)).alloc (.cells #[.slice none 0 0, .slice none 0 0, .bool false] 44)).alloc (.cells #[.int .i64 0, .int .i64 0, .slice none 0 0, .int .i64 0, .int .u64 0, .int .i64 0] 34) := ⟨_, rfl⟩
  unfold wrV at *
  dsimp only at *
  have HB0 := Lib.hid (show Below W.heap.size W w0 by rw [hw0]; exact ((((Below.refl _ _).alloc (Nat.le_refl _) _).alloc (by simp) _).alloc (by simp; omega) _).alloc (by simp; omega) _)
  have e1 := World.alloc_heap_new W (.cells #[.slice pw us.length cw0, .slice pl ms.length cl0, .bool u] 44)
  have e2 := World.alloc_heap_new (W.alloc (.cells #[.slice pw us.length cw0, .slice pl ms.length cl0, .bool u] 44)) (.cells #[.int .i64 a, .int .i64 f, .slice rq vs.length rc, .int .i64 ph, .int .u64 b, .int .i64 t0] 34)
  have e3 := World.alloc_heap_new ((W.alloc (.cells #[.slice pw us.length cw0, .slice pl ms.length cl0, .bool u] 44)).alloc (.cells #[.int .i64 a, .int .i64 f, .slice rq vs.length rc, .int .i64 ph, .int .u64 b, .int .i64 t0] 34)) (.cells #[.slice none 0 0, .slice none 0 0, .bool false] 44)
  have e4 := World.alloc_heap_new (((W.alloc (.cells #[.slice pw us.length cw0, .slice pl ms.length cl0, .bool u] 44)).alloc (.cells #[.int .i64 a, .int .i64 f, .slice rq vs.length rc, .int .i64 ph, .int .u64 b, .int .i64 t0] 34)).alloc (.cells #[.slice none 0 0, .slice none 0 0, .bool false] 44)) (.cells #[.int .i64 0, .int .i64 0, .slice none 0 0, .int .i64 0, .int .u64 0, .int .i64 0] 34)
  simp only [World.size_alloc] at e2 e3 e4
  have HZ0 := Lib.hid (show MBox w0 W.heap.size (.slice pw us.length cw0) (.slice pl ms.length cl0) u by rw [hw0]; exact (((MBox.new W _ _ u).alloc _).alloc _).alloc _)
  have HR0 := Lib.hid (show WrBox w0 (W.heap.size + 1) ⟨a, f, ph, b, t0⟩ (.slice rq vs.length rc) by
    have h : WrBox _ (W.heap.size + 1) ⟨a, f, ph, b, t0⟩ (.slice rq vs.length rc) := e2
    rw [hw0]
    exact (h.below (below1 _ _)).below (below1 _ _))
  have HY0 := Lib.hid (show MBox w0 (W.heap.size + 2) (.slice none 0 0) (.slice none 0 0) false by
    have h : MBox _ (W.heap.size + 2) (.slice none 0 0) (.slice none 0 0) false := e3
    rw [hw0]; exact h.alloc _)
  have HT0 := Lib.hid (show WrBox w0 (W.heap.size + 3) ⟨0, 0, 0, 0, 0⟩ (.slice none 0 0) by rw [hw0]; exact e4)
  have HW0 := Lib.hid hw0
  clear hr hw hV hR hsb hfin hw0 HM e1 e2 e3 e4
  go_enter Try.func29, Try.ntmps29
  go_wp2_with fail
  rw [← HW0.out]
  clear HW0
  refine (HAN.out _ HB0.out).mono ?_
  rintro e w1 ⟨⟨gw, cw, gl, cl, rfl, how, hol⟩, hb1⟩
  have HZ1 := Lib.hid (HZ0.out.below hb1)
  have HR1 := Lib.hid (HR0.out.below hb1)
  have HY1 := Lib.hid (HY0.out.below hb1)
  have HT1 := Lib.hid (HT0.out.below hb1)
  have HB1 := Lib.hid (below_then HB0.out HB0.out.size hb1)
  have HOW := Lib.hid (how.mono HB0.out.size)
  have HOL := Lib.hid (hol.mono HB0.out.size)
  have hgwl := (row_lt how).2
  have hs0 : W.heap.size + 3 < w0.heap.size := HT0.out.lt
  clear hb1 HAN HZ0 HR0 HY0 HT0 HB0 how hol
  obtain ⟨⟨hd0, hd1, hd2⟩, he0, he1, he2⟩ := mbox_cells HZ1.out
  obtain ⟨w2, hw2⟩ : ∃ X : World, X = ((w1.setCell ⟨W.heap.size, 0, none⟩ (.slice (some ⟨gw, 0, none⟩) us.length cw)).setCell ⟨W.heap.size, 1, none⟩ (.slice (some ⟨gl, 0, none⟩) ms.length cl)).setCell ⟨W.heap.size, 2, none⟩ (.bool u) := ⟨_, rfl⟩
  have hk2 : Keeps (fun k => k = W.heap.size) w1 w2 := by
    rw [hw2]
    exact ((Keeps.setCell w1 (S := (· = W.heap.size)) (p := ⟨W.heap.size, 0, none⟩) rfl _).trans (Keeps.setCell _ (S := (· = W.heap.size)) (p := ⟨W.heap.size, 1, none⟩) rfl _)).trans (Keeps.setCell _ (S := (· = W.heap.size)) (p := ⟨W.heap.size, 2, none⟩) rfl _)
  have HZ2 := Lib.hid (show MBox w2 W.heap.size (.slice (some ⟨gw, 0, none⟩) us.length cw) (.slice (some ⟨gl, 0, none⟩) ms.length cl) u by rw [hw2]; exact HZ1.out.set _ _ _)
  have HR2 := Lib.hid (show WrBox w2 (W.heap.size + 1) ⟨a, f, ph, b, t0⟩ (.slice rq vs.length rc) from (hk2.block (W.heap.size + 1) HR1.out.lt (by omega)).trans HR1.out)
  have HY2 := Lib.hid (HY1.out.keeps hk2 (by omega))
  have HT2 := Lib.hid (show WrBox w2 (W.heap.size + 3) ⟨0, 0, 0, 0, 0⟩ (.slice none 0 0) from (hk2.block (W.heap.size + 3) HT1.out.lt (by omega)).trans HT1.out)
  have HB2 := Lib.hid (HB1.out.trans (hk2.below HB1.out.size (fun k e => by omega)))
  have HOW2 := Lib.hid (hk2.row HOW.out (fun g hg e => HZ1.out.row HOW.out (by decide) hg e.symm))
  have HOL2 := Lib.hid (hk2.row HOL.out (fun g hg e => HZ1.out.row HOL.out (by decide) hg e.symm))
  have HG := Lib.hid (show W.heap.size + 3 < gw by omega)
  have HW2 := Lib.hid hw2
  clear hw2 hk2 HZ1 HR1 HY1 HT1 HB1 HOW HOL hgwl hs0
  go_upto_region 2 with fail
  rw [← HW2.out]
  clear hd0 hd1 hd2 he0 he1 he2 HW2
  obtain ⟨r0, r1, r2, r3, r4, r5⟩ := HR2.out.cells
  dsimp only at r0 r1 r3 r4 r5
  go_wp2_with fail
  refine (HCP.out w2).mono ?_
  rintro e w3 ⟨rfl, hb3⟩
  have HZ3 := Lib.hid (HZ2.out.below hb3)
  have hR3 := HR2.out.below hb3
  have HY3 := Lib.hid (HY2.out.below hb3)
  have HT3 := Lib.hid (HT2.out.below hb3)
  have HB3 := Lib.hid (below_then HB2.out HB2.out.size hb3)
  have HOW3 := Lib.hid (owns_below HOW2.out hb3)
  have HOL3 := Lib.hid (owns_below HOL2.out hb3)
  have HR3 := Lib.hid hR3
  clear hb3 hR3 HCP HZ2 HR2 HY2 HT2 HB2 HOW2 HOL2 r0 r1 r2 r3 r4 r5
  go_upto_region 7 with fail
  go_cut [9] (fun s9 wc => Hid (∃ r q, s9 = .pointer (some ⟨r, 0, none⟩) ∧ WBox wc r 102 [] ⟨a, f, ph, b, t0⟩ (.slice rq vs.length rc) q ∧ XBox wc q W.heap.size ∧ (w3.heap.size ≤ r ∧ w3.heap.size ≤ q) ∧ Below w3.heap.size w3 wc))
  case first =>
    obtain ⟨r0, r1, r2, r3, r4, r5⟩ := HR3.out.cells
    dsimp only at r0 r1 r3 r4 r5
    have HAC := Lib.hid (fun Z => accesses_c W.heap.size Z)
    clear HR3 HY3 HT3 HB3 HOW3 HOL3 HZ3 HALL
    unfold accV at HAC
    go_region_with (first | (go_at_call 46; refine (HAC.out _).mono ?_; rintro e w5 ⟨⟨rfl, hW5⟩, hb5⟩; have s0 := below_cell hb5 r0; have s1 := below_cell hb5 r1; have s2 := below_cell hb5 r2; have s3 := below_cell hb5 r3; have s4 := below_cell hb5 r4; have s5 := below_cell hb5 r5))
    all_goals (go_wp2_with fail; go_meet)
    all_goals
      have hb6 : Below w3.heap.size w3 w5 := ((Below.refl w3.heap.size w3).drew).trans hb5
      exact Lib.hid ⟨w5.heap.size, w3.heap.size, rfl, World.alloc_heap_new w5 _, ((below1 w5 _).block _ hW5.lt).trans hW5, ⟨hb6.size, Nat.le_refl _⟩, hb6.trans ((below1 w5 _).mono hb6.size)⟩
  case rest =>
    obtain ⟨r, q, rfl, hRB, hX, ⟨hr4, hq4⟩, hbc⟩ := hcut.out
    clear hcut HR3
    have HY5 := Lib.hid (HY3.out.below hbc)
    have HT5 := Lib.hid (HT3.out.below hbc)
    have HB5 := Lib.hid (below_then HB3.out HB3.out.size hbc)
    have HS5 := Lib.hid (show WS W.heap.size q W.heap.size gw gl cw cl r 102 [] (fun k => k = W.heap.size ∨ k = gw ∨ k = r) ms (.slice rq vs.length rc) vs ((us, u), ⟨a, f, ph, b, t0⟩) wc by
      obtain ⟨g1, g2, g3, g4, g5⟩ := HALL.out
      have hb9 := HB5.out
      refine ⟨⟨hX, HZ3.out.below hbc, owns_below HOW3.out hbc, owns_below HOL3.out hbc⟩, hRB, ((g3.keeps (Keeps.of_low hb9) (fun _ h => h)).weaken ?_)⟩
      have := HG.out
      have := HT3.out.lt
      rintro k (e | e | e) <;> show W.heap.size ≤ k <;> omega)
    have HRT := Lib.hid (show W.heap.size + 3 < r by have := HT3.out.lt; omega)
    have HSL := Lib.hid (show ∀ k, (k = W.heap.size ∨ k = gw ∨ k = r) → k < wc.heap.size by
      obtain ⟨hA, hR9, -⟩ := HS5.out
      rintro k (rfl | rfl | rfl)
      · exact hA.box.lt
      · exact (row_lt hA.words).1
      · exact hR9.lt)
    have HM8 := Lib.hid (fun (Z : World) (hb : Below wc.heap.size wc Z) => wdoes_c r Z)
    clear HY3 HT3 HB3 HZ3 HOW3 HOL3 hRB hX hr4 hq4 hbc
    obtain ⟨w5, hw5⟩ : ∃ X : World, X = wc := ⟨_, rfl⟩
    rw [← hw5] at HY5 HT5 HB5 HS5 HSL HM8
    rw [← hw5]
    clear hw5
    go_upto_region 8 with fail
    go_cut [] (fun wc => Hid (WS W.heap.size q W.heap.size gw gl cw cl r 102 [] (fun k => k = W.heap.size ∨ k = gw ∨ k = r) ms (.slice rq vs.length rc) vs fin wc ∧ Keeps (fun k => k = W.heap.size ∨ k = gw ∨ k = r) w5 wc))
    case first =>
      have HRD := Lib.hid (fun Z => wdoes_c r Z)
      have HST := Lib.hid (fun (Z : World) (mb : Nat) (hb : Below w5.heap.size w5 Z) (hX : Z.heap[mb]? = some (wmap r)) => wstep_c W.heap.size q W.heap.size gw gl cw cl r mb 102 [] (fun k => k = W.heap.size ∨ k = gw ∨ k = r) us ms u ⟨a, f, ph, b, t0⟩ (.slice rq vs.length rc) vs Z (HS5.out.below hb) hX (.inl rfl) HALL.out.1 HALL.out.2.1 HALL.out.2.2.2.1 (fun _ h => h))
      rw [← HALL.out.2.2.2.2] at HST
      clear HY5 HT5 HB5 HALL HM8
      go_region_with (first | (go_at_call 52; refine (HRD.out _).mono ?_; rintro e w6 ⟨⟨rfl, hX6⟩, hb6⟩) | (go_at_call 47; refine (HST.out w6 _ (((Below.refl w5.heap.size w5).drew).trans hb6) hX6).mono ?_; rintro e w7 ⟨rfl, hS7, hk7⟩))
      all_goals (go_wp2_with fail; go_meet)
      all_goals exact Lib.hid ⟨hS7, (Keeps.of_below (((Below.refl w5.heap.size w5).drew).trans hb6)).trans hk7⟩
    case rest =>
      obtain ⟨hS8, hk8⟩ := hcut.out
      clear hcut
      obtain ⟨w8, hw8⟩ : ∃ X : World, X = wc := ⟨_, rfl⟩
      rw [← hw8] at hS8 hk8
      rw [← hw8]
      clear hw8
      have HUP := Lib.hid (show ∀ k, (k = W.heap.size ∨ k = gw ∨ k = r) → W.heap.size ≤ k ∧ k ≠ W.heap.size + 2 ∧ k ≠ W.heap.size + 3 by
        have := HG.out
        have := HRT.out
        rintro k (e | e | e) <;> omega)
      have HB8 := Lib.hid (HB5.out.trans (hk8.below HB5.out.size (fun k e => (HUP.out k e).1)))
      have HRES := Lib.hid (HY5.out.keeps hk8 (fun e => (HUP.out _ e).2.1 rfl))
      have HRDB := Lib.hid (show WrBox w8 (W.heap.size + 3) ⟨0, 0, 0, 0, 0⟩ (.slice none 0 0) from (hk8.block (W.heap.size + 3) HT5.out.lt (fun e => (HUP.out _ e).2.2 rfl)).trans HT5.out)
      have HS8 := Lib.hid hS8
      have HLEN := Lib.hid (show vs.length ≤ 1099511627776 by have := (rightWB_parts HALL.out.2.2.2.1).1.2; omega)
      clear hS8 hk8 HY5 HT5 HB5 HS5 HSL HRT HG HALL HM8
      obtain ⟨⟨z0, z1, z2⟩, -⟩ := mbox_cells HS8.out.1.box
      obtain ⟨hRv, hVv⟩ := HS8.out.2
      have HTO := Lib.hid (fun (Z : World) (hb : Below w8.heap.size w8 Z) => wtold_c r q [] fin.2 (.slice rq vs.length rc) vs (fun k => k = W.heap.size ∨ k = gw ∨ k = r) Z (hRv.below hb) (hVv.keeps (Keeps.of_below (S := fun _ => False) hb) (fun _ h => h.elim)) HLEN.out)
      clear hRv hVv
      unfold wrV at HTO
      rw [show W.heap.size + 1 + 1 + 1 = W.heap.size + 3 from rfl, show W.heap.size + 1 + 1 = W.heap.size + 2 from rfl]
      go_upto_region 9 with fail
      go_region_with (first | (go_at_call 53; refine (HTO.out w8.drew (Below.refl _ _).drew).mono ?_; rintro e w9 ⟨⟨p9, c9, rfl, ho⟩, hb9⟩; have hb8 : Below w8.heap.size w8 w9 := ((Below.refl w8.heap.size w8).drew).trans hb9; have k0 := below_cell hb8 z0; have k1 := below_cell hb8 z1; have k2 := below_cell hb8 z2; have hy9 := HRES.out.below hb8; have hr9 := HRDB.out.below hb8; obtain ⟨⟨y0, y1, y2⟩, y3, y4, y5⟩ := mbox_cells hy9; obtain ⟨x0, x1, x2, x3, x4, x5⟩ := hr9.cells; have v0 := hr9.marks 0; have v1 := hr9.marks 1; have v2 := hr9.marks 2; have v3 := hr9.marks 3; have v4 := hr9.marks 4; have v5 := hr9.marks 5; dsimp only at x0 x1 x3 x4 x5))
      all_goals
        obtain ⟨wA, hwA⟩ : ∃ X : World, X = ((w9.setCell ⟨W.heap.size + 2, 0, none⟩ (.slice (some ⟨gw, 0, none⟩) fin.1.1.length cw)).setCell ⟨W.heap.size + 2, 1, none⟩ (.slice (some ⟨gl, 0, none⟩) ms.length cl)).setCell ⟨W.heap.size + 2, 2, none⟩ (.bool fin.1.2) := ⟨_, rfl⟩
        have hA : MBox wA (W.heap.size + 2) (.slice (some ⟨gw, 0, none⟩) fin.1.1.length cw) (.slice (some ⟨gl, 0, none⟩) ms.length cl) fin.1.2 := by rw [hwA]; exact hy9.set _ _ _
        have hAK : Keeps (fun k => k = W.heap.size + 2) w9 wA := by
          rw [hwA]
          exact ((Keeps.setCell w9 (S := (· = W.heap.size + 2)) (p := ⟨W.heap.size + 2, 0, none⟩) rfl _).trans (Keeps.setCell _ (S := (· = W.heap.size + 2)) (p := ⟨W.heap.size + 2, 1, none⟩) rfl _)).trans (Keeps.setCell _ (S := (· = W.heap.size + 2)) (p := ⟨W.heap.size + 2, 2, none⟩) rfl _)
        have hr10 : WrBox wA (W.heap.size + 3) ⟨0, 0, 0, 0, 0⟩ (.slice none 0 0) := (hAK.block (W.heap.size + 3) hr9.lt (by omega)).trans hr9
        have hP := hr10.put fin.2 (.slice p9 vs.length c9)
        have hPK := WrBox.putK wA (W.heap.size + 3) fin.2 (.slice p9 vs.length c9)
        rw [← hwA]
        clear k0 k1 k2 y0 y1 y2 y3 y4 y5 x0 x1 x2 x3 x4 x5 v0 v1 v2 v3 v4 v5 hwA
        revert hP hPK
        generalize World.setCell _ ⟨W.heap.size + 3, 5, none⟩ _ = wB
        intro hP hPK
        have hAB : MBox wB (W.heap.size + 2) (.slice (some ⟨gw, 0, none⟩) fin.1.1.length cw) (.slice (some ⟨gl, 0, none⟩) ms.length cl) fin.1.2 := hA.keeps hPK (by omega)
        have HPB := Lib.hid hP
        have HMB := Lib.hid hAB
        have HKB := Lib.hid (show Keeps (fun k => k = W.heap.size + 2 ∨ k = W.heap.size + 3) w8 wB from ((Keeps.of_below hb8).trans (hAK.sub fun k _ e => .inl e)).trans (hPK.sub fun k _ e => .inr e))
        have HO9 := Lib.hid (show wB.ownsRow w8.heap.size 27 1 (.slice p9 vs.length c9) vs.length (vs.map (Value.int .u64)) from (hPK.row (hAK.row ho (fun g hg e => by have := (ho.lt g hg).1; have h9 := HRDB.out.lt; have : w8.heap.size ≤ g := this; omega)) (fun g hg e => by have := (ho.lt g hg).1; have h9 := HRDB.out.lt; have : w8.heap.size ≤ g := this; omega)))
        clear hA hAK hr10 hP hPK hAB ho hb8 hb9 hy9 hr9 HTO z0 z1 z2
        obtain ⟨⟨y0, y1, y2⟩, -, -, -⟩ := mbox_cells HMB.out
        obtain ⟨x0, x1, x2, x3, x4, x5⟩ := HPB.out.cells
        go_wp2
        try simp only [Exit.jump]
        refine bodyPost_ret (v := .tuple #[.agg #[.slice (some ⟨gw, 0, none⟩) fin.1.1.length cw, .slice (some ⟨gl, 0, none⟩) ms.length cl, .bool fin.1.2], wrV fin.2 (.slice p9 vs.length c9), .int .i64 0]) (by simp [results, Try.results29, go_sem, y0, y1, y2, x0, x1, x2, x3, x4, x5, wrV]) rfl ⟨⟨gw, cw, gl, cl, p9, c9, rfl, ?_, ?_, ?_, ?_⟩, ?_⟩
        · exact HKB.out.row HS8.out.1.words (by intro g hg; simp only [Value.ownBlock, Option.some.injEq] at hg; subst hg; have := HUP.out gw (.inr (.inl rfl)); show ¬ (_ ∨ _); omega)
        · exact HKB.out.row HS8.out.1.lives (by intro g hg; have n1 := HRES.out.row HS8.out.1.lives (by decide) hg; have n2 := WrBox.row' HRDB.out HS8.out.1.lives (by decide) hg; show ¬ (_ ∨ _); omega)
        · exact HO9.out.mono HB8.out.size
        · intro g hg
          have h1 := (HO9.out.lt g hg).1
          have h2 := (HS8.out.1.words.lt gw rfl).2
          omega
        · exact HB8.out.trans (HKB.out.below HB8.out.size (fun k e => by omega))


end Go.Proofs.Ytaljpggajpoalaa
