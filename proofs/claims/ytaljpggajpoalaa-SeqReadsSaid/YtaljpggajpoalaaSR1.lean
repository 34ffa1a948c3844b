/-
  StepRead, of package seq: a step of a read that may be; its values lie in a block behind the words'.
  Conditions: the ranges of Go's types.
-/
import Derived.Test.YtaljpggajpoalaaSBH
import Derived.Laws.AppendOwnNone
/-
  The reference's steps, of package seq: their words.
  Conditions: as each has them.
-/
namespace Go.Proofs.Ytaljpggajpoalaa
open Go.RowKit Go.Shelf

/-- append of a row of one's own to one of one's own. -/
theorem wpList_append_any {P : Program} {w : World} {ops : Array Oper} {rest : List Oper} {o : Oper} {a : Act} {Q : Exit → Act → World → Prop} (hgd : o.guard = none) (s x : Operand) (t : TypeId)
    (ho : o.op = .call { callee := .builtin .append, args := #[s, x], argTypes := #[t, t] })
    (base : Nat) (e : TypeId) (i : TypeInfo) (z : Value) (bytes : Nat) (ht : P.underlying t = some (.slice e)) (hi : P.info? e = some i) (hz : i.zero = some z)
    (hsize : i.size = 1) (hby : i.bytes = bytes) (hzs : z.cells.size = 1)
    (v : Value) (n : Nat) (xs : List Value) (hs : a.eval s = v) (hown : w.ownsRow base e 1 v n xs)
    (vx : Value) (B m : Nat) (news : List Value) (hx : a.eval x = vx) (hxo : w.ownsRow B e 1 vx m news) (h1 : ∀ u ∈ news, u.oneCell' = true)
    (h63 : n + m ≤ maxLen) (hbytes : (n + m) * bytes ≤ 140737488355328) (hbase : base ≤ w.heap.size)
    (h : ∀ v' w', w'.ownsRow base e 1 v' (n + m) (xs ++ news) → Keeps (fun q => some q = v.ownBlock) w w' → wpList P ops Q rest (a.put o.dst v') w') : wpList P ops Q (o :: rest) a w := by
  have hlen := hxo.1
  rcases id hxo.2 with ⟨rfl, rfl⟩ | ⟨g, cap, cur, rfl, _⟩
  · obtain rfl : news = [] := List.eq_nil_of_length_eq_zero (by omega)
    refine wpList_append_own_none hgd s x t ho base e i 1 ht hi v n xs hs hown hx (h _ _ ?_ (Keeps.refl _ _))
    rw [List.append_nil]
    exact hown
  · refine wpList_append_own w hgd s x t ho base e i z 1 bytes ht hi hz hsize hby hzs (by decide) v n xs hs hown ⟨g, 0, none⟩ m cap news hx (by omega) (fun j u hj => ?_) h1 h63 hbytes hbase fun v' w' h2 h3 _ => h v' w' h2 ⟨h3.os, h3.tape, h3.output, h3.size, fun k hk hn => h3.block k hk (fun e => hn e)⟩
    obtain ⟨hj1, rfl⟩ := List.getElem?_eq_some_iff.1 hj
    rw [addr_add_off, Nat.zero_add]
    rw [hxo.cellAt j (by omega), List.getElem?_eq_getElem hj1]
theorem RdBox.setP {w : World} {z : Nat} {s : RdM} {v : Value} (h : RdBox w z s v) (p : Int) : RdBox (w.setCell ⟨z, 3, none⟩ (.int .i64 p)) z { s with p := p } v := by
  have h3 := heap_setCell_same w z 3 _ _ (.int .i64 p) h
  exact h3
theorem RdBox.setB {w : World} {z : Nat} {s : RdM} {v : Value} (h : RdBox w z s v) (b : Int) : RdBox (w.setCell ⟨z, 4, none⟩ (.int .u64 b)) z { s with b := b } v := by
  have h3 := heap_setCell_same w z 4 _ _ (.int .u64 b) h
  exact h3
theorem RdBox.setT {w : World} {z : Nat} {s : RdM} {v : Value} (h : RdBox w z s v) (t : Int) : RdBox (w.setCell ⟨z, 6, none⟩ (.int .i64 t)) z { s with t := t } v := by
  have h3 := heap_setCell_same w z 6 _ _ (.int .i64 t) h
  exact h3
/-- What lies in memory beside the read: the memory, the results, the rows. -/
def EBr (B : Nat) (W w : World) (px : Option Addr) (cx : Nat) (py : Option Addr) (cy : Nat) (us : List Int) (ms : List Bool) (f : Bool) : Prop :=
  MBox w W.heap.size (.slice px us.length cx) (.slice py ms.length cy) f ∧ MBox w (W.heap.size + 2) (.slice none 0 0) (.slice none 0 0) false ∧ RdBox w (W.heap.size + 3) ⟨0, 0, 0, 0, 0, 0⟩ (.slice none 0 0) ∧
  w.ownsRow B 27 1 (.slice px us.length cx) us.length (us.map (Value.int .u64)) ∧ w.ownsRow B 4 1 (.slice py ms.length cy) ms.length (ms.map Value.bool) ∧ Below W.heap.size W w
theorem EBr.below {B : Nat} {W w w' : World} {px : Option Addr} {cx : Nat} {py : Option Addr} {cy : Nat} {us : List Int} {ms : List Bool} {f : Bool} (h : EBr B W w px cx py cy us ms f) (hb : Below w.heap.size w w') : EBr B W w' px cx py cy us ms f :=
  ⟨h.1.below hb, h.2.1.below hb, h.2.2.1.below hb, owns_below h.2.2.2.1 hb, owns_below h.2.2.2.2.1 hb, below_then h.2.2.2.2.2 h.2.2.2.2.2.size hb⟩
theorem EBr.keeps {B : Nat} {W w w' : World} {px : Option Addr} {cx : Nat} {py : Option Addr} {cy : Nat} {us : List Int} {ms : List Bool} {f : Bool} {s : RdM} {v : Value} (h : EBr B W w px cx py cy us ms f) (hR : RdBox w (W.heap.size + 1) s v) (hk : Keeps (fun k => k = W.heap.size + 1) w w') : EBr B W w' px cx py cy us ms f :=
  ⟨h.1.keeps hk (by omega), h.2.1.keeps hk (by omega), (hk.block (W.heap.size + 3) h.2.2.1.lt (by omega)).trans h.2.2.1, hk.row h.2.2.2.1 (fun g hg e => RdBox.row hR h.2.2.2.1 (by decide) hg e.symm), hk.row h.2.2.2.2.1 (fun g hg e => RdBox.row hR h.2.2.2.2.1 (by decide) hg e.symm), h.2.2.2.2.2.trans (hk.below h.2.2.2.2.2.size (fun k e => by omega))⟩
theorem EBr.below' {B : Nat} {W w w' : World} {px : Option Addr} {cx : Nat} {py : Option Addr} {cy : Nat} {us : List Int} {ms : List Bool} {f : Bool} (h : EBr B W w px cx py cy us ms f) (hb : Below w.heap.size w w') : EBr B W w' px cx py cy us ms f := h.below hb
/-- Only blocks from X on change. -/
theorem EBr.far {B : Nat} {W w w' : World} {px : Option Addr} {cx : Nat} {py : Option Addr} {cy : Nat} {us : List Int} {ms : List Bool} {f : Bool} {S : Nat → Prop} (h : EBr B W w px cx py cy us ms f) (hk : Keeps S w w') (hS : ∀ k, k < w.heap.size → ¬ S k) : EBr B W w' px cx py cy us ms f :=
  h.below ⟨hk.os, hk.tape, hk.output, hk.size, fun k hlt => hk.block k hlt (hS k hlt)⟩
theorem row_keep1 {B z : Nat} {w w' : World} {s : RdM} {v v1 : Value} {n : Nat} {xs : List Value} (h : w.ownsRow B 27 1 v1 n xs) (hR : RdBox w z s v) (hk : Keeps (fun k => k = z) w w') : w'.ownsRow B 27 1 v1 n xs := hk.row h (fun g hg e => RdBox.row hR h (by decide) hg e.symm)
theorem kset (w : World) (z i : Nat) (u : Value) : Keeps (fun k => k = z) w (w.setCell ⟨z, i, none⟩ u) := Keeps.setCell w (S := fun k => k = z) (p := ⟨z, i, none⟩) rfl u

end Go.Proofs.Ytaljpggajpoalaa
/-
  SeqStays, its words: a memory and a read in variables.
  Conditions: none.
-/
namespace Go.Proofs.Ytaljpggajpoalaa
open Go.RowKit Go.Shelf

theorem own_slice {X : World} {B : Nat} {E : TypeId} {s n : Nat} {v : Value} {xs : List Value} (h : X.ownsRow B E s v n xs) : ∃ p c, v = .slice p n c := by
  rcases h.2 with ⟨rfl, rfl⟩ | ⟨g, cap, cur, rfl, _⟩
  · exact ⟨_, _, rfl⟩
  · exact ⟨_, _, rfl⟩
theorem stepR_over (ms : List Bool) (us : List Int) (f : Bool) (s : RdM) (vs : List Int) (h : 4 ≤ s.p) : stepR ms us f s vs = ((us, f), s, vs) := by unfold stepR; rw [if_pos h]
theorem stepR_shape (ms : List Bool) (us : List Int) (f : Bool) (s : RdM) (vs : List Int) (h4 : ¬ 4 ≤ s.p) (hr : rightRB s vs.length = true) (hw : WRange us) (hb : 0 ≤ s.b ∧ s.b ≤ 18446744073709551615) :
    (((stepR ms us f s vs).1.2 = true ∧ (stepR ms us f s vs).2.1.p = 5) ∨ ((stepR ms us f s vs).1.2 = f ∧ (stepR ms us f s vs).2.1.p ≠ 5)) ∧ (s.t ≤ (stepR ms us f s vs).2.1.t ∧ (stepR ms us f s vs).2.1.t ≤ s.t + 1) ∧ (0 ≤ (stepR ms us f s vs).2.1.b ∧ (stepR ms us f s vs).2.1.b ≤ 18446744073709551615) := by
  obtain ⟨⟨hm0, hm1⟩, -, ht, hF⟩ := rightRB_parts hr
  obtain ⟨-, -, -, hp⟩ := fits_le hm0 hF
  obtain ⟨⟨us', u', h, d⟩, hq⟩ : ∃ x, x = accM us ms f 1 (if s.p = 2 then s.f + (vs.length : Int) else s.a) 0 0 := ⟨_, rfl⟩
  have hrg := acc_range hw hq.symm
  have hd : (d = false ∧ u' = true) ∨ (d = true ∧ u' = f) := by
    have e : (accM us ms f 1 (if s.p = 2 then s.f + (vs.length : Int) else s.a) 0 0) = (us', u', h, d) := hq.symm
    cases hl : liveAt us ms (if s.p = 2 then s.f + (vs.length : Int) else s.a) with
    | true => rw [accM_load hl] at e; injection e with _ e; injection e with e1 e; injection e with _ e2; exact .inr ⟨e2.symm, e1.symm⟩
    | false => rw [accM_out hl] at e; injection e with _ e; injection e with e1 e; injection e with _ e2; exact .inl ⟨e2.symm, e1.symm⟩
  unfold stepR
  rw [if_neg h4, ← hq]
  dsimp only
  have hph : ∀ (m : Int) (n : Nat), phR m n ≠ 5 := by intro m n; unfold phR; split <;> decide
  rcases hd with ⟨rfl, rfl⟩ | ⟨rfl, rfl⟩
  · rw [if_pos rfl]
    exact ⟨.inl ⟨rfl, rfl⟩, ⟨Int.le_refl _, by dsimp only; omega⟩, hb⟩
  · rw [if_neg (by decide)]
    split
    · split
      · exact ⟨.inr ⟨rfl, hph _ _⟩, ⟨Int.le_refl _, by dsimp only; omega⟩, hrg⟩
      · exact ⟨.inr ⟨rfl, by dsimp only; omega⟩, ⟨Int.le_refl _, by dsimp only; omega⟩, hb⟩
    · split
      · exact ⟨.inr ⟨rfl, hph _ _⟩, ⟨Int.le_refl _, by dsimp only; omega⟩, hb⟩
      · split
        · exact ⟨.inr ⟨rfl, by dsimp only; omega⟩, ⟨Int.le_refl _, by dsimp only; omega⟩, hb⟩
        · refine ⟨.inr ⟨rfl, by dsimp only; omega⟩, ⟨?_, ?_⟩, hb⟩ <;> dsimp only <;> split <;> omega

theorem rem20 (steps : Int) : ∃ N : Nat, wrap64 ((IntKind.u64.wrap steps).tmod 20) = (N : Int) ∧ N ≤ 19 := by
  have h := u64wrap_range steps
  obtain ⟨x, hx⟩ := Int.eq_ofNat_of_zero_le h.1
  refine ⟨x % 20, ?_, by omega⟩
  rw [hx]
  have e : ((x : Int)).tmod 20 = ((x % 20 : Nat) : Int) := rfl
  rw [e]
  unfold wrap64
  omega
/-- A memory and a read in two variables. -/
def StV (B : Nat) (w : World) (zm zr : Nat) (us : List Int) (ms : List Bool) (f : Bool) (s : RdM) (vs : List Int) : Prop :=
  ∃ px cx py cy pv cv, MBox w zm (.slice px us.length cx) (.slice py ms.length cy) f ∧ RdBox w zr s (.slice pv vs.length cv) ∧ w.ownsRow B 27 1 (.slice px us.length cx) us.length (us.map (Value.int .u64)) ∧ w.ownsRow B 4 1 (.slice py ms.length cy) ms.length (ms.map Value.bool) ∧ w.ownsRow B 27 1 (.slice pv vs.length cv) vs.length (vs.map (Value.int .u64))
theorem StV.below {B : Nat} {w w' : World} {zm zr : Nat} {us : List Int} {ms : List Bool} {f : Bool} {s : RdM} {vs : List Int} (h : StV B w zm zr us ms f s vs) (hb : Below w.heap.size w w') : StV B w' zm zr us ms f s vs := by
  obtain ⟨px, cx, py, cy, pv, cv, h1, h2, h3, h4, h5⟩ := h
  exact ⟨px, cx, py, cy, pv, cv, h1.below hb, h2.below hb, owns_below h3 hb, owns_below h4 hb, owns_below h5 hb⟩
theorem StV.mono {B B' : Nat} {w : World} {zm zr : Nat} {us : List Int} {ms : List Bool} {f : Bool} {s : RdM} {vs : List Int} (h : StV B w zm zr us ms f s vs) (hB : B' ≤ B) : StV B' w zm zr us ms f s vs := by
  obtain ⟨px, cx, py, cy, pv, cv, h1, h2, h3, h4, h5⟩ := h
  exact ⟨px, cx, py, cy, pv, cv, h1, h2, h3.mono hB, h4.mono hB, h5.mono hB⟩

end Go.Proofs.Ytaljpggajpoalaa
/-
  StepRead, of the document's answers of layer 6.
  Conditions: the memory and the read may be, and lie in rows of their own.
-/
namespace Go.Proofs.Ytaljpggajpoalaa
open Go.RowKit Go.Shelf
attribute [local go_sem] Oper.semAt_some

/-- What the reference's StepRead answers. -/
def ESR (B : Nat) (ms : List Bool) (r : (List Int × Bool) × RdM × List Int) (e : Ending) (w' : World) : Prop :=
  ∃ px cx py cy p c, e = .returned (.tuple #[.agg #[.slice px r.1.1.length cx, .slice py ms.length cy, .bool r.1.2], rdV r.2.1 (.slice p r.2.2.length c)]) ∧
    w'.ownsRow B 27 1 (.slice px r.1.1.length cx) r.1.1.length (r.1.1.map (Value.int .u64)) ∧ w'.ownsRow B 4 1 (.slice py ms.length cy) ms.length (ms.map Value.bool) ∧ w'.ownsRow B 27 1 (.slice p r.2.2.length c) r.2.2.length (r.2.2.map (Value.int .u64))

set_option maxRecDepth 100000 in
set_option maxHeartbeats 8000000 in
theorem estepR_c (B : Nat) (x y : Value) (us : List Int) (ms : List Bool) (f : Bool) (s : RdM) (q : Option Addr) (c : Nat) (vs : List Int) (W : World) (h0 : W.ownsRow B 27 1 x us.length (us.map (Value.int .u64))) (h1 : W.ownsRow B 4 1 y ms.length (ms.map Value.bool)) (hB : B ≤ W.heap.size) (hr : rightB us ms = true) (hw : WRange us)
    (hv : W.ownsRow B 27 1 (.slice q vs.length c) vs.length (vs.map (Value.int .u64))) (hR : rightRB s vs.length = true) :
    Calls Try.prog 24 #[.agg #[x, y, .bool f], rdV s (.slice q vs.length c)] W fun e w' => ESR B ms (stepR ms us f s vs) e w' ∧ Below W.heap.size W w' := by
  obtain ⟨px, cx, rfl⟩ := own_slice h0
  obtain ⟨py, cy, rfl⟩ := own_slice h1
  obtain ⟨a, g, m, ph, b, t0⟩ := s
  obtain ⟨fin, hfin⟩ : ∃ x, x = stepR ms us f ⟨a, g, m, ph, b, t0⟩ vs := ⟨_, rfl⟩
  rw [← hfin]
  have HLD := Lib.hid (fun (Z : World) (hb : Below W.heap.size W Z) (ad : Int) => eload B (.slice px us.length cx) (.slice py ms.length cy) us ms f ad Z (owns_below h0 hb) (owns_below h1 hb) (Nat.le_trans hB hb.size) hr)
  have HRP := Lib.hid (show (0 ≤ m ∧ m ≤ 16) ∧ (0 ≤ t0 ∧ t0 ≤ 1073741824) ∧ ((vs.length : Int) ≤ m) ∧ (ph = 0 ∨ ph = 2 ∨ ph = 3 ∨ ph = 4 ∨ ph = 5) ∧ (0 ≤ g ∧ g ≤ 4096) from by
    have h1 := rightRB_parts hR
    have h2 := fits_le h1.1.1 h1.2.2.2
    refine ⟨h1.1, h1.2.2.1, h2.1, h2.2.2.2, ?_⟩
    unfold rightRB apartB at hR
    simp only [Bool.and_eq_true, decide_eq_true_eq] at hR
    omega)
  have HFIN := Lib.hid hfin
  have HBW := Lib.hid hB
  have HWR := Lib.hid hw
  unfold rdV
  dsimp only
  obtain ⟨w0, hw0⟩ : ∃ X : World, X = (((W.alloc (.cells #[.slice px us.length cx, .slice py ms.length cy, .bool f] 44)).alloc (.cells #[.int .i64 a, .int .i64 g, .int .i64 m, .int .i64 ph, .int .u64 b, .slice q vs.length c, .int .i64 t0] 29)).alloc (.cells #[.slice none 0 0, .slice none 0 0, .bool false] 44)).alloc (.cells #[.int .i64 0, .int .i64 0, .int .i64 0, .int .i64 0, .int .u64 0, .slice none 0 0, .int .i64 0] 29) := ⟨_, rfl⟩
  have hb0 : Below W.heap.size W w0 := by rw [hw0]; exact below4 W _ _ _ _
  have e1 := World.alloc_heap_new (W.alloc (.cells #[.slice px us.length cx, .slice py ms.length cy, .bool f] 44)) (.cells #[.int .i64 a, .int .i64 g, .int .i64 m, .int .i64 ph, .int .u64 b, .slice q vs.length c, .int .i64 t0] 29)
  have e2 := World.alloc_heap_new ((W.alloc (.cells #[.slice px us.length cx, .slice py ms.length cy, .bool f] 44)).alloc (.cells #[.int .i64 a, .int .i64 g, .int .i64 m, .int .i64 ph, .int .u64 b, .slice q vs.length c, .int .i64 t0] 29)) (.cells #[.slice none 0 0, .slice none 0 0, .bool false] 44)
  have e3 := World.alloc_heap_new (((W.alloc (.cells #[.slice px us.length cx, .slice py ms.length cy, .bool f] 44)).alloc (.cells #[.int .i64 a, .int .i64 g, .int .i64 m, .int .i64 ph, .int .u64 b, .slice q vs.length c, .int .i64 t0] 29)).alloc (.cells #[.slice none 0 0, .slice none 0 0, .bool false] 44)) (.cells #[.int .i64 0, .int .i64 0, .int .i64 0, .int .i64 0, .int .u64 0, .slice none 0 0, .int .i64 0] 29)
  simp only [World.size_alloc] at e1 e2 e3
  have HE := Lib.hid (show EBr B W w0 px cx py cy us ms f ∧ RdBox w0 (W.heap.size + 1) ⟨a, g, m, ph, b, t0⟩ (.slice q vs.length c) ∧ w0.ownsRow B 27 1 (.slice q vs.length c) vs.length (vs.map (Value.int .u64)) from
    ⟨⟨by rw [hw0]; exact (((MBox.new W _ _ f).alloc _).alloc _).alloc _, by
        have h : MBox _ (W.heap.size + 2) (.slice none 0 0) (.slice none 0 0) false := e2
        rw [hw0]; exact h.alloc _, by rw [hw0]; exact e3, owns_below h0 hb0, owns_below h1 hb0, hb0⟩, by
      have h : RdBox _ (W.heap.size + 1) ⟨a, g, m, ph, b, t0⟩ (.slice q vs.length c) := e1
      rw [hw0]
      exact (h.below (below1 _ _)).below (below1 _ _), owns_below hv hb0⟩)
  have HW0 := Lib.hid hw0
  clear h0 h1 hv hR hr hw hB hw0 hb0 e1 e2 e3 hfin
  go_enter Try.func24, Try.ntmps24
  go_upto_region 1 with fail
  rw [← HW0.out]
  clear HW0
  obtain ⟨r0, r1, r2, r3, r4, r5, r6⟩ := HE.out.2.1.cells
  dsimp only at r0 r1 r2 r3 r4 r6
  by_cases h4 : 4 ≤ ph
  · go_upto_region 2 with fail
    clear r0 r1 r2 r3 r4 r5 r6
    refine wpTwo_begin (T := fun w' => MBox w' W.heap.size (.slice px us.length cx) (.slice py ms.length cy) f ∧ RdBox w' (W.heap.size + 1) ⟨a, g, m, ph, b, t0⟩ (.slice q vs.length c)) (S := fun _ => True) (late := fun _ => false) (by kernel_rfl) ?_
    obtain ⟨X0, hX0⟩ : ∃ X : World, X = w0.drew := ⟨_, rfl⟩
    rw [← hX0]
    have hb : Below w0.heap.size w0 X0 := by rw [hX0]; exact (Below.refl _ _).drew
    have hE0 := HE.out.1.below hb
    have hT0 := And.intro hE0.1 (HE.out.2.1.below hb)
    have HE0 := Lib.hid hE0
    have HV0 := Lib.hid (owns_below HE.out.2.2 hb)
    clear hX0 hb hE0 HE
    refine wpTwo_takeT (i := 0) (v := .agg #[.slice px us.length cx, .slice py ms.length cy, .bool f]) rfl (by kernel_rfl) (by kernel_rfl) (by kernel_rfl) (fun _ _ _ h => h) ⟨by rfl, ?_⟩ hT0 ?_
    · rintro w hTw
      obtain ⟨⟨t1, t2, t3⟩, _⟩ := mbox_cells hTw.1
      go_simp
    (try simp only [Act.put, List.getElem_toArray, List.getElem_cons_zero, List.setIfInBounds_toArray, List.set_cons_succ, List.set_cons_zero])
    refine wpTwo_takeT (i := 1) (v := .agg #[.int .i64 a, .int .i64 g, .int .i64 m, .int .i64 ph, .int .u64 b, .slice q vs.length c, .int .i64 t0]) rfl (by kernel_rfl) (by kernel_rfl) (by kernel_rfl) (fun _ _ _ h => h) ⟨by rfl, ?_⟩ hT0 ?_
    · rintro w hTw
      obtain ⟨t1, t2, t3, t4, t5, t6, t7⟩ := hTw.2.cells
      go_simp
    (try simp only [Act.put, List.getElem_toArray, List.getElem_cons_succ, List.getElem_cons_zero, List.setIfInBounds_toArray, List.set_cons_succ, List.set_cons_zero])
    refine wpTwo_ready (rs := [2]) (by kernel_rfl) (by simp) ?_
    refine (AllTwo.cons rfl (fun K hK => ?_) AllTwo.nil)
    rw [show W.heap.size + 1 + 1 = W.heap.size + 2 from rfl]
    obtain ⟨⟨d0, d1, d2⟩, e0, e1, e2⟩ := mbox_cells HE0.out.2.1
    obtain ⟨Xa, hXa⟩ : ∃ X : World, X = ((X0.setCell ⟨W.heap.size + 2, 0, none⟩ (.slice px us.length cx)).setCell ⟨W.heap.size + 2, 1, none⟩ (.slice py ms.length cy)).setCell ⟨W.heap.size + 2, 2, none⟩ (.bool f) := ⟨_, rfl⟩
    have hka : Keeps (fun q => q = W.heap.size + 2) X0 Xa := by rw [hXa]; exact ((kset X0 (W.heap.size + 2) 0 _).trans (kset _ (W.heap.size + 2) 1 _)).trans (kset _ (W.heap.size + 2) 2 _)
    have hTa := And.intro (hT0.1.keeps hka (by omega)) (show RdBox Xa (W.heap.size + 1) ⟨a, g, m, ph, b, t0⟩ (.slice q vs.length c) from (hka.block (W.heap.size + 1) hT0.2.lt (by omega)).trans hT0.2)
    have HAa := Lib.hid (show MBox Xa (W.heap.size + 2) (.slice px us.length cx) (.slice py ms.length cy) f by rw [hXa]; exact HE0.out.2.1.set _ _ _)
    have HGa := Lib.hid (show RdBox Xa (W.heap.size + 3) ⟨0, 0, 0, 0, 0, 0⟩ (.slice none 0 0) from (hka.block (W.heap.size + 3) HE0.out.2.2.1.lt (by omega)).trans HE0.out.2.2.1)
    have HOa := Lib.hid (And.intro (hka.row HE0.out.2.2.2.1 (fun g hg e => HE0.out.2.1.row HE0.out.2.2.2.1 (by decide) hg e.symm)) (And.intro (hka.row HE0.out.2.2.2.2.1 (fun g hg e => HE0.out.2.1.row HE0.out.2.2.2.2.1 (by decide) hg e.symm)) (hka.row HV0.out (fun g hg e => HE0.out.2.1.row HV0.out (by decide) hg e.symm))))
    have HBa := Lib.hid (HE0.out.2.2.2.2.2.trans (hka.below HE0.out.2.2.2.2.2.size (fun q hq => by omega)))
    go_simp
    rw [← hXa]
    refine hK.out _ _ ⟨hTa, fun _ _ => trivial⟩ ?_
    clear hK K d0 d1 d2 e0 e1 e2 hXa hka HE0 HV0 hT0
    (try simp only [Act.put, List.getElem_toArray, List.getElem_cons_succ, List.getElem_cons_zero, List.setIfInBounds_toArray, List.set_cons_succ, List.set_cons_zero])
    refine wpTwo_ready (rs := [3]) (by kernel_rfl) (by simp) ?_
    refine (AllTwo.cons rfl (fun K hK => ?_) AllTwo.nil)
    rw [show W.heap.size + 1 + 1 + 1 = W.heap.size + 3 from rfl]
    obtain ⟨d0, d1, d2, d3, d4, d5, d6⟩ := HGa.out.cells
    dsimp only at d0 d1 d2 d3 d4 d6
    have v0 := HGa.out.marks 0
    have v1 := HGa.out.marks 1
    have v2 := HGa.out.marks 2
    have v3 := HGa.out.marks 3
    have v4 := HGa.out.marks 4
    have v5 := HGa.out.marks 5
    have v6 := HGa.out.marks 6
    obtain ⟨Xb, hXb⟩ : ∃ X : World, X = ((((((Xa.setCell ⟨W.heap.size + 3, 0, none⟩ (.int .i64 a)).setCell ⟨W.heap.size + 3, 1, none⟩ (.int .i64 g)).setCell ⟨W.heap.size + 3, 2, none⟩ (.int .i64 m)).setCell ⟨W.heap.size + 3, 3, none⟩ (.int .i64 ph)).setCell ⟨W.heap.size + 3, 4, none⟩ (.int .u64 b)).setCell ⟨W.heap.size + 3, 5, none⟩ (.slice q vs.length c)).setCell ⟨W.heap.size + 3, 6, none⟩ (.int .i64 t0) := ⟨_, rfl⟩
    have hkb : Keeps (fun q => q = W.heap.size + 3) Xa Xb := by rw [hXb]; exact RdBox.putK Xa (W.heap.size + 3) ⟨a, g, m, ph, b, t0⟩ (.slice q vs.length c)
    have hTb := And.intro (hTa.1.keeps hkb (by omega)) (show RdBox Xb (W.heap.size + 1) ⟨a, g, m, ph, b, t0⟩ (.slice q vs.length c) from (hkb.block (W.heap.size + 1) hTa.2.lt (by omega)).trans hTa.2)
    have HAb := Lib.hid (HAa.out.keeps hkb (by omega))
    have HGb := Lib.hid (show RdBox Xb (W.heap.size + 3) ⟨a, g, m, ph, b, t0⟩ (.slice q vs.length c) by rw [hXb]; exact HGa.out.put ⟨a, g, m, ph, b, t0⟩ (.slice q vs.length c))
    have HOb := Lib.hid (And.intro (hkb.row HOa.out.1 (fun g hg e => RdBox.row HGa.out HOa.out.1 (by decide) hg e.symm)) (And.intro (hkb.row HOa.out.2.1 (fun g hg e => RdBox.row HGa.out HOa.out.2.1 (by decide) hg e.symm)) (hkb.row HOa.out.2.2 (fun g hg e => RdBox.row HGa.out HOa.out.2.2 (by decide) hg e.symm))))
    have HBb := Lib.hid (HBa.out.trans (hkb.below HBa.out.size (fun q hq => by omega)))
    go_simp
    rw [← hXb]
    refine hK.out _ _ ⟨hTb, fun _ _ => trivial⟩ ?_
    clear hK K d0 d1 d2 d3 d4 d5 d6 v0 v1 v2 v3 v4 v5 v6 hXb hkb hTa hTb HAa HGa HOa HBa
    (try simp only [Act.put, List.getElem_toArray, List.getElem_cons_succ, List.getElem_cons_zero, List.setIfInBounds_toArray, List.set_cons_succ, List.set_cons_zero])
    refine wpTwo_end (by kernel_rfl) ?_ _
    go_wp2
    try simp only [Exit.jump]
    obtain ⟨⟨y0, y1, y2⟩, -, -, -⟩ := mbox_cells HAb.out
    obtain ⟨x0, x1, x2, x3, x4, x5, x6⟩ := HGb.out.cells
    dsimp only at x0 x1 x2 x3 x4 x6
    refine bodyPost_ret (v := .tuple #[.agg #[.slice px us.length cx, .slice py ms.length cy, .bool f], rdV ⟨a, g, m, ph, b, t0⟩ (.slice q vs.length c)]) (by simp [results, Try.results24, go_sem, y0, y1, y2, x0, x1, x2, x3, x4, x5, x6, rdV]) rfl ?_
    have hf := stepR_over ms us f ⟨a, g, m, ph, b, t0⟩ vs h4
    rw [← HFIN.out] at hf
    subst hf
    exact ⟨⟨px, cx, py, cy, q, c, rfl, HOb.out⟩, HBb.out⟩
  · obtain ⟨hg0, hg1⟩ := HRP.out.2.2.2.2
    have hvl : (vs.length : Int) ≤ 16 := by have h1 := HRP.out.2.2.1; have h2 := HRP.out.1.2; omega
    obtain ⟨nv, hnv⟩ : ∃ n, n = vs.length := ⟨_, rfl⟩
    obtain ⟨ad, had⟩ : ∃ ad : Int, ad = if ph = 2 then g + (vs.length : Int) else a := ⟨_, rfl⟩
    have HAD := Lib.hid had
    clear hnv nv had
    go_upto_if 18 with fail
    go_cut [6] (fun s6 wc => s6 = .int .i64 ad ∧ wc = w0)
    case first =>
      by_cases h2 : ph = 2
      · subst h2
        have e : ad = g + (vs.length : Int) := by rw [HAD.out]; exact if_pos rfl
        go_wp2
        go_meet
        exact ⟨by rw [e], rfl⟩
      · have e : ad = a := by rw [HAD.out]; exact if_neg h2
        have h2b : (ph == 2) = false := by rw [beq_eq_false_iff_ne]; exact h2
        go_wp2
        go_meet
        exact ⟨by rw [e], rfl⟩
    case rest =>
      obtain ⟨rfl, hwc⟩ := hcut
      subst hwc
      clear r0 r1 r2 r3 r4 r5 r6
      obtain ⟨⟨us', f', h, d⟩, hq⟩ : ∃ x, x = accM us ms f 1 ad 0 0 := ⟨_, rfl⟩
      have hus : us' = us := by have := accM_keep us ms f ad 0 0; rw [← hq] at this; exact this
      have hrg := acc_range HWR.out hq.symm
      subst us'
      have HLD1 := Lib.hid (show Calls Try.prog 50 #[.agg #[.slice px us.length cx, .slice py ms.length cy, .bool f], .int .i64 ad] wc fun e w' => LoadRes B ms (us, f', h, d) e w' ∧ Below wc.heap.size wc w' from by rw [hq]; exact HLD.out wc HE.out.1.2.2.2.2.2 ad)
      have HQ := Lib.hid (show fin = ((us, f'), (if d = false then ((⟨a, g, m, 5, b, t0⟩ : RdM), vs) else if ph = 0 then (if h % 2 = 0 then (⟨a, g, m, phR m 0, h, t0⟩, []) else (⟨a, g, m, ph, b, t0⟩, vs)) else if ph = 2 then (⟨a, g, m, phR m (vs.length + 1), b, t0⟩, vs ++ [h]) else if h = b then (⟨a, g, m, 4, b, t0⟩, vs) else (⟨a, g, m, 0, b, if t0 < 1073741824 then t0 + 1 else t0⟩, vs))) from by
        rw [HFIN.out]
        unfold stepR
        rw [if_neg h4]
        dsimp only
        rw [← HAD.out, ← hq])
      clear hq HFIN HLD HAD hg0 hg1 hvl
      obtain ⟨⟨m0, m1, m2⟩, -⟩ := mbox_cells HE.out.1.1
      go_wp2_with fail
      refine HLD1.out.mono ?_
      rintro e w1 ⟨⟨x', y', rfl, hx, hy⟩, hb1⟩
      dsimp only at hx hy
      obtain ⟨px', cx', rfl⟩ := own_slice hx
      obtain ⟨py', cy', rfl⟩ := own_slice hy
      have hE1 := HE.out.1.below hb1
      have hR1 := HE.out.2.1.below hb1
      have hV1 := owns_below HE.out.2.2 hb1
      obtain ⟨⟨m0', m1', m2'⟩, m3, m4, m5⟩ := mbox_cells hE1.1
      obtain ⟨w2, hw2⟩ : ∃ X : World, X = ((w1.setCell ⟨W.heap.size, 0, none⟩ (.slice px' us.length cx')).setCell ⟨W.heap.size, 1, none⟩ (.slice py' ms.length cy')).setCell ⟨W.heap.size, 2, none⟩ (.bool f') := ⟨_, rfl⟩
      have hk2 : Keeps (fun k => k = W.heap.size) w1 w2 := by rw [hw2]; exact ((kset w1 W.heap.size 0 _).trans (kset _ W.heap.size 1 _)).trans (kset _ W.heap.size 2 _)
      have HE2 := Lib.hid (show EBr B W w2 px' cx' py' cy' us ms f' ∧ RdBox w2 (W.heap.size + 1) ⟨a, g, m, ph, b, t0⟩ (.slice q vs.length c) ∧ w2.ownsRow B 27 1 (.slice q vs.length c) vs.length (vs.map (Value.int .u64)) from
        ⟨⟨by rw [hw2]; exact hE1.1.set _ _ _, hE1.2.1.keeps hk2 (by omega), (hk2.block (W.heap.size + 3) hE1.2.2.1.lt (by omega)).trans hE1.2.2.1, hk2.row hx (fun g hg e => hE1.1.row hx (by decide) hg e.symm), hk2.row hy (fun g hg e => hE1.1.row hy (by decide) hg e.symm), hE1.2.2.2.2.2.trans (hk2.below hE1.2.2.2.2.2.size (fun k e => by omega))⟩,
         (hk2.block (W.heap.size + 1) hR1.lt (by omega)).trans hR1, hk2.row hV1 (fun g hg e => hE1.1.row hV1 (by decide) hg e.symm)⟩)
      have HW2 := Lib.hid hw2
      clear hw2 hk2 hE1 hR1 hV1 hx hy hb1 HLD1 HE m0 m1 m2
      go_upto_block 0 with fail
      rw [← HW2.out]
      clear HW2 m0' m1' m2' m3 m4 m5
      obtain ⟨fu, ⟨a2, g2, mm2, p2, b2, t2⟩, vs2⟩ := fin
      go_cut [] (fun wc => ∃ (p5 : Option Addr) (c5 : Nat), Hid (EBr B W wc px' cx' py' cy' us ms f' ∧ RdBox wc (W.heap.size + 1) ⟨a2, g2, mm2, p2, b2, t2⟩ (.slice p5 vs2.length c5) ∧ wc.ownsRow B 27 1 (.slice p5 vs2.length c5) vs2.length (vs2.map (Value.int .u64))))
      case first =>
        obtain ⟨r0, r1, r2, r3, r4, r5, r6⟩ := HE2.out.2.1.cells
        have v3 := HE2.out.2.1.marks 3
        have v4 := HE2.out.2.1.marks 4
        have v5 := HE2.out.2.1.marks 5
        have v6 := HE2.out.2.1.marks 6
        dsimp only at r0 r1 r2 r3 r4 r6
        have hQ := HQ.out
        clear HQ
        cases d with
        | false =>
          rw [if_pos rfl] at hQ
          injection hQ with e1 e2
          injection e2 with e2 e3
          injection e2 with e4 e5 e6 e7 e8 e9
          subst a2 g2 mm2 p2 b2 t2 vs2
          clear e1
          go_wp2
          go_meet
          exact ⟨q, c, Lib.hid ⟨HE2.out.1.keeps HE2.out.2.1 (kset w2 _ 3 _), HE2.out.2.1.setP 5, row_keep1 HE2.out.2.2 HE2.out.2.1 (kset w2 _ 3 _)⟩⟩
        | true =>
          rw [if_neg (by decide)] at hQ
          by_cases hp0 : ph = 0
          · subst hp0
            rw [if_pos rfl] at hQ
            by_cases he : h % 2 = 0
            · rw [if_pos he] at hQ
              injection hQ with e1 e2
              injection e2 with e2 e3
              injection e2 with e4 e5 e6 e7 e8 e9
              have heb : (h % 2 == 0) = true := by rw [he]; rfl
              by_cases hm0 : m = 0
              · have e7' : p2 = 3 := by rw [e7, hm0]; rfl
                subst hm0
                subst a2 g2 mm2 b2 t2 vs2
                subst e7'
                clear e1 e7
                go_wp2
                go_meet
                exact ⟨none, 0, Lib.hid ⟨HE2.out.1.keeps HE2.out.2.1 (((kset w2 _ 4 _).trans (kset _ _ 5 _)).trans (kset _ _ 3 _) |>.trans (kset _ _ 3 _)), (((HE2.out.2.1.setB h).setV (.slice none 0 0)).setP 2).setP 3, World.ownsRow_nil _ _ _ _⟩⟩
              · have hm0b : (m == 0) = false := by rw [beq_eq_false_iff_ne]; exact hm0
                have e7' : p2 = 2 := by rw [e7]; unfold phR; exact if_neg (fun e => hm0 e.symm)
                subst a2 g2 mm2 b2 t2 vs2
                subst e7'
                clear e1 e7
                go_wp2
                go_meet
                exact ⟨none, 0, Lib.hid ⟨HE2.out.1.keeps HE2.out.2.1 (((kset w2 _ 4 _).trans (kset _ _ 5 _)).trans (kset _ _ 3 _)), ((HE2.out.2.1.setB h).setV (.slice none 0 0)).setP 2, World.ownsRow_nil _ _ _ _⟩⟩
            · rw [if_neg he] at hQ
              injection hQ with e1 e2
              injection e2 with e2 e3
              injection e2 with e4 e5 e6 e7 e8 e9
              have heb : (h % 2 == 0) = false := by rw [beq_eq_false_iff_ne]; exact he
              subst a2 g2 mm2 p2 b2 t2 vs2
              clear e1
              go_wp2
              go_meet
              exact ⟨q, c, HE2⟩
          · rw [if_neg hp0] at hQ
            have hp0b : (ph == 0) = false := by rw [beq_eq_false_iff_ne]; exact hp0
            by_cases hp2 : ph = 2
            · subst hp2
              rw [if_pos rfl] at hQ
              injection hQ with e1 e2
              injection e2 with e2 e3
              injection e2 with e4 e5 e6 e7 e8 e9
              obtain ⟨i0, hi1, hz0, hz1, hz2⟩ := info_parts eword_info
              have HI0 := Lib.hid (And.intro hi1 (And.intro hz0 (And.intro hz1 hz2)))
              have HL64 := Lib.hid (show vs.length ≤ 16 from by have h1 := HRP.out.2.2.1; have h2 := HRP.out.1.2; omega)
              obtain ⟨wl, hwl⟩ : ∃ X : World, X = w2.alloc (.cells #[] 27) := ⟨_, rfl⟩
              have hbl : Below w2.heap.size w2 wl := by rw [hwl]; exact below1 _ _
              have HOL := Lib.hid (owns_below HE2.out.2.2 hbl)
              have HNW := Lib.hid (show wl.ownsRow w2.heap.size 27 1 (.slice (some ⟨w2.heap.size, 0, none⟩) 0 0) 0 [] by rw [hwl]; exact World.ownsRow_lit (base := w2.heap.size) (e := 27) (size := 1) w2 #[] 0 (Nat.le_refl _) (by decide) rfl)
              have HBL := Lib.hid hbl
              have HWL := Lib.hid hwl
              have hRl := HE2.out.2.1.below hbl
              obtain ⟨q0, q1, q2, q3, q4, q5, q6⟩ := hRl.cells
              dsimp only at q0 q1 q2 q3 q4 q6
              rw [hwl] at q0 q1 q2 q3 q4 q5 q6
              clear hi1 hz0 hz1 hz2 hwl hbl hRl
              have hl2 : vs2.length = vs.length + 1 := by rw [e3]; simp
              by_cases hml : (vs.length : Int) + 1 = m
              · have hmlb : ((vs.length : Int) + 1 == m) = true := by rw [hml]; exact beq_self_eq_true m
                have e7' : p2 = 3 := by rw [e7]; unfold phR; exact if_pos (by omega)
                clear hml e7
                subst a2 g2 mm2 p2 b2 t2
                go_wp2_with (at_builtin; first
                  | (rw [← HWL.out]; go_loud (refine wpList_append_any rfl _ _ 24 rfl w2.heap.size 27 i0 (.int .u64 0) 8 Try.underlying24 HI0.out.1 HI0.out.2.1 HI0.out.2.2.1 HI0.out.2.2.2 rfl (.slice (some ⟨w2.heap.size, 0, none⟩) 0 0) 0 [] rfl HNW.out (.slice q vs.length c) B vs.length (vs.map (Value.int .u64)) rfl HOL.out (by simp [Value.oneCell']) (by have := HL64.out; unfold maxLen; omega) (by have := HL64.out; omega) HBL.out.size ?_; intro v5' w5 hown5 hk5; rw [Nat.zero_add, List.nil_append] at hown5; obtain ⟨p5, c5, rfl⟩ := own_slice hown5; obtain ⟨w6, hw6⟩ : ∃ X : World, X = w5.alloc (.cells #[.int .u64 h] 27) := ⟨_, rfl⟩; have hb5 : Below w2.heap.size w2 w5 := HBL.out.trans (hk5.below HBL.out.size (fun k hk => by injection hk with e; exact Nat.le_of_eq e.symm)); have hb56 : Below w5.heap.size w5 w6 := (by rw [hw6]; exact below1 _ _); have HNL := Lib.hid (show w6.ownsRow w5.heap.size 27 1 (.slice (some ⟨w5.heap.size, 0, none⟩) 1 1) 1 [.int .u64 h] from (by rw [hw6]; exact World.ownsRow_lit (base := w5.heap.size) (e := 27) (size := 1) w5 #[.int .u64 h] 1 (Nat.le_refl _) (by decide) rfl)); have HO6 := Lib.hid (owns_below hown5 hb56); have HB6 := Lib.hid (hb5.trans (hb56.mono hb5.size)); have HR6 := Lib.hid (HE2.out.2.1.below (hb5.trans (hb56.mono hb5.size))); have HW6 := Lib.hid hw6; clear hown5 hk5 hb5 hb56 hw6 HWL r0 r1 r2 r3 r4 r5 r6 v3 v4 v5 v6 q0 q1 q2 q3 q4 q5 q6))
                  | (rw [← HW6.out]; go_loud (refine wpList_append_any rfl _ _ 24 rfl w2.heap.size 27 i0 (.int .u64 0) 8 Try.underlying24 HI0.out.1 HI0.out.2.1 HI0.out.2.2.1 HI0.out.2.2.2 rfl (.slice p5 vs.length c5) vs.length (vs.map (Value.int .u64)) rfl HO6.out (.slice (some ⟨w5.heap.size, 0, none⟩) 1 1) w5.heap.size 1 [.int .u64 h] rfl HNL.out (by simp [Value.oneCell']) (by have := HL64.out; unfold maxLen; omega) (by have := HL64.out; omega) HB6.out.size ?_; intro v7' w7 hown7 hk7; obtain ⟨p7, c7, rfl⟩ := own_slice hown7; have hb7 : Below w2.heap.size w2 w7 := HB6.out.trans (hk7.below HB6.out.size (fun k hk => (HO6.out.lt k hk.symm).1)); have HO7 := Lib.hid hown7; have HB7 := Lib.hid hb7; have hR7 := HE2.out.2.1.below hb7; obtain ⟨r0, r1, r2, r3, r4, r5, r6⟩ := hR7.cells; dsimp only at r0 r1 r2 r3 r4 r6; have v3 := hR7.marks 3; have v5 := hR7.marks 5; have HR7 := Lib.hid hR7; clear hown7 hk7 hb7 hR7 HW6 HO6 HB6 HNL HOL HNW HBL HR6)))
                go_meet
                refine ⟨p7, c7, Lib.hid ⟨(HE2.out.1.below' HB7.out).keeps HR7.out ((kset w7 _ 5 _).trans (kset _ _ 3 _)), ?_, ?_⟩⟩
                · rw [hl2]; exact (HR7.out.setV (.slice p7 (vs.length + 1) c7)).setP 3
                · rw [hl2, e3, List.map_append]; exact row_keep1 (HO7.out.mono (Nat.le_trans HBW.out HE2.out.1.2.2.2.2.2.size)) HR7.out ((kset w7 _ 5 _).trans (kset _ _ 3 _))
              · have hmlb : ((vs.length : Int) + 1 == m) = false := by rw [beq_eq_false_iff_ne]; exact hml
                have e7' : p2 = 2 := by rw [e7]; unfold phR; exact if_neg (by omega)
                clear hml e7
                subst a2 g2 mm2 p2 b2 t2
                go_wp2_with (at_builtin; first
                  | (rw [← HWL.out]; go_loud (refine wpList_append_any rfl _ _ 24 rfl w2.heap.size 27 i0 (.int .u64 0) 8 Try.underlying24 HI0.out.1 HI0.out.2.1 HI0.out.2.2.1 HI0.out.2.2.2 rfl (.slice (some ⟨w2.heap.size, 0, none⟩) 0 0) 0 [] rfl HNW.out (.slice q vs.length c) B vs.length (vs.map (Value.int .u64)) rfl HOL.out (by simp [Value.oneCell']) (by have := HL64.out; unfold maxLen; omega) (by have := HL64.out; omega) HBL.out.size ?_; intro v5' w5 hown5 hk5; rw [Nat.zero_add, List.nil_append] at hown5; obtain ⟨p5, c5, rfl⟩ := own_slice hown5; obtain ⟨w6, hw6⟩ : ∃ X : World, X = w5.alloc (.cells #[.int .u64 h] 27) := ⟨_, rfl⟩; have hb5 : Below w2.heap.size w2 w5 := HBL.out.trans (hk5.below HBL.out.size (fun k hk => by injection hk with e; exact Nat.le_of_eq e.symm)); have hb56 : Below w5.heap.size w5 w6 := (by rw [hw6]; exact below1 _ _); have HNL := Lib.hid (show w6.ownsRow w5.heap.size 27 1 (.slice (some ⟨w5.heap.size, 0, none⟩) 1 1) 1 [.int .u64 h] from (by rw [hw6]; exact World.ownsRow_lit (base := w5.heap.size) (e := 27) (size := 1) w5 #[.int .u64 h] 1 (Nat.le_refl _) (by decide) rfl)); have HO6 := Lib.hid (owns_below hown5 hb56); have HB6 := Lib.hid (hb5.trans (hb56.mono hb5.size)); have HR6 := Lib.hid (HE2.out.2.1.below (hb5.trans (hb56.mono hb5.size))); have HW6 := Lib.hid hw6; clear hown5 hk5 hb5 hb56 hw6 HWL r0 r1 r2 r3 r4 r5 r6 v3 v4 v5 v6 q0 q1 q2 q3 q4 q5 q6))
                  | (rw [← HW6.out]; go_loud (refine wpList_append_any rfl _ _ 24 rfl w2.heap.size 27 i0 (.int .u64 0) 8 Try.underlying24 HI0.out.1 HI0.out.2.1 HI0.out.2.2.1 HI0.out.2.2.2 rfl (.slice p5 vs.length c5) vs.length (vs.map (Value.int .u64)) rfl HO6.out (.slice (some ⟨w5.heap.size, 0, none⟩) 1 1) w5.heap.size 1 [.int .u64 h] rfl HNL.out (by simp [Value.oneCell']) (by have := HL64.out; unfold maxLen; omega) (by have := HL64.out; omega) HB6.out.size ?_; intro v7' w7 hown7 hk7; obtain ⟨p7, c7, rfl⟩ := own_slice hown7; have hb7 : Below w2.heap.size w2 w7 := HB6.out.trans (hk7.below HB6.out.size (fun k hk => (HO6.out.lt k hk.symm).1)); have HO7 := Lib.hid hown7; have HB7 := Lib.hid hb7; have hR7 := HE2.out.2.1.below hb7; obtain ⟨r0, r1, r2, r3, r4, r5, r6⟩ := hR7.cells; dsimp only at r0 r1 r2 r3 r4 r6; have v3 := hR7.marks 3; have v5 := hR7.marks 5; have HR7 := Lib.hid hR7; clear hown7 hk7 hb7 hR7 HW6 HO6 HB6 HNL HOL HNW HBL HR6)))
                go_meet
                refine ⟨p7, c7, Lib.hid ⟨(HE2.out.1.below' HB7.out).keeps HR7.out (kset w7 _ 5 _), ?_, ?_⟩⟩
                · rw [hl2]; exact HR7.out.setV (.slice p7 (vs.length + 1) c7)
                · rw [hl2, e3, List.map_append]; exact row_keep1 (HO7.out.mono (Nat.le_trans HBW.out HE2.out.1.2.2.2.2.2.size)) HR7.out (kset w7 _ 5 _)
            · rw [if_neg hp2] at hQ
              have hp3 : ph = 3 := by have h1 := HRP.out.2.2.2.1; omega
              subst hp3
              by_cases hhb : h = b
              · rw [if_pos hhb] at hQ
                injection hQ with e1 e2
                injection e2 with e2 e3
                injection e2 with e4 e5 e6 e7 e8 e9
                have hhbb : (h == b) = true := by rw [hhb]; exact beq_self_eq_true b
                subst hhb
                subst a2 g2 mm2 p2 b2 t2 vs2
                clear e1
                go_wp2
                go_meet
                exact ⟨q, c, Lib.hid ⟨HE2.out.1.keeps HE2.out.2.1 (kset w2 _ 3 _), HE2.out.2.1.setP 4, row_keep1 HE2.out.2.2 HE2.out.2.1 (kset w2 _ 3 _)⟩⟩
              · rw [if_neg hhb] at hQ
                injection hQ with e1 e2
                injection e2 with e2 e3
                injection e2 with e4 e5 e6 e7 e8 e9
                have hhbb : (h == b) = false := by rw [beq_eq_false_iff_ne]; exact hhb
                have ht0 := HRP.out.2.1.1
                have ht1 := HRP.out.2.1.2
                by_cases ht : t0 < 1073741824
                · rw [if_pos ht] at e9
                  subst a2 g2 mm2 p2 b2 t2 vs2
                  clear e1
                  go_wp2
                  go_meet
                  exact ⟨q, c, Lib.hid ⟨HE2.out.1.keeps HE2.out.2.1 ((kset w2 _ 3 _).trans (kset _ _ 6 _)), (HE2.out.2.1.setP 0).setT (t0 + 1), row_keep1 HE2.out.2.2 HE2.out.2.1 ((kset w2 _ 3 _).trans (kset _ _ 6 _))⟩⟩
                · rw [if_neg ht] at e9
                  subst a2 g2 mm2 p2 b2 t2 vs2
                  clear e1
                  go_wp2
                  go_meet
                  exact ⟨q, c, Lib.hid ⟨HE2.out.1.keeps HE2.out.2.1 (kset w2 _ 3 _), HE2.out.2.1.setP 0, row_keep1 HE2.out.2.2 HE2.out.2.1 (kset w2 _ 3 _)⟩⟩
      case rest =>
        obtain ⟨p5, c5, HE⟩ := hcut
        clear HE2
        have hfu : fu = (us, f') := by have h1 := HQ.out; injection h1
        subst hfu
        obtain ⟨w9, hw9⟩ : ∃ X : World, X = wc := ⟨_, rfl⟩
        rw [← hw9] at HE ⊢
        clear hw9 HQ
        go_upto_region 23 with fail
        refine wpTwo_begin (T := fun w' => MBox w' W.heap.size (.slice px' us.length cx') (.slice py' ms.length cy') f' ∧ RdBox w' (W.heap.size + 1) ⟨a2, g2, mm2, p2, b2, t2⟩ (.slice p5 vs2.length c5)) (S := fun _ => True) (late := fun _ => false) (by kernel_rfl) ?_
        obtain ⟨X0, hX0⟩ : ∃ X : World, X = w9.drew := ⟨_, rfl⟩
        rw [← hX0]
        have hb : Below w9.heap.size w9 X0 := by rw [hX0]; exact (Below.refl _ _).drew
        have hE0 := HE.out.1.below hb
        have hT0 := And.intro hE0.1 (HE.out.2.1.below hb)
        have HE0 := Lib.hid hE0
        have HV0 := Lib.hid (owns_below HE.out.2.2 hb)
        clear hX0 hb hE0 HE
        refine wpTwo_takeT (i := 0) (v := .agg #[.slice px' us.length cx', .slice py' ms.length cy', .bool f']) rfl (by kernel_rfl) (by kernel_rfl) (by kernel_rfl) (fun _ _ _ h => h) ⟨by rfl, ?_⟩ hT0 ?_
        · rintro w hTw
          obtain ⟨⟨t1, t2, t3⟩, _⟩ := mbox_cells hTw.1
          go_simp
        (try simp only [Act.put, List.getElem_toArray, List.getElem_cons_zero, List.setIfInBounds_toArray, List.set_cons_succ, List.set_cons_zero])
        refine wpTwo_takeT (i := 1) (v := .agg #[.int .i64 a2, .int .i64 g2, .int .i64 mm2, .int .i64 p2, .int .u64 b2, .slice p5 vs2.length c5, .int .i64 t2]) rfl (by kernel_rfl) (by kernel_rfl) (by kernel_rfl) (fun _ _ _ h => h) ⟨by rfl, ?_⟩ hT0 ?_
        · rintro w hTw
          obtain ⟨t1, t2, t3, t4, t5, t6, t7⟩ := hTw.2.cells
          go_simp
        (try simp only [Act.put, List.getElem_toArray, List.getElem_cons_succ, List.getElem_cons_zero, List.setIfInBounds_toArray, List.set_cons_succ, List.set_cons_zero])
        refine wpTwo_ready (rs := [2]) (by kernel_rfl) (by simp) ?_
        refine (AllTwo.cons rfl (fun K hK => ?_) AllTwo.nil)
        rw [show W.heap.size + 1 + 1 = W.heap.size + 2 from rfl]
        obtain ⟨⟨d0, d1, d2⟩, e0, e1, e2⟩ := mbox_cells HE0.out.2.1
        obtain ⟨Xa, hXa⟩ : ∃ X : World, X = ((X0.setCell ⟨W.heap.size + 2, 0, none⟩ (.slice px' us.length cx')).setCell ⟨W.heap.size + 2, 1, none⟩ (.slice py' ms.length cy')).setCell ⟨W.heap.size + 2, 2, none⟩ (.bool f') := ⟨_, rfl⟩
        have hka : Keeps (fun q => q = W.heap.size + 2) X0 Xa := by rw [hXa]; exact ((kset X0 (W.heap.size + 2) 0 _).trans (kset _ (W.heap.size + 2) 1 _)).trans (kset _ (W.heap.size + 2) 2 _)
        have hTa := And.intro (hT0.1.keeps hka (by omega)) (show RdBox Xa (W.heap.size + 1) ⟨a2, g2, mm2, p2, b2, t2⟩ (.slice p5 vs2.length c5) from (hka.block (W.heap.size + 1) hT0.2.lt (by omega)).trans hT0.2)
        have HAa := Lib.hid (show MBox Xa (W.heap.size + 2) (.slice px' us.length cx') (.slice py' ms.length cy') f' by rw [hXa]; exact HE0.out.2.1.set _ _ _)
        have HGa := Lib.hid (show RdBox Xa (W.heap.size + 3) ⟨0, 0, 0, 0, 0, 0⟩ (.slice none 0 0) from (hka.block (W.heap.size + 3) HE0.out.2.2.1.lt (by omega)).trans HE0.out.2.2.1)
        have HOa := Lib.hid (And.intro (hka.row HE0.out.2.2.2.1 (fun g hg e => HE0.out.2.1.row HE0.out.2.2.2.1 (by decide) hg e.symm)) (And.intro (hka.row HE0.out.2.2.2.2.1 (fun g hg e => HE0.out.2.1.row HE0.out.2.2.2.2.1 (by decide) hg e.symm)) (hka.row HV0.out (fun g hg e => HE0.out.2.1.row HV0.out (by decide) hg e.symm))))
        have HBa := Lib.hid (HE0.out.2.2.2.2.2.trans (hka.below HE0.out.2.2.2.2.2.size (fun q hq => by omega)))
        go_simp
        rw [← hXa]
        refine hK.out _ _ ⟨hTa, fun _ _ => trivial⟩ ?_
        clear hK K d0 d1 d2 e0 e1 e2 hXa hka HE0 HV0 hT0
        (try simp only [Act.put, List.getElem_toArray, List.getElem_cons_succ, List.getElem_cons_zero, List.setIfInBounds_toArray, List.set_cons_succ, List.set_cons_zero])
        refine wpTwo_ready (rs := [3]) (by kernel_rfl) (by simp) ?_
        refine (AllTwo.cons rfl (fun K hK => ?_) AllTwo.nil)
        rw [show W.heap.size + 1 + 1 + 1 = W.heap.size + 3 from rfl]
        obtain ⟨d0, d1, d2, d3, d4, d5, d6⟩ := HGa.out.cells
        dsimp only at d0 d1 d2 d3 d4 d6
        have v0 := HGa.out.marks 0
        have v1 := HGa.out.marks 1
        have v2 := HGa.out.marks 2
        have v3 := HGa.out.marks 3
        have v4 := HGa.out.marks 4
        have v5 := HGa.out.marks 5
        have v6 := HGa.out.marks 6
        obtain ⟨Xb, hXb⟩ : ∃ X : World, X = ((((((Xa.setCell ⟨W.heap.size + 3, 0, none⟩ (.int .i64 a2)).setCell ⟨W.heap.size + 3, 1, none⟩ (.int .i64 g2)).setCell ⟨W.heap.size + 3, 2, none⟩ (.int .i64 mm2)).setCell ⟨W.heap.size + 3, 3, none⟩ (.int .i64 p2)).setCell ⟨W.heap.size + 3, 4, none⟩ (.int .u64 b2)).setCell ⟨W.heap.size + 3, 5, none⟩ (.slice p5 vs2.length c5)).setCell ⟨W.heap.size + 3, 6, none⟩ (.int .i64 t2) := ⟨_, rfl⟩
        have hkb : Keeps (fun q => q = W.heap.size + 3) Xa Xb := by rw [hXb]; exact RdBox.putK Xa (W.heap.size + 3) ⟨a2, g2, mm2, p2, b2, t2⟩ (.slice p5 vs2.length c5)
        have hTb := And.intro (hTa.1.keeps hkb (by omega)) (show RdBox Xb (W.heap.size + 1) ⟨a2, g2, mm2, p2, b2, t2⟩ (.slice p5 vs2.length c5) from (hkb.block (W.heap.size + 1) hTa.2.lt (by omega)).trans hTa.2)
        have HAb := Lib.hid (HAa.out.keeps hkb (by omega))
        have HGb := Lib.hid (show RdBox Xb (W.heap.size + 3) ⟨a2, g2, mm2, p2, b2, t2⟩ (.slice p5 vs2.length c5) by rw [hXb]; exact HGa.out.put ⟨a2, g2, mm2, p2, b2, t2⟩ (.slice p5 vs2.length c5))
        have HOb := Lib.hid (And.intro (hkb.row HOa.out.1 (fun g hg e => RdBox.row HGa.out HOa.out.1 (by decide) hg e.symm)) (And.intro (hkb.row HOa.out.2.1 (fun g hg e => RdBox.row HGa.out HOa.out.2.1 (by decide) hg e.symm)) (hkb.row HOa.out.2.2 (fun g hg e => RdBox.row HGa.out HOa.out.2.2 (by decide) hg e.symm))))
        have HBb := Lib.hid (HBa.out.trans (hkb.below HBa.out.size (fun q hq => by omega)))
        go_simp
        rw [← hXb]
        refine hK.out _ _ ⟨hTb, fun _ _ => trivial⟩ ?_
        clear hK K d0 d1 d2 d3 d4 d5 d6 v0 v1 v2 v3 v4 v5 v6 hXb hkb hTa hTb HAa HGa HOa HBa
        (try simp only [Act.put, List.getElem_toArray, List.getElem_cons_succ, List.getElem_cons_zero, List.setIfInBounds_toArray, List.set_cons_succ, List.set_cons_zero])
        refine wpTwo_end (by kernel_rfl) ?_ _
        go_wp2
        try simp only [Exit.jump]
        obtain ⟨⟨y0, y1, y2⟩, -, -, -⟩ := mbox_cells HAb.out
        obtain ⟨x0, x1, x2, x3, x4, x5, x6⟩ := HGb.out.cells
        dsimp only at x0 x1 x2 x3 x4 x6
        refine bodyPost_ret (v := .tuple #[.agg #[.slice px' us.length cx', .slice py' ms.length cy', .bool f'], rdV ⟨a2, g2, mm2, p2, b2, t2⟩ (.slice p5 vs2.length c5)]) (by simp [results, Try.results24, go_sem, y0, y1, y2, x0, x1, x2, x3, x4, x5, x6, rdV]) rfl ?_
        exact ⟨⟨px', cx', py', cy', p5, c5, rfl, HOb.out⟩, HBb.out⟩
end Go.Proofs.Ytaljpggajpoalaa
namespace Go.Proofs.Ytaljpggajpoalaa
open Go.RowKit Go.Shelf
attribute [local go_sem] Oper.semAt_some

/-- What StepRead hands over. -/
def SReadOk2 (B : Nat) (ms : List Bool) (x : (List Int × Bool) × RdM × List Int) (e : Ending) (w' : World) : Prop :=
  ∃ gw cw gl cl p c, e = .returned (.tuple #[.agg #[.slice (some ⟨gw, 0, none⟩) x.1.1.length cw, .slice (some ⟨gl, 0, none⟩) ms.length cl, .bool x.1.2], rdV x.2.1 (.slice p x.2.2.length c), .int .i64 0]) ∧
  w'.ownsRow B 27 1 (.slice (some ⟨gw, 0, none⟩) x.1.1.length cw) x.1.1.length (x.1.1.map (Value.int .u64)) ∧ w'.ownsRow B 4 1 (.slice (some ⟨gl, 0, none⟩) ms.length cl) ms.length (ms.map Value.bool) ∧
  w'.ownsRow B 27 1 (.slice p x.2.2.length c) x.2.2.length (x.2.2.map (Value.int .u64)) ∧ (∀ g, (Value.slice p x.2.2.length c).ownBlock = some g → gw < g)

set_option maxRecDepth 100000 in
set_option maxHeartbeats 8000000 in
theorem sread2_c (mv : Value) (us : List Int) (ms : List Bool) (u : Bool) (s : RdM) (rq : Option Addr) (rc : Nat) (vs : List Int) (W : World)
    (hM : MemAt W mv us ms u) (hr : rightB us ms = true) (hw : WRange us) (hV : VV (fun k => W.heap.size ≤ k) W (.slice rq vs.length rc) vs) (hR : rightRB s vs.length = true) (hsb : 0 ≤ s.b ∧ s.b ≤ 18446744073709551615) :
    Calls Try.prog 22 #[mv, rdV s (.slice rq vs.length rc)] W fun e w' => SReadOk2 W.heap.size ms (stepR ms us u s vs) e w' ∧ Below W.heap.size W w' := by
  obtain ⟨fin, hfin⟩ : ∃ f, f = stepR ms us u s vs := ⟨_, rfl⟩
  rw [← hfin]
  have HM := Lib.hid hM
  obtain ⟨vw, vl, rfl, ⟨pw, cw0, rfl, hcw⟩, pl, cl0, rfl, hcl⟩ := hM
  clear hcw hcl
  have HAN := Lib.hid (fun (Z : World) (hb : Below W.heap.size W Z) => anew_yes _ us ms u Z (HM.out.below hb) hr)
  have HCP := Lib.hid (fun (Z : World) => checkRead_c s rq vs.length rc hsb Z)
  rw [hR, if_pos rfl] at HCP
  obtain ⟨a, f, m, ph, b, t0⟩ := s
  have HALL := Lib.hid (And.intro hr (And.intro hw (And.intro hV (And.intro hR hfin))))
  obtain ⟨w0, hw0⟩ : ∃ X : World, X = (((W.alloc (.cells #[.slice pw us.length cw0, .slice pl ms.length cl0, .bool u] 44)).alloc (.cells #[.int .i64 a, .int .i64 f, .int .i64 m, .int .i64 ph, .int .u64 b, .slice rq vs.length rc, .int .i64 t0] 29)).alloc (.cells #[.slice none 0 0, .slice none 0 0, .bool false] 44)).alloc (.cells #[.int .i64 0, .int .i64 0, .int .i64 0, .int .i64 0, .int .u64 0, .slice none 0 0, .int .i64 0] 29) := ⟨_, rfl⟩
  unfold rdV at *
  dsimp only at *
  have HB0 := Lib.hid (show Below W.heap.size W w0 by rw [hw0]; exact ((((Below.refl _ _).alloc (Nat.le_refl _) _).alloc (by simp) _).alloc (by simp; omega) _).alloc (by simp; omega) _)
  have e1 := World.alloc_heap_new W (.cells #[.slice pw us.length cw0, .slice pl ms.length cl0, .bool u] 44)
  have e2 := World.alloc_heap_new (W.alloc (.cells #[.slice pw us.length cw0, .slice pl ms.length cl0, .bool u] 44)) (.cells #[.int .i64 a, .int .i64 f, .int .i64 m, .int .i64 ph, .int .u64 b, .slice rq vs.length rc, .int .i64 t0] 29)
  have e3 := World.alloc_heap_new ((W.alloc (.cells #[.slice pw us.length cw0, .slice pl ms.length cl0, .bool u] 44)).alloc (.cells #[.int .i64 a, .int .i64 f, .int .i64 m, .int .i64 ph, .int .u64 b, .slice rq vs.length rc, .int .i64 t0] 29)) (.cells #[.slice none 0 0, .slice none 0 0, .bool false] 44)
  have e4 := World.alloc_heap_new (((W.alloc (.cells #[.slice pw us.length cw0, .slice pl ms.length cl0, .bool u] 44)).alloc (.cells #[.int .i64 a, .int .i64 f, .int .i64 m, .int .i64 ph, .int .u64 b, .slice rq vs.length rc, .int .i64 t0] 29)).alloc (.cells #[.slice none 0 0, .slice none 0 0, .bool false] 44)) (.cells #[.int .i64 0, .int .i64 0, .int .i64 0, .int .i64 0, .int .u64 0, .slice none 0 0, .int .i64 0] 29)
  simp only [World.size_alloc] at e2 e3 e4
  have HZ0 := Lib.hid (show MBox w0 W.heap.size (.slice pw us.length cw0) (.slice pl ms.length cl0) u by rw [hw0]; exact (((MBox.new W _ _ u).alloc _).alloc _).alloc _)
  have HR0 := Lib.hid (show RdBox w0 (W.heap.size + 1) ⟨a, f, m, ph, b, t0⟩ (.slice rq vs.length rc) by
    have h : RdBox _ (W.heap.size + 1) ⟨a, f, m, ph, b, t0⟩ (.slice rq vs.length rc) := e2
    rw [hw0]
    exact (h.below (below1 _ _)).below (below1 _ _))
  have HY0 := Lib.hid (show MBox w0 (W.heap.size + 2) (.slice none 0 0) (.slice none 0 0) false by
    have h : MBox _ (W.heap.size + 2) (.slice none 0 0) (.slice none 0 0) false := e3
    rw [hw0]; exact h.alloc _)
  have HT0 := Lib.hid (show RdBox w0 (W.heap.size + 3) ⟨0, 0, 0, 0, 0, 0⟩ (.slice none 0 0) by rw [hw0]; exact e4)
  have HW0 := Lib.hid hw0
  clear hr hw hV hR hsb hfin hw0 HM e1 e2 e3 e4
  go_enter Try.func22, Try.ntmps22
  go_wp2_with fail
  rw [← HW0.out]
  clear HW0
  refine (HAN.out _ HB0.out).mono ?_
  rintro e w1 ⟨⟨gw, cw, gl, cl, rfl, how, hol⟩, hb1⟩
  have HZ1 := Lib.hid (HZ0.out.below hb1)
  have HR1 := Lib.hid (HR0.out.below hb1)
  have HY1 := Lib.hid (HY0.out.below hb1)
  have HT1 := Lib.hid (HT0.out.below hb1)
  have HB1 := Lib.hid (below_then HB0.out HB0.out.size hb1)
  have HOW := Lib.hid (how.mono HB0.out.size)
  have HOL := Lib.hid (hol.mono HB0.out.size)
  have hgwl := (row_lt how).2
  have hs0 : W.heap.size + 3 < w0.heap.size := HT0.out.lt
  clear hb1 HAN HZ0 HR0 HY0 HT0 HB0 how hol
  obtain ⟨⟨hd0, hd1, hd2⟩, he0, he1, he2⟩ := mbox_cells HZ1.out
  obtain ⟨w2, hw2⟩ : ∃ X : World, X = ((w1.setCell ⟨W.heap.size, 0, none⟩ (.slice (some ⟨gw, 0, none⟩) us.length cw)).setCell ⟨W.heap.size, 1, none⟩ (.slice (some ⟨gl, 0, none⟩) ms.length cl)).setCell ⟨W.heap.size, 2, none⟩ (.bool u) := ⟨_, rfl⟩
  have hk2 : Keeps (fun k => k = W.heap.size) w1 w2 := by
    rw [hw2]
    exact ((Keeps.setCell w1 (S := (· = W.heap.size)) (p := ⟨W.heap.size, 0, none⟩) rfl _).trans (Keeps.setCell _ (S := (· = W.heap.size)) (p := ⟨W.heap.size, 1, none⟩) rfl _)).trans (Keeps.setCell _ (S := (· = W.heap.size)) (p := ⟨W.heap.size, 2, none⟩) rfl _)
  have HZ2 := Lib.hid (show MBox w2 W.heap.size (.slice (some ⟨gw, 0, none⟩) us.length cw) (.slice (some ⟨gl, 0, none⟩) ms.length cl) u by rw [hw2]; exact HZ1.out.set _ _ _)
  have HR2 := Lib.hid (show RdBox w2 (W.heap.size + 1) ⟨a, f, m, ph, b, t0⟩ (.slice rq vs.length rc) from (hk2.block (W.heap.size + 1) HR1.out.lt (by omega)).trans HR1.out)
  have HY2 := Lib.hid (HY1.out.keeps hk2 (by omega))
  have HT2 := Lib.hid (show RdBox w2 (W.heap.size + 3) ⟨0, 0, 0, 0, 0, 0⟩ (.slice none 0 0) from (hk2.block (W.heap.size + 3) HT1.out.lt (by omega)).trans HT1.out)
  have HB2 := Lib.hid (HB1.out.trans (hk2.below HB1.out.size (fun k e => by omega)))
  have HOW2 := Lib.hid (hk2.row HOW.out (fun g hg e => HZ1.out.row HOW.out (by decide) hg e.symm))
  have HOL2 := Lib.hid (hk2.row HOL.out (fun g hg e => HZ1.out.row HOL.out (by decide) hg e.symm))
  have HG := Lib.hid (show W.heap.size + 3 < gw by omega)
  have HW2 := Lib.hid hw2
  clear hw2 hk2 HZ1 HR1 HY1 HT1 HB1 HOW HOL hgwl hs0
  go_upto_region 2 with fail
  rw [← HW2.out]
  clear hd0 hd1 hd2 he0 he1 he2 HW2
  obtain ⟨r0, r1, r2, r3, r4, r5, r6⟩ := HR2.out.cells
  dsimp only at r0 r1 r2 r3 r4 r6
  go_wp2_with fail
  refine (HCP.out w2).mono ?_
  rintro e w3 ⟨rfl, hb3⟩
  have HZ3 := Lib.hid (HZ2.out.below hb3)
  have hR3 := HR2.out.below hb3
  have HY3 := Lib.hid (HY2.out.below hb3)
  have HT3 := Lib.hid (HT2.out.below hb3)
  have HB3 := Lib.hid (below_then HB2.out HB2.out.size hb3)
  have HOW3 := Lib.hid (owns_below HOW2.out hb3)
  have HOL3 := Lib.hid (owns_below HOL2.out hb3)
  have HR3 := Lib.hid hR3
  clear hb3 hR3 HCP HZ2 HR2 HY2 HT2 HB2 HOW2 HOL2 r0 r1 r2 r3 r4 r5 r6
  go_upto_region 7 with fail
  go_cut [9] (fun s9 wc => Hid (∃ r q, s9 = .pointer (some ⟨r, 0, none⟩) ∧ RBox wc r ⟨a, f, m, ph, b, t0⟩ (.slice rq vs.length rc) q ∧ XBox wc q W.heap.size ∧ (w3.heap.size ≤ r ∧ w3.heap.size ≤ q) ∧ Below w3.heap.size w3 wc))
  case first =>
    obtain ⟨r0, r1, r2, r3, r4, r5, r6⟩ := HR3.out.cells
    dsimp only at r0 r1 r2 r3 r4 r6
    have HAC := Lib.hid (fun Z => accesses_c W.heap.size Z)
    clear HR3 HY3 HT3 HB3 HOW3 HOL3 HZ3 HALL
    unfold accV at HAC
    go_region_with (first | (go_at_call 46; refine (HAC.out _).mono ?_; rintro e w5 ⟨⟨rfl, hW5⟩, hb5⟩; have s0 := below_cell hb5 r0; have s1 := below_cell hb5 r1; have s2 := below_cell hb5 r2; have s3 := below_cell hb5 r3; have s4 := below_cell hb5 r4; have s5 := below_cell hb5 r5; have s6 := below_cell hb5 r6))
    all_goals (go_wp2_with fail; go_meet)
    all_goals
      have hb6 : Below w3.heap.size w3 w5 := ((Below.refl w3.heap.size w3).drew).trans hb5
      exact Lib.hid ⟨w5.heap.size, w3.heap.size, rfl, World.alloc_heap_new w5 _, ((below1 w5 _).block _ hW5.lt).trans hW5, ⟨hb6.size, Nat.le_refl _⟩, hb6.trans ((below1 w5 _).mono hb6.size)⟩
  case rest =>
    obtain ⟨r, q, rfl, hRB, hX, ⟨hr4, hq4⟩, hbc⟩ := hcut.out
    clear hcut HR3
    have HY5 := Lib.hid (HY3.out.below hbc)
    have HT5 := Lib.hid (HT3.out.below hbc)
    have HB5 := Lib.hid (below_then HB3.out HB3.out.size hbc)
    have HS5 := Lib.hid (show RS W.heap.size q W.heap.size gw gl cw cl r (fun k => k = W.heap.size ∨ k = gw ∨ k = r) ms ((us, u), ⟨a, f, m, ph, b, t0⟩, vs) wc by
      obtain ⟨g1, g2, g3, g4, g5⟩ := HALL.out
      have hb9 := HB5.out
      refine ⟨⟨hX, HZ3.out.below hbc, owns_below HOW3.out hbc, owns_below HOL3.out hbc⟩, _, hRB, ((g3.keeps (Keeps.of_low hb9) (fun _ h => h)).weaken ?_)⟩
      have := HG.out
      have := HT3.out.lt
      rintro k (e | e | e) <;> show W.heap.size ≤ k <;> omega)
    have HRT := Lib.hid (show W.heap.size + 3 < r by have := HT3.out.lt; omega)
    have HSL := Lib.hid (show ∀ k, (k = W.heap.size ∨ k = gw ∨ k = r) → k < wc.heap.size by
      obtain ⟨hA, v9, hR9, -⟩ := HS5.out
      rintro k (rfl | rfl | rfl)
      · exact hA.box.lt
      · exact (row_lt hA.words).1
      · exact hR9.lt)
    have HM8 := Lib.hid (fun (Z : World) (hb : Below wc.heap.size wc Z) => rdoes_c r Z)
    clear HY3 HT3 HB3 HZ3 HOW3 HOL3 hRB hX hr4 hq4 hbc
    obtain ⟨w5, hw5⟩ : ∃ X : World, X = wc := ⟨_, rfl⟩
    rw [← hw5] at HY5 HT5 HB5 HS5 HSL HM8
    rw [← hw5]
    clear hw5
    go_upto_region 8 with fail
    go_cut [] (fun wc => Hid (RS W.heap.size q W.heap.size gw gl cw cl r (fun k => k = W.heap.size ∨ k = gw ∨ k = r) ms fin wc ∧ Keeps (fun k => k = W.heap.size ∨ k = gw ∨ k = r) w5 wc))
    case first =>
      have HRD := Lib.hid (fun Z => rdoes_c r Z)
      have HST := Lib.hid (fun (Z : World) (mb : Nat) (hb : Below w5.heap.size w5 Z) (hX : Z.heap[mb]? = some (rmap r)) => rstep_c W.heap.size q W.heap.size gw gl cw cl r mb (fun k => k = W.heap.size ∨ k = gw ∨ k = r) us ms u ⟨a, f, m, ph, b, t0⟩ vs Z (HS5.out.below hb) hX HALL.out.1 HALL.out.2.1 HALL.out.2.2.2.1 (fun _ h => h) (fun k h => Nat.lt_of_lt_of_le (HSL.out k h) hb.size))
      rw [← HALL.out.2.2.2.2] at HST
      clear HY5 HT5 HB5 HALL HM8
      go_region_with (first | (go_at_call 48; refine (HRD.out _).mono ?_; rintro e w6 ⟨⟨rfl, hX6⟩, hb6⟩) | (go_at_call 47; refine (HST.out w6 _ (((Below.refl w5.heap.size w5).drew).trans hb6) hX6).mono ?_; rintro e w7 ⟨rfl, hS7, hk7⟩))
      all_goals (go_wp2_with fail; go_meet)
      all_goals exact Lib.hid ⟨hS7, (Keeps.of_below (((Below.refl w5.heap.size w5).drew).trans hb6)).trans hk7⟩
    case rest =>
      obtain ⟨hS8, hk8⟩ := hcut.out
      clear hcut
      obtain ⟨w8, hw8⟩ : ∃ X : World, X = wc := ⟨_, rfl⟩
      rw [← hw8] at hS8 hk8
      rw [← hw8]
      clear hw8
      have HUP := Lib.hid (show ∀ k, (k = W.heap.size ∨ k = gw ∨ k = r) → W.heap.size ≤ k ∧ k ≠ W.heap.size + 2 ∧ k ≠ W.heap.size + 3 by
        have := HG.out
        have := HRT.out
        rintro k (e | e | e) <;> omega)
      have HB8 := Lib.hid (HB5.out.trans (hk8.below HB5.out.size (fun k e => (HUP.out k e).1)))
      have HRES := Lib.hid (HY5.out.keeps hk8 (fun e => (HUP.out _ e).2.1 rfl))
      have HRDB := Lib.hid (show RdBox w8 (W.heap.size + 3) ⟨0, 0, 0, 0, 0, 0⟩ (.slice none 0 0) from (hk8.block (W.heap.size + 3) HT5.out.lt (fun e => (HUP.out _ e).2.2 rfl)).trans HT5.out)
      have HS8 := Lib.hid hS8
      have HLEN := Lib.hid (show fin.2.2.length ≤ 1099511627776 by
        have h := stepR_right ms us u ⟨a, f, m, ph, b, t0⟩ vs HALL.out.2.2.2.1
        rw [← HALL.out.2.2.2.2] at h
        have h1 := (fits_le (rightRB_parts h).1.1 (rightRB_parts h).2.2.2).1
        have h2 := (rightRB_parts h).1.2
        omega)
      clear hS8 hk8 HY5 HT5 HB5 HS5 HSL HRT HG HALL HM8
      obtain ⟨⟨z0, z1, z2⟩, -⟩ := mbox_cells HS8.out.1.box
      obtain ⟨v, hRv, hVv⟩ := HS8.out.2
      have HTO := Lib.hid (fun (Z : World) (hb : Below w8.heap.size w8 Z) => rtold_c r q fin.2.1 v fin.2.2 (fun k => k = W.heap.size ∨ k = gw ∨ k = r) Z (hRv.below hb) (hVv.keeps (Keeps.of_below (S := fun _ => False) hb) (fun _ h => h.elim)) HLEN.out)
      clear hRv hVv
      unfold rdV at HTO
      rw [show W.heap.size + 1 + 1 + 1 = W.heap.size + 3 from rfl, show W.heap.size + 1 + 1 = W.heap.size + 2 from rfl]
      go_upto_region 9 with fail
      go_region_with (first | (go_at_call 49; refine (HTO.out w8.drew (Below.refl _ _).drew).mono ?_; rintro e w9 ⟨⟨p9, c9, rfl, ho⟩, hb9⟩; have hb8 : Below w8.heap.size w8 w9 := ((Below.refl w8.heap.size w8).drew).trans hb9; have k0 := below_cell hb8 z0; have k1 := below_cell hb8 z1; have k2 := below_cell hb8 z2; have hy9 := HRES.out.below hb8; have hr9 := HRDB.out.below hb8; obtain ⟨⟨y0, y1, y2⟩, y3, y4, y5⟩ := mbox_cells hy9; obtain ⟨x0, x1, x2, x3, x4, x5, x6⟩ := hr9.cells; have v0 := hr9.marks 0; have v1 := hr9.marks 1; have v2 := hr9.marks 2; have v3 := hr9.marks 3; have v4 := hr9.marks 4; have v5 := hr9.marks 5; have v6 := hr9.marks 6; dsimp only at x0 x1 x2 x3 x4 x6))
      all_goals
        obtain ⟨wA, hwA⟩ : ∃ X : World, X = ((w9.setCell ⟨W.heap.size + 2, 0, none⟩ (.slice (some ⟨gw, 0, none⟩) fin.1.1.length cw)).setCell ⟨W.heap.size + 2, 1, none⟩ (.slice (some ⟨gl, 0, none⟩) ms.length cl)).setCell ⟨W.heap.size + 2, 2, none⟩ (.bool fin.1.2) := ⟨_, rfl⟩
        have hA : MBox wA (W.heap.size + 2) (.slice (some ⟨gw, 0, none⟩) fin.1.1.length cw) (.slice (some ⟨gl, 0, none⟩) ms.length cl) fin.1.2 := by rw [hwA]; exact hy9.set _ _ _
        have hAK : Keeps (fun k => k = W.heap.size + 2) w9 wA := by
          rw [hwA]
          exact ((Keeps.setCell w9 (S := (· = W.heap.size + 2)) (p := ⟨W.heap.size + 2, 0, none⟩) rfl _).trans (Keeps.setCell _ (S := (· = W.heap.size + 2)) (p := ⟨W.heap.size + 2, 1, none⟩) rfl _)).trans (Keeps.setCell _ (S := (· = W.heap.size + 2)) (p := ⟨W.heap.size + 2, 2, none⟩) rfl _)
        have hr10 : RdBox wA (W.heap.size + 3) ⟨0, 0, 0, 0, 0, 0⟩ (.slice none 0 0) := (hAK.block (W.heap.size + 3) hr9.lt (by omega)).trans hr9
        have hP := hr10.put fin.2.1 (.slice p9 fin.2.2.length c9)
        have hPK := RdBox.putK wA (W.heap.size + 3) fin.2.1 (.slice p9 fin.2.2.length c9)
        rw [← hwA]
        clear k0 k1 k2 y0 y1 y2 y3 y4 y5 x0 x1 x2 x3 x4 x5 x6 v0 v1 v2 v3 v4 v5 v6 hwA
        revert hP hPK
        generalize World.setCell _ ⟨W.heap.size + 3, 6, none⟩ _ = wB
        intro hP hPK
        have hAB : MBox wB (W.heap.size + 2) (.slice (some ⟨gw, 0, none⟩) fin.1.1.length cw) (.slice (some ⟨gl, 0, none⟩) ms.length cl) fin.1.2 := hA.keeps hPK (by omega)
        have HPB := Lib.hid hP
        have HMB := Lib.hid hAB
        have HKB := Lib.hid (show Keeps (fun k => k = W.heap.size + 2 ∨ k = W.heap.size + 3) w8 wB from ((Keeps.of_below hb8).trans (hAK.sub fun k _ e => .inl e)).trans (hPK.sub fun k _ e => .inr e))
        have HO9 := Lib.hid (show wB.ownsRow w8.heap.size 27 1 (.slice p9 fin.2.2.length c9) fin.2.2.length (fin.2.2.map (Value.int .u64)) from (hPK.row (hAK.row ho (fun g hg e => by have := (ho.lt g hg).1; have h9 := HRDB.out.lt; have : w8.heap.size ≤ g := this; omega)) (fun g hg e => by have := (ho.lt g hg).1; have h9 := HRDB.out.lt; have : w8.heap.size ≤ g := this; omega)))
        clear hA hAK hr10 hP hPK hAB ho hb8 hb9 hy9 hr9 HTO z0 z1 z2
        obtain ⟨⟨y0, y1, y2⟩, -, -, -⟩ := mbox_cells HMB.out
        obtain ⟨x0, x1, x2, x3, x4, x5, x6⟩ := HPB.out.cells
        go_wp2
        try simp only [Exit.jump]
        refine bodyPost_ret (v := .tuple #[.agg #[.slice (some ⟨gw, 0, none⟩) fin.1.1.length cw, .slice (some ⟨gl, 0, none⟩) ms.length cl, .bool fin.1.2], rdV fin.2.1 (.slice p9 fin.2.2.length c9), .int .i64 0]) (by simp [results, Try.results22, go_sem, y0, y1, y2, x0, x1, x2, x3, x4, x5, x6, rdV]) rfl ⟨⟨gw, cw, gl, cl, p9, c9, rfl, ?_, ?_, ?_, ?_⟩, ?_⟩
        · exact HKB.out.row HS8.out.1.words (by intro g hg; simp only [Value.ownBlock, Option.some.injEq] at hg; subst hg; have := HUP.out gw (.inr (.inl rfl)); show ¬ (_ ∨ _); omega)
        · exact HKB.out.row HS8.out.1.lives (by intro g hg; have n1 := HRES.out.row HS8.out.1.lives (by decide) hg; have n2 := RdBox.row HRDB.out HS8.out.1.lives (by decide) hg; show ¬ (_ ∨ _); omega)
        · exact HO9.out.mono HB8.out.size
        · intro g hg
          have h1 := (HO9.out.lt g hg).1
          have h2 := (HS8.out.1.words.lt gw rfl).2
          omega
        · exact HB8.out.trans (HKB.out.below HB8.out.size (fun k e => by omega))


end Go.Proofs.Ytaljpggajpoalaa
