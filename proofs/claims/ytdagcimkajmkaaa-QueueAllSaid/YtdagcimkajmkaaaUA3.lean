/-
  The reference of layer 13: Right.
  Conditions: the ranges of Go's types.
-/
import Derived.Test.YtdagcimkajmkaaaUA2
import Derived.Scope
import Derived.Laws.EntriesVeiled
/-
  Package queue: drain.
  Conditions: so many is not below 0; the queue has at most 16 callbacks.
-/
namespace Go.Proofs.Ytdagcimkajmkaaa
set_option maxRecDepth 100000
open Go.RowKit Go.Shelf
attribute [local go_sem] Oper.semAt_some

/-- A row of one's own can be written. -/
def CbFree (W : World) (v : Value) (l : List (Int × Int)) : Prop := ∀ b off n c, v = .slice (some ⟨b, off, none⟩) n c → l ≠ [] → ∃ cur t, W.heap[b]? = some (.cells cur t (0, 0))
theorem CbFree.below {W W' : World} {v : Value} {l : List (Int × Int)} (h : CbFree W v l) (hb : Below W.heap.size W W') : CbFree W' v l := fun b off n c e hne => by
  obtain ⟨cur, t, hx⟩ := h b off n c e hne
  exact ⟨cur, t, (hb.block b (Array.getElem?_eq_some_iff.1 hx).1).trans hx⟩
theorem cvs_drop : ∀ (l : List (Int × Int)) (k : Nat), cvs (l.drop k) = (cvs l).drop (k * 2)
  | [], k => by simp [cvs]
  | c :: l, 0 => by simp [cvs]
  | c :: l, k + 1 => by rw [show (k + 1) * 2 = k * 2 + 1 + 1 by omega]; simp only [List.drop_succ_cons, cvs, cvs_drop l k]
/-- What is left of a row of one's own. -/
theorem drop_cb {B : Nat} {E : TypeId} {W : World} {p0 : Option Addr} {n c0 : Nat} {l : List (Int × Int)} (h : W.ownsRow B E 2 (.slice p0 n c0) n (cvs l)) (k : Nat) (hk : k ≤ n) (p : Option Addr) (hp : k < n → p = p0.map (·.add (k * 2))) (c : Nat) (h1 : n - k ≤ c) (h2 : c ≤ 9223372036854775807) :
    CbOut (fun q => q < B) W (.slice p (n - k) c) (l.drop k) ∧ CbFree W (.slice p (n - k) c) (l.drop k) := by
  have hl := h.1
  rw [cvs_len] at hl
  obtain rfl : n = l.length := by omega
  rcases h.2 with ⟨e, h0⟩ | ⟨g, cap, cur, e, hB, hg, _⟩
  · obtain rfl : l = [] := List.eq_nil_of_length_eq_zero h0
    exact ⟨⟨p, c, by simp, by simp, h2, fun h => (by simp at h)⟩, fun b off m d _ hne => (by simp at hne)⟩
  · injection e with e _ _
    subst e
    constructor
    · refine ⟨p, c, by rw [List.length_drop], by rw [List.length_drop]; exact h1, h2, fun hne => ?_⟩
      have hlt : k < l.length := by
        apply Nat.lt_of_not_le
        intro hle
        exact hne (List.drop_eq_nil_of_le hle)
      refine ⟨g, k * 2, by rw [hp hlt, Option.map_some, addr_add_off, Nat.zero_add], by omega, fun i hi => ?_⟩
      rw [List.length_drop] at hi
      have hc1 := h.cellAt ((k + i) * 2) (by omega)
      have hc2 := h.cellAt ((k + i) * 2 + 1) (by omega)
      rw [(cvs_get l (k + i) (by omega)).1] at hc1
      rw [(cvs_get l (k + i) (by omega)).2] at hc2
      rw [List.getElem_drop, show k * 2 + i * 2 = (k + i) * 2 by omega]
      exact ⟨by simpa using hc1, by simpa using hc2⟩
    · intro b off m d e hne
      have hlt : k < l.length := by
        apply Nat.lt_of_not_le
        intro hle
        exact hne (List.drop_eq_nil_of_le hle)
      injection e with e _ _
      rw [hp hlt, Option.map_some, addr_add_off] at e
      injection e with e
      injection e with e _
      exact ⟨cur, E, by rw [← e]; exact hg⟩
theorem dr_load {W : World} {z : Nat} {v u : Value} {o : Int} (h : DrB W z v o u) : (loadVar 61 ⟨z, 0, none⟩).run Try.prog W = .ok (.agg #[v, .int .u64 o, u]) W := by
  obtain ⟨h0, h1, h2⟩ := h.cells
  simp [go_sem, h0, h1, h2]

/-- What takes one. -/
def tkV (z : Nat) : Value := .func (.func 34) #[.pointer (some ⟨z, 0, none⟩)] #[]
/-- Between two rounds. -/
structure DrI (W : World) (z B : Nat) (p0 : Option Addr) (n c0 : Nat) (over : Int) (l : List (Int × Int)) (most : Nat) (pre : List Int) (w : World) : Prop where
  d : ∃ p c wp wc, DrB w z (.slice p (n - pre.length) c) over (.slice wp pre.length wc) ∧ (pre.length < n → p = p0.map (·.add (pre.length * 2))) ∧ n - pre.length ≤ c ∧ c ≤ 9223372036854775807 ∧ w.ownsRow B 23 1 (.slice wp pre.length wc) pre.length (pre.map (Value.int .u64))
  r : w.ownsRow (W.heap.size + 3) 53 2 (.slice p0 n c0) n (cvs l)
  f : Boxed w (z + 1) 67 (tkV z)
  m : Boxed w (W.heap.size + 1) 3 (.int .i64 (most : Int))
  x : DrB w (W.heap.size + 2) (.slice none 0 0) 0 (.slice none 0 0)
  b : Below W.heap.size W w
  le : pre.length ≤ most
  ln : pre.length ≤ n
theorem row_own {X Y : World} {row : Option Nat} {B : Nat} {E : TypeId} {s n : Nat} {v : Value} {xs : List Value} (h : X.ownsRow B E s v n xs) (hg : X.grownBy Y row) (hr : ∀ r, row = some r → ∃ o : Obj, X.heap[r]? = some o ∧ o.isCells = false) : Y.ownsRow B E s v n xs := by
  have hk : Keeps (fun k => row = some k) X Y := ⟨hg.os, hg.tape, hg.output, hg.size, fun k hk hne => hg.block k hk (fun e => hne e.symm)⟩
  refine hk.row h (fun g e hs => ?_)
  obtain ⟨c, f, hc⟩ := Lib.ownsRow_kind h g e
  obtain ⟨o, ho, hi⟩ := hr g hs
  rw [hc] at ho
  cases ho
  cases hi
theorem heap_own {X Y : World} {row : Option Nat} {k : Nat} {cs : Array Value} {T : TypeId} {f : Nat × Nat} (h : X.heap[k]? = some (.cells cs T f)) (hg : X.grownBy Y row) (hr : ∀ r, row = some r → ∃ o : Obj, X.heap[r]? = some o ∧ o.isCells = false) : Y.heap[k]? = some (.cells cs T f) :=
  (hg.block k (Array.getElem?_eq_some_iff.1 h).1 (fun e => by obtain ⟨o, ho, hc⟩ := hr k e.symm; rw [h] at ho; cases ho; cases hc)).trans h
theorem dri_own (W : World) (z B : Nat) (p0 : Option Addr) (n c0 : Nat) (over : Int) (l : List (Int × Int)) (most : Nat) (y : Nat) (hy : W.heap.size ≤ y) : OwnFrom y (DrI W z B p0 n c0 over l most) := by
  rintro s X Y row ⟨⟨p, c, wp, wc, h1, h2, h3, h4, h5⟩, hr', hf, hm, hx, hb, hle, hln⟩ hg hr
  have hr2 := fun r e => (hr r e).2
  exact ⟨⟨p, c, wp, wc, heap_own h1 hg hr2, h2, h3, h4, row_own h5 hg hr2⟩, row_own hr' hg hr2, heap_own hf hg hr2, heap_own hm hg hr2, heap_own hx hg hr2, hb.grown hg hb.size (fun k e => by have := (hr k e).1; omega), hle, hln⟩
/-- Where a round has left. -/
def DrX (W : World) (z B : Nat) (p0 : Option Addr) (n c0 : Nat) (over : Int) (l : List (Int × Int)) (most : Nat) (c : Code) (pre : List Int) (w : World) : Prop := c = .exit 0 ∧ pre ≠ [] ∧ DrI W z B p0 n c0 over l most pre.dropLast w ∧ pre.dropLast.length = most
theorem drx_own (W : World) (z B : Nat) (p0 : Option Addr) (n c0 : Nat) (over : Int) (l : List (Int × Int)) (most : Nat) (y : Nat) (hy : W.heap.size ≤ y) (c : Code) : OwnFrom y (DrX W z B p0 n c0 over l most c) := by
  rintro s X Y row ⟨h0, hne, h1, h2⟩ hg hr
  exact ⟨h0, hne, dri_own W z B p0 n c0 over l most y hy s.dropLast X Y row h1 hg hr, h2⟩
/-- A round that takes one. -/
theorem DrI.took {W : World} {z B : Nat} {p0 : Option Addr} {n c0 : Nat} {over : Int} {l : List (Int × Int)} {most : Nat} {pre : List Int} {x : Int} {w w' : World} {p : Option Addr} {wp : Option Addr} {wc : Nat} {e : Ending} (h : DrI W z B p0 n c0 over l most pre w) (hz : W.heap.size + 3 ≤ z) (hzB : z + 1 < B) (hnm : n ≤ 1000)
    (h2 : pre.length < n → p = p0.map (·.add (pre.length * 2))) (h5 : w.ownsRow B 23 1 (.slice wp pre.length wc) pre.length (pre.map (Value.int .u64))) (hlt : pre.length < n) (hm : pre.length < most) (hc : ∀ g, p0 = some ⟨g, 0, none⟩ → g < z)
    (hq : TakeQ z B p (n - pre.length) over pre.length pre x (.slice wp pre.length wc) e w w') : DrI W z B p0 n c0 over l most (pre ++ [x]) w' ∧ Keeps (fun k => k = z ∨ (B ≤ k ∧ some k = (Value.slice wp pre.length wc).ownBlock)) w w' := by
  obtain ⟨-, q, r, hd, ho, hk⟩ := hq
  have hlen : (pre ++ [x]).length = pre.length + 1 := by simp
  have hS : ∀ k, (k = z ∨ some k = (Value.slice wp pre.length wc).ownBlock) → k = z ∨ (B ≤ k ∧ some k = (Value.slice wp pre.length wc).ownBlock) := fun k hk => hk.imp id (fun e => ⟨(h5.lt k e.symm).1, e⟩)
  have hk' := hk.sub (fun k _ h => hS k h)
  refine ⟨⟨⟨nextA p (n - pre.length), n - pre.length - 1, q, r, ?_, ?_, ?_, ?_, ?_⟩, ?_, ?_, ?_, ?_, ?_, ?_, ?_⟩, hk'⟩
  · rw [hlen, show n - (pre.length + 1) = n - pre.length - 1 by omega]; exact hd
  · rw [hlen]
    intro h6
    unfold nextA
    rw [if_neg (by omega), h2 hlt]
    cases p0 with
    | none => rfl
    | some a =>
      obtain ⟨b, o, k⟩ := a
      simp only [Option.map_some, Option.some.injEq]
      rcases h.r.2 with ⟨e0, h0⟩ | ⟨g, cap, cur, e0, _⟩
      · cases e0
      · injection e0 with e0 _ _
        injection e0 with e0
        cases e0
        rw [addr_add_off, addr_add_off, addr_add_off]
        congr 1
        omega
  · rw [hlen]; omega
  · omega
  · rw [hlen]; exact ho
  · refine hk'.row h.r (fun g e hs => ?_)
    have hg : g < z := by
      rcases h.r.2 with ⟨e0, h0⟩ | ⟨g', cap, cur, e0, _⟩
      · rw [e0] at e; simp [Value.ownBlock] at e
      · injection e0 with e0 _ _
        have := hc g' e0
        rw [e0] at e
        simp [Value.ownBlock] at e
        omega
    rcases hs with hs | hs <;> omega
  · exact bx_keeps h.f hk' (by omega)
  · exact bx_keeps h.m hk' (by omega)
  · exact h.x.keeps hk' (by omega)
  · exact h.b.trans (hk'.below h.b.size (fun k e => by omega))
  · rw [hlen]; omega
  · rw [hlen]; omega

/-- What drain answers. -/
def DrainQ (B : Nat) (over : Int) (l : List (Int × Int)) (most : Nat) (e : Ending) (w' : World) : Prop := ∃ k p c wp wc, k = ((dones over l).take most).length ∧ e = .returned (.agg #[.slice p (l.length - k) c, .int .u64 over, .slice wp k wc]) ∧ CbOut (fun q => q < B) w' (.slice p (l.length - k) c) (l.drop k) ∧ CbFree w' (.slice p (l.length - k) c) (l.drop k) ∧ w'.ownsRow B 23 1 (.slice wp k wc) k ((whats ((dones over l).take most)).map (Value.int .u64))

theorem leaves_one {F : Fence} {n : Nat} {P : Program} {fn : Func} {tmps : Array Value} {R : Ending → World → Prop} {D : Nat} {W : World} (hK : W.heap[D]? = some (.deferred (some []))) (h : LeavesIn F n P fn tmps R [] .returning (W.putObj D (.deferred none))) : LeavesInM F n P fn tmps R (marksOf [D]) .returning W :=
  ⟨by simp, .inl ⟨D, _, rfl, run_takeDeferred hK, h⟩⟩
theorem put_keeps {W : World} {D : Nat} (o : Obj) : Keeps (fun k => k = D) W (W.putObj D o) := by
  have hg := grownBy_putObj' W D o
  exact ⟨hg.os, hg.tape, hg.output, hg.size, fun k hk hne => World.putObj_heap_other hne⟩
/-- At the end. -/
theorem dr_end {W : World} {z B : Nat} {p0 : Option Addr} {n c0 : Nat} {over : Int} {l : List (Int × Int)} {most : Nat} {pre : List Int} {w w' : World} {p : Option Addr} {c : Nat} {wp : Option Addr} {wc D : Nat} (h : DrI W z B p0 n c0 over l most pre w) (hn : n = l.length) (he : pre = whats ((dones over l).take most)) (hB : W.heap.size + 3 ≤ B)
    (h2 : pre.length < n → p = p0.map (·.add (pre.length * 2))) (h3 : n - pre.length ≤ c) (h4 : c ≤ 9223372036854775807) (h5 : w.ownsRow B 23 1 (.slice wp pre.length wc) pre.length (pre.map (Value.int .u64))) (hD : W.heap.size ≤ D) (hK : w.heap[D]? = some (.deferred (some []))) (hk : Keeps (fun k => k = W.heap.size + 2 ∨ k = D) w w') :
    DrainQ W.heap.size over l most (.returned (.agg #[.slice p (n - pre.length) c, .int .u64 over, .slice wp pre.length wc])) w' ∧ Below W.heap.size W w' := by
  have hb := h.b.trans (hk.below h.b.size (fun k e => by omega))
  have hno : ∀ {E : TypeId} {C s m : Nat} {v : Value} {xs : List Value}, w.ownsRow C E s v m xs → W.heap.size + 3 ≤ C → ∀ g, v.ownBlock = some g → ¬ (g = W.heap.size + 2 ∨ g = D) := fun hr hC g e hs => by
    rcases hs with hs | rfl
    · have := (hr.lt g e).1; omega
    · obtain ⟨cc, ff, hc⟩ := Lib.ownsRow_kind hr g e
      rw [hK] at hc
      cases hc
  have hr := (hk.row h.r (hno h.r (Nat.le_refl _))).mono (show W.heap.size ≤ W.heap.size + 3 by omega)
  have hw := (hk.row h5 (hno h5 hB)).mono (show W.heap.size ≤ B by omega)
  have hlen : pre.length = ((dones over l).take most).length := by rw [he, whats_len]
  obtain ⟨ha, hf⟩ := drop_cb hr pre.length h.ln p h2 c h3 h4
  subst hn
  exact ⟨⟨pre.length, p, c, wp, wc, hlen, rfl, ha, hf, by rw [← he]; exact hw⟩, hb⟩
theorem took_all {over : Int} {l : List (Int × Int)} {most : Nat} (h : (whats (dones over l)).length ≤ most) : whats (dones over l) = whats ((dones over l).take most) := by
  rw [whats_len] at h
  rw [List.take_of_length_le h]
theorem took_some {over : Int} {l : List (Int × Int)} {most : Nat} {pre : List Int} (h : pre.length ≤ (dones over l).length ∧ pre = whats ((dones over l).take pre.length)) (h1 : pre.dropLast.length = most) : pre.dropLast = whats ((dones over l).take most) := by
  obtain ⟨h2, h3⟩ := h
  rw [List.length_dropLast] at h1
  rw [List.dropLast_eq_take, h3]
  unfold whats
  rw [← List.map_take, List.take_take, List.length_map, List.length_take]
  congr 2
  omega

set_option maxHeartbeats 16000000 in
theorem drain_c (v : Value) (over : Int) (l : List (Int × Int)) (most : Nat) (W : World) (hv : CbOut NoS W v l) (hl : l.length ≤ 1000) (hmo : most ≤ 9223372036854775807) :
    Calls Try.prog 28 #[.agg #[v, .int .u64 over], .int .i64 (most : Int)] W fun e w' => DrainQ W.heap.size over l most e w' ∧ Below W.heap.size W w' := by
  have hmf : ∀ (fn : Fn) (first cap : Array Value) (w : World), (Instr.makeFunc fn first cap).run Try.prog w = .ok (.func fn first cap) w := fun _ _ _ _ => rfl
  obtain ⟨p, c, rfl, hlc, hcm, -⟩ := id hv
  obtain ⟨n, hn⟩ : ∃ n, n = l.length := ⟨_, rfl⟩
  rw [← hn] at hl hlc
  obtain ⟨w0, hw0⟩ : ∃ X : World, X = ((W.alloc (.cells #[.slice p n c, .int .u64 over] 25)).alloc (.cells #[.int .i64 (most : Int)] 3)).alloc (.cells #[.slice none 0 0, .int .u64 0, .slice none 0 0] 61) := ⟨_, rfl⟩
  have hb0 : Below W.heap.size W w0 := by rw [hw0]; exact below3 _ _ _ _
  have HF := Lib.hid (show QBox w0 W.heap.size (.slice p n c) over ∧ Boxed w0 (W.heap.size + 1) 3 (.int .i64 (most : Int)) ∧ DrB w0 (W.heap.size + 2) (.slice none 0 0) 0 (.slice none 0 0) ∧ Below W.heap.size W w0 ∧ w0.heap.size = W.heap.size + 3 by
    refine ⟨by rw [hw0]; exact ((QBox.new W _ _).below (below1 _ _)).below (below1 _ _), ?_, ?_, hb0, by rw [hw0]; simp⟩
    · rw [hw0]
      have := Boxed.new (W.alloc (.cells #[.slice p n c, .int .u64 over] 25)) 3 (.int .i64 (most : Int))
      rw [World.size_alloc] at this
      exact this.alloc _
    · rw [hw0]
      have := World.alloc_heap_new ((W.alloc (.cells #[.slice p n c, .int .u64 over] 25)).alloc (.cells #[.int .i64 (most : Int)] 3)) (.cells #[.slice none 0 0, .int .u64 0, .slice none 0 0] 61)
      rw [World.size_alloc, World.size_alloc] at this
      exact this)
  have hv0 := (hv.apart (T := fun q => W.heap.size ≤ q) (fun q h => .inr h)).below hb0
  rw [← hn] at hv0 ⊢
  have HO := Lib.hid (own_c (.slice p n c) over l w0 (hv0.sub (fun q h => h.elim)) (by omega))
  have HV0 := Lib.hid hv0
  have HN := Lib.hid hn
  obtain ⟨q0, q1⟩ := HF.out.1.cells
  rw [hw0] at q0 q1
  have HW0 := Lib.hid hw0
  clear hb0 hv hv0 hw0 hn
  refine (callsIn_wide (n := 9)).1 ?_
  refine callsIn_of_wp_marks Try.func28 rfl trivial ?_ rfl
  simp only [Try.ntmps28, List.size_toArray, List.length_cons, List.length_nil, Nat.reduceAdd, Nat.reduceSub, Array.replicate_succ, Array.replicate_zero, List.push_toArray, List.append_toArray, List.nil_append, List.cons_append]
  gi_wp2
  refine wpIn_scope ?_
  gi_wp2_with fail
  rw [← HW0.out]
  refine ⟨trivial, (callsIn_wide.2 HO.out).mono ?_⟩
  rintro e w1 ⟨⟨v4, rfl, o4⟩, hb1⟩
  obtain ⟨p4, c4, rfl⟩ := owns_slice o4
  rw [← HN.out] at o4 ⊢
  obtain ⟨z, hz⟩ : ∃ z, z = w1.heap.size := ⟨_, rfl⟩
  obtain ⟨w2, hw2⟩ : ∃ X : World, X = (w1.alloc (.cells #[.slice p4 n c4, .int .u64 over, .slice none 0 0] 61)).alloc (.cells #[tkV z] 67) := ⟨_, rfl⟩
  have hb2 : Below w1.heap.size w1 w2 := by rw [hw2]; exact below2 _ _ _
  have hb12 := below_then hb1 hb1.size hb2
  have hf2 : DrB w2 z (.slice p4 n c4) over (.slice none 0 0) ∧ Boxed w2 (z + 1) 67 (tkV z) := by
    rw [hw2, hz]
    constructor
    · exact (show DrB (w1.alloc (.cells #[.slice p4 n c4, .int .u64 over, .slice none 0 0] 61)) w1.heap.size (.slice p4 n c4) over (.slice none 0 0) from World.alloc_heap_new _ _).below (below1 _ _)
    · have := Boxed.new (w1.alloc (.cells #[.slice p4 n c4, .int .u64 over, .slice none 0 0] 61)) 67 (tkV w1.heap.size)
      rwa [World.size_alloc] at this
  have H2 := Lib.hid (show QBox w2 W.heap.size (.slice p n c) over ∧ Boxed w2 (W.heap.size + 1) 3 (.int .i64 (most : Int)) ∧ DrB w2 (W.heap.size + 2) (.slice none 0 0) 0 (.slice none 0 0) ∧ Below W.heap.size W w2 ∧ w2.ownsRow (W.heap.size + 3) 53 2 (.slice p4 n c4) n (cvs l) ∧ w2.heap.size = z + 2 ∧ W.heap.size + 3 ≤ z ∧ (∀ g, p4 = some ⟨g, 0, none⟩ → g < z) ∧ n ≤ c4 ∧ c4 ≤ 9223372036854775807 from
    ⟨HF.out.1.below hb12, boxed_under HF.out.2.1 hb12, HF.out.2.2.1.below hb12, below_then HF.out.2.2.2.1 HF.out.2.2.2.1.size hb12, (owns_below o4 hb2).mono (by have := HF.out.2.2.2.2; omega), by rw [hw2, hz]; simp, by have := HF.out.2.2.2.2; have := hb1.size; omega,
      fun g e => by subst e; have := (o4.lt g rfl).2; omega, by have := (cb_of_owns o4).len; omega, by have := (cb_of_owns o4).len; omega⟩)
  have HD2 := Lib.hid hf2
  have HV2 := Lib.hid (HV0.out.below hb12)
  have HZ := Lib.hid hz
  have hw2' : w2 = (w1.alloc (.cells #[.slice p4 n c4, .int .u64 over, .slice none 0 0] 61)).alloc (.cells #[.func (.func 34) #[.pointer (some ⟨w1.heap.size, 0, none⟩)] #[]] 67) := by rw [hw2, hz]; rfl
  have HW2 := Lib.hid hw2'
  obtain ⟨q0, q1⟩ := H2.out.1.cells
  rw [hw2'] at q0 q1
  clear hw2'
  clear hb1 hb2 hb12 hf2 HF HO HV0 o4 hw2 hz
  gi_wp2
  refine wpIn_label ?_
  gi_wp2_with fail
  rw [← HW2.out, ← HZ.out]
  refine ⟨trivial, (callsIn_wide.2 (done_c (.slice p n c) over w2)).mono ?_⟩
  rintro e w3 ⟨rfl, hw3⟩
  clear q0 q1 HW2 HZ
  have hb3 : Below w2.heap.size w2 w3 := by rw [hw3]; exact below1 _ _
  have H3 := Lib.hid (show QBox w3 w2.heap.size (.slice p n c) over ∧ CbOut (fun q => W.heap.size ≤ q) w3 (.slice p n c) l ∧ w3.heap.size = w2.heap.size + 1 from ⟨by rw [hw3]; exact QBox.new _ _ _, HV2.out.below hb3, by rw [hw3]; simp⟩)
  have HI3 := Lib.hid (show DrI W z w3.heap.size p4 n c4 over l most [] w3 from ⟨⟨p4, c4, none, 0, HD2.out.1.below hb3, fun _ => by cases p4 <;> simp [Addr.add_zero'], by have := H2.out.2.2.2.2.2.2.2.2; simp; omega, by have := H2.out.2.2.2.2.2.2.2.2; omega, World.ownsRow_nil _ _ _ _⟩, owns_below H2.out.2.2.2.2.1 hb3, boxed_under HD2.out.2 hb3, boxed_under H2.out.2.1 hb3, H2.out.2.2.1.below hb3, below_then H2.out.2.2.2.1 H2.out.2.2.2.1.size hb3, by simp, by simp⟩)
  obtain ⟨lb, hlb⟩ : ∃ z, z = w2.heap.size := ⟨_, rfl⟩
  rw [← hlb] at H3 ⊢
  have HSZ := Lib.hid (show lb = z + 2 ∧ w3.heap.size = z + 3 ∧ W.heap.size + 3 ≤ z ∧ (∀ g, p4 = some ⟨g, 0, none⟩ → g < z) from ⟨by have := H2.out.2.2.2.2.2.1; omega, by have := H2.out.2.2.2.2.2.1; have := H3.out.2.2; omega, H2.out.2.2.2.2.2.2.1, H2.out.2.2.2.2.2.2.2.1⟩)
  clear hw3 hb3 hlb H2 HD2 HV2
  gi_wp2
  refine wpIn_rangeDeep rfl (by omega) (gf := 36) (lb := #[.pointer (some ⟨lb, 0, none⟩)]) rfl trivial (enters_of Try.func36 (by kernel_rfl) rfl)
    (done_stops 8 (by omega) (fun q => q = z ∨ w3.heap.size ≤ q) lb p n c over l w3 (by have := HSZ.out; omega) HN.out (by omega) H3.out.1 (H3.out.2.1.sub (fun q e => by have := HSZ.out; omega))) (fun h k => h.trans k) (fun W l o o' _ => KeepsCells.turn _ W l o o') (Below.refl _ _) (fun _ => rfl)
    (DrI W z w3.heap.size p4 n c4 over l most) (DrX W z w3.heap.size p4 n c4 over l most) (dri_own W z w3.heap.size p4 n c4 over l most w3.heap.size (by have := HSZ.out; omega)) (drx_own W z w3.heap.size p4 n c4 over l most w3.heap.size (by have := HSZ.out; omega)) HI3.out
    (fun x a' _ => a' = { tmps := #[.agg #[.slice p n c, .int .u64 over], .int .i64 (most : Int), .pointer (some ⟨W.heap.size, 0, none⟩), .pointer (some ⟨W.heap.size + 1, 0, none⟩), .pointer (some ⟨W.heap.size + 1 + 1, 0, none⟩), .pointer (some ⟨z, 0, none⟩), .pointer (some ⟨z + 1, 0, none⟩), .int .u64 x, .agg #[.slice p n c, .int .u64 over], .agg #[.slice p4 n c4, .int .u64 over], .agg #[.slice p4 n c4, .int .u64 over, .slice none 0 0], .func (.func 34) #[.pointer (some ⟨z, 0, none⟩)] #[], .agg #[.slice p n c, .int .u64 over], .func (.func 36) #[] #[.pointer (some ⟨lb, 0, none⟩)], .int .u64 x, undef, undef, undef, undef, undef, undef, undef, undef, undef, undef], defers := [] })
    ?hAx ?assign ?body ?done ?stop
  case hAx => exact fun x a' => ownFrom_pure _ _
  case assign =>
    rintro l' pre x X K hi hK
    gi_wp2
    exact hK _ _ (KeepsFrom.refl _ _) (KeepsCells.refl _ _) hi rfl
  case body =>
    rintro l' pre x a' X hl' ⟨rr, hrr⟩ hI rfl hlen hsp
    obtain ⟨⟨p, c, wp, wc, h1, h2, h3, h4, h5⟩, hr, hf, hm, hx, hb, hle, hln⟩ := id hI
    obtain ⟨c0, c1, c2⟩ := h1.cells
    have cm := hm.cell
    have cf := hf.cell
    unfold tkV at cf
    have hkc := Lib.ownsRow_kind h5
    have hdc : X.heap[z]? = _ := h1
    have HI := Lib.hid hI
    have hB := HSZ.out
    have hXs : w3.heap.size ≤ X.heap.size := by have := (Array.getElem?_eq_some_iff.1 hrr).1; omega
    clear hrr
    by_cases hmo2 : pre.length = most
    · have HX := Lib.hid (show DrX W z w3.heap.size p4 n c4 over l most (.exit 0) (pre ++ [x]) X from ⟨rfl, by simp, by rw [List.dropLast_concat]; exact hI, by rw [List.dropLast_concat]; exact hmo2⟩)
      have hmi : (pre.length : Int) = (most : Int) := by omega
      clear hI h1 h2 h3 h4 h5 hr hf hm hx hb hle hln hkc hdc HI hmo2 cf hsp hlen
      gi_wp2
      exact ⟨KeepsFrom.refl _ _, HX.out⟩
    · have hC := take_c z w3.heap.size p (n - pre.length) c over wp pre.length wc pre x X h1 (by omega) hXs h5 (by omega) h3 h4 (by omega)
      have HC := Lib.hid hC
      have HT := Lib.hid (fun (e : Ending) (X2 : World) (hq : TakeQ z w3.heap.size p (n - pre.length) over pre.length pre x (.slice wp pre.length wc) e X X2) => hI.took (by omega) (by omega) (by omega) h2 h5 hlen (by omega) hB.2.2.2 hq)
      have HKF := Lib.hid (fun (X2 : World) (hk : Keeps (fun k => k = z ∨ (w3.heap.size ≤ k ∧ some k = (Value.slice wp pre.length wc).ownBlock)) X X2) => (show KeepsFrom w3.heap.size X X2 ∧ KeepsCells (fun q => q = z ∨ w3.heap.size ≤ q) X X2 from
        ⟨⟨hk.size, fun k o hkB ho hoc => (hk.block k (Array.getElem?_eq_some_iff.1 ho).1 (fun e => by
          rcases e with e | ⟨_, e⟩
          · omega
          · obtain ⟨cc, ff, hcc⟩ := hkc k e.symm
            rw [hcc] at ho; cases ho; cases hoc)).trans ho⟩, KeepsCells.keeps (hk.sub (fun k _ h => h.imp id (fun h => h.1)))⟩))
      have hmi : ((pre.length : Int) == (most : Int)) = false := by rw [beq_eq_false_iff_ne]; omega
      have hmi2 : ¬ (pre.length : Int) = (most : Int) := by omega
      clear hI h1 h2 h3 h4 h5 hr hf hm hx hb hle hln hkc hdc HI hmo2 hC hsp hlen
      gi_wp2_with fail
      refine ⟨trivial, ((callsIn_wide.2 HC.out).inRound l').mono ?_⟩
      rintro e X2 hq
      obtain ⟨hI2, hk2⟩ := HT.out e X2 hq
      obtain ⟨rfl, -⟩ := hq
      have HI2 := Lib.hid hI2
      have HK2 := Lib.hid (HKF.out X2 hk2)
      clear hI2 hk2
      gi_wp2
      exact ⟨HK2.out.1, HK2.out.2, HI2.out⟩
  case done =>
    rintro D xs X hD rfl hI hK
    obtain ⟨⟨p, c, wp, wc, h1, h2, h3, h4, h5⟩, hr, hf, hm, hx, hb, hle, hln⟩ := id hI
    have HP := Lib.hid (took_all hle)
    clear HI3
    have e2 := hx.cells
    have e2a := e2.1
    have e2b := e2.2.1
    have e2c := e2.2.2
    have m0 := hx.marks 0
    have m1 := hx.marks 1
    have m2 := hx.marks 2
    obtain ⟨X1, hX1⟩ : ∃ Y : World, Y = ((X.setCell ⟨W.heap.size + 1 + 1, 0, none⟩ (.slice p (n - (whats (dones over l)).length) c)).setCell ⟨W.heap.size + 1 + 1, 1, none⟩ (.int .u64 over)).setCell ⟨W.heap.size + 1 + 1, 2, none⟩ (.slice wp (whats (dones over l)).length wc) := ⟨_, rfl⟩
    have hk1 : Keeps (fun k => k = W.heap.size + 2) X X1 := by rw [hX1]; exact ((set1K X (W.heap.size + 2) 0 _).trans (set1K _ (W.heap.size + 2) 1 _)).trans (set1K _ (W.heap.size + 2) 2 _)
    have hx1 : DrB X1 (W.heap.size + 2) (.slice p (n - (whats (dones over l)).length) c) over (.slice wp (whats (dones over l)).length wc) := by
      rw [hX1]
      have g0 := heap_setCell_same X (W.heap.size + 2) 0 _ _ (.slice p (n - (whats (dones over l)).length) c) hx
      have g1 := heap_setCell_same _ (W.heap.size + 2) 1 _ _ (.int .u64 over) g0
      have g2 := heap_setCell_same _ (W.heap.size + 2) 2 _ _ (.slice wp (whats (dones over l)).length wc) g1
      unfold DrB
      rw [g2]
      rfl
    have hKD : X1.heap[D]? = some (.deferred (some [])) := (hk1.block D (Array.getElem?_eq_some_iff.1 hK).1 (by have := HSZ.out; omega)).trans hK
    have HE := Lib.hid (dr_end hI HN.out HP.out (by have := HSZ.out; omega) h2 h3 h4 h5 (by have := HSZ.out; omega) hK ((hk1.sub (fun k _ h => .inl h)).trans ((put_keeps (W := X1) (D := D) (.deferred none)).sub (fun k _ h => .inr h))))
    have HX := Lib.hid (show DrB (X1.putObj D (.deferred none)) (W.heap.size + 2) (.slice p (n - (whats (dones over l)).length) c) over (.slice wp (whats (dones over l)).length wc) from hx1.keeps (put_keeps _) (by have := HSZ.out; omega))
    have HKD := Lib.hid hKD
    have HX1 := Lib.hid hX1
    have c0 := h1.cells.1
    have c1 := h1.cells.2.1
    have c2 := h1.cells.2.2
    clear hI h1 h2 h3 h4 h5 hr hf hm hx hb hle hln hX1 hk1 hx1 hKD hK e2
    gi_wp2
    rw [← HX1.out]
    exact leaves_one HKD.out ⟨_, results_cell1 rfl _ _ _ rfl (dr_load HX.out), HE.out⟩
  case stop =>
    rintro D cc pre X hD hsp ⟨rfl, hne, hI, hlast⟩ hK
    obtain ⟨⟨p, c, wp, wc, h1, h2, h3, h4, h5⟩, hr, hf, hm, hx, hb, hle, hln⟩ := id hI
    have HP := Lib.hid (took_some hsp hlast)
    obtain ⟨pr, hpr⟩ : ∃ pr, pr = pre.dropLast := ⟨_, rfl⟩
    rw [← hpr] at hI h1 h2 h3 h5 HP hle hln
    clear HI3 hsp hne hlast hpr
    have e2 := hx.cells
    have e2a := e2.1
    have e2b := e2.2.1
    have e2c := e2.2.2
    have m0 := hx.marks 0
    have m1 := hx.marks 1
    have m2 := hx.marks 2
    obtain ⟨X1, hX1⟩ : ∃ Y : World, Y = ((X.setCell ⟨W.heap.size + 1 + 1, 0, none⟩ (.slice p (n - pr.length) c)).setCell ⟨W.heap.size + 1 + 1, 1, none⟩ (.int .u64 over)).setCell ⟨W.heap.size + 1 + 1, 2, none⟩ (.slice wp pr.length wc) := ⟨_, rfl⟩
    have hk1 : Keeps (fun k => k = W.heap.size + 2) X X1 := by rw [hX1]; exact ((set1K X (W.heap.size + 2) 0 _).trans (set1K _ (W.heap.size + 2) 1 _)).trans (set1K _ (W.heap.size + 2) 2 _)
    have hx1 : DrB X1 (W.heap.size + 2) (.slice p (n - pr.length) c) over (.slice wp pr.length wc) := by
      rw [hX1]
      have g0 := heap_setCell_same X (W.heap.size + 2) 0 _ _ (.slice p (n - pr.length) c) hx
      have g1 := heap_setCell_same _ (W.heap.size + 2) 1 _ _ (.int .u64 over) g0
      have g2 := heap_setCell_same _ (W.heap.size + 2) 2 _ _ (.slice wp pr.length wc) g1
      unfold DrB
      rw [g2]
      rfl
    have hKD : X1.heap[D]? = some (.deferred (some [])) := (hk1.block D (Array.getElem?_eq_some_iff.1 hK).1 (by have := HSZ.out; omega)).trans hK
    have HE := Lib.hid (dr_end hI HN.out HP.out (by have := HSZ.out; omega) h2 h3 h4 h5 (by have := HSZ.out; omega) hK ((hk1.sub (fun k _ h => .inl h)).trans ((put_keeps (W := X1) (D := D) (.deferred none)).sub (fun k _ h => .inr h))))
    have HX := Lib.hid (show DrB (X1.putObj D (.deferred none)) (W.heap.size + 2) (.slice p (n - pr.length) c) over (.slice wp pr.length wc) from hx1.keeps (put_keeps _) (by have := HSZ.out; omega))
    have HKD := Lib.hid hKD
    have HX1 := Lib.hid hX1
    have c0 := h1.cells.1
    have c1 := h1.cells.2.1
    have c2 := h1.cells.2.2
    clear hI h1 h2 h3 h4 h5 hr hf hm hx hb hle hln hX1 hk1 hx1 hKD hK e2
    gi_wp2
    rw [← HX1.out]
    exact leaves_one HKD.out ⟨_, results_cell1 rfl _ _ _ rfl (dr_load HX.out), HE.out⟩

end Go.Proofs.Ytdagcimkajmkaaa
/-
  Package queue: Take, Drain.
  Conditions: the ranges of Go's types.
-/
namespace Go.Proofs.Ytdagcimkajmkaaa
set_option maxRecDepth 100000
open Go.RowKit Go.Shelf
attribute [local go_sem] Oper.semAt_some

theorem results_ctt {fn : Func} {a b c : Tmp} {t : TypeId} (h : fn.results = #[.cell a t, .tmp b, .tmp c]) (tmps : Array Value) (P : Program) (w : World) {p : Addr} {x y z : Value} (ha : tmps.getD a undef = .pointer (some p)) (hb : tmps.getD b undef = y) (hc : tmps.getD c undef = z)
    (hx : (loadVar t p).run P w = .ok x w) : (results fn tmps).run P w = .ok (.tuple #[x, y, z]) w := by
  unfold results
  rw [h]
  simp only [Array.mapM_eq_foldlM, List.foldlM_toArray, List.foldlM_cons, List.foldlM_nil, ha, hb, hc, asAddr, run_fmap, Sem.run_bind, Sem.run_pure, Result.andThen_ok, hx]
  rfl
/-- A queue that is handed out. -/
def OutQ (B : Nat) (v : Value) (l : List (Int × Int)) (w : World) : Prop := CbOut (fun q => q < B) w v l ∧ CbFree w v l
theorem OutQ.below {B : Nat} {v : Value} {l : List (Int × Int)} {w w' : World} (h : OutQ B v l w) (hb : Below w.heap.size w w') : OutQ B v l w' := ⟨h.1.below hb, h.2.below hb⟩
theorem OutQ.mono {B C : Nat} {v : Value} {l : List (Int × Int)} {w : World} (h : OutQ B v l w) (hC : C ≤ B) : OutQ C v l w := ⟨h.1.sub (fun q hq => by omega), h.2⟩
theorem outQ_none (B : Nat) (w : World) : OutQ B (.slice none 0 0) [] w := ⟨⟨none, 0, rfl, by simp, by omega, fun h => absurd rfl h⟩, fun b off n c e => by cases e⟩
theorem OutQ.keeps {S : Nat → Prop} {B : Nat} {v : Value} {l : List (Int × Int)} {w w' : World} (h : OutQ B v l w) (hk : Keeps S w w') (hS : ∀ b cur t, S b → w.heap[b]? = some (.cells cur t (0, 0)) → t ≠ 53 ∧ b < B) : OutQ B v l w' := by
  obtain ⟨⟨p, cap, rfl, h1, h2, hc⟩, hf⟩ := h
  have hn : ∀ b off, p = some ⟨b, off, none⟩ → l ≠ [] → ¬ S b := fun b off e hne hs => by
    obtain ⟨b', off', e', hB, _⟩ := hc hne
    obtain ⟨cur, t, hx⟩ := hf b off _ _ (by rw [e]) hne
    rw [e] at e'
    injection e' with e'
    injection e' with e' _
    have := (hS b cur t hs hx).2
    omega
  refine ⟨⟨p, cap, rfl, h1, h2, fun hne => ?_⟩, fun b off n c e hne => ?_⟩
  · obtain ⟨b, off, rfl, hB, hcs⟩ := hc hne
    have := hn b off rfl hne
    exact ⟨b, off, rfl, hB, fun i hi => ⟨hk.cell (hcs i hi).1 this, hk.cell (hcs i hi).2 this⟩⟩
  · obtain ⟨cur, t, hx⟩ := hf b off n c e hne
    injection e with e _ _
    exact ⟨cur, t, (hk.block b (Array.getElem?_eq_some_iff.1 hx).1 (hn b off e hne)).trans hx⟩
theorem OutQ.keep1 {B z : Nat} {v : Value} {l : List (Int × Int)} {w w' : World} (h : OutQ B v l w) (hk : Keeps (fun k => k = z) w w') {u : Value} {o : Int} (hz : QBox w z u o) (hB : z < B) : OutQ B v l w' :=
  h.keeps hk (fun b cur t e hx => by subst e; exact ⟨fun e => by have h' : w.heap[b]? = _ := hz; rw [h'] at hx; injection hx with hx; injection hx with _ hx _; rw [← hx] at e; revert e; decide, hB⟩)

/-- What Take answers. -/
def takeE (over : Int) (l : List (Int × Int)) : Int := if mayB over l = true then (if dones over l = [] then 4 else 0) else 230
def TakeA (B : Nat) (over : Int) (l : List (Int × Int)) (e : Ending) (w' : World) : Prop :=
  (takeE over l = 0 ∧ ∃ v x, e = .returned (.tuple #[.agg #[v, .int .u64 over], .int .u64 x, .int .i64 0]) ∧ OutQ B v (l.drop 1) w' ∧ whats ((dones over l).take 1) = [x]) ∨ (takeE over l ≠ 0 ∧ e = .returned (.tuple #[.agg #[.slice none 0 0, .int .u64 0], .int .u64 0, .int .i64 (takeE over l)]))
/-- What Drain answers. -/
def drainE (over : Int) (l : List (Int × Int)) (most : Int) : Int := if mayB over l = true then (if most < 0 then 2 else 0) else 230
def DrainA (B : Nat) (over : Int) (l : List (Int × Int)) (most : Int) (e : Ending) (w' : World) : Prop :=
  (drainE over l most = 0 ∧ ∃ k v wp wc, k = ((dones over l).take most.toNat).length ∧ e = .returned (.tuple #[.agg #[v, .int .u64 over], .slice wp k wc, .int .i64 0]) ∧ OutQ B v (l.drop k) w' ∧ w'.ownsRow B 23 1 (.slice wp k wc) k ((whats ((dones over l).take most.toNat)).map (Value.int .u64))) ∨ (drainE over l most ≠ 0 ∧ e = .returned (.tuple #[.agg #[.slice none 0 0, .int .u64 0], .slice none 0 0, .int .i64 (drainE over l most)]))

set_option maxHeartbeats 16000000 in
theorem take1_c (v : Value) (over : Int) (l : List (Int × Int)) (W : World) (hv : CbOut NoS W v l) (ho : 0 ≤ over) :
    Calls Try.prog 15 #[.agg #[v, .int .u64 over]] W fun e w' => TakeA W.heap.size over l e w' ∧ Below W.heap.size W w' := by
  obtain ⟨w0, hw0⟩ : ∃ X : World, X = (W.alloc (.cells #[v, .int .u64 over] 25)).alloc (.cells #[.slice none 0 0, .int .u64 0] 25) := ⟨_, rfl⟩
  have hb0 : Below W.heap.size W w0 := by rw [hw0]; exact below2 _ _ _
  have HF := Lib.hid (show QBox w0 W.heap.size v over ∧ QBox w0 (W.heap.size + 1) (.slice none 0 0) 0 ∧ Below W.heap.size W w0 ∧ w0.heap.size = W.heap.size + 2 from ⟨by rw [hw0]; exact (QBox.new W _ _).below (below1 _ _), by
      rw [hw0]
      have := QBox.new (W.alloc (.cells #[v, .int .u64 over] 25)) (.slice none 0 0) 0
      simpa using this, hb0, by rw [hw0]; simp⟩)
  have HV := Lib.hid (hv.below hb0)
  have HM := Lib.hid (may_c v over l w0 HV.out ho)
  obtain ⟨p, c, rfl, hlc, hcm, -⟩ := hv
  have HW0 := Lib.hid hw0
  obtain ⟨q0, q1⟩ := HF.out.1.cells
  clear hw0 hb0
  go_enter Try.func15, Try.ntmps15
  go_wp2_with fail
  rw [← HW0.out]
  clear HW0 q0 q1
  (with_reducible refine HM.out.mono ?_)
  rintro e w1 ⟨rfl, hb1⟩
  have H1 := Lib.hid (show QBox w1 W.heap.size (.slice p l.length c) over ∧ QBox w1 (W.heap.size + 1) (.slice none 0 0) 0 ∧ Below W.heap.size W w1 ∧ W.heap.size + 2 ≤ w1.heap.size ∧ CbOut NoS w1 (.slice p l.length c) l from ⟨HF.out.1.below hb1, HF.out.2.1.below hb1, below_then HF.out.2.2.1 HF.out.2.2.1.size hb1, by have := HF.out.2.2.2; have := hb1.size; omega, HV.out.below hb1⟩)
  clear hb1 HF HV HM
  obtain ⟨q0, q1⟩ := H1.out.1.cells
  obtain ⟨r0, r1⟩ := H1.out.2.1.cells
  have m0 := H1.out.2.1.marks 0
  have m1 := H1.out.2.1.marks 1
  have HP := Lib.hid (show QBox ((w1.setCell ⟨W.heap.size + 1, 0, none⟩ (.slice none 0 0)).setCell ⟨W.heap.size + 1, 1, none⟩ (.int .u64 0)) (W.heap.size + 1) (.slice none 0 0) 0 ∧ Below W.heap.size W ((w1.setCell ⟨W.heap.size + 1, 0, none⟩ (.slice none 0 0)).setCell ⟨W.heap.size + 1, 1, none⟩ (.int .u64 0)) from
    ⟨H1.out.2.1.put _ _, H1.out.2.2.1.trans ((QBox.putK w1 _ _ _).below (by have := H1.out.2.2.2.1; omega) (fun k e => by omega))⟩)
  cases hm : mayB over l with
  | false =>
    have HE := Lib.hid (show takeE over l = 230 by unfold takeE; rw [hm]; rfl)
    go_wp2
    exact bodyPost_ret (results_ctt rfl _ _ _ rfl rfl rfl (queue_load HP.out.1)) rfl ⟨.inr ⟨by rw [HE.out]; decide, by rw [HE.out]; rfl⟩, HP.out.2⟩
  | true =>
    obtain ⟨hg1, hg2, -⟩ := may_parts hm
    have HE0 := Lib.hid (show takeE over l = if dones over l = [] then 4 else 0 by unfold takeE; rw [hm]; rfl)
    have HD := Lib.hid (show Calls Try.prog 28 #[.agg #[.slice p l.length c, .int .u64 over], .int .i64 1] w1 fun e w' => DrainQ w1.heap.size over l 1 e w' ∧ Below w1.heap.size w1 w' from drain_c (.slice p l.length c) over l 1 w1 H1.out.2.2.2.2 (by omega) (by decide))
    clear hm HP r0 r1 m0 m1
    go_wp2_with fail
    (with_reducible refine HD.out.mono ?_)
    rintro e w2 ⟨⟨k, p2, c2, wp, wc, hk, rfl, ha, hf, hw⟩, hb2⟩
    obtain ⟨n, hn⟩ : ∃ n, n = l.length - k := ⟨_, rfl⟩
    rw [← hn] at ha hf ⊢
    obtain ⟨z, hz⟩ : ∃ z, z = w2.heap.size := ⟨_, rfl⟩
    obtain ⟨w3, hw3⟩ : ∃ X : World, X = w2.alloc (.cells #[.slice p2 n c2, .int .u64 over, .slice wp k wc] 61) := ⟨_, rfl⟩
    have hb3 : Below w2.heap.size w2 w3 := by rw [hw3]; exact below1 _ _
    have hb13 := below_then hb2 hb2.size hb3
    have HX := Lib.hid (show DrB w3 z (.slice p2 n c2) over (.slice wp k wc) ∧ OutQ w1.heap.size (.slice p2 n c2) (l.drop k) w3 ∧ w3.ownsRow w1.heap.size 23 1 (.slice wp k wc) k ((whats ((dones over l).take 1)).map (Value.int .u64)) ∧ QBox w3 (W.heap.size + 1) (.slice none 0 0) 0 ∧ Below W.heap.size W w3 ∧ W.heap.size + 2 ≤ w1.heap.size ∧ w1.heap.size ≤ z ∧ k = ((dones over l).take 1).length from
      ⟨by rw [hw3, hz]; exact World.alloc_heap_new _ _, ⟨ha.below hb3, hf.below hb3⟩, owns_below hw hb3, H1.out.2.1.below hb13, below_then H1.out.2.2.1 H1.out.2.2.1.size hb13, H1.out.2.2.2.1, by have := hb2.size; omega, hk⟩)
    have HW3 := Lib.hid (And.intro hw3 hz)
    clear ha hf hw hb2 hb3 hb13 hw3 hz HD H1 hk hn q0 q1
    obtain ⟨c0, c1, c2'⟩ := HX.out.1.cells
    have c0' := c0
    have c1' := c1
    have c2'' := c2'
    rw [HW3.out.1, HW3.out.2] at c0 c1 c2'
    by_cases hd : dones over l = []
    · have HE := Lib.hid (HE0.out.trans (if_pos hd))
      have hk0 : k = 0 := by have := HX.out.2.2.2.2.2.2.2; rw [hd] at this; simpa using this
      subst hk0
      have r0 := HX.out.2.2.2.1.cells.1
      have r1 := HX.out.2.2.2.1.cells.2
      have m0 := HX.out.2.2.2.1.marks 0
      have m1 := HX.out.2.2.2.1.marks 1
      have HP := Lib.hid (show QBox ((w3.setCell ⟨W.heap.size + 1, 0, none⟩ (.slice none 0 0)).setCell ⟨W.heap.size + 1, 1, none⟩ (.int .u64 0)) (W.heap.size + 1) (.slice none 0 0) 0 ∧ Below W.heap.size W ((w3.setCell ⟨W.heap.size + 1, 0, none⟩ (.slice none 0 0)).setCell ⟨W.heap.size + 1, 1, none⟩ (.int .u64 0)) from
        ⟨HX.out.2.2.2.1.put _ _, HX.out.2.2.2.2.1.trans ((QBox.putK w3 _ _ _).below (by have := HX.out.2.2.2.2.1.size; omega) (fun k e => by omega))⟩)
      clear hd c0' c1' c2''
      go_upto_region 4 with fail
      rw [← HW3.out.1, ← HW3.out.2]
      clear c0 c1 c2'
      obtain ⟨c0, c1, c2'⟩ := HX.out.1.cells
      go_wp2
      exact bodyPost_ret (results_ctt rfl _ _ _ rfl rfl rfl (queue_load HP.out.1)) rfl ⟨.inr ⟨by rw [HE.out]; decide, by rw [HE.out]; rfl⟩, HP.out.2⟩
    · have HE := Lib.hid (HE0.out.trans (if_neg hd))
      obtain ⟨y, hy⟩ : ∃ y, whats ((dones over l).take 1) = [y] := by
        cases hl : dones over l with
        | nil => exact absurd hl hd
        | cons a t => exact ⟨a.2, rfl⟩
      have hk1 : k = 1 := by
        have := HX.out.2.2.2.2.2.2.2
        rw [← whats_len, hy] at this
        exact this
      subst hk1
      have hrow := HX.out.2.2.1
      rw [hy] at hrow
      obtain ⟨b, rfl, hyc⟩ : ∃ b, wp = some ⟨b, 0, none⟩ ∧ w3.cell? ⟨b, 0, none⟩ = some (.int .u64 y) := by
        rcases hrow.2 with ⟨_, h0⟩ | ⟨g, cap, cur, e, _⟩
        · cases h0
        · injection e with e1 e2 e3
          subst e1
          refine ⟨g, rfl, ?_⟩
          have := hrow.cellAt 0 (by omega)
          simpa using this
      have hbz : b ≠ W.heap.size + 1 := by have := (hrow.lt b rfl).1; have := HX.out.2.2.2.2.2.1; omega
      have HY := Lib.hid (And.intro hy (And.intro hyc hbz))
      clear hd hrow hy c0' c1' c2'' hyc hbz
      go_upto_region 4 with fail
      rw [← HW3.out.1, ← HW3.out.2]
      clear c0 c1 c2' HW3
      obtain ⟨c0, c1, c2'⟩ := HX.out.1.cells
      go_upto_region 6 with fail
      clear c0 c1 c2'
      refine wpTwo_begin (T := fun w' => DrB w' z (.slice p2 n c2) over (.slice (some ⟨b, 0, none⟩) 1 wc) ∧ w'.cell? ⟨b, 0, none⟩ = some (.int .u64 y)) (S := fun _ => True) (late := fun _ => false) (by kernel_rfl) ?_
      obtain ⟨X, hX⟩ : ∃ Y : World, Y = w3.drew := ⟨_, rfl⟩
      rw [← hX]
      have hbx : Below w3.heap.size w3 X := by rw [hX]; exact (Below.refl _ _).drew
      clear hX
      have hT0 : DrB X z (.slice p2 n c2) over (.slice (some ⟨b, 0, none⟩) 1 wc) ∧ X.cell? ⟨b, 0, none⟩ = some (.int .u64 y) := ⟨HX.out.1.below hbx, below_cell hbx HY.out.2.1⟩
      have HZ := Lib.hid (show OutQ w1.heap.size (.slice p2 n c2) (l.drop 1) X ∧ QBox X (W.heap.size + 1) (.slice none 0 0) 0 ∧ Below W.heap.size W X from ⟨HX.out.2.1.below hbx, HX.out.2.2.2.1.below hbx, below_then HX.out.2.2.2.2.1 HX.out.2.2.2.2.1.size hbx⟩)
      have HSZ := Lib.hid (show W.heap.size + 2 ≤ w1.heap.size ∧ w1.heap.size ≤ z from ⟨HX.out.2.2.2.2.2.1, HX.out.2.2.2.2.2.2.1⟩)
      clear hbx HX
      refine wpTwo_takeT (i := 0) (v := .pointer (some ⟨z, 0, none⟩)) rfl (by kernel_rfl) (by kernel_rfl) (by kernel_rfl) (fun _ _ _ h => h) ⟨by rfl, ?_⟩ hT0 ?_
      · rintro w ⟨hTw, hTc⟩
        obtain ⟨t0', t1', t2'⟩ := hTw.cells
        go_simp
      (try simp only [Act.put, List.getElem_toArray, List.getElem_cons_zero, List.setIfInBounds_toArray, List.set_cons_succ, List.set_cons_zero])
      refine wpTwo_takeT (i := 1) (v := .agg #[.slice p2 n c2, .int .u64 over]) rfl (by kernel_rfl) (by kernel_rfl) (by kernel_rfl) (fun _ _ _ h => h) ⟨by rfl, ?_⟩ hT0 ?_
      · rintro w ⟨hTw, hTc⟩
        obtain ⟨t0', t1', t2'⟩ := hTw.cells
        go_simp
      (try simp only [Act.put, List.getElem_toArray, List.getElem_cons_succ, List.getElem_cons_zero, List.setIfInBounds_toArray, List.set_cons_succ, List.set_cons_zero])
      refine wpTwo_takeT (i := 2) (v := .pointer (some ⟨z, 2, none⟩)) rfl (by kernel_rfl) (by kernel_rfl) (by kernel_rfl) (fun _ _ _ h => h) ⟨by rfl, ?_⟩ hT0 ?_
      · rintro w ⟨hTw, hTc⟩
        obtain ⟨t0', t1', t2'⟩ := hTw.cells
        go_simp
      (try simp only [Act.put, List.getElem_toArray, List.getElem_cons_succ, List.getElem_cons_zero, List.setIfInBounds_toArray, List.set_cons_succ, List.set_cons_zero])
      refine wpTwo_takeT (i := 3) (v := .slice (some ⟨b, 0, none⟩) 1 wc) rfl (by kernel_rfl) (by kernel_rfl) (by kernel_rfl) (fun _ _ _ h => h) ⟨by rfl, ?_⟩ hT0 ?_
      · rintro w ⟨hTw, hTc⟩
        obtain ⟨t0', t1', t2'⟩ := hTw.cells
        go_simp
      (try simp only [Act.put, List.getElem_toArray, List.getElem_cons_succ, List.getElem_cons_zero, List.setIfInBounds_toArray, List.set_cons_succ, List.set_cons_zero])
      refine wpTwo_takeT (i := 4) (v := .pointer (some ⟨b, 0, none⟩)) rfl (by kernel_rfl) (by kernel_rfl) (by kernel_rfl) (fun _ _ _ h => h) ⟨by rfl, ?_⟩ hT0 ?_
      · rintro w ⟨hTw, hTc⟩
        obtain ⟨t0', t1', t2'⟩ := hTw.cells
        go_simp
      (try simp only [Act.put, List.getElem_toArray, List.getElem_cons_succ, List.getElem_cons_zero, List.setIfInBounds_toArray, List.set_cons_succ, List.set_cons_zero])
      refine wpTwo_takeT (i := 5) (v := .int .u64 y) rfl (by kernel_rfl) (by kernel_rfl) (by kernel_rfl) (fun _ _ _ h => h) ⟨by rfl, ?_⟩ hT0 ?_
      · rintro w ⟨hTw, hTc⟩
        obtain ⟨t0', t1', t2'⟩ := hTw.cells
        go_simp
      (try simp only [Act.put, List.getElem_toArray, List.getElem_cons_succ, List.getElem_cons_zero, List.setIfInBounds_toArray, List.set_cons_succ, List.set_cons_zero])
      obtain ⟨r0, r1⟩ := HZ.out.2.1.cells
      have m0 := HZ.out.2.1.marks 0
      have m1 := HZ.out.2.1.marks 1
      obtain ⟨Y, hY⟩ : ∃ Y : World, Y = (X.setCell ⟨W.heap.size + 1, 0, none⟩ (.slice p2 n c2)).setCell ⟨W.heap.size + 1, 1, none⟩ (.int .u64 over) := ⟨_, rfl⟩
      have hky : Keeps (fun k => k = W.heap.size + 1) X Y := by rw [hY]; exact QBox.putK _ _ _ _
      have HYF := Lib.hid (show QBox Y (W.heap.size + 1) (.slice p2 n c2) over ∧ OutQ w1.heap.size (.slice p2 n c2) (l.drop 1) Y ∧ Below W.heap.size W Y from ⟨by rw [hY]; exact HZ.out.2.1.put _ _, HZ.out.1.keep1 hky HZ.out.2.1 (by have := HSZ.out; omega), HZ.out.2.2.trans (hky.below HZ.out.2.2.size (fun k e => by omega))⟩)
      have hT1 : DrB Y z (.slice p2 n c2) over (.slice (some ⟨b, 0, none⟩) 1 wc) ∧ Y.cell? ⟨b, 0, none⟩ = some (.int .u64 y) := ⟨hT0.1.keeps hky (by have := HSZ.out; omega), hky.cell hT0.2 HY.out.2.2⟩
      have HYY := Lib.hid hY
      clear hY hky
      refine wpTwo_ready (rs := [6]) (by kernel_rfl) (by simp) ?_
      refine (AllTwo.cons rfl (fun K hK => ?_) AllTwo.nil)
      go_simp
      rw [← HYY.out]
      refine hK.out _ _ ⟨hT1, fun _ _ => trivial⟩ ?_
      clear hK K hT0 r0 r1 m0 m1 HYY HZ
      (try simp only [Act.put, List.getElem_toArray, List.getElem_cons_succ, List.getElem_cons_zero, List.setIfInBounds_toArray, List.set_cons_succ, List.set_cons_zero])
      refine wpTwo_takeT (i := 7) (v := .int .u64 y) rfl (by kernel_rfl) (by kernel_rfl) (by kernel_rfl) (fun _ _ _ h => h) ⟨by rfl, ?_⟩ hT1 ?_
      · rintro w -
        go_simp
      (try simp only [Act.put, List.getElem_toArray, List.getElem_cons_succ, List.getElem_cons_zero, List.setIfInBounds_toArray, List.set_cons_succ, List.set_cons_zero])
      refine wpTwo_takeT (i := 8) (v := .int .i64 0) rfl (by kernel_rfl) (by kernel_rfl) (by kernel_rfl) (fun _ _ _ h => h) ⟨by rfl, ?_⟩ hT1 ?_
      · rintro w -
        go_simp
      (try simp only [Act.put, List.getElem_toArray, List.getElem_cons_succ, List.getElem_cons_zero, List.setIfInBounds_toArray, List.set_cons_succ, List.set_cons_zero])
      refine wpTwo_end (by kernel_rfl) ?_ _
      clear hT1
      go_wp2
      exact bodyPost_ret (results_ctt rfl _ _ _ rfl rfl rfl (queue_load HYF.out.1)) rfl ⟨.inl ⟨HE.out, _, _, rfl, HYF.out.2.1.mono (by have := HSZ.out; omega), HY.out.1⟩, HYF.out.2.2⟩

set_option maxHeartbeats 16000000 in
theorem drain1_c (v : Value) (over : Int) (l : List (Int × Int)) (most : Int) (W : World) (hv : CbOut NoS W v l) (ho : 0 ≤ over) (hmx : most ≤ 9223372036854775807) :
    Calls Try.prog 17 #[.agg #[v, .int .u64 over], .int .i64 most] W fun e w' => DrainA W.heap.size over l most e w' ∧ Below W.heap.size W w' := by
  obtain ⟨w0, hw0⟩ : ∃ X : World, X = (W.alloc (.cells #[v, .int .u64 over] 25)).alloc (.cells #[.slice none 0 0, .int .u64 0] 25) := ⟨_, rfl⟩
  have hb0 : Below W.heap.size W w0 := by rw [hw0]; exact below2 _ _ _
  have HF := Lib.hid (show QBox w0 W.heap.size v over ∧ QBox w0 (W.heap.size + 1) (.slice none 0 0) 0 ∧ Below W.heap.size W w0 ∧ w0.heap.size = W.heap.size + 2 from ⟨by rw [hw0]; exact (QBox.new W _ _).below (below1 _ _), by
      rw [hw0]
      have := QBox.new (W.alloc (.cells #[v, .int .u64 over] 25)) (.slice none 0 0) 0
      simpa using this, hb0, by rw [hw0]; simp⟩)
  have HV := Lib.hid (hv.below hb0)
  have HM := Lib.hid (may_c v over l w0 HV.out ho)
  obtain ⟨p, c, rfl, hlc, hcm, -⟩ := hv
  have HW0 := Lib.hid hw0
  obtain ⟨q0, q1⟩ := HF.out.1.cells
  clear hw0 hb0
  go_enter Try.func17, Try.ntmps17
  go_wp2_with fail
  rw [← HW0.out]
  clear HW0 q0 q1
  (with_reducible refine HM.out.mono ?_)
  rintro e w1 ⟨rfl, hb1⟩
  have H1 := Lib.hid (show QBox w1 W.heap.size (.slice p l.length c) over ∧ QBox w1 (W.heap.size + 1) (.slice none 0 0) 0 ∧ Below W.heap.size W w1 ∧ W.heap.size + 2 ≤ w1.heap.size ∧ CbOut NoS w1 (.slice p l.length c) l from ⟨HF.out.1.below hb1, HF.out.2.1.below hb1, below_then HF.out.2.2.1 HF.out.2.2.1.size hb1, by have := HF.out.2.2.2; have := hb1.size; omega, HV.out.below hb1⟩)
  clear hb1 HF HV HM
  obtain ⟨q0, q1⟩ := H1.out.1.cells
  obtain ⟨r0, r1⟩ := H1.out.2.1.cells
  have m0 := H1.out.2.1.marks 0
  have m1 := H1.out.2.1.marks 1
  have HP := Lib.hid (show QBox ((w1.setCell ⟨W.heap.size + 1, 0, none⟩ (.slice none 0 0)).setCell ⟨W.heap.size + 1, 1, none⟩ (.int .u64 0)) (W.heap.size + 1) (.slice none 0 0) 0 ∧ Below W.heap.size W ((w1.setCell ⟨W.heap.size + 1, 0, none⟩ (.slice none 0 0)).setCell ⟨W.heap.size + 1, 1, none⟩ (.int .u64 0)) from
    ⟨H1.out.2.1.put _ _, H1.out.2.2.1.trans ((QBox.putK w1 _ _ _).below (by have := H1.out.2.2.2.1; omega) (fun k e => by omega))⟩)
  cases hm : mayB over l with
  | false =>
    have HE := Lib.hid (show drainE over l most = 230 by unfold drainE; rw [hm]; rfl)
    go_wp2
    exact bodyPost_ret (results_ctt rfl _ _ _ rfl rfl rfl (queue_load HP.out.1)) rfl ⟨.inr ⟨by rw [HE.out]; decide, by rw [HE.out]; rfl⟩, HP.out.2⟩
  | true =>
    obtain ⟨hg1, hg2, -⟩ := may_parts hm
    have HE0 := Lib.hid (show drainE over l most = if most < 0 then 2 else 0 by unfold drainE; rw [hm]; rfl)
    clear hm
    by_cases hn0 : most < 0
    · have HE := Lib.hid (HE0.out.trans (if_pos hn0))
      go_wp2
      exact bodyPost_ret (results_ctt rfl _ _ _ rfl rfl rfl (queue_load HP.out.1)) rfl ⟨.inr ⟨by rw [HE.out]; decide, by rw [HE.out]; rfl⟩, HP.out.2⟩
    have hn1 : 0 ≤ most := by omega
    have HE := Lib.hid (HE0.out.trans (if_neg hn0))
    obtain ⟨mo, hmo⟩ : ∃ mo : Nat, most = (mo : Int) := ⟨most.toNat, by omega⟩
    have HMO := Lib.hid hmo
    have HD := Lib.hid (show Calls Try.prog 28 #[.agg #[.slice p l.length c, .int .u64 over], .int .i64 most] w1 fun e w' => DrainQ w1.heap.size over l mo e w' ∧ Below w1.heap.size w1 w' by rw [hmo]; exact drain_c (.slice p l.length c) over l mo w1 H1.out.2.2.2.2 (by omega) (by omega))
    clear HP r0 r1 m0 m1 hn0 HE0 hmo
    go_wp2_with fail
    (with_reducible refine HD.out.mono ?_)
    rintro e w2 ⟨⟨k, p2, c2, wp, wc, hk, rfl, ha, hf, hw⟩, hb2⟩
    obtain ⟨n, hn⟩ : ∃ n, n = l.length - k := ⟨_, rfl⟩
    rw [← hn] at ha hf ⊢
    obtain ⟨z, hz⟩ : ∃ z, z = w2.heap.size := ⟨_, rfl⟩
    obtain ⟨w3, hw3⟩ : ∃ X : World, X = w2.alloc (.cells #[.slice p2 n c2, .int .u64 over, .slice wp k wc] 61) := ⟨_, rfl⟩
    have hb3 : Below w2.heap.size w2 w3 := by rw [hw3]; exact below1 _ _
    have hb13 := below_then hb2 hb2.size hb3
    have HX := Lib.hid (show DrB w3 z (.slice p2 n c2) over (.slice wp k wc) ∧ OutQ w1.heap.size (.slice p2 n c2) (l.drop k) w3 ∧ w3.ownsRow w1.heap.size 23 1 (.slice wp k wc) k ((whats ((dones over l).take mo)).map (Value.int .u64)) ∧ QBox w3 (W.heap.size + 1) (.slice none 0 0) 0 ∧ Below W.heap.size W w3 ∧ W.heap.size + 2 ≤ w1.heap.size ∧ w1.heap.size ≤ z ∧ k = ((dones over l).take mo).length from
      ⟨by rw [hw3, hz]; exact World.alloc_heap_new _ _, ⟨ha.below hb3, hf.below hb3⟩, owns_below hw hb3, H1.out.2.1.below hb13, below_then H1.out.2.2.1 H1.out.2.2.1.size hb13, H1.out.2.2.2.1, by have := hb2.size; omega, hk⟩)
    have HW3 := Lib.hid (And.intro hw3 hz)
    clear ha hf hw hb2 hb3 hb13 hw3 hz HD H1 hk hn q0 q1
    go_upto_region 6 with fail
    rw [← HW3.out.1, ← HW3.out.2]
    clear HW3
    refine wpTwo_begin (T := fun w' => DrB w' z (.slice p2 n c2) over (.slice wp k wc)) (S := fun _ => True) (late := fun _ => false) (by kernel_rfl) ?_
    obtain ⟨X, hX⟩ : ∃ Y : World, Y = w3.drew := ⟨_, rfl⟩
    rw [← hX]
    have hbx : Below w3.heap.size w3 X := by rw [hX]; exact (Below.refl _ _).drew
    clear hX
    have hT0 : DrB X z (.slice p2 n c2) over (.slice wp k wc) := HX.out.1.below hbx
    have HZ := Lib.hid (show OutQ w1.heap.size (.slice p2 n c2) (l.drop k) X ∧ QBox X (W.heap.size + 1) (.slice none 0 0) 0 ∧ Below W.heap.size W X from ⟨HX.out.2.1.below hbx, HX.out.2.2.2.1.below hbx, below_then HX.out.2.2.2.2.1 HX.out.2.2.2.2.1.size hbx⟩)
    have HR := Lib.hid (owns_below HX.out.2.2.1 hbx)
    have HSZ := Lib.hid (show W.heap.size + 2 ≤ w1.heap.size ∧ w1.heap.size ≤ z ∧ k = ((dones over l).take mo).length from ⟨HX.out.2.2.2.2.2.1, HX.out.2.2.2.2.2.2.1, HX.out.2.2.2.2.2.2.2⟩)
    clear hbx HX
    refine wpTwo_takeT (i := 0) (v := .pointer (some ⟨z, 0, none⟩)) rfl (by kernel_rfl) (by kernel_rfl) (by kernel_rfl) (fun _ _ _ h => h) ⟨by rfl, ?_⟩ hT0 ?_
    · rintro w hTw
      obtain ⟨t0', t1', t2'⟩ := hTw.cells
      go_simp
    (try simp only [Act.put, List.getElem_toArray, List.getElem_cons_zero, List.setIfInBounds_toArray, List.set_cons_succ, List.set_cons_zero])
    refine wpTwo_takeT (i := 1) (v := .agg #[.slice p2 n c2, .int .u64 over]) rfl (by kernel_rfl) (by kernel_rfl) (by kernel_rfl) (fun _ _ _ h => h) ⟨by rfl, ?_⟩ hT0 ?_
    · rintro w hTw
      obtain ⟨t0', t1', t2'⟩ := hTw.cells
      go_simp
    (try simp only [Act.put, List.getElem_toArray, List.getElem_cons_succ, List.getElem_cons_zero, List.setIfInBounds_toArray, List.set_cons_succ, List.set_cons_zero])
    refine wpTwo_takeT (i := 2) (v := .pointer (some ⟨z, 2, none⟩)) rfl (by kernel_rfl) (by kernel_rfl) (by kernel_rfl) (fun _ _ _ h => h) ⟨by rfl, ?_⟩ hT0 ?_
    · rintro w hTw
      obtain ⟨t0', t1', t2'⟩ := hTw.cells
      go_simp
    (try simp only [Act.put, List.getElem_toArray, List.getElem_cons_succ, List.getElem_cons_zero, List.setIfInBounds_toArray, List.set_cons_succ, List.set_cons_zero])
    refine wpTwo_takeT (i := 3) (v := .slice wp k wc) rfl (by kernel_rfl) (by kernel_rfl) (by kernel_rfl) (fun _ _ _ h => h) ⟨by rfl, ?_⟩ hT0 ?_
    · rintro w hTw
      obtain ⟨t0', t1', t2'⟩ := hTw.cells
      go_simp
    (try simp only [Act.put, List.getElem_toArray, List.getElem_cons_succ, List.getElem_cons_zero, List.setIfInBounds_toArray, List.set_cons_succ, List.set_cons_zero])
    obtain ⟨r0, r1⟩ := HZ.out.2.1.cells
    have m0 := HZ.out.2.1.marks 0
    have m1 := HZ.out.2.1.marks 1
    obtain ⟨Y, hY⟩ : ∃ Y : World, Y = (X.setCell ⟨W.heap.size + 1, 0, none⟩ (.slice p2 n c2)).setCell ⟨W.heap.size + 1, 1, none⟩ (.int .u64 over) := ⟨_, rfl⟩
    have hky : Keeps (fun k => k = W.heap.size + 1) X Y := by rw [hY]; exact QBox.putK _ _ _ _
    have HYF := Lib.hid (show QBox Y (W.heap.size + 1) (.slice p2 n c2) over ∧ OutQ w1.heap.size (.slice p2 n c2) (l.drop k) Y ∧ Below W.heap.size W Y from ⟨by rw [hY]; exact HZ.out.2.1.put _ _, HZ.out.1.keep1 hky HZ.out.2.1 (by have := HSZ.out; omega), HZ.out.2.2.trans (hky.below HZ.out.2.2.size (fun k e => by omega))⟩)
    have HRY := Lib.hid (hky.row HR.out (fun g e => by have := (HR.out.lt g e).1; have := HSZ.out; omega))
    have hT1 : DrB Y z (.slice p2 n c2) over (.slice wp k wc) := hT0.keeps hky (by have := HSZ.out; omega)
    have HYY := Lib.hid hY
    clear hY hky
    refine wpTwo_ready (rs := [4]) (by kernel_rfl) (by simp) ?_
    refine (AllTwo.cons rfl (fun K hK => ?_) AllTwo.nil)
    go_simp
    rw [← HYY.out]
    refine hK.out _ _ ⟨hT1, fun _ _ => trivial⟩ ?_
    clear hK K hT0 r0 r1 m0 m1 HYY HZ
    (try simp only [Act.put, List.getElem_toArray, List.getElem_cons_succ, List.getElem_cons_zero, List.setIfInBounds_toArray, List.set_cons_succ, List.set_cons_zero])
    refine wpTwo_takeT (i := 5) (v := .slice wp k wc) rfl (by kernel_rfl) (by kernel_rfl) (by kernel_rfl) (fun _ _ _ h => h) ⟨by rfl, ?_⟩ hT1 ?_
    · rintro w -
      go_simp
    (try simp only [Act.put, List.getElem_toArray, List.getElem_cons_succ, List.getElem_cons_zero, List.setIfInBounds_toArray, List.set_cons_succ, List.set_cons_zero])
    refine wpTwo_takeT (i := 6) (v := .int .i64 0) rfl (by kernel_rfl) (by kernel_rfl) (by kernel_rfl) (fun _ _ _ h => h) ⟨by rfl, ?_⟩ hT1 ?_
    · rintro w -
      go_simp
    (try simp only [Act.put, List.getElem_toArray, List.getElem_cons_succ, List.getElem_cons_zero, List.setIfInBounds_toArray, List.set_cons_succ, List.set_cons_zero])
    refine wpTwo_end (by kernel_rfl) ?_ _
    clear hT1
    go_wp2
    have em : most.toNat = mo := by rw [HMO.out]; rfl
    exact bodyPost_ret (results_ctt rfl _ _ _ rfl rfl rfl (queue_load HYF.out.1)) rfl ⟨.inl ⟨HE.out, k, _, wp, wc, by rw [em]; exact HSZ.out.2.2, rfl, HYF.out.2.1.mono (by have := HSZ.out; omega), by rw [em]; exact HRY.out.mono (by have := HSZ.out; omega)⟩, HYF.out.2.2⟩

end Go.Proofs.Ytdagcimkajmkaaa
/-
  The first test of the statements of layer 13: it answers true.
  Conditions: none.
-/
namespace Go.Proofs.Ytdagcimkajmkaaa
set_option maxRecDepth 100000
open Go.RowKit Go.Shelf
attribute [local go_sem] Oper.semAt_some

theorem ansQ_row {B : Nat} {E over : Int} {l : List (Int × Int)} {e : Ending} {w : World} (h : AnsQ B E over l e w) : ∃ p c, e = .returned (.tuple #[.agg #[.slice p l.length c, .int .u64 over], .int .i64 E]) ∧ w.ownsRow B 53 2 (.slice p l.length c) l.length (cvs l) := by
  obtain ⟨v, rfl, h⟩ := h
  obtain ⟨p, c, rfl⟩ := owns_slice h
  exact ⟨p, c, rfl, h⟩
theorem putQ_ok {B : Nat} {over : Int} {l : List (Int × Int)} {x ahead : Int} {e : Ending} {w : World} (h : PutQ B over l x ahead e w) (hE : putE over l ahead = 0) : AnsQ B 0 over (l ++ [(over + ahead, x)]) e w := by
  rcases h with h | h
  · exact h.2
  · exact absurd hE h.1
theorem putQ_no {B : Nat} {over : Int} {l : List (Int × Int)} {x ahead : Int} {e : Ending} {w : World} (h : PutQ B over l x ahead e w) {E : Int} (hE : putE over l ahead = E) (h0 : E ≠ 0) : AnsQ B E 0 [] e w := by
  rcases h with h | h
  · exact absurd (hE.symm.trans h.1) h0
  · rw [hE] at h; exact h.2
theorem endQ_ok {B : Nat} {over : Int} {l : List (Int × Int)} {x : Int} {e : Ending} {w : World} (h : EndQ B over l x e w) (hE : endE over l x = 0) : AnsQ B 0 x l e w := by
  rcases h with h | h
  · exact h.2
  · exact absurd hE h.1
theorem takeA_ok {B : Nat} {over : Int} {l : List (Int × Int)} {e : Ending} {w : World} {y : Int} (h : TakeA B over l e w) (hE : takeE over l = 0) (hy : whats ((dones over l).take 1) = [y]) : ∃ p n c, e = .returned (.tuple #[.agg #[.slice p n c, .int .u64 over], .int .u64 y, .int .i64 0]) ∧ OutQ B (.slice p n c) (l.drop 1) w := by
  rcases h with ⟨_, v, x, rfl, ho, hx⟩ | h
  · rw [hy] at hx
    injection hx with hx _
    subst hx
    obtain ⟨p, c, rfl, _⟩ := id ho.1
    exact ⟨p, _, c, rfl, ho⟩
  · exact absurd hE h.1
theorem takeA_no {B : Nat} {over : Int} {l : List (Int × Int)} {e : Ending} {w : World} {E : Int} (h : TakeA B over l e w) (hE : takeE over l = E) (h0 : E ≠ 0) : e = .returned (.tuple #[.agg #[.slice none 0 0, .int .u64 0], .int .u64 0, .int .i64 E]) := by
  rcases h with h | h
  · exact absurd (hE.symm.trans h.1) h0
  · rw [hE] at h; exact h.2
theorem drainA_ok {B : Nat} {over : Int} {l : List (Int × Int)} {most : Int} {e : Ending} {w : World} (h : DrainA B over l most e w) (hE : drainE over l most = 0) : ∃ k p n c wp wc, k = ((dones over l).take most.toNat).length ∧ e = .returned (.tuple #[.agg #[.slice p n c, .int .u64 over], .slice wp k wc, .int .i64 0]) ∧ OutQ B (.slice p n c) (l.drop k) w ∧ w.ownsRow B 23 1 (.slice wp k wc) k ((whats ((dones over l).take most.toNat)).map (Value.int .u64)) := by
  rcases h with ⟨_, k, v, wp, wc, hk, rfl, ho, hw⟩ | h
  · obtain ⟨p, c, rfl, _⟩ := id ho.1
    exact ⟨k, p, _, c, wp, wc, hk, rfl, ho, hw⟩
  · exact absurd hE h.1
theorem drainA_no {B : Nat} {over : Int} {l : List (Int × Int)} {most : Int} {e : Ending} {w : World} {E : Int} (h : DrainA B over l most e w) (hE : drainE over l most = E) (h0 : E ≠ 0) : e = .returned (.tuple #[.agg #[.slice none 0 0, .int .u64 0], .slice none 0 0, .int .i64 E]) := by
  rcases h with h | h
  · exact absurd (hE.symm.trans h.1) h0
  · rw [hE] at h; exact h.2
/-- The queue between two steps. -/
structure WqA (W : World) (z : Nat) (over : Int) (l : List (Int × Int)) (p : Option Addr) (n c : Nat) (w : World) : Prop where
  q : QBox w z (.slice p n c) over
  cb : CbOut NoS w (.slice p n c) l
  b : Below W.heap.size W w
  z0 : W.heap.size ≤ z
theorem WqA.below {W : World} {z : Nat} {over : Int} {l : List (Int × Int)} {p : Option Addr} {n c : Nat} {w w' : World} (h : WqA W z over l p n c w) (hb : Below w.heap.size w w') : WqA W z over l p n c w' := ⟨h.q.below hb, h.cb.below hb, below_then h.b h.b.size hb, h.z0⟩
/-- Another one is stored. -/
theorem WqA.store {W : World} {z : Nat} {over over' : Int} {l l' : List (Int × Int)} {p p' : Option Addr} {n c n' c' B : Nat} {w : World} (h : WqA W z over l p n c w) (ho : w.ownsRow B 53 2 (.slice p' n' c') n' (cvs l')) (hB : z < B) :
    WqA W z over' l' p' n' c' ((w.setCell ⟨z, 0, none⟩ (.slice p' n' c')).setCell ⟨z, 1, none⟩ (.int .u64 over')) := by
  have hk := QBox.putK w z (.slice p' n' c') over'
  have hz0 := h.z0
  have := hk.row ho (fun g e => by have := (ho.lt g e).1; omega)
  exact ⟨h.q.put _ _, (cb_of_owns this).sub (fun _ h => h.elim), h.b.trans (hk.below h.b.size (fun k e => by omega)), h.z0⟩
theorem WqA.new {W w : World} {over : Int} {l : List (Int × Int)} {p : Option Addr} {n c B : Nat} (hb : Below W.heap.size W w) (ho : w.ownsRow B 53 2 (.slice p n c) n (cvs l)) :
    WqA W w.heap.size over l p n c (w.alloc (.cells #[.slice p n c, .int .u64 over] 25)) :=
  ⟨QBox.new _ _ _, ((cb_of_owns ho).below (below1 _ _)).sub (fun _ h => h.elim), below_then hb hb.size (below1 _ _), hb.size⟩
theorem run_seg_eq (w : World) : (binOp .eql 48 (.agg #[.int .i64 0, .int .i64 1, .int .i64 1]) (.agg #[.int .i64 0, .int .i64 1, .int .i64 1])).run Try.prog w = .ok (.bool true) w := by kernel_rfl

set_option maxHeartbeats 16000000 in
theorem wakes_c (W : World) : Calls Try.prog 7 #[] W fun e w' => e = .returned (.bool true) ∧ Below W.heap.size W w' := by
  go_enter Try.func7, Try.ntmps7
  go_wp2_with fail
  (with_reducible refine (new_c 4 W).mono ?_)
  rintro e w1 ⟨hq, hb1⟩
  rw [show newE 4 = 0 from rfl, if_pos rfl] at hq
  obtain ⟨p1, c1, rfl, o1⟩ := ansQ_row hq
  simp only [List.length_nil] at o1 ⊢
  obtain ⟨z, hz⟩ : ∃ z, z = w1.heap.size := ⟨_, rfl⟩
  obtain ⟨w2, hw2⟩ : ∃ X : World, X = w1.alloc (.cells #[.slice p1 0 c1, .int .u64 4] 25) := ⟨_, rfl⟩
  have HQ2 := Lib.hid (show WqA W z 4 [] p1 0 c1 w2 by rw [hw2, hz]; exact WqA.new hb1 o1)
  have HW2 := Lib.hid (And.intro hw2 hz)
  clear hq o1 hb1 hw2 hz
  obtain ⟨q0, q1⟩ := HQ2.out.q.cells
  rw [HW2.out.1, HW2.out.2] at q0 q1
  go_wp2_with fail
  rw [← HW2.out.1, ← HW2.out.2]
  clear HW2 q0 q1
  (with_reducible refine (put_c _ 4 [] 7 1 w2 HQ2.out.cb (by decide)).mono ?_)
  rintro e w3 ⟨hq, hb⟩
  obtain ⟨p3, c3, rfl, o⟩ := ansQ_row (putQ_ok hq (by decide))
  obtain ⟨w4, hw⟩ : ∃ X : World, X = (w3.setCell ⟨z, 0, none⟩ (.slice p3 1 c3)).setCell ⟨z, 1, none⟩ (.int .u64 4) := ⟨_, rfl⟩
  have hq1 := HQ2.out.below hb
  have HQ4 := Lib.hid (show WqA W z 4 [(5, 7)] p3 1 c3 w4 by rw [hw]; exact hq1.store o HQ2.out.q.lt)
  obtain ⟨q0, q1⟩ := hq1.q.cells
  have m0 := hq1.q.marks 0
  have m1 := hq1.q.marks 1
  have HW := Lib.hid hw
  clear hq o hb hw hq1 HQ2
  go_upto_region 3 with fail
  rw [← HW.out]
  clear HW q0 q1 m0 m1
  obtain ⟨q0, q1⟩ := HQ4.out.q.cells
  go_wp2_with fail
  (with_reducible refine (put_c _ 4 [(5, 7)] 8 2 w4 HQ4.out.cb (by decide)).mono ?_)
  rintro e w5 ⟨hq, hb⟩
  obtain ⟨p5, c5, rfl, o⟩ := ansQ_row (putQ_ok hq (by decide))
  obtain ⟨w6, hw⟩ : ∃ X : World, X = (w5.setCell ⟨z, 0, none⟩ (.slice p5 2 c5)).setCell ⟨z, 1, none⟩ (.int .u64 4) := ⟨_, rfl⟩
  have hq1 := HQ4.out.below hb
  have HQ6 := Lib.hid (show WqA W z 4 [(5, 7), (6, 8)] p5 2 c5 w6 by rw [hw]; exact hq1.store o HQ4.out.q.lt)
  obtain ⟨q0, q1⟩ := hq1.q.cells
  have m0 := hq1.q.marks 0
  have m1 := hq1.q.marks 1
  have HW := Lib.hid hw
  clear hq o hb hw hq1 HQ4
  go_upto_region 4 with fail
  rw [← HW.out]
  clear HW q0 q1 m0 m1
  obtain ⟨q0, q1⟩ := HQ6.out.q.cells
  go_wp2_with fail
  (with_reducible refine (put_c _ 4 [(5, 7), (6, 8)] 9 1 w6 HQ6.out.cb (by decide)).mono ?_)
  rintro e w7 ⟨hq, hb⟩
  obtain ⟨px, cx, rfl, -⟩ := ansQ_row (putQ_no hq (show putE 4 [(5, 7), (6, 8)] 1 = 2 by decide) (by decide))
  simp only [List.length_nil]
  obtain ⟨w8, hw⟩ : ∃ X : World, X = w7.alloc (.cells #[.slice px 0 cx, .int .u64 0] 25) := ⟨_, rfl⟩
  have HQ8 := Lib.hid ((HQ6.out.below hb).below (show Below w7.heap.size w7 w8 by rw [hw]; exact below1 _ _))
  have HW := Lib.hid hw
  clear hq hb hw HQ6 q0 q1
  go_upto_region 5 with fail
  rw [← HW.out]
  clear HW
  obtain ⟨q0, q1⟩ := HQ8.out.q.cells
  go_wp2_with fail
  (with_reducible refine (take1_c _ 4 [(5, 7), (6, 8)] w8 HQ8.out.cb (by decide)).mono ?_)
  rintro e w9 ⟨hq, hb⟩
  obtain rfl := takeA_no hq (show takeE 4 [(5, 7), (6, 8)] = 4 by decide) (by decide)
  obtain ⟨w10, hw⟩ : ∃ X : World, X = w9.alloc (.cells #[.slice none 0 0, .int .u64 0] 25) := ⟨_, rfl⟩
  have HQ10 := Lib.hid ((HQ8.out.below hb).below (show Below w9.heap.size w9 w10 by rw [hw]; exact below1 _ _))
  have HW := Lib.hid hw
  clear hq hb hw HQ8 q0 q1
  go_upto_region 6 with fail
  rw [← HW.out]
  clear HW
  obtain ⟨q0, q1⟩ := HQ10.out.q.cells
  go_wp2_with fail
  (with_reducible refine (end_c _ 4 [(5, 7), (6, 8)] 5 w10 HQ10.out.cb (by decide)).mono ?_)
  rintro e w11 ⟨hq, hb⟩
  obtain ⟨py10, cy10, rfl, o⟩ := ansQ_row (endQ_ok hq (by decide))
  obtain ⟨zy10, hz⟩ : ∃ z, z = w11.heap.size := ⟨_, rfl⟩
  obtain ⟨w12, hw⟩ : ∃ X : World, X = w11.alloc (.cells #[.slice py10 2 cy10, .int .u64 5] 25) := ⟨_, rfl⟩
  have HQ12 := Lib.hid ((HQ10.out.below hb).below (show Below w11.heap.size w11 w12 by rw [hw]; exact below1 _ _))
  have HE12 := Lib.hid (show WqA W zy10 5 [(5, 7), (6, 8)] py10 2 cy10 w12 by rw [hw, hz]; exact WqA.new (HQ10.out.below hb).b o)
  have HW := Lib.hid (And.intro hw hz)
  clear hq hb hw hz o HQ10 q0 q1
  go_upto_region 7 with fail
  rw [← HW.out.1, ← HW.out.2]
  clear HW
  obtain ⟨q0, q1⟩ := HE12.out.q.cells
  go_wp2_with fail
  (with_reducible refine (take1_c _ 5 [(5, 7), (6, 8)] w12 HE12.out.cb (by decide)).mono ?_)
  rintro e w13 ⟨hq, hb⟩
  obtain ⟨pt, nt, ct, rfl, -⟩ := takeA_ok (y := 7) hq (by decide) rfl
  obtain ⟨w14, hw⟩ : ∃ X : World, X = w13.alloc (.cells #[.slice pt nt ct, .int .u64 5] 25) := ⟨_, rfl⟩
  have HQ14 := Lib.hid ((HQ12.out.below hb).below (show Below w13.heap.size w13 w14 by rw [hw]; exact below1 _ _))
  have HW := Lib.hid hw
  clear hq hb hw HQ12 HE12 q0 q1
  go_upto_region 8 with fail
  rw [← HW.out]
  clear HW
  obtain ⟨q0, q1⟩ := HQ14.out.q.cells
  go_wp2_with fail
  (with_reducible refine (end_c _ 4 [(5, 7), (6, 8)] 6 w14 HQ14.out.cb (by decide)).mono ?_)
  rintro e w15 ⟨hq, hb⟩
  obtain ⟨py14, cy14, rfl, o⟩ := ansQ_row (endQ_ok hq (by decide))
  obtain ⟨zy14, hz⟩ : ∃ z, z = w15.heap.size := ⟨_, rfl⟩
  obtain ⟨w16, hw⟩ : ∃ X : World, X = w15.alloc (.cells #[.slice py14 2 cy14, .int .u64 6] 25) := ⟨_, rfl⟩
  have HQ16 := Lib.hid ((HQ14.out.below hb).below (show Below w15.heap.size w15 w16 by rw [hw]; exact below1 _ _))
  have HE16 := Lib.hid (show WqA W zy14 6 [(5, 7), (6, 8)] py14 2 cy14 w16 by rw [hw, hz]; exact WqA.new (HQ14.out.below hb).b o)
  have HW := Lib.hid (And.intro hw hz)
  clear hq hb hw hz o HQ14 q0 q1
  go_upto_region 9 with fail
  rw [← HW.out.1, ← HW.out.2]
  clear HW
  obtain ⟨q0, q1⟩ := HE16.out.q.cells
  go_wp2_with fail
  (with_reducible refine (drain1_c _ 6 [(5, 7), (6, 8)] 5 w16 HE16.out.cb (by decide) (by decide)).mono ?_)
  rintro e w17 ⟨hq, hb⟩
  obtain ⟨k, pd, nd, cd, wp, wc, hk, rfl, -, hw⟩ := drainA_ok hq (by decide)
  obtain rfl : k = 2 := hk
  have hrow : NumsAt w17 .u64 (.slice wp 2 wc) [7, 8] := nums_of_owns rfl hw
  obtain ⟨w18, hw18⟩ : ∃ X : World, X = w17.alloc (.cells #[.slice pd nd cd, .int .u64 6] 25) := ⟨_, rfl⟩
  have hb18 : Below w17.heap.size w17 w18 := by rw [hw18]; exact below1 _ _
  have HQ18 := Lib.hid ((HQ16.out.below hb).below hb18)
  have HR18 := Lib.hid (nums_below hrow hb18)
  have HW := Lib.hid hw18
  clear hq hb hw HQ16 HE16 q0 q1 hrow hw18 hb18
  go_upto_region 10 with fail
  rw [← HW.out]
  clear HW
  obtain ⟨q0, q1⟩ := HQ18.out.q.cells
  have hseq := run_seg_eq
  go_wp2_with fail
  have hc := segments_c (.slice p5 2 c5) 4 [(5, 7), (6, 8)] w18 HQ18.out.cb (by decide)
  rw [show segV 4 [(5, 7), (6, 8)] = .agg #[.int .i64 0, .int .i64 1, .int .i64 1] from rfl] at hc
  (with_reducible refine hc.mono ?_)
  rintro e w19 ⟨rfl, hb⟩
  have HB19 := Lib.hid (below_then HQ18.out.b HQ18.out.b.size hb)
  have HR19 := Lib.hid (nums_below HR18.out hb)
  clear hb hc q0 q1 HQ18 HR18
  go_wp2_with fail
  obtain ⟨w20, hw20⟩ : ∃ X : World, X = w19.alloc (.cells #[.int .u64 7, .int .u64 8] 23) := ⟨_, rfl⟩
  have hb20 : Below w19.heap.size w19 w20 := by rw [hw20]; exact below1 _ _
  have hlit : NumsAt w20 .u64 (.slice (some ⟨w19.heap.size, 0, none⟩) 2 2) [7, 8] := by
    refine ⟨_, _, rfl, fun _ => ⟨_, 0, rfl, fun i hi => ?_⟩⟩
    rw [hw20]
    have hi : i < 2 := hi
    rcases (show i = 0 ∨ i = 1 by omega) with rfl | rfl <;> simp
  have hc := equalW_c (.slice wp 2 wc) (.slice (some ⟨w19.heap.size, 0, none⟩) 2 2) [7, 8] [7, 8] w20 (nums_below HR19.out hb20) hlit (by decide) (by decide)
  rw [decide_eq_true (rfl : ([7, 8] : List Int) = [7, 8])] at hc
  have HB20 := Lib.hid (below_then HB19.out HB19.out.size hb20)
  rw [← hw20]
  (with_reducible refine hc.mono ?_)
  rintro e w21 ⟨rfl, hb⟩
  have HB21 := Lib.hid (below_then HB20.out HB20.out.size hb)
  clear hb hc hw20 hb20 hlit
  go_wp2
  go_ret
  exact ⟨rfl, HB21.out⟩

end Go.Proofs.Ytdagcimkajmkaaa
namespace Go.Proofs.Ytdagcimkajmkaaa
set_option maxRecDepth 100000
open Go.RowKit Go.Shelf
attribute [local go_sem] Oper.semAt_some

/-- Do they not fall, from this one on? -/
def srtB : Int → List (Int × Int) → Bool
  | _, [] => true
  | least, c :: l => decide (least ≤ c.1) && srtB c.1 l
theorem srt_step (least : Int) (l : List (Int × Int)) (i : Nat) (h : i < l.length) : srtB least (l.drop i) = (decide (least ≤ l[i].1) && srtB l[i].1 (l.drop (i + 1))) := by
  rw [List.drop_eq_getElem_cons h]
  rfl
theorem up_iff (over : Int) : ∀ (l : List (Int × Int)) (least : Int), upB over least l = true ↔ srtB least l = true ∧ ∀ c ∈ l, c.1 ≤ over + 2
  | [], least => by simp [upB, srtB]
  | c :: l, least => by
    have := up_iff over l c.1
    simp only [upB, srtB, allowsB, Bool.and_eq_true, decide_eq_true_eq, this, List.mem_cons, forall_eq_or_imp]
    constructor
    · rintro ⟨⟨h1, h2⟩, h3, h4⟩; exact ⟨⟨h1, h3⟩, h2, h4⟩
    · rintro ⟨⟨h1, h3⟩, h2, h4⟩; exact ⟨⟨h1, h2⟩, h3, h4⟩
theorem srt_last : ∀ (l : List (Int × Int)) (least : Int), srtB least l = true → ∀ c ∈ l, least ≤ c.1 ∧ c.1 ≤ lastP l
  | [], _, _, c, hc => by cases hc
  | [a], least, h, c, hc => by
    simp [srtB] at h
    simp at hc
    subst hc
    exact ⟨h, by simp [lastP]⟩
  | a :: b :: l, least, h, c, hc => by
    have e : lastP (a :: b :: l) = lastP (b :: l) := by simp [lastP]
    have h' : least ≤ a.1 ∧ srtB a.1 (b :: l) = true := by
      have : (decide (least ≤ a.1) && srtB a.1 (b :: l)) = true := h
      simpa using this
    have ih := srt_last (b :: l) a.1 h'.2
    rw [e]
    rcases List.mem_cons.1 hc with rfl | hc
    · exact ⟨h'.1, Int.le_trans (ih b (List.mem_cons_self ..)).1 (ih b (List.mem_cons_self ..)).2⟩
    · exact ⟨Int.le_trans h'.1 (ih c hc).1, (ih c hc).2⟩
theorem lastP_mem {l : List (Int × Int)} (h : l ≠ []) : ∃ c ∈ l, lastP l = c.1 := by
  unfold lastP
  rw [dif_neg h]
  exact ⟨_, List.getElem_mem _, rfl⟩
theorem may_srt (over : Int) (l : List (Int × Int)) (ho : 0 ≤ over) : mayB over l = (srtB 0 l && decide (over ≤ 9223372036854775806) && decide (l.length ≤ 16) && decide (lastP l ≤ over + 2)) := by
  have h : upB over 0 l = (srtB 0 l && decide (lastP l ≤ over + 2)) := by
    rw [Bool.eq_iff_iff, up_iff, Bool.and_eq_true, decide_eq_true_eq]
    constructor
    · rintro ⟨h1, h2⟩
      refine ⟨h1, ?_⟩
      by_cases he : l = []
      · subst he; simp [lastP]; omega
      · obtain ⟨c, hc, e⟩ := lastP_mem he
        rw [e]; exact h2 c hc
    · rintro ⟨h1, h2⟩
      exact ⟨h1, fun c hc => Int.le_trans (srt_last l 0 h1 c hc).2 h2⟩
  unfold mayB
  rw [h]
  cases srtB 0 l <;> cases decide (over ≤ 9223372036854775806) <;> cases decide (l.length ≤ 16) <;> simp

set_option maxHeartbeats 16000000 in
theorem right_c (v : Value) (over : Int) (l : List (Int × Int)) (W : World) (hv : CbOut NoS W v l) (ho : 0 ≤ over) (hr : ∀ c ∈ l, 0 ≤ c.1) :
    Calls Try.prog 9 #[.agg #[v, .int .u64 over]] W fun e w' => e = .returned (.bool (mayB over l)) ∧ Below W.heap.size W w' := by
  obtain ⟨R, hR⟩ : ∃ R, R = mayB over l := ⟨_, rfl⟩
  rw [← hR]
  rw [may_srt over l ho] at hR
  obtain ⟨p, c, rfl, hlc, hcm, -⟩ := id hv
  obtain ⟨n, hn⟩ : ∃ n, n = l.length := ⟨_, rfl⟩
  rw [← hn] at hlc hv hR ⊢
  have HI := Lib.hid (show QBox (W.alloc (.cells #[.slice p n c, .int .u64 over] 25)) W.heap.size (.slice p n c) over ∧ CbOut NoS (W.alloc (.cells #[.slice p n c, .int .u64 over] 25)) (.slice p n c) l ∧ Below W.heap.size W (W.alloc (.cells #[.slice p n c, .int .u64 over] 25)) from ⟨QBox.new W _ _, hv.below (below1 _ _), below1 _ _⟩)
  have HN := Lib.hid hn
  have HR := Lib.hid hR
  have HG := Lib.hid hr
  clear hv hR hn hr
  go_enter Try.func9, Try.ntmps9
  go_wp2
  go_loopw [8] (fun iv wr => ∃ i : Nat, i ≤ n ∧ iv = .int .i64 (i : Int) ∧ Hid (QBox wr W.heap.size (.slice p n c) over ∧ CbOut NoS wr (.slice p n c) l ∧ Below W.heap.size W wr) ∧ Hid (srtB 0 l = srtB (lastP (l.take i)) (l.drop i))) (fun iv _ => n - (intOf iv).toNat)
  case atStart => exact ⟨0, Nat.zero_le _, rfl, HI, Lib.hid (by simp [lastP])⟩
  case round =>
    clear HI
    obtain ⟨i, hi, rfl, HX, HU⟩ := hrel
    by_cases hlt : i < n
    · have hil : i < l.length := by have := HN.out; omega
      have hne : l ≠ [] := by rintro rfl; simp at hil
      obtain ⟨p', cap', e, -, -, hc⟩ := HX.out.2.1
      injection e with e1 e2 e3
      subst e1 e3
      obtain ⟨b, off, rfl, -, hcs⟩ := hc hne
      obtain ⟨hx, hy⟩ := hcs i hil
      have hst := srt_step (lastP (l.take i)) l i hil
      have hlp := lastP_take l i hil
      have hx0 := HG.out l[i] (List.getElem_mem _)
      obtain ⟨x, hxe⟩ : ∃ x, x = l[i].1 := ⟨_, rfl⟩
      obtain ⟨y, hye⟩ : ∃ y, y = l[i].2 := ⟨_, rfl⟩
      rw [← hxe] at hx hst hlp hx0
      rw [← hye] at hy
      have hbl := World.block_lt_of_cell? wr _ hx
      have HST := Lib.hid (And.intro hst hlp)
      obtain ⟨w1, hw1⟩ : ∃ X : World, X = wr.alloc (.cells #[.int .u64 x, .int .u64 y] 53) := ⟨_, rfl⟩
      have hb1 : Below wr.heap.size wr w1 := by rw [hw1]; exact below1 _ _
      have HC1 := Lib.hid (show CBox w1 wr.heap.size x y ∧ QBox w1 W.heap.size (.slice (some ⟨b, off, none⟩) n c) over ∧ CbOut NoS w1 (.slice (some ⟨b, off, none⟩) n c) l ∧ Below W.heap.size W w1 from ⟨by rw [hw1]; exact CBox.new wr x y, HX.out.1.below hb1, HX.out.2.1.below hb1, below_then HX.out.2.2 HX.out.2.2.size hb1⟩)
      have HC1n := Lib.hid (fun j => (show QBox (w1.drewN j) W.heap.size (.slice (some ⟨b, off, none⟩) n c) over ∧ CbOut NoS (w1.drewN j) (.slice (some ⟨b, off, none⟩) n c) l ∧ Below W.heap.size W (w1.drewN j) from ⟨HC1.out.2.1.below (below_drewN (Below.refl _ _) j), HC1.out.2.2.1.below (below_drewN (Below.refl _ _) j), below_drewN HC1.out.2.2.2 j⟩))
      have HW1 := Lib.hid hw1
      have hi0 : (0 : Int) ≤ (i : Int) := by omega
      have hlt' : (i : Int) < (n : Int) := by omega
      obtain ⟨q0, q1⟩ := HX.out.1.cells
      cases i with
      | zero =>
        have HU2 := Lib.hid (show srtB 0 l = srtB (lastP (l.take 1)) (l.drop 1) by rw [HU.out, HST.out.1, HST.out.2, decide_eq_true (by simp [lastP]; omega), Bool.true_and])
        simp only [Nat.zero_mul, Nat.add_zero] at hx hy hbl
        clear hc hcs hst hlp hxe hye hw1 hne e2 hb1 hx0
        go_upto_region 4 with fail
        rw [← HW1.out]
        clear HW1 q0 q1 hx hy hbl hi0 hlt'
        go_quiet (fail)
        go_wp2
        all_goals
          go_roundw
          case rel => exact ⟨1, by omega, by go_num, Lib.hid (HC1n.out _), HU2⟩
          case measure => simp [intOf]; omega
      | succ k =>
        have hkl : k < l.length := by omega
        have hp := (hcs k hkl).1
        have hlk := lastP_take l k hkl
        obtain ⟨u, hue⟩ : ∃ u, u = l[k].1 := ⟨_, rfl⟩
        rw [← hue] at hp hlk
        have hp1 := below_cell hb1 hp
        have HLK := Lib.hid hlk
        clear hc hcs hst hlp hxe hye hw1 hne e2 hb1 hx0 hlk hue hp
        go_upto_region 4 with fail
        rw [← HW1.out]
        clear HW1 q0 q1 hx hy hbl
        obtain ⟨cz, hcz⟩ : ∃ z, z = wr.heap.size := ⟨_, rfl⟩
        rw [← hcz] at HC1 ⊢
        clear hcz
        obtain ⟨q0, q1⟩ := HC1.out.2.1.cells
        obtain ⟨k0, k1⟩ := HC1.out.1.cells
        by_cases hux : x < u
        · have hr : R = false := by
            rw [HR.out, HU.out, HST.out.1, HLK.out, decide_eq_false (by omega)]
            simp
          have HRF := Lib.hid hr
          clear hr
          go_quiet (fail)
          go_wp2
          all_goals go_ret
          all_goals exact ⟨ret_bool HRF.out.symm, (HC1n.out _).2.2⟩
        · have hux' : u ≤ x := by omega
          have HU2 := Lib.hid (show srtB 0 l = srtB (lastP (l.take (k + 1 + 1))) (l.drop (k + 1 + 1)) by rw [HU.out, HST.out.1, HST.out.2, HLK.out, decide_eq_true (by omega), Bool.true_and])
          clear hux
          go_quiet (fail)
          go_wp2
          all_goals
            go_roundw
            case rel => exact ⟨k + 1 + 1, by omega, by go_num, Lib.hid (HC1n.out _), HU2⟩
            case measure => simp [intOf]; omega
    · have hin : i = n := by omega
      have HS := Lib.hid (show srtB 0 l = true by rw [HU.out, hin, HN.out, List.drop_length]; rfl)
      obtain ⟨q0, q1⟩ := HX.out.1.cells
      by_cases h1 : 9223372036854775806 < over
      · have HRF := Lib.hid (show R = false by rw [HR.out, decide_eq_false (show ¬ over ≤ 9223372036854775806 by omega)]; simp)
        go_wp2
        go_ret
        exact ⟨ret_bool HRF.out.symm, HX.out.2.2⟩
      have h1' : over ≤ 9223372036854775806 := by omega
      by_cases h2 : 16 < n
      · have HRF := Lib.hid (show R = false by rw [HR.out, decide_eq_false (show ¬ n ≤ 16 by omega)]; simp)
        have h2' : (16 : Int) < (n : Int) := by omega
        go_wp2
        go_ret
        exact ⟨ret_bool HRF.out.symm, HX.out.2.2⟩
      have h2' : (n : Int) ≤ 16 := by omega
      have HRL := Lib.hid (show R = decide (lastP l ≤ over + 2) by rw [HR.out, HS.out, decide_eq_true h1', decide_eq_true (show n ≤ 16 by omega)]; simp)
      have hwr : IntKind.u64.wrap (over + 2) = over + 2 := wrap_u64 _ (by omega) (by omega)
      have HXn := Lib.hid (fun j => below_drewN HX.out.2.2 j)
      clear hin
      by_cases h0 : n = 0
      · have HRT := Lib.hid (show R = true by
          have hl0 : l = [] := List.eq_nil_of_length_eq_zero (by have := HN.out; omega)
          rw [HRL.out, hl0, decide_eq_true]
          simp [lastP]; omega)
        subst h0
        go_upto_region 9 with fail
        go_quiet (fail)
        go_wp2
        all_goals go_ret
        all_goals exact ⟨ret_bool HRT.out.symm, HXn.out _⟩
      · obtain ⟨m, rfl⟩ : ∃ m, n = m + 1 := ⟨n - 1, by omega⟩
        have hne : l ≠ [] := by intro e; have := HN.out; rw [e] at this; simp at this
        obtain ⟨p', cap', e, -, -, hc⟩ := HX.out.2.1
        injection e with e1 e2 e3
        subst e1 e3
        obtain ⟨b, off, rfl, -, hcs⟩ := hc hne
        have hml : m < l.length := by have := HN.out; omega
        have hx := (hcs m hml).1
        have hlk := lastP_take l m hml
        rw [List.take_of_length_le (by have := HN.out; omega)] at hlk
        obtain ⟨x, hxe⟩ : ∃ x, x = l[m].1 := ⟨_, rfl⟩
        rw [← hxe] at hx hlk
        have hm1 : ((m : Int) + 1 == 0) = false := by rw [beq_eq_false_iff_ne]; omega
        have hwm : IntKind.i64.wrap (m : Int) = (m : Int) := by rw [IntKind.wrap_i64]; omega
        have hm3 : (0 : Int) ≤ (m : Int) ∧ (m : Int) < (m : Int) + 1 := by omega
        have HRX := Lib.hid (show R = decide (x ≤ over + 2) by rw [HRL.out, hlk])
        clear hc hcs hne e2 hlk hxe h0
        go_upto_region 9 with fail
        by_cases hxx : x ≤ over + 2
        · have HRT := Lib.hid (show R = true by rw [HRX.out, decide_eq_true hxx])
          go_quiet (fail)
          go_wp2
          all_goals go_ret
          all_goals exact ⟨ret_bool HRT.out.symm, HXn.out _⟩
        · have HRT := Lib.hid (show R = false by rw [HRX.out, decide_eq_false hxx])
          go_quiet (fail)
          go_wp2
          all_goals go_ret
          all_goals exact ⟨ret_bool HRT.out.symm, HXn.out _⟩

end Go.Proofs.Ytdagcimkajmkaaa
