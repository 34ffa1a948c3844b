/-
  Package rcu: whether all of its queues are so; who may be; how many callbacks wait.
  Conditions: the ranges of Go's types.
-/
import Derived.Test.YtdllhiihmpinoaaGreatVB6
import Derived.Scope
import Derived.Laws.EntriesVeiled
import Derived.Test.YtdllhiihmpinoaaGreatVB4
import Derived.Test.YtdllhiihmpinoaaGreatVB5
/-
  Package queue: drain.
  Conditions: so many is not below 0; the queue has at most 16 callbacks.
-/
namespace Go.Proofs.YtdllhiihmpinoaaGreat.U
set_option maxRecDepth 100000
open Go.RowKit Go.Shelf
attribute [local go_sem] Oper.semAt_some

/-- A row of one's own can be written. -/
def CbFree (W : World) (v : Value) (l : List (Int × Int)) : Prop := ∀ b off n c, v = .slice (some ⟨b, off, none⟩) n c → l ≠ [] → ∃ cur t, W.heap[b]? = some (.cells cur t (0, 0))
theorem CbFree.below {W W' : World} {v : Value} {l : List (Int × Int)} (h : CbFree W v l) (hb : Below W.heap.size W W') : CbFree W' v l := fun b off n c e hne => by
  obtain ⟨cur, t, hx⟩ := h b off n c e hne
  exact ⟨cur, t, (hb.block b (Array.getElem?_eq_some_iff.1 hx).1).trans hx⟩
theorem cvs_drop : ∀ (l : List (Int × Int)) (k : Nat), cvs (l.drop k) = (cvs l).drop (k * 2)
  | [], k => by simp [cvs]
  | c :: l, 0 => by simp [cvs]
  | c :: l, k + 1 => by rw [show (k + 1) * 2 = k * 2 + 1 + 1 by omega]; simp only [List.drop_succ_cons, cvs, cvs_drop l k]
/-- What is left of a row of one's own. -/
theorem drop_cb {B : Nat} {E : TypeId} {W : World} {p0 : Option Addr} {n c0 : Nat} {l : List (Int × Int)} (h : W.ownsRow B E 2 (.slice p0 n c0) n (cvs l)) (k : Nat) (hk : k ≤ n) (p : Option Addr) (hp : k < n → p = p0.map (·.add (k * 2))) (c : Nat) (h1 : n - k ≤ c) (h2 : c ≤ 9223372036854775807) :
    CbOut (fun q => q < B) W (.slice p (n - k) c) (l.drop k) ∧ CbFree W (.slice p (n - k) c) (l.drop k) := by
  have hl := h.1
  rw [cvs_len] at hl
  obtain rfl : n = l.length := by omega
  rcases h.2 with ⟨e, h0⟩ | ⟨g, cap, cur, e, hB, hg, _⟩
  · obtain rfl : l = [] := List.eq_nil_of_length_eq_zero h0
    exact ⟨⟨p, c, by simp, by simp, h2, fun h => (by simp at h)⟩, fun b off m d _ hne => (by simp at hne)⟩
  · injection e with e _ _
    subst e
    constructor
    · refine ⟨p, c, by rw [List.length_drop], by rw [List.length_drop]; exact h1, h2, fun hne => ?_⟩
      have hlt : k < l.length := by
        apply Nat.lt_of_not_le
        intro hle
        exact hne (List.drop_eq_nil_of_le hle)
      refine ⟨g, k * 2, by rw [hp hlt, Option.map_some, addr_add_off, Nat.zero_add], by omega, fun i hi => ?_⟩
      rw [List.length_drop] at hi
      have hc1 := h.cellAt ((k + i) * 2) (by omega)
      have hc2 := h.cellAt ((k + i) * 2 + 1) (by omega)
      rw [(cvs_get l (k + i) (by omega)).1] at hc1
      rw [(cvs_get l (k + i) (by omega)).2] at hc2
      rw [List.getElem_drop, show k * 2 + i * 2 = (k + i) * 2 by omega]
      exact ⟨by simpa using hc1, by simpa using hc2⟩
    · intro b off m d e hne
      have hlt : k < l.length := by
        apply Nat.lt_of_not_le
        intro hle
        exact hne (List.drop_eq_nil_of_le hle)
      injection e with e _ _
      rw [hp hlt, Option.map_some, addr_add_off] at e
      injection e with e
      injection e with e _
      exact ⟨cur, E, by rw [← e]; exact hg⟩
theorem dr_load {W : World} {z : Nat} {v u : Value} {o : Int} (h : DrB W z v o u) : (loadVar 193 ⟨z, 0, none⟩).run Tryz.prog W = .ok (.agg #[v, .int .u64 o, u]) W := by
  obtain ⟨h0, h1, h2⟩ := h.cells
  simp [go_sem, h0, h1, h2]

/-- What takes one. -/
def tkV (z : Nat) : Value := .func (.func 165) #[.pointer (some ⟨z, 0, none⟩)] #[]
/-- Between two rounds. -/
structure DrI (W : World) (z B : Nat) (p0 : Option Addr) (n c0 : Nat) (over : Int) (l : List (Int × Int)) (most : Nat) (pre : List Int) (w : World) : Prop where
  d : ∃ p c wp wc, DrB w z (.slice p (n - pre.length) c) over (.slice wp pre.length wc) ∧ (pre.length < n → p = p0.map (·.add (pre.length * 2))) ∧ n - pre.length ≤ c ∧ c ≤ 9223372036854775807 ∧ w.ownsRow B 35 1 (.slice wp pre.length wc) pre.length (pre.map (Value.int .u64))
  r : w.ownsRow (W.heap.size + 3) 68 2 (.slice p0 n c0) n (cvs l)
  f : Boxed w (z + 1) 208 (tkV z)
  m : Boxed w (W.heap.size + 1) 3 (.int .i64 (most : Int))
  x : DrB w (W.heap.size + 2) (.slice none 0 0) 0 (.slice none 0 0)
  b : Below W.heap.size W w
  le : pre.length ≤ most
  ln : pre.length ≤ n
theorem row_own {X Y : World} {row : Option Nat} {B : Nat} {E : TypeId} {s n : Nat} {v : Value} {xs : List Value} (h : X.ownsRow B E s v n xs) (hg : X.grownBy Y row) (hr : ∀ r, row = some r → ∃ o : Obj, X.heap[r]? = some o ∧ o.isCells = false) : Y.ownsRow B E s v n xs := by
  have hk : Keeps (fun k => row = some k) X Y := ⟨hg.os, hg.tape, hg.output, hg.size, fun k hk hne => hg.block k hk (fun e => hne e.symm)⟩
  refine hk.row h (fun g e hs => ?_)
  obtain ⟨c, f, hc⟩ := Lib.ownsRow_kind h g e
  obtain ⟨o, ho, hi⟩ := hr g hs
  rw [hc] at ho
  cases ho
  cases hi
theorem heap_own {X Y : World} {row : Option Nat} {k : Nat} {cs : Array Value} {T : TypeId} {f : Nat × Nat} (h : X.heap[k]? = some (.cells cs T f)) (hg : X.grownBy Y row) (hr : ∀ r, row = some r → ∃ o : Obj, X.heap[r]? = some o ∧ o.isCells = false) : Y.heap[k]? = some (.cells cs T f) :=
  (hg.block k (Array.getElem?_eq_some_iff.1 h).1 (fun e => by obtain ⟨o, ho, hc⟩ := hr k e.symm; rw [h] at ho; cases ho; cases hc)).trans h
theorem dri_own (W : World) (z B : Nat) (p0 : Option Addr) (n c0 : Nat) (over : Int) (l : List (Int × Int)) (most : Nat) (y : Nat) (hy : W.heap.size ≤ y) : OwnFrom y (DrI W z B p0 n c0 over l most) := by
  rintro s X Y row ⟨⟨p, c, wp, wc, h1, h2, h3, h4, h5⟩, hr', hf, hm, hx, hb, hle, hln⟩ hg hr
  have hr2 := fun r e => (hr r e).2
  exact ⟨⟨p, c, wp, wc, heap_own h1 hg hr2, h2, h3, h4, row_own h5 hg hr2⟩, row_own hr' hg hr2, heap_own hf hg hr2, heap_own hm hg hr2, heap_own hx hg hr2, hb.grown hg hb.size (fun k e => by have := (hr k e).1; omega), hle, hln⟩
/-- Where a round has left. -/
def DrX (W : World) (z B : Nat) (p0 : Option Addr) (n c0 : Nat) (over : Int) (l : List (Int × Int)) (most : Nat) (c : Code) (pre : List Int) (w : World) : Prop := c = .exit 0 ∧ pre ≠ [] ∧ DrI W z B p0 n c0 over l most pre.dropLast w ∧ pre.dropLast.length = most
theorem drx_own (W : World) (z B : Nat) (p0 : Option Addr) (n c0 : Nat) (over : Int) (l : List (Int × Int)) (most : Nat) (y : Nat) (hy : W.heap.size ≤ y) (c : Code) : OwnFrom y (DrX W z B p0 n c0 over l most c) := by
  rintro s X Y row ⟨h0, hne, h1, h2⟩ hg hr
  exact ⟨h0, hne, dri_own W z B p0 n c0 over l most y hy s.dropLast X Y row h1 hg hr, h2⟩
/-- A round that takes one. -/
theorem DrI.took {W : World} {z B : Nat} {p0 : Option Addr} {n c0 : Nat} {over : Int} {l : List (Int × Int)} {most : Nat} {pre : List Int} {x : Int} {w w' : World} {p : Option Addr} {wp : Option Addr} {wc : Nat} {e : Ending} (h : DrI W z B p0 n c0 over l most pre w) (hz : W.heap.size + 3 ≤ z) (hzB : z + 1 < B) (hnm : n ≤ 1000)
    (h2 : pre.length < n → p = p0.map (·.add (pre.length * 2))) (h5 : w.ownsRow B 35 1 (.slice wp pre.length wc) pre.length (pre.map (Value.int .u64))) (hlt : pre.length < n) (hm : pre.length < most) (hc : ∀ g, p0 = some ⟨g, 0, none⟩ → g < z)
    (hq : TakeQ z B p (n - pre.length) over pre.length pre x (.slice wp pre.length wc) e w w') : DrI W z B p0 n c0 over l most (pre ++ [x]) w' ∧ Keeps (fun k => k = z ∨ (B ≤ k ∧ some k = (Value.slice wp pre.length wc).ownBlock)) w w' := by
  obtain ⟨-, q, r, hd, ho, hk⟩ := hq
  have hlen : (pre ++ [x]).length = pre.length + 1 := by simp
  have hS : ∀ k, (k = z ∨ some k = (Value.slice wp pre.length wc).ownBlock) → k = z ∨ (B ≤ k ∧ some k = (Value.slice wp pre.length wc).ownBlock) := fun k hk => hk.imp id (fun e => ⟨(h5.lt k e.symm).1, e⟩)
  have hk' := hk.sub (fun k _ h => hS k h)
  refine ⟨⟨⟨nextA p (n - pre.length), n - pre.length - 1, q, r, ?_, ?_, ?_, ?_, ?_⟩, ?_, ?_, ?_, ?_, ?_, ?_, ?_⟩, hk'⟩
  · rw [hlen, show n - (pre.length + 1) = n - pre.length - 1 by omega]; exact hd
  · rw [hlen]
    intro h6
    unfold nextA
    rw [if_neg (by omega), h2 hlt]
    cases p0 with
    | none => rfl
    | some a =>
      obtain ⟨b, o, k⟩ := a
      simp only [Option.map_some, Option.some.injEq]
      rcases h.r.2 with ⟨e0, h0⟩ | ⟨g, cap, cur, e0, _⟩
      · cases e0
      · injection e0 with e0 _ _
        injection e0 with e0
        cases e0
        rw [addr_add_off, addr_add_off, addr_add_off]
        congr 1
        omega
  · rw [hlen]; omega
  · omega
  · rw [hlen]; exact ho
  · refine hk'.row h.r (fun g e hs => ?_)
    have hg : g < z := by
      rcases h.r.2 with ⟨e0, h0⟩ | ⟨g', cap, cur, e0, _⟩
      · rw [e0] at e; simp [Value.ownBlock] at e
      · injection e0 with e0 _ _
        have := hc g' e0
        rw [e0] at e
        simp [Value.ownBlock] at e
        omega
    rcases hs with hs | hs <;> omega
  · exact bx_keeps h.f hk' (by omega)
  · exact bx_keeps h.m hk' (by omega)
  · exact h.x.keeps hk' (by omega)
  · exact h.b.trans (hk'.below h.b.size (fun k e => by omega))
  · rw [hlen]; omega
  · rw [hlen]; omega

/-- What drain answers. -/
def DrainQ (B : Nat) (over : Int) (l : List (Int × Int)) (most : Nat) (e : Ending) (w' : World) : Prop := ∃ k p c wp wc, k = ((dones over l).take most).length ∧ e = .returned (.agg #[.slice p (l.length - k) c, .int .u64 over, .slice wp k wc]) ∧ CbOut (fun q => q < B) w' (.slice p (l.length - k) c) (l.drop k) ∧ CbFree w' (.slice p (l.length - k) c) (l.drop k) ∧ w'.ownsRow B 35 1 (.slice wp k wc) k ((whats ((dones over l).take most)).map (Value.int .u64))

theorem leaves_one {F : Fence} {n : Nat} {P : Program} {fn : Func} {tmps : Array Value} {R : Ending → World → Prop} {D : Nat} {W : World} (hK : W.heap[D]? = some (.deferred (some []))) (h : LeavesIn F n P fn tmps R [] .returning (W.putObj D (.deferred none))) : LeavesInM F n P fn tmps R (marksOf [D]) .returning W :=
  ⟨by simp, .inl ⟨D, _, rfl, run_takeDeferred hK, h⟩⟩
theorem put_keeps {W : World} {D : Nat} (o : Obj) : Keeps (fun k => k = D) W (W.putObj D o) := by
  have hg := grownBy_putObj' W D o
  exact ⟨hg.os, hg.tape, hg.output, hg.size, fun k hk hne => World.putObj_heap_other hne⟩
/-- At the end. -/
theorem dr_end {W : World} {z B : Nat} {p0 : Option Addr} {n c0 : Nat} {over : Int} {l : List (Int × Int)} {most : Nat} {pre : List Int} {w w' : World} {p : Option Addr} {c : Nat} {wp : Option Addr} {wc D : Nat} (h : DrI W z B p0 n c0 over l most pre w) (hn : n = l.length) (he : pre = whats ((dones over l).take most)) (hB : W.heap.size + 3 ≤ B)
    (h2 : pre.length < n → p = p0.map (·.add (pre.length * 2))) (h3 : n - pre.length ≤ c) (h4 : c ≤ 9223372036854775807) (h5 : w.ownsRow B 35 1 (.slice wp pre.length wc) pre.length (pre.map (Value.int .u64))) (hD : W.heap.size ≤ D) (hK : w.heap[D]? = some (.deferred (some []))) (hk : Keeps (fun k => k = W.heap.size + 2 ∨ k = D) w w') :
    DrainQ W.heap.size over l most (.returned (.agg #[.slice p (n - pre.length) c, .int .u64 over, .slice wp pre.length wc])) w' ∧ Below W.heap.size W w' := by
  have hb := h.b.trans (hk.below h.b.size (fun k e => by omega))
  have hno : ∀ {E : TypeId} {C s m : Nat} {v : Value} {xs : List Value}, w.ownsRow C E s v m xs → W.heap.size + 3 ≤ C → ∀ g, v.ownBlock = some g → ¬ (g = W.heap.size + 2 ∨ g = D) := fun hr hC g e hs => by
    rcases hs with hs | rfl
    · have := (hr.lt g e).1; omega
    · obtain ⟨cc, ff, hc⟩ := Lib.ownsRow_kind hr g e
      rw [hK] at hc
      cases hc
  have hr := (hk.row h.r (hno h.r (Nat.le_refl _))).mono (show W.heap.size ≤ W.heap.size + 3 by omega)
  have hw := (hk.row h5 (hno h5 hB)).mono (show W.heap.size ≤ B by omega)
  have hlen : pre.length = ((dones over l).take most).length := by rw [he, whats_len]
  obtain ⟨ha, hf⟩ := drop_cb hr pre.length h.ln p h2 c h3 h4
  subst hn
  exact ⟨⟨pre.length, p, c, wp, wc, hlen, rfl, ha, hf, by rw [← he]; exact hw⟩, hb⟩
theorem took_all {over : Int} {l : List (Int × Int)} {most : Nat} (h : (whats (dones over l)).length ≤ most) : whats (dones over l) = whats ((dones over l).take most) := by
  rw [whats_len] at h
  rw [List.take_of_length_le h]
theorem took_some {over : Int} {l : List (Int × Int)} {most : Nat} {pre : List Int} (h : pre.length ≤ (dones over l).length ∧ pre = whats ((dones over l).take pre.length)) (h1 : pre.dropLast.length = most) : pre.dropLast = whats ((dones over l).take most) := by
  obtain ⟨h2, h3⟩ := h
  rw [List.length_dropLast] at h1
  rw [List.dropLast_eq_take, h3]
  unfold whats
  rw [← List.map_take, List.take_take, List.length_map, List.length_take]
  congr 2
  omega

set_option maxHeartbeats 16000000 in
theorem drain_c (v : Value) (over : Int) (l : List (Int × Int)) (most : Nat) (W : World) (hv : CbOut NoS W v l) (hl : l.length ≤ 1000) (hmo : most ≤ 9223372036854775807) :
    Calls Tryz.prog 149 #[.agg #[v, .int .u64 over], .int .i64 (most : Int)] W fun e w' => DrainQ W.heap.size over l most e w' ∧ Below W.heap.size W w' := by
  have hmf : ∀ (fn : Fn) (first cap : Array Value) (w : World), (Instr.makeFunc fn first cap).run Tryz.prog w = .ok (.func fn first cap) w := fun _ _ _ _ => rfl
  obtain ⟨p, c, rfl, hlc, hcm, -⟩ := id hv
  obtain ⟨n, hn⟩ : ∃ n, n = l.length := ⟨_, rfl⟩
  rw [← hn] at hl hlc
  obtain ⟨w0, hw0⟩ : ∃ X : World, X = ((W.alloc (.cells #[.slice p n c, .int .u64 over] 66)).alloc (.cells #[.int .i64 (most : Int)] 3)).alloc (.cells #[.slice none 0 0, .int .u64 0, .slice none 0 0] 193) := ⟨_, rfl⟩
  have hb0 : Below W.heap.size W w0 := by rw [hw0]; exact below3 _ _ _ _
  have HF := Lib.hid (show QBox w0 W.heap.size (.slice p n c) over ∧ Boxed w0 (W.heap.size + 1) 3 (.int .i64 (most : Int)) ∧ DrB w0 (W.heap.size + 2) (.slice none 0 0) 0 (.slice none 0 0) ∧ Below W.heap.size W w0 ∧ w0.heap.size = W.heap.size + 3 by
    refine ⟨by rw [hw0]; exact ((QBox.new W _ _).below (below1 _ _)).below (below1 _ _), ?_, ?_, hb0, by rw [hw0]; simp⟩
    · rw [hw0]
      have := Boxed.new (W.alloc (.cells #[.slice p n c, .int .u64 over] 66)) 3 (.int .i64 (most : Int))
      rw [World.size_alloc] at this
      exact this.alloc _
    · rw [hw0]
      have := World.alloc_heap_new ((W.alloc (.cells #[.slice p n c, .int .u64 over] 66)).alloc (.cells #[.int .i64 (most : Int)] 3)) (.cells #[.slice none 0 0, .int .u64 0, .slice none 0 0] 193)
      rw [World.size_alloc, World.size_alloc] at this
      exact this)
  have hv0 := (hv.apart (T := fun q => W.heap.size ≤ q) (fun q h => .inr h)).below hb0
  rw [← hn] at hv0 ⊢
  have HO := Lib.hid (own_c (.slice p n c) over l w0 (hv0.sub (fun q h => h.elim)) (by omega))
  have HV0 := Lib.hid hv0
  have HN := Lib.hid hn
  obtain ⟨q0, q1⟩ := HF.out.1.cells
  rw [hw0] at q0 q1
  have HW0 := Lib.hid hw0
  clear hb0 hv hv0 hw0 hn
  refine (callsIn_wide (n := 9)).1 ?_
  refine callsIn_of_wp_marks Tryz.func149 rfl trivial ?_ rfl
  simp only [Tryz.ntmps149, List.size_toArray, List.length_cons, List.length_nil, Nat.reduceAdd, Nat.reduceSub, Array.replicate_succ, Array.replicate_zero, List.push_toArray, List.append_toArray, List.nil_append, List.cons_append]
  gi_wp2
  refine wpIn_scope ?_
  gi_wp2_with fail
  rw [← HW0.out]
  refine ⟨trivial, (callsIn_wide.2 HO.out).mono ?_⟩
  rintro e w1 ⟨⟨v4, rfl, o4⟩, hb1⟩
  obtain ⟨p4, c4, rfl⟩ := owns_slice o4
  rw [← HN.out] at o4 ⊢
  obtain ⟨z, hz⟩ : ∃ z, z = w1.heap.size := ⟨_, rfl⟩
  obtain ⟨w2, hw2⟩ : ∃ X : World, X = (w1.alloc (.cells #[.slice p4 n c4, .int .u64 over, .slice none 0 0] 193)).alloc (.cells #[tkV z] 208) := ⟨_, rfl⟩
  have hb2 : Below w1.heap.size w1 w2 := by rw [hw2]; exact below2 _ _ _
  have hb12 := below_then hb1 hb1.size hb2
  have hf2 : DrB w2 z (.slice p4 n c4) over (.slice none 0 0) ∧ Boxed w2 (z + 1) 208 (tkV z) := by
    rw [hw2, hz]
    constructor
    · exact (show DrB (w1.alloc (.cells #[.slice p4 n c4, .int .u64 over, .slice none 0 0] 193)) w1.heap.size (.slice p4 n c4) over (.slice none 0 0) from World.alloc_heap_new _ _).below (below1 _ _)
    · have := Boxed.new (w1.alloc (.cells #[.slice p4 n c4, .int .u64 over, .slice none 0 0] 193)) 208 (tkV w1.heap.size)
      rwa [World.size_alloc] at this
  have H2 := Lib.hid (show QBox w2 W.heap.size (.slice p n c) over ∧ Boxed w2 (W.heap.size + 1) 3 (.int .i64 (most : Int)) ∧ DrB w2 (W.heap.size + 2) (.slice none 0 0) 0 (.slice none 0 0) ∧ Below W.heap.size W w2 ∧ w2.ownsRow (W.heap.size + 3) 68 2 (.slice p4 n c4) n (cvs l) ∧ w2.heap.size = z + 2 ∧ W.heap.size + 3 ≤ z ∧ (∀ g, p4 = some ⟨g, 0, none⟩ → g < z) ∧ n ≤ c4 ∧ c4 ≤ 9223372036854775807 from
    ⟨HF.out.1.below hb12, boxed_under HF.out.2.1 hb12, HF.out.2.2.1.below hb12, below_then HF.out.2.2.2.1 HF.out.2.2.2.1.size hb12, (owns_below o4 hb2).mono (by have := HF.out.2.2.2.2; omega), by rw [hw2, hz]; simp, by have := HF.out.2.2.2.2; have := hb1.size; omega,
      fun g e => by subst e; have := (o4.lt g rfl).2; omega, by have := (cb_of_owns o4).len; omega, by have := (cb_of_owns o4).len; omega⟩)
  have HD2 := Lib.hid hf2
  have HV2 := Lib.hid (HV0.out.below hb12)
  have HZ := Lib.hid hz
  have hw2' : w2 = (w1.alloc (.cells #[.slice p4 n c4, .int .u64 over, .slice none 0 0] 193)).alloc (.cells #[.func (.func 165) #[.pointer (some ⟨w1.heap.size, 0, none⟩)] #[]] 208) := by rw [hw2, hz]; rfl
  have HW2 := Lib.hid hw2'
  obtain ⟨q0, q1⟩ := H2.out.1.cells
  rw [hw2'] at q0 q1
  clear hw2'
  clear hb1 hb2 hb12 hf2 HF HO HV0 o4 hw2 hz
  gi_wp2
  refine wpIn_label ?_
  gi_wp2_with fail
  rw [← HW2.out, ← HZ.out]
  refine ⟨trivial, (callsIn_wide.2 (done_c (.slice p n c) over w2)).mono ?_⟩
  rintro e w3 ⟨rfl, hw3⟩
  clear q0 q1 HW2 HZ
  have hb3 : Below w2.heap.size w2 w3 := by rw [hw3]; exact below1 _ _
  have H3 := Lib.hid (show QBox w3 w2.heap.size (.slice p n c) over ∧ CbOut (fun q => W.heap.size ≤ q) w3 (.slice p n c) l ∧ w3.heap.size = w2.heap.size + 1 from ⟨by rw [hw3]; exact QBox.new _ _ _, HV2.out.below hb3, by rw [hw3]; simp⟩)
  have HI3 := Lib.hid (show DrI W z w3.heap.size p4 n c4 over l most [] w3 from ⟨⟨p4, c4, none, 0, HD2.out.1.below hb3, fun _ => by cases p4 <;> simp [Addr.add_zero'], by have := H2.out.2.2.2.2.2.2.2.2; simp; omega, by have := H2.out.2.2.2.2.2.2.2.2; omega, World.ownsRow_nil _ _ _ _⟩, owns_below H2.out.2.2.2.2.1 hb3, boxed_under HD2.out.2 hb3, boxed_under H2.out.2.1 hb3, H2.out.2.2.1.below hb3, below_then H2.out.2.2.2.1 H2.out.2.2.2.1.size hb3, by simp, by simp⟩)
  obtain ⟨lb, hlb⟩ : ∃ z, z = w2.heap.size := ⟨_, rfl⟩
  rw [← hlb] at H3 ⊢
  have HSZ := Lib.hid (show lb = z + 2 ∧ w3.heap.size = z + 3 ∧ W.heap.size + 3 ≤ z ∧ (∀ g, p4 = some ⟨g, 0, none⟩ → g < z) from ⟨by have := H2.out.2.2.2.2.2.1; omega, by have := H2.out.2.2.2.2.2.1; have := H3.out.2.2; omega, H2.out.2.2.2.2.2.2.1, H2.out.2.2.2.2.2.2.2.1⟩)
  clear hw3 hb3 hlb H2 HD2 HV2
  gi_wp2
  refine wpIn_rangeDeep rfl (by omega) (gf := 171) (lb := #[.pointer (some ⟨lb, 0, none⟩)]) rfl trivial (enters_of Tryz.func171 (by kernel_rfl) rfl)
    (done_stops 8 (by omega) (fun q => q = z ∨ w3.heap.size ≤ q) lb p n c over l w3 (by have := HSZ.out; omega) HN.out (by omega) H3.out.1 (H3.out.2.1.sub (fun q e => by have := HSZ.out; omega))) (fun h k => h.trans k) (fun W l o o' _ => KeepsCells.turn _ W l o o') (Below.refl _ _) (fun _ => rfl)
    (DrI W z w3.heap.size p4 n c4 over l most) (DrX W z w3.heap.size p4 n c4 over l most) (dri_own W z w3.heap.size p4 n c4 over l most w3.heap.size (by have := HSZ.out; omega)) (drx_own W z w3.heap.size p4 n c4 over l most w3.heap.size (by have := HSZ.out; omega)) HI3.out
    (fun x a' _ => a' = { tmps := #[.agg #[.slice p n c, .int .u64 over], .int .i64 (most : Int), .pointer (some ⟨W.heap.size, 0, none⟩), .pointer (some ⟨W.heap.size + 1, 0, none⟩), .pointer (some ⟨W.heap.size + 1 + 1, 0, none⟩), .pointer (some ⟨z, 0, none⟩), .pointer (some ⟨z + 1, 0, none⟩), .int .u64 x, .agg #[.slice p n c, .int .u64 over], .agg #[.slice p4 n c4, .int .u64 over], .agg #[.slice p4 n c4, .int .u64 over, .slice none 0 0], .func (.func 165) #[.pointer (some ⟨z, 0, none⟩)] #[], .agg #[.slice p n c, .int .u64 over], .func (.func 171) #[] #[.pointer (some ⟨lb, 0, none⟩)], .int .u64 x, undef, undef, undef, undef, undef, undef, undef, undef, undef, undef], defers := [] })
    ?hAx ?assign ?body ?done ?stop
  case hAx => exact fun x a' => ownFrom_pure _ _
  case assign =>
    rintro l' pre x X K hi hK
    gi_wp2
    exact hK _ _ (KeepsFrom.refl _ _) (KeepsCells.refl _ _) hi rfl
  case body =>
    rintro l' pre x a' X hl' ⟨rr, hrr⟩ hI rfl hlen hsp
    obtain ⟨⟨p, c, wp, wc, h1, h2, h3, h4, h5⟩, hr, hf, hm, hx, hb, hle, hln⟩ := id hI
    obtain ⟨c0, c1, c2⟩ := h1.cells
    have cm := hm.cell
    have cf := hf.cell
    unfold tkV at cf
    have hkc := Lib.ownsRow_kind h5
    have hdc : X.heap[z]? = _ := h1
    have HI := Lib.hid hI
    have hB := HSZ.out
    have hXs : w3.heap.size ≤ X.heap.size := by have := (Array.getElem?_eq_some_iff.1 hrr).1; omega
    clear hrr
    by_cases hmo2 : pre.length = most
    · have HX := Lib.hid (show DrX W z w3.heap.size p4 n c4 over l most (.exit 0) (pre ++ [x]) X from ⟨rfl, by simp, by rw [List.dropLast_concat]; exact hI, by rw [List.dropLast_concat]; exact hmo2⟩)
      have hmi : (pre.length : Int) = (most : Int) := by omega
      clear hI h1 h2 h3 h4 h5 hr hf hm hx hb hle hln hkc hdc HI hmo2 cf hsp hlen
      gi_wp2
      exact ⟨KeepsFrom.refl _ _, HX.out⟩
    · have hC := take_c z w3.heap.size p (n - pre.length) c over wp pre.length wc pre x X h1 (by omega) hXs h5 (by omega) h3 h4 (by omega)
      have HC := Lib.hid hC
      have HT := Lib.hid (fun (e : Ending) (X2 : World) (hq : TakeQ z w3.heap.size p (n - pre.length) over pre.length pre x (.slice wp pre.length wc) e X X2) => hI.took (by omega) (by omega) (by omega) h2 h5 hlen (by omega) hB.2.2.2 hq)
      have HKF := Lib.hid (fun (X2 : World) (hk : Keeps (fun k => k = z ∨ (w3.heap.size ≤ k ∧ some k = (Value.slice wp pre.length wc).ownBlock)) X X2) => (show KeepsFrom w3.heap.size X X2 ∧ KeepsCells (fun q => q = z ∨ w3.heap.size ≤ q) X X2 from
        ⟨⟨hk.size, fun k o hkB ho hoc => (hk.block k (Array.getElem?_eq_some_iff.1 ho).1 (fun e => by
          rcases e with e | ⟨_, e⟩
          · omega
          · obtain ⟨cc, ff, hcc⟩ := hkc k e.symm
            rw [hcc] at ho; cases ho; cases hoc)).trans ho⟩, KeepsCells.keeps (hk.sub (fun k _ h => h.imp id (fun h => h.1)))⟩))
      have hmi : ((pre.length : Int) == (most : Int)) = false := by rw [beq_eq_false_iff_ne]; omega
      have hmi2 : ¬ (pre.length : Int) = (most : Int) := by omega
      clear hI h1 h2 h3 h4 h5 hr hf hm hx hb hle hln hkc hdc HI hmo2 hC hsp hlen
      gi_wp2_with fail
      refine ⟨trivial, ((callsIn_wide.2 HC.out).inRound l').mono ?_⟩
      rintro e X2 hq
      obtain ⟨hI2, hk2⟩ := HT.out e X2 hq
      obtain ⟨rfl, -⟩ := hq
      have HI2 := Lib.hid hI2
      have HK2 := Lib.hid (HKF.out X2 hk2)
      clear hI2 hk2
      gi_wp2
      exact ⟨HK2.out.1, HK2.out.2, HI2.out⟩
  case done =>
    rintro D xs X hD rfl hI hK
    obtain ⟨⟨p, c, wp, wc, h1, h2, h3, h4, h5⟩, hr, hf, hm, hx, hb, hle, hln⟩ := id hI
    have HP := Lib.hid (took_all hle)
    clear HI3
    have e2 := hx.cells
    have e2a := e2.1
    have e2b := e2.2.1
    have e2c := e2.2.2
    have m0 := hx.marks 0
    have m1 := hx.marks 1
    have m2 := hx.marks 2
    obtain ⟨X1, hX1⟩ : ∃ Y : World, Y = ((X.setCell ⟨W.heap.size + 1 + 1, 0, none⟩ (.slice p (n - (whats (dones over l)).length) c)).setCell ⟨W.heap.size + 1 + 1, 1, none⟩ (.int .u64 over)).setCell ⟨W.heap.size + 1 + 1, 2, none⟩ (.slice wp (whats (dones over l)).length wc) := ⟨_, rfl⟩
    have hk1 : Keeps (fun k => k = W.heap.size + 2) X X1 := by rw [hX1]; exact ((set1K X (W.heap.size + 2) 0 _).trans (set1K _ (W.heap.size + 2) 1 _)).trans (set1K _ (W.heap.size + 2) 2 _)
    have hx1 : DrB X1 (W.heap.size + 2) (.slice p (n - (whats (dones over l)).length) c) over (.slice wp (whats (dones over l)).length wc) := by
      rw [hX1]
      have g0 := heap_setCell_same X (W.heap.size + 2) 0 _ _ (.slice p (n - (whats (dones over l)).length) c) hx
      have g1 := heap_setCell_same _ (W.heap.size + 2) 1 _ _ (.int .u64 over) g0
      have g2 := heap_setCell_same _ (W.heap.size + 2) 2 _ _ (.slice wp (whats (dones over l)).length wc) g1
      unfold DrB
      rw [g2]
      rfl
    have hKD : X1.heap[D]? = some (.deferred (some [])) := (hk1.block D (Array.getElem?_eq_some_iff.1 hK).1 (by have := HSZ.out; omega)).trans hK
    have HE := Lib.hid (dr_end hI HN.out HP.out (by have := HSZ.out; omega) h2 h3 h4 h5 (by have := HSZ.out; omega) hK ((hk1.sub (fun k _ h => .inl h)).trans ((put_keeps (W := X1) (D := D) (.deferred none)).sub (fun k _ h => .inr h))))
    have HX := Lib.hid (show DrB (X1.putObj D (.deferred none)) (W.heap.size + 2) (.slice p (n - (whats (dones over l)).length) c) over (.slice wp (whats (dones over l)).length wc) from hx1.keeps (put_keeps _) (by have := HSZ.out; omega))
    have HKD := Lib.hid hKD
    have HX1 := Lib.hid hX1
    have c0 := h1.cells.1
    have c1 := h1.cells.2.1
    have c2 := h1.cells.2.2
    clear hI h1 h2 h3 h4 h5 hr hf hm hx hb hle hln hX1 hk1 hx1 hKD hK e2
    gi_wp2
    rw [← HX1.out]
    exact leaves_one HKD.out ⟨_, results_cell1 rfl _ _ _ rfl (dr_load HX.out), HE.out⟩
  case stop =>
    rintro D cc pre X hD hsp ⟨rfl, hne, hI, hlast⟩ hK
    obtain ⟨⟨p, c, wp, wc, h1, h2, h3, h4, h5⟩, hr, hf, hm, hx, hb, hle, hln⟩ := id hI
    have HP := Lib.hid (took_some hsp hlast)
    obtain ⟨pr, hpr⟩ : ∃ pr, pr = pre.dropLast := ⟨_, rfl⟩
    rw [← hpr] at hI h1 h2 h3 h5 HP hle hln
    clear HI3 hsp hne hlast hpr
    have e2 := hx.cells
    have e2a := e2.1
    have e2b := e2.2.1
    have e2c := e2.2.2
    have m0 := hx.marks 0
    have m1 := hx.marks 1
    have m2 := hx.marks 2
    obtain ⟨X1, hX1⟩ : ∃ Y : World, Y = ((X.setCell ⟨W.heap.size + 1 + 1, 0, none⟩ (.slice p (n - pr.length) c)).setCell ⟨W.heap.size + 1 + 1, 1, none⟩ (.int .u64 over)).setCell ⟨W.heap.size + 1 + 1, 2, none⟩ (.slice wp pr.length wc) := ⟨_, rfl⟩
    have hk1 : Keeps (fun k => k = W.heap.size + 2) X X1 := by rw [hX1]; exact ((set1K X (W.heap.size + 2) 0 _).trans (set1K _ (W.heap.size + 2) 1 _)).trans (set1K _ (W.heap.size + 2) 2 _)
    have hx1 : DrB X1 (W.heap.size + 2) (.slice p (n - pr.length) c) over (.slice wp pr.length wc) := by
      rw [hX1]
      have g0 := heap_setCell_same X (W.heap.size + 2) 0 _ _ (.slice p (n - pr.length) c) hx
      have g1 := heap_setCell_same _ (W.heap.size + 2) 1 _ _ (.int .u64 over) g0
      have g2 := heap_setCell_same _ (W.heap.size + 2) 2 _ _ (.slice wp pr.length wc) g1
      unfold DrB
      rw [g2]
      rfl
    have hKD : X1.heap[D]? = some (.deferred (some [])) := (hk1.block D (Array.getElem?_eq_some_iff.1 hK).1 (by have := HSZ.out; omega)).trans hK
    have HE := Lib.hid (dr_end hI HN.out HP.out (by have := HSZ.out; omega) h2 h3 h4 h5 (by have := HSZ.out; omega) hK ((hk1.sub (fun k _ h => .inl h)).trans ((put_keeps (W := X1) (D := D) (.deferred none)).sub (fun k _ h => .inr h))))
    have HX := Lib.hid (show DrB (X1.putObj D (.deferred none)) (W.heap.size + 2) (.slice p (n - pr.length) c) over (.slice wp pr.length wc) from hx1.keeps (put_keeps _) (by have := HSZ.out; omega))
    have HKD := Lib.hid hKD
    have HX1 := Lib.hid hX1
    have c0 := h1.cells.1
    have c1 := h1.cells.2.1
    have c2 := h1.cells.2.2
    clear hI h1 h2 h3 h4 h5 hr hf hm hx hb hle hln hX1 hk1 hx1 hKD hK e2
    gi_wp2
    rw [← HX1.out]
    exact leaves_one HKD.out ⟨_, results_cell1 rfl _ _ _ rfl (dr_load HX.out), HE.out⟩

end Go.Proofs.YtdllhiihmpinoaaGreat.U
/-
  Package queue: Take, Drain.
  Conditions: the ranges of Go's types.
-/
namespace Go.Proofs.YtdllhiihmpinoaaGreat.U
set_option maxRecDepth 100000
open Go.RowKit Go.Shelf
attribute [local go_sem] Oper.semAt_some

theorem results_ctt {fn : Func} {a b c : Tmp} {t : TypeId} (h : fn.results = #[.cell a t, .tmp b, .tmp c]) (tmps : Array Value) (P : Program) (w : World) {p : Addr} {x y z : Value} (ha : tmps.getD a undef = .pointer (some p)) (hb : tmps.getD b undef = y) (hc : tmps.getD c undef = z)
    (hx : (loadVar t p).run P w = .ok x w) : (results fn tmps).run P w = .ok (.tuple #[x, y, z]) w := by
  unfold results
  rw [h]
  simp only [Array.mapM_eq_foldlM, List.foldlM_toArray, List.foldlM_cons, List.foldlM_nil, ha, hb, hc, asAddr, run_fmap, Sem.run_bind, Sem.run_pure, Result.andThen_ok, hx]
  rfl
/-- A queue that is handed out. -/
def OutQ (B : Nat) (v : Value) (l : List (Int × Int)) (w : World) : Prop := CbOut (fun q => q < B) w v l ∧ CbFree w v l
theorem OutQ.below {B : Nat} {v : Value} {l : List (Int × Int)} {w w' : World} (h : OutQ B v l w) (hb : Below w.heap.size w w') : OutQ B v l w' := ⟨h.1.below hb, h.2.below hb⟩
theorem OutQ.mono {B C : Nat} {v : Value} {l : List (Int × Int)} {w : World} (h : OutQ B v l w) (hC : C ≤ B) : OutQ C v l w := ⟨h.1.sub (fun q hq => by omega), h.2⟩
theorem outQ_none (B : Nat) (w : World) : OutQ B (.slice none 0 0) [] w := ⟨⟨none, 0, rfl, by simp, by omega, fun h => absurd rfl h⟩, fun b off n c e => by cases e⟩
theorem OutQ.keeps {S : Nat → Prop} {B : Nat} {v : Value} {l : List (Int × Int)} {w w' : World} (h : OutQ B v l w) (hk : Keeps S w w') (hS : ∀ b cur t, S b → w.heap[b]? = some (.cells cur t (0, 0)) → t ≠ 68 ∧ b < B) : OutQ B v l w' := by
  obtain ⟨⟨p, cap, rfl, h1, h2, hc⟩, hf⟩ := h
  have hn : ∀ b off, p = some ⟨b, off, none⟩ → l ≠ [] → ¬ S b := fun b off e hne hs => by
    obtain ⟨b', off', e', hB, _⟩ := hc hne
    obtain ⟨cur, t, hx⟩ := hf b off _ _ (by rw [e]) hne
    rw [e] at e'
    injection e' with e'
    injection e' with e' _
    have := (hS b cur t hs hx).2
    omega
  refine ⟨⟨p, cap, rfl, h1, h2, fun hne => ?_⟩, fun b off n c e hne => ?_⟩
  · obtain ⟨b, off, rfl, hB, hcs⟩ := hc hne
    have := hn b off rfl hne
    exact ⟨b, off, rfl, hB, fun i hi => ⟨hk.cell (hcs i hi).1 this, hk.cell (hcs i hi).2 this⟩⟩
  · obtain ⟨cur, t, hx⟩ := hf b off n c e hne
    injection e with e _ _
    exact ⟨cur, t, (hk.block b (Array.getElem?_eq_some_iff.1 hx).1 (hn b off e hne)).trans hx⟩
theorem OutQ.keep1 {B z : Nat} {v : Value} {l : List (Int × Int)} {w w' : World} (h : OutQ B v l w) (hk : Keeps (fun k => k = z) w w') {u : Value} {o : Int} (hz : QBox w z u o) (hB : z < B) : OutQ B v l w' :=
  h.keeps hk (fun b cur t e hx => by subst e; exact ⟨fun e => by have h' : w.heap[b]? = _ := hz; rw [h'] at hx; injection hx with hx; injection hx with _ hx _; rw [← hx] at e; revert e; decide, hB⟩)

/-- What Take answers. -/
def takeE (over : Int) (l : List (Int × Int)) : Int := if mayB over l = true then (if dones over l = [] then 4 else 0) else 230
def TakeA (B : Nat) (over : Int) (l : List (Int × Int)) (e : Ending) (w' : World) : Prop :=
  (takeE over l = 0 ∧ ∃ v x, e = .returned (.tuple #[.agg #[v, .int .u64 over], .int .u64 x, .int .i64 0]) ∧ OutQ B v (l.drop 1) w' ∧ whats ((dones over l).take 1) = [x]) ∨ (takeE over l ≠ 0 ∧ e = .returned (.tuple #[.agg #[.slice none 0 0, .int .u64 0], .int .u64 0, .int .i64 (takeE over l)]))
/-- What Drain answers. -/
def drainE (over : Int) (l : List (Int × Int)) (most : Int) : Int := if mayB over l = true then (if most < 0 then 2 else 0) else 230
def DrainA (B : Nat) (over : Int) (l : List (Int × Int)) (most : Int) (e : Ending) (w' : World) : Prop :=
  (drainE over l most = 0 ∧ ∃ k v wp wc, k = ((dones over l).take most.toNat).length ∧ e = .returned (.tuple #[.agg #[v, .int .u64 over], .slice wp k wc, .int .i64 0]) ∧ OutQ B v (l.drop k) w' ∧ w'.ownsRow B 35 1 (.slice wp k wc) k ((whats ((dones over l).take most.toNat)).map (Value.int .u64))) ∨ (drainE over l most ≠ 0 ∧ e = .returned (.tuple #[.agg #[.slice none 0 0, .int .u64 0], .slice none 0 0, .int .i64 (drainE over l most)]))

set_option maxHeartbeats 16000000 in
theorem take1_c (v : Value) (over : Int) (l : List (Int × Int)) (W : World) (hv : CbOut NoS W v l) (ho : 0 ≤ over) :
    Calls Tryz.prog 127 #[.agg #[v, .int .u64 over]] W fun e w' => TakeA W.heap.size over l e w' ∧ Below W.heap.size W w' := by
  obtain ⟨w0, hw0⟩ : ∃ X : World, X = (W.alloc (.cells #[v, .int .u64 over] 66)).alloc (.cells #[.slice none 0 0, .int .u64 0] 66) := ⟨_, rfl⟩
  have hb0 : Below W.heap.size W w0 := by rw [hw0]; exact below2 _ _ _
  have HF := Lib.hid (show QBox w0 W.heap.size v over ∧ QBox w0 (W.heap.size + 1) (.slice none 0 0) 0 ∧ Below W.heap.size W w0 ∧ w0.heap.size = W.heap.size + 2 from ⟨by rw [hw0]; exact (QBox.new W _ _).below (below1 _ _), by
      rw [hw0]
      have := QBox.new (W.alloc (.cells #[v, .int .u64 over] 66)) (.slice none 0 0) 0
      simpa using this, hb0, by rw [hw0]; simp⟩)
  have HV := Lib.hid (hv.below hb0)
  have HM := Lib.hid (may_c v over l w0 HV.out ho)
  obtain ⟨p, c, rfl, hlc, hcm, -⟩ := hv
  have HW0 := Lib.hid hw0
  obtain ⟨q0, q1⟩ := HF.out.1.cells
  clear hw0 hb0
  go_enter Tryz.func127, Tryz.ntmps127
  go_wp2_with fail
  rw [← HW0.out]
  clear HW0 q0 q1
  (with_reducible refine HM.out.mono ?_)
  rintro e w1 ⟨rfl, hb1⟩
  have H1 := Lib.hid (show QBox w1 W.heap.size (.slice p l.length c) over ∧ QBox w1 (W.heap.size + 1) (.slice none 0 0) 0 ∧ Below W.heap.size W w1 ∧ W.heap.size + 2 ≤ w1.heap.size ∧ CbOut NoS w1 (.slice p l.length c) l from ⟨HF.out.1.below hb1, HF.out.2.1.below hb1, below_then HF.out.2.2.1 HF.out.2.2.1.size hb1, by have := HF.out.2.2.2; have := hb1.size; omega, HV.out.below hb1⟩)
  clear hb1 HF HV HM
  obtain ⟨q0, q1⟩ := H1.out.1.cells
  obtain ⟨r0, r1⟩ := H1.out.2.1.cells
  have m0 := H1.out.2.1.marks 0
  have m1 := H1.out.2.1.marks 1
  have HP := Lib.hid (show QBox ((w1.setCell ⟨W.heap.size + 1, 0, none⟩ (.slice none 0 0)).setCell ⟨W.heap.size + 1, 1, none⟩ (.int .u64 0)) (W.heap.size + 1) (.slice none 0 0) 0 ∧ Below W.heap.size W ((w1.setCell ⟨W.heap.size + 1, 0, none⟩ (.slice none 0 0)).setCell ⟨W.heap.size + 1, 1, none⟩ (.int .u64 0)) from
    ⟨H1.out.2.1.put _ _, H1.out.2.2.1.trans ((QBox.putK w1 _ _ _).below (by have := H1.out.2.2.2.1; omega) (fun k e => by omega))⟩)
  cases hm : mayB over l with
  | false =>
    have HE := Lib.hid (show takeE over l = 230 by unfold takeE; rw [hm]; rfl)
    go_wp2
    exact bodyPost_ret (results_ctt rfl _ _ _ rfl rfl rfl (queue_load HP.out.1)) rfl ⟨.inr ⟨by rw [HE.out]; decide, by rw [HE.out]; rfl⟩, HP.out.2⟩
  | true =>
    obtain ⟨hg1, hg2, -⟩ := may_parts hm
    have HE0 := Lib.hid (show takeE over l = if dones over l = [] then 4 else 0 by unfold takeE; rw [hm]; rfl)
    have HD := Lib.hid (show Calls Tryz.prog 149 #[.agg #[.slice p l.length c, .int .u64 over], .int .i64 1] w1 fun e w' => DrainQ w1.heap.size over l 1 e w' ∧ Below w1.heap.size w1 w' from drain_c (.slice p l.length c) over l 1 w1 H1.out.2.2.2.2 (by omega) (by decide))
    clear hm HP r0 r1 m0 m1
    go_wp2_with fail
    (with_reducible refine HD.out.mono ?_)
    rintro e w2 ⟨⟨k, p2, c2, wp, wc, hk, rfl, ha, hf, hw⟩, hb2⟩
    obtain ⟨n, hn⟩ : ∃ n, n = l.length - k := ⟨_, rfl⟩
    rw [← hn] at ha hf ⊢
    obtain ⟨z, hz⟩ : ∃ z, z = w2.heap.size := ⟨_, rfl⟩
    obtain ⟨w3, hw3⟩ : ∃ X : World, X = w2.alloc (.cells #[.slice p2 n c2, .int .u64 over, .slice wp k wc] 193) := ⟨_, rfl⟩
    have hb3 : Below w2.heap.size w2 w3 := by rw [hw3]; exact below1 _ _
    have hb13 := below_then hb2 hb2.size hb3
    have HX := Lib.hid (show DrB w3 z (.slice p2 n c2) over (.slice wp k wc) ∧ OutQ w1.heap.size (.slice p2 n c2) (l.drop k) w3 ∧ w3.ownsRow w1.heap.size 35 1 (.slice wp k wc) k ((whats ((dones over l).take 1)).map (Value.int .u64)) ∧ QBox w3 (W.heap.size + 1) (.slice none 0 0) 0 ∧ Below W.heap.size W w3 ∧ W.heap.size + 2 ≤ w1.heap.size ∧ w1.heap.size ≤ z ∧ k = ((dones over l).take 1).length from
      ⟨by rw [hw3, hz]; exact World.alloc_heap_new _ _, ⟨ha.below hb3, hf.below hb3⟩, owns_below hw hb3, H1.out.2.1.below hb13, below_then H1.out.2.2.1 H1.out.2.2.1.size hb13, H1.out.2.2.2.1, by have := hb2.size; omega, hk⟩)
    have HW3 := Lib.hid (And.intro hw3 hz)
    clear ha hf hw hb2 hb3 hb13 hw3 hz HD H1 hk hn q0 q1
    obtain ⟨c0, c1, c2'⟩ := HX.out.1.cells
    have c0' := c0
    have c1' := c1
    have c2'' := c2'
    rw [HW3.out.1, HW3.out.2] at c0 c1 c2'
    by_cases hd : dones over l = []
    · have HE := Lib.hid (HE0.out.trans (if_pos hd))
      have hk0 : k = 0 := by have := HX.out.2.2.2.2.2.2.2; rw [hd] at this; simpa using this
      subst hk0
      have r0 := HX.out.2.2.2.1.cells.1
      have r1 := HX.out.2.2.2.1.cells.2
      have m0 := HX.out.2.2.2.1.marks 0
      have m1 := HX.out.2.2.2.1.marks 1
      have HP := Lib.hid (show QBox ((w3.setCell ⟨W.heap.size + 1, 0, none⟩ (.slice none 0 0)).setCell ⟨W.heap.size + 1, 1, none⟩ (.int .u64 0)) (W.heap.size + 1) (.slice none 0 0) 0 ∧ Below W.heap.size W ((w3.setCell ⟨W.heap.size + 1, 0, none⟩ (.slice none 0 0)).setCell ⟨W.heap.size + 1, 1, none⟩ (.int .u64 0)) from
        ⟨HX.out.2.2.2.1.put _ _, HX.out.2.2.2.2.1.trans ((QBox.putK w3 _ _ _).below (by have := HX.out.2.2.2.2.1.size; omega) (fun k e => by omega))⟩)
      clear hd c0' c1' c2''
      go_upto_region 4 with fail
      rw [← HW3.out.1, ← HW3.out.2]
      clear c0 c1 c2'
      obtain ⟨c0, c1, c2'⟩ := HX.out.1.cells
      go_wp2
      exact bodyPost_ret (results_ctt rfl _ _ _ rfl rfl rfl (queue_load HP.out.1)) rfl ⟨.inr ⟨by rw [HE.out]; decide, by rw [HE.out]; rfl⟩, HP.out.2⟩
    · have HE := Lib.hid (HE0.out.trans (if_neg hd))
      obtain ⟨y, hy⟩ : ∃ y, whats ((dones over l).take 1) = [y] := by
        cases hl : dones over l with
        | nil => exact absurd hl hd
        | cons a t => exact ⟨a.2, rfl⟩
      have hk1 : k = 1 := by
        have := HX.out.2.2.2.2.2.2.2
        rw [← whats_len, hy] at this
        exact this
      subst hk1
      have hrow := HX.out.2.2.1
      rw [hy] at hrow
      obtain ⟨b, rfl, hyc⟩ : ∃ b, wp = some ⟨b, 0, none⟩ ∧ w3.cell? ⟨b, 0, none⟩ = some (.int .u64 y) := by
        rcases hrow.2 with ⟨_, h0⟩ | ⟨g, cap, cur, e, _⟩
        · cases h0
        · injection e with e1 e2 e3
          subst e1
          refine ⟨g, rfl, ?_⟩
          have := hrow.cellAt 0 (by omega)
          simpa using this
      have hbz : b ≠ W.heap.size + 1 := by have := (hrow.lt b rfl).1; have := HX.out.2.2.2.2.2.1; omega
      have HY := Lib.hid (And.intro hy (And.intro hyc hbz))
      clear hd hrow hy c0' c1' c2'' hyc hbz
      go_upto_region 4 with fail
      rw [← HW3.out.1, ← HW3.out.2]
      clear c0 c1 c2' HW3
      obtain ⟨c0, c1, c2'⟩ := HX.out.1.cells
      go_upto_region 6 with fail
      clear c0 c1 c2'
      refine wpTwo_begin (T := fun w' => DrB w' z (.slice p2 n c2) over (.slice (some ⟨b, 0, none⟩) 1 wc) ∧ w'.cell? ⟨b, 0, none⟩ = some (.int .u64 y)) (S := fun _ => True) (late := fun _ => false) (by kernel_rfl) ?_
      obtain ⟨X, hX⟩ : ∃ Y : World, Y = w3.drew := ⟨_, rfl⟩
      rw [← hX]
      have hbx : Below w3.heap.size w3 X := by rw [hX]; exact (Below.refl _ _).drew
      clear hX
      have hT0 : DrB X z (.slice p2 n c2) over (.slice (some ⟨b, 0, none⟩) 1 wc) ∧ X.cell? ⟨b, 0, none⟩ = some (.int .u64 y) := ⟨HX.out.1.below hbx, below_cell hbx HY.out.2.1⟩
      have HZ := Lib.hid (show OutQ w1.heap.size (.slice p2 n c2) (l.drop 1) X ∧ QBox X (W.heap.size + 1) (.slice none 0 0) 0 ∧ Below W.heap.size W X from ⟨HX.out.2.1.below hbx, HX.out.2.2.2.1.below hbx, below_then HX.out.2.2.2.2.1 HX.out.2.2.2.2.1.size hbx⟩)
      have HSZ := Lib.hid (show W.heap.size + 2 ≤ w1.heap.size ∧ w1.heap.size ≤ z from ⟨HX.out.2.2.2.2.2.1, HX.out.2.2.2.2.2.2.1⟩)
      clear hbx HX
      refine wpTwo_takeT (i := 0) (v := .pointer (some ⟨z, 0, none⟩)) rfl (by kernel_rfl) (by kernel_rfl) (by kernel_rfl) (fun _ _ _ h => h) ⟨by rfl, ?_⟩ hT0 ?_
      · rintro w ⟨hTw, hTc⟩
        obtain ⟨t0', t1', t2'⟩ := hTw.cells
        go_simp
      (try simp only [Act.put, List.getElem_toArray, List.getElem_cons_zero, List.setIfInBounds_toArray, List.set_cons_succ, List.set_cons_zero])
      refine wpTwo_takeT (i := 1) (v := .agg #[.slice p2 n c2, .int .u64 over]) rfl (by kernel_rfl) (by kernel_rfl) (by kernel_rfl) (fun _ _ _ h => h) ⟨by rfl, ?_⟩ hT0 ?_
      · rintro w ⟨hTw, hTc⟩
        obtain ⟨t0', t1', t2'⟩ := hTw.cells
        go_simp
      (try simp only [Act.put, List.getElem_toArray, List.getElem_cons_succ, List.getElem_cons_zero, List.setIfInBounds_toArray, List.set_cons_succ, List.set_cons_zero])
      refine wpTwo_takeT (i := 2) (v := .pointer (some ⟨z, 2, none⟩)) rfl (by kernel_rfl) (by kernel_rfl) (by kernel_rfl) (fun _ _ _ h => h) ⟨by rfl, ?_⟩ hT0 ?_
      · rintro w ⟨hTw, hTc⟩
        obtain ⟨t0', t1', t2'⟩ := hTw.cells
        go_simp
      (try simp only [Act.put, List.getElem_toArray, List.getElem_cons_succ, List.getElem_cons_zero, List.setIfInBounds_toArray, List.set_cons_succ, List.set_cons_zero])
      refine wpTwo_takeT (i := 3) (v := .slice (some ⟨b, 0, none⟩) 1 wc) rfl (by kernel_rfl) (by kernel_rfl) (by kernel_rfl) (fun _ _ _ h => h) ⟨by rfl, ?_⟩ hT0 ?_
      · rintro w ⟨hTw, hTc⟩
        obtain ⟨t0', t1', t2'⟩ := hTw.cells
        go_simp
      (try simp only [Act.put, List.getElem_toArray, List.getElem_cons_succ, List.getElem_cons_zero, List.setIfInBounds_toArray, List.set_cons_succ, List.set_cons_zero])
      refine wpTwo_takeT (i := 4) (v := .pointer (some ⟨b, 0, none⟩)) rfl (by kernel_rfl) (by kernel_rfl) (by kernel_rfl) (fun _ _ _ h => h) ⟨by rfl, ?_⟩ hT0 ?_
      · rintro w ⟨hTw, hTc⟩
        obtain ⟨t0', t1', t2'⟩ := hTw.cells
        go_simp
      (try simp only [Act.put, List.getElem_toArray, List.getElem_cons_succ, List.getElem_cons_zero, List.setIfInBounds_toArray, List.set_cons_succ, List.set_cons_zero])
      refine wpTwo_takeT (i := 5) (v := .int .u64 y) rfl (by kernel_rfl) (by kernel_rfl) (by kernel_rfl) (fun _ _ _ h => h) ⟨by rfl, ?_⟩ hT0 ?_
      · rintro w ⟨hTw, hTc⟩
        obtain ⟨t0', t1', t2'⟩ := hTw.cells
        go_simp
      (try simp only [Act.put, List.getElem_toArray, List.getElem_cons_succ, List.getElem_cons_zero, List.setIfInBounds_toArray, List.set_cons_succ, List.set_cons_zero])
      obtain ⟨r0, r1⟩ := HZ.out.2.1.cells
      have m0 := HZ.out.2.1.marks 0
      have m1 := HZ.out.2.1.marks 1
      obtain ⟨Y, hY⟩ : ∃ Y : World, Y = (X.setCell ⟨W.heap.size + 1, 0, none⟩ (.slice p2 n c2)).setCell ⟨W.heap.size + 1, 1, none⟩ (.int .u64 over) := ⟨_, rfl⟩
      have hky : Keeps (fun k => k = W.heap.size + 1) X Y := by rw [hY]; exact QBox.putK _ _ _ _
      have HYF := Lib.hid (show QBox Y (W.heap.size + 1) (.slice p2 n c2) over ∧ OutQ w1.heap.size (.slice p2 n c2) (l.drop 1) Y ∧ Below W.heap.size W Y from ⟨by rw [hY]; exact HZ.out.2.1.put _ _, HZ.out.1.keep1 hky HZ.out.2.1 (by have := HSZ.out; omega), HZ.out.2.2.trans (hky.below HZ.out.2.2.size (fun k e => by omega))⟩)
      have hT1 : DrB Y z (.slice p2 n c2) over (.slice (some ⟨b, 0, none⟩) 1 wc) ∧ Y.cell? ⟨b, 0, none⟩ = some (.int .u64 y) := ⟨hT0.1.keeps hky (by have := HSZ.out; omega), hky.cell hT0.2 HY.out.2.2⟩
      have HYY := Lib.hid hY
      clear hY hky
      refine wpTwo_ready (rs := [6]) (by kernel_rfl) (by simp) ?_
      refine (AllTwo.cons rfl (fun K hK => ?_) AllTwo.nil)
      go_simp
      rw [← HYY.out]
      refine hK.out _ _ ⟨hT1, fun _ _ => trivial⟩ ?_
      clear hK K hT0 r0 r1 m0 m1 HYY HZ
      (try simp only [Act.put, List.getElem_toArray, List.getElem_cons_succ, List.getElem_cons_zero, List.setIfInBounds_toArray, List.set_cons_succ, List.set_cons_zero])
      refine wpTwo_takeT (i := 7) (v := .int .u64 y) rfl (by kernel_rfl) (by kernel_rfl) (by kernel_rfl) (fun _ _ _ h => h) ⟨by rfl, ?_⟩ hT1 ?_
      · rintro w -
        go_simp
      (try simp only [Act.put, List.getElem_toArray, List.getElem_cons_succ, List.getElem_cons_zero, List.setIfInBounds_toArray, List.set_cons_succ, List.set_cons_zero])
      refine wpTwo_takeT (i := 8) (v := .int .i64 0) rfl (by kernel_rfl) (by kernel_rfl) (by kernel_rfl) (fun _ _ _ h => h) ⟨by rfl, ?_⟩ hT1 ?_
      · rintro w -
        go_simp
      (try simp only [Act.put, List.getElem_toArray, List.getElem_cons_succ, List.getElem_cons_zero, List.setIfInBounds_toArray, List.set_cons_succ, List.set_cons_zero])
      refine wpTwo_end (by kernel_rfl) ?_ _
      clear hT1
      go_wp2
      exact bodyPost_ret (results_ctt rfl _ _ _ rfl rfl rfl (queue_load HYF.out.1)) rfl ⟨.inl ⟨HE.out, _, _, rfl, HYF.out.2.1.mono (by have := HSZ.out; omega), HY.out.1⟩, HYF.out.2.2⟩

end Go.Proofs.YtdllhiihmpinoaaGreat.U
/-
  Package rcu: what it is made of: readers, a grace, queues; the rows and boxes in which they lie.
  Conditions: none.
-/
namespace Go.Proofs.YtdllhiihmpinoaaGreat
set_option maxRecDepth 100000
open Go.RowKit Go.Shelf
attribute [local go_sem] Oper.semAt_some

/-- An Rcu. -/
structure RcS where
  s : RdS
  g : GrS
  qs : List (Int × List (Int × Int))

/-- A row of numbers lies there, outside of S. -/
def NumsOut (S : Nat → Prop) (W : World) (v : Value) (xs : List Int) : Prop := NumsAt W .i64 v xs ∧ ∀ b off n c, v = .slice (some ⟨b, off, none⟩) n c → xs ≠ [] → ¬ S b
theorem NumsOut.keeps {S : Nat → Prop} {W W' : World} {v : Value} {xs : List Int} (h : NumsOut S W v xs) (hk : Keeps S W W') : NumsOut S W' v xs := by
  obtain ⟨⟨p, cap, rfl, hc⟩, hS⟩ := h
  refine ⟨⟨p, cap, rfl, fun hne => ?_⟩, hS⟩
  obtain ⟨b, off, rfl, hcs⟩ := hc hne
  exact ⟨b, off, rfl, fun i hi => hk.cell (hcs i hi) (hS b off _ _ rfl hne)⟩
theorem NumsOut.below {S : Nat → Prop} {W W' : World} {v : Value} {xs : List Int} (h : NumsOut S W v xs) (hb : Below W.heap.size W W') : NumsOut S W' v xs := ⟨nums_below h.1 hb, h.2⟩
theorem NumsOut.apart {S T : Nat → Prop} {W : World} {v : Value} {xs : List Int} (h : NumsOut S W v xs) (hT : ∀ q, T q → S q ∨ W.heap.size ≤ q) : NumsOut T W v xs := by
  refine ⟨h.1, fun b off n c e hne hb => ?_⟩
  obtain ⟨p, cap, e', hc⟩ := h.1
  obtain ⟨b', off', ep, hcs⟩ := hc hne
  rw [e] at e'
  injection e' with e' _ _
  rw [← e'] at ep
  injection ep with ep
  injection ep with eb eo _
  have := World.block_lt_of_cell? W _ (hcs 0 (List.length_pos_iff.2 hne))
  have hlt : b' < W.heap.size := this
  rcases hT b hb with h1 | h1
  · exact h.2 b off n c e hne h1
  · omega
theorem NumsOut.of_block {S : Nat → Prop} {W : World} {b : Nat} {xs : List Int} (h : IBlock W b xs) (hb : ¬ S b) : NumsOut S W (.slice (some ⟨b, 0, none⟩) xs.length xs.length) xs :=
  ⟨h.nums, fun b' off n c e _ => by injection e with e _ _; injection e with e; injection e with e _ _; rw [← e]; exact hb⟩

/-- A row of truth values lies there, outside of S. -/
def BoolsOut (S : Nat → Prop) (W : World) (v : Value) (xs : List Bool) : Prop := BoolsAt W v xs ∧ ∀ b off n c, v = .slice (some ⟨b, off, none⟩) n c → xs ≠ [] → ¬ S b
theorem BoolsOut.keeps {S : Nat → Prop} {W W' : World} {v : Value} {xs : List Bool} (h : BoolsOut S W v xs) (hk : Keeps S W W') : BoolsOut S W' v xs := by
  obtain ⟨⟨p, cap, rfl, hc⟩, hS⟩ := h
  refine ⟨⟨p, cap, rfl, fun hne => ?_⟩, hS⟩
  obtain ⟨b, off, rfl, hcs⟩ := hc hne
  exact ⟨b, off, rfl, fun i hi => hk.cell (hcs i hi) (hS b off _ _ rfl hne)⟩
theorem BoolsOut.below {S : Nat → Prop} {W W' : World} {v : Value} {xs : List Bool} (h : BoolsOut S W v xs) (hb : Below W.heap.size W W') : BoolsOut S W' v xs := ⟨bools_below h.1 hb, h.2⟩
theorem BoolsOut.apart {S T : Nat → Prop} {W : World} {v : Value} {xs : List Bool} (h : BoolsOut S W v xs) (hT : ∀ q, T q → S q ∨ W.heap.size ≤ q) : BoolsOut T W v xs := by
  refine ⟨h.1, fun b off n c e hne hb => ?_⟩
  obtain ⟨p, cap, e', hc⟩ := h.1
  obtain ⟨b', off', ep, hcs⟩ := hc hne
  rw [e] at e'
  injection e' with e' _ _
  rw [← e'] at ep
  injection ep with ep
  injection ep with eb eo _
  have := World.block_lt_of_cell? W _ (hcs 0 (List.length_pos_iff.2 hne))
  have hlt : b' < W.heap.size := this
  rcases hT b hb with h1 | h1
  · exact h.2 b off n c e hne h1
  · omega
theorem BoolsOut.of_block {S : Nat → Prop} {W : World} {b : Nat} {xs : List Bool} (h : BBlock W b xs) (hb : ¬ S b) : BoolsOut S W (.slice (some ⟨b, 0, none⟩) xs.length xs.length) xs :=
  ⟨h.bools, fun b' off n c e _ => by injection e with e _ _; injection e with e; injection e with e _ _; rw [← e]; exact hb⟩

/-- A row of queues lies there, outside of S. -/
def QsOut (S : Nat → Prop) (W : World) (v : Value) (qs : List (Int × List (Int × Int))) : Prop := ∃ p cap, v = .slice p qs.length cap ∧
  (qs ≠ [] → ∃ b off, p = some ⟨b, off, none⟩ ∧ ¬ S b ∧ ∀ i (h : i < qs.length), ∃ lv, W.cell? ⟨b, off + i * 2, none⟩ = some lv ∧ W.cell? ⟨b, off + i * 2 + 1, none⟩ = some (.int .u64 qs[i].1) ∧ U.CbOut S W lv qs[i].2)
theorem QsOut.keeps {S : Nat → Prop} {W W' : World} {v : Value} {qs : List (Int × List (Int × Int))} (h : QsOut S W v qs) (hk : Keeps S W W') : QsOut S W' v qs := by
  obtain ⟨p, cap, rfl, hc⟩ := h
  refine ⟨p, cap, rfl, fun hne => ?_⟩
  obtain ⟨b, off, rfl, hS, hcs⟩ := hc hne
  refine ⟨b, off, rfl, hS, fun i hi => ?_⟩
  obtain ⟨lv, h1, h2, h3⟩ := hcs i hi
  exact ⟨lv, hk.cell h1 hS, hk.cell h2 hS, h3.keeps hk⟩
theorem QsOut.below {S : Nat → Prop} {W W' : World} {v : Value} {qs : List (Int × List (Int × Int))} (h : QsOut S W v qs) (hb : Below W.heap.size W W') : QsOut S W' v qs := by
  obtain ⟨p, cap, rfl, hc⟩ := h
  refine ⟨p, cap, rfl, fun hne => ?_⟩
  obtain ⟨b, off, rfl, hS, hcs⟩ := hc hne
  refine ⟨b, off, rfl, hS, fun i hi => ?_⟩
  obtain ⟨lv, h1, h2, h3⟩ := hcs i hi
  exact ⟨lv, below_cell hb h1, below_cell hb h2, h3.below hb⟩
theorem QsOut.apart {S T : Nat → Prop} {W : World} {v : Value} {qs : List (Int × List (Int × Int))} (h : QsOut S W v qs) (hT : ∀ q, T q → S q ∨ W.heap.size ≤ q) : QsOut T W v qs := by
  obtain ⟨p, cap, rfl, hc⟩ := h
  refine ⟨p, cap, rfl, fun hne => ?_⟩
  obtain ⟨b, off, rfl, hS, hcs⟩ := hc hne
  refine ⟨b, off, rfl, fun hb => ?_, fun i hi => ?_⟩
  · obtain ⟨lv, h1, -⟩ := hcs 0 (List.length_pos_iff.2 hne)
    have hlt : b < W.heap.size := World.block_lt_of_cell? W _ h1
    rcases hT b hb with h | h
    · exact hS h
    · omega
  · obtain ⟨lv, h1, h2, h3⟩ := hcs i hi
    exact ⟨lv, h1, h2, h3.apart hT⟩

/-- An Rcu's rows lie there, outside of S. -/
structure RcIn (S : Nat → Prop) (W : World) (u v nv qv : Value) (r : RcS) : Prop where
  nest : NumsOut S W u r.s.ns
  opened : NumsOut S W v r.s.os
  needs : BoolsOut S W nv r.g.nd
  queues : QsOut S W qv r.qs
theorem RcIn.keeps {S : Nat → Prop} {W W' : World} {u v nv qv : Value} {r : RcS} (h : RcIn S W u v nv qv r) (hk : Keeps S W W') : RcIn S W' u v nv qv r := ⟨h.nest.keeps hk, h.opened.keeps hk, h.needs.keeps hk, h.queues.keeps hk⟩
theorem RcIn.below {S : Nat → Prop} {W W' : World} {u v nv qv : Value} {r : RcS} (h : RcIn S W u v nv qv r) (hb : Below W.heap.size W W') : RcIn S W' u v nv qv r := ⟨h.nest.below hb, h.opened.below hb, h.needs.below hb, h.queues.below hb⟩
theorem RcIn.apart {S T : Nat → Prop} {W : World} {u v nv qv : Value} {r : RcS} (h : RcIn S W u v nv qv r) (hT : ∀ q, T q → S q ∨ W.heap.size ≤ q) : RcIn T W u v nv qv r := ⟨h.nest.apart hT, h.opened.apart hT, h.needs.apart hT, h.queues.apart hT⟩
theorem RcIn.sl {S : Nat → Prop} {W : World} {u v nv qv : Value} {r : RcS} (h : RcIn S W u v nv qv r) : ∃ p1 c1 p2 c2 p3 c3 p4 c4, u = .slice p1 r.s.ns.length c1 ∧ v = .slice p2 r.s.os.length c2 ∧ nv = .slice p3 r.g.nd.length c3 ∧ qv = .slice p4 r.qs.length c4 := by
  obtain ⟨⟨⟨p1, c1, e1, -⟩, -⟩, ⟨⟨p2, c2, e2, -⟩, -⟩, ⟨⟨p3, c3, e3, -⟩, -⟩, ⟨p4, c4, e4, -⟩⟩ := h
  exact ⟨p1, c1, p2, c2, p3, c3, p4, c4, e1, e2, e3, e4⟩
/-- The ranges of its numbers. -/
structure RcR (r : RcS) : Prop where
  l1 : r.s.ns.length ≤ 9223372036854775807
  l2 : r.s.os.length ≤ 9223372036854775807
  l3 : r.g.nd.length ≤ 9223372036854775807
  l4 : r.qs.length ≤ 9223372036854775807
  os : ∀ x ∈ r.s.os, I64 x
  ov : ∀ q ∈ r.qs, 0 ≤ q.1
  pe : ∀ q ∈ r.qs, ∀ c ∈ q.2, 0 ≤ c.1
  ga : I64 r.g.asked
/-- What box it lies in. -/
def RcBox (W : World) (z : Nat) (now : Int) (u : Value) (v : Value) (d : Int) (a : Int) (on : Bool) (nv : Value) (qv : Value) : Prop := W.heap[z]? = some (.cells #[.int .i64 now, u, v, .int .i64 d, .int .i64 a, .bool on, nv, qv] 30 (0, 0))
theorem RcBox.cells {W : World} {z : Nat} {now : Int} {u v : Value} {d a : Int} {on : Bool} {nv qv : Value} (h : RcBox W z now u v d a on nv qv) : W.cell? ⟨z, 0, none⟩ = some (.int .i64 now) ∧ W.cell? ⟨z, 1, none⟩ = some (u) ∧ W.cell? ⟨z, 2, none⟩ = some (v) ∧ W.cell? ⟨z, 3, none⟩ = some (.int .i64 d) ∧ W.cell? ⟨z, 4, none⟩ = some (.int .i64 a) ∧ W.cell? ⟨z, 5, none⟩ = some (.bool on) ∧ W.cell? ⟨z, 6, none⟩ = some (nv) ∧ W.cell? ⟨z, 7, none⟩ = some (qv) := by
  have h' : W.heap[z]? = _ := h
  simp [World.cell?, h']
theorem RcBox.marks {W : World} {z : Nat} {now : Int} {u v : Value} {d a : Int} {on : Bool} {nv qv : Value} (h : RcBox W z now u v d a on nv qv) (i : Nat) : W.frozen? ⟨z, i, none⟩ = false := by
  have h' : W.heap[z]? = _ := h
  simp [World.frozen?, h']
theorem RcBox.lt {W : World} {z : Nat} {now : Int} {u v : Value} {d a : Int} {on : Bool} {nv qv : Value} (h : RcBox W z now u v d a on nv qv) : z < W.heap.size := (Array.getElem?_eq_some_iff.1 h).1
theorem RcBox.below {W W' : World} {z : Nat} {now : Int} {u v : Value} {d a : Int} {on : Bool} {nv qv : Value} (h : RcBox W z now u v d a on nv qv) (hb : Below W.heap.size W W') : RcBox W' z now u v d a on nv qv := (hb.block z h.lt).trans h
theorem RcBox.keeps {S : Nat → Prop} {W W' : World} {z : Nat} {now : Int} {u v : Value} {d a : Int} {on : Bool} {nv qv : Value} (h : RcBox W z now u v d a on nv qv) (hk : Keeps S W W') (hz : ¬ S z) : RcBox W' z now u v d a on nv qv := (hk.block z h.lt hz).trans h
theorem RcBox.new (W : World) (now : Int) (u : Value) (v : Value) (d : Int) (a : Int) (on : Bool) (nv : Value) (qv : Value) : RcBox (W.alloc (.cells #[.int .i64 now, u, v, .int .i64 d, .int .i64 a, .bool on, nv, qv] 30)) W.heap.size now u v d a on nv qv := World.alloc_heap_new W _
theorem RcBox.info : (Tryz.prog.info? 30).map (·.size) = some 8 := by kernel_rfl
theorem RcBox.load {W : World} {z : Nat} {now : Int} {u v : Value} {d a : Int} {on : Bool} {nv qv : Value} (h : RcBox W z now u v d a on nv qv) : (loadVar 30 ⟨z, 0, none⟩).run Tryz.prog W = .ok (.agg #[.int .i64 now, u, v, .int .i64 d, .int .i64 a, .bool on, nv, qv]) W := by
  obtain ⟨h0, h1, h2, h3, h4, h5, h6, h7⟩ := h.cells
  refine run_loadVar_mid W z 0 30 [.int .i64 now, u, v, .int .i64 d, .int .i64 a, .bool on, nv, qv] _ (fun j u hj => ?_) Tryz.underlying30 rfl RcBox.info
  rw [Nat.zero_add]
  match j, hj with
  | 0, hj => cases hj; exact h0
  | 1, hj => cases hj; exact h1
  | 2, hj => cases hj; exact h2
  | 3, hj => cases hj; exact h3
  | 4, hj => cases hj; exact h4
  | 5, hj => cases hj; exact h5
  | 6, hj => cases hj; exact h6
  | 7, hj => cases hj; exact h7
  | (k + 8), hj => simp at hj
theorem RcBox.putR {W : World} {z : Nat} {now0 : Int} {u0 : Value} {v0 : Value} {d : Int} {a : Int} {on : Bool} {nv : Value} {qv : Value} (h : RcBox W z now0 u0 v0 d a on nv qv) (now : Int) (u : Value) (v : Value) : RcBox (((W.setCell ⟨z, 0, none⟩ (.int .i64 now)).setCell ⟨z, 1, none⟩ (u)).setCell ⟨z, 2, none⟩ (v)) z now u v d a on nv qv := by
  have h0 := heap_setCell_same W z 0 _ _ (.int .i64 now) h
  have h1 := heap_setCell_same _ z 1 _ _ (u) h0
  have h2 := heap_setCell_same _ z 2 _ _ (v) h1
  unfold RcBox
  rw [h2]
  rfl
theorem RcBox.putRK (W : World) (z : Nat) (now : Int) (u : Value) (v : Value) : Keeps (fun k => k = z) W (((W.setCell ⟨z, 0, none⟩ (.int .i64 now)).setCell ⟨z, 1, none⟩ (u)).setCell ⟨z, 2, none⟩ (v)) := (((setK W z 0 _).trans (setK _ z 1 _)).trans (setK _ z 2 _))
theorem RcBox.putG {W : World} {z : Nat} {now : Int} {u : Value} {v : Value} {d0 : Int} {a0 : Int} {on0 : Bool} {nv0 : Value} {qv : Value} (h : RcBox W z now u v d0 a0 on0 nv0 qv) (d : Int) (a : Int) (on : Bool) (nv : Value) : RcBox ((((W.setCell ⟨z, 3, none⟩ (.int .i64 d)).setCell ⟨z, 4, none⟩ (.int .i64 a)).setCell ⟨z, 5, none⟩ (.bool on)).setCell ⟨z, 6, none⟩ (nv)) z now u v d a on nv qv := by
  have h0 := heap_setCell_same W z 3 _ _ (.int .i64 d) h
  have h1 := heap_setCell_same _ z 4 _ _ (.int .i64 a) h0
  have h2 := heap_setCell_same _ z 5 _ _ (.bool on) h1
  have h3 := heap_setCell_same _ z 6 _ _ (nv) h2
  unfold RcBox
  rw [h3]
  rfl
theorem RcBox.putGK (W : World) (z : Nat) (d : Int) (a : Int) (on : Bool) (nv : Value) : Keeps (fun k => k = z) W ((((W.setCell ⟨z, 3, none⟩ (.int .i64 d)).setCell ⟨z, 4, none⟩ (.int .i64 a)).setCell ⟨z, 5, none⟩ (.bool on)).setCell ⟨z, 6, none⟩ (nv)) := ((((setK W z 3 _).trans (setK _ z 4 _)).trans (setK _ z 5 _)).trans (setK _ z 6 _))
theorem RcBox.putQ {W : World} {z : Nat} {now : Int} {u : Value} {v : Value} {d : Int} {a : Int} {on : Bool} {nv : Value} {qv0 : Value} (h : RcBox W z now u v d a on nv qv0) (qv : Value) : RcBox (W.setCell ⟨z, 7, none⟩ (qv)) z now u v d a on nv qv := by
  have h0 := heap_setCell_same W z 7 _ _ (qv) h
  unfold RcBox
  rw [h0]
  rfl
theorem RcBox.putQK (W : World) (z : Nat) (qv : Value) : Keeps (fun k => k = z) W (W.setCell ⟨z, 7, none⟩ (qv)) := (setK W z 7 _)
theorem RcBox.putAll {W : World} {z : Nat} {now0 : Int} {u0 : Value} {v0 : Value} {d0 : Int} {a0 : Int} {on0 : Bool} {nv0 : Value} {qv0 : Value} (h : RcBox W z now0 u0 v0 d0 a0 on0 nv0 qv0) (now : Int) (u : Value) (v : Value) (d : Int) (a : Int) (on : Bool) (nv : Value) (qv : Value) : RcBox ((((((((W.setCell ⟨z, 0, none⟩ (.int .i64 now)).setCell ⟨z, 1, none⟩ (u)).setCell ⟨z, 2, none⟩ (v)).setCell ⟨z, 3, none⟩ (.int .i64 d)).setCell ⟨z, 4, none⟩ (.int .i64 a)).setCell ⟨z, 5, none⟩ (.bool on)).setCell ⟨z, 6, none⟩ (nv)).setCell ⟨z, 7, none⟩ (qv)) z now u v d a on nv qv := (((h.putR now u v).putG d a on nv).putQ qv)
theorem RcBox.putAllK (W : World) (z : Nat) (now : Int) (u : Value) (v : Value) (d : Int) (a : Int) (on : Bool) (nv : Value) (qv : Value) : Keeps (fun k => k = z) W ((((((((W.setCell ⟨z, 0, none⟩ (.int .i64 now)).setCell ⟨z, 1, none⟩ (u)).setCell ⟨z, 2, none⟩ (v)).setCell ⟨z, 3, none⟩ (.int .i64 d)).setCell ⟨z, 4, none⟩ (.int .i64 a)).setCell ⟨z, 5, none⟩ (.bool on)).setCell ⟨z, 6, none⟩ (nv)).setCell ⟨z, 7, none⟩ (qv)) := ((((((((setK W z 0 _).trans (setK _ z 1 _)).trans (setK _ z 2 _)).trans (setK _ z 3 _)).trans (setK _ z 4 _)).trans (setK _ z 5 _)).trans (setK _ z 6 _)).trans (setK _ z 7 _))
/-- What box it lies in. -/
def VtBox (W : World) (z : Nat) (now : Int) (u : Value) (v : Value) (d : Int) (a : Int) (on : Bool) (nv : Value) (qv : Value) (lv : Value) : Prop := W.heap[z]? = some (.cells #[.int .i64 now, u, v, .int .i64 d, .int .i64 a, .bool on, nv, qv, lv] 91 (0, 0))
theorem VtBox.cells {W : World} {z : Nat} {now : Int} {u v : Value} {d a : Int} {on : Bool} {nv qv lv : Value} (h : VtBox W z now u v d a on nv qv lv) : W.cell? ⟨z, 0, none⟩ = some (.int .i64 now) ∧ W.cell? ⟨z, 1, none⟩ = some (u) ∧ W.cell? ⟨z, 2, none⟩ = some (v) ∧ W.cell? ⟨z, 3, none⟩ = some (.int .i64 d) ∧ W.cell? ⟨z, 4, none⟩ = some (.int .i64 a) ∧ W.cell? ⟨z, 5, none⟩ = some (.bool on) ∧ W.cell? ⟨z, 6, none⟩ = some (nv) ∧ W.cell? ⟨z, 7, none⟩ = some (qv) ∧ W.cell? ⟨z, 8, none⟩ = some (lv) := by
  have h' : W.heap[z]? = _ := h
  simp [World.cell?, h']
theorem VtBox.marks {W : World} {z : Nat} {now : Int} {u v : Value} {d a : Int} {on : Bool} {nv qv lv : Value} (h : VtBox W z now u v d a on nv qv lv) (i : Nat) : W.frozen? ⟨z, i, none⟩ = false := by
  have h' : W.heap[z]? = _ := h
  simp [World.frozen?, h']
theorem VtBox.lt {W : World} {z : Nat} {now : Int} {u v : Value} {d a : Int} {on : Bool} {nv qv lv : Value} (h : VtBox W z now u v d a on nv qv lv) : z < W.heap.size := (Array.getElem?_eq_some_iff.1 h).1
theorem VtBox.below {W W' : World} {z : Nat} {now : Int} {u v : Value} {d a : Int} {on : Bool} {nv qv lv : Value} (h : VtBox W z now u v d a on nv qv lv) (hb : Below W.heap.size W W') : VtBox W' z now u v d a on nv qv lv := (hb.block z h.lt).trans h
theorem VtBox.keeps {S : Nat → Prop} {W W' : World} {z : Nat} {now : Int} {u v : Value} {d a : Int} {on : Bool} {nv qv lv : Value} (h : VtBox W z now u v d a on nv qv lv) (hk : Keeps S W W') (hz : ¬ S z) : VtBox W' z now u v d a on nv qv lv := (hk.block z h.lt hz).trans h
theorem VtBox.new (W : World) (now : Int) (u : Value) (v : Value) (d : Int) (a : Int) (on : Bool) (nv : Value) (qv : Value) (lv : Value) : VtBox (W.alloc (.cells #[.int .i64 now, u, v, .int .i64 d, .int .i64 a, .bool on, nv, qv, lv] 91)) W.heap.size now u v d a on nv qv lv := World.alloc_heap_new W _
theorem VtBox.info : (Tryz.prog.info? 91).map (·.size) = some 9 := by kernel_rfl
theorem VtBox.load {W : World} {z : Nat} {now : Int} {u v : Value} {d a : Int} {on : Bool} {nv qv lv : Value} (h : VtBox W z now u v d a on nv qv lv) : (loadVar 91 ⟨z, 0, none⟩).run Tryz.prog W = .ok (.agg #[.int .i64 now, u, v, .int .i64 d, .int .i64 a, .bool on, nv, qv, lv]) W := by
  obtain ⟨h0, h1, h2, h3, h4, h5, h6, h7, h8⟩ := h.cells
  refine run_loadVar_mid W z 0 91 [.int .i64 now, u, v, .int .i64 d, .int .i64 a, .bool on, nv, qv, lv] _ (fun j u hj => ?_) Tryz.underlying91 rfl VtBox.info
  rw [Nat.zero_add]
  match j, hj with
  | 0, hj => cases hj; exact h0
  | 1, hj => cases hj; exact h1
  | 2, hj => cases hj; exact h2
  | 3, hj => cases hj; exact h3
  | 4, hj => cases hj; exact h4
  | 5, hj => cases hj; exact h5
  | 6, hj => cases hj; exact h6
  | 7, hj => cases hj; exact h7
  | 8, hj => cases hj; exact h8
  | (k + 9), hj => simp at hj
theorem VtBox.putR {W : World} {z : Nat} {now0 : Int} {u0 : Value} {v0 : Value} {d : Int} {a : Int} {on : Bool} {nv : Value} {qv : Value} {lv : Value} (h : VtBox W z now0 u0 v0 d a on nv qv lv) (now : Int) (u : Value) (v : Value) : VtBox (((W.setCell ⟨z, 0, none⟩ (.int .i64 now)).setCell ⟨z, 1, none⟩ (u)).setCell ⟨z, 2, none⟩ (v)) z now u v d a on nv qv lv := by
  have h0 := heap_setCell_same W z 0 _ _ (.int .i64 now) h
  have h1 := heap_setCell_same _ z 1 _ _ (u) h0
  have h2 := heap_setCell_same _ z 2 _ _ (v) h1
  unfold VtBox
  rw [h2]
  rfl
theorem VtBox.putRK (W : World) (z : Nat) (now : Int) (u : Value) (v : Value) : Keeps (fun k => k = z) W (((W.setCell ⟨z, 0, none⟩ (.int .i64 now)).setCell ⟨z, 1, none⟩ (u)).setCell ⟨z, 2, none⟩ (v)) := (((setK W z 0 _).trans (setK _ z 1 _)).trans (setK _ z 2 _))
theorem VtBox.putG {W : World} {z : Nat} {now : Int} {u : Value} {v : Value} {d0 : Int} {a0 : Int} {on0 : Bool} {nv0 : Value} {qv : Value} {lv : Value} (h : VtBox W z now u v d0 a0 on0 nv0 qv lv) (d : Int) (a : Int) (on : Bool) (nv : Value) : VtBox ((((W.setCell ⟨z, 3, none⟩ (.int .i64 d)).setCell ⟨z, 4, none⟩ (.int .i64 a)).setCell ⟨z, 5, none⟩ (.bool on)).setCell ⟨z, 6, none⟩ (nv)) z now u v d a on nv qv lv := by
  have h0 := heap_setCell_same W z 3 _ _ (.int .i64 d) h
  have h1 := heap_setCell_same _ z 4 _ _ (.int .i64 a) h0
  have h2 := heap_setCell_same _ z 5 _ _ (.bool on) h1
  have h3 := heap_setCell_same _ z 6 _ _ (nv) h2
  unfold VtBox
  rw [h3]
  rfl
theorem VtBox.putGK (W : World) (z : Nat) (d : Int) (a : Int) (on : Bool) (nv : Value) : Keeps (fun k => k = z) W ((((W.setCell ⟨z, 3, none⟩ (.int .i64 d)).setCell ⟨z, 4, none⟩ (.int .i64 a)).setCell ⟨z, 5, none⟩ (.bool on)).setCell ⟨z, 6, none⟩ (nv)) := ((((setK W z 3 _).trans (setK _ z 4 _)).trans (setK _ z 5 _)).trans (setK _ z 6 _))
theorem VtBox.putQ {W : World} {z : Nat} {now : Int} {u : Value} {v : Value} {d : Int} {a : Int} {on : Bool} {nv : Value} {qv0 : Value} {lv : Value} (h : VtBox W z now u v d a on nv qv0 lv) (qv : Value) : VtBox (W.setCell ⟨z, 7, none⟩ (qv)) z now u v d a on nv qv lv := by
  have h0 := heap_setCell_same W z 7 _ _ (qv) h
  unfold VtBox
  rw [h0]
  rfl
theorem VtBox.putQK (W : World) (z : Nat) (qv : Value) : Keeps (fun k => k = z) W (W.setCell ⟨z, 7, none⟩ (qv)) := (setK W z 7 _)
theorem VtBox.putL {W : World} {z : Nat} {now : Int} {u : Value} {v : Value} {d : Int} {a : Int} {on : Bool} {nv : Value} {qv : Value} {lv0 : Value} (h : VtBox W z now u v d a on nv qv lv0) (lv : Value) : VtBox (W.setCell ⟨z, 8, none⟩ (lv)) z now u v d a on nv qv lv := by
  have h0 := heap_setCell_same W z 8 _ _ (lv) h
  unfold VtBox
  rw [h0]
  rfl
theorem VtBox.putLK (W : World) (z : Nat) (lv : Value) : Keeps (fun k => k = z) W (W.setCell ⟨z, 8, none⟩ (lv)) := (setK W z 8 _)
theorem VtBox.putAll {W : World} {z : Nat} {now0 : Int} {u0 : Value} {v0 : Value} {d0 : Int} {a0 : Int} {on0 : Bool} {nv0 : Value} {qv0 : Value} {lv0 : Value} (h : VtBox W z now0 u0 v0 d0 a0 on0 nv0 qv0 lv0) (now : Int) (u : Value) (v : Value) (d : Int) (a : Int) (on : Bool) (nv : Value) (qv : Value) (lv : Value) : VtBox (((((((((W.setCell ⟨z, 0, none⟩ (.int .i64 now)).setCell ⟨z, 1, none⟩ (u)).setCell ⟨z, 2, none⟩ (v)).setCell ⟨z, 3, none⟩ (.int .i64 d)).setCell ⟨z, 4, none⟩ (.int .i64 a)).setCell ⟨z, 5, none⟩ (.bool on)).setCell ⟨z, 6, none⟩ (nv)).setCell ⟨z, 7, none⟩ (qv)).setCell ⟨z, 8, none⟩ (lv)) z now u v d a on nv qv lv := ((((h.putR now u v).putG d a on nv).putQ qv).putL lv)
theorem VtBox.putAllK (W : World) (z : Nat) (now : Int) (u : Value) (v : Value) (d : Int) (a : Int) (on : Bool) (nv : Value) (qv : Value) (lv : Value) : Keeps (fun k => k = z) W (((((((((W.setCell ⟨z, 0, none⟩ (.int .i64 now)).setCell ⟨z, 1, none⟩ (u)).setCell ⟨z, 2, none⟩ (v)).setCell ⟨z, 3, none⟩ (.int .i64 d)).setCell ⟨z, 4, none⟩ (.int .i64 a)).setCell ⟨z, 5, none⟩ (.bool on)).setCell ⟨z, 6, none⟩ (nv)).setCell ⟨z, 7, none⟩ (qv)).setCell ⟨z, 8, none⟩ (lv)) := (((((((((setK W z 0 _).trans (setK _ z 1 _)).trans (setK _ z 2 _)).trans (setK _ z 3 _)).trans (setK _ z 4 _)).trans (setK _ z 5 _)).trans (setK _ z 6 _)).trans (setK _ z 7 _)).trans (setK _ z 8 _))

end Go.Proofs.YtdllhiihmpinoaaGreat
/-
  Package rcu: which ones may be.
  Conditions: the ranges of Go's types.
-/
namespace Go.Proofs.YtdllhiihmpinoaaGreat
set_option maxRecDepth 100000
open Go.RowKit Go.Shelf
attribute [local go_sem] Oper.semAt_some

theorem boxed_bw {W W' : World} {b : Nat} {t : TypeId} {v : Value} (h : Boxed W b t v) (hb : Below W.heap.size W W') : Boxed W' b t v := (hb.block b h.lt).trans h
set_option maxHeartbeats 4000000 in
theorem awaited_c (x y a : Int) (zb : Nat) (W : World) (hb : Boxed W zb 35 (.int .u64 a)) : Calls Tryz.prog 91 #[.agg #[.int .u64 x, .int .u64 y], .pointer (some ⟨zb, 0, none⟩)] W fun e w' => e = .returned (.bool (decide (x ≤ a))) ∧ Below W.heap.size W w' := by
  obtain ⟨w0, hw0⟩ : ∃ X : World, X = W.alloc (.cells #[.int .u64 x, .int .u64 y] 68) := ⟨_, rfl⟩
  have hb0 : Below W.heap.size W w0 := by rw [hw0]; exact below1 _ _
  have hx : U.CBox w0 W.heap.size x y := by rw [hw0]; exact U.CBox.new _ _ _
  obtain ⟨c0, c1⟩ := hx.cells
  have e0 := (boxed_bw hb hb0).cell
  have HB := Lib.hid hb0
  clear hb hb0 hx
  go_enter Tryz.func91, Tryz.ntmps91
  go_upto_region 1 with fail
  rw [← hw0]
  clear hw0
  go_wp2
  go_ret
  exact ⟨rfl, HB.out⟩

set_option maxHeartbeats 8000000 in
theorem allC_c (v : Value) (l : List (Int × Int)) (a : Int) (zb : Nat) (W : World) (hv : U.CbOut U.NoS W v l) (hb : Boxed W zb 35 (.int .u64 a)) :
    Calls Tryz.prog 95 #[v, .func (.func 91) #[] #[.pointer (some ⟨zb, 0, none⟩)]] W fun e w' => e = .returned (.bool (l.all fun c => decide (c.1 ≤ a))) ∧ Below W.heap.size W w' := by
  have HV := Lib.hid hv
  have HZ := Lib.hid hb
  obtain ⟨p, cap, rfl, hcp, hmx, -⟩ := hv
  obtain ⟨n, hn⟩ : ∃ n, n = l.length := ⟨_, rfl⟩
  have HN := Lib.hid hn
  rw [← hn] at HV hcp ⊢
  have hnm : n ≤ 9223372036854775807 := by omega
  have HL := Lib.hid (show ∀ i, (h : i < l.length) → (l.all fun c => decide (c.1 ≤ a)) = ((l.take i).all (fun c => decide (c.1 ≤ a)) && (decide (l[i].1 ≤ a) && (l.drop (i + 1)).all fun c => decide (c.1 ≤ a))) from fun i h => by
    conv => lhs; rw [← List.take_append_drop i l, List.all_append, List.drop_eq_getElem_cons h, List.all_cons])
  clear hn hb hcp hmx
  go_enter Tryz.func95, Tryz.ntmps95
  go_wp2
  go_loopw [9] (fun iv wr => ∃ i : Nat, i ≤ n ∧ iv = .int .i64 (i : Int) ∧ Hid (Below W.heap.size W wr) ∧ Hid ((l.take i).all (fun c => decide (c.1 ≤ a)) = true)) (fun iv _ => n - (intOf iv).toNat)
  case atStart => exact ⟨0, Nat.zero_le _, rfl, Lib.hid (Below.refl _ _), Lib.hid rfl⟩
  case round =>
    obtain ⟨i, hi, rfl, HB, HU⟩ := hrel
    by_cases hlt : i < n
    · have hil : i < l.length := by have := HN.out; omega
      obtain ⟨p', cap', e, -, -, hc⟩ := HV.out.below HB.out
      injection e with e1 e2 e3
      subst e1 e3
      obtain ⟨b, off, rfl, -, hcs⟩ := hc (by rintro rfl; simp at hil)
      obtain ⟨hx, hy⟩ := hcs i hil
      obtain ⟨x, hxe⟩ : ∃ x, x = l[i].1 := ⟨_, rfl⟩
      obtain ⟨y, hye⟩ : ∃ y, y = l[i].2 := ⟨_, rfl⟩
      have hall := HL.out i hil
      rw [HU.out, Bool.true_and, ← hxe] at hall
      have htk : (l.take (i + 1)).all (fun c => decide (c.1 ≤ a)) = decide (x ≤ a) := by rw [List.take_succ_eq_append_getElem hil, List.all_append, HU.out, Bool.true_and, List.all_cons, List.all_nil, Bool.and_true, ← hxe]
      have HALL := Lib.hid (And.intro hall htk)
      rw [← hxe] at hx
      rw [← hye] at hy
      have hbl := World.block_lt_of_cell? wr _ hx
      obtain ⟨w1, hw1⟩ : ∃ X : World, X = wr.alloc (.cells #[.int .u64 x, .int .u64 y] 68) := ⟨_, rfl⟩
      have hb1 : Below wr.heap.size wr w1 := by rw [hw1]; exact below1 _ _
      have hB1 := below_then HB.out HB.out.size hb1
      have HC := Lib.hid (awaited_c x y a zb w1 (boxed_bw HZ.out hB1))
      have hx1 : U.CBox w1 wr.heap.size x y := by rw [hw1]; exact U.CBox.new _ _ _
      obtain ⟨c0, c1⟩ := hx1.cells
      have HB1 := Lib.hid hB1
      have HW1 := Lib.hid hw1
      clear hc hcs hxe hye hw1 e2 hall htk hb1 hB1 hx1 HU
      have hi0 : (0 : Int) ≤ (i : Int) := by omega
      have hlt' : (i : Int) < (n : Int) := by omega
      go_upto_region 4 with fail
      rw [← HW1.out]
      clear HW1 hx hy hbl
      go_wp2_with fail
      (with_reducible refine HC.out.mono ?_)
      rintro e w2 ⟨rfl, hb2⟩
      have HB2 := Lib.hid (below_then HB1.out HB1.out.size hb2)
      clear hb2 HB1 HC c0 c1
      by_cases hxa : x ≤ a
      · rw [decide_eq_true hxa]
        have HT := Lib.hid (show (l.take (i + 1)).all (fun c => decide (c.1 ≤ a)) = true by rw [HALL.out.2, decide_eq_true hxa])
        clear HALL hxa
        go_wp2
        go_roundw
        case rel => exact ⟨i + 1, by omega, by go_num, HB2, HT⟩
        case measure => simp [intOf]; omega
      · rw [decide_eq_false hxa]
        have HF := Lib.hid (show (l.all fun c => decide (c.1 ≤ a)) = false by rw [HALL.out.1, decide_eq_false hxa, Bool.false_and])
        clear HALL hxa
        go_wp2
        go_ret
        exact ⟨by rw [HF.out]; rfl, HB2.out⟩
    · obtain rfl : i = n := by omega
      have HT := Lib.hid (show (l.all fun c => decide (c.1 ≤ a)) = true by have := HU.out; rwa [HN.out, List.take_length] at this)
      clear HU hlt hi
      go_wp2
      go_ret
      exact ⟨by rw [HT.out]; rfl, HB.out⟩

/-- May a queue stand in it? -/
def qOk (d a : Int) (q : Int × List (Int × Int)) : Bool := (U.mayB q.1 q.2 && decide (q.1 = d)) && q.2.all fun c => decide (c.1 ≤ a)
set_option maxHeartbeats 4000000 in
theorem qOk_c (v : Value) (over : Int) (l : List (Int × Int)) (d a : Int) (zd za zf : Nat) (W : World) (hv : U.CbOut U.NoS W v l) (ho : 0 ≤ over) (hd : Boxed W zd 35 (.int .u64 d)) (ha : Boxed W za 35 (.int .u64 a))
    (hf : Boxed W zf 138 (.func (.func 91) #[] #[.pointer (some ⟨za, 0, none⟩)])) :
    Calls Tryz.prog 93 #[.agg #[v, .int .u64 over], .pointer (some ⟨zd, 0, none⟩), .pointer (some ⟨zf, 0, none⟩)] W fun e w' => e = .returned (.bool (qOk d a (over, l))) ∧ Below W.heap.size W w' := by
  obtain ⟨R, hR⟩ : ∃ R, R = qOk d a (over, l) := ⟨_, rfl⟩
  rw [← hR]
  have HR := Lib.hid hR
  clear hR
  obtain ⟨w0, hw0⟩ : ∃ X : World, X = W.alloc (.cells #[v, .int .u64 over] 66) := ⟨_, rfl⟩
  have hb0 : Below W.heap.size W w0 := by rw [hw0]; exact below1 _ _
  have hx : U.QBox w0 W.heap.size v over := by rw [hw0]; exact U.QBox.new _ _ _
  have HC := Lib.hid (U.check_c v over l w0 (hv.below hb0) ho)
  have HX := Lib.hid (show U.QBox w0 W.heap.size v over ∧ U.CbOut U.NoS w0 v l ∧ Boxed w0 zd 35 (.int .u64 d) ∧ Boxed w0 za 35 (.int .u64 a) ∧ Boxed w0 zf 138 (.func (.func 91) #[] #[.pointer (some ⟨za, 0, none⟩)]) ∧ Below W.heap.size W w0 from ⟨hx, hv.below hb0, boxed_bw hd hb0, boxed_bw ha hb0, boxed_bw hf hb0, hb0⟩)
  obtain ⟨c0, c1⟩ := hx.cells
  obtain ⟨p, cp, rfl, -⟩ := hv
  clear hb0 hx ho hd ha hf
  go_enter Tryz.func93, Tryz.ntmps93
  go_wp2_with fail
  rw [← hw0]
  clear hw0
  (with_reducible refine HC.out.mono ?_)
  rintro e w1 ⟨rfl, hb1⟩
  obtain ⟨x1, x2, x3, x4, x5, x6⟩ := HX.out
  have HX1 := Lib.hid (show U.CbOut U.NoS w1 (.slice p l.length cp) l ∧ Boxed w1 za 35 (.int .u64 a) ∧ Below W.heap.size W w1 from ⟨x2.below hb1, boxed_bw x4 hb1, below_then x6 x6.size hb1⟩)
  obtain ⟨g0, g1⟩ := (x1.below hb1).cells
  have d0 := (boxed_bw x3 hb1).cell
  have f0 := (boxed_bw x5 hb1).cell
  clear x1 x2 x3 x4 x5 x6 hb1 HX HC c0 c1
  unfold U.chkE
  cases hm : U.mayB over l with
  | false =>
    have HE := Lib.hid (show R = false by rw [HR.out]; unfold qOk; simp only [hm, Bool.false_and])
    rw [if_neg Bool.false_ne_true]
    clear hm
    go_wp2
    go_ret
    exact ⟨by rw [HE.out]; rfl, HX1.out.2.2⟩
  | true =>
    rw [if_pos rfl]
    by_cases hov : over = d
    · subst hov
      have HE := Lib.hid (show R = (l.all fun c => decide (c.1 ≤ a)) by rw [HR.out]; unfold qOk; simp only [hm, Bool.true_and, decide_true])
      clear hm
      have HA := Lib.hid (allC_c (.slice p l.length cp) l a za w1 HX1.out.1 HX1.out.2.1)
      have hq : (over == over) = true := by simp
      go_wp2_with fail
      (with_reducible refine HA.out.mono ?_)
      rintro e w2 ⟨rfl, hb2⟩
      have HB2 := Lib.hid (below_then HX1.out.2.2 HX1.out.2.2.size hb2)
      clear hb2 HX1 HA
      go_wp2
      go_ret
      exact ⟨by rw [HE.out]; rfl, HB2.out⟩
    · have HE := Lib.hid (show R = false by rw [HR.out]; unfold qOk; simp only [hm, decide_eq_false hov, Bool.and_false, Bool.false_and])
      clear hm
      have hq : (over == d) = false := by rw [beq_eq_false_iff_ne]; exact hov
      go_wp2
      go_ret
      exact ⟨by rw [HE.out]; rfl, HX1.out.2.2⟩

end Go.Proofs.YtdllhiihmpinoaaGreat
namespace Go.Proofs.YtdllhiihmpinoaaGreat
set_option maxRecDepth 100000
open Go.RowKit Go.Shelf
attribute [local go_sem] Oper.semAt_some

/-- A cut of a row of queues: one of them, in a box. -/
theorem queue_at {S : Nat → Prop} {W : World} {p : Option Addr} {n c : Nat} {qs : List (Int × List (Int × Int))} (h : QsOut S W (.slice p n c) qs) (i : Nat) (hi : i < qs.length) : ∃ b off, p = some ⟨b, off, none⟩ ∧ ∃ lv, W.cell? ⟨b, off + i * 2, none⟩ = some lv ∧ W.cell? ⟨b, off + i * 2 + 1, none⟩ = some (.int .u64 qs[i].1) ∧ U.CbOut S W lv qs[i].2 := by
  obtain ⟨p', cap', e, hc⟩ := h
  injection e with e1 e2 e3
  subst e1 e2 e3
  obtain ⟨b, off, rfl, -, hcs⟩ := hc (by rintro rfl; simp at hi)
  exact ⟨b, off, rfl, hcs i hi⟩

set_option maxHeartbeats 8000000 in
theorem allQ_c (v : Value) (qs : List (Int × List (Int × Int))) (P : Int × List (Int × Int) → Bool) (K : Nat) (caps : Array Value) (W : World) (hv : QsOut U.NoS W v qs) (hl : qs.length ≤ 9223372036854775807)
    (hcf : ∀ (args : Array Value) (w : World), (callFunc K args).run Tryz.prog w = .ok (.enter K args) w)
    (hcall : ∀ i (h : i < qs.length) lv W', Below W.heap.size W W' → U.CbOut U.NoS W' lv qs[i].2 → Calls Tryz.prog K (#[.agg #[lv, .int .u64 qs[i].1]] ++ caps) W' fun e w' => e = .returned (.bool (P qs[i])) ∧ Below W'.heap.size W' w') :
    Calls Tryz.prog 92 #[v, .func (.func K) #[] caps] W fun e w' => e = .returned (.bool (qs.all P)) ∧ Below W.heap.size W w' := by
  have HV := Lib.hid hv
  have HCL := Lib.hid hcall
  obtain ⟨p, cap, rfl, -⟩ := hv
  obtain ⟨n, hn⟩ : ∃ n, n = qs.length := ⟨_, rfl⟩
  have HN := Lib.hid hn
  rw [← hn] at HV hl ⊢
  have HL := Lib.hid (show ∀ i, (h : i < qs.length) → qs.all P = ((qs.take i).all P && (P qs[i] && (qs.drop (i + 1)).all P)) from fun i h => by
    conv => lhs; rw [← List.take_append_drop i qs, List.all_append, List.drop_eq_getElem_cons h, List.all_cons])
  clear hn hcall
  go_enter Tryz.func92, Tryz.ntmps92
  go_wp2
  go_loopw [9] (fun iv wr => ∃ i : Nat, i ≤ n ∧ iv = .int .i64 (i : Int) ∧ Hid (Below W.heap.size W wr) ∧ Hid ((qs.take i).all P = true)) (fun iv _ => n - (intOf iv).toNat)
  case atStart => exact ⟨0, Nat.zero_le _, rfl, Lib.hid (Below.refl _ _), Lib.hid rfl⟩
  case round =>
    obtain ⟨i, hi, rfl, HB, HU⟩ := hrel
    by_cases hlt : i < n
    · have hil : i < qs.length := by have := HN.out; omega
      obtain ⟨b, off, rfl, lv, hx, hy, hcb⟩ := queue_at (HV.out.below HB.out) i hil
      obtain ⟨y, hye⟩ : ∃ y, y = qs[i].1 := ⟨_, rfl⟩
      obtain ⟨r, hr⟩ : ∃ r, r = P qs[i] := ⟨_, rfl⟩
      have hall := HL.out i hil
      rw [HU.out, Bool.true_and, ← hr] at hall
      have htk : (qs.take (i + 1)).all P = r := by rw [List.take_succ_eq_append_getElem hil, List.all_append, HU.out, Bool.true_and, List.all_cons, List.all_nil, Bool.and_true, ← hr]
      have HALL := Lib.hid (And.intro hall htk)
      rw [← hye] at hy
      have hbl := World.block_lt_of_cell? wr _ hx
      obtain ⟨w1, hw1⟩ : ∃ X : World, X = wr.alloc (.cells #[lv, .int .u64 y] 66) := ⟨_, rfl⟩
      have hb1 : Below wr.heap.size wr w1 := by rw [hw1]; exact below1 _ _
      have hB1 := below_then HB.out HB.out.size hb1
      have hC := HCL.out i hil lv w1 hB1 (hcb.below hb1)
      rw [← hye, ← hr] at hC
      have HC := Lib.hid hC
      have hx1 : U.QBox w1 wr.heap.size lv y := by rw [hw1]; exact U.QBox.new _ _ _
      obtain ⟨c0, c1⟩ := hx1.cells
      have HB1 := Lib.hid hB1
      have HW1 := Lib.hid hw1
      obtain ⟨lp, lc, rfl, -⟩ := hcb
      obtain ⟨ln, hln⟩ : ∃ k, k = qs[i].2.length := ⟨_, rfl⟩
      rw [← hln] at hx c0 HC HW1
      clear hye hw1 hall htk hb1 hB1 hx1 HU hC hr hln
      have hi0 : (0 : Int) ≤ (i : Int) := by omega
      have hlt' : (i : Int) < (n : Int) := by omega
      go_upto_region 4 with fail
      rw [← HW1.out]
      clear HW1 hx hy hbl
      go_wp2_with fail
      (with_reducible refine HC.out.mono ?_)
      rintro e w2 ⟨rfl, hb2⟩
      have HB2 := Lib.hid (below_then HB1.out HB1.out.size hb2)
      clear hb2 HB1 HC c0 c1
      cases r with
      | true =>
        have HT := Lib.hid HALL.out.2
        clear HALL
        go_wp2
        go_roundw
        case rel => exact ⟨i + 1, by omega, by go_num, HB2, HT⟩
        case measure => simp [intOf]; omega
      | false =>
        have HF := Lib.hid (show qs.all P = false by rw [HALL.out.1, Bool.false_and])
        clear HALL
        go_wp2
        go_ret
        exact ⟨by rw [HF.out]; rfl, HB2.out⟩
    · obtain rfl : i = n := by omega
      have HT := Lib.hid (show qs.all P = true by have := HU.out; rwa [HN.out, List.take_length] at this)
      clear HU hlt hi
      go_wp2
      go_ret
      exact ⟨by rw [HT.out]; rfl, HB.out⟩

/-- May it be? -/
def rmayB (r : RcS) : Bool := mayB r.s.now r.s.ns r.s.os && (mayG r.g && (decide (r.s.ns.length = r.qs.length) && (decide (r.g.nd.length = r.qs.length) && r.qs.all (qOk r.g.done r.g.asked))))

theorem mayG_range {g : GrS} (h : mayG g = true) : (0 ≤ g.done ∧ g.done < 18446744073709551616) ∧ 0 ≤ g.asked ∧ g.asked < 18446744073709551616 := by
  obtain ⟨-, -, h1, h2, h3⟩ := mayG_facts h
  omega

theorem two_u64 (w : World) (x y : Int) : Below w.heap.size w ((w.alloc (.cells #[.int .u64 x] 35)).alloc (.cells #[.int .u64 y] 35)).drew ∧ Boxed ((w.alloc (.cells #[.int .u64 x] 35)).alloc (.cells #[.int .u64 y] 35)).drew w.heap.size 35 (.int .u64 x) ∧ Boxed ((w.alloc (.cells #[.int .u64 x] 35)).alloc (.cells #[.int .u64 y] 35)).drew (w.heap.size + 1) 35 (.int .u64 y) := by
  have hd : Below ((w.alloc (.cells #[.int .u64 x] 35)).alloc (.cells #[.int .u64 y] 35)).heap.size ((w.alloc (.cells #[.int .u64 x] 35)).alloc (.cells #[.int .u64 y] 35)) _ := (Below.refl _ _).drew
  refine ⟨(below2 w _ _).drew, boxed_bw (boxed_bw (Boxed.new w _ _) (below1 _ _)) hd, boxed_bw ?_ hd⟩
  have := Boxed.new (w.alloc (.cells #[.int .u64 x] 35)) 35 (.int .u64 y)
  rwa [World.size_alloc] at this

set_option maxHeartbeats 16000000 in
theorem rmay_c (u v nv qv : Value) (r : RcS) (W : World) (hi : RcIn U.NoS W u v nv qv r) (hr : RcR r) :
    Calls Tryz.prog 61 #[.agg #[.int .i64 r.s.now, u, v, .int .i64 r.g.done, .int .i64 r.g.asked, .bool r.g.on, nv, qv]] W fun e w' => e = .returned (.bool (rmayB r)) ∧ Below W.heap.size W w' := by
  obtain ⟨R, hR⟩ : ∃ R, R = rmayB r := ⟨_, rfl⟩
  rw [← hR]
  have HR := Lib.hid hR
  clear hR
  obtain ⟨w0, hw0⟩ : ∃ X : World, X = W.alloc (.cells #[.int .i64 r.s.now, u, v, .int .i64 r.g.done, .int .i64 r.g.asked, .bool r.g.on, nv, qv] 30) := ⟨_, rfl⟩
  have hb0 : Below W.heap.size W w0 := by rw [hw0]; exact below1 _ _
  have hx : RcBox w0 W.heap.size r.s.now u v r.g.done r.g.asked r.g.on nv qv := by rw [hw0]; exact RcBox.new _ _ _ _ _ _ _ _ _
  have HI := Lib.hid (show RcIn U.NoS w0 u v nv qv r ∧ RcR r ∧ Below W.heap.size W w0 ∧ RcBox w0 W.heap.size r.s.now u v r.g.done r.g.asked r.g.on nv qv from ⟨hi.below hb0, hr, hb0, hx⟩)
  have HC := Lib.hid (check_c r.s u v w0 HI.out.1.nest.1 HI.out.1.opened.1 hr.l1 hr.l2 hr.os)
  obtain ⟨p1, c1, p2, c2, p3, c3, p4, c4, rfl, rfl, rfl, rfl⟩ := hi.sl
  obtain ⟨d0, d1, d2, d3, d4, d5, d6, d7⟩ := hx.cells
  clear hb0 hi hr hx
  go_enter Tryz.func61, Tryz.ntmps61
  go_wp2_with fail
  rw [← hw0]
  clear hw0
  (with_reducible refine HC.out.mono ?_)
  rintro e w1 ⟨rfl, hb1⟩
  have HI1 := Lib.hid (show RcIn U.NoS w1 _ _ _ _ r ∧ RcR r ∧ Below W.heap.size W w1 ∧ RcBox w1 W.heap.size r.s.now _ _ r.g.done r.g.asked r.g.on _ _ from ⟨HI.out.1.below hb1, HI.out.2.1, below_then HI.out.2.2.1 HI.out.2.2.1.size hb1, HI.out.2.2.2.below hb1⟩)
  clear hb1 HI HC d0 d1 d2 d3 d4 d5 d6 d7
  cases hm : mayB r.s.now r.s.ns r.s.os with
  | false =>
    have HE := Lib.hid (show R = false by rw [HR.out]; unfold rmayB; rw [hm, Bool.false_and])
    rw [if_neg Bool.false_ne_true]
    clear hm
    go_wp2
    go_ret
    exact ⟨by rw [HE.out]; rfl, HI1.out.2.2.1⟩
  | true =>
    rw [if_pos rfl]
    obtain ⟨d0, d1, d2, d3, d4, d5, d6, d7⟩ := HI1.out.2.2.2.cells
    have HC := Lib.hid (gcheck_c r.g _ w1 HI1.out.1.needs.1 HI1.out.2.1.l3)
    have HM := Lib.hid hm
    clear hm
    go_wp2_with fail
    (with_reducible refine HC.out.mono ?_)
    rintro e w2 ⟨rfl, hb2⟩
    have HI2 := Lib.hid (show RcIn U.NoS w2 _ _ _ _ r ∧ RcR r ∧ Below W.heap.size W w2 ∧ RcBox w2 W.heap.size r.s.now _ _ r.g.done r.g.asked r.g.on _ _ from ⟨HI1.out.1.below hb2, HI1.out.2.1, below_then HI1.out.2.2.1 HI1.out.2.2.1.size hb2, HI1.out.2.2.2.below hb2⟩)
    clear hb2 HI1 HC d0 d1 d2 d3 d4 d5 d6 d7
    cases hm : mayG r.g with
    | false =>
      have HE := Lib.hid (show R = false by rw [HR.out]; unfold rmayB; rw [hm, Bool.false_and, Bool.and_false])
      rw [if_neg Bool.false_ne_true]
      clear hm
      go_wp2
      go_ret
      exact ⟨by rw [HE.out]; rfl, HI2.out.2.2.1⟩
    | true =>
      rw [if_pos rfl]
      obtain ⟨d0, d1, d2, d3, d4, d5, d6, d7⟩ := HI2.out.2.2.2.cells
      have HG := Lib.hid hm
      have hlq := HI2.out.2.1.l4
      have hl1 := HI2.out.2.1.l1
      have hl3 := HI2.out.2.1.l3
      clear hm
      by_cases h1 : r.s.ns.length = r.qs.length
      · have h1' : ((r.s.ns.length : Int) != (r.qs.length : Int)) = false := by rw [bne_eq_false_iff_eq]; omega
        by_cases h2 : r.g.nd.length = r.qs.length
        · have h2' : ((r.g.nd.length : Int) != (r.qs.length : Int)) = false := by rw [bne_eq_false_iff_eq]; omega
          have HE := Lib.hid (show R = r.qs.all (qOk r.g.done r.g.asked) by rw [HR.out]; unfold rmayB; rw [HM.out, HG.out, decide_eq_true h1, decide_eq_true h2, Bool.true_and, Bool.true_and, Bool.true_and, Bool.true_and])
          obtain ⟨⟨g1, g2⟩, g3, g4⟩ := mayG_range HG.out
          have hwd : IntKind.u64.wrap r.g.done = r.g.done := by simp [IntKind.wrap, IntKind.signed, IntKind.bits]; omega
          have hwa : IntKind.u64.wrap r.g.asked = r.g.asked := by simp [IntKind.wrap, IntKind.signed, IntKind.bits]; omega
          clear h1 h2
          go_upto_region 6 with fail
          go_cut [4, 5] (fun s4 s5 wc => ∃ z4 z5 : Nat, s4 = .pointer (some ⟨z4, 0, none⟩) ∧ s5 = .pointer (some ⟨z5, 0, none⟩) ∧ Hid (Below w2.heap.size w2 wc ∧ Boxed wc z4 35 (.int .u64 r.g.done) ∧ Boxed wc z5 35 (.int .u64 r.g.asked)))
          case first =>
            have hbl := HI2.out.2.2.2.lt
            clear HI2 HM HG HR HE
            go_region
            all_goals
              go_wp2_with fail
              go_meet
            · exact ⟨_, _, rfl, rfl, Lib.hid (two_u64 w2 _ _)⟩
            · exact ⟨_, _, rfl, rfl, Lib.hid ⟨(two_u64 w2 _ _).1, (two_u64 w2 _ _).2.2, (two_u64 w2 _ _).2.1⟩⟩
          case rest =>
            obtain ⟨z4, z5, rfl, rfl, HW⟩ := hcut
            obtain ⟨w3, hw3⟩ : ∃ X : World, X = wc.alloc (.cells #[.func (.func 91) #[] #[.pointer (some ⟨z5, 0, none⟩)]] 138) := ⟨_, rfl⟩
            have hb3 : Below wc.heap.size wc w3 := by rw [hw3]; exact below1 _ _
            have hf3 : Boxed w3 wc.heap.size 138 (.func (.func 91) #[] #[.pointer (some ⟨z5, 0, none⟩)]) := by rw [hw3]; exact Boxed.new _ _ _
            have hb23 := below_then HW.out.1 HW.out.1.size hb3
            have HB3 := Lib.hid (below_then HI2.out.2.2.1 HI2.out.2.2.1.size hb23)
            have HC := Lib.hid (allQ_c (.slice p4 r.qs.length c4) r.qs (qOk r.g.done r.g.asked) 93 #[.pointer (some ⟨z4, 0, none⟩), .pointer (some ⟨wc.heap.size, 0, none⟩)] w3 (HI2.out.1.queues.below hb23) HI2.out.2.1.l4 (fun _ _ => rfl) (fun i h lv W' hb' hcb =>
              qOk_c lv r.qs[i].1 r.qs[i].2 r.g.done r.g.asked z4 z5 wc.heap.size W' hcb (HI2.out.2.1.ov _ (List.getElem_mem h)) (boxed_bw (boxed_bw HW.out.2.1 hb3) hb') (boxed_bw (boxed_bw HW.out.2.2 hb3) hb') (boxed_bw hf3 hb')))
            obtain ⟨d0, d1, d2, d3, d4, d5, d6, d7⟩ := (HI2.out.2.2.2.below hb23).cells
            have HW3 := Lib.hid hw3
            clear hb3 hf3 hb23 hw3 HW
            go_upto_region 8 with fail
            rw [← HW3.out]
            clear HW3
            go_wp2_with fail
            (with_reducible refine HC.out.mono ?_)
            rintro e w4 ⟨rfl, hb4⟩
            have HB4 := Lib.hid (below_then HB3.out HB3.out.size hb4)
            clear hb4 HB3 HC
            go_wp2
            go_ret
            exact ⟨by rw [HE.out]; rfl, HB4.out⟩
        · have h2' : ((r.g.nd.length : Int) != (r.qs.length : Int)) = true := by rw [bne_iff_ne]; omega
          have HE := Lib.hid (show R = false by rw [HR.out]; unfold rmayB; rw [decide_eq_false h2, Bool.false_and, Bool.and_false, Bool.and_false, Bool.and_false])
          clear h1 h2
          go_wp2
          go_ret
          exact ⟨by rw [HE.out]; rfl, HI2.out.2.2.1⟩
      · have h1' : ((r.s.ns.length : Int) != (r.qs.length : Int)) = true := by rw [bne_iff_ne]; omega
        have HE := Lib.hid (show R = false by rw [HR.out]; unfold rmayB; rw [decide_eq_false h1, Bool.false_and, Bool.and_false, Bool.and_false])
        clear h1
        go_wp2
        go_ret
        exact ⟨by rw [HE.out]; rfl, HI2.out.2.2.1⟩

end Go.Proofs.YtdllhiihmpinoaaGreat
