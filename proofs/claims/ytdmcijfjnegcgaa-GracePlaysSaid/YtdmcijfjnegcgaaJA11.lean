/-
  The reference of layer 12: Play.
  Conditions: readers and a grace that may be.
-/
import Derived.Test.YtdmcijfjnegcgaaJA8
import Derived.Test.YtdmcijfjnegcgaaJA6
import Derived.Test.YtdmcijfjnegcgaaJA10
import Derived.Test.YtdmcijfjnegcgaaJA5
/-
  The reference of layer 12: Tick.
  Conditions: readers and a grace that may be.
-/
namespace Go.Proofs.Ytdmcijfjnegcgaa
set_option maxRecDepth 100000
open Go.RowKit Go.Shelf
attribute [local go_sem] Oper.semAt_some

def TBx (W : World) (z : Nat) (x y : Int) : Prop := W.heap[z]? = some (.cells #[.int .i64 x, .int .i64 y] 50 (0, 0))
theorem TBx.cells {W : World} {z : Nat} {x y : Int} (h : TBx W z x y) : W.cell? ⟨z, 0, none⟩ = some (.int .i64 x) ∧ W.cell? ⟨z, 1, none⟩ = some (.int .i64 y) := by
  have h' : W.heap[z]? = _ := h
  simp [World.cell?, h']
theorem TBx.below {W W' : World} {z : Nat} {x y : Int} (h : TBx W z x y) (hb : Below W.heap.size W W') : TBx W' z x y := (hb.block z (Array.getElem?_eq_some_iff.1 h).1).trans h
theorem TBx.lt {W : World} {z : Nat} {x y : Int} (h : TBx W z x y) : z < W.heap.size := (Array.getElem?_eq_some_iff.1 h).1
def tickW (W : World) (now : Int) (u v : Value) (d a : Int) (on : Bool) (nv : Value) (x y : Int) : World := ((((W.alloc (.cells #[.int .i64 now, u, v] 45)).alloc (.cells #[.int .i64 d, .int .i64 a, .bool on, nv] 24)).alloc (.cells #[.int .i64 x, .int .i64 y] 50)).alloc (.cells #[.int .i64 0, .slice none 0 0, .slice none 0 0] 45)).alloc (.cells #[.int .i64 0, .int .i64 0, .bool false, .slice none 0 0] 24)
theorem tickW_facts (W : World) (now : Int) (u v : Value) (d a : Int) (on : Bool) (nv : Value) (x y : Int) : RBox (tickW W now u v d a on nv x y) W.heap.size now u v ∧ GBox (tickW W now u v d a on nv x y) (W.heap.size + 1) d a on nv ∧ TBx (tickW W now u v d a on nv x y) (W.heap.size + 2) x y ∧ RBox (tickW W now u v d a on nv x y) (W.heap.size + 3) 0 (.slice none 0 0) (.slice none 0 0) ∧ GBox (tickW W now u v d a on nv x y) (W.heap.size + 4) 0 0 false (.slice none 0 0) ∧ Below W.heap.size W (tickW W now u v d a on nv x y) ∧ (tickW W now u v d a on nv x y).heap.size = W.heap.size + 5 := by
  unfold tickW
  obtain ⟨w1, h1⟩ : ∃ w1, w1 = W.alloc (.cells #[.int .i64 now, u, v] 45) := ⟨_, rfl⟩
  obtain ⟨w2, h2⟩ : ∃ w2, w2 = w1.alloc (.cells #[.int .i64 d, .int .i64 a, .bool on, nv] 24) := ⟨_, rfl⟩
  obtain ⟨w3, h3⟩ : ∃ w3, w3 = w2.alloc (.cells #[.int .i64 x, .int .i64 y] 50) := ⟨_, rfl⟩
  obtain ⟨w4, h4⟩ : ∃ w4, w4 = w3.alloc (.cells #[.int .i64 0, .slice none 0 0, .slice none 0 0] 45) := ⟨_, rfl⟩
  obtain ⟨w5, h5⟩ : ∃ w5, w5 = w4.alloc (.cells #[.int .i64 0, .int .i64 0, .bool false, .slice none 0 0] 24) := ⟨_, rfl⟩
  rw [← h1, ← h2, ← h3, ← h4, ← h5]
  have s1 : w1.heap.size = W.heap.size + 1 := by rw [h1]; simp
  have s2 : w2.heap.size = W.heap.size + 2 := by rw [h2, World.size_alloc, s1]
  have s3 : w3.heap.size = W.heap.size + 3 := by rw [h3, World.size_alloc, s2]
  have s4 : w4.heap.size = W.heap.size + 4 := by rw [h4, World.size_alloc, s3]
  have s5 : w5.heap.size = W.heap.size + 5 := by rw [h5, World.size_alloc, s4]
  have b1 : Below W.heap.size W w1 := by rw [h1]; exact below1 _ _
  have b2 : Below w1.heap.size w1 w2 := by rw [h2]; exact below1 _ _
  have b3 : Below w2.heap.size w2 w3 := by rw [h3]; exact below1 _ _
  have b4 : Below w3.heap.size w3 w4 := by rw [h4]; exact below1 _ _
  have b5 : Below w4.heap.size w4 w5 := by rw [h5]; exact below1 _ _
  have c1 : RBox w1 W.heap.size now u v := by rw [h1]; exact RBox.new _ _ _ _
  have c2 : GBox w2 w1.heap.size d a on nv := by rw [h2]; exact GBox.new _ _ _ _ _
  have c3 : TBx w3 w2.heap.size x y := by rw [h3]; exact World.alloc_heap_new _ _
  have c4 : RBox w4 w3.heap.size 0 (.slice none 0 0) (.slice none 0 0) := by rw [h4]; exact RBox.new _ _ _ _
  have c5 : GBox w5 w4.heap.size 0 0 false (.slice none 0 0) := by rw [h5]; exact GBox.new _ _ _ _ _
  rw [s1] at c2
  rw [s2] at c3
  rw [s3] at c4
  rw [s4] at c5
  exact ⟨(((c1.below b2).below b3).below b4).below b5, ((c2.below b3).below b4).below b5, ((c3.below b4).below b5), c4.below b5, c5, below_then (below_then (below_then (below_then b1 b1.size b2) (b1.trans (b2.mono b1.size)).size b3) ((b1.trans (b2.mono b1.size)).trans (b3.mono (b1.trans (b2.mono b1.size)).size)).size b4) (by omega) b5, s5⟩

/-- What Tick loads. -/
structure TkT (W : World) (s : RdS) (g : GrS) (pu : Option Addr) (cu : Nat) (pv : Option Addr) (cv : Nat) (pn : Option Addr) (cn n : Nat) (x y : Int) (w : World) : Prop where
  r : RBox w W.heap.size s.now (.slice pu n cu) (.slice pv n cv)
  g : GBox w (W.heap.size + 1) g.done g.asked g.on (.slice pn n cn)
  t : TBx w (W.heap.size + 1 + 1) x y
theorem TkT.keeps6 {W : World} {s : RdS} {g : GrS} {pu : Option Addr} {cu : Nat} {pv : Option Addr} {cv : Nat} {pn : Option Addr} {cn n : Nat} {x y : Int} {w w' : World} (h : TkT W s g pu cu pv cv pn cn n x y w) (hk : Keeps (fun q => q = W.heap.size + 1 + 1 + 1) w w') : TkT W s g pu cu pv cv pn cn n x y w' := ⟨h.r.keeps hk (by omega), h.g.keeps hk (by omega), (hk.block _ h.t.lt (by omega)).trans h.t⟩
theorem TkT.keeps7 {W : World} {s : RdS} {g : GrS} {pu : Option Addr} {cu : Nat} {pv : Option Addr} {cv : Nat} {pn : Option Addr} {cn n : Nat} {x y : Int} {w w' : World} (h : TkT W s g pu cu pv cv pn cn n x y w) (hk : Keeps (fun q => q = W.heap.size + 1 + 1 + 1 + 1) w w') : TkT W s g pu cu pv cv pn cn n x y w' := ⟨h.r.keeps hk (by omega), h.g.keeps hk (by omega), (hk.block _ h.t.lt (by omega)).trans h.t⟩
/-- .. and what it writes over. -/
structure TkC (W : World) (s : RdS) (g : GrS) (pu : Option Addr) (cu : Nat) (pv : Option Addr) (cv : Nat) (pn : Option Addr) (cn n : Nat) (x y : Int) (w : World) : Prop where
  t : TkT W s g pu cu pv cv pn cn n x y w
  z6 : RBox w (W.heap.size + 1 + 1 + 1) 0 (.slice none 0 0) (.slice none 0 0)
  z7 : GBox w (W.heap.size + 1 + 1 + 1 + 1) 0 0 false (.slice none 0 0)
  b : Below W.heap.size W w
theorem TkC.below {W : World} {s : RdS} {g : GrS} {pu : Option Addr} {cu : Nat} {pv : Option Addr} {cv : Nat} {pn : Option Addr} {cn n : Nat} {x y : Int} {w w' : World} (h : TkC W s g pu cu pv cv pn cn n x y w) (hb : Below w.heap.size w w') : TkC W s g pu cu pv cv pn cn n x y w' := ⟨⟨h.t.r.below hb, h.t.g.below hb, (hb.block _ h.t.t.lt).trans h.t.t⟩, h.z6.below hb, h.z7.below hb, below_then h.b h.b.size hb⟩
structure TkR (z : Nat) (nw : Int) (a b : Value) (W : World) (s : RdS) (g : GrS) (pu : Option Addr) (cu : Nat) (pv : Option Addr) (cv : Nat) (pn : Option Addr) (cn n : Nat) (x y : Int) (w : World) : Prop where
  e : RBox w z nw a b
  far : W.heap.size + 5 ≤ z
  t : TkT W s g pu cu pv cv pn cn n x y w
theorem TkR.keeps6 {z : Nat} {nw : Int} {a b : Value} {W : World} {s : RdS} {g : GrS} {pu : Option Addr} {cu : Nat} {pv : Option Addr} {cv : Nat} {pn : Option Addr} {cn n : Nat} {x y : Int} {w w' : World} (h : TkR z nw a b W s g pu cu pv cv pn cn n x y w) (hk : Keeps (fun q => q = W.heap.size + 1 + 1 + 1) w w') : TkR z nw a b W s g pu cu pv cv pn cn n x y w' := ⟨h.e.keeps hk (fun e => by have := h.far; omega), h.far, h.t.keeps6 hk⟩
theorem TkR.keeps7 {z : Nat} {nw : Int} {a b : Value} {W : World} {s : RdS} {g : GrS} {pu : Option Addr} {cu : Nat} {pv : Option Addr} {cv : Nat} {pn : Option Addr} {cn n : Nat} {x y : Int} {w w' : World} (h : TkR z nw a b W s g pu cu pv cv pn cn n x y w) (hk : Keeps (fun q => q = W.heap.size + 1 + 1 + 1 + 1) w w') : TkR z nw a b W s g pu cu pv cv pn cn n x y w' := ⟨h.e.keeps hk (fun e => by have := h.far; omega), h.far, h.t.keeps7 hk⟩
structure TkG (z : Nat) (d a : Int) (on : Bool) (v : Value) (W : World) (s : RdS) (g : GrS) (pu : Option Addr) (cu : Nat) (pv : Option Addr) (cv : Nat) (pn : Option Addr) (cn n : Nat) (x y : Int) (w : World) : Prop where
  e : GBox w z d a on v
  far : W.heap.size + 5 ≤ z
  t : TkT W s g pu cu pv cv pn cn n x y w
theorem TkG.keeps6 {z : Nat} {d a : Int} {on : Bool} {v : Value} {W : World} {s : RdS} {g : GrS} {pu : Option Addr} {cu : Nat} {pv : Option Addr} {cv : Nat} {pn : Option Addr} {cn n : Nat} {x y : Int} {w w' : World} (h : TkG z d a on v W s g pu cu pv cv pn cn n x y w) (hk : Keeps (fun q => q = W.heap.size + 1 + 1 + 1) w w') : TkG z d a on v W s g pu cu pv cv pn cn n x y w' := ⟨h.e.keeps hk (fun e => by have := h.far; omega), h.far, h.t.keeps6 hk⟩
theorem TkG.keeps7 {z : Nat} {d a : Int} {on : Bool} {v : Value} {W : World} {s : RdS} {g : GrS} {pu : Option Addr} {cu : Nat} {pv : Option Addr} {cv : Nat} {pn : Option Addr} {cn n : Nat} {x y : Int} {w w' : World} (h : TkG z d a on v W s g pu cu pv cv pn cn n x y w) (hk : Keeps (fun q => q = W.heap.size + 1 + 1 + 1 + 1) w w') : TkG z d a on v W s g pu cu pv cv pn cn n x y w' := ⟨h.e.keeps hk (fun e => by have := h.far; omega), h.far, h.t.keeps7 hk⟩
/-- p's row, or a new one. -/
def OrNew (B : Nat) (p q : Option Addr) : Prop := q = p ∨ ∀ a : Addr, q = some a → B ≤ a.block
/-- The number that a tick asks for; 0: none. -/
def perT (g : GrS) (x : Int) : Int := if x = 3 then nextG g else 0
def RTickQ (B : Nat) (s : RdS) (g : GrS) (pu pv pn : Option Addr) (n : Nat) (x y : Int) (e : Ending) (w : World) : Prop :=
  (tickE ⟨s, g, []⟩ (x, y) ≠ 0 ∧ ∃ nw p1 n1 c1 p2 n2 c2 d a on p3 n3 c3 k, e = .returned (.tuple #[.agg #[.int .i64 nw, .slice p1 n1 c1, .slice p2 n2 c2], .agg #[.int .i64 d, .int .i64 a, .bool on, .slice p3 n3 c3], .int .i64 k, .int .i64 (tickE ⟨s, g, []⟩ (x, y))])) ∨
  (tickE ⟨s, g, []⟩ (x, y) = 0 ∧ ∃ p1 c1 p2 c2 p3 c3, e = .returned (.tuple #[.agg #[.int .i64 (tickP ⟨s, g, []⟩ (x, y)).s.now, .slice p1 n c1, .slice p2 n c2], .agg #[.int .i64 (tickP ⟨s, g, []⟩ (x, y)).g.done, .int .i64 (tickP ⟨s, g, []⟩ (x, y)).g.asked, .bool (tickP ⟨s, g, []⟩ (x, y)).g.on, .slice p3 n c3], .int .i64 (perT g x), .int .i64 0]) ∧
    NumsAt w .i64 (.slice p1 n c1) (tickP ⟨s, g, []⟩ (x, y)).s.ns ∧ NumsAt w .i64 (.slice p2 n c2) (tickP ⟨s, g, []⟩ (x, y)).s.os ∧ BoolsAt w (.slice p3 n c3) (tickP ⟨s, g, []⟩ (x, y)).g.nd ∧ OrNew B pu p1 ∧ OrNew B pv p2 ∧ OrNew B pn p3)

theorem bools_keepS {S : Nat → Prop} {w w' : World} {p : Option Addr} {n c : Nat} {bs : List Bool} (h : BoolsAt w (.slice p n c) bs) (hz : ∀ a : Addr, p = some a → ¬ S a.block) (hk : Keeps S w w') : BoolsAt w' (.slice p n c) bs := by
  obtain ⟨q, d, e, hc⟩ := h
  refine ⟨q, d, e, fun hne => ?_⟩
  obtain ⟨b, off, rfl, hcs⟩ := hc hne
  injection e with e1 e2 e3
  refine ⟨b, off, rfl, fun i hi => ?_⟩
  have h1 := hcs i hi
  have h2 := hk.block b (World.block_lt_of_cell? w _ h1) (hz _ e1)
  simp only [World.cell?] at h1 ⊢
  rw [h2]; exact h1
structure TkN (b o : Nat) (k : Int) (W : World) (s : RdS) (g : GrS) (pu : Option Addr) (cu : Nat) (pv : Option Addr) (cv : Nat) (pn : Option Addr) (cn n : Nat) (x y : Int) (w : World) : Prop where
  e : w.cell? ⟨b, o, none⟩ = some (.int .i64 k)
  far : b < W.heap.size
  t : TkT W s g pu cu pv cv pn cn n x y w
theorem cell_keep {S : Nat → Prop} {w w' : World} {b o : Nat} {u : Value} (h : w.cell? ⟨b, o, none⟩ = some u) (hk : Keeps S w w') (hS : ¬ S b) : w'.cell? ⟨b, o, none⟩ = some u := by
  have h2 := hk.block b (World.block_lt_of_cell? w _ h) hS
  simp only [World.cell?] at h ⊢
  rw [h2]; exact h
theorem TkN.keeps6 {b o : Nat} {k : Int} {W : World} {s : RdS} {g : GrS} {pu : Option Addr} {cu : Nat} {pv : Option Addr} {cv : Nat} {pn : Option Addr} {cn n : Nat} {x y : Int} {w w' : World} (h : TkN b o k W s g pu cu pv cv pn cn n x y w) (hk : Keeps (fun q => q = W.heap.size + 1 + 1 + 1) w w') : TkN b o k W s g pu cu pv cv pn cn n x y w' := ⟨cell_keep h.e hk (fun e => by have := h.far; omega), h.far, h.t.keeps6 hk⟩
theorem TkN.keeps7 {b o : Nat} {k : Int} {W : World} {s : RdS} {g : GrS} {pu : Option Addr} {cu : Nat} {pv : Option Addr} {cv : Nat} {pn : Option Addr} {cn n : Nat} {x y : Int} {w w' : World} (h : TkN b o k W s g pu cu pv cv pn cn n x y w) (hk : Keeps (fun q => q = W.heap.size + 1 + 1 + 1 + 1) w w') : TkN b o k W s g pu cu pv cv pn cn n x y w' := ⟨cell_keep h.e hk (fun e => by have := h.far; omega), h.far, h.t.keeps7 hk⟩
theorem owns_far2 {B : Nat} {E : TypeId} {W : World} {p : Option Addr} {n m c : Nat} {xs : List Value} (h : W.ownsRow B E 1 (.slice p n c) m xs) : ∀ a : Addr, p = some a → B ≤ a.block := fun a e => by
  rcases h.2 with ⟨e2, _⟩ | ⟨g, cap, cur, e2, hB, _⟩
  · injection e2 with e2 _ _; rw [e] at e2; cases e2
  · injection e2 with e2 _ _; rw [e] at e2; injection e2 with e2; rw [e2]; exact hB
theorem tickE1 {s : RdS} {g : GrS} {x y : Int} (h : x = 1) : tickE ⟨s, g, []⟩ (x, y) = stepE s y true := by subst h; simp [tickE]
theorem tickE2 {s : RdS} {g : GrS} {x y : Int} (h : x = 2) : tickE ⟨s, g, []⟩ (x, y) = stepE s y false := by subst h; simp [tickE]
theorem tickE3 {s : RdS} {g : GrS} {x y : Int} (h : x = 3) : tickE ⟨s, g, []⟩ (x, y) = if hasB g.nd.length y = false then 2 else askE g := by subst h; simp [tickE]
theorem tickE4 {s : RdS} {g : GrS} {x y : Int} (h : x = 4) : tickE ⟨s, g, []⟩ (x, y) = if hasB g.nd.length y = false then 2 else 0 := by subst h; simp [tickE]
theorem tickE5 {s : RdS} {g : GrS} {x y : Int} (h : x ≠ 1 ∧ x ≠ 2 ∧ x ≠ 3 ∧ x ≠ 4) : tickE ⟨s, g, []⟩ (x, y) = 221 := by simp [tickE, h.1, h.2.1, h.2.2.1, h.2.2.2]
theorem tickP1 {s : RdS} {g : GrS} {x y : Int} (h : x = 1) : tickP ⟨s, g, []⟩ (x, y) = ⟨stepS s y true, g, []⟩ := by subst h; simp [tickP]
theorem tickP2 {s : RdS} {g : GrS} {x y : Int} (h : x = 2) : tickP ⟨s, g, []⟩ (x, y) = ⟨stepS s y false, g, []⟩ := by subst h; simp [tickP]
theorem tickP3 {s : RdS} {g : GrS} {x y : Int} (h : x = 3) : tickP ⟨s, g, []⟩ (x, y) = ⟨s, askG g, [nextG g]⟩ := by subst h; simp [tickP]
theorem tickP4 {s : RdS} {g : GrS} {x y : Int} (h : x = 4) : tickP ⟨s, g, []⟩ (x, y) = ⟨s, pickG g y.toNat (quietB s y), []⟩ := by subst h; simp [tickP]
set_option maxHeartbeats 16000000 in
theorem rtick_c (s : RdS) (g : GrS) (pu : Option Addr) (cu : Nat) (pv : Option Addr) (cv : Nat) (pn : Option Addr) (cn n : Nat) (x y : Int) (hs : Good s) (hg : GoodG g) (hns : s.ns.length = n) (hnd : g.nd.length = n) (W : World) (hu : NumsAt W .i64 (.slice pu n cu) s.ns) (hv : NumsAt W .i64 (.slice pv n cv) s.os) (hw : BoolsAt W (.slice pn n cn) g.nd) :
    Calls Try.prog 54 #[.agg #[.int .i64 s.now, .slice pu n cu, .slice pv n cv], .agg #[.int .i64 g.done, .int .i64 g.asked, .bool g.on, .slice pn n cn], .agg #[.int .i64 x, .int .i64 y]] W fun e w' => RTickQ W.heap.size s g pu pv pn n x y e w' ∧ Below W.heap.size W w' := by
  obtain ⟨w0, hw0⟩ : ∃ X, X = tickW W s.now (.slice pu n cu) (.slice pv n cv) g.done g.asked g.on (.slice pn n cn) x y := ⟨_, rfl⟩
  have hf := tickW_facts W s.now (.slice pu n cu) (.slice pv n cv) g.done g.asked g.on (.slice pn n cn) x y
  rw [← hw0] at hf
  have HC0 := Lib.hid (show TkC W s g pu cu pv cv pn cn n x y w0 from ⟨⟨hf.1, hf.2.1, hf.2.2.1⟩, hf.2.2.2.1, hf.2.2.2.2.1, hf.2.2.2.2.2.1⟩)
  unfold tickW at hw0
  have HW0 := Lib.hid hw0
  have HG := Lib.hid (And.intro hs (And.intro hg (And.intro hns hnd)))
  have HR := Lib.hid (And.intro hu (And.intro hv hw))
  have h8 : n ≤ 8 := by rw [← hnd]; exact hg.l8
  have h1 : 1 ≤ n := by rw [← hnd]; exact hg.l1
  obtain ⟨d0, d1, d2⟩ := HC0.out.t.r.cells
  obtain ⟨e0, e1, e2, e3⟩ := HC0.out.t.g.cells
  obtain ⟨t0, t1⟩ := HC0.out.t.t.cells
  clear hs hg hns hnd hu hv hw hf hw0
  go_enter Try.func54, Try.ntmps54
  go_upto_region 1 with fail
  rw [← HW0.out]
  clear HW0
  obtain ⟨B, hB⟩ : ∃ B, B = hasB n y := ⟨_, rfl⟩
  have HBI := Lib.hid hB
  clear hB
  go_cut [10] (fun s10 wc => s10 = .bool B ∧ wc = w0)
  case first => as_aux_lemma =>
    by_cases c1 : 0 ≤ y
    · by_cases c2 : y < (n : Int)
      · have hb : hasB n y = true := by unfold hasB; rw [decide_eq_true c1, decide_eq_true c2]; rfl
        have HBT := Lib.hid (HBI.out.trans hb)
        clear hb
        go_wp2
        go_meet
        exact ⟨by rw [HBT.out], rfl⟩
      · have hb : hasB n y = false := by unfold hasB; rw [decide_eq_true c1, decide_eq_false c2]; rfl
        have HBT := Lib.hid (HBI.out.trans hb)
        clear hb
        go_wp2
        go_meet
        exact ⟨by rw [HBT.out], rfl⟩
    · have hb : hasB n y = false := by unfold hasB; rw [decide_eq_false c1]; rfl
      have HBT := Lib.hid (HBI.out.trans hb)
      clear hb
      go_wp2
      go_meet
      exact ⟨by rw [HBT.out], rfl⟩
  case rest =>
  obtain ⟨rfl, hwc⟩ := hcut
  rw [hwc]
  clear hwc
  by_cases h3 : x = 3
  · have hx1 : (x == 1) = false := by rw [h3]; rfl
    have hx2 : (x == 2) = false := by rw [h3]; rfl
    have hx3 : (x == 3) = true := by rw [h3]; rfl
    have HX := Lib.hid h3
    clear h3
    cases B with
    | false =>
      have HE := Lib.hid (show tickE ⟨s, g, []⟩ (x, y) = 2 by rw [tickE3 HX.out, HG.out.2.2.2, if_pos HBI.out.symm])
      go_upto_region 9 with fail
      refine wpTwo_begin (T := TkT W s g pu cu pv cv pn cn n x y) (S := fun _ => True) (late := fun _ => false) (by kernel_rfl) ?_
      obtain ⟨X, hX⟩ : ∃ Y : World, Y = w0.drew := ⟨_, rfl⟩
      rw [← hX]
      have hbx : Below w0.heap.size w0 X := by rw [hX]; exact (Below.refl _ _).drew
      clear hX
      have HC := Lib.hid (HC0.out.below hbx)
      have hT0 := HC.out.t
      clear hbx
      refine wpTwo_takeT (i := 0) (v := .agg #[.int .i64 s.now, .slice pu n cu, .slice pv n cv]) rfl (by kernel_rfl) (by kernel_rfl) (by kernel_rfl) (fun _ _ _ h => h) ⟨by rfl, ?_⟩ hT0 ?_
      · rintro w hTw
        obtain ⟨t0', t1', t2'⟩ := hTw.r.cells
        go_simp
      (try simp only [Act.put, List.getElem_toArray, List.getElem_cons_zero, List.setIfInBounds_toArray, List.set_cons_succ, List.set_cons_zero])
      refine wpTwo_takeT (i := 1) (v := .agg #[.int .i64 g.done, .int .i64 g.asked, .bool g.on, .slice pn n cn]) rfl (by kernel_rfl) (by kernel_rfl) (by kernel_rfl) (fun _ _ _ h => h) ⟨by rfl, ?_⟩ hT0 ?_
      · rintro w hTw
        obtain ⟨t0', t1', t2', t3'⟩ := hTw.g.cells
        go_simp
      (try simp only [Act.put, List.getElem_toArray, List.getElem_cons_succ, List.getElem_cons_zero, List.setIfInBounds_toArray, List.set_cons_succ, List.set_cons_zero])
      have b6 := HC.out.z6
      obtain ⟨q0, q1, q2⟩ := b6.cells
      have m0 := b6.marks 0
      have m1 := b6.marks 1
      have m2 := b6.marks 2
      obtain ⟨Xa, hXa⟩ : ∃ Y : World, Y = ((X.setCell ⟨W.heap.size + 1 + 1 + 1, 0, none⟩ (.int .i64 s.now)).setCell ⟨W.heap.size + 1 + 1 + 1, 1, none⟩ (.slice pu n cu)).setCell ⟨W.heap.size + 1 + 1 + 1, 2, none⟩ (.slice pv n cv) := ⟨_, rfl⟩
      have hka : Keeps (fun q => q = W.heap.size + 1 + 1 + 1) X Xa := by rw [hXa]; exact RBox.putK X (W.heap.size + 1 + 1 + 1) _ _ _
      have hpa : RBox Xa (W.heap.size + 1 + 1 + 1) s.now (.slice pu n cu) (.slice pv n cv) := by rw [hXa]; exact b6.put _ _ _
      have hTa := hT0.keeps6 hka
      have HXA := Lib.hid hXa
      have HA := Lib.hid (And.intro hpa (And.intro hka (HC.out.z7.keeps hka (by omega))))
      clear hXa hka hpa b6
      refine wpTwo_ready (rs := [2]) (by kernel_rfl) (by simp) ?_
      refine (AllTwo.cons rfl (fun K hK => ?_) AllTwo.nil)
      go_simp
      rw [← HXA.out]
      refine hK.out _ _ ⟨hTa, fun _ _ => trivial⟩ ?_
      clear hK K hT0 q0 q1 q2 m0 m1 m2 HXA
      have hT0 := hTa
      clear hTa
      (try simp only [Act.put, List.getElem_toArray, List.getElem_cons_succ, List.getElem_cons_zero, List.setIfInBounds_toArray, List.set_cons_succ, List.set_cons_zero])
      have b7 := HA.out.2.2
      obtain ⟨q0, q1, q2, q3⟩ := b7.cells
      have m0 := b7.marks 0
      have m1 := b7.marks 1
      have m2 := b7.marks 2
      have m3 := b7.marks 3
      obtain ⟨Xb, hXb⟩ : ∃ Y : World, Y = (((Xa.setCell ⟨W.heap.size + 1 + 1 + 1 + 1, 0, none⟩ (.int .i64 g.done)).setCell ⟨W.heap.size + 1 + 1 + 1 + 1, 1, none⟩ (.int .i64 g.asked)).setCell ⟨W.heap.size + 1 + 1 + 1 + 1, 2, none⟩ (.bool g.on)).setCell ⟨W.heap.size + 1 + 1 + 1 + 1, 3, none⟩ (.slice pn n cn) := ⟨_, rfl⟩
      have hkb : Keeps (fun q => q = W.heap.size + 1 + 1 + 1 + 1) Xa Xb := by rw [hXb]; exact GBox.putK Xa (W.heap.size + 1 + 1 + 1 + 1) _ _ _ _
      have hpb : GBox Xb (W.heap.size + 1 + 1 + 1 + 1) g.done g.asked g.on (.slice pn n cn) := by rw [hXb]; exact b7.put _ _ _ _
      have hTb := hT0.keeps7 hkb
      have HXB := Lib.hid hXb
      have HF := Lib.hid (show RBox Xb (W.heap.size + 1 + 1 + 1) s.now (.slice pu n cu) (.slice pv n cv) ∧ GBox Xb (W.heap.size + 1 + 1 + 1 + 1) g.done g.asked g.on (.slice pn n cn) ∧ Keeps (fun q => q = W.heap.size + 1 + 1 + 1 ∨ q = W.heap.size + 1 + 1 + 1 + 1) X Xb from ⟨HA.out.1.keeps hkb (by omega), hpb, (HA.out.2.1.sub (fun _ _ h => .inl h)).trans (hkb.sub (fun _ _ h => .inr h))⟩)
      clear hXb hkb hpb b7 HA
      refine wpTwo_ready (rs := [3]) (by kernel_rfl) (by simp) ?_
      refine (AllTwo.cons rfl (fun K hK => ?_) AllTwo.nil)
      go_simp
      rw [← HXB.out]
      refine hK.out _ _ ⟨hTb, fun _ _ => trivial⟩ ?_
      clear hK K hT0 q0 q1 q2 q3 m0 m1 m2 m3 HXB
      have hT0 := hTb
      clear hTb
      (try simp only [Act.put, List.getElem_toArray, List.getElem_cons_succ, List.getElem_cons_zero, List.setIfInBounds_toArray, List.set_cons_succ, List.set_cons_zero])
      refine wpTwo_takeT (i := 4) (v := .int .i64 0) rfl (by kernel_rfl) (by kernel_rfl) (by kernel_rfl) (fun _ _ _ h => h) ⟨by rfl, ?_⟩ hT0 ?_
      · rintro w hTw
        go_simp
      (try simp only [Act.put, List.getElem_toArray, List.getElem_cons_succ, List.getElem_cons_zero, List.setIfInBounds_toArray, List.set_cons_succ, List.set_cons_zero])
      refine wpTwo_takeT (i := 5) (v := .int .i64 2) rfl (by kernel_rfl) (by kernel_rfl) (by kernel_rfl) (fun _ _ _ h => h) ⟨by rfl, ?_⟩ hT0 ?_
      · rintro w hTw
        go_simp
      (try simp only [Act.put, List.getElem_toArray, List.getElem_cons_succ, List.getElem_cons_zero, List.setIfInBounds_toArray, List.set_cons_succ, List.set_cons_zero])
      refine wpTwo_end (by kernel_rfl) ?_ _
      clear hT0
      go_wp2
      refine bodyPost_ret (results_cctt rfl _ _ _ rfl rfl rfl rfl (readers_load HF.out.1) (grace_load HF.out.2.1)) rfl ⟨.inl ⟨by rw [HE.out]; decide, s.now, pu, n, cu, pv, n, cv, g.done, g.asked, g.on, pn, n, cn, 0, by rw [HE.out]; rfl⟩, HC.out.b.trans (HF.out.2.2.below HC.out.b.size (fun k e => by omega))⟩
    | true =>
      obtain ⟨i, rfl, hi⟩ := (has_iff _ _).1 HBI.out.symm
      have HRA := Lib.hid (rask_c g pn n cn HG.out.2.1)
      have HE := Lib.hid (show tickE ⟨s, g, []⟩ (x, (i : Int)) = askE g by rw [tickE3 HX.out, HG.out.2.2.2, if_neg (by rw [← HBI.out]; exact Bool.noConfusion)])
      go_upto_region 10 with fail
      go_wp2_with fail
      (with_reducible refine (HRA.out w0).mono ?_)
      rintro e w1 ⟨hA, hb1⟩
      rcases hA with ⟨hA, rfl⟩ | ⟨hA, rfl⟩
      · obtain ⟨w2, hw2⟩ : ∃ X : World, X = w1.alloc (.cells #[.int .i64 0, .int .i64 0, .bool false, .slice none 0 0] 24) := ⟨_, rfl⟩
        have hb2 : Below w1.heap.size w1 w2 := by rw [hw2]; exact below1 _ _
        replace HC0 := Lib.hid ((HC0.out.below hb1).below hb2)
        have HE6 := Lib.hid (show tickE ⟨s, g, []⟩ (x, (i : Int)) = 6 by rw [HE.out]; unfold askE at hA ⊢; split; rfl; rename_i hz; rw [if_neg hz] at hA; exact absurd rfl hA)
        have HW2 := Lib.hid hw2
        clear hb1 hb2 hw2 hA HRA HE d0 d1 d2 e0 e1 e2 e3 t0 t1
        go_upto_region 12 with fail
        rw [← HW2.out]
        clear HW2
        refine wpTwo_begin (T := TkT W s g pu cu pv cv pn cn n x (i : Int)) (S := fun _ => True) (late := fun _ => false) (by kernel_rfl) ?_
        obtain ⟨X, hX⟩ : ∃ Y : World, Y = w2.drew := ⟨_, rfl⟩
        rw [← hX]
        have hbx : Below w2.heap.size w2 X := by rw [hX]; exact (Below.refl _ _).drew
        clear hX
        have HC := Lib.hid (HC0.out.below hbx)
        have hT0 := HC.out.t
        clear hbx
        refine wpTwo_takeT (i := 0) (v := .agg #[.int .i64 s.now, .slice pu n cu, .slice pv n cv]) rfl (by kernel_rfl) (by kernel_rfl) (by kernel_rfl) (fun _ _ _ h => h) ⟨by rfl, ?_⟩ hT0 ?_
        · rintro w hTw
          obtain ⟨t0', t1', t2'⟩ := hTw.r.cells
          go_simp
        (try simp only [Act.put, List.getElem_toArray, List.getElem_cons_zero, List.setIfInBounds_toArray, List.set_cons_succ, List.set_cons_zero])
        refine wpTwo_takeT (i := 1) (v := .agg #[.int .i64 g.done, .int .i64 g.asked, .bool g.on, .slice pn n cn]) rfl (by kernel_rfl) (by kernel_rfl) (by kernel_rfl) (fun _ _ _ h => h) ⟨by rfl, ?_⟩ hT0 ?_
        · rintro w hTw
          obtain ⟨t0', t1', t2', t3'⟩ := hTw.g.cells
          go_simp
        (try simp only [Act.put, List.getElem_toArray, List.getElem_cons_succ, List.getElem_cons_zero, List.setIfInBounds_toArray, List.set_cons_succ, List.set_cons_zero])
        have b6 := HC.out.z6
        obtain ⟨q0, q1, q2⟩ := b6.cells
        have m0 := b6.marks 0
        have m1 := b6.marks 1
        have m2 := b6.marks 2
        obtain ⟨Xa, hXa⟩ : ∃ Y : World, Y = ((X.setCell ⟨W.heap.size + 1 + 1 + 1, 0, none⟩ (.int .i64 s.now)).setCell ⟨W.heap.size + 1 + 1 + 1, 1, none⟩ (.slice pu n cu)).setCell ⟨W.heap.size + 1 + 1 + 1, 2, none⟩ (.slice pv n cv) := ⟨_, rfl⟩
        have hka : Keeps (fun q => q = W.heap.size + 1 + 1 + 1) X Xa := by rw [hXa]; exact RBox.putK X (W.heap.size + 1 + 1 + 1) _ _ _
        have hpa : RBox Xa (W.heap.size + 1 + 1 + 1) s.now (.slice pu n cu) (.slice pv n cv) := by rw [hXa]; exact b6.put _ _ _
        have hTa := hT0.keeps6 hka
        have HXA := Lib.hid hXa
        have HA := Lib.hid (And.intro hpa (And.intro hka (HC.out.z7.keeps hka (by omega))))
        clear hXa hka hpa b6
        refine wpTwo_ready (rs := [2]) (by kernel_rfl) (by simp) ?_
        refine (AllTwo.cons rfl (fun K hK => ?_) AllTwo.nil)
        go_simp
        rw [← HXA.out]
        refine hK.out _ _ ⟨hTa, fun _ _ => trivial⟩ ?_
        clear hK K hT0 q0 q1 q2 m0 m1 m2 HXA
        have hT0 := hTa
        clear hTa
        (try simp only [Act.put, List.getElem_toArray, List.getElem_cons_succ, List.getElem_cons_zero, List.setIfInBounds_toArray, List.set_cons_succ, List.set_cons_zero])
        have b7 := HA.out.2.2
        obtain ⟨q0, q1, q2, q3⟩ := b7.cells
        have m0 := b7.marks 0
        have m1 := b7.marks 1
        have m2 := b7.marks 2
        have m3 := b7.marks 3
        obtain ⟨Xb, hXb⟩ : ∃ Y : World, Y = (((Xa.setCell ⟨W.heap.size + 1 + 1 + 1 + 1, 0, none⟩ (.int .i64 g.done)).setCell ⟨W.heap.size + 1 + 1 + 1 + 1, 1, none⟩ (.int .i64 g.asked)).setCell ⟨W.heap.size + 1 + 1 + 1 + 1, 2, none⟩ (.bool g.on)).setCell ⟨W.heap.size + 1 + 1 + 1 + 1, 3, none⟩ (.slice pn n cn) := ⟨_, rfl⟩
        have hkb : Keeps (fun q => q = W.heap.size + 1 + 1 + 1 + 1) Xa Xb := by rw [hXb]; exact GBox.putK Xa (W.heap.size + 1 + 1 + 1 + 1) _ _ _ _
        have hpb : GBox Xb (W.heap.size + 1 + 1 + 1 + 1) g.done g.asked g.on (.slice pn n cn) := by rw [hXb]; exact b7.put _ _ _ _
        have hTb := hT0.keeps7 hkb
        have HXB := Lib.hid hXb
        have HF := Lib.hid (show RBox Xb (W.heap.size + 1 + 1 + 1) s.now (.slice pu n cu) (.slice pv n cv) ∧ GBox Xb (W.heap.size + 1 + 1 + 1 + 1) g.done g.asked g.on (.slice pn n cn) ∧ Keeps (fun q => q = W.heap.size + 1 + 1 + 1 ∨ q = W.heap.size + 1 + 1 + 1 + 1) X Xb from ⟨HA.out.1.keeps hkb (by omega), hpb, (HA.out.2.1.sub (fun _ _ h => .inl h)).trans (hkb.sub (fun _ _ h => .inr h))⟩)
        clear hXb hkb hpb b7 HA
        refine wpTwo_ready (rs := [3]) (by kernel_rfl) (by simp) ?_
        refine (AllTwo.cons rfl (fun K hK => ?_) AllTwo.nil)
        go_simp
        rw [← HXB.out]
        refine hK.out _ _ ⟨hTb, fun _ _ => trivial⟩ ?_
        clear hK K hT0 q0 q1 q2 q3 m0 m1 m2 m3 HXB
        have hT0 := hTb
        clear hTb
        (try simp only [Act.put, List.getElem_toArray, List.getElem_cons_succ, List.getElem_cons_zero, List.setIfInBounds_toArray, List.set_cons_succ, List.set_cons_zero])
        refine wpTwo_takeT (i := 4) (v := .int .i64 0) rfl (by kernel_rfl) (by kernel_rfl) (by kernel_rfl) (fun _ _ _ h => h) ⟨by rfl, ?_⟩ hT0 ?_
        · rintro w hTw
          go_simp
        (try simp only [Act.put, List.getElem_toArray, List.getElem_cons_succ, List.getElem_cons_zero, List.setIfInBounds_toArray, List.set_cons_succ, List.set_cons_zero])
        refine wpTwo_takeT (i := 5) (v := .int .i64 6) rfl (by kernel_rfl) (by kernel_rfl) (by kernel_rfl) (fun _ _ _ h => h) ⟨by rfl, ?_⟩ hT0 ?_
        · rintro w hTw
          go_simp
        (try simp only [Act.put, List.getElem_toArray, List.getElem_cons_succ, List.getElem_cons_zero, List.setIfInBounds_toArray, List.set_cons_succ, List.set_cons_zero])
        refine wpTwo_end (by kernel_rfl) ?_ _
        clear hT0
        go_wp2
        refine bodyPost_ret (results_cctt rfl _ _ _ rfl rfl rfl rfl (readers_load HF.out.1) (grace_load HF.out.2.1)) rfl ⟨.inl ⟨by rw [HE6.out]; decide, s.now, pu, n, cu, pv, n, cv, g.done, g.asked, g.on, pn, n, cn, 0, by rw [HE6.out]; rfl⟩, HC.out.b.trans (HF.out.2.2.below HC.out.b.size (fun k e => by omega))⟩
      · obtain ⟨w2, hw2⟩ : ∃ X : World, X = w1.alloc (.cells #[.int .i64 (askG g).done, .int .i64 (askG g).asked, .bool (askG g).on, .slice pn n cn] 24) := ⟨_, rfl⟩
        obtain ⟨z13, hz13⟩ : ∃ z, z = w1.heap.size := ⟨_, rfl⟩
        have hb2 : Below w1.heap.size w1 w2 := by rw [hw2]; exact below1 _ _
        have HZ := Lib.hid (show GBox w2 z13 (askG g).done (askG g).asked (askG g).on (.slice pn n cn) ∧ W.heap.size + 5 ≤ z13 from ⟨by rw [hw2, hz13]; exact GBox.new _ _ _ _ _, by have := (HC0.out.below hb1).z7.lt; omega⟩)
        replace HC0 := Lib.hid ((HC0.out.below hb1).below hb2)
        have HE0 := Lib.hid (HE.out.trans hA)
        have HNX := Lib.hid (fun X => rnext_c g (.slice pn n cn) HG.out.2.1 X)
        have HPER := Lib.hid (show perT g x = nextG g by unfold perT; rw [if_pos HX.out])
        have HW2 := Lib.hid (And.intro hw2 hz13)
        clear hb1 hb2 hw2 hz13 hA HRA HE d0 d1 d2 e0 e1 e2 e3 t0 t1
        go_upto_region 12 with fail
        rw [← HW2.out.1, ← HW2.out.2]
        clear HW2
        go_upto_region 13 with fail
        refine wpTwo_begin (T := TkG z13 (askG g).done (askG g).asked (askG g).on (.slice pn n cn) W s g pu cu pv cv pn cn n x (i : Int)) (S := fun _ => True) (late := fun _ => false) (by kernel_rfl) ?_
        obtain ⟨Y, hY⟩ : ∃ Y : World, Y = w2.drew := ⟨_, rfl⟩
        rw [← hY]
        have hbx : Below w2.heap.size w2 Y := by rw [hY]; exact (Below.refl _ _).drew
        clear hY
        have hT0 : TkG z13 (askG g).done (askG g).asked (askG g).on (.slice pn n cn) W s g pu cu pv cv pn cn n x (i : Int) Y := ⟨HZ.out.1.below hbx, HZ.out.2, (HC0.out.below hbx).t⟩
        have HCY := Lib.hid (HC0.out.below hbx)
        clear hbx
        refine wpTwo_takeT (i := 0) (v := .agg #[.int .i64 s.now, .slice pu n cu, .slice pv n cv]) rfl (by kernel_rfl) (by kernel_rfl) (by kernel_rfl) (fun _ _ _ h => h) ⟨by rfl, ?_⟩ hT0 ?_
        · rintro w hTw
          obtain ⟨t0', t1', t2'⟩ := hTw.t.r.cells
          go_simp
        (try simp only [Act.put, List.getElem_toArray, List.getElem_cons_zero, List.setIfInBounds_toArray, List.set_cons_succ, List.set_cons_zero])
        refine wpTwo_takeT (i := 1) (v := .agg #[.int .i64 (askG g).done, .int .i64 (askG g).asked, .bool (askG g).on, .slice pn n cn]) rfl (by kernel_rfl) (by kernel_rfl) (by kernel_rfl) (fun _ _ _ h => h) ⟨by rfl, ?_⟩ hT0 ?_
        · rintro w hTw
          obtain ⟨t0', t1', t2', t3'⟩ := hTw.e.cells
          go_simp
        (try simp only [Act.put, List.getElem_toArray, List.getElem_cons_succ, List.getElem_cons_zero, List.setIfInBounds_toArray, List.set_cons_succ, List.set_cons_zero])
        refine wpTwo_takeT (i := 2) (v := .agg #[.int .i64 g.done, .int .i64 g.asked, .bool g.on, .slice pn n cn]) rfl (by kernel_rfl) (by kernel_rfl) (by kernel_rfl) (fun _ _ _ h => h) ⟨by rfl, ?_⟩ hT0 ?_
        · rintro w hTw
          obtain ⟨t0', t1', t2', t3'⟩ := hTw.t.g.cells
          go_simp
        (try simp only [Act.put, List.getElem_toArray, List.getElem_cons_succ, List.getElem_cons_zero, List.setIfInBounds_toArray, List.set_cons_succ, List.set_cons_zero])
        refine wpTwo_ready (rs := [3]) (by kernel_rfl) (by simp) ?_
        refine (AllTwo.cons rfl (fun K hK => ?_) AllTwo.nil)
        go_simp
        (with_reducible refine (HNX.out Y).mono ?_)
        rintro e X ⟨rfl, hbn⟩
        have HC := Lib.hid (HCY.out.below hbn)
        have hT1 : TkG z13 (askG g).done (askG g).asked (askG g).on (.slice pn n cn) W s g pu cu pv cv pn cn n x (i : Int) X := ⟨hT0.e.below hbn, hT0.far, HC.out.t⟩
        go_wp2_with fail
        refine hK.out _ _ ⟨hT1, fun _ _ => trivial⟩ ?_
        clear hK K hT0 hbn HCY
        have hT0 := hT1
        clear hT1
        (try simp only [Act.put, List.getElem_toArray, List.getElem_cons_succ, List.getElem_cons_zero, List.setIfInBounds_toArray, List.set_cons_succ, List.set_cons_zero])
        have b6 := HC.out.z6
        obtain ⟨q0, q1, q2⟩ := b6.cells
        have m0 := b6.marks 0
        have m1 := b6.marks 1
        have m2 := b6.marks 2
        obtain ⟨Xa, hXa⟩ : ∃ Y : World, Y = ((X.setCell ⟨W.heap.size + 1 + 1 + 1, 0, none⟩ (.int .i64 s.now)).setCell ⟨W.heap.size + 1 + 1 + 1, 1, none⟩ (.slice pu n cu)).setCell ⟨W.heap.size + 1 + 1 + 1, 2, none⟩ (.slice pv n cv) := ⟨_, rfl⟩
        have hka : Keeps (fun q => q = W.heap.size + 1 + 1 + 1) X Xa := by rw [hXa]; exact RBox.putK X (W.heap.size + 1 + 1 + 1) _ _ _
        have hpa : RBox Xa (W.heap.size + 1 + 1 + 1) s.now (.slice pu n cu) (.slice pv n cv) := by rw [hXa]; exact b6.put _ _ _
        have hTa := hT0.keeps6 hka
        have HXA := Lib.hid hXa
        have HA := Lib.hid (And.intro hpa (And.intro hka (HC.out.z7.keeps hka (by omega))))
        clear hXa hka hpa b6
        refine wpTwo_ready (rs := [4]) (by kernel_rfl) (by simp) ?_
        refine (AllTwo.cons rfl (fun K hK => ?_) AllTwo.nil)
        go_simp
        rw [← HXA.out]
        refine hK.out _ _ ⟨hTa, fun _ _ => trivial⟩ ?_
        clear hK K hT0 q0 q1 q2 m0 m1 m2 HXA
        have hT0 := hTa
        clear hTa
        (try simp only [Act.put, List.getElem_toArray, List.getElem_cons_succ, List.getElem_cons_zero, List.setIfInBounds_toArray, List.set_cons_succ, List.set_cons_zero])
        have b7 := HA.out.2.2
        obtain ⟨q0, q1, q2, q3⟩ := b7.cells
        have m0 := b7.marks 0
        have m1 := b7.marks 1
        have m2 := b7.marks 2
        have m3 := b7.marks 3
        obtain ⟨Xb, hXb⟩ : ∃ Y : World, Y = (((Xa.setCell ⟨W.heap.size + 1 + 1 + 1 + 1, 0, none⟩ (.int .i64 (askG g).done)).setCell ⟨W.heap.size + 1 + 1 + 1 + 1, 1, none⟩ (.int .i64 (askG g).asked)).setCell ⟨W.heap.size + 1 + 1 + 1 + 1, 2, none⟩ (.bool (askG g).on)).setCell ⟨W.heap.size + 1 + 1 + 1 + 1, 3, none⟩ (.slice pn n cn) := ⟨_, rfl⟩
        have hkb : Keeps (fun q => q = W.heap.size + 1 + 1 + 1 + 1) Xa Xb := by rw [hXb]; exact GBox.putK Xa (W.heap.size + 1 + 1 + 1 + 1) _ _ _ _
        have hpb : GBox Xb (W.heap.size + 1 + 1 + 1 + 1) (askG g).done (askG g).asked (askG g).on (.slice pn n cn) := by rw [hXb]; exact b7.put _ _ _ _
        have hTb := hT0.keeps7 hkb
        have HXB := Lib.hid hXb
        have HF := Lib.hid (show RBox Xb (W.heap.size + 1 + 1 + 1) s.now (.slice pu n cu) (.slice pv n cv) ∧ GBox Xb (W.heap.size + 1 + 1 + 1 + 1) (askG g).done (askG g).asked (askG g).on (.slice pn n cn) ∧ Keeps (fun q => q = W.heap.size + 1 + 1 + 1 ∨ q = W.heap.size + 1 + 1 + 1 + 1) X Xb from ⟨HA.out.1.keeps hkb (by omega), hpb, (HA.out.2.1.sub (fun _ _ h => .inl h)).trans (hkb.sub (fun _ _ h => .inr h))⟩)
        clear hXb hkb hpb b7 HA
        refine wpTwo_ready (rs := [5]) (by kernel_rfl) (by simp) ?_
        refine (AllTwo.cons rfl (fun K hK => ?_) AllTwo.nil)
        go_simp
        rw [← HXB.out]
        refine hK.out _ _ ⟨hTb, fun _ _ => trivial⟩ ?_
        clear hK K hT0 q0 q1 q2 q3 m0 m1 m2 m3 HXB
        have hT0 := hTb
        clear hTb
        (try simp only [Act.put, List.getElem_toArray, List.getElem_cons_succ, List.getElem_cons_zero, List.setIfInBounds_toArray, List.set_cons_succ, List.set_cons_zero])
        refine wpTwo_takeT (i := 6) (v := .int .i64 (nextG g)) rfl (by kernel_rfl) (by kernel_rfl) (by kernel_rfl) (fun _ _ _ h => h) ⟨by rfl, ?_⟩ hT0 ?_
        · rintro w hTw
          go_simp
        (try simp only [Act.put, List.getElem_toArray, List.getElem_cons_succ, List.getElem_cons_zero, List.setIfInBounds_toArray, List.set_cons_succ, List.set_cons_zero])
        refine wpTwo_takeT (i := 7) (v := .int .i64 0) rfl (by kernel_rfl) (by kernel_rfl) (by kernel_rfl) (fun _ _ _ h => h) ⟨by rfl, ?_⟩ hT0 ?_
        · rintro w hTw
          go_simp
        (try simp only [Act.put, List.getElem_toArray, List.getElem_cons_succ, List.getElem_cons_zero, List.setIfInBounds_toArray, List.set_cons_succ, List.set_cons_zero])
        refine wpTwo_end (by kernel_rfl) ?_ _
        clear hT0
        go_wp2
        have HBF := HC.out.b.trans (HF.out.2.2.below HC.out.b.size (fun k e => by omega))
        refine bodyPost_ret (results_cctt rfl _ _ _ rfl rfl rfl rfl (readers_load HF.out.1) (grace_load HF.out.2.1)) rfl ⟨.inr ⟨HE0.out, pu, cu, pv, cv, pn, cn, ?_, ?_, ?_, ?_, .inl rfl, .inl rfl, .inl rfl⟩, HBF⟩
        · rw [tickP3 HX.out, HPER.out]; rfl
        · rw [tickP3 HX.out]; exact nums_below HR.out.1 HBF
        · rw [tickP3 HX.out]; exact nums_below HR.out.2.1 HBF
        · rw [tickP3 HX.out]; exact bools_below HR.out.2.2 HBF
  · by_cases h4 : x = 4
    · have hx1 : (x == 1) = false := by rw [h4]; rfl
      have hx2 : (x == 2) = false := by rw [h4]; rfl
      have hx3 : (x == 3) = false := by rw [h4]; rfl
      have hx4 : (x == 4) = true := by rw [h4]; rfl
      have HX := Lib.hid h4
      clear h3 h4
      cases B with
      | false =>
        have HE := Lib.hid (show tickE ⟨s, g, []⟩ (x, y) = 2 by rw [tickE4 HX.out, HG.out.2.2.2, if_pos HBI.out.symm])
        go_upto_region 16 with fail
        refine wpTwo_begin (T := TkT W s g pu cu pv cv pn cn n x y) (S := fun _ => True) (late := fun _ => false) (by kernel_rfl) ?_
        obtain ⟨X, hX⟩ : ∃ Y : World, Y = w0.drew := ⟨_, rfl⟩
        rw [← hX]
        have hbx : Below w0.heap.size w0 X := by rw [hX]; exact (Below.refl _ _).drew
        clear hX
        have HC := Lib.hid (HC0.out.below hbx)
        have hT0 := HC.out.t
        clear hbx
        refine wpTwo_takeT (i := 0) (v := .agg #[.int .i64 s.now, .slice pu n cu, .slice pv n cv]) rfl (by kernel_rfl) (by kernel_rfl) (by kernel_rfl) (fun _ _ _ h => h) ⟨by rfl, ?_⟩ hT0 ?_
        · rintro w hTw
          obtain ⟨t0', t1', t2'⟩ := hTw.r.cells
          go_simp
        (try simp only [Act.put, List.getElem_toArray, List.getElem_cons_zero, List.setIfInBounds_toArray, List.set_cons_succ, List.set_cons_zero])
        refine wpTwo_takeT (i := 1) (v := .agg #[.int .i64 g.done, .int .i64 g.asked, .bool g.on, .slice pn n cn]) rfl (by kernel_rfl) (by kernel_rfl) (by kernel_rfl) (fun _ _ _ h => h) ⟨by rfl, ?_⟩ hT0 ?_
        · rintro w hTw
          obtain ⟨t0', t1', t2', t3'⟩ := hTw.g.cells
          go_simp
        (try simp only [Act.put, List.getElem_toArray, List.getElem_cons_succ, List.getElem_cons_zero, List.setIfInBounds_toArray, List.set_cons_succ, List.set_cons_zero])
        have b6 := HC.out.z6
        obtain ⟨q0, q1, q2⟩ := b6.cells
        have m0 := b6.marks 0
        have m1 := b6.marks 1
        have m2 := b6.marks 2
        obtain ⟨Xa, hXa⟩ : ∃ Y : World, Y = ((X.setCell ⟨W.heap.size + 1 + 1 + 1, 0, none⟩ (.int .i64 s.now)).setCell ⟨W.heap.size + 1 + 1 + 1, 1, none⟩ (.slice pu n cu)).setCell ⟨W.heap.size + 1 + 1 + 1, 2, none⟩ (.slice pv n cv) := ⟨_, rfl⟩
        have hka : Keeps (fun q => q = W.heap.size + 1 + 1 + 1) X Xa := by rw [hXa]; exact RBox.putK X (W.heap.size + 1 + 1 + 1) _ _ _
        have hpa : RBox Xa (W.heap.size + 1 + 1 + 1) s.now (.slice pu n cu) (.slice pv n cv) := by rw [hXa]; exact b6.put _ _ _
        have hTa := hT0.keeps6 hka
        have HXA := Lib.hid hXa
        have HA := Lib.hid (And.intro hpa (And.intro hka (HC.out.z7.keeps hka (by omega))))
        clear hXa hka hpa b6
        refine wpTwo_ready (rs := [2]) (by kernel_rfl) (by simp) ?_
        refine (AllTwo.cons rfl (fun K hK => ?_) AllTwo.nil)
        go_simp
        rw [← HXA.out]
        refine hK.out _ _ ⟨hTa, fun _ _ => trivial⟩ ?_
        clear hK K hT0 q0 q1 q2 m0 m1 m2 HXA
        have hT0 := hTa
        clear hTa
        (try simp only [Act.put, List.getElem_toArray, List.getElem_cons_succ, List.getElem_cons_zero, List.setIfInBounds_toArray, List.set_cons_succ, List.set_cons_zero])
        have b7 := HA.out.2.2
        obtain ⟨q0, q1, q2, q3⟩ := b7.cells
        have m0 := b7.marks 0
        have m1 := b7.marks 1
        have m2 := b7.marks 2
        have m3 := b7.marks 3
        obtain ⟨Xb, hXb⟩ : ∃ Y : World, Y = (((Xa.setCell ⟨W.heap.size + 1 + 1 + 1 + 1, 0, none⟩ (.int .i64 g.done)).setCell ⟨W.heap.size + 1 + 1 + 1 + 1, 1, none⟩ (.int .i64 g.asked)).setCell ⟨W.heap.size + 1 + 1 + 1 + 1, 2, none⟩ (.bool g.on)).setCell ⟨W.heap.size + 1 + 1 + 1 + 1, 3, none⟩ (.slice pn n cn) := ⟨_, rfl⟩
        have hkb : Keeps (fun q => q = W.heap.size + 1 + 1 + 1 + 1) Xa Xb := by rw [hXb]; exact GBox.putK Xa (W.heap.size + 1 + 1 + 1 + 1) _ _ _ _
        have hpb : GBox Xb (W.heap.size + 1 + 1 + 1 + 1) g.done g.asked g.on (.slice pn n cn) := by rw [hXb]; exact b7.put _ _ _ _
        have hTb := hT0.keeps7 hkb
        have HXB := Lib.hid hXb
        have HF := Lib.hid (show RBox Xb (W.heap.size + 1 + 1 + 1) s.now (.slice pu n cu) (.slice pv n cv) ∧ GBox Xb (W.heap.size + 1 + 1 + 1 + 1) g.done g.asked g.on (.slice pn n cn) ∧ Keeps (fun q => q = W.heap.size + 1 + 1 + 1 ∨ q = W.heap.size + 1 + 1 + 1 + 1) X Xb from ⟨HA.out.1.keeps hkb (by omega), hpb, (HA.out.2.1.sub (fun _ _ h => .inl h)).trans (hkb.sub (fun _ _ h => .inr h))⟩)
        clear hXb hkb hpb b7 HA
        refine wpTwo_ready (rs := [3]) (by kernel_rfl) (by simp) ?_
        refine (AllTwo.cons rfl (fun K hK => ?_) AllTwo.nil)
        go_simp
        rw [← HXB.out]
        refine hK.out _ _ ⟨hTb, fun _ _ => trivial⟩ ?_
        clear hK K hT0 q0 q1 q2 q3 m0 m1 m2 m3 HXB
        have hT0 := hTb
        clear hTb
        (try simp only [Act.put, List.getElem_toArray, List.getElem_cons_succ, List.getElem_cons_zero, List.setIfInBounds_toArray, List.set_cons_succ, List.set_cons_zero])
        refine wpTwo_takeT (i := 4) (v := .int .i64 0) rfl (by kernel_rfl) (by kernel_rfl) (by kernel_rfl) (fun _ _ _ h => h) ⟨by rfl, ?_⟩ hT0 ?_
        · rintro w hTw
          go_simp
        (try simp only [Act.put, List.getElem_toArray, List.getElem_cons_succ, List.getElem_cons_zero, List.setIfInBounds_toArray, List.set_cons_succ, List.set_cons_zero])
        refine wpTwo_takeT (i := 5) (v := .int .i64 2) rfl (by kernel_rfl) (by kernel_rfl) (by kernel_rfl) (fun _ _ _ h => h) ⟨by rfl, ?_⟩ hT0 ?_
        · rintro w hTw
          go_simp
        (try simp only [Act.put, List.getElem_toArray, List.getElem_cons_succ, List.getElem_cons_zero, List.setIfInBounds_toArray, List.set_cons_succ, List.set_cons_zero])
        refine wpTwo_end (by kernel_rfl) ?_ _
        clear hT0
        go_wp2
        refine bodyPost_ret (results_cctt rfl _ _ _ rfl rfl rfl rfl (readers_load HF.out.1) (grace_load HF.out.2.1)) rfl ⟨.inl ⟨by rw [HE.out]; decide, s.now, pu, n, cu, pv, n, cv, g.done, g.asked, g.on, pn, n, cn, 0, by rw [HE.out]; rfl⟩, HC.out.b.trans (HF.out.2.2.below HC.out.b.size (fun k e => by omega))⟩
      | true =>
        obtain ⟨i, rfl, hi⟩ := (has_iff _ _).1 HBI.out.symm
        have HE0 := Lib.hid (show tickE ⟨s, g, []⟩ (x, (i : Int)) = 0 by rw [tickE4 HX.out, HG.out.2.2.2, if_neg (by rw [← HBI.out]; exact Bool.noConfusion)])
        obtain ⟨bu, ou, hcx⟩ : ∃ bu ou, pu = some ⟨bu, ou, none⟩ ∧ W.cell? ⟨bu, ou + i, none⟩ = some (.int .i64 (nN s i)) := by
          obtain ⟨q, cap, e, hc⟩ := HR.out.1
          injection e with e1 e2 e3
          have hil : i < s.ns.length := by rw [HG.out.2.2.1]; exact hi
          obtain ⟨b, off, e, hcs⟩ := hc (by intro e; rw [e] at hil; cases hil)
          exact ⟨b, off, by rw [e1, e], by unfold nN; rw [getD_lt hil]; exact hcs i hil⟩
        obtain ⟨rfl, hcx⟩ := hcx
        obtain ⟨k, hk⟩ : ∃ k, k = nN s i := ⟨_, rfl⟩
        rw [← hk] at hcx
        obtain ⟨q, hq⟩ : ∃ q, q = (k == 0) := ⟨_, rfl⟩
        obtain ⟨r, hr⟩ : ∃ r, r = pickG g i q := ⟨_, rfl⟩
        have HRR := Lib.hid (show tickP ⟨s, g, []⟩ (x, (i : Int)) = ⟨s, r, []⟩ by
          rw [tickP4 HX.out, Int.toNat_natCast, quiet_iff HG.out.1 i (by rw [HG.out.2.2.1]; exact hi), hr, hq, ← hk]
          congr 2)
        have HPK := Lib.hid (fun (Z : World) (hZ : Below w0.heap.size w0 Z) => show Calls Try.prog 20 #[.agg #[.int .i64 g.done, .int .i64 g.asked, .bool g.on, .slice pn n cn], .int .i64 (i : Int), .bool q] Z fun e w' => RefX Z.heap.size pn r e w' ∧ Below Z.heap.size Z w' by
          have h := rpick_c g pn n cn i q HG.out.2.2.2.symm HG.out.2.1 (by rw [HG.out.2.2.2]; exact hi) Z (bools_below HR.out.2.2 (below_then HC0.out.b HC0.out.b.size hZ))
          rwa [← hr] at h)
        have HRL := Lib.hid (show r.nd.length = n by rw [hr, pickG_len, HG.out.2.2.2])
        have HNB := Lib.hid (World.block_lt_of_cell? W _ hcx)
        have HCX := Lib.hid (below_cell HC0.out.b hcx)
        have HS0 := Lib.hid (show W.heap.size + 5 ≤ w0.heap.size by have := HC0.out.z7.lt; omega)
        have hi0 : (0 : Int) ≤ (i : Int) := by omega
        have hin : (i : Int) < (n : Int) := by omega
        have HQ := Lib.hid hq
        clear hcx hk hr hq
        go_upto_region 17 with fail
        clear d0 d1 d2 e0 e1 e2 e3 t0 t1
        refine wpTwo_begin (T := TkN bu (ou + i) k W s g (some ⟨bu, ou, none⟩) cu pv cv pn cn n x (i : Int)) (S := fun _ => True) (late := fun _ => false) (by kernel_rfl) ?_
        obtain ⟨Y, hY⟩ : ∃ Y : World, Y = w0.drew := ⟨_, rfl⟩
        rw [← hY]
        have hbx : Below w0.heap.size w0 Y := by rw [hY]; exact (Below.refl _ _).drew
        clear hY
        have hT0 : TkN bu (ou + i) k W s g (some ⟨bu, ou, none⟩) cu pv cv pn cn n x (i : Int) Y := ⟨below_cell hbx HCX.out, HNB.out, (HC0.out.below hbx).t⟩
        have HCY := Lib.hid (HC0.out.below hbx)
        have HPY := Lib.hid (HPK.out Y hbx)
        have HSY := Lib.hid (show W.heap.size + 5 ≤ Y.heap.size by have := HS0.out; have := hbx.size; omega)
        clear hbx HPK
        refine wpTwo_takeT (i := 0) (v := .agg #[.int .i64 s.now, .slice (some ⟨bu, ou, none⟩) n cu, .slice pv n cv]) rfl (by kernel_rfl) (by kernel_rfl) (by kernel_rfl) (fun _ _ _ h => h) ⟨by rfl, ?_⟩ hT0 ?_
        · rintro w hTw
          obtain ⟨t0', t1', t2'⟩ := hTw.t.r.cells
          go_simp
        (try simp only [Act.put, List.getElem_toArray, List.getElem_cons_zero, List.setIfInBounds_toArray, List.set_cons_succ, List.set_cons_zero])
        refine wpTwo_takeT (i := 1) (v := .agg #[.int .i64 g.done, .int .i64 g.asked, .bool g.on, .slice pn n cn]) rfl (by kernel_rfl) (by kernel_rfl) (by kernel_rfl) (fun _ _ _ h => h) ⟨by rfl, ?_⟩ hT0 ?_
        · rintro w hTw
          obtain ⟨t0', t1', t2', t3'⟩ := hTw.t.g.cells
          go_simp
        (try simp only [Act.put, List.getElem_toArray, List.getElem_cons_succ, List.getElem_cons_zero, List.setIfInBounds_toArray, List.set_cons_succ, List.set_cons_zero])
        refine wpTwo_takeT (i := 2) (v := .pointer (some ⟨W.heap.size + 1 + 1, 1, none⟩)) rfl (by kernel_rfl) (by kernel_rfl) (by kernel_rfl) (fun _ _ _ h => h) ⟨by rfl, ?_⟩ hT0 ?_
        · rintro w hTw
          go_simp
        (try simp only [Act.put, List.getElem_toArray, List.getElem_cons_succ, List.getElem_cons_zero, List.setIfInBounds_toArray, List.set_cons_succ, List.set_cons_zero])
        refine wpTwo_takeT (i := 3) (v := .int .i64 (i : Int)) rfl (by kernel_rfl) (by kernel_rfl) (by kernel_rfl) (fun _ _ _ h => h) ⟨by rfl, ?_⟩ hT0 ?_
        · rintro w hTw
          obtain ⟨t0', t1'⟩ := hTw.t.t.cells
          go_simp
        (try simp only [Act.put, List.getElem_toArray, List.getElem_cons_succ, List.getElem_cons_zero, List.setIfInBounds_toArray, List.set_cons_succ, List.set_cons_zero])
        refine wpTwo_takeT (i := 4) (v := .pointer (some ⟨W.heap.size, 1, none⟩)) rfl (by kernel_rfl) (by kernel_rfl) (by kernel_rfl) (fun _ _ _ h => h) ⟨by rfl, ?_⟩ hT0 ?_
        · rintro w hTw
          go_simp
        (try simp only [Act.put, List.getElem_toArray, List.getElem_cons_succ, List.getElem_cons_zero, List.setIfInBounds_toArray, List.set_cons_succ, List.set_cons_zero])
        refine wpTwo_takeT (i := 5) (v := .slice (some ⟨bu, ou, none⟩) n cu) rfl (by kernel_rfl) (by kernel_rfl) (by kernel_rfl) (fun _ _ _ h => h) ⟨by rfl, ?_⟩ hT0 ?_
        · rintro w hTw
          obtain ⟨t0', t1', t2'⟩ := hTw.t.r.cells
          go_simp
        (try simp only [Act.put, List.getElem_toArray, List.getElem_cons_succ, List.getElem_cons_zero, List.setIfInBounds_toArray, List.set_cons_succ, List.set_cons_zero])
        refine wpTwo_takeT (i := 6) (v := .pointer (some ⟨W.heap.size + 1 + 1, 1, none⟩)) rfl (by kernel_rfl) (by kernel_rfl) (by kernel_rfl) (fun _ _ _ h => h) ⟨by rfl, ?_⟩ hT0 ?_
        · rintro w hTw
          go_simp
        (try simp only [Act.put, List.getElem_toArray, List.getElem_cons_succ, List.getElem_cons_zero, List.setIfInBounds_toArray, List.set_cons_succ, List.set_cons_zero])
        refine wpTwo_takeT (i := 7) (v := .int .i64 (i : Int)) rfl (by kernel_rfl) (by kernel_rfl) (by kernel_rfl) (fun _ _ _ h => h) ⟨by rfl, ?_⟩ hT0 ?_
        · rintro w hTw
          obtain ⟨t0', t1'⟩ := hTw.t.t.cells
          go_simp
        (try simp only [Act.put, List.getElem_toArray, List.getElem_cons_succ, List.getElem_cons_zero, List.setIfInBounds_toArray, List.set_cons_succ, List.set_cons_zero])
        refine wpTwo_takeT (i := 8) (v := .pointer (some ⟨bu, ou + i, none⟩)) rfl (by kernel_rfl) (by kernel_rfl) (by kernel_rfl) (fun _ _ _ h => h) ⟨by rfl, ?_⟩ hT0 ?_
        · rintro w hTw
          go_simp
        (try simp only [Act.put, List.getElem_toArray, List.getElem_cons_succ, List.getElem_cons_zero, List.setIfInBounds_toArray, List.set_cons_succ, List.set_cons_zero])
        refine wpTwo_takeT (i := 9) (v := .int .i64 k) rfl (by kernel_rfl) (by kernel_rfl) (by kernel_rfl) (fun _ _ _ h => h) ⟨by rfl, ?_⟩ hT0 ?_
        · rintro w hTw
          have t0' := hTw.e
          go_simp
        (try simp only [Act.put, List.getElem_toArray, List.getElem_cons_succ, List.getElem_cons_zero, List.setIfInBounds_toArray, List.set_cons_succ, List.set_cons_zero])
        have hqk := HQ.out
        refine wpTwo_takeT (i := 10) (v := .bool q) rfl (by kernel_rfl) (by kernel_rfl) (by kernel_rfl) (fun _ _ _ h => h) ⟨by rfl, ?_⟩ hT0 ?_
        · rintro w hTw
          rw [HQ.out]
          go_simp
        (try simp only [Act.put, List.getElem_toArray, List.getElem_cons_succ, List.getElem_cons_zero, List.setIfInBounds_toArray, List.set_cons_succ, List.set_cons_zero])
        clear hqk
        refine wpTwo_ready (rs := [11]) (by kernel_rfl) (by simp) ?_
        refine (AllTwo.cons rfl (fun K hK => ?_) AllTwo.nil)
        go_simp
        (with_reducible refine HPY.out.mono ?_)
        rintro e X ⟨⟨pq, cq, rfl, hB, hfar⟩, hbn⟩
        rw [HRL.out] at hB ⊢
        have HC := Lib.hid (HCY.out.below hbn)
        have hT1 : TkN bu (ou + i) k W s g (some ⟨bu, ou, none⟩) cu pv cv pn cn n x (i : Int) X := ⟨below_cell hbn hT0.e, hT0.far, HC.out.t⟩
        have HBQ := Lib.hid (And.intro hB hfar)
        clear hB hfar
        go_wp2_with fail
        refine hK.out _ _ ⟨hT1, fun _ _ => trivial⟩ ?_
        clear hK K hT0 hbn HCY
        have hT0 := hT1
        clear hT1
        (try simp only [Act.put, List.getElem_toArray, List.getElem_cons_succ, List.getElem_cons_zero, List.setIfInBounds_toArray, List.set_cons_succ, List.set_cons_zero])
        have b6 := HC.out.z6
        obtain ⟨q0, q1, q2⟩ := b6.cells
        have m0 := b6.marks 0
        have m1 := b6.marks 1
        have m2 := b6.marks 2
        obtain ⟨Xa, hXa⟩ : ∃ Y : World, Y = ((X.setCell ⟨W.heap.size + 1 + 1 + 1, 0, none⟩ (.int .i64 s.now)).setCell ⟨W.heap.size + 1 + 1 + 1, 1, none⟩ (.slice (some ⟨bu, ou, none⟩) n cu)).setCell ⟨W.heap.size + 1 + 1 + 1, 2, none⟩ (.slice pv n cv) := ⟨_, rfl⟩
        have hka : Keeps (fun q => q = W.heap.size + 1 + 1 + 1) X Xa := by rw [hXa]; exact RBox.putK X (W.heap.size + 1 + 1 + 1) _ _ _
        have hpa : RBox Xa (W.heap.size + 1 + 1 + 1) s.now (.slice (some ⟨bu, ou, none⟩) n cu) (.slice pv n cv) := by rw [hXa]; exact b6.put _ _ _
        have hTa := hT0.keeps6 hka
        have HXA := Lib.hid hXa
        have HA := Lib.hid (And.intro hpa (And.intro hka (HC.out.z7.keeps hka (by omega))))
        clear hXa hka hpa b6
        refine wpTwo_ready (rs := [12]) (by kernel_rfl) (by simp) ?_
        refine (AllTwo.cons rfl (fun K hK => ?_) AllTwo.nil)
        go_simp
        rw [← HXA.out]
        refine hK.out _ _ ⟨hTa, fun _ _ => trivial⟩ ?_
        clear hK K hT0 q0 q1 q2 m0 m1 m2 HXA
        have hT0 := hTa
        clear hTa
        (try simp only [Act.put, List.getElem_toArray, List.getElem_cons_succ, List.getElem_cons_zero, List.setIfInBounds_toArray, List.set_cons_succ, List.set_cons_zero])
        have b7 := HA.out.2.2
        obtain ⟨q0, q1, q2, q3⟩ := b7.cells
        have m0 := b7.marks 0
        have m1 := b7.marks 1
        have m2 := b7.marks 2
        have m3 := b7.marks 3
        obtain ⟨Xb, hXb⟩ : ∃ Y : World, Y = (((Xa.setCell ⟨W.heap.size + 1 + 1 + 1 + 1, 0, none⟩ (.int .i64 r.done)).setCell ⟨W.heap.size + 1 + 1 + 1 + 1, 1, none⟩ (.int .i64 r.asked)).setCell ⟨W.heap.size + 1 + 1 + 1 + 1, 2, none⟩ (.bool r.on)).setCell ⟨W.heap.size + 1 + 1 + 1 + 1, 3, none⟩ (.slice pq n cq) := ⟨_, rfl⟩
        have hkb : Keeps (fun q => q = W.heap.size + 1 + 1 + 1 + 1) Xa Xb := by rw [hXb]; exact GBox.putK Xa (W.heap.size + 1 + 1 + 1 + 1) _ _ _ _
        have hpb : GBox Xb (W.heap.size + 1 + 1 + 1 + 1) r.done r.asked r.on (.slice pq n cq) := by rw [hXb]; exact b7.put _ _ _ _
        have hTb := hT0.keeps7 hkb
        have HXB := Lib.hid hXb
        have HF := Lib.hid (show RBox Xb (W.heap.size + 1 + 1 + 1) s.now (.slice (some ⟨bu, ou, none⟩) n cu) (.slice pv n cv) ∧ GBox Xb (W.heap.size + 1 + 1 + 1 + 1) r.done r.asked r.on (.slice pq n cq) ∧ Keeps (fun q => q = W.heap.size + 1 + 1 + 1 ∨ q = W.heap.size + 1 + 1 + 1 + 1) X Xb from ⟨HA.out.1.keeps hkb (by omega), hpb, (HA.out.2.1.sub (fun _ _ h => .inl h)).trans (hkb.sub (fun _ _ h => .inr h))⟩)
        clear hXb hkb hpb b7 HA
        refine wpTwo_ready (rs := [13]) (by kernel_rfl) (by simp) ?_
        refine (AllTwo.cons rfl (fun K hK => ?_) AllTwo.nil)
        go_simp
        rw [← HXB.out]
        refine hK.out _ _ ⟨hTb, fun _ _ => trivial⟩ ?_
        clear hK K hT0 q0 q1 q2 q3 m0 m1 m2 m3 HXB
        have hT0 := hTb
        clear hTb
        (try simp only [Act.put, List.getElem_toArray, List.getElem_cons_succ, List.getElem_cons_zero, List.setIfInBounds_toArray, List.set_cons_succ, List.set_cons_zero])
        refine wpTwo_takeT (i := 14) (v := .int .i64 0) rfl (by kernel_rfl) (by kernel_rfl) (by kernel_rfl) (fun _ _ _ h => h) ⟨by rfl, ?_⟩ hT0 ?_
        · rintro w hTw
          go_simp
        (try simp only [Act.put, List.getElem_toArray, List.getElem_cons_succ, List.getElem_cons_zero, List.setIfInBounds_toArray, List.set_cons_succ, List.set_cons_zero])
        refine wpTwo_takeT (i := 15) (v := .int .i64 0) rfl (by kernel_rfl) (by kernel_rfl) (by kernel_rfl) (fun _ _ _ h => h) ⟨by rfl, ?_⟩ hT0 ?_
        · rintro w hTw
          go_simp
        (try simp only [Act.put, List.getElem_toArray, List.getElem_cons_succ, List.getElem_cons_zero, List.setIfInBounds_toArray, List.set_cons_succ, List.set_cons_zero])
        refine wpTwo_end (by kernel_rfl) ?_ _
        clear hT0
        go_wp2
        have HBF := HC.out.b.trans (HF.out.2.2.below HC.out.b.size (fun k e => by omega))
        have hne : g.nd ≠ [] := fun e => by have := HG.out.2.2.2; rw [e] at this; simp at this; omega
        have hf : ∀ a : Addr, pq = some a → ¬ (a.block = W.heap.size + 1 + 1 + 1 ∨ a.block = W.heap.size + 1 + 1 + 1 + 1) := fun a e => by
          rcases HBQ.out.2 with h | h
          · rw [h] at e; have := bools_lt HR.out.2.2 hne a e; omega
          · have := h a e; have := HSY.out; omega
        refine bodyPost_ret (results_cctt rfl _ _ _ rfl rfl rfl rfl (readers_load HF.out.1) (grace_load HF.out.2.1)) rfl ⟨.inr ⟨HE0.out, some ⟨bu, ou, none⟩, cu, pv, cv, pq, cq, ?_, ?_, ?_, ?_, .inl rfl, .inl rfl, ?_⟩, HBF⟩
        · rw [HRR.out]; simp only [perT]; rw [if_neg (by have := HX.out; omega)]; rfl
        · rw [HRR.out]; exact nums_below HR.out.1 HBF
        · rw [HRR.out]; exact nums_below HR.out.2.1 HBF
        · rw [HRR.out]; exact bools_keepS HBQ.out.1 hf HF.out.2.2
        · rcases HBQ.out.2 with h | h
          · exact .inl h
          · exact .inr (fun a e => by have := h a e; have := HSY.out; omega)
    · by_cases h1 : x = 1
      · have hx1 : (x == 1) = true := by rw [h1]; rfl
        clear h3 h4
        have HE := Lib.hid (tickE1 (s := s) (g := g) (y := y) h1)
        have HX := Lib.hid h1
        have HST := Lib.hid (rstep_c s (.slice pu n cu) (.slice pv n cv) y true w0 HG.out.1 (nums_below HR.out.1 HC0.out.b) (nums_below HR.out.2.1 HC0.out.b))
        clear h1
        go_upto_region 5 with fail
        go_wp2_with fail
        (with_reducible refine HST.out.mono ?_)
        rintro e w1 ⟨⟨nw, p1, n1, c1, p2, n2, c2, rfl, hq⟩, hb1⟩
        obtain ⟨E, hE⟩ : ∃ E, E = stepE s y true := ⟨_, rfl⟩
        rw [← hE] at hq HE ⊢
        obtain ⟨z11, hz11⟩ : ∃ z, z = w1.heap.size := ⟨_, rfl⟩
        obtain ⟨w2, hw2⟩ : ∃ X : World, X = w1.alloc (.cells #[.int .i64 nw, .slice p1 n1 c1, .slice p2 n2 c2] 45) := ⟨_, rfl⟩
        have hb2 : Below w1.heap.size w1 w2 := by rw [hw2]; exact below1 _ _
        have HZ := Lib.hid (show RBox w2 z11 nw (.slice p1 n1 c1) (.slice p2 n2 c2) ∧ W.heap.size + 5 ≤ z11 from ⟨by rw [hw2, hz11]; exact RBox.new _ _ _ _, by have := (HC0.out.below hb1).z7.lt; omega⟩)
        have HS0 := Lib.hid (show W.heap.size + 5 ≤ w0.heap.size by have := HC0.out.z7.lt; omega)
        have HQ := Lib.hid (show (E ≠ 0) ∨ (E = 0 ∧ nw = (stepS s y true).now ∧ n1 = n ∧ n2 = n ∧ OwnR w0.heap.size (stepS s y true) (.slice p1 n1 c1) (.slice p2 n2 c2) w2) by
          rcases hq with h | ⟨h1, h2, h3, h4, h5⟩
          · exact .inl h.1
          · have hl := stepS_len s y true
            exact .inr ⟨h1, h2, by rw [h3, hl.1, HG.out.2.2.1], by rw [h4, hl.2, HG.out.1.lo, HG.out.2.2.1], h5.below hb2⟩)
        have HC1 := Lib.hid ((HC0.out.below hb1).below hb2)
        have HW2 := Lib.hid (And.intro hw2 hz11)
        clear hb1 hb2 hw2 hz11 hq hE HST d0 d1 d2 e0 e1 e2 e3 t0 t1
        go_upto_region 6 with fail
        rw [← HW2.out.1, ← HW2.out.2]
        clear HW2
        refine wpTwo_begin (T := TkR z11 nw (.slice p1 n1 c1) (.slice p2 n2 c2) W s g pu cu pv cv pn cn n x y) (S := fun _ => True) (late := fun _ => false) (by kernel_rfl) ?_
        obtain ⟨Y, hY⟩ : ∃ Y : World, Y = w2.drew := ⟨_, rfl⟩
        rw [← hY]
        have hbx : Below w2.heap.size w2 Y := by rw [hY]; exact (Below.refl _ _).drew
        clear hY
        obtain ⟨X, hXY⟩ : ∃ X, X = Y := ⟨_, rfl⟩
        rw [← hXY] at hbx ⊢
        clear hXY
        have hT0 : TkR z11 nw (.slice p1 n1 c1) (.slice p2 n2 c2) W s g pu cu pv cv pn cn n x y X := ⟨HZ.out.1.below hbx, HZ.out.2, (HC1.out.below hbx).t⟩
        have HC := Lib.hid (HC1.out.below hbx)
        have HBX := Lib.hid hbx
        clear hbx
        refine wpTwo_takeT (i := 0) (v := .agg #[.int .i64 nw, .slice p1 n1 c1, .slice p2 n2 c2]) rfl (by kernel_rfl) (by kernel_rfl) (by kernel_rfl) (fun _ _ _ h => h) ⟨by rfl, ?_⟩ hT0 ?_
        · rintro w hTw
          obtain ⟨t0', t1', t2'⟩ := hTw.e.cells
          go_simp
        (try simp only [Act.put, List.getElem_toArray, List.getElem_cons_zero, List.setIfInBounds_toArray, List.set_cons_succ, List.set_cons_zero])
        refine wpTwo_takeT (i := 1) (v := .agg #[.int .i64 g.done, .int .i64 g.asked, .bool g.on, .slice pn n cn]) rfl (by kernel_rfl) (by kernel_rfl) (by kernel_rfl) (fun _ _ _ h => h) ⟨by rfl, ?_⟩ hT0 ?_
        · rintro w hTw
          obtain ⟨t0', t1', t2', t3'⟩ := hTw.t.g.cells
          go_simp
        (try simp only [Act.put, List.getElem_toArray, List.getElem_cons_succ, List.getElem_cons_zero, List.setIfInBounds_toArray, List.set_cons_succ, List.set_cons_zero])
        refine wpTwo_takeT (i := 2) (v := .int .i64 E) rfl (by kernel_rfl) (by kernel_rfl) (by kernel_rfl) (fun _ _ _ h => h) ⟨by rfl, ?_⟩ hT0 ?_
        · rintro w hTw
          go_simp
        (try simp only [Act.put, List.getElem_toArray, List.getElem_cons_succ, List.getElem_cons_zero, List.setIfInBounds_toArray, List.set_cons_succ, List.set_cons_zero])
        have b6 := HC.out.z6
        obtain ⟨q0, q1, q2⟩ := b6.cells
        have m0 := b6.marks 0
        have m1 := b6.marks 1
        have m2 := b6.marks 2
        obtain ⟨Xa, hXa⟩ : ∃ Y : World, Y = ((X.setCell ⟨W.heap.size + 1 + 1 + 1, 0, none⟩ (.int .i64 nw)).setCell ⟨W.heap.size + 1 + 1 + 1, 1, none⟩ (.slice p1 n1 c1)).setCell ⟨W.heap.size + 1 + 1 + 1, 2, none⟩ (.slice p2 n2 c2) := ⟨_, rfl⟩
        have hka : Keeps (fun q => q = W.heap.size + 1 + 1 + 1) X Xa := by rw [hXa]; exact RBox.putK X (W.heap.size + 1 + 1 + 1) _ _ _
        have hpa : RBox Xa (W.heap.size + 1 + 1 + 1) nw (.slice p1 n1 c1) (.slice p2 n2 c2) := by rw [hXa]; exact b6.put _ _ _
        have hTa := hT0.keeps6 hka
        have HXA := Lib.hid hXa
        have HA := Lib.hid (And.intro hpa (And.intro hka (HC.out.z7.keeps hka (by omega))))
        clear hXa hka hpa b6
        refine wpTwo_ready (rs := [3]) (by kernel_rfl) (by simp) ?_
        refine (AllTwo.cons rfl (fun K hK => ?_) AllTwo.nil)
        go_simp
        rw [← HXA.out]
        refine hK.out _ _ ⟨hTa, fun _ _ => trivial⟩ ?_
        clear hK K hT0 q0 q1 q2 m0 m1 m2 HXA
        have hT0 := hTa
        clear hTa
        (try simp only [Act.put, List.getElem_toArray, List.getElem_cons_succ, List.getElem_cons_zero, List.setIfInBounds_toArray, List.set_cons_succ, List.set_cons_zero])
        have b7 := HA.out.2.2
        obtain ⟨q0, q1, q2, q3⟩ := b7.cells
        have m0 := b7.marks 0
        have m1 := b7.marks 1
        have m2 := b7.marks 2
        have m3 := b7.marks 3
        obtain ⟨Xb, hXb⟩ : ∃ Y : World, Y = (((Xa.setCell ⟨W.heap.size + 1 + 1 + 1 + 1, 0, none⟩ (.int .i64 g.done)).setCell ⟨W.heap.size + 1 + 1 + 1 + 1, 1, none⟩ (.int .i64 g.asked)).setCell ⟨W.heap.size + 1 + 1 + 1 + 1, 2, none⟩ (.bool g.on)).setCell ⟨W.heap.size + 1 + 1 + 1 + 1, 3, none⟩ (.slice pn n cn) := ⟨_, rfl⟩
        have hkb : Keeps (fun q => q = W.heap.size + 1 + 1 + 1 + 1) Xa Xb := by rw [hXb]; exact GBox.putK Xa (W.heap.size + 1 + 1 + 1 + 1) _ _ _ _
        have hpb : GBox Xb (W.heap.size + 1 + 1 + 1 + 1) g.done g.asked g.on (.slice pn n cn) := by rw [hXb]; exact b7.put _ _ _ _
        have hTb := hT0.keeps7 hkb
        have HXB := Lib.hid hXb
        have HF := Lib.hid (show RBox Xb (W.heap.size + 1 + 1 + 1) nw (.slice p1 n1 c1) (.slice p2 n2 c2) ∧ GBox Xb (W.heap.size + 1 + 1 + 1 + 1) g.done g.asked g.on (.slice pn n cn) ∧ Keeps (fun q => q = W.heap.size + 1 + 1 + 1 ∨ q = W.heap.size + 1 + 1 + 1 + 1) X Xb from ⟨HA.out.1.keeps hkb (by omega), hpb, (HA.out.2.1.sub (fun _ _ h => .inl h)).trans (hkb.sub (fun _ _ h => .inr h))⟩)
        clear hXb hkb hpb b7 HA
        refine wpTwo_ready (rs := [4]) (by kernel_rfl) (by simp) ?_
        refine (AllTwo.cons rfl (fun K hK => ?_) AllTwo.nil)
        go_simp
        rw [← HXB.out]
        refine hK.out _ _ ⟨hTb, fun _ _ => trivial⟩ ?_
        clear hK K hT0 q0 q1 q2 q3 m0 m1 m2 m3 HXB
        have hT0 := hTb
        clear hTb
        (try simp only [Act.put, List.getElem_toArray, List.getElem_cons_succ, List.getElem_cons_zero, List.setIfInBounds_toArray, List.set_cons_succ, List.set_cons_zero])
        refine wpTwo_takeT (i := 5) (v := .int .i64 0) rfl (by kernel_rfl) (by kernel_rfl) (by kernel_rfl) (fun _ _ _ h => h) ⟨by rfl, ?_⟩ hT0 ?_
        · rintro w hTw
          go_simp
        (try simp only [Act.put, List.getElem_toArray, List.getElem_cons_succ, List.getElem_cons_zero, List.setIfInBounds_toArray, List.set_cons_succ, List.set_cons_zero])
        refine wpTwo_takeT (i := 6) (v := .int .i64 E) rfl (by kernel_rfl) (by kernel_rfl) (by kernel_rfl) (fun _ _ _ h => h) ⟨by rfl, ?_⟩ hT0 ?_
        · rintro w hTw
          go_simp
        (try simp only [Act.put, List.getElem_toArray, List.getElem_cons_succ, List.getElem_cons_zero, List.setIfInBounds_toArray, List.set_cons_succ, List.set_cons_zero])
        refine wpTwo_end (by kernel_rfl) ?_ _
        clear hT0
        go_wp2
        have HBF := HC.out.b.trans (HF.out.2.2.below HC.out.b.size (fun k e => by omega))
        rcases HQ.out with h | ⟨a1, a2, a3, a4, a5⟩
        · exact bodyPost_ret (results_cctt rfl _ _ _ rfl rfl rfl rfl (readers_load HF.out.1) (grace_load HF.out.2.1)) rfl ⟨.inl ⟨by rw [HE.out]; exact h, nw, p1, n1, c1, p2, n2, c2, g.done, g.asked, g.on, pn, n, cn, 0, by rw [HE.out]; rfl⟩, HBF⟩
        · subst a3 a4
          have hx := a5.below HBX.out
          have hf : ∀ (q : Option Addr), (∀ a : Addr, q = some a → w0.heap.size ≤ a.block) → ∀ a : Addr, q = some a → ¬ (a.block = W.heap.size + 1 + 1 + 1 ∨ a.block = W.heap.size + 1 + 1 + 1 + 1) := fun q h a e => by have := h a e; have := HS0.out; omega
          refine bodyPost_ret (results_cctt rfl _ _ _ rfl rfl rfl rfl (readers_load HF.out.1) (grace_load HF.out.2.1)) rfl ⟨.inr ⟨by rw [HE.out]; exact a1, p1, c1, p2, c2, pn, cn, ?_, ?_, ?_, ?_, .inr (fun a e => by have := owns_far2 hx.1 a e; have := HS0.out; omega), .inr (fun a e => by have := owns_far2 hx.2 a e; have := HS0.out; omega), .inl rfl⟩, HBF⟩
          · rw [tickP1 HX.out, a2, a1]; simp only [perT]; rw [if_neg (by have := HX.out; omega)]; rfl
          · rw [tickP1 HX.out]; exact nums_keeps hx.nums.1 HF.out.2.2 (hf p1 (owns_far2 hx.1))
          · rw [tickP1 HX.out]; exact nums_keeps hx.nums.2 HF.out.2.2 (hf p2 (owns_far2 hx.2))
          · rw [tickP1 HX.out]; exact bools_below HR.out.2.2 HBF
      · by_cases h2 : x = 2
        · have hx1 : (x == 1) = false := by rw [h2]; rfl
          have hx2 : (x == 2) = true := by rw [h2]; rfl
          clear h1 h3 h4
          have HE := Lib.hid (tickE2 (s := s) (g := g) (y := y) h2)
          have HX := Lib.hid h2
          have HST := Lib.hid (rstep_c s (.slice pu n cu) (.slice pv n cv) y false w0 HG.out.1 (nums_below HR.out.1 HC0.out.b) (nums_below HR.out.2.1 HC0.out.b))
          clear h2
          go_upto_region 5 with fail
          go_wp2_with fail
          (with_reducible refine HST.out.mono ?_)
          rintro e w1 ⟨⟨nw, p1, n1, c1, p2, n2, c2, rfl, hq⟩, hb1⟩
          obtain ⟨E, hE⟩ : ∃ E, E = stepE s y false := ⟨_, rfl⟩
          rw [← hE] at hq HE ⊢
          obtain ⟨z11, hz11⟩ : ∃ z, z = w1.heap.size := ⟨_, rfl⟩
          obtain ⟨w2, hw2⟩ : ∃ X : World, X = w1.alloc (.cells #[.int .i64 nw, .slice p1 n1 c1, .slice p2 n2 c2] 45) := ⟨_, rfl⟩
          have hb2 : Below w1.heap.size w1 w2 := by rw [hw2]; exact below1 _ _
          have HZ := Lib.hid (show RBox w2 z11 nw (.slice p1 n1 c1) (.slice p2 n2 c2) ∧ W.heap.size + 5 ≤ z11 from ⟨by rw [hw2, hz11]; exact RBox.new _ _ _ _, by have := (HC0.out.below hb1).z7.lt; omega⟩)
          have HS0 := Lib.hid (show W.heap.size + 5 ≤ w0.heap.size by have := HC0.out.z7.lt; omega)
          have HQ := Lib.hid (show (E ≠ 0) ∨ (E = 0 ∧ nw = (stepS s y false).now ∧ n1 = n ∧ n2 = n ∧ OwnR w0.heap.size (stepS s y false) (.slice p1 n1 c1) (.slice p2 n2 c2) w2) by
            rcases hq with h | ⟨h1, h2, h3, h4, h5⟩
            · exact .inl h.1
            · have hl := stepS_len s y false
              exact .inr ⟨h1, h2, by rw [h3, hl.1, HG.out.2.2.1], by rw [h4, hl.2, HG.out.1.lo, HG.out.2.2.1], h5.below hb2⟩)
          have HC1 := Lib.hid ((HC0.out.below hb1).below hb2)
          have HW2 := Lib.hid (And.intro hw2 hz11)
          clear hb1 hb2 hw2 hz11 hq hE HST d0 d1 d2 e0 e1 e2 e3 t0 t1
          go_upto_region 6 with fail
          rw [← HW2.out.1, ← HW2.out.2]
          clear HW2
          refine wpTwo_begin (T := TkR z11 nw (.slice p1 n1 c1) (.slice p2 n2 c2) W s g pu cu pv cv pn cn n x y) (S := fun _ => True) (late := fun _ => false) (by kernel_rfl) ?_
          obtain ⟨Y, hY⟩ : ∃ Y : World, Y = w2.drew := ⟨_, rfl⟩
          rw [← hY]
          have hbx : Below w2.heap.size w2 Y := by rw [hY]; exact (Below.refl _ _).drew
          clear hY
          obtain ⟨X, hXY⟩ : ∃ X, X = Y := ⟨_, rfl⟩
          rw [← hXY] at hbx ⊢
          clear hXY
          have hT0 : TkR z11 nw (.slice p1 n1 c1) (.slice p2 n2 c2) W s g pu cu pv cv pn cn n x y X := ⟨HZ.out.1.below hbx, HZ.out.2, (HC1.out.below hbx).t⟩
          have HC := Lib.hid (HC1.out.below hbx)
          have HBX := Lib.hid hbx
          clear hbx
          refine wpTwo_takeT (i := 0) (v := .agg #[.int .i64 nw, .slice p1 n1 c1, .slice p2 n2 c2]) rfl (by kernel_rfl) (by kernel_rfl) (by kernel_rfl) (fun _ _ _ h => h) ⟨by rfl, ?_⟩ hT0 ?_
          · rintro w hTw
            obtain ⟨t0', t1', t2'⟩ := hTw.e.cells
            go_simp
          (try simp only [Act.put, List.getElem_toArray, List.getElem_cons_zero, List.setIfInBounds_toArray, List.set_cons_succ, List.set_cons_zero])
          refine wpTwo_takeT (i := 1) (v := .agg #[.int .i64 g.done, .int .i64 g.asked, .bool g.on, .slice pn n cn]) rfl (by kernel_rfl) (by kernel_rfl) (by kernel_rfl) (fun _ _ _ h => h) ⟨by rfl, ?_⟩ hT0 ?_
          · rintro w hTw
            obtain ⟨t0', t1', t2', t3'⟩ := hTw.t.g.cells
            go_simp
          (try simp only [Act.put, List.getElem_toArray, List.getElem_cons_succ, List.getElem_cons_zero, List.setIfInBounds_toArray, List.set_cons_succ, List.set_cons_zero])
          refine wpTwo_takeT (i := 2) (v := .int .i64 E) rfl (by kernel_rfl) (by kernel_rfl) (by kernel_rfl) (fun _ _ _ h => h) ⟨by rfl, ?_⟩ hT0 ?_
          · rintro w hTw
            go_simp
          (try simp only [Act.put, List.getElem_toArray, List.getElem_cons_succ, List.getElem_cons_zero, List.setIfInBounds_toArray, List.set_cons_succ, List.set_cons_zero])
          have b6 := HC.out.z6
          obtain ⟨q0, q1, q2⟩ := b6.cells
          have m0 := b6.marks 0
          have m1 := b6.marks 1
          have m2 := b6.marks 2
          obtain ⟨Xa, hXa⟩ : ∃ Y : World, Y = ((X.setCell ⟨W.heap.size + 1 + 1 + 1, 0, none⟩ (.int .i64 nw)).setCell ⟨W.heap.size + 1 + 1 + 1, 1, none⟩ (.slice p1 n1 c1)).setCell ⟨W.heap.size + 1 + 1 + 1, 2, none⟩ (.slice p2 n2 c2) := ⟨_, rfl⟩
          have hka : Keeps (fun q => q = W.heap.size + 1 + 1 + 1) X Xa := by rw [hXa]; exact RBox.putK X (W.heap.size + 1 + 1 + 1) _ _ _
          have hpa : RBox Xa (W.heap.size + 1 + 1 + 1) nw (.slice p1 n1 c1) (.slice p2 n2 c2) := by rw [hXa]; exact b6.put _ _ _
          have hTa := hT0.keeps6 hka
          have HXA := Lib.hid hXa
          have HA := Lib.hid (And.intro hpa (And.intro hka (HC.out.z7.keeps hka (by omega))))
          clear hXa hka hpa b6
          refine wpTwo_ready (rs := [3]) (by kernel_rfl) (by simp) ?_
          refine (AllTwo.cons rfl (fun K hK => ?_) AllTwo.nil)
          go_simp
          rw [← HXA.out]
          refine hK.out _ _ ⟨hTa, fun _ _ => trivial⟩ ?_
          clear hK K hT0 q0 q1 q2 m0 m1 m2 HXA
          have hT0 := hTa
          clear hTa
          (try simp only [Act.put, List.getElem_toArray, List.getElem_cons_succ, List.getElem_cons_zero, List.setIfInBounds_toArray, List.set_cons_succ, List.set_cons_zero])
          have b7 := HA.out.2.2
          obtain ⟨q0, q1, q2, q3⟩ := b7.cells
          have m0 := b7.marks 0
          have m1 := b7.marks 1
          have m2 := b7.marks 2
          have m3 := b7.marks 3
          obtain ⟨Xb, hXb⟩ : ∃ Y : World, Y = (((Xa.setCell ⟨W.heap.size + 1 + 1 + 1 + 1, 0, none⟩ (.int .i64 g.done)).setCell ⟨W.heap.size + 1 + 1 + 1 + 1, 1, none⟩ (.int .i64 g.asked)).setCell ⟨W.heap.size + 1 + 1 + 1 + 1, 2, none⟩ (.bool g.on)).setCell ⟨W.heap.size + 1 + 1 + 1 + 1, 3, none⟩ (.slice pn n cn) := ⟨_, rfl⟩
          have hkb : Keeps (fun q => q = W.heap.size + 1 + 1 + 1 + 1) Xa Xb := by rw [hXb]; exact GBox.putK Xa (W.heap.size + 1 + 1 + 1 + 1) _ _ _ _
          have hpb : GBox Xb (W.heap.size + 1 + 1 + 1 + 1) g.done g.asked g.on (.slice pn n cn) := by rw [hXb]; exact b7.put _ _ _ _
          have hTb := hT0.keeps7 hkb
          have HXB := Lib.hid hXb
          have HF := Lib.hid (show RBox Xb (W.heap.size + 1 + 1 + 1) nw (.slice p1 n1 c1) (.slice p2 n2 c2) ∧ GBox Xb (W.heap.size + 1 + 1 + 1 + 1) g.done g.asked g.on (.slice pn n cn) ∧ Keeps (fun q => q = W.heap.size + 1 + 1 + 1 ∨ q = W.heap.size + 1 + 1 + 1 + 1) X Xb from ⟨HA.out.1.keeps hkb (by omega), hpb, (HA.out.2.1.sub (fun _ _ h => .inl h)).trans (hkb.sub (fun _ _ h => .inr h))⟩)
          clear hXb hkb hpb b7 HA
          refine wpTwo_ready (rs := [4]) (by kernel_rfl) (by simp) ?_
          refine (AllTwo.cons rfl (fun K hK => ?_) AllTwo.nil)
          go_simp
          rw [← HXB.out]
          refine hK.out _ _ ⟨hTb, fun _ _ => trivial⟩ ?_
          clear hK K hT0 q0 q1 q2 q3 m0 m1 m2 m3 HXB
          have hT0 := hTb
          clear hTb
          (try simp only [Act.put, List.getElem_toArray, List.getElem_cons_succ, List.getElem_cons_zero, List.setIfInBounds_toArray, List.set_cons_succ, List.set_cons_zero])
          refine wpTwo_takeT (i := 5) (v := .int .i64 0) rfl (by kernel_rfl) (by kernel_rfl) (by kernel_rfl) (fun _ _ _ h => h) ⟨by rfl, ?_⟩ hT0 ?_
          · rintro w hTw
            go_simp
          (try simp only [Act.put, List.getElem_toArray, List.getElem_cons_succ, List.getElem_cons_zero, List.setIfInBounds_toArray, List.set_cons_succ, List.set_cons_zero])
          refine wpTwo_takeT (i := 6) (v := .int .i64 E) rfl (by kernel_rfl) (by kernel_rfl) (by kernel_rfl) (fun _ _ _ h => h) ⟨by rfl, ?_⟩ hT0 ?_
          · rintro w hTw
            go_simp
          (try simp only [Act.put, List.getElem_toArray, List.getElem_cons_succ, List.getElem_cons_zero, List.setIfInBounds_toArray, List.set_cons_succ, List.set_cons_zero])
          refine wpTwo_end (by kernel_rfl) ?_ _
          clear hT0
          go_wp2
          have HBF := HC.out.b.trans (HF.out.2.2.below HC.out.b.size (fun k e => by omega))
          rcases HQ.out with h | ⟨a1, a2, a3, a4, a5⟩
          · exact bodyPost_ret (results_cctt rfl _ _ _ rfl rfl rfl rfl (readers_load HF.out.1) (grace_load HF.out.2.1)) rfl ⟨.inl ⟨by rw [HE.out]; exact h, nw, p1, n1, c1, p2, n2, c2, g.done, g.asked, g.on, pn, n, cn, 0, by rw [HE.out]; rfl⟩, HBF⟩
          · subst a3 a4
            have hx := a5.below HBX.out
            have hf : ∀ (q : Option Addr), (∀ a : Addr, q = some a → w0.heap.size ≤ a.block) → ∀ a : Addr, q = some a → ¬ (a.block = W.heap.size + 1 + 1 + 1 ∨ a.block = W.heap.size + 1 + 1 + 1 + 1) := fun q h a e => by have := h a e; have := HS0.out; omega
            refine bodyPost_ret (results_cctt rfl _ _ _ rfl rfl rfl rfl (readers_load HF.out.1) (grace_load HF.out.2.1)) rfl ⟨.inr ⟨by rw [HE.out]; exact a1, p1, c1, p2, c2, pn, cn, ?_, ?_, ?_, ?_, .inr (fun a e => by have := owns_far2 hx.1 a e; have := HS0.out; omega), .inr (fun a e => by have := owns_far2 hx.2 a e; have := HS0.out; omega), .inl rfl⟩, HBF⟩
            · rw [tickP2 HX.out, a2, a1]; simp only [perT]; rw [if_neg (by have := HX.out; omega)]; rfl
            · rw [tickP2 HX.out]; exact nums_keeps hx.nums.1 HF.out.2.2 (hf p1 (owns_far2 hx.1))
            · rw [tickP2 HX.out]; exact nums_keeps hx.nums.2 HF.out.2.2 (hf p2 (owns_far2 hx.2))
            · rw [tickP2 HX.out]; exact bools_below HR.out.2.2 HBF
        · have hx1 : (x == 1) = false := by rw [beq_eq_false_iff_ne]; exact h1
          have hx2 : (x == 2) = false := by rw [beq_eq_false_iff_ne]; exact h2
          have hx3 : (x == 3) = false := by rw [beq_eq_false_iff_ne]; exact h3
          have hx4 : (x == 4) = false := by rw [beq_eq_false_iff_ne]; exact h4
          have HE := Lib.hid (tickE5 (s := s) (g := g) (y := y) ⟨h1, h2, h3, h4⟩)
          clear h1 h2 h3 h4
          go_upto_region 18 with fail
          refine wpTwo_begin (T := TkT W s g pu cu pv cv pn cn n x y) (S := fun _ => True) (late := fun _ => false) (by kernel_rfl) ?_
          obtain ⟨X, hX⟩ : ∃ Y : World, Y = w0.drew := ⟨_, rfl⟩
          rw [← hX]
          have hbx : Below w0.heap.size w0 X := by rw [hX]; exact (Below.refl _ _).drew
          clear hX
          have HC := Lib.hid (HC0.out.below hbx)
          have hT0 := HC.out.t
          clear hbx
          refine wpTwo_takeT (i := 0) (v := .agg #[.int .i64 s.now, .slice pu n cu, .slice pv n cv]) rfl (by kernel_rfl) (by kernel_rfl) (by kernel_rfl) (fun _ _ _ h => h) ⟨by rfl, ?_⟩ hT0 ?_
          · rintro w hTw
            obtain ⟨t0', t1', t2'⟩ := hTw.r.cells
            go_simp
          (try simp only [Act.put, List.getElem_toArray, List.getElem_cons_zero, List.setIfInBounds_toArray, List.set_cons_succ, List.set_cons_zero])
          refine wpTwo_takeT (i := 1) (v := .agg #[.int .i64 g.done, .int .i64 g.asked, .bool g.on, .slice pn n cn]) rfl (by kernel_rfl) (by kernel_rfl) (by kernel_rfl) (fun _ _ _ h => h) ⟨by rfl, ?_⟩ hT0 ?_
          · rintro w hTw
            obtain ⟨t0', t1', t2', t3'⟩ := hTw.g.cells
            go_simp
          (try simp only [Act.put, List.getElem_toArray, List.getElem_cons_succ, List.getElem_cons_zero, List.setIfInBounds_toArray, List.set_cons_succ, List.set_cons_zero])
          have b6 := HC.out.z6
          obtain ⟨q0, q1, q2⟩ := b6.cells
          have m0 := b6.marks 0
          have m1 := b6.marks 1
          have m2 := b6.marks 2
          obtain ⟨Xa, hXa⟩ : ∃ Y : World, Y = ((X.setCell ⟨W.heap.size + 1 + 1 + 1, 0, none⟩ (.int .i64 s.now)).setCell ⟨W.heap.size + 1 + 1 + 1, 1, none⟩ (.slice pu n cu)).setCell ⟨W.heap.size + 1 + 1 + 1, 2, none⟩ (.slice pv n cv) := ⟨_, rfl⟩
          have hka : Keeps (fun q => q = W.heap.size + 1 + 1 + 1) X Xa := by rw [hXa]; exact RBox.putK X (W.heap.size + 1 + 1 + 1) _ _ _
          have hpa : RBox Xa (W.heap.size + 1 + 1 + 1) s.now (.slice pu n cu) (.slice pv n cv) := by rw [hXa]; exact b6.put _ _ _
          have hTa := hT0.keeps6 hka
          have HXA := Lib.hid hXa
          have HA := Lib.hid (And.intro hpa (And.intro hka (HC.out.z7.keeps hka (by omega))))
          clear hXa hka hpa b6
          refine wpTwo_ready (rs := [2]) (by kernel_rfl) (by simp) ?_
          refine (AllTwo.cons rfl (fun K hK => ?_) AllTwo.nil)
          go_simp
          rw [← HXA.out]
          refine hK.out _ _ ⟨hTa, fun _ _ => trivial⟩ ?_
          clear hK K hT0 q0 q1 q2 m0 m1 m2 HXA
          have hT0 := hTa
          clear hTa
          (try simp only [Act.put, List.getElem_toArray, List.getElem_cons_succ, List.getElem_cons_zero, List.setIfInBounds_toArray, List.set_cons_succ, List.set_cons_zero])
          have b7 := HA.out.2.2
          obtain ⟨q0, q1, q2, q3⟩ := b7.cells
          have m0 := b7.marks 0
          have m1 := b7.marks 1
          have m2 := b7.marks 2
          have m3 := b7.marks 3
          obtain ⟨Xb, hXb⟩ : ∃ Y : World, Y = (((Xa.setCell ⟨W.heap.size + 1 + 1 + 1 + 1, 0, none⟩ (.int .i64 g.done)).setCell ⟨W.heap.size + 1 + 1 + 1 + 1, 1, none⟩ (.int .i64 g.asked)).setCell ⟨W.heap.size + 1 + 1 + 1 + 1, 2, none⟩ (.bool g.on)).setCell ⟨W.heap.size + 1 + 1 + 1 + 1, 3, none⟩ (.slice pn n cn) := ⟨_, rfl⟩
          have hkb : Keeps (fun q => q = W.heap.size + 1 + 1 + 1 + 1) Xa Xb := by rw [hXb]; exact GBox.putK Xa (W.heap.size + 1 + 1 + 1 + 1) _ _ _ _
          have hpb : GBox Xb (W.heap.size + 1 + 1 + 1 + 1) g.done g.asked g.on (.slice pn n cn) := by rw [hXb]; exact b7.put _ _ _ _
          have hTb := hT0.keeps7 hkb
          have HXB := Lib.hid hXb
          have HF := Lib.hid (show RBox Xb (W.heap.size + 1 + 1 + 1) s.now (.slice pu n cu) (.slice pv n cv) ∧ GBox Xb (W.heap.size + 1 + 1 + 1 + 1) g.done g.asked g.on (.slice pn n cn) ∧ Keeps (fun q => q = W.heap.size + 1 + 1 + 1 ∨ q = W.heap.size + 1 + 1 + 1 + 1) X Xb from ⟨HA.out.1.keeps hkb (by omega), hpb, (HA.out.2.1.sub (fun _ _ h => .inl h)).trans (hkb.sub (fun _ _ h => .inr h))⟩)
          clear hXb hkb hpb b7 HA
          refine wpTwo_ready (rs := [3]) (by kernel_rfl) (by simp) ?_
          refine (AllTwo.cons rfl (fun K hK => ?_) AllTwo.nil)
          go_simp
          rw [← HXB.out]
          refine hK.out _ _ ⟨hTb, fun _ _ => trivial⟩ ?_
          clear hK K hT0 q0 q1 q2 q3 m0 m1 m2 m3 HXB
          have hT0 := hTb
          clear hTb
          (try simp only [Act.put, List.getElem_toArray, List.getElem_cons_succ, List.getElem_cons_zero, List.setIfInBounds_toArray, List.set_cons_succ, List.set_cons_zero])
          refine wpTwo_takeT (i := 4) (v := .int .i64 0) rfl (by kernel_rfl) (by kernel_rfl) (by kernel_rfl) (fun _ _ _ h => h) ⟨by rfl, ?_⟩ hT0 ?_
          · rintro w hTw
            go_simp
          (try simp only [Act.put, List.getElem_toArray, List.getElem_cons_succ, List.getElem_cons_zero, List.setIfInBounds_toArray, List.set_cons_succ, List.set_cons_zero])
          refine wpTwo_takeT (i := 5) (v := .int .i64 221) rfl (by kernel_rfl) (by kernel_rfl) (by kernel_rfl) (fun _ _ _ h => h) ⟨by rfl, ?_⟩ hT0 ?_
          · rintro w hTw
            go_simp
          (try simp only [Act.put, List.getElem_toArray, List.getElem_cons_succ, List.getElem_cons_zero, List.setIfInBounds_toArray, List.set_cons_succ, List.set_cons_zero])
          refine wpTwo_end (by kernel_rfl) ?_ _
          clear hT0
          go_wp2
          refine bodyPost_ret (results_cctt rfl _ _ _ rfl rfl rfl rfl (readers_load HF.out.1) (grace_load HF.out.2.1)) rfl ⟨.inl ⟨by rw [HE.out]; decide, s.now, pu, n, cu, pv, n, cv, g.done, g.asked, g.on, pn, n, cn, 0, by rw [HE.out]; rfl⟩, HC.out.b.trans (HF.out.2.2.below HC.out.b.size (fun k e => by omega))⟩

end Go.Proofs.Ytdmcijfjnegcgaa
namespace Go.Proofs.Ytdmcijfjnegcgaa
set_option maxRecDepth 100000
open Go.RowKit Go.Shelf
attribute [local go_sem] Oper.semAt_some

def FarP (Z : Nat → Prop) (B : Nat) (p : Option Addr) : Prop := ∀ a : Addr, p = some a → (a.block < B ∧ ¬ Z a.block) ∨ B + 4 ≤ a.block
theorem nums_lt {w : World} {k : IntKind} {p : Option Addr} {n c : Nat} {bs : List Int} (h : NumsAt w k (.slice p n c) bs) (hne : bs ≠ []) : ∀ a : Addr, p = some a → a.block < w.heap.size := fun a e => by
  obtain ⟨q, d, e', hc⟩ := h
  injection e' with e1 e2 e3
  obtain ⟨b, off, rfl, hcs⟩ := hc hne
  rw [e] at e1
  injection e1 with e1
  rw [e1]
  exact World.block_lt_of_cell? w _ (hcs 0 (List.length_pos_iff.2 hne))
/-- Two rows lie apart. -/
def SepP (pl p : Option Addr) : Prop := ∀ q : Nat, pl = some ⟨q, 0, none⟩ → ∀ a : Addr, p = some a → a.block ≠ q
theorem SepP.new {pl p q : Option Addr} {C : Nat} (h : SepP pl p) (ho : OrNew C p q) (hC : ∀ k : Nat, pl = some ⟨k, 0, none⟩ → k < C) : SepP pl q := fun k e a ea => by
  rcases ho with rfl | ho
  · exact h k e a ea
  · have := ho a ea; have := hC k e; omega
theorem tickE_ls (P : PlS) (t : Int × Int) : tickE P t = tickE ⟨P.s, P.g, []⟩ t := rfl
theorem tickP_ls (P : PlS) (t : Int × Int) : tickP P t = ⟨(tickP ⟨P.s, P.g, []⟩ t).s, (tickP ⟨P.s, P.g, []⟩ t).g, P.ls ++ (tickP ⟨P.s, P.g, []⟩ t).ls⟩ := by
  unfold tickP
  repeat' split
  all_goals simp
theorem per_ls (s : RdS) (g : GrS) (x y : Int) : (tickP ⟨s, g, []⟩ (x, y)).ls = if x = 3 then [nextG g] else [] := by
  unfold tickP
  by_cases h1 : x = 1
  · simp [h1]
  · by_cases h2 : x = 2
    · simp [h2]
    · by_cases h3 : x = 3
      · simp [h3]
      · simp [h1, h2, h3]
/-- Between two ticks. -/
structure PyI (Z : Nat → Prop) (W : World) (l : List (Int × Int)) (n k : Nat) (P0 P : PlS) (pu : Option Addr) (cu : Nat) (pv : Option Addr) (cv : Nat) (pn : Option Addr) (cn : Nat) (w : World) : Prop where
  good : GoodP P
  len : P.g.nd.length = n
  r : RBox w W.heap.size P.s.now (.slice pu n cu) (.slice pv n cv)
  g : GBox w (W.heap.size + 1) P.g.done P.g.asked P.g.on (.slice pn n cn)
  z6 : RBox w (W.heap.size + 1 + 1) 0 (.slice none 0 0) (.slice none 0 0)
  z7 : GBox w (W.heap.size + 1 + 1 + 1) 0 0 false (.slice none 0 0)
  nu : NumsAt w .i64 (.slice pu n cu) P.s.ns
  nv : NumsAt w .i64 (.slice pv n cv) P.s.os
  nb : BoolsAt w (.slice pn n cn) P.g.nd
  fu : FarP Z W.heap.size pu
  fv : FarP Z W.heap.size pv
  fn : FarP Z W.heap.size pn
  b : Below W.heap.size W w
  e : playE P0 l = playE P (l.drop k)
  p : playP P0 l = playP P (l.drop k)
  lk : P.ls.length ≤ k
theorem PyI.below {Z : Nat → Prop} {W : World} {l : List (Int × Int)} {n k : Nat} {P0 P : PlS} {pu : Option Addr} {cu : Nat} {pv : Option Addr} {cv : Nat} {pn : Option Addr} {cn : Nat} {w w' : World} (h : PyI Z W l n k P0 P pu cu pv cv pn cn w) (hb : Below w.heap.size w w') : PyI Z W l n k P0 P pu cu pv cv pn cn w' :=
  ⟨h.good, h.len, h.r.below hb, h.g.below hb, h.z6.below hb, h.z7.below hb, nums_below h.nu hb, nums_below h.nv hb, bools_below h.nb hb, h.fu, h.fv, h.fn, below_then h.b h.b.size hb, h.e, h.p, h.lk⟩
theorem FarP.new {Z : Nat → Prop} {B C : Nat} {p q : Option Addr} (h : FarP Z B p) (ho : OrNew C p q) (hC : B + 4 ≤ C) : FarP Z B q := fun a e => by
  rcases ho with rfl | ho
  · exact h a e
  · have := ho a e; omega
theorem FarP.not {Z : Nat → Prop} {B : Nat} {p : Option Addr} (h : FarP Z B p) : ∀ a : Addr, p = some a → ¬ (a.block = B ∨ a.block = B + 1) := fun a e => by have := h a e; omega
theorem PyI.grown {Z : Nat → Prop} {W : World} {l : List (Int × Int)} {n k : Nat} {P0 P : PlS} {pu : Option Addr} {cu : Nat} {pv : Option Addr} {cv : Nat} {pn : Option Addr} {cn : Nat} {w w' : World} {row : Option Nat} (h : PyI Z W l n k P0 P pu cu pv cv pn cn w) (hg : w.grownBy w' row) (hr : ∀ q, row = some q → W.heap.size + 4 ≤ q ∧ (∀ a : Addr, pu = some a → a.block ≠ q) ∧ (∀ a : Addr, pv = some a → a.block ≠ q) ∧ (∀ a : Addr, pn = some a → a.block ≠ q)) : PyI Z W l n k P0 P pu cu pv cv pn cn w' := by
  have hk : Keeps (fun q => row = some q) w w' := ⟨hg.os, hg.tape, hg.output, hg.size, fun k hk hne => hg.block k hk (fun e => hne e.symm)⟩
  exact ⟨h.good, h.len, h.r.keeps hk (fun e => by have := (hr _ e).1; omega), h.g.keeps hk (fun e => by have := (hr _ e).1; omega), h.z6.keeps hk (fun e => by have := (hr _ e).1; omega), h.z7.keeps hk (fun e => by have := (hr _ e).1; omega), nums_keeps h.nu hk (fun a e he => (hr _ he).2.1 a e rfl), nums_keeps h.nv hk (fun a e he => (hr _ he).2.2.1 a e rfl), bools_keepS h.nb (fun a e he => (hr _ he).2.2.2 a e rfl) hk, h.fu, h.fv, h.fn, h.b.trans (hk.below h.b.size (fun q e => by have := (hr _ e).1; omega)), h.e, h.p, h.lk⟩
/-- A tick is made. -/
theorem PyI.next {Z : Nat → Prop} {W : World} {l : List (Int × Int)} {n k : Nat} {P0 P P' : PlS} {pu : Option Addr} {cu : Nat} {pv : Option Addr} {cv : Nat} {pn : Option Addr} {cn : Nat} {X Xb : World} {p1 p2 p3 : Option Addr} {c1 c2 c3 : Nat} (h : PyI Z W l n k P0 P pu cu pv cv pn cn X) (hk : ∃ hkl : k < l.length, tickE P l[k] = 0 ∧ P' = tickP P l[k]) (hg : GoodP P' ∧ P'.g.nd.length = n)
    (u : NumsAt X .i64 (.slice p1 n c1) P'.s.ns) (v : NumsAt X .i64 (.slice p2 n c2) P'.s.os) (b : BoolsAt X (.slice p3 n c3) P'.g.nd) (f1 : FarP Z W.heap.size p1) (f2 : FarP Z W.heap.size p2) (f3 : FarP Z W.heap.size p3)
    (hr : RBox Xb W.heap.size P'.s.now (.slice p1 n c1) (.slice p2 n c2)) (hgb : GBox Xb (W.heap.size + 1) P'.g.done P'.g.asked P'.g.on (.slice p3 n c3)) (hK : Keeps (fun q => q = W.heap.size ∨ q = W.heap.size + 1) X Xb) (hl : P'.ls.length ≤ k + 1) : PyI Z W l n (k + 1) P0 P' p1 c1 p2 c2 p3 c3 Xb := by
  obtain ⟨hkl, hE, hP⟩ := hk
  have hd : l.drop k = l[k] :: l.drop (k + 1) := List.drop_eq_getElem_cons hkl
  refine ⟨hg.1, hg.2, hr, hgb, h.z6.keeps hK (by omega), h.z7.keeps hK (by omega), nums_keeps u hK f1.not, nums_keeps v hK f2.not, bools_keepS b f3.not hK, f1, f2, f3, h.b.trans (hK.below h.b.size (fun q e => by omega)), ?_, ?_, hl⟩
  · rw [h.e, hd]; show (if tickE P l[k] = 0 then playE (tickP P l[k]) (l.drop (k + 1)) else tickE P l[k]) = _; rw [if_pos hE, hP]
  · rw [h.p, hd, hP]; rfl
theorem PyI.fail {Z : Nat → Prop} {W : World} {l : List (Int × Int)} {n k : Nat} {P0 P : PlS} {pu : Option Addr} {cu : Nat} {pv : Option Addr} {cv : Nat} {pn : Option Addr} {cn : Nat} {X : World} (h : PyI Z W l n k P0 P pu cu pv cv pn cn X) (hkl : k < l.length) (hE : tickE P l[k] ≠ 0) : playE P0 l = tickE P l[k] := by
  rw [h.e, List.drop_eq_getElem_cons hkl]; show (if tickE P l[k] = 0 then _ else tickE P l[k]) = _; rw [if_neg hE]

end Go.Proofs.Ytdmcijfjnegcgaa
