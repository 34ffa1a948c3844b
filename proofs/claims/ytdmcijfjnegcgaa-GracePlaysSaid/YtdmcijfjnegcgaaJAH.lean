/-
  GracePlays, called with any readers, grace, and row of ticks: it returns true, and changes none of its arguments.
  Conditions: none.
-/
import Derived.Test.YtdmcijfjnegcgaaJA13
import Derived.Test.YtdmcijfjnegcgaaJA8
import Derived.Deep.DeepCutAuto
import Derived.Test.YtdmcijfjnegcgaaJA1
import Derived.Test.YtdmcijfjnegcgaaJA5
/-
  GracePlays, called with any readers, grace, and row of ticks: it answers true.
  Conditions: the ranges of Go's types.
-/
namespace Go.Proofs.Ytdmcijfjnegcgaa
set_option maxRecDepth 100000
open Go.RowKit Go.Shelf
attribute [local go_sem] Oper.semAt_some

theorem own_lt {W : World} {B n k c sz : Nat} {E : TypeId} {p : Option Addr} {xs : List Value} (h : W.ownsRow B E sz (.slice p k c) n xs) : ∀ a : Addr, p = some a → a.block < W.heap.size := fun a e => by
  rcases h.2 with ⟨h1, _⟩ | ⟨g, cap, cur, h1, _, hg, _⟩
  · injection h1 with h1 _ _; rw [e] at h1; cases h1
  · injection h1 with h1 _ _
    rw [e] at h1; injection h1 with h1; rw [h1]
    exact (Array.getElem?_eq_some_iff.1 hg).1
/-- What stands ahead of the last region: what came in, and what Play answered. -/
structure GpB (W : World) (now : Int) (p0 : Option Addr) (n0 c0 : Nat) (q0 : Option Addr) (m0 e0 : Nat) (d a : Int) (on : Bool) (pg : Option Addr) (ng cg : Nat) (s : RdS) (g : GrS) (S : RdS) (G : GrS) (L : List Int) (z7 z8 z9 : Nat) (p7 : Option Addr) (n7 c7 : Nat) (q7 : Option Addr) (m7 d7 : Nat) (p8 : Option Addr) (n8 c8 : Nat) (p9 : Option Addr) (n9 c9 : Nat) (q9 : Option Addr) (m9 d9 : Nat) (p10 : Option Addr) (n10 c10 : Nat) (p11 : Option Addr) (n11 c11 : Nat) (w : World) : Prop where
  x3 : RBox w W.heap.size now (.slice p0 n0 c0) (.slice q0 m0 e0)
  x4 : GBox w (W.heap.size + 1) d a on (.slice pg ng cg)
  r7 : RzA w z7 s p7 n7 c7 q7 m7 d7
  g8 : GzA w z8 g p8 n8 c8
  r9 : RzA w z9 S p9 n9 c9 q9 m9 d9
  g10 : GzA w (z9 + 1) G p10 n10 c10
  l11 : NumsAt w .i64 (.slice p11 n11 c11) L
  b : Below W.heap.size W w
theorem GpB.below {W : World} {now : Int} {p0 : Option Addr} {n0 c0 : Nat} {q0 : Option Addr} {m0 e0 : Nat} {d a : Int} {on : Bool} {pg : Option Addr} {ng cg : Nat} {s : RdS} {g : GrS} {S : RdS} {G : GrS} {L : List Int} {z7 z8 z9 : Nat} {p7 : Option Addr} {n7 c7 : Nat} {q7 : Option Addr} {m7 d7 : Nat} {p8 : Option Addr} {n8 c8 : Nat} {p9 : Option Addr} {n9 c9 : Nat} {q9 : Option Addr} {m9 d9 : Nat} {p10 : Option Addr} {n10 c10 : Nat} {p11 : Option Addr} {n11 c11 : Nat} {w w' : World} (h : GpB W now p0 n0 c0 q0 m0 e0 d a on pg ng cg s g S G L z7 z8 z9 p7 n7 c7 q7 m7 d7 p8 n8 c8 p9 n9 c9 q9 m9 d9 p10 n10 c10 p11 n11 c11 w) (hb : Below w.heap.size w w') : GpB W now p0 n0 c0 q0 m0 e0 d a on pg ng cg s g S G L z7 z8 z9 p7 n7 c7 q7 m7 d7 p8 n8 c8 p9 n9 c9 q9 m9 d9 p10 n10 c10 p11 n11 c11 w' :=
  ⟨h.x3.below hb, h.x4.below hb, h.r7.below hb, h.g8.below hb, h.r9.below hb, h.g10.below hb, nums_below h.l11 hb, below_then h.b h.b.size hb⟩
structure GpF (W : World) (now : Int) (p0 : Option Addr) (n0 c0 : Nat) (q0 : Option Addr) (m0 e0 : Nat) (d a : Int) (on : Bool) (pg : Option Addr) (ng cg : Nat) (s : RdS) (g : GrS) (S : RdS) (G : GrS) (L : List Int) (z7 z8 z9 : Nat) (p7 : Option Addr) (n7 c7 : Nat) (q7 : Option Addr) (m7 d7 : Nat) (p8 : Option Addr) (n8 c8 : Nat) (p9 : Option Addr) (n9 c9 : Nat) (q9 : Option Addr) (m9 d9 : Nat) (p10 : Option Addr) (n10 c10 : Nat) (p11 : Option Addr) (n11 c11 : Nat) (p13 : Option Addr) (n13 c13 : Nat) (q13 : Option Addr) (m13 d13 : Nat) (p14 : Option Addr) (n14 c14 : Nat) (p15 : Option Addr) (n15 c15 : Nat) (w : World) : Prop extends GpB W now p0 n0 c0 q0 m0 e0 d a on pg ng cg s g S G L z7 z8 z9 p7 n7 c7 q7 m7 d7 p8 n8 c8 p9 n9 c9 q9 m9 d9 p10 n10 c10 p11 n11 c11 w where
  r13 : RzA w (z9 + 2) S p13 n13 c13 q13 m13 d13
  g14 : GzA w (z9 + 3) G p14 n14 c14
  l15 : NumsAt w .i64 (.slice p15 n15 c15) L
theorem gp_zero {W : World} {now : Int} {p0 : Option Addr} {n0 c0 : Nat} {q0 : Option Addr} {m0 e0 : Nat} {d a : Int} {on : Bool} {pg : Option Addr} {ng cg : Nat} {s : RdS} {g : GrS} {S : RdS} {G : GrS} {L : List Int} {z7 z8 z9 : Nat} {p7 : Option Addr} {n7 c7 : Nat} {q7 : Option Addr} {m7 d7 : Nat} {p8 : Option Addr} {n8 c8 : Nat} {p9 : Option Addr} {n9 c9 : Nat} {q9 : Option Addr} {m9 d9 : Nat} {p10 : Option Addr} {n10 c10 : Nat} {p11 : Option Addr} {n11 c11 : Nat} {w : World} (h : GpB W now p0 n0 c0 q0 m0 e0 d a on pg ng cg s g S G L z7 z8 z9 p7 n7 c7 q7 m7 d7 p8 n8 c8 p9 n9 c9 q9 m9 d9 p10 n10 c10 p11 n11 c11 w) (hS : S = zeroR0) (hG : G = noG) (hL : L = []) (h13 : RBox w (z9 + 2) 0 (.slice none 0 0) (.slice none 0 0)) (h14 : GBox w (z9 + 3) 0 0 false (.slice none 0 0)) : GpF W now p0 n0 c0 q0 m0 e0 d a on pg ng cg s g S G L z7 z8 z9 p7 n7 c7 q7 m7 d7 p8 n8 c8 p9 n9 c9 q9 m9 d9 p10 n10 c10 p11 n11 c11 none 0 0 none 0 0 none 0 0 none 0 0 w := by
  subst hS hG hL
  exact ⟨h, ⟨h13, nums_none w, nums_none w⟩, ⟨h14, noG_at w⟩, nums_none w⟩
theorem GpF.below' {W : World} {now : Int} {p0 : Option Addr} {n0 c0 : Nat} {q0 : Option Addr} {m0 e0 : Nat} {d a : Int} {on : Bool} {pg : Option Addr} {ng cg : Nat} {s : RdS} {g : GrS} {S : RdS} {G : GrS} {L : List Int} {z7 z8 z9 : Nat} {p7 : Option Addr} {n7 c7 : Nat} {q7 : Option Addr} {m7 d7 : Nat} {p8 : Option Addr} {n8 c8 : Nat} {p9 : Option Addr} {n9 c9 : Nat} {q9 : Option Addr} {m9 d9 : Nat} {p10 : Option Addr} {n10 c10 : Nat} {p11 : Option Addr} {n11 c11 : Nat} {p13 : Option Addr} {n13 c13 : Nat} {q13 : Option Addr} {m13 d13 : Nat} {p14 : Option Addr} {n14 c14 : Nat} {p15 : Option Addr} {n15 c15 : Nat} {w w' : World} (h : GpF W now p0 n0 c0 q0 m0 e0 d a on pg ng cg s g S G L z7 z8 z9 p7 n7 c7 q7 m7 d7 p8 n8 c8 p9 n9 c9 q9 m9 d9 p10 n10 c10 p11 n11 c11 p13 n13 c13 q13 m13 d13 p14 n14 c14 p15 n15 c15 w) (hb : Below w.heap.size w w') : GpF W now p0 n0 c0 q0 m0 e0 d a on pg ng cg s g S G L z7 z8 z9 p7 n7 c7 q7 m7 d7 p8 n8 c8 p9 n9 c9 q9 m9 d9 p10 n10 c10 p11 n11 c11 p13 n13 c13 q13 m13 d13 p14 n14 c14 p15 n15 c15 w' :=
  ⟨h.toGpB.below hb, h.r13.below hb, h.g14.below hb, nums_below h.l15 hb⟩
theorem GpF.boxes {W : World} {now : Int} {p0 : Option Addr} {n0 c0 : Nat} {q0 : Option Addr} {m0 e0 : Nat} {d a : Int} {on : Bool} {pg : Option Addr} {ng cg : Nat} {s : RdS} {g : GrS} {S : RdS} {G : GrS} {L : List Int} {z7 z8 z9 : Nat} {p7 : Option Addr} {n7 c7 : Nat} {q7 : Option Addr} {m7 d7 : Nat} {p8 : Option Addr} {n8 c8 : Nat} {p9 : Option Addr} {n9 c9 : Nat} {q9 : Option Addr} {m9 d9 : Nat} {p10 : Option Addr} {n10 c10 : Nat} {p11 : Option Addr} {n11 c11 : Nat} {p13 : Option Addr} {n13 c13 : Nat} {q13 : Option Addr} {m13 d13 : Nat} {p14 : Option Addr} {n14 c14 : Nat} {p15 : Option Addr} {n15 c15 : Nat} {w : World} (h : GpF W now p0 n0 c0 q0 m0 e0 d a on pg ng cg s g S G L z7 z8 z9 p7 n7 c7 q7 m7 d7 p8 n8 c8 p9 n9 c9 q9 m9 d9 p10 n10 c10 p11 n11 c11 p13 n13 c13 q13 m13 d13 p14 n14 c14 p15 n15 c15 w) : (RBox w W.heap.size now (.slice p0 n0 c0) (.slice q0 m0 e0) ∧ GBox w (W.heap.size + 1) d a on (.slice pg ng cg)) ∧ (RBox w z7 s.now (.slice p7 n7 c7) (.slice q7 m7 d7) ∧ GBox w z8 g.done g.asked g.on (.slice p8 n8 c8)) ∧ (RBox w z9 S.now (.slice p9 n9 c9) (.slice q9 m9 d9) ∧ GBox w (z9 + 1) G.done G.asked G.on (.slice p10 n10 c10)) ∧ RBox w (z9 + 2) S.now (.slice p13 n13 c13) (.slice q13 m13 d13) ∧ GBox w (z9 + 3) G.done G.asked G.on (.slice p14 n14 c14) :=
  ⟨⟨h.x3, h.x4⟩, ⟨h.r7.box, h.g8.box⟩, ⟨h.r9.box, h.g10.box⟩, h.r13.box, h.g14.box⟩
/-- What lies ahead of the boxes of what is wanted. -/
structure GpL (W : World) (z7 z8 z9 : Nat) (p7 q7 p8 p9 q9 p10 p11 : Option Addr) : Prop where
  x : W.heap.size + 1 < z9
  z7 : z7 < z9
  z8 : z8 < z9
  p7 : ∀ x : Addr, p7 = some x → x.block < z9
  q7 : ∀ x : Addr, q7 = some x → x.block < z9
  p8 : ∀ x : Addr, p8 = some x → x.block < z9
  p9 : ∀ x : Addr, p9 = some x → x.block < z9
  q9 : ∀ x : Addr, q9 = some x → x.block < z9
  p10 : ∀ x : Addr, p10 = some x → x.block < z9
  p11 : ∀ x : Addr, p11 = some x → x.block < z9
theorem gp_put {W : World} {now : Int} {p0 : Option Addr} {n0 c0 : Nat} {q0 : Option Addr} {m0 e0 : Nat} {d a : Int} {on : Bool} {pg : Option Addr} {ng cg : Nat} {s : RdS} {g : GrS} {S : RdS} {G : GrS} {L : List Int} {z7 z8 z9 : Nat} {p7 : Option Addr} {n7 c7 : Nat} {q7 : Option Addr} {m7 d7 : Nat} {p8 : Option Addr} {n8 c8 : Nat} {p9 : Option Addr} {n9 c9 : Nat} {q9 : Option Addr} {m9 d9 : Nat} {p10 : Option Addr} {n10 c10 : Nat} {p11 : Option Addr} {n11 c11 : Nat} {w w' : World} (h : GpB W now p0 n0 c0 q0 m0 e0 d a on pg ng cg s g S G L z7 z8 z9 p7 n7 c7 q7 m7 d7 p8 n8 c8 p9 n9 c9 q9 m9 d9 p10 n10 c10 p11 n11 c11 w) (hl : GpL W z7 z8 z9 p7 q7 p8 p9 q9 p10 p11) (hk : Keeps (fun q => q = z9 + 2 ∨ q = z9 + 3) w w') : GpB W now p0 n0 c0 q0 m0 e0 d a on pg ng cg s g S G L z7 z8 z9 p7 n7 c7 q7 m7 d7 p8 n8 c8 p9 n9 c9 q9 m9 d9 p10 n10 c10 p11 n11 c11 w' := by
  have n : ∀ {p : Option Addr}, (∀ x : Addr, p = some x → x.block < z9) → ∀ x : Addr, p = some x → ¬ (x.block = z9 + 2 ∨ x.block = z9 + 3) := fun hp x e => by have := hp x e; omega
  have k1 := hl.x
  have k2 := hl.z7
  have k3 := hl.z8
  exact ⟨h.x3.keeps hk (by omega), h.x4.keeps hk (by omega), ⟨h.r7.box.keeps hk (by omega), nums_keeps h.r7.nu hk (n hl.p7), nums_keeps h.r7.nv hk (n hl.q7)⟩, ⟨h.g8.box.keeps hk (by omega), bools_keepS h.g8.row (n hl.p8) hk⟩, ⟨h.r9.box.keeps hk (by omega), nums_keeps h.r9.nu hk (n hl.p9), nums_keeps h.r9.nv hk (n hl.q9)⟩, ⟨h.g10.box.keeps hk (by omega), bools_keepS h.g10.row (n hl.p10) hk⟩, nums_keeps h.l11 hk (n hl.p11), h.b.trans (hk.below h.b.size (fun q e => by omega))⟩
/-- Both are stored. -/
theorem gp_store {w : World} {z : Nat} (hr : RBox w (z + 2) 0 (.slice none 0 0) (.slice none 0 0)) (hg : GBox w (z + 3) 0 0 false (.slice none 0 0)) (S : RdS) (G : GrS) (p : Option Addr) (n c : Nat) (q : Option Addr) (m e : Nat) (r : Option Addr) (o f : Nat) :
    RBox (((((((w.setCell ⟨z + 2, 0, none⟩ (.int .i64 S.now)).setCell ⟨z + 2, 1, none⟩ (.slice p n c)).setCell ⟨z + 2, 2, none⟩ (.slice q m e)).setCell ⟨z + 3, 0, none⟩ (.int .i64 G.done)).setCell ⟨z + 3, 1, none⟩ (.int .i64 G.asked)).setCell ⟨z + 3, 2, none⟩ (.bool G.on)).setCell ⟨z + 3, 3, none⟩ (.slice r o f)) (z + 2) S.now (.slice p n c) (.slice q m e) ∧
    GBox (((((((w.setCell ⟨z + 2, 0, none⟩ (.int .i64 S.now)).setCell ⟨z + 2, 1, none⟩ (.slice p n c)).setCell ⟨z + 2, 2, none⟩ (.slice q m e)).setCell ⟨z + 3, 0, none⟩ (.int .i64 G.done)).setCell ⟨z + 3, 1, none⟩ (.int .i64 G.asked)).setCell ⟨z + 3, 2, none⟩ (.bool G.on)).setCell ⟨z + 3, 3, none⟩ (.slice r o f)) (z + 3) G.done G.asked G.on (.slice r o f) ∧
    Keeps (fun q => q = z + 2 ∨ q = z + 3) w (((((((w.setCell ⟨z + 2, 0, none⟩ (.int .i64 S.now)).setCell ⟨z + 2, 1, none⟩ (.slice p n c)).setCell ⟨z + 2, 2, none⟩ (.slice q m e)).setCell ⟨z + 3, 0, none⟩ (.int .i64 G.done)).setCell ⟨z + 3, 1, none⟩ (.int .i64 G.asked)).setCell ⟨z + 3, 2, none⟩ (.bool G.on)).setCell ⟨z + 3, 3, none⟩ (.slice r o f)) := by
  have k1 := RBox.putK w (z + 2) S.now (.slice p n c) (.slice q m e)
  have h1 := hr.put S.now (.slice p n c) (.slice q m e)
  have h2 := hg.keeps k1 (by omega)
  have k2 := GBox.putK (((w.setCell ⟨z + 2, 0, none⟩ (.int .i64 S.now)).setCell ⟨z + 2, 1, none⟩ (.slice p n c)).setCell ⟨z + 2, 2, none⟩ (.slice q m e)) (z + 3) G.done G.asked G.on (.slice r o f)
  exact ⟨h1.keeps k2 (by omega), h2.put _ _ _ _, (k1.sub (fun q _ h => .inl h)).trans (k2.sub (fun q _ h => .inr h))⟩
theorem ansT_lt {B : Nat} {E : Int} {P : PlS} {A : AnsV} {w : World} (h : AnsP B E P A w) : (∀ x : Addr, A.pu = some x → x.block < w.heap.size) ∧ (∀ x : Addr, A.pv = some x → x.block < w.heap.size) ∧ (∀ x : Addr, A.pn = some x → x.block < w.heap.size) ∧ (∀ x : Addr, A.pl = some x → x.block < w.heap.size) := by
  rcases h with ⟨_, rfl⟩ | ⟨_, _, gb, hb, nb, n, pl, nl, cl, rfl, _, h1, h2, h3, h4⟩
  · exact ⟨fun x e => (by cases e), fun x e => (by cases e), fun x e => (by cases e), fun x e => (by cases e)⟩
  · exact ⟨fun x e => (by cases e; exact h1.lt), fun x e => (by cases e; exact h2.lt), fun x e => (by cases e; exact h3.lt), own_lt h4⟩

set_option maxHeartbeats 32000000 in
theorem gracePlays_c (now : Int) (u v : Value) (xs ys : List Int) (d a : Int) (on : Bool) (nv : Value) (bs : List Bool) (tv : Value) (l : List (Int × Int)) (W : World)
    (hu : ArgR W u (xs.map (Value.int .i64))) (hv : ArgR W v (ys.map (Value.int .i64))) (hx : xs.length ≤ 9223372036854775807) (hy : ys.length ≤ 9223372036854775807) (hyr : ∀ y ∈ ys, I64 y)
    (hn : ArgR W nv (bs.map Value.bool)) (hb : bs.length ≤ 9223372036854775807) (hl : TksAt W tv l) (hll : l.length ≤ 9223372036854775807) (hlc : ∀ p n c, tv = .slice p n c → n ≤ c ∧ (p = none → c = 0)) :
    Calls Try.prog 4 #[.agg #[.int .i64 now, u, v], .agg #[.int .i64 d, .int .i64 a, .bool on, nv], tv] W fun e w' => e = .returned (.bool true) ∧ Below W.heap.size W w' := by
  obtain ⟨s, hs⟩ : ∃ s : RdS, s = ⟨now, xs.take 10, ys.take 10⟩ := ⟨_, rfl⟩
  obtain ⟨g, hg⟩ : ∃ g : GrS, g = ⟨d, a, on, bs.take 10⟩ := ⟨_, rfl⟩
  have HCR := Lib.hid (fun (Z : World) (hz : Below W.heap.size W Z) => ownRd_c now u v xs ys Z (hu.below hz) (hv.below hz) hx hy)
  have HCG := Lib.hid (fun (Z : World) (hz : Below W.heap.size W Z) => own12_c d a on nv bs Z (hn.below hz) hb)
  rw [← hs] at HCR
  rw [← hg] at HCG
  have HSL := Lib.hid (show s.ns.length ≤ 10 ∧ s.os.length ≤ 10 ∧ g.nd.length ≤ 10 ∧ (∀ x ∈ s.os, I64 x) ∧ s.now = now ∧ g.done = d ∧ g.asked = a ∧ g.on = on by
    rw [hs, hg]
    exact ⟨by simp only [List.length_take]; omega, by simp only [List.length_take]; omega, by simp only [List.length_take]; omega, fun x hx => hyr x (List.mem_of_mem_take hx), rfl, rfl, rfl, rfl⟩)
  clear hs hg hyr hx hy hb
  obtain ⟨tp, tn, tc, rfl, ht1, ht2⟩ : ∃ p n c, tv = .slice p n c ∧ (n ≤ c ∧ (p = none → c = 0)) ∧ n = l.length := by
    obtain ⟨p, cap, e, -⟩ := id hl
    exact ⟨p, _, cap, e, hlc _ _ _ e, rfl⟩
  obtain ⟨p0, n0, c0, rfl, -⟩ := hu
  obtain ⟨q0, m0, e0, rfl, -⟩ := hv
  obtain ⟨pg, ng, cg, rfl, -⟩ := hn
  clear hlc
  obtain ⟨w0, hw0⟩ : ∃ X : World, X = (W.alloc (.cells #[.int .i64 now, .slice p0 n0 c0, .slice q0 m0 e0] 45)).alloc (.cells #[.int .i64 d, .int .i64 a, .bool on, .slice pg ng cg] 24) := ⟨_, rfl⟩
  have HB0 := Lib.hid (show RBox w0 W.heap.size now (.slice p0 n0 c0) (.slice q0 m0 e0) ∧ GBox w0 (W.heap.size + 1) d a on (.slice pg ng cg) ∧ Below W.heap.size W w0 from ⟨by rw [hw0]; exact (RBox.new W _ _ _).below (below1 _ _), by
      rw [hw0]
      have := GBox.new (W.alloc (.cells #[.int .i64 now, .slice p0 n0 c0, .slice q0 m0 e0] 45)) d a on (.slice pg ng cg)
      simpa using this, by rw [hw0]; exact below2 _ _ _⟩)
  have HW0 := Lib.hid hw0
  have HL := Lib.hid hl
  obtain ⟨k, hk⟩ : ∃ k, k = min tn 60 := ⟨_, rfl⟩
  have HK := Lib.hid (show k ≤ 60 ∧ (l.take 60).length = k by rw [List.length_take, hk]; omega)
  have HT2 := Lib.hid (And.intro ht1 ht2)
  have hmin := run_min60 tn k hk
  have hcut := run_cutT tp tn tc k (by omega)
  have HKK := Lib.hid hk
  have htn : tn ≤ 9223372036854775807 := by omega
  clear hw0 hl hk ht1 ht2 hll
  go_enter Try.func4, Try.ntmps4
  go_wp2_with fail
  rw [← HW0.out]
  clear HW0
  (with_reducible refine (wakes_c w0).mono ?_)
  rintro e w1 ⟨rfl, hb1⟩
  have HB1 := Lib.hid (show GpT W.heap.size now p0 n0 c0 q0 m0 e0 d a on pg ng cg w1 ∧ Below W.heap.size W w1 from ⟨⟨HB0.out.1.below hb1, HB0.out.2.1.below hb1⟩, below_then HB0.out.2.2 HB0.out.2.2.size hb1⟩)
  clear hb1 HB0
  go_upto_region 3 with fail
  refine gp_reg3 s g tp tn tc W.heap.size now p0 n0 c0 q0 m0 e0 d a on pg ng cg w1 HB1.out.1 (fun Z hz => HCR.out Z (below_then HB1.out.2 HB1.out.2.size hz)) (fun Z hz => HCG.out Z (below_then HB1.out.2 HB1.out.2.size hz)) _ (by kernel_rfl) _ (fun c a i v w h => by cases i <;> exact h) ?_
  intro z7 z8 p7 c7 q7 d7 p8 c8 w2 hO
  have HO := Lib.hid hO
  have HX2 := Lib.hid (show GpT W.heap.size now p0 n0 c0 q0 m0 e0 d a on pg ng cg w2 ∧ Below W.heap.size W w2 from ⟨⟨HB1.out.1.1.below hO.b, HB1.out.1.2.below hO.b⟩, below_then HB1.out.2 HB1.out.2.size hO.b⟩)
  have HC := Lib.hid (cloneT (.slice tp k tc) k (tvs (l.take 60)) w2 (vals_tk (HL.out.below (HX2.out.2)) HT2.out.1 k HKK.out) (tvs_one _) (by have := HK.out; omega))
  clear hO HB1 HL
  go_wp2_with fail
  (with_reducible refine HC.out.mono ?_)
  rintro e w3 ⟨⟨v3, rfl, o3⟩, hb3⟩
  obtain ⟨t3, k3, rfl⟩ := owns_slice o3
  obtain ⟨n7, hn7⟩ : ∃ n, n = s.ns.length := ⟨_, rfl⟩
  obtain ⟨m7, hm7⟩ : ∃ n, n = s.os.length := ⟨_, rfl⟩
  obtain ⟨n8, hn8⟩ : ∃ n, n = g.nd.length := ⟨_, rfl⟩
  have HX3 := Lib.hid (show GpT W.heap.size now p0 n0 c0 q0 m0 e0 d a on pg ng cg w3 ∧ Below W.heap.size W w3 ∧ RBox w3 z7 s.now (.slice p7 n7 c7) (.slice q7 m7 d7) ∧ GBox w3 z8 g.done g.asked g.on (.slice p8 n8 c8) ∧ OwnR 0 s (.slice p7 n7 c7) (.slice q7 m7 d7) w3 ∧ w3.ownsRow 0 4 1 (.slice p8 n8 c8) g.nd.length (g.nd.map Value.bool) ∧ TksAt w3 (.slice t3 k k3) (l.take 60) from
    ⟨⟨HX2.out.1.1.below hb3, HX2.out.1.2.below hb3⟩, below_then HX2.out.2 HX2.out.2.size hb3, by rw [hn7, hm7]; exact HO.out.rb.below hb3, by rw [hn8]; exact HO.out.gb.below hb3, by rw [hn7, hm7]; exact HO.out.ro.below hb3, by rw [hn8]; exact owns_below HO.out.rg hb3, tks_of_owns o3⟩)
  have HNN := Lib.hid (And.intro hn7 (And.intro hm7 hn8))
  have hnb : n7 ≤ 10 ∧ n8 ≤ 10 := by have := HSL.out; omega
  clear o3 hb3 HX2 HO HC hmin hcut hn7 hm7 hn8
  obtain ⟨P, hP⟩ : ∃ P, P = playP ⟨s, g, []⟩ (l.take 60) := ⟨_, rfl⟩
  obtain ⟨E, hE⟩ : ∃ E, E = allE s g (l.take 60) := ⟨_, rfl⟩
  have HPL := Lib.hid (gPlay_c s (.slice p7 n7 c7) (.slice q7 m7 d7) g (.slice p8 n8 c8) (.slice t3 k k3) (l.take 60) w3 HX3.out.2.2.2.2.1.nums.1 HX3.out.2.2.2.2.1.nums.2 (by have := HSL.out.1; omega) (by have := HSL.out.2.1; omega) HSL.out.2.2.2.1 (bools_of_owns rfl HX3.out.2.2.2.2.2.1) (by have := HSL.out.2.2.1; omega) HX3.out.2.2.2.2.2.2 (by have := HK.out; omega)
    (fun b off n c e => by injection e with e _ _; exact own_lt HX3.out.2.2.2.2.2.1 _ e) (tks_lt HX3.out.2.2.2.2.2.2))
  unfold PlayQ at HPL
  rw [← hP, ← hE] at HPL
  have HPE := Lib.hid (And.intro hP hE)
  clear hP hE
  obtain ⟨r0, r1, r2⟩ := HX3.out.2.2.1.cells
  obtain ⟨g0, g1, g2, g3⟩ := HX3.out.2.2.2.1.cells
  go_wp2_with fail
  (with_reducible refine HPL.out.mono ?_)
  rintro e w4 ⟨⟨A, rfl, hA⟩, hb4⟩
  have HA := Lib.hid (ansT_of hA)
  have HAL := Lib.hid (ansT_lt hA)
  have HSZ := Lib.hid hb4.size
  obtain ⟨w5, hw5⟩ : ∃ X : World, X = (((w4.alloc (.cells #[.int .i64 A.now, .slice A.pu A.nu A.cu, .slice A.pv A.nv A.cv] 45)).alloc (.cells #[.int .i64 A.d, .int .i64 A.a, .bool A.on, .slice A.pn A.nn A.cn] 24)).alloc (.cells #[.int .i64 0, .slice none 0 0, .slice none 0 0] 45)).alloc (.cells #[.int .i64 0, .int .i64 0, .bool false, .slice none 0 0] 24) := ⟨_, rfl⟩
  have hb5 : Below w4.heap.size w4 w5 := by rw [hw5]; exact below4 _ _ _ _ _
  have hb35 := below_then hb4 hb4.size hb5
  have HX5 := Lib.hid (show GpT W.heap.size now p0 n0 c0 q0 m0 e0 d a on pg ng cg w5 ∧ Below W.heap.size W w5 ∧ RBox w5 z7 s.now (.slice p7 n7 c7) (.slice q7 m7 d7) ∧ GBox w5 z8 g.done g.asked g.on (.slice p8 n8 c8) ∧ OwnR 0 s (.slice p7 n7 c7) (.slice q7 m7 d7) w5 ∧ w5.ownsRow 0 4 1 (.slice p8 n8 c8) g.nd.length (g.nd.map Value.bool) ∧ TksAt w5 (.slice t3 k k3) (l.take 60) from
    ⟨⟨HX3.out.1.1.below hb35, HX3.out.1.2.below hb35⟩, below_then HX3.out.2.1 HX3.out.2.1.size hb35, HX3.out.2.2.1.below hb35, HX3.out.2.2.2.1.below hb35, HX3.out.2.2.2.2.1.below hb35, owns_below HX3.out.2.2.2.2.2.1 hb35, HX3.out.2.2.2.2.2.2.below hb35⟩)
  have HQ5 := Lib.hid (show RBox w5 w4.heap.size A.now (.slice A.pu A.nu A.cu) (.slice A.pv A.nv A.cv) ∧ GBox w5 (w4.heap.size + 1) A.d A.a A.on (.slice A.pn A.nn A.cn) ∧ RBox w5 (w4.heap.size + 2) 0 (.slice none 0 0) (.slice none 0 0) ∧ GBox w5 (w4.heap.size + 3) 0 0 false (.slice none 0 0) ∧ w4.heap.size + 4 = w5.heap.size ∧ w3.heap.size ≤ w4.heap.size by
    rw [hw5]
    refine ⟨(((RBox.new w4 _ _ _).below (below1 _ _)).below (below1 _ _)).below (below1 _ _), ?_, ?_, ?_, by simp, HSZ.out⟩
    · have := ((GBox.new (w4.alloc (.cells #[.int .i64 A.now, .slice A.pu A.nu A.cu, .slice A.pv A.nv A.cv] 45)) A.d A.a A.on (.slice A.pn A.nn A.cn)).below (below1 _ (.cells #[.int .i64 0, .slice none 0 0, .slice none 0 0] 45))).below (below1 _ (.cells #[.int .i64 0, .int .i64 0, .bool false, .slice none 0 0] 24))
      simpa using this
    · have := (RBox.new ((w4.alloc (.cells #[.int .i64 A.now, .slice A.pu A.nu A.cu, .slice A.pv A.nv A.cv] 45)).alloc (.cells #[.int .i64 A.d, .int .i64 A.a, .bool A.on, .slice A.pn A.nn A.cn] 24)) 0 (.slice none 0 0) (.slice none 0 0)).below (below1 _ (.cells #[.int .i64 0, .int .i64 0, .bool false, .slice none 0 0] 24))
      simpa using this
    · have := GBox.new (((w4.alloc (.cells #[.int .i64 A.now, .slice A.pu A.nu A.cu, .slice A.pv A.nv A.cv] 45)).alloc (.cells #[.int .i64 A.d, .int .i64 A.a, .bool A.on, .slice A.pn A.nn A.cn] 24)).alloc (.cells #[.int .i64 0, .slice none 0 0, .slice none 0 0] 45)) 0 0 false (.slice none 0 0)
      simpa using this)
  have HA5 := Lib.hid (HA.out.below hb5)
  have HRR := Lib.hid (right_c s (.slice p7 n7 c7) (.slice q7 m7 d7) w5 HX5.out.2.2.2.2.1.nums.1 HX5.out.2.2.2.2.1.nums.2 (by have := HSL.out.1; omega) (by have := HSL.out.2.1; omega))
  have HW5 := Lib.hid hw5
  obtain ⟨z9, hz9⟩ : ∃ z, z = w4.heap.size := ⟨_, rfl⟩
  have HPP : (∀ x : Addr, p7 = some x → x.block < z9) ∧ (∀ x : Addr, q7 = some x → x.block < z9) ∧ (∀ x : Addr, p8 = some x → x.block < z9) := ⟨fun x e => by have := own_lt HX3.out.2.2.2.2.1.1 x e; have := HSZ.out; omega, fun x e => by have := own_lt HX3.out.2.2.2.2.1.2 x e; have := HSZ.out; omega, fun x e => by have := own_lt HX3.out.2.2.2.2.2.1 x e; have := HSZ.out; omega⟩
  have HGL := Lib.hid (show GpL W z7 z8 z9 p7 q7 p8 A.pu A.pv A.pn A.pl from ⟨by have := HX3.out.1.2.lt; have := HSZ.out; omega, by have := HX3.out.2.2.1.lt; have := HSZ.out; omega, by have := HX3.out.2.2.2.1.lt; have := HSZ.out; omega, HPP.1, HPP.2.1, HPP.2.2, by rw [hz9]; exact HAL.out.1, by rw [hz9]; exact HAL.out.2.1, by rw [hz9]; exact HAL.out.2.2.1, by rw [hz9]; exact HAL.out.2.2.2⟩)
  obtain ⟨r0', r1', r2'⟩ := HX5.out.2.2.1.cells
  clear hA hb4 hb5 hb35 HX3 HPL HA hw5 r0 r1 r2 g0 g1 g2 g3
  rw [HW5.out] at r0' r1' r2'
  go_wp2_with fail
  rw [← HW5.out, ← hz9]
  rw [← hz9] at HQ5
  clear HW5 hz9 HSZ r0' r1' r2'
  (with_reducible refine HRR.out.mono ?_)
  rintro e w6 ⟨rfl, hb6⟩
  have HX6 := Lib.hid (show GpT W.heap.size now p0 n0 c0 q0 m0 e0 d a on pg ng cg w6 ∧ Below W.heap.size W w6 ∧ RBox w6 z7 s.now (.slice p7 n7 c7) (.slice q7 m7 d7) ∧ GBox w6 z8 g.done g.asked g.on (.slice p8 n8 c8) ∧ OwnR 0 s (.slice p7 n7 c7) (.slice q7 m7 d7) w6 ∧ w6.ownsRow 0 4 1 (.slice p8 n8 c8) g.nd.length (g.nd.map Value.bool) ∧ TksAt w6 (.slice t3 k k3) (l.take 60) from
    ⟨⟨HX5.out.1.1.below hb6, HX5.out.1.2.below hb6⟩, below_then HX5.out.2.1 HX5.out.2.1.size hb6, HX5.out.2.2.1.below hb6, HX5.out.2.2.2.1.below hb6, HX5.out.2.2.2.2.1.below hb6, owns_below HX5.out.2.2.2.2.2.1 hb6, HX5.out.2.2.2.2.2.2.below hb6⟩)
  have HQ6 := Lib.hid (show RBox w6 z9 A.now (.slice A.pu A.nu A.cu) (.slice A.pv A.nv A.cv) ∧ GBox w6 (z9 + 1) A.d A.a A.on (.slice A.pn A.nn A.cn) ∧ RBox w6 (z9 + 2) 0 (.slice none 0 0) (.slice none 0 0) ∧ GBox w6 (z9 + 3) 0 0 false (.slice none 0 0) ∧ z9 + 4 ≤ w6.heap.size ∧ (∀ x : Addr, p7 = some x → x.block < z9) ∧ (∀ x : Addr, q7 = some x → x.block < z9) ∧ (∀ x : Addr, p8 = some x → x.block < z9) from
    ⟨HQ5.out.1.below hb6, HQ5.out.2.1.below hb6, HQ5.out.2.2.1.below hb6, HQ5.out.2.2.2.1.below hb6, by have := HQ5.out.2.2.2.2.1; have := hb6.size; omega, HPP.1, HPP.2.1, HPP.2.2⟩)
  clear HPP
  have HA6 := Lib.hid (HA5.out.below hb6)
  clear hb6 HX5 HQ5 HA5 HRR
  obtain ⟨S, hS⟩ : ∃ S, S = resS E P := ⟨_, rfl⟩
  obtain ⟨G, hG⟩ : ∃ G, G = resG E P := ⟨_, rfl⟩
  obtain ⟨L, hL⟩ : ∃ L, L = resL E P := ⟨_, rfl⟩
  have HGB := Lib.hid (show GpB W now p0 n0 c0 q0 m0 e0 d a on pg ng cg s g S G L z7 z8 z9 p7 n7 c7 q7 m7 d7 p8 n8 c8 A.pu A.nu A.cu A.pv A.nv A.cv A.pn A.nn A.cn A.pl A.nl A.cl w6 from
    ⟨HX6.out.1.1, HX6.out.1.2, ⟨HX6.out.2.2.1, HX6.out.2.2.2.2.1.nums.1, HX6.out.2.2.2.2.1.nums.2⟩, ⟨HX6.out.2.2.2.1, bools_of_owns rfl HX6.out.2.2.2.2.2.1⟩, ⟨by rw [hS, ← HA6.out.now]; exact HQ6.out.1, by rw [hS]; exact HA6.out.u, by rw [hS]; exact HA6.out.v⟩, ⟨by rw [hG, ← HA6.out.d, ← HA6.out.a, ← HA6.out.on]; exact HQ6.out.2.1, by rw [hG]; exact HA6.out.n⟩, by rw [hL]; exact HA6.out.l, HX6.out.2.1⟩)
  have HXE := Lib.hid HA6.out.x
  have HLN := Lib.hid (show S.ns.length ≤ 9223372036854775807 ∧ S.os.length ≤ 9223372036854775807 ∧ G.nd.length ≤ 9223372036854775807 by rw [hS, hG]; exact ⟨HA6.out.l1, HA6.out.l2, HA6.out.l3⟩)
  have HQ7 := Lib.hid (show RBox w6 (z9 + 2) 0 (.slice none 0 0) (.slice none 0 0) ∧ GBox w6 (z9 + 3) 0 0 false (.slice none 0 0) ∧ z9 + 4 ≤ w6.heap.size ∧ (∀ x : Addr, p7 = some x → x.block < z9) ∧ (∀ x : Addr, q7 = some x → x.block < z9) ∧ (∀ x : Addr, p8 = some x → x.block < z9) from ⟨HQ6.out.2.2.1, HQ6.out.2.2.2.1, HQ6.out.2.2.2.2⟩)
  have HRS := Lib.hid (And.intro hS (And.intro hG hL))
  have HTK := Lib.hid HX6.out.2.2.2.2.2.2
  clear HA6 HQ6 HX6 hS hG hL
  obtain ⟨R, hR⟩ : ∃ R, R = mayB s.now s.ns s.os := ⟨_, rfl⟩
  rw [← hR]
  have HR := Lib.hid hR
  clear hR
  go_upto_if 39 with fail
  go_cut [15, 16] (fun s15 s16 wc => ∃ (p13 : Option Addr) (n13 c13 : Nat) (q13 : Option Addr) (m13 d13 : Nat) (p14 : Option Addr) (n14 c14 : Nat) (p15 : Option Addr) (n15 c15 : Nat), s15 = .slice p15 n15 c15 ∧ s16 = .int .i64 E ∧ Hid (GpF W now p0 n0 c0 q0 m0 e0 d a on pg ng cg s g S G L z7 z8 z9 p7 n7 c7 q7 m7 d7 p8 n8 c8 A.pu A.nu A.cu A.pv A.nv A.cv A.pn A.nn A.cn A.pl A.nl A.cl p13 n13 c13 q13 m13 d13 p14 n14 c14 p15 n15 c15 wc))
  case first => as_aux_lemma =>
    have HZR := Lib.hid (fun (e : Int) (he : E = e) (hne : e ≠ 0) (w : World) (hb : Below w6.heap.size w6 w) => (show GpF W now p0 n0 c0 q0 m0 e0 d a on pg ng cg s g S G L z7 z8 z9 p7 n7 c7 q7 m7 d7 p8 n8 c8 A.pu A.nu A.cu A.pv A.nv A.cv A.pn A.nn A.cn A.pl A.nl A.cl none 0 0 none 0 0 none 0 0 none 0 0 w from
      gp_zero (HGB.out.below hb) (HRS.out.1.trans (if_neg (by rw [he]; exact hne))) (HRS.out.2.1.trans (if_neg (by rw [he]; exact hne))) (HRS.out.2.2.trans (if_neg (by rw [he]; exact hne))) (HQ7.out.1.below hb) (HQ7.out.2.1.below hb)))
    obtain ⟨r0, r1, r2⟩ := HGB.out.r7.box.cells
    obtain ⟨g0, g1, g2, g3⟩ := HGB.out.g8.box.cells
    have HEA : Hid (E = if R = false then 210 else if mayG g = false then 220 else if s.ns.length ≠ g.nd.length then 220 else playE ⟨s, g, []⟩ (l.take 60)) := Lib.hid (by rw [HPE.out.2, HR.out]; rfl)
    cases R with
    | false =>
      have hE : E = 210 := HEA.out.trans (if_pos rfl)
      have HZ := Lib.hid (HZR.out 210 hE (by decide) w6 (Below.refl _ _))
      go_wp2
      go_meet
      exact ⟨none, 0, 0, none, 0, 0, none, 0, 0, none, 0, 0, rfl, by rw [hE], HZ⟩
    | true =>
      have HE1 := Lib.hid (HEA.out.trans (if_neg (by decide)))
      have HGR := Lib.hid (rright_c g (.slice p8 n8 c8) w6 HGB.out.g8.row (by have := HSL.out; omega))
      obtain ⟨R2, hR2⟩ : ∃ R, R = mayG g := ⟨_, rfl⟩
      rw [← hR2] at HGR HE1
      have HR2 := Lib.hid hR2
      clear HEA hR2
      go_wp2_with fail
      (with_reducible refine HGR.out.mono ?_)
      rintro e w7 ⟨rfl, hb7⟩
      have HB7 := Lib.hid hb7
      have HG7 := Lib.hid (HGB.out.below hb7)
      clear HGR r0 r1 r2 g0 g1 g2 g3 hb7
      obtain ⟨r0, r1, r2⟩ := HG7.out.r7.box.cells
      obtain ⟨g0, g1, g2, g3⟩ := HG7.out.g8.box.cells
      cases R2 with
      | false =>
        have hE : E = 220 := HE1.out.trans (if_pos rfl)
        have HZ := Lib.hid (HZR.out 220 hE (by decide) w7 HB7.out)
        go_wp2
        go_meet
        exact ⟨none, 0, 0, none, 0, 0, none, 0, 0, none, 0, 0, rfl, by rw [hE], HZ⟩
      | true =>
        have HE2 := Lib.hid (HE1.out.trans (if_neg (by decide)))
        clear HE1
        by_cases hnn : n7 = n8
        · subst hnn
          have HGS := Lib.hid ((good_iff s).1 HR.out.symm)
          have HGG := Lib.hid ((goodG_iff g).1 HR2.out.symm)
          have hm7 : m7 = n7 := by have h1 := HNN.out; have h2 := HGS.out.lo; omega
          subst hm7
          have hE : E = playE ⟨s, g, []⟩ (l.take 60) := HE2.out.trans (if_neg (by have := HNN.out; omega))
          have HPC := Lib.hid (rplay_c (fun q => q = z9 + 2 ∨ q = z9 + 3) s g p7 c7 q7 d7 p8 c8 m7 (.slice t3 k k3) (l.take 60) HGS.out HGG.out (by have := HNN.out; omega) (by have := HNN.out; omega) w7 HG7.out.r7.nu HG7.out.r7.nv HG7.out.g8.row (HTK.out.below HB7.out) (by have := HK.out; omega) (fun x e => by have := HQ7.out.2.2.2.1 x e; omega) (fun x e => by have := HQ7.out.2.2.2.2.1 x e; omega) (fun x e => by have := HQ7.out.2.2.2.2.2 x e; omega))
          unfold RPlayQ at HPC
          rw [← hE, ← HPE.out.1] at HPC
          clear hE HE2
          go_wp2_with fail
          (with_reducible refine HPC.out.mono ?_)
          rintro e w8 ⟨hq, hb8⟩
          have hb68 := below_then HB7.out HB7.out.size hb8
          have hr8 := HQ7.out.1.below hb68
          have hg8 := HQ7.out.2.1.below hb68
          obtain ⟨d0, d1, d2⟩ := hr8.cells
          have v0 := hr8.marks 0
          have v1 := hr8.marks 1
          have v2 := hr8.marks 2
          obtain ⟨y0, y1, y2, y3⟩ := hg8.cells
          have x0 := hg8.marks 0
          have x1 := hg8.marks 1
          have x2 := hg8.marks 2
          have x3 := hg8.marks 3
          have HB68 := Lib.hid hb68
          rcases hq with ⟨hne, rfl⟩ | ⟨h0, p1, c1, p2, c2, p3, c3, pl, cl, rfl, k1, k2, k3', k4, f1, f2, f3⟩
          · obtain ⟨b1, b2, hk⟩ := gp_store hr8 hg8 ⟨0, [], []⟩ ⟨0, 0, false, []⟩ none 0 0 none 0 0 none 0 0
            have HZ := Lib.hid (gp_zero (gp_put (HGB.out.below hb68) HGL.out hk) (HRS.out.1.trans (if_neg hne)) (HRS.out.2.1.trans (if_neg hne)) (HRS.out.2.2.trans (if_neg hne)) b1 b2)
            clear b1 b2 hk hr8 hg8 hne hb8 hb68
            go_wp2
            go_meet
            exact ⟨none, 0, 0, none, 0, 0, none, 0, 0, none, 0, 0, rfl, rfl, HZ⟩
          · obtain ⟨b1, b2, hk⟩ := gp_store hr8 hg8 P.s P.g p1 m7 c1 p2 m7 c2 p3 m7 c3
            have eS : S = P.s := HRS.out.1.trans (if_pos h0)
            have eG : G = P.g := HRS.out.2.1.trans (if_pos h0)
            have eL : L = P.ls := HRS.out.2.2.trans (if_pos h0)
            have hz7 : z9 + 4 ≤ w7.heap.size := by have := HQ7.out.2.2.1; have := HB7.out.size; omega
            have hf : ∀ {p : Option Addr}, FarP (fun q => q = z9 + 2 ∨ q = z9 + 3) w7.heap.size p → ∀ x : Addr, p = some x → ¬ (x.block = z9 + 2 ∨ x.block = z9 + 3) := fun h x e => by rcases h x e with h | h; exact h.2; omega
            have hbb := gp_put (HGB.out.below hb68) HGL.out hk
            have hkr := hk.row k4 (fun q hq e => by have := (k4.lt q hq).1; omega)
            have n1 := nums_keeps k1 hk (hf f1)
            have n2 := nums_keeps k2 hk (hf f2)
            have n3 := bools_keepS k3' (hf f3) hk
            have n4 := nums_of_owns rfl hkr
            have HZ := Lib.hid (show GpF W now p0 n0 c0 q0 m0 e0 d a on pg ng cg s g S G L z7 z8 z9 p7 m7 c7 q7 m7 d7 p8 m7 c8 A.pu A.nu A.cu A.pv A.nv A.cv A.pn A.nn A.cn A.pl A.nl A.cl p1 m7 c1 p2 m7 c2 p3 m7 c3 pl P.ls.length cl _ from ⟨hbb, by rw [eS]; exact ⟨b1, n1, n2⟩, by rw [eG]; exact ⟨b2, n3⟩, by rw [eL]; exact n4⟩)
            have H0 := Lib.hid h0
            clear b1 b2 hk hr8 hg8 eS eG eL hz7 hf hbb hkr n1 n2 n3 n4 k1 k2 k3' k4 f1 f2 f3 h0 hb8 hb68
            go_wp2
            go_meet
            exact ⟨_, _, _, _, _, _, _, _, _, _, _, _, rfl, by rw [H0.out], HZ⟩
        · have hE : E = 220 := HE2.out.trans (if_pos (by have := HNN.out; omega))
          have HZ := Lib.hid (HZR.out 220 hE (by decide) w7 HB7.out)
          have hnn' : ((n7 : Int) == (n8 : Int)) = false := by rw [beq_eq_false_iff_ne]; omega
          have hnn2 : ¬ (n7 : Int) = (n8 : Int) := by omega
          go_wp2
          go_meet
          exact ⟨none, 0, 0, none, 0, 0, none, 0, 0, none, 0, 0, rfl, by rw [hE], HZ⟩
  case rest =>
    obtain ⟨p13, n13, c13, q13, m13, d13, p14, n14, c14, p15, n15, c15, rfl, rfl, HF⟩ := hcut

    have HSS := Lib.hid (show sameB S S = true ∧ sameB s s = true ∧ gsameB G G = true ∧ gsameB g g = true ∧ True from ⟨by unfold sameB; simp, by unfold sameB; simp, (gsameB_iff _ _).2 rfl, (gsameB_iff _ _).2 rfl, trivial⟩)
    have HLL := Lib.hid (show L.length ≤ 9223372036854775807 by
      have h1 := HRS.out.2.2
      have h2 := play_ls ⟨s, g, []⟩ (l.take 60)
      rw [← HPE.out.1] at h2
      have h3 := HK.out
      rw [h1]
      unfold resL
      split
      · simp only [List.length_nil] at h2; omega
      · simp)
    clear HGB HQ7 HRS HR HTK HPE
    go_upto_region 14 with fail
    rw [HXE.out]
    refine wpTwo_begin (T := fun w' => (RBox w' W.heap.size now (.slice p0 n0 c0) (.slice q0 m0 e0) ∧ GBox w' (W.heap.size + 1) d a on (.slice pg ng cg)) ∧ (RBox w' z7 s.now (.slice p7 n7 c7) (.slice q7 m7 d7) ∧ GBox w' z8 g.done g.asked g.on (.slice p8 n8 c8)) ∧ (RBox w' z9 S.now (.slice A.pu A.nu A.cu) (.slice A.pv A.nv A.cv) ∧ GBox w' (z9 + 1) G.done G.asked G.on (.slice A.pn A.nn A.cn)) ∧ RBox w' (z9 + 2) S.now (.slice p13 n13 c13) (.slice q13 m13 d13) ∧ GBox w' (z9 + 3) G.done G.asked G.on (.slice p14 n14 c14)) (S := fun _ => True) (late := fun _ => false) (by kernel_rfl) ?_
    obtain ⟨X0, hX⟩ : ∃ Y : World, Y = wc.drew := ⟨_, rfl⟩
    rw [← hX]
    have HF0 := Lib.hid (HF.out.below' (show Below wc.heap.size wc X0 by rw [hX]; exact (Below.refl _ _).drew))
    clear hX HF
    have hT0 := HF0.out.boxes
    refine wpTwo_takeT (i := 0) (v := .int .i64 E) rfl (by kernel_rfl) (by kernel_rfl) (by kernel_rfl) (fun _ _ _ h => h) ⟨by rfl, ?_⟩ hT0 ?_
    · rintro w ⟨⟨h3, h4⟩, ⟨h7, h8⟩, ⟨h9, h10⟩, h13, h14⟩
      go_simp
    (try simp only [Act.put, List.getElem_toArray, List.getElem_cons_zero, List.setIfInBounds_toArray, List.set_cons_succ, List.set_cons_zero])
    refine wpTwo_takeT (i := 1) (v := .int .i64 E) rfl (by kernel_rfl) (by kernel_rfl) (by kernel_rfl) (fun _ _ _ h => h) ⟨by rfl, ?_⟩ hT0 ?_
    · rintro w ⟨⟨h3, h4⟩, ⟨h7, h8⟩, ⟨h9, h10⟩, h13, h14⟩
      go_simp
    (try simp only [Act.put, List.getElem_toArray, List.getElem_cons_succ, List.getElem_cons_zero, List.setIfInBounds_toArray, List.set_cons_succ, List.set_cons_zero])
    refine wpTwo_takeT (i := 2) (v := .bool true) rfl (by kernel_rfl) (by kernel_rfl) (by kernel_rfl) (fun _ _ _ h => h) ⟨by rfl, ?_⟩ hT0 ?_
    · rintro w ⟨⟨h3, h4⟩, ⟨h7, h8⟩, ⟨h9, h10⟩, h13, h14⟩
      go_simp
    (try simp only [Act.put, List.getElem_toArray, List.getElem_cons_succ, List.getElem_cons_zero, List.setIfInBounds_toArray, List.set_cons_succ, List.set_cons_zero])
    refine wpTwo_takeT (i := 3) (v := .bool true) rfl (by kernel_rfl) (by kernel_rfl) (by kernel_rfl) (fun _ _ _ h => h) ⟨by rfl, ?_⟩ hT0 ?_
    · rintro w ⟨⟨h3, h4⟩, ⟨h7, h8⟩, ⟨h9, h10⟩, h13, h14⟩
      go_simp
    (try simp only [Act.put, List.getElem_toArray, List.getElem_cons_succ, List.getElem_cons_zero, List.setIfInBounds_toArray, List.set_cons_succ, List.set_cons_zero])
    refine wpTwo_takeT (i := 4) (v := .agg #[.int .i64 S.now, .slice A.pu A.nu A.cu, .slice A.pv A.nv A.cv]) rfl (by kernel_rfl) (by kernel_rfl) (by kernel_rfl) (fun _ _ _ h => h) ⟨by rfl, ?_⟩ hT0 ?_
    · rintro w ⟨⟨h3, h4⟩, ⟨h7, h8⟩, ⟨h9, h10⟩, h13, h14⟩
      obtain ⟨j0, j1, j2⟩ := h9.cells
      go_simp
    (try simp only [Act.put, List.getElem_toArray, List.getElem_cons_succ, List.getElem_cons_zero, List.setIfInBounds_toArray, List.set_cons_succ, List.set_cons_zero])
    refine wpTwo_takeT (i := 5) (v := .agg #[.int .i64 S.now, .slice p13 n13 c13, .slice q13 m13 d13]) rfl (by kernel_rfl) (by kernel_rfl) (by kernel_rfl) (fun _ _ _ h => h) ⟨by rfl, ?_⟩ hT0 ?_
    · rintro w ⟨⟨h3, h4⟩, ⟨h7, h8⟩, ⟨h9, h10⟩, h13, h14⟩
      obtain ⟨j0, j1, j2⟩ := h13.cells
      go_simp
    (try simp only [Act.put, List.getElem_toArray, List.getElem_cons_succ, List.getElem_cons_zero, List.setIfInBounds_toArray, List.set_cons_succ, List.set_cons_zero])
    refine wpTwo_ready (rs := [6]) (by kernel_rfl) (by simp) ?_
    refine (AllTwo.cons rfl (fun K hK => ?_) AllTwo.nil)
    go_simp
    have hc := rSame_c S S (.slice A.pu A.nu A.cu) (.slice A.pv A.nv A.cv) (.slice p13 n13 c13) (.slice q13 m13 d13) X0 HF0.out.r9.nu HF0.out.r9.nv HF0.out.r13.nu HF0.out.r13.nv HLN.out.1 HLN.out.2.1 HLN.out.1 HLN.out.2.1
    rw [HSS.out.1] at hc
    (with_reducible refine hc.mono ?_)
    rintro e X1 ⟨rfl, hb⟩
    have HF1 := Lib.hid (HF0.out.below' hb)
    have hT1 := HF1.out.boxes
    clear hb HF0 hT0 hc
    go_wp2_with fail
    refine hK.out _ _ ⟨hT1, fun _ _ => trivial⟩ ?_
    clear hK K
    (try simp only [Act.put, List.getElem_toArray, List.getElem_cons_succ, List.getElem_cons_zero, List.setIfInBounds_toArray, List.set_cons_succ, List.set_cons_zero])
    refine wpTwo_takeT (i := 7) (v := .bool true) rfl (by kernel_rfl) (by kernel_rfl) (by kernel_rfl) (fun _ _ _ h => h) ⟨by rfl, ?_⟩ hT1 ?_
    · rintro w ⟨⟨h3, h4⟩, ⟨h7, h8⟩, ⟨h9, h10⟩, h13, h14⟩
      go_simp
    (try simp only [Act.put, List.getElem_toArray, List.getElem_cons_succ, List.getElem_cons_zero, List.setIfInBounds_toArray, List.set_cons_succ, List.set_cons_zero])
    refine wpTwo_takeT (i := 8) (v := .bool true) rfl (by kernel_rfl) (by kernel_rfl) (by kernel_rfl) (fun _ _ _ h => h) ⟨by rfl, ?_⟩ hT1 ?_
    · rintro w ⟨⟨h3, h4⟩, ⟨h7, h8⟩, ⟨h9, h10⟩, h13, h14⟩
      go_simp
    (try simp only [Act.put, List.getElem_toArray, List.getElem_cons_succ, List.getElem_cons_zero, List.setIfInBounds_toArray, List.set_cons_succ, List.set_cons_zero])
    refine wpTwo_takeT (i := 9) (v := .agg #[.int .i64 G.done, .int .i64 G.asked, .bool G.on, .slice A.pn A.nn A.cn]) rfl (by kernel_rfl) (by kernel_rfl) (by kernel_rfl) (fun _ _ _ h => h) ⟨by rfl, ?_⟩ hT1 ?_
    · rintro w ⟨⟨h3, h4⟩, ⟨h7, h8⟩, ⟨h9, h10⟩, h13, h14⟩
      obtain ⟨j0, j1, j2, j3⟩ := h10.cells
      go_simp
    (try simp only [Act.put, List.getElem_toArray, List.getElem_cons_succ, List.getElem_cons_zero, List.setIfInBounds_toArray, List.set_cons_succ, List.set_cons_zero])
    refine wpTwo_takeT (i := 10) (v := .agg #[.int .i64 G.done, .int .i64 G.asked, .bool G.on, .slice p14 n14 c14]) rfl (by kernel_rfl) (by kernel_rfl) (by kernel_rfl) (fun _ _ _ h => h) ⟨by rfl, ?_⟩ hT1 ?_
    · rintro w ⟨⟨h3, h4⟩, ⟨h7, h8⟩, ⟨h9, h10⟩, h13, h14⟩
      obtain ⟨j0, j1, j2, j3⟩ := h14.cells
      go_simp
    (try simp only [Act.put, List.getElem_toArray, List.getElem_cons_succ, List.getElem_cons_zero, List.setIfInBounds_toArray, List.set_cons_succ, List.set_cons_zero])
    refine wpTwo_ready (rs := [11]) (by kernel_rfl) (by simp) ?_
    refine (AllTwo.cons rfl (fun K hK => ?_) AllTwo.nil)
    go_simp
    have hc := rgsame_c G G (.slice A.pn A.nn A.cn) (.slice p14 n14 c14) X1 HF1.out.g10.row HF1.out.g14.row HLN.out.2.2 HLN.out.2.2
    rw [HSS.out.2.2.1] at hc
    (with_reducible refine hc.mono ?_)
    rintro e X2 ⟨rfl, hb⟩
    have HF2 := Lib.hid (HF1.out.below' hb)
    have hT2 := HF2.out.boxes
    clear hb HF1 hT1 hc
    go_wp2_with fail
    refine hK.out _ _ ⟨hT2, fun _ _ => trivial⟩ ?_
    clear hK K
    (try simp only [Act.put, List.getElem_toArray, List.getElem_cons_succ, List.getElem_cons_zero, List.setIfInBounds_toArray, List.set_cons_succ, List.set_cons_zero])
    refine wpTwo_takeT (i := 12) (v := .bool true) rfl (by kernel_rfl) (by kernel_rfl) (by kernel_rfl) (fun _ _ _ h => h) ⟨by rfl, ?_⟩ hT2 ?_
    · rintro w ⟨⟨h3, h4⟩, ⟨h7, h8⟩, ⟨h9, h10⟩, h13, h14⟩
      go_simp
    (try simp only [Act.put, List.getElem_toArray, List.getElem_cons_succ, List.getElem_cons_zero, List.setIfInBounds_toArray, List.set_cons_succ, List.set_cons_zero])
    refine wpTwo_takeT (i := 13) (v := .bool true) rfl (by kernel_rfl) (by kernel_rfl) (by kernel_rfl) (fun _ _ _ h => h) ⟨by rfl, ?_⟩ hT2 ?_
    · rintro w ⟨⟨h3, h4⟩, ⟨h7, h8⟩, ⟨h9, h10⟩, h13, h14⟩
      go_simp
    (try simp only [Act.put, List.getElem_toArray, List.getElem_cons_succ, List.getElem_cons_zero, List.setIfInBounds_toArray, List.set_cons_succ, List.set_cons_zero])
    refine wpTwo_takeT (i := 14) (v := .slice A.pl A.nl A.cl) rfl (by kernel_rfl) (by kernel_rfl) (by kernel_rfl) (fun _ _ _ h => h) ⟨by rfl, ?_⟩ hT2 ?_
    · rintro w ⟨⟨h3, h4⟩, ⟨h7, h8⟩, ⟨h9, h10⟩, h13, h14⟩
      go_simp
    (try simp only [Act.put, List.getElem_toArray, List.getElem_cons_succ, List.getElem_cons_zero, List.setIfInBounds_toArray, List.set_cons_succ, List.set_cons_zero])
    refine wpTwo_takeT (i := 15) (v := .slice p15 n15 c15) rfl (by kernel_rfl) (by kernel_rfl) (by kernel_rfl) (fun _ _ _ h => h) ⟨by rfl, ?_⟩ hT2 ?_
    · rintro w ⟨⟨h3, h4⟩, ⟨h7, h8⟩, ⟨h9, h10⟩, h13, h14⟩
      go_simp
    (try simp only [Act.put, List.getElem_toArray, List.getElem_cons_succ, List.getElem_cons_zero, List.setIfInBounds_toArray, List.set_cons_succ, List.set_cons_zero])
    refine wpTwo_ready (rs := [16]) (by kernel_rfl) (by simp) ?_
    refine (AllTwo.cons rfl (fun K hK => ?_) AllTwo.nil)
    go_simp
    have hc := equalI_c (.slice A.pl A.nl A.cl) (.slice p15 n15 c15) L L X2 HF2.out.l11 HF2.out.l15 HLL.out HLL.out
    rw [decide_eq_true (rfl : L = L)] at hc
    (with_reducible refine hc.mono ?_)
    rintro e X3 ⟨rfl, hb⟩
    have HF3 := Lib.hid (HF2.out.below' hb)
    have hT3 := HF3.out.boxes
    clear hb HF2 hT2 hc
    go_wp2_with fail
    refine hK.out _ _ ⟨hT3, fun _ _ => trivial⟩ ?_
    clear hK K
    (try simp only [Act.put, List.getElem_toArray, List.getElem_cons_succ, List.getElem_cons_zero, List.setIfInBounds_toArray, List.set_cons_succ, List.set_cons_zero])
    refine wpTwo_takeT (i := 17) (v := .bool true) rfl (by kernel_rfl) (by kernel_rfl) (by kernel_rfl) (fun _ _ _ h => h) ⟨by rfl, ?_⟩ hT3 ?_
    · rintro w ⟨⟨h3, h4⟩, ⟨h7, h8⟩, ⟨h9, h10⟩, h13, h14⟩
      go_simp
    (try simp only [Act.put, List.getElem_toArray, List.getElem_cons_succ, List.getElem_cons_zero, List.setIfInBounds_toArray, List.set_cons_succ, List.set_cons_zero])
    refine wpTwo_takeT (i := 18) (v := .bool true) rfl (by kernel_rfl) (by kernel_rfl) (by kernel_rfl) (fun _ _ _ h => h) ⟨by rfl, ?_⟩ hT3 ?_
    · rintro w ⟨⟨h3, h4⟩, ⟨h7, h8⟩, ⟨h9, h10⟩, h13, h14⟩
      go_simp
    (try simp only [Act.put, List.getElem_toArray, List.getElem_cons_succ, List.getElem_cons_zero, List.setIfInBounds_toArray, List.set_cons_succ, List.set_cons_zero])
    refine wpTwo_takeT (i := 19) (v := .agg #[.int .i64 s.now, .slice p7 n7 c7, .slice q7 m7 d7]) rfl (by kernel_rfl) (by kernel_rfl) (by kernel_rfl) (fun _ _ _ h => h) ⟨by rfl, ?_⟩ hT3 ?_
    · rintro w ⟨⟨h3, h4⟩, ⟨h7, h8⟩, ⟨h9, h10⟩, h13, h14⟩
      obtain ⟨j0, j1, j2⟩ := h7.cells
      go_simp
    (try simp only [Act.put, List.getElem_toArray, List.getElem_cons_succ, List.getElem_cons_zero, List.setIfInBounds_toArray, List.set_cons_succ, List.set_cons_zero])
    refine wpTwo_takeT (i := 20) (v := .agg #[.int .i64 now, .slice p0 n0 c0, .slice q0 m0 e0]) rfl (by kernel_rfl) (by kernel_rfl) (by kernel_rfl) (fun _ _ _ h => h) ⟨by rfl, ?_⟩ hT3 ?_
    · rintro w ⟨⟨h3, h4⟩, ⟨h7, h8⟩, ⟨h9, h10⟩, h13, h14⟩
      obtain ⟨j0, j1, j2⟩ := h3.cells
      go_simp
    (try simp only [Act.put, List.getElem_toArray, List.getElem_cons_succ, List.getElem_cons_zero, List.setIfInBounds_toArray, List.set_cons_succ, List.set_cons_zero])
    refine wpTwo_ready (rs := [21]) (by kernel_rfl) (by simp) ?_
    refine (AllTwo.cons rfl (fun K hK => ?_) AllTwo.nil)
    go_simp
    have hc := HCR.out X3 HF3.out.b
    (with_reducible refine hc.mono ?_)
    rintro e X4 ⟨⟨a1, b1, a2, b2, rfl, ho⟩, hb⟩
    have HF4 := Lib.hid (HF3.out.below' hb)
    have hT4 := HF4.out.boxes
    clear hb HF3 hT3 hc
    go_wp2_with fail
    refine hK.out _ _ ⟨hT4, fun _ _ => trivial⟩ ?_
    clear hK K
    (try simp only [Act.put, List.getElem_toArray, List.getElem_cons_succ, List.getElem_cons_zero, List.setIfInBounds_toArray, List.set_cons_succ, List.set_cons_zero])
    refine wpTwo_ready (rs := [22]) (by kernel_rfl) (by simp) ?_
    refine (AllTwo.cons rfl (fun K hK => ?_) AllTwo.nil)
    go_simp
    have hc := rSame_c s s (.slice p7 n7 c7) (.slice q7 m7 d7) (.slice a1 s.ns.length b1) (.slice a2 s.os.length b2) X4 HF4.out.r7.nu HF4.out.r7.nv ho.nums.1 ho.nums.2 (by have := HSL.out; omega) (by have := HSL.out; omega) (by have := HSL.out; omega) (by have := HSL.out; omega)
    rw [HSS.out.2.1] at hc
    (with_reducible refine hc.mono ?_)
    rintro e X5 ⟨rfl, hb⟩
    have HF5 := Lib.hid (HF4.out.below' hb)
    have hT5 := HF5.out.boxes
    clear hb HF4 hT4 hc
    clear ho
    go_wp2_with fail
    refine hK.out _ _ ⟨hT5, fun _ _ => trivial⟩ ?_
    clear hK K
    (try simp only [Act.put, List.getElem_toArray, List.getElem_cons_succ, List.getElem_cons_zero, List.setIfInBounds_toArray, List.set_cons_succ, List.set_cons_zero])
    refine wpTwo_takeT (i := 23) (v := .bool true) rfl (by kernel_rfl) (by kernel_rfl) (by kernel_rfl) (fun _ _ _ h => h) ⟨by rfl, ?_⟩ hT5 ?_
    · rintro w ⟨⟨h3, h4⟩, ⟨h7, h8⟩, ⟨h9, h10⟩, h13, h14⟩
      go_simp
    (try simp only [Act.put, List.getElem_toArray, List.getElem_cons_succ, List.getElem_cons_zero, List.setIfInBounds_toArray, List.set_cons_succ, List.set_cons_zero])
    refine wpTwo_takeT (i := 24) (v := .bool true) rfl (by kernel_rfl) (by kernel_rfl) (by kernel_rfl) (fun _ _ _ h => h) ⟨by rfl, ?_⟩ hT5 ?_
    · rintro w ⟨⟨h3, h4⟩, ⟨h7, h8⟩, ⟨h9, h10⟩, h13, h14⟩
      go_simp
    (try simp only [Act.put, List.getElem_toArray, List.getElem_cons_succ, List.getElem_cons_zero, List.setIfInBounds_toArray, List.set_cons_succ, List.set_cons_zero])
    refine wpTwo_takeT (i := 25) (v := .agg #[.int .i64 g.done, .int .i64 g.asked, .bool g.on, .slice p8 n8 c8]) rfl (by kernel_rfl) (by kernel_rfl) (by kernel_rfl) (fun _ _ _ h => h) ⟨by rfl, ?_⟩ hT5 ?_
    · rintro w ⟨⟨h3, h4⟩, ⟨h7, h8⟩, ⟨h9, h10⟩, h13, h14⟩
      obtain ⟨j0, j1, j2, j3⟩ := h8.cells
      go_simp
    (try simp only [Act.put, List.getElem_toArray, List.getElem_cons_succ, List.getElem_cons_zero, List.setIfInBounds_toArray, List.set_cons_succ, List.set_cons_zero])
    refine wpTwo_takeT (i := 26) (v := .agg #[.int .i64 d, .int .i64 a, .bool on, .slice pg ng cg]) rfl (by kernel_rfl) (by kernel_rfl) (by kernel_rfl) (fun _ _ _ h => h) ⟨by rfl, ?_⟩ hT5 ?_
    · rintro w ⟨⟨h3, h4⟩, ⟨h7, h8⟩, ⟨h9, h10⟩, h13, h14⟩
      obtain ⟨j0, j1, j2, j3⟩ := h4.cells
      go_simp
    (try simp only [Act.put, List.getElem_toArray, List.getElem_cons_succ, List.getElem_cons_zero, List.setIfInBounds_toArray, List.set_cons_succ, List.set_cons_zero])
    refine wpTwo_ready (rs := [27]) (by kernel_rfl) (by simp) ?_
    refine (AllTwo.cons rfl (fun K hK => ?_) AllTwo.nil)
    go_simp
    have hc := HCG.out X5 HF5.out.b
    (with_reducible refine hc.mono ?_)
    rintro e X6 ⟨⟨a3, b3, rfl, ho⟩, hb⟩
    have HF6 := Lib.hid (HF5.out.below' hb)
    have hT6 := HF6.out.boxes
    clear hb HF5 hT5 hc
    go_wp2_with fail
    refine hK.out _ _ ⟨hT6, fun _ _ => trivial⟩ ?_
    clear hK K
    (try simp only [Act.put, List.getElem_toArray, List.getElem_cons_succ, List.getElem_cons_zero, List.setIfInBounds_toArray, List.set_cons_succ, List.set_cons_zero])
    refine wpTwo_ready (rs := [28]) (by kernel_rfl) (by simp) ?_
    refine (AllTwo.cons rfl (fun K hK => ?_) AllTwo.nil)
    go_simp
    have hc := rgsame_c g g (.slice p8 n8 c8) (.slice a3 g.nd.length b3) X6 HF6.out.g8.row (bools_of_owns rfl ho) (by have := HSL.out; omega) (by have := HSL.out; omega)
    rw [HSS.out.2.2.2.1] at hc
    (with_reducible refine hc.mono ?_)
    rintro e X7 ⟨rfl, hb⟩
    have HF7 := Lib.hid (HF6.out.below' hb)
    have hT7 := HF7.out.boxes
    clear hb HF6 hT6 hc
    clear ho
    go_wp2_with fail
    refine hK.out _ _ ⟨hT7, fun _ _ => trivial⟩ ?_
    clear hK K
    (try simp only [Act.put, List.getElem_toArray, List.getElem_cons_succ, List.getElem_cons_zero, List.setIfInBounds_toArray, List.set_cons_succ, List.set_cons_zero])
    refine wpTwo_takeT (i := 29) (v := .bool true) rfl (by kernel_rfl) (by kernel_rfl) (by kernel_rfl) (fun _ _ _ h => h) ⟨by rfl, ?_⟩ hT7 ?_
    · rintro w ⟨⟨h3, h4⟩, ⟨h7, h8⟩, ⟨h9, h10⟩, h13, h14⟩
      go_simp
    (try simp only [Act.put, List.getElem_toArray, List.getElem_cons_succ, List.getElem_cons_zero, List.setIfInBounds_toArray, List.set_cons_succ, List.set_cons_zero])
    refine wpTwo_takeT (i := 30) (v := .bool true) rfl (by kernel_rfl) (by kernel_rfl) (by kernel_rfl) (fun _ _ _ h => h) ⟨by rfl, ?_⟩ hT7 ?_
    · rintro w ⟨⟨h3, h4⟩, ⟨h7, h8⟩, ⟨h9, h10⟩, h13, h14⟩
      go_simp
    (try simp only [Act.put, List.getElem_toArray, List.getElem_cons_succ, List.getElem_cons_zero, List.setIfInBounds_toArray, List.set_cons_succ, List.set_cons_zero])
    refine wpTwo_end (by kernel_rfl) ?_ _
    go_wp2
    go_ret
    exact ⟨rfl, HF7.out.b⟩

end Go.Proofs.Ytdmcijfjnegcgaa
namespace Go.Proofs.Ytdmcijfjnegcgaa
open Go.RowKit Go.Shelf
open Go.ChangeShapes Go.WideShapes Go.ChangeAt Go.Deep
open Go.ChangeMaps (open_string shut_string)

set_option maxRecDepth 100000 in
theorem gracePlays_lifted (os : Os) (started : os.Started) (H : Type) (enc : TypeId × Value → H) :
    ReturnsInHanded {} Try.checked os 4 .any (Rows.gracePlaysSpec.pre6 enc Try.prog Try.f4 Rows.gracePlaysRow.domain false) (Rows.gracePlaysSpec.post enc Try.prog Try.f4 false true false false) := by
  refine returnsInHanded_of_change (C := Try.checked) own started (by kernel_rfl) Try.func4
    (ChangeSpec.witness6 (enc := enc) (C := Try.checked) false ⟨#[], #[.agg #[.int .i64 0, .slice none 0 0, .slice none 0 0], .agg #[.int .i64 0, .int .i64 0, .bool false, .slice none 0 0], .slice none 0 0], []⟩ 8 (by kernel_rfl) (by kernel_rfl) (by kernel_rfl) (by kernel_rfl)) ?_
  intro W base args ds gs before hval0 hW hcnd _
  have hval : ∀ (j : Nat) t v, Try.f4.params[j]? = some t → args[j]? = some v → Value.okWide Try.prog W .any base t v := hval0
  have hW' := hW
  obtain ⟨p, q, hA0, hV, rfl, hfz, hnd⟩ := hW
  have hA : DataW.TrodAll enc Try.prog W 0 (fun _ => true) true Try.f4.params.toList args.toList ds p := hA0
  rw [Try.params4] at hA hval
  have hA2 := hA
  obtain ⟨v0, vs0, d0, ds0, pp0, qq0, hargs, rfl, rfl, h0, r0⟩ := trodAll_cons hA
  obtain ⟨v1, vs1, d1, ds1, pp1, qq1, rfl, rfl, rfl, h1, r1⟩ := trodAll_cons r0
  obtain ⟨v2, vs2, d2, ds2, pp2, qq2, rfl, rfl, rfl, h2, r2⟩ := trodAll_cons r1
  obtain ⟨rfl, rfl, rfl⟩ := trodAll_nil r2
  obtain rfl : args = #[v0, v1, v2] := by cases args; simp_all
  obtain ⟨rfl, rfl⟩ := trodVars_none hV
  obtain ⟨n0, m0, k0, x0, y0, rfl, a0, b0, l0, g0, i0, w0⟩ := readers_open (hval 0 45 v0 rfl rfl) h0
  obtain ⟨k1, m1, f1, u1, x1, rfl, a1, l1, i1, w1⟩ := grace_open (hval 1 24 v1 rfl rfl) h1
  obtain ⟨x2, a2, l2, c2⟩ := ticks_open (hval 2 46 v2 rfl rfl) h2
  clear hA0 hval0
  simp only [List.append_nil] at hW'
  refine (gracePlays_c n0 m0 k0 x0 y0 k1 m1 f1 u1 x1 v2 x2 W a0 b0 l0 g0 i0 a1 l1 a2 l2 c2).mono fun e W' ⟨he, hb⟩ => ?_
  subst he
  exact ⟨_, rfl, _, _, _, [], _, [], hW', trodAll_cons_mk (shut_bool Try.underlying4 _) trodAll_mk0, trodAll_stays laidOut hb (by kernel_rfl) hA2 (fun x hx => by simpa using hW'.lt x (by simpa using hx)), rfl, hb.frame _, fun h => by cases h⟩

theorem gracePlays_holds : Rows.GracePlaysSaid :=
  OpenClaim.holds_of_wide 4 Try.f4 rfl rfl rfl rfl rfl rfl rfl ⟨rfl, rfl, rfl, rfl, rfl⟩ rfl rfl rfl rfl rfl (by kernel_rfl) Try.func4 (by kernel_rfl)
    (of_decide_eq_true (by kernel_rfl)) (by unfold Func.isWrapper; first | (rw [if_pos (by decide +kernel)]; kernel_rfl) | (rw [if_neg (by decide +kernel)]; exact ⟨rfl, rfl⟩))
    (fun os started H enc _ => gracePlays_lifted os started H enc)

end Go.Proofs.Ytdmcijfjnegcgaa
