/-
  GraceSteps answers true of all graces, rows of numbers, and truth values, and leaves its arguments as they were.
  Conditions: none.
-/
import Derived.Test.YtfnpokddoffplaaJD1
import Derived.Deep.DeepCutAuto
import Derived.Test.YtfnpokddoffplaaJA1
/-
  GraceSteps, called with any grace, row of numbers, and truth value: it answers true.
  Conditions: the ranges of Go's types.
-/
namespace Go.Proofs.Ytfnpokddoffplaa
set_option maxRecDepth 100000
open Go.RowKit Go.Shelf
attribute [local go_sem] Oper.semAt_some

/-- What stands when both answers are told. -/
structure StA (W : World) (B z z9 z12 z14 z15 : Nat) (d0 a0 : Int) (on0 : Bool) (v0 : Value) (g GA GB : GrS) (p pa pb : Option Addr) (c ca cb : Nat) (p14 p15 : Option Addr) (c14 c15 : Nat) (wc : World) : Prop where
  zg : GzAt wc z g p c
  za : GzAt wc z9 GA pa ca
  zb : GzAt wc z12 GB pb cb
  sa : SpG B wc GA pa ca
  sb : SpG B wc GB pb cb
  ya : GzAt wc z14 GA p14 c14
  yb : GzAt wc z15 GB p15 c15
  zx : GBox wc W.heap.size d0 a0 on0 v0
  below : Below W.heap.size W wc

structure StP (W : World) (B z z9 z12 : Nat) (d0 a0 : Int) (on0 : Bool) (v0 : Value) (g GA GB : GrS) (p pa pb : Option Addr) (c ca cb : Nat) (wc : World) : Prop where
  zg : GzAt wc z g p c
  za : GzAt wc z9 GA pa ca
  zb : GzAt wc z12 GB pb cb
  sa : SpG B wc GA pa ca
  sb : SpG B wc GB pb cb
  zx : GBox wc W.heap.size d0 a0 on0 v0
  below : Below W.heap.size W wc
theorem StP.below' {W : World} {B z z9 z12 : Nat} {d0 a0 : Int} {on0 : Bool} {v0 : Value} {g GA GB : GrS} {p pa pb : Option Addr} {c ca cb : Nat} {w w' : World} (h : StP W B z z9 z12 d0 a0 on0 v0 g GA GB p pa pb c ca cb w) (hb : Below w.heap.size w w') : StP W B z z9 z12 d0 a0 on0 v0 g GA GB p pa pb c ca cb w' :=
  ⟨h.zg.below hb, h.za.below hb, h.zb.below hb, h.sa.below hb, h.sb.below hb, h.zx.below hb, below_then h.below h.below.size hb⟩
/-- .. the first is told. -/
structure StQ (W : World) (B z z9 z12 z14 z15 : Nat) (d0 a0 : Int) (on0 : Bool) (v0 : Value) (g GA GB : GrS) (p pa pb : Option Addr) (c ca cb : Nat) (p14 : Option Addr) (c14 : Nat) (wc : World) : Prop extends StP W B z z9 z12 d0 a0 on0 v0 g GA GB p pa pb c ca cb wc where
  ya : GzAt wc z14 GA p14 c14
theorem StQ.below' {W : World} {B z z9 z12 z14 z15 : Nat} {d0 a0 : Int} {on0 : Bool} {v0 : Value} {g GA GB : GrS} {p pa pb : Option Addr} {c ca cb : Nat} {p14 : Option Addr} {c14 : Nat} {w w' : World} (h : StQ W B z z9 z12 z14 z15 d0 a0 on0 v0 g GA GB p pa pb c ca cb p14 c14 w) (hb : Below w.heap.size w w') : StQ W B z z9 z12 z14 z15 d0 a0 on0 v0 g GA GB p pa pb c ca cb p14 c14 w' :=
  ⟨h.toStP.below' hb, h.ya.below hb⟩
theorem gz_no {w : World} {z : Nat} {G : GrS} (h : G = noG) (hz : GBox w z 0 0 false (.slice none 0 0)) : GzAt w z G none 0 := by rw [h]; exact ⟨hz, noG_at w⟩
theorem StP.noA {W : World} {B z z9 z12 z14 z15 : Nat} {d0 a0 : Int} {on0 : Bool} {v0 : Value} {g GA GB : GrS} {p pa pb : Option Addr} {c ca cb : Nat} {w : World} (h : StP W B z z9 z12 d0 a0 on0 v0 g GA GB p pa pb c ca cb w) (hA : GA = noG) (hz : GBox w z14 0 0 false (.slice none 0 0)) : StQ W B z z9 z12 z14 z15 d0 a0 on0 v0 g GA GB p pa pb c ca cb none 0 w := ⟨h, gz_no hA hz⟩
theorem GzAt.row_keep {w w' : World} {z x : Nat} {G : GrS} {p : Option Addr} {c : Nat} (h : GzAt w z G p c) (hk : Keeps (fun k => k = x) w w') (hx : z ≠ x) (hp : G.nd ≠ [] → ∀ a : Addr, p = some a → a.block ≠ x) : GzAt w' z G p c := h.keeps hk hx hp
theorem SpG.far {B : Nat} {w : World} {G : GrS} {p : Option Addr} {c x : Nat} {d a : Int} {on : Bool} {u : Value} (h : SpG B w G p c) (hx : GBox w x d a on u) : G.nd ≠ [] → ∀ q : Addr, p = some q → q.block ≠ x := fun hne q e => by
  rcases h with ⟨h1, _, _⟩ | ⟨nb, h1, _, h2, _, _⟩
  · exact absurd h1 hne
  · rw [h1] at e; injection e with e; rw [← e]; exact ne_bool hx (by decide) h2
theorem StP.putA {W : World} {B z z9 z12 z14 z15 : Nat} {d0 a0 : Int} {on0 : Bool} {v0 : Value} {g GA GB : GrS} {p pa pb : Option Addr} {c ca cb : Nat} {w w' : World} (h : StP W B z z9 z12 d0 a0 on0 v0 g GA GB p pa pb c ca cb w) {k j : Int} {on : Bool} {u : Value} (hz : GBox w z14 k j on u) (hk : Keeps (fun q => q = z14) w w') (hz' : GBox w' z14 GA.done GA.asked GA.on (.slice p g.nd.length c))
    (hn : (z ≠ z15 ∧ z9 ≠ z15 ∧ z12 ≠ z15 ∧ z14 ≠ z15 ∧ W.heap.size ≠ z15 ∧ B ≤ z15) ∧ (z ≠ z14 ∧ z9 ≠ z14 ∧ z12 ≠ z14 ∧ W.heap.size ≠ z14) ∧ (g.nd ≠ [] → ∀ a : Addr, p = some a → a.block < B)) (hnd : GA.nd = g.nd) (hW : W.heap.size ≤ z14) (hBz : B ≤ z14) :
    StQ W B z z9 z12 z14 z15 d0 a0 on0 v0 g GA GB p pa pb c ca cb p c w' := by
  have hfar : g.nd ≠ [] → ∀ a : Addr, p = some a → a.block ≠ z14 := fun hne a e => by have := hn.2.2 hne a e; omega
  have hzg := h.zg.row_keep hk hn.2.1.1 hfar
  refine ⟨⟨hzg, h.za.row_keep hk hn.2.1.2.1 (h.sa.far hz), h.zb.row_keep hk hn.2.1.2.2.1 (h.sb.far hz), h.sa.keeps hk (fun q e hb => absurd e (ne_bool hz (by decide) hb)), h.sb.keeps hk (fun q e hb => absurd e (ne_bool hz (by decide) hb)), h.zx.keeps hk hn.2.1.2.2.2, h.below.trans (hk.below h.below.size (fun q e => by omega))⟩, ⟨by rw [hnd]; exact hz', by rw [hnd]; exact hzg.row⟩⟩
theorem StQ.noB {W : World} {B z z9 z12 z14 z15 : Nat} {d0 a0 : Int} {on0 : Bool} {v0 : Value} {g GA GB : GrS} {p pa pb : Option Addr} {c ca cb : Nat} {p14 : Option Addr} {c14 : Nat} {w : World} (h : StQ W B z z9 z12 z14 z15 d0 a0 on0 v0 g GA GB p pa pb c ca cb p14 c14 w) (hB : GB = noG) (hz : GBox w z15 0 0 false (.slice none 0 0)) : StA W B z z9 z12 z14 z15 d0 a0 on0 v0 g GA GB p pa pb c ca cb p14 none c14 0 w := ⟨h.zg, h.za, h.zb, h.sa, h.sb, h.ya, gz_no hB hz, h.zx, h.below⟩
theorem StQ.putB {W : World} {B z z9 z12 z14 z15 : Nat} {d0 a0 : Int} {on0 : Bool} {v0 : Value} {g GA GB : GrS} {p pa pb : Option Addr} {c ca cb : Nat} {p14 : Option Addr} {c14 : Nat} {w : World} (h : StQ W B z z9 z12 z14 z15 d0 a0 on0 v0 g GA GB p pa pb c ca cb p14 c14 w) {k j : Int} {on : Bool} {u : Value} (hz : GBox w z15 k j on u) {pq : Option Addr} {cq : Nat} (hB : BoolsAt w (.slice pq GB.nd.length cq) GB.nd) (hf : ∀ a : Addr, pq = some a → a.block ≠ z15)
    (hn : (z ≠ z15 ∧ z9 ≠ z15 ∧ z12 ≠ z15 ∧ z14 ≠ z15 ∧ W.heap.size ≠ z15 ∧ B ≤ z15) ∧ (z ≠ z14 ∧ z9 ≠ z14 ∧ z12 ≠ z14 ∧ W.heap.size ≠ z14) ∧ (g.nd ≠ [] → ∀ a : Addr, p = some a → a.block < B)) (h14 : GA.nd ≠ [] → ∀ a : Addr, p14 = some a → a.block ≠ z15) (hW : W.heap.size ≤ z15) :
    StA W B z z9 z12 z14 z15 d0 a0 on0 v0 g GA GB p pa pb c ca cb p14 pq c14 cq ((((w.setCell ⟨z15, 0, none⟩ (.int .i64 GB.done)).setCell ⟨z15, 1, none⟩ (.int .i64 GB.asked)).setCell ⟨z15, 2, none⟩ (.bool GB.on)).setCell ⟨z15, 3, none⟩ (.slice pq GB.nd.length cq)) := by
  have hk := GBox.putK w z15 GB.done GB.asked GB.on (.slice pq GB.nd.length cq)
  refine ⟨h.zg.row_keep hk hn.1.1 (fun hne a e => by have := hn.2.2 hne a e; omega), h.za.row_keep hk hn.1.2.1 (h.sa.far hz), h.zb.row_keep hk hn.1.2.2.1 (h.sb.far hz), h.sa.keeps hk (fun q e hb => absurd e (ne_bool hz (by decide) hb)), h.sb.keeps hk (fun q e hb => absurd e (ne_bool hz (by decide) hb)), h.ya.row_keep hk hn.1.2.2.2.1 h14, ⟨hz.put _ _ _ _, bools_other hB hf hk⟩, h.zx.keeps hk hn.1.2.2.2.2.1, h.below.trans (hk.below h.below.size (fun q e => by omega))⟩

structure LpI (W : World) (B z : Nat) (d0 a0 : Int) (on0 : Bool) (v0 : Value) (g : GrS) (p : Option Addr) (c : Nat) (wc : World) : Prop where
  zg : GzAt wc z g p c
  zx : GBox wc W.heap.size d0 a0 on0 v0
  below : Below W.heap.size W wc
  big : B ≤ wc.heap.size
theorem LpI.below' {W : World} {B z : Nat} {d0 a0 : Int} {on0 : Bool} {v0 : Value} {g : GrS} {p : Option Addr} {c : Nat} {w w' : World} (h : LpI W B z d0 a0 on0 v0 g p c w) (hb : Below w.heap.size w w') : LpI W B z d0 a0 on0 v0 g p c w' := ⟨h.zg.below hb, h.zx.below hb, below_then h.below h.below.size hb, Nat.le_trans h.big hb.size⟩
structure StR (W : World) (B z z12 : Nat) (d0 a0 : Int) (on0 : Bool) (v0 : Value) (g GB : GrS) (p pb : Option Addr) (c cb : Nat) (wc : World) : Prop where
  lp : LpI W B z d0 a0 on0 v0 g p c wc
  zb : GBox wc z12 GB.done GB.asked GB.on (.slice pb GB.nd.length cb)
  sb : SpG B wc GB pb cb
theorem StA.below' {W : World} {B z z9 z12 z14 z15 : Nat} {d0 a0 : Int} {on0 : Bool} {v0 : Value} {g GA GB : GrS} {p pa pb : Option Addr} {c ca cb : Nat} {p14 p15 : Option Addr} {c14 c15 : Nat} {w w' : World} (h : StA W B z z9 z12 z14 z15 d0 a0 on0 v0 g GA GB p pa pb c ca cb p14 p15 c14 c15 w) (hb : Below w.heap.size w w') : StA W B z z9 z12 z14 z15 d0 a0 on0 v0 g GA GB p pa pb c ca cb p14 p15 c14 c15 w' :=
  ⟨h.zg.below hb, h.za.below hb, h.zb.below hb, h.sa.below hb, h.sb.below hb, h.ya.below hb, h.yb.below hb, h.zx.below hb, below_then h.below h.below.size hb⟩
theorem LpI.spoil {W : World} {B z : Nat} {d0 a0 : Int} {on0 : Bool} {v0 : Value} {g G : GrS} {p pa : Option Addr} {c : Nat} {w w' : World} (h : LpI W B z d0 a0 on0 v0 g p c w) (hk : Keeps (fun q => B ≤ q ∧ BBlock w q G.nd ∧ pa = some ⟨q, 0, none⟩) w w') (hz : W.heap.size < B ∧ z < B) (hr : g.nd ≠ [] → ∀ a : Addr, p = some a → a.block < B) : LpI W B z d0 a0 on0 v0 g p c w' :=
  ⟨h.zg.keeps hk (fun e => by have := e.1; omega) (fun hne a e hs => by have := hr hne a e; have := hs.1; omega), h.zx.keeps hk (fun e => by have := e.1; omega), h.below.trans (hk.below h.below.size (fun q e => by have := e.1; omega)), Nat.le_trans h.big hk.size⟩
/-- The first row is written over. -/
theorem StA.spoilA {W : World} {B z z9 z12 z14 z15 : Nat} {d0 a0 : Int} {on0 : Bool} {v0 : Value} {g GA GB : GrS} {p pa pb : Option Addr} {c ca cb : Nat} {p14 p15 : Option Addr} {c14 c15 : Nat} {w w' : World} (h : StA W B z z9 z12 z14 z15 d0 a0 on0 v0 g GA GB p pa pb c ca cb p14 p15 c14 c15 w) (hk : Keeps (fun q => B ≤ q ∧ BBlock w q GA.nd ∧ pa = some ⟨q, 0, none⟩) w w') (hz : W.heap.size < B ∧ z < B) (hr : g.nd ≠ [] → ∀ a : Addr, p = some a → a.block < B) (hab : ∀ q, pa = some ⟨q, 0, none⟩ → pb = some ⟨q, 0, none⟩ → False) (hB : B ≤ w.heap.size) : StR W B z z12 d0 a0 on0 v0 g GB p pb c cb w' :=
  ⟨LpI.spoil ⟨h.zg, h.zx, h.below, hB⟩ hk hz hr, h.zb.box.keeps hk (fun e => ne_bool h.zb.box (by decide) e.2.1 rfl), h.sb.keeps2 hk (fun q e hs => hab q hs.2.2 e)⟩
theorem StA.spoilB {W : World} {B z z9 z12 z14 z15 : Nat} {d0 a0 : Int} {on0 : Bool} {v0 : Value} {g GA GB : GrS} {p pa pb : Option Addr} {c ca cb : Nat} {p14 p15 : Option Addr} {c14 c15 : Nat} {w w' : World} (h : StA W B z z9 z12 z14 z15 d0 a0 on0 v0 g GA GB p pa pb c ca cb p14 p15 c14 c15 w) (hk : Keeps (fun q => B ≤ q ∧ BBlock w q GB.nd ∧ pb = some ⟨q, 0, none⟩) w w') (hz : W.heap.size < B ∧ z < B) (hr : g.nd ≠ [] → ∀ a : Addr, p = some a → a.block < B) (hab : ∀ q, pa = some ⟨q, 0, none⟩ → pb = some ⟨q, 0, none⟩ → False) (hB : B ≤ w.heap.size) : StR W B z z9 d0 a0 on0 v0 g GA p pa c ca w' :=
  ⟨LpI.spoil ⟨h.zg, h.zx, h.below, hB⟩ hk hz hr, h.za.box.keeps hk (fun e => ne_bool h.za.box (by decide) e.2.1 rfl), h.sa.keeps2 hk (fun q e hs => hab q e hs.2.2)⟩
theorem StP.putA2 {W : World} {B z z9 z12 z14 z15 : Nat} {d0 a0 : Int} {on0 : Bool} {v0 : Value} {g GA GB : GrS} {p pa pb : Option Addr} {c ca cb : Nat} {w : World} (h : StP W B z z9 z12 d0 a0 on0 v0 g GA GB p pa pb c ca cb w) {k j : Int} {on : Bool} {u : Value} (hz : GBox w z14 k j on u) {pq : Option Addr} {cq : Nat} (hB : BoolsAt w (.slice pq GA.nd.length cq) GA.nd) (hf : ∀ a : Addr, pq = some a → a.block ≠ z14)
    (hn : (z ≠ z15 ∧ z9 ≠ z15 ∧ z12 ≠ z15 ∧ z14 ≠ z15 ∧ W.heap.size ≠ z15 ∧ B ≤ z15) ∧ (z ≠ z14 ∧ z9 ≠ z14 ∧ z12 ≠ z14 ∧ W.heap.size ≠ z14) ∧ (g.nd ≠ [] → ∀ a : Addr, p = some a → a.block < B)) (hW : W.heap.size ≤ z14) (hBz : B ≤ z14) :
    StQ W B z z9 z12 z14 z15 d0 a0 on0 v0 g GA GB p pa pb c ca cb pq cq ((((w.setCell ⟨z14, 0, none⟩ (.int .i64 GA.done)).setCell ⟨z14, 1, none⟩ (.int .i64 GA.asked)).setCell ⟨z14, 2, none⟩ (.bool GA.on)).setCell ⟨z14, 3, none⟩ (.slice pq GA.nd.length cq)) := by
  have hk := GBox.putK w z14 GA.done GA.asked GA.on (.slice pq GA.nd.length cq)
  exact ⟨⟨h.zg.row_keep hk hn.2.1.1 (fun hne a e => by have := hn.2.2 hne a e; omega), h.za.row_keep hk hn.2.1.2.1 (h.sa.far hz), h.zb.row_keep hk hn.2.1.2.2.1 (h.sb.far hz), h.sa.keeps hk (fun q e hb => absurd e (ne_bool hz (by decide) hb)), h.sb.keeps hk (fun q e hb => absurd e (ne_bool hz (by decide) hb)), h.zx.keeps hk hn.2.1.2.2.2, h.below.trans (hk.below h.below.size (fun q e => by omega))⟩, ⟨hz.put _ _ _ _, bools_other hB hf hk⟩⟩

set_option maxHeartbeats 16000000 in
theorem graceSteps_c (d0 a0 : Int) (on0 : Bool) (v : Value) (xs : List Bool) (u : Value) (ls : List Int) (q : Bool) (W : World) (h0 : ArgR W v (xs.map Value.bool)) (hx : xs.length ≤ 9223372036854775807) (hu : NumsAt W .i64 u ls) (hul : ls.length ≤ 9223372036854775807) :
    Calls Try.prog 3 #[.agg #[.int .i64 d0, .int .i64 a0, .bool on0, v], u, .bool q] W fun e w' => e = .returned (.bool true) ∧ Below W.heap.size W w' := by
  have HU := Lib.hid hu
  obtain ⟨up, uc, rfl, -⟩ := hu
  obtain ⟨g, hg⟩ : ∃ g : GrS, g = ⟨d0, a0, on0, xs.take 10⟩ := ⟨_, rfl⟩
  have HG := Lib.hid hg
  have hxl : g.nd.length ≤ 9223372036854775807 := by rw [hg, List.length_take]; omega
  obtain ⟨p0, n0, c0, rfl, hn0, hp0⟩ := id h0
  obtain ⟨wa, hwa⟩ : ∃ X : World, X = W.alloc (.cells #[.int .i64 d0, .int .i64 a0, .bool on0, .slice p0 n0 c0] 24) := ⟨_, rfl⟩
  have hba : Below W.heap.size W wa := by rw [hwa]; exact below1 _ _
  have HB0 := Lib.hid (show GBox wa W.heap.size d0 a0 on0 (.slice p0 n0 c0) ∧ ArgR wa (.slice p0 n0 c0) (xs.map Value.bool) ∧ Below W.heap.size W wa from ⟨by rw [hwa]; exact GBox.new _ _ _ _ _, h0.below hba, hba⟩)
  have HWK := Lib.hid (wakes_c wa)
  have HX := Lib.hid hx
  have HAR := Lib.hid h0
  have HXL := Lib.hid hxl
  clear hg hxl hn0 hp0 h0 hba hx
  go_enter Try.func3, Try.ntmps3
  go_wp2_with fail
  rw [← hwa]
  clear hwa
  (with_reducible refine HWK.out.mono ?_)
  rintro e w1 ⟨rfl, hb1⟩
  have g1 := HB0.out.1.below hb1
  have HB1 := Lib.hid (below_then HB0.out.2.2 HB0.out.2.2.size hb1)
  have HOW := Lib.hid (show Calls Try.prog 9 #[.agg #[.int .i64 d0, .int .i64 a0, .bool on0, .slice p0 n0 c0]] w1 fun e w' => GivesG w1.heap.size g e w' ∧ Below w1.heap.size w1 w' by
    have h := own12_c d0 a0 on0 (.slice p0 n0 c0) xs w1 (HB0.out.2.1.below hb1) HX.out
    rwa [← HG.out] at h)
  obtain ⟨k0, k1, k2, k3⟩ := g1.cells
  have HG1 := Lib.hid g1
  clear hb1 HB0 HWK g1
  go_upto_region 3 with fail
  go_wp2_with fail
  (with_reducible refine HOW.out.mono ?_)
  rintro e w2 ⟨⟨p, c, rfl, ho⟩, hb2⟩
  clear k0 k1 k2 k3 HOW
  obtain ⟨wb, hwb⟩ : ∃ X : World, X = w2.alloc (.cells #[.int .i64 g.done, .int .i64 g.asked, .bool g.on, .slice p g.nd.length c] 24) := ⟨_, rfl⟩
  obtain ⟨z, hz⟩ : ∃ z, z = w2.heap.size := ⟨_, rfl⟩
  have hb3 : Below w2.heap.size w2 wb := by rw [hwb]; exact below1 _ _
  have HZ := Lib.hid (show GzAt wb z g p c by rw [hwb, hz]; exact GzAt.new _ _ _ _ (bools_of_owns rfl ho))
  have HBB := Lib.hid (below_then (below_then HB1.out HB1.out.size hb2) (below_then HB1.out HB1.out.size hb2).size hb3)
  have HWB := Lib.hid (And.intro hwb hz)
  have HZ3 := Lib.hid ((HG1.out.below hb2).below hb3)
  have HRL := Lib.hid (show g.nd ≠ [] → ∀ a : Addr, p = some a → a.block < wb.heap.size from fun hne => bools_lt HZ.out.row hne)
  have HZL := Lib.hid (show W.heap.size < wb.heap.size ∧ z < wb.heap.size ∧ z ≠ W.heap.size from ⟨HZ3.out.lt, HZ.out.box.lt, by have := (HG1.out.below hb2).lt; omega⟩)
  obtain ⟨d0', d1, d2, d3⟩ := HZ.out.box.cells
  clear hb2 hb3 ho hwb hz HB1 HG1
  have HRT := Lib.hid (rright_c g (.slice p g.nd.length c) wb HZ.out.row HXL.out)
  obtain ⟨R, hR⟩ : ∃ R, R = mayG g := ⟨_, rfl⟩
  obtain ⟨EA, hEA⟩ : ∃ E, E = errG g (askE g) := ⟨_, rfl⟩
  obtain ⟨GA, hGA⟩ : ∃ G, G = orNo EA (askG g) := ⟨_, rfl⟩
  obtain ⟨NA, hNA⟩ : ∃ N, N = if EA = 0 then nextG g else 0 := ⟨_, rfl⟩
  obtain ⟨EB, hEB⟩ : ∃ E, E = errG g (beginE g) := ⟨_, rfl⟩
  obtain ⟨GB, hGB⟩ : ∃ G, G = orNo EB (beginG g) := ⟨_, rfl⟩
  rw [← hR] at HRT
  have HEN := Lib.hid (And.intro hEA (And.intro hGA (And.intro hNA (And.intro hEB (And.intro hGB hR)))))
  clear hEA hGA hNA hEB hGB hR
  go_upto_region 4 with fail
  rw [← HWB.out.1, ← HWB.out.2]
  clear HWB
  go_wp2_with fail
  (with_reducible refine HRT.out.mono ?_)
  rintro e w4 ⟨rfl, hb4⟩
  have HZ4 := Lib.hid (HZ.out.below hb4)
  have HZ34 := Lib.hid (HZ3.out.below hb4)
  have HB4 := Lib.hid (below_then HBB.out HBB.out.size hb4)
  have HS4 := Lib.hid hb4.size
  have HAK := Lib.hid (askU g (.slice p g.nd.length c) w4 HZ4.out.row HXL.out GA EA HEN.out.1 HEN.out.2.1)
  rw [← HEN.out.2.2.1] at HAK
  clear hb4 HRT d0' d1 d2 d3
  obtain ⟨d0', d1, d2, d3⟩ := HZ4.out.box.cells
  go_wp2_with fail
  (with_reducible refine HAK.out.mono ?_)
  rintro e w5 ⟨⟨pa, ca, rfl, hsa⟩, hb5⟩
  obtain ⟨w6, hw6⟩ : ∃ X : World, X = w5.alloc (.cells #[.int .i64 GA.done, .int .i64 GA.asked, .bool GA.on, .slice pa GA.nd.length ca] 24) := ⟨_, rfl⟩
  obtain ⟨z9, hz9⟩ : ∃ z, z = w5.heap.size := ⟨_, rfl⟩
  have hb6 : Below w5.heap.size w5 w6 := by rw [hw6]; exact below1 _ _
  have hb46 := below_then hb5 hb5.size hb6
  have HZ6 := Lib.hid (HZ4.out.below hb46)
  have HZ36 := Lib.hid (HZ34.out.below hb46)
  have HB6 := Lib.hid (below_then HB4.out HB4.out.size hb46)
  have HSA6 := Lib.hid ((hsa.below hb6).mono HS4.out)
  have HZA6 := Lib.hid (show GzAt w6 z9 GA pa ca from ⟨by rw [hw6, hz9]; exact GBox.new _ _ _ _ _, HSA6.out.bools⟩)
  have HBE := Lib.hid (beginU g (.slice p g.nd.length c) w6 HZ6.out.row HXL.out GB EB HEN.out.2.2.2.1 HEN.out.2.2.2.2.1)
  have HS6 := Lib.hid (show wb.heap.size ≤ w6.heap.size by have := HS4.out; have := hb46.size; omega)
  have HW6 := Lib.hid (And.intro hw6 hz9)
  have HN9 := Lib.hid (show wb.heap.size ≤ z9 by have := HS4.out; have := hb5.size; omega)
  clear hb5 hb6 hb46 hsa hw6 hz9 HAK HZ4 HZ34 HB4 d0' d1 d2 d3
  obtain ⟨d0', d1, d2, d3⟩ := HZ6.out.box.cells
  go_upto_region 6 with fail
  rw [← HW6.out.1, ← HW6.out.2]
  clear HW6
  go_wp2_with fail
  (with_reducible refine HBE.out.mono ?_)
  rintro e w7 ⟨⟨pb, cb, rfl, hsb⟩, hb7⟩
  obtain ⟨w8, hw8⟩ : ∃ X : World, X = w7.alloc (.cells #[.int .i64 GB.done, .int .i64 GB.asked, .bool GB.on, .slice pb GB.nd.length cb] 24) := ⟨_, rfl⟩
  obtain ⟨z12, hz12⟩ : ∃ z, z = w7.heap.size := ⟨_, rfl⟩
  have hb8 : Below w7.heap.size w7 w8 := by rw [hw8]; exact below1 _ _
  obtain ⟨w9, hw9⟩ : ∃ X : World, X = (w8.alloc (.cells #[.int .i64 0, .int .i64 0, .bool false, .slice none 0 0] 24)).alloc (.cells #[.int .i64 0, .int .i64 0, .bool false, .slice none 0 0] 24) := ⟨_, rfl⟩
  obtain ⟨z14, hz14⟩ : ∃ z, z = w8.heap.size := ⟨_, rfl⟩
  obtain ⟨z15, hz15⟩ : ∃ z, z = w8.heap.size + 1 := ⟨_, rfl⟩
  have hb9 : Below w8.heap.size w8 w9 := by rw [hw9]; exact below2 _ _ _
  have hb69 := below_then (below_then hb7 hb7.size hb8) (below_then hb7 hb7.size hb8).size hb9
  have HPAB := Lib.hid (show ∀ q, pa = some ⟨q, 0, none⟩ → pb = some ⟨q, 0, none⟩ → False from fun q e1 e2 => by have := HSA6.out.lt q e1; have := hsb.lt q e2; omega)
  have HSB9 := Lib.hid (((hsb.below hb8).below hb9).mono HS6.out)
  have HZB9 := Lib.hid (show GzAt w9 z12 GB pb cb from ⟨(show GBox w8 z12 _ _ _ _ by rw [hw8, hz12]; exact GBox.new _ _ _ _ _).below hb9, HSB9.out.bools⟩)
  have HST := Lib.hid (show StA W wb.heap.size z z9 z12 z14 z15 d0 a0 on0 (.slice p0 n0 c0) g GA GB p pa pb c ca cb none none 0 0 w9 ↔ StA W wb.heap.size z z9 z12 z14 z15 d0 a0 on0 (.slice p0 n0 c0) g GA GB p pa pb c ca cb none none 0 0 w9 from Iff.rfl)
  have HZ9 := Lib.hid (HZ6.out.below hb69)
  have HZ39 := Lib.hid (HZ36.out.below hb69)
  have HB9 := Lib.hid (below_then HB6.out HB6.out.size hb69)
  have HSA9 := Lib.hid (HSA6.out.below hb69)
  have HZA9 := Lib.hid (HZA6.out.below hb69)
  have HY14 := Lib.hid (show GBox w9 z14 0 0 false (.slice none 0 0) by rw [hw9, hz14]; exact (GBox.new w8 0 0 false (.slice none 0 0)).below (below1 _ _))
  have HY15 := Lib.hid (show GBox w9 z15 0 0 false (.slice none 0 0) by
    rw [hw9, hz15]
    have := GBox.new (w8.alloc (.cells #[.int .i64 0, .int .i64 0, .bool false, .slice none 0 0] 24)) 0 0 false (.slice none 0 0)
    simpa using this)
  have HSZ9 := Lib.hid (show z9 < z12 ∧ z12 < z14 ∧ z14 < z15 ∧ wb.heap.size ≤ z9 ∧ w9.heap.size = z15 + 1 by
    have := HZA6.out.box.lt; have := hb7.size; have := hb8.size; have := HN9.out
    have h1 : w8.heap.size = w7.heap.size + 1 := by rw [hw8]; simp
    have h2 : w9.heap.size = w8.heap.size + 2 := by rw [hw9]; simp
    omega)
  have HW8 := Lib.hid (And.intro hw8 hz12)
  have HW9 := Lib.hid (And.intro hw9 (And.intro hz14 hz15))
  clear hb7 hb8 hb9 hb69 hsb hw8 hz12 hw9 hz14 hz15 HBE HZ6 HZ36 HB6 HSA6 HZA6 HST HS6 HN9 d0' d1 d2 d3
  obtain ⟨d0', d1, d2, d3⟩ := HZ9.out.box.cells
  go_upto_region 7 with fail
  rw [← HW8.out.1, ← HW8.out.2]
  clear HW8
  go_upto_region 8 with fail
  rw [← HW9.out.1, ← HW9.out.2.2, ← HW9.out.2.1]
  clear HW9
  have HNZ := Lib.hid (show (z ≠ z15 ∧ z9 ≠ z15 ∧ z12 ≠ z15 ∧ z14 ≠ z15 ∧ W.heap.size ≠ z15 ∧ wb.heap.size ≤ z15) ∧ (z ≠ z14 ∧ z9 ≠ z14 ∧ z12 ≠ z14 ∧ W.heap.size ≠ z14) ∧ (g.nd ≠ [] → ∀ a : Addr, p = some a → a.block < wb.heap.size) by have := HSZ9.out; have := HZL.out; exact ⟨by omega, by omega, HRL.out⟩)
  have HP := Lib.hid (show StP W wb.heap.size z z9 z12 d0 a0 on0 (.slice p0 n0 c0) g GA GB p pa pb c ca cb w9 from ⟨HZ9.out, HZA9.out, HZB9.out, HSA9.out, HSB9.out, HZ39.out, HB9.out⟩)
  clear HZ9 HZA9 HZB9 HSA9 HSB9 HZ39 HB9 HZ HBB HZ3
  go_upto_if 48 with fail
  go_cut [16, 17, 18] (fun s16 s17 s18 wc => ∃ (p14 : Option Addr) (c14 : Nat) (p15 : Option Addr) (c15 : Nat), s16 = .int .i64 NA ∧ s17 = .int .i64 EA ∧ s18 = .int .i64 EB ∧ Hid (StA W wb.heap.size z z9 z12 z14 z15 d0 a0 on0 (.slice p0 n0 c0) g GA GB p pa pb c ca cb p14 p15 c14 c15 wc))
  case first => as_aux_lemma =>
    cases R with
    | false =>
      have HM := Lib.hid (show mayG g = false from HEN.out.2.2.2.2.2.symm)
      have HE2 := Lib.hid (show ∀ e, errG g e = 220 from fun e => by unfold errG; rw [HM.out]; rfl)
      have HEA := Lib.hid (show EA = 220 ∧ GA = noG ∧ NA = 0 by have h := HEN.out.1; rw [HE2.out] at h; exact ⟨h, by rw [HEN.out.2.1, h]; rfl, by rw [HEN.out.2.2.1, h]; rfl⟩)
      have HEB := Lib.hid (show EB = 220 ∧ GB = noG by have h := HEN.out.2.2.2.1; rw [HE2.out] at h; exact ⟨h, by rw [HEN.out.2.2.2.2.1, h]; rfl⟩)
      go_wp2
      go_meet
      exact ⟨none, 0, none, 0, by rw [HEA.out.2.2], by rw [HEA.out.1], by rw [HEB.out.1], Lib.hid ((HP.out.noA HEA.out.2.1 HY14.out (z15 := z15)).noB HEB.out.2 HY15.out)⟩
    | true =>
      have HGD := Lib.hid ((goodG_iff g).1 HEN.out.2.2.2.2.2.symm)
      have HRA := Lib.hid (rask_c g p g.nd.length c HGD.out w9)
      obtain ⟨d0', d1, d2, d3⟩ := HP.out.zg.box.cells
      go_upto_region 11 with fail
      go_wp2_with fail
      (with_reducible refine HRA.out.mono ?_)
      rintro e wa ⟨hE, hba⟩
      have hpa := HP.out.below' hba
      have h14 := HY14.out.below hba
      have h15 := HY15.out.below hba
      rcases hE with ⟨hE, rfl⟩ | ⟨hE, rfl⟩
      · have HEA := Lib.hid (show EA = 6 ∧ GA = noG ∧ NA = 0 by
          have h := HEN.out.1
          rw [errG_good HGD.out] at h
          have h6 : EA = 6 := by rw [h]; unfold askE at hE ⊢; split; rfl; rename_i hx; rw [if_neg hx] at hE; exact absurd rfl hE
          exact ⟨h6, by rw [HEN.out.2.1, h6]; rfl, by rw [HEN.out.2.2.1, h6]; rfl⟩)
        obtain ⟨wq, hwq⟩ : ∃ X : World, X = wa.alloc (.cells #[.int .i64 0, .int .i64 0, .bool false, .slice none 0 0] 24) := ⟨_, rfl⟩
        have hbq : Below wa.heap.size wa wq := by rw [hwq]; exact below1 _ _
        have HQ := Lib.hid ((hpa.below' hbq).noA HEA.out.2.1 (h14.below hbq) (z15 := z15))
        have HYB := Lib.hid (h15.below hbq)
        have H14 := Lib.hid (show GA.nd ≠ [] → ∀ a : Addr, (none : Option Addr) = some a → a.block ≠ z15 from fun hne a e => by cases e)
        have HWQ := Lib.hid hwq
        clear hE hwq hbq hpa h14 h15 hba HRA d0' d1 d2 d3
        go_upto_region 12 with fail
        rw [← HWQ.out]
        clear HWQ
        obtain ⟨d0', d1, d2, d3⟩ := HQ.out.zg.box.cells
        cases hon : g.on with
        | true =>
          have HEB := Lib.hid (show EB = 5 ∧ GB = noG by have h := HEN.out.2.2.2.1; rw [errG_good HGD.out] at h; unfold beginE at h; rw [if_pos hon] at h; exact ⟨h, by rw [HEN.out.2.2.2.2.1, h]; rfl⟩)
          rw [hon] at d2
          clear hon
          go_wp2
          go_meet
          exact ⟨none, 0, none, 0, by rw [HEA.out.2.2], by rw [HEA.out.1], by rw [HEB.out.1], Lib.hid (HQ.out.noB HEB.out.2 HYB.out)⟩
        | false =>
          rw [hon] at d2
          by_cases hlt : g.done < g.asked
          · have HEB := Lib.hid (show EB = 0 ∧ GB = beginG g by have h := HEN.out.2.2.2.1; rw [errG_good HGD.out] at h; unfold beginE at h; rw [if_neg (by rw [hon]; exact Bool.false_ne_true), if_neg (by omega)] at h; exact ⟨h, by rw [HEN.out.2.2.2.2.1, h]; rfl⟩)
            have HBR := Lib.hid (show Calls Try.prog 15 #[.agg #[.int .i64 g.done, .int .i64 g.asked, .bool false, .slice p g.nd.length c]] wq fun e w' => RefO (wq.heap.size + 2) GB e w' ∧ Below wq.heap.size wq w' by
              have h := rbegin_c g p c HGD.out wq
              rw [hon] at h
              rwa [HEB.out.2])
            clear hon
            go_wp2_with fail
            (with_reducible refine HBR.out.mono ?_)
            rintro e wt ⟨⟨pq, cq, rfl, hB, hfar⟩, hbt⟩
            have hqt := HQ.out.below' hbt
            have ht := HYB.out.below hbt
            obtain ⟨e0, e1, e2, e3⟩ := ht.cells
            have m0 := ht.marks 0
            have m1 := ht.marks 1
            have m2 := ht.marks 2
            have m3 := ht.marks 3
            have HFIN := Lib.hid (hqt.putB ht hB (fun a e => by have := hfar a e; have := HYB.out.lt; omega) HNZ.out H14.out (by have := HNZ.out; have := HZL.out; omega))
            clear hqt ht hB hfar hbt HBR
            go_wp2
            go_meet
            exact ⟨none, 0, pq, cq, by rw [HEA.out.2.2], by rw [HEA.out.1], by rw [HEB.out.1], HFIN⟩
          · have HEB := Lib.hid (show EB = 4 ∧ GB = noG by have h := HEN.out.2.2.2.1; have hg := HGD.out.on0 hon; rw [errG_good HGD.out] at h; unfold beginE at h; rw [if_neg (by rw [hon]; exact Bool.false_ne_true), if_pos (by omega)] at h; exact ⟨h, by rw [HEN.out.2.2.2.2.1, h]; rfl⟩)
            clear hon
            go_wp2
            go_meet
            exact ⟨none, 0, none, 0, by rw [HEA.out.2.2], by rw [HEA.out.1], by rw [HEB.out.1], Lib.hid (HQ.out.noB HEB.out.2 HYB.out)⟩
      · have HEA := Lib.hid (show EA = 0 ∧ GA = askG g ∧ NA = nextG g by
          have h := HEN.out.1
          rw [errG_good HGD.out, hE] at h
          exact ⟨h, by rw [HEN.out.2.1, h]; rfl, by rw [HEN.out.2.2.1, h]; rfl⟩)
        rw [← HEA.out.2.1]
        obtain ⟨wx, hwx⟩ : ∃ X : World, X = wa.alloc (.cells #[.int .i64 GA.done, .int .i64 GA.asked, .bool GA.on, .slice p g.nd.length c] 24) := ⟨_, rfl⟩
        obtain ⟨z19, hz19⟩ : ∃ z, z = wa.heap.size := ⟨_, rfl⟩
        have hbx : Below wa.heap.size wa wx := by rw [hwx]; exact below1 _ _
        have HX19 := Lib.hid (show GBox wx z19 GA.done GA.asked GA.on (.slice p g.nd.length c) by rw [hwx, hz19]; exact GBox.new _ _ _ _ _)
        have HPX := Lib.hid (hpa.below' hbx)
        have HX14 := Lib.hid (h14.below hbx)
        have HX15 := Lib.hid (h15.below hbx)
        have HNE := Lib.hid (show z19 ≠ z14 ∧ z ≠ z14 from ⟨by have := h14.lt; omega, HNZ.out.2.1.1⟩)
        have HWX := Lib.hid (And.intro hwx hz19)
        have HNX := Lib.hid (fun X => rnext_c g (.slice p g.nd.length c) HGD.out X)
        rw [← HEA.out.2.2] at HNX
        clear hE hwx hz19 hbx hpa h14 h15 hba HRA d0' d1 d2 d3
        go_upto_region 12 with fail
        rw [← HWX.out.1, ← HWX.out.2]
        clear HWX
        go_upto_region 13 with fail
        refine wpTwo_begin (T := fun w' => GBox w' z19 GA.done GA.asked GA.on (.slice p g.nd.length c) ∧ GBox w' z g.done g.asked g.on (.slice p g.nd.length c)) (S := fun _ => True) (late := fun _ => false) (by kernel_rfl) ?_
        obtain ⟨X0, hX0⟩ : ∃ X : World, X = wx.drew := ⟨_, rfl⟩
        rw [← hX0]
        have hbx : Below wx.heap.size wx X0 := by rw [hX0]; exact (Below.refl _ _).drew
        have hT0 := And.intro (HX19.out.below hbx) (HPX.out.zg.box.below hbx)
        have HPY := Lib.hid (And.intro (HPX.out.below' hbx) (And.intro (HX14.out.below hbx) (HX15.out.below hbx)))
        clear hX0 hbx HPX HX14 HX15 HX19
        refine wpTwo_takeT (i := 0) (v := .agg #[.int .i64 GA.done, .int .i64 GA.asked, .bool GA.on, .slice p g.nd.length c]) rfl (by kernel_rfl) (by kernel_rfl) (by kernel_rfl) (fun _ _ _ h => h) ⟨by rfl, ?_⟩ hT0 ?_
        · rintro w hTw
          obtain ⟨q0, q1, q2, q3⟩ := hTw.1.cells
          go_simp
        (try simp only [Act.put, List.getElem_toArray, List.getElem_cons_zero, List.setIfInBounds_toArray, List.set_cons_succ, List.set_cons_zero])
        refine wpTwo_takeT (i := 1) (v := .agg #[.int .i64 g.done, .int .i64 g.asked, .bool g.on, .slice p g.nd.length c]) rfl (by kernel_rfl) (by kernel_rfl) (by kernel_rfl) (fun _ _ _ h => h) ⟨by rfl, ?_⟩ hT0 ?_
        · rintro w hTw
          obtain ⟨q0, q1, q2, q3⟩ := hTw.2.cells
          go_simp
        (try simp only [Act.put, List.getElem_toArray, List.getElem_cons_succ, List.getElem_cons_zero, List.setIfInBounds_toArray, List.set_cons_succ, List.set_cons_zero])
        refine wpTwo_ready (rs := [2]) (by kernel_rfl) (by simp) ?_
        refine (AllTwo.cons rfl (fun K hK => ?_) AllTwo.nil)
        go_simp
        (with_reducible refine (HNX.out X0).mono ?_)
        rintro e X1 ⟨rfl, hbn⟩
        have hT1 := And.intro (hT0.1.below hbn) (hT0.2.below hbn)
        have hpy := HPY.out.1.below' hbn
        have h14 := HPY.out.2.1.below hbn
        have h15 := HPY.out.2.2.below hbn
        go_wp2_with fail
        refine hK.out _ _ ⟨hT1, fun _ _ => trivial⟩ ?_
        clear hK K hT0
        have hT0 := hT1
        (try simp only [Act.put, List.getElem_toArray, List.getElem_cons_succ, List.getElem_cons_zero, List.setIfInBounds_toArray, List.set_cons_succ, List.set_cons_zero])
        obtain ⟨e0, e1, e2, e3⟩ := h14.cells
        have m0 := h14.marks 0
        have m1 := h14.marks 1
        have m2 := h14.marks 2
        have m3 := h14.marks 3
        obtain ⟨wq, hwq⟩ : ∃ X : World, X = ((((X1.setCell ⟨z14, 0, none⟩ (.int .i64 GA.done)).setCell ⟨z14, 1, none⟩ (.int .i64 GA.asked)).setCell ⟨z14, 2, none⟩ (.bool GA.on)).setCell ⟨z14, 3, none⟩ (.slice p g.nd.length c)) := ⟨_, rfl⟩
        have hkq : Keeps (fun k => k = z14) X1 wq := by rw [hwq]; exact GBox.putK X1 z14 _ _ _ _
        have hTq := And.intro (hT0.1.keeps hkq HNE.out.1) (hT0.2.keeps hkq HNE.out.2)
        have HQ := Lib.hid (hpy.putA h14 hkq (by rw [hwq]; exact h14.put _ _ _ _) HNZ.out (show GA.nd = g.nd by rw [HEA.out.2.1]; rfl) (by have := HNZ.out; have := HZL.out; have := HSZ9.out; omega) (by have := HSZ9.out; omega))
        have HYB := Lib.hid (h15.keeps hkq (fun e => HNZ.out.1.2.2.2.1 e.symm))
        have H14 := Lib.hid (show GA.nd ≠ [] → ∀ a : Addr, p = some a → a.block ≠ z15 from fun hne a e => by have := HNZ.out.2.2 (by rwa [HEA.out.2.1] at hne) a e; have := HNZ.out.1.2.2.2.2.2; omega)
        have HWQ := Lib.hid hwq
        clear hwq hkq hpy h14 h15 hbn HPY HNX
        refine wpTwo_ready (rs := [3]) (by kernel_rfl) (by simp) ?_
        refine (AllTwo.cons rfl (fun K hK => ?_) AllTwo.nil)
        go_simp
        rw [← HWQ.out]
        refine hK.out _ _ ⟨hTq, fun _ _ => trivial⟩ ?_
        clear hK K hT0 hT1 HWQ e0 e1 e2 e3 m0 m1 m2 m3
        have hT0 := hTq
        (try simp only [Act.put, List.getElem_toArray, List.getElem_cons_succ, List.getElem_cons_zero, List.setIfInBounds_toArray, List.set_cons_succ, List.set_cons_zero])
        refine wpTwo_takeT (i := 4) (v := .int .i64 NA) rfl (by kernel_rfl) (by kernel_rfl) (by kernel_rfl) (fun _ _ _ h => h) ⟨by rfl, ?_⟩ hT0 ?_
        · rintro w hTw
          go_simp
        (try simp only [Act.put, List.getElem_toArray, List.getElem_cons_succ, List.getElem_cons_zero, List.setIfInBounds_toArray, List.set_cons_succ, List.set_cons_zero])
        refine wpTwo_takeT (i := 5) (v := .int .i64 0) rfl (by kernel_rfl) (by kernel_rfl) (by kernel_rfl) (fun _ _ _ h => h) ⟨by rfl, ?_⟩ hT0 ?_
        · rintro w hTw
          go_simp
        (try simp only [Act.put, List.getElem_toArray, List.getElem_cons_succ, List.getElem_cons_zero, List.setIfInBounds_toArray, List.set_cons_succ, List.set_cons_zero])
        refine wpTwo_end (by kernel_rfl) ?_ _
        clear hT0 hTq
        obtain ⟨d0', d1, d2, d3⟩ := HQ.out.zg.box.cells
        cases hon : g.on with
        | true =>
          have HEB := Lib.hid (show EB = 5 ∧ GB = noG by have h := HEN.out.2.2.2.1; rw [errG_good HGD.out] at h; unfold beginE at h; rw [if_pos hon] at h; exact ⟨h, by rw [HEN.out.2.2.2.2.1, h]; rfl⟩)
          rw [hon] at d2
          clear hon
          go_wp2
          go_meet
          exact ⟨p, c, none, 0, rfl, by rw [HEA.out.1], by rw [HEB.out.1], Lib.hid (HQ.out.noB HEB.out.2 HYB.out)⟩
        | false =>
          rw [hon] at d2
          by_cases hlt : g.done < g.asked
          · have HEB := Lib.hid (show EB = 0 ∧ GB = beginG g by have h := HEN.out.2.2.2.1; rw [errG_good HGD.out] at h; unfold beginE at h; rw [if_neg (by rw [hon]; exact Bool.false_ne_true), if_neg (by omega)] at h; exact ⟨h, by rw [HEN.out.2.2.2.2.1, h]; rfl⟩)
            have HBR := Lib.hid (show Calls Try.prog 15 #[.agg #[.int .i64 g.done, .int .i64 g.asked, .bool false, .slice p g.nd.length c]] wq fun e w' => RefO (wq.heap.size + 2) GB e w' ∧ Below wq.heap.size wq w' by
              have h := rbegin_c g p c HGD.out wq
              rw [hon] at h
              rwa [HEB.out.2])
            clear hon
            go_wp2_with fail
            (with_reducible refine HBR.out.mono ?_)
            rintro e wt ⟨⟨pq, cq, rfl, hB, hfar⟩, hbt⟩
            have hqt := HQ.out.below' hbt
            have ht := HYB.out.below hbt
            obtain ⟨e0, e1, e2, e3⟩ := ht.cells
            have m0 := ht.marks 0
            have m1 := ht.marks 1
            have m2 := ht.marks 2
            have m3 := ht.marks 3
            have HFIN := Lib.hid (hqt.putB ht hB (fun a e => by have := hfar a e; have := HYB.out.lt; omega) HNZ.out H14.out (by have := HNZ.out; have := HZL.out; omega))
            clear hqt ht hB hfar hbt HBR
            go_wp2
            go_meet
            exact ⟨p, c, pq, cq, rfl, by rw [HEA.out.1], by rw [HEB.out.1], HFIN⟩
          · have HEB := Lib.hid (show EB = 4 ∧ GB = noG by have h := HEN.out.2.2.2.1; have hg := HGD.out.on0 hon; rw [errG_good HGD.out] at h; unfold beginE at h; rw [if_neg (by rw [hon]; exact Bool.false_ne_true), if_pos (by omega)] at h; exact ⟨h, by rw [HEN.out.2.2.2.2.1, h]; rfl⟩)
            clear hon
            go_wp2
            go_meet
            exact ⟨p, c, none, 0, rfl, by rw [HEA.out.1], by rw [HEB.out.1], Lib.hid (HQ.out.noB HEB.out.2 HYB.out)⟩
  case rest =>
    obtain ⟨p14, c14, p15, c15, rfl, rfl, rfl, HA⟩ := hcut
    clear HP HY14 HY15
    have HSA := Lib.hid (sameR GA (.slice pa GA.nd.length ca) (.slice p14 GA.nd.length c14) wc HA.out.za.row HA.out.ya.row (by have := HA.out.sa.len; omega))
    obtain ⟨x0, x1, x2, x3⟩ := HA.out.za.box.cells
    obtain ⟨y0, y1, y2, y3⟩ := HA.out.ya.box.cells
    go_wp2_with fail
    (with_reducible refine HSA.out.mono ?_)
    rintro e wd ⟨rfl, hbd⟩
    replace HA := Lib.hid (HA.out.below' hbd)
    clear hbd HSA x0 x1 x2 x3 y0 y1 y2 y3
    have HSB := Lib.hid (sameR GB (.slice pb GB.nd.length cb) (.slice p15 GB.nd.length c15) wd HA.out.zb.row HA.out.yb.row (by have := HA.out.sb.len; omega))
    obtain ⟨x0, x1, x2, x3⟩ := HA.out.zb.box.cells
    obtain ⟨y0, y1, y2, y3⟩ := HA.out.yb.box.cells
    go_wp2_with fail
    (with_reducible refine HSB.out.mono ?_)
    rintro e we ⟨rfl, hbe⟩
    replace HA := Lib.hid (HA.out.below' hbe)
    clear hbe HSB x0 x1 x2 x3 y0 y1 y2 y3
    have HPO := Lib.hid (spoilU wb.heap.size GA pa ca we HA.out.sa)
    obtain ⟨x0, x1, x2, x3⟩ := HA.out.za.box.cells
    have HBG := Lib.hid (show wb.heap.size ≤ we.heap.size by have := HA.out.yb.box.lt; have := HNZ.out.1.2.2.2.2.2; omega)
    go_wp2_with fail
    (with_reducible refine HPO.out.mono ?_)
    rintro e wf ⟨rfl, hkf⟩
    have HR1 := Lib.hid (HA.out.spoilA hkf (by have := HZL.out; omega) HRL.out HPAB.out HBG.out)
    clear hkf HPO HA x0 x1 x2 x3 HBG
    have HPO := Lib.hid (spoilU wb.heap.size GB pb cb wf HR1.out.sb)
    obtain ⟨x0, x1, x2, x3⟩ := HR1.out.zb.cells
    go_wp2_with fail
    (with_reducible refine HPO.out.mono ?_)
    rintro e wh ⟨rfl, hkh⟩
    have HLP := Lib.hid (HR1.out.lp.spoil hkh (by have := HZL.out; omega) HRL.out)
    clear hkh HPO HR1 x0 x1 x2 x3
    clear HNZ HSZ9 HPAB
    go_wp2_with fail
    go_loopw [100] (fun iv wx => ∃ k : Nat, k ≤ ls.length ∧ iv = .int .i64 (k : Int) ∧ Hid (LpI W wb.heap.size z d0 a0 on0 (.slice p0 n0 c0) g p c wx)) (fun iv _ => ls.length - (intOf iv).toNat)
    case atStart => exact ⟨0, Nat.zero_le _, rfl, HLP⟩
    case round =>
      clear HLP
      obtain ⟨k, hk, rfl, HLP⟩ := hrel
      by_cases hkl : k < ls.length
      · obtain ⟨x, hx⟩ : ∃ x, x = ls[k] := ⟨_, rfl⟩
        obtain ⟨up', uc', eu, hcu⟩ := nums_below HU.out HLP.out.below
        injection eu with eu1 eu2 eu3
        subst eu1
        obtain ⟨lb, lo, rfl, hcu2⟩ := hcu (by intro e; rw [e] at hkl; cases hkl)
        have hcx := hcu2 k hkl
        rw [← hx] at hcx
        clear hcu hcu2 eu2 eu3 hx
        have hk0 : (0 : Int) ≤ (k : Int) := by omega
        have hkx : (k : Int) < (ls.length : Int) := by omega
        by_cases hk6 : k = 6
        · have hq6 : ((k : Int) == 6) = true := by rw [hk6]; rfl
          clear hk6
          go_upto_region 42 with fail
          refine wpTwo_begin (T := fun w' => GBox w' z g.done g.asked g.on (.slice p g.nd.length c) ∧ GBox w' W.heap.size d0 a0 on0 (.slice p0 n0 c0)) (S := fun _ => True) (late := fun _ => false) (by kernel_rfl) ?_
          obtain ⟨X0, hX0⟩ : ∃ X : World, X = wr.drew := ⟨_, rfl⟩
          rw [← hX0]
          have hbx : Below wr.heap.size wr X0 := by rw [hX0]; exact (Below.refl _ _).drew
          have HLX := Lib.hid (HLP.out.below' hbx)
          have hT0 := And.intro HLX.out.zg.box HLX.out.zx
          have HOW := Lib.hid (show Calls Try.prog 9 #[.agg #[.int .i64 d0, .int .i64 a0, .bool on0, .slice p0 n0 c0]] X0 fun e w' => GivesG X0.heap.size g e w' ∧ Below X0.heap.size X0 w' by
            have h := own12_c d0 a0 on0 (.slice p0 n0 c0) xs X0 (HAR.out.below HLX.out.below) HX.out
            rwa [← HG.out] at h)
          clear hX0 hbx HLP
          refine wpTwo_takeT (i := 0) (v := .agg #[.int .i64 g.done, .int .i64 g.asked, .bool g.on, .slice p g.nd.length c]) rfl (by kernel_rfl) (by kernel_rfl) (by kernel_rfl) (fun _ _ _ h => h) ⟨by rfl, ?_⟩ hT0 ?_
          · rintro w hTw
            obtain ⟨q0, q1, q2, q3⟩ := hTw.1.cells
            go_simp
          (try simp only [Act.put, List.getElem_toArray, List.getElem_cons_zero, List.setIfInBounds_toArray, List.set_cons_succ, List.set_cons_zero])
          refine wpTwo_takeT (i := 1) (v := .agg #[.int .i64 d0, .int .i64 a0, .bool on0, .slice p0 n0 c0]) rfl (by kernel_rfl) (by kernel_rfl) (by kernel_rfl) (fun _ _ _ h => h) ⟨by rfl, ?_⟩ hT0 ?_
          · rintro w hTw
            obtain ⟨q0, q1, q2, q3⟩ := hTw.2.cells
            go_simp
          (try simp only [Act.put, List.getElem_toArray, List.getElem_cons_succ, List.getElem_cons_zero, List.setIfInBounds_toArray, List.set_cons_succ, List.set_cons_zero])
          refine wpTwo_ready (rs := [2]) (by kernel_rfl) (by simp) ?_
          refine (AllTwo.cons rfl (fun K hK => ?_) AllTwo.nil)
          go_simp
          (with_reducible refine HOW.out.mono ?_)
          rintro e X1 ⟨⟨pz, cz, rfl, hoz⟩, hb1⟩
          have hL1 := HLX.out.below' hb1
          have hT1 := And.intro hL1.zg.box hL1.zx
          have HSM := Lib.hid (sameR g (.slice p g.nd.length c) (.slice pz g.nd.length cz) X1 hL1.zg.row (bools_of_owns rfl hoz) HXL.out)
          have HL1 := Lib.hid hL1
          clear hb1 hoz hL1 HOW
          go_wp2_with fail
          refine hK.out _ _ ⟨hT1, fun _ _ => trivial⟩ ?_
          clear hK K hT0
          (try simp only [Act.put, List.getElem_toArray, List.getElem_cons_succ, List.getElem_cons_zero, List.setIfInBounds_toArray, List.set_cons_succ, List.set_cons_zero])
          refine wpTwo_ready (rs := [3]) (by kernel_rfl) (by simp) ?_
          refine (AllTwo.cons rfl (fun K hK => ?_) AllTwo.nil)
          go_simp
          (with_reducible refine HSM.out.mono ?_)
          rintro e X2 ⟨rfl, hb2⟩
          have hL2 := HL1.out.below' hb2
          have hT0 := And.intro hL2.zg.box hL2.zx
          have HL2 := Lib.hid hL2
          clear hb2 hL2 hT1
          go_wp2_with fail
          refine hK.out _ _ ⟨hT0, fun _ _ => trivial⟩ ?_
          clear hK K
          (try simp only [Act.put, List.getElem_toArray, List.getElem_cons_succ, List.getElem_cons_zero, List.setIfInBounds_toArray, List.set_cons_succ, List.set_cons_zero])
          refine wpTwo_takeT (i := 4) (v := .bool true) rfl (by kernel_rfl) (by kernel_rfl) (by kernel_rfl) (fun _ _ _ h => h) ⟨by rfl, ?_⟩ hT0 ?_
          · rintro w hTw
            go_simp
          (try simp only [Act.put, List.getElem_toArray, List.getElem_cons_succ, List.getElem_cons_zero, List.setIfInBounds_toArray, List.set_cons_succ, List.set_cons_zero])
          refine wpTwo_end (by kernel_rfl) ?_ _
          clear hT0
          go_wp2
          go_ret
          exact ⟨rfl, HL2.out.below⟩
        · have hq6 : ((k : Int) == 6) = false := by rw [beq_eq_false_iff_ne]; omega
          obtain ⟨EP, hEP⟩ : ∃ E, E = errG g (reportE g x) := ⟨_, rfl⟩
          obtain ⟨GP, hGP⟩ : ∃ G, G = orNo EP (reportG g x.toNat) := ⟨_, rfl⟩
          obtain ⟨EQ, hEQ⟩ : ∃ E, E = errG g (pickE g x) := ⟨_, rfl⟩
          obtain ⟨GQ, hGQ⟩ : ∃ G, G = orNo EQ (pickG g x.toNat q) := ⟨_, rfl⟩
          have HEP := Lib.hid (And.intro hEP (And.intro hGP (And.intro hEQ hGQ)))
          have HRP := Lib.hid (reportU g (.slice p g.nd.length c) x wr HLP.out.zg.row HXL.out GP EP hEP hGP)
          clear hEP hGP hEQ hGQ
          obtain ⟨y0, y1, y2, y3⟩ := HLP.out.zg.box.cells
          go_upto_region 26 with fail
          go_wp2_with fail
          (with_reducible refine HRP.out.mono ?_)
          rintro e w5 ⟨⟨pp, cp, rfl, hsp⟩, hb5⟩
          obtain ⟨w6, hw6⟩ : ∃ X : World, X = w5.alloc (.cells #[.int .i64 GP.done, .int .i64 GP.asked, .bool GP.on, .slice pp GP.nd.length cp] 24) := ⟨_, rfl⟩
          obtain ⟨z23, hz23⟩ : ∃ z, z = w5.heap.size := ⟨_, rfl⟩
          have hb6 : Below w5.heap.size w5 w6 := by rw [hw6]; exact below1 _ _
          have HL6 := Lib.hid ((HLP.out.below' hb5).below' hb6)
          have HSP6 := Lib.hid ((hsp.below hb6).mono HLP.out.big)
          have HZP6 := Lib.hid (show GzAt w6 z23 GP pp cp from ⟨by rw [hw6, hz23]; exact GBox.new _ _ _ _ _, HSP6.out.bools⟩)
          have HN23 := Lib.hid (show wb.heap.size ≤ z23 by have := HLP.out.big; have := hb5.size; omega)
          have HRQ := Lib.hid (pickU g (.slice p g.nd.length c) x q w6 HL6.out.zg.row HXL.out GQ EQ HEP.out.2.2.1 HEP.out.2.2.2)
          have HW6 := Lib.hid (And.intro hw6 hz23)
          clear hb5 hb6 hsp hw6 hz23 HRP HLP y0 y1 y2 y3
          obtain ⟨y0, y1, y2, y3⟩ := HL6.out.zg.box.cells
          go_upto_region 27 with fail
          rw [← HW6.out.1, ← HW6.out.2]
          clear HW6
          go_wp2_with fail
          (with_reducible refine HRQ.out.mono ?_)
          rintro e w7 ⟨⟨pq, cq, rfl, hsq⟩, hb7⟩
          obtain ⟨w8, hw8⟩ : ∃ X : World, X = w7.alloc (.cells #[.int .i64 GQ.done, .int .i64 GQ.asked, .bool GQ.on, .slice pq GQ.nd.length cq] 24) := ⟨_, rfl⟩
          obtain ⟨z25, hz25⟩ : ∃ z, z = w7.heap.size := ⟨_, rfl⟩
          have hb8 : Below w7.heap.size w7 w8 := by rw [hw8]; exact below1 _ _
          obtain ⟨w9, hw9⟩ : ∃ X : World, X = (w8.alloc (.cells #[.int .i64 0, .int .i64 0, .bool false, .slice none 0 0] 24)).alloc (.cells #[.int .i64 0, .int .i64 0, .bool false, .slice none 0 0] 24) := ⟨_, rfl⟩
          obtain ⟨z27, hz27⟩ : ∃ z, z = w8.heap.size := ⟨_, rfl⟩
          obtain ⟨z28, hz28⟩ : ∃ z, z = w8.heap.size + 1 := ⟨_, rfl⟩
          have hb9 : Below w8.heap.size w8 w9 := by rw [hw9]; exact below2 _ _ _
          have hb69 := below_then (below_then hb7 hb7.size hb8) (below_then hb7 hb7.size hb8).size hb9
          have HPAB := Lib.hid (show ∀ q, pq = some ⟨q, 0, none⟩ → pp = some ⟨q, 0, none⟩ → False from fun q e1 e2 => by have := HSP6.out.lt q e2; have := hsq.lt q e1; omega)
          have HSQ9 := Lib.hid (((hsq.below hb8).below hb9).mono HL6.out.big)
          have HZQ9 := Lib.hid (show GzAt w9 z25 GQ pq cq from ⟨(show GBox w8 z25 _ _ _ _ by rw [hw8, hz25]; exact GBox.new _ _ _ _ _).below hb9, HSQ9.out.bools⟩)
          have HL9 := Lib.hid (HL6.out.below' hb69)
          have HY27 := Lib.hid (show GBox w9 z27 0 0 false (.slice none 0 0) by rw [hw9, hz27]; exact (GBox.new w8 0 0 false (.slice none 0 0)).below (below1 _ _))
          have HY28 := Lib.hid (show GBox w9 z28 0 0 false (.slice none 0 0) by
            rw [hw9, hz28]
            have := GBox.new (w8.alloc (.cells #[.int .i64 0, .int .i64 0, .bool false, .slice none 0 0] 24)) 0 0 false (.slice none 0 0)
            simpa using this)
          have HNZ := Lib.hid (show (z ≠ z27 ∧ z25 ≠ z27 ∧ z23 ≠ z27 ∧ z28 ≠ z27 ∧ W.heap.size ≠ z27 ∧ wb.heap.size ≤ z27) ∧ (z ≠ z28 ∧ z25 ≠ z28 ∧ z23 ≠ z28 ∧ W.heap.size ≠ z28) ∧ (g.nd ≠ [] → ∀ a : Addr, p = some a → a.block < wb.heap.size) by
            have := HZP6.out.box.lt; have := hb7.size; have := hb8.size; have := HN23.out; have := HZL.out
            have h1 : w8.heap.size = w7.heap.size + 1 := by rw [hw8]; simp
            exact ⟨by omega, by omega, HRL.out⟩)
          have HSZ := Lib.hid (show wb.heap.size ≤ z28 ∧ W.heap.size ≤ z27 ∧ W.heap.size ≤ z28 by have := HNZ.out; have := HZL.out; omega)
          have HP := Lib.hid (show StP W wb.heap.size z z25 z23 d0 a0 on0 (.slice p0 n0 c0) g GQ GP p pq pp c cq cp w9 from ⟨HL9.out.zg, HZQ9.out, HZP6.out.below hb69, HSQ9.out, HSP6.out.below hb69, HL9.out.zx, HL9.out.below⟩)
          have HW8 := Lib.hid (And.intro hw8 hz25)
          have HW9 := Lib.hid (And.intro hw9 (And.intro hz27 hz28))
          clear hb7 hb8 hb9 hb69 hsq hw8 hz25 hw9 hz27 hz28 HRQ HL6 HSP6 HZP6 HN23 HSQ9 HZQ9 HL9 y0 y1 y2 y3
          go_upto_region 28 with fail
          rw [← HW8.out.1, ← HW8.out.2]
          clear HW8
          go_upto_region 29 with fail
          rw [← HW9.out.1, ← HW9.out.2.2, ← HW9.out.2.1]
          clear HW9
          go_upto_if 120 with fail
          go_cut [29, 30] (fun s29 s30 wc => ∃ (p28 : Option Addr) (c28 : Nat) (p27 : Option Addr) (c27 : Nat), s29 = .int .i64 EP ∧ s30 = .int .i64 EQ ∧ Hid (StA W wb.heap.size z z25 z23 z28 z27 d0 a0 on0 (.slice p0 n0 c0) g GQ GP p pq pp c cq cp p28 p27 c28 c27 wc))
          case first => as_aux_lemma =>
            cases R with
            | false =>
              have HM := Lib.hid (show mayG g = false from HEN.out.2.2.2.2.2.symm)
              have HE2 := Lib.hid (show ∀ e, errG g e = 220 from fun e => by unfold errG; rw [HM.out]; rfl)
              have HEA := Lib.hid (show (EP = 220 ∧ GP = noG) ∧ EQ = 220 ∧ GQ = noG by
                have h := HEP.out.1
                rw [HE2.out] at h
                have h' := HEP.out.2.2.1
                rw [HE2.out] at h'
                exact ⟨⟨h, by rw [HEP.out.2.1, h]; rfl⟩, h', by rw [HEP.out.2.2.2, h']; rfl⟩)
              go_wp2
              go_meet
              exact ⟨none, 0, none, 0, by rw [HEA.out.1.1], by rw [HEA.out.2.1], Lib.hid ((HP.out.noA HEA.out.2.2 HY28.out (z15 := z27)).noB HEA.out.1.2 HY27.out)⟩
            | true =>
              have HGD := Lib.hid ((goodG_iff g).1 HEN.out.2.2.2.2.2.symm)
              obtain ⟨d0', d1, d2, d3⟩ := HP.out.zg.box.cells
              have h8 := HGD.out.l8
              by_cases hh : hasB g.nd.length x = true
              · obtain ⟨i, rfl, hi⟩ := (has_iff _ _).1 hh
                have HEQ := Lib.hid (show EQ = 0 ∧ GQ = pickG g i q by
                  have h := HEP.out.2.2.1
                  rw [errG_good HGD.out] at h
                  unfold pickE at h
                  rw [if_neg (by rw [hh]; exact Bool.noConfusion)] at h
                  exact ⟨h, by rw [HEP.out.2.2.2, h, Int.toNat_natCast]; rfl⟩)
                have HPK := Lib.hid (show Calls Try.prog 20 #[.agg #[.int .i64 g.done, .int .i64 g.asked, .bool g.on, .slice p g.nd.length c], .int .i64 (i : Int), .bool q] w9 fun e w' => RefX w9.heap.size p GQ e w' ∧ Below w9.heap.size w9 w' by
                  have h := rpick_c g p g.nd.length c i q rfl HGD.out hi w9 HP.out.zg.row
                  rwa [← HEQ.out.2] at h)
                have HHH := Lib.hid (And.intro hh hi)
                have hi0 : (0 : Int) ≤ (i : Int) := by omega
                have hin : (i : Int) < (g.nd.length : Int) := by omega
                have hi1 : decide ((0 : Int) ≤ (i : Int)) = true := decide_eq_true hi0
                have hi2 : decide ((i : Int) < (g.nd.length : Int)) = true := decide_eq_true hin
                clear hh hi
                go_upto_region 33 with fail
                go_wp2_with fail
                (with_reducible refine HPK.out.mono ?_)
                rintro e wt ⟨⟨p28, c28, rfl, hB, hfar⟩, hbt⟩
                have hpt := HP.out.below' hbt
                have h28 := HY28.out.below hbt
                have h27 := HY27.out.below hbt
                have hne : g.nd ≠ [] := fun e => by have := HHH.out.2; rw [e] at this; cases this
                have hf : ∀ (y : Nat), wb.heap.size ≤ y → y < w9.heap.size → ∀ a : Addr, p28 = some a → a.block ≠ y := fun y h1 h2 a e => by
                  rcases hfar with h | h
                  · rw [h] at e; have := HRL.out hne a e; omega
                  · have := h a e; omega
                obtain ⟨e0, e1, e2, e3⟩ := h28.cells
                have m0 := h28.marks 0
                have m1 := h28.marks 1
                have m2 := h28.marks 2
                have m3 := h28.marks 3
                obtain ⟨wq, hwq⟩ : ∃ X : World, X = ((((wt.setCell ⟨z28, 0, none⟩ (.int .i64 GQ.done)).setCell ⟨z28, 1, none⟩ (.int .i64 GQ.asked)).setCell ⟨z28, 2, none⟩ (.bool GQ.on)).setCell ⟨z28, 3, none⟩ (.slice p28 GQ.nd.length c28)) := ⟨_, rfl⟩
                have HQ := Lib.hid (show StQ W wb.heap.size z z25 z23 z28 z27 d0 a0 on0 (.slice p0 n0 c0) g GQ GP p pq pp c cq cp p28 c28 wq by rw [hwq]; exact hpt.putA2 h28 hB (hf z28 HSZ.out.1 HY28.out.lt) HNZ.out HSZ.out.2.2 HSZ.out.1)
                have HYB := Lib.hid (show GBox wq z27 0 0 false (.slice none 0 0) by rw [hwq]; exact h27.keeps (GBox.putK wt z28 _ _ _ _) (fun e => HNZ.out.1.2.2.2.1 e.symm))
                have H14 := Lib.hid (show GQ.nd ≠ [] → ∀ a : Addr, p28 = some a → a.block ≠ z27 from fun _ => hf z27 HNZ.out.1.2.2.2.2.2 HY27.out.lt)
                have HWQ := Lib.hid hwq
                have HB9 := Lib.hid (show w9.heap.size ≤ wq.heap.size by rw [hwq]; simpa using hbt.size)
                clear hpt h28 h27 hne hf hB hfar hbt hwq HPK d0' d1 d2 d3
                go_upto_region 34 with fail
                rw [← HWQ.out]
                clear HWQ e0 e1 e2 e3 m0 m1 m2 m3
                obtain ⟨d0', d1, d2, d3⟩ := HQ.out.zg.box.cells
                cases hon : g.on with
                | true =>
                  rw [hon] at d2
                  have HER := Lib.hid (show EP = 0 ∧ GP = reportG g i by
                    have h := HEP.out.1
                    rw [errG_good HGD.out] at h
                    unfold reportE at h
                    rw [if_neg (by rw [HHH.out.1]; exact Bool.noConfusion), if_pos hon] at h
                    exact ⟨h, by rw [HEP.out.2.1, h, Int.toNat_natCast]; rfl⟩)
                  have HRR := Lib.hid (show Calls Try.prog 21 #[.agg #[.int .i64 g.done, .int .i64 g.asked, .bool true, .slice p g.nd.length c], .int .i64 (i : Int)] wq fun e w' => RefO (wq.heap.size + 2) GP e w' ∧ Below wq.heap.size wq w' by
                    have h := rreport_c g (.slice p g.nd.length c) i HGD.out hon HHH.out.2 wq HQ.out.zg.row
                    rwa [hon, ← HER.out.2] at h)
                  clear hon
                  go_wp2_with fail
                  (with_reducible refine HRR.out.mono ?_)
                  rintro e wt ⟨⟨p27, c27, rfl, hB, hfar⟩, hbt⟩
                  have hqt := HQ.out.below' hbt
                  have ht := HYB.out.below hbt
                  obtain ⟨e0, e1, e2, e3⟩ := ht.cells
                  have m0 := ht.marks 0
                  have m1 := ht.marks 1
                  have m2 := ht.marks 2
                  have m3 := ht.marks 3
                  have HFIN := Lib.hid (hqt.putB ht hB (fun a e => by have := hfar a e; have := HYB.out.lt; omega) HNZ.out H14.out HSZ.out.2.1)
                  clear hqt ht hB hfar hbt HRR
                  go_wp2
                  go_meet
                  exact ⟨p28, c28, p27, c27, by rw [HER.out.1], by rw [HEQ.out.1], HFIN⟩
                | false =>
                  rw [hon] at d2
                  have HER := Lib.hid (show EP = 4 ∧ GP = noG by
                    have h := HEP.out.1
                    rw [errG_good HGD.out] at h
                    unfold reportE at h
                    rw [if_neg (by rw [HHH.out.1]; exact Bool.noConfusion), if_neg (by rw [hon]; exact Bool.false_ne_true)] at h
                    exact ⟨h, by rw [HEP.out.2.1, h]; rfl⟩)
                  clear hon
                  go_wp2
                  go_meet
                  exact ⟨p28, c28, none, 0, by rw [HER.out.1], by rw [HEQ.out.1], Lib.hid (HQ.out.noB HER.out.2 HYB.out)⟩
              · have hhf : hasB g.nd.length x = false := by simpa using hh
                have HEA := Lib.hid (show (EP = 2 ∧ GP = noG) ∧ EQ = 2 ∧ GQ = noG by
                  have h := HEP.out.1
                  rw [errG_good HGD.out] at h
                  unfold reportE at h
                  rw [if_pos hhf] at h
                  have h' := HEP.out.2.2.1
                  rw [errG_good HGD.out] at h'
                  unfold pickE at h'
                  rw [if_pos hhf] at h'
                  exact ⟨⟨h, by rw [HEP.out.2.1, h]; rfl⟩, h', by rw [HEP.out.2.2.2, h']; rfl⟩)
                have hxx : x < 0 ∨ (g.nd.length : Int) ≤ x := by
                  unfold hasB at hhf
                  simp at hhf
                  omega
                clear hh hhf
                rcases hxx with hxx | hxx
                · have hi1 : decide ((0 : Int) ≤ x) = false := decide_eq_false (by omega)
                  go_wp2
                  go_meet
                  exact ⟨none, 0, none, 0, by rw [HEA.out.1.1], by rw [HEA.out.2.1], Lib.hid ((HP.out.noA HEA.out.2.2 HY28.out (z15 := z27)).noB HEA.out.1.2 HY27.out)⟩
                · have hi1 : decide ((0 : Int) ≤ x) = true := decide_eq_true (by omega)
                  have hi2 : decide (x < (g.nd.length : Int)) = false := decide_eq_false (by omega)
                  go_wp2
                  go_meet
                  exact ⟨none, 0, none, 0, by rw [HEA.out.1.1], by rw [HEA.out.2.1], Lib.hid ((HP.out.noA HEA.out.2.2 HY28.out (z15 := z27)).noB HEA.out.1.2 HY27.out)⟩
          case rest => as_aux_lemma =>
            obtain ⟨p28, c28, p27, c27, rfl, rfl, HA⟩ := hcut
            clear HP HY27 HY28
            have HSA := Lib.hid (sameR GP (.slice pp GP.nd.length cp) (.slice p27 GP.nd.length c27) wc HA.out.zb.row HA.out.yb.row (by have := HA.out.sb.len; omega))
            obtain ⟨x0, x1, x2, x3⟩ := HA.out.zb.box.cells
            obtain ⟨y0, y1, y2, y3⟩ := HA.out.yb.box.cells
            go_wp2_with fail
            (with_reducible refine HSA.out.mono ?_)
            rintro e wd ⟨rfl, hbd⟩
            replace HA := Lib.hid (HA.out.below' hbd)
            clear hbd HSA x0 x1 x2 x3 y0 y1 y2 y3
            have HSB := Lib.hid (sameR GQ (.slice pq GQ.nd.length cq) (.slice p28 GQ.nd.length c28) wd HA.out.za.row HA.out.ya.row (by have := HA.out.sa.len; omega))
            obtain ⟨x0, x1, x2, x3⟩ := HA.out.za.box.cells
            obtain ⟨y0, y1, y2, y3⟩ := HA.out.ya.box.cells
            go_wp2_with fail
            (with_reducible refine HSB.out.mono ?_)
            rintro e we ⟨rfl, hbe⟩
            replace HA := Lib.hid (HA.out.below' hbe)
            clear hbe HSB x0 x1 x2 x3 y0 y1 y2 y3
            have HPO := Lib.hid (spoilU wb.heap.size GP pp cp we HA.out.sb)
            obtain ⟨x0, x1, x2, x3⟩ := HA.out.zb.box.cells
            have HBG := Lib.hid (show wb.heap.size ≤ we.heap.size by have := HA.out.yb.box.lt; have := HNZ.out.1.2.2.2.2.2; omega)
            go_wp2_with fail
            (with_reducible refine HPO.out.mono ?_)
            rintro e wf ⟨rfl, hkf⟩
            have HR1 := Lib.hid (HA.out.spoilB hkf (by have := HZL.out; omega) HRL.out HPAB.out HBG.out)
            clear hkf HPO HA x0 x1 x2 x3 HBG
            have HPO := Lib.hid (spoilU wb.heap.size GQ pq cq wf HR1.out.sb)
            obtain ⟨x0, x1, x2, x3⟩ := HR1.out.zb.cells
            go_wp2_with fail
            (with_reducible refine HPO.out.mono ?_)
            rintro e wh ⟨rfl, hkh⟩
            have HLP := Lib.hid (HR1.out.lp.spoil hkh (by have := HZL.out; omega) HRL.out)
            clear hkh HPO HR1 x0 x1 x2 x3
            go_wp2_with fail
            go_roundw
            case rel => exact ⟨k + 1, by omega, by go_num, HLP⟩
            case measure => simp [intOf]; omega
      · obtain rfl : k = ls.length := by omega
        go_upto_region 42 with fail
        refine wpTwo_begin (T := fun w' => GBox w' z g.done g.asked g.on (.slice p g.nd.length c) ∧ GBox w' W.heap.size d0 a0 on0 (.slice p0 n0 c0)) (S := fun _ => True) (late := fun _ => false) (by kernel_rfl) ?_
        obtain ⟨X0, hX0⟩ : ∃ X : World, X = wr.drew := ⟨_, rfl⟩
        rw [← hX0]
        have hbx : Below wr.heap.size wr X0 := by rw [hX0]; exact (Below.refl _ _).drew
        have HLX := Lib.hid (HLP.out.below' hbx)
        have hT0 := And.intro HLX.out.zg.box HLX.out.zx
        have HOW := Lib.hid (show Calls Try.prog 9 #[.agg #[.int .i64 d0, .int .i64 a0, .bool on0, .slice p0 n0 c0]] X0 fun e w' => GivesG X0.heap.size g e w' ∧ Below X0.heap.size X0 w' by
          have h := own12_c d0 a0 on0 (.slice p0 n0 c0) xs X0 (HAR.out.below HLX.out.below) HX.out
          rwa [← HG.out] at h)
        clear hX0 hbx HLP
        refine wpTwo_takeT (i := 0) (v := .agg #[.int .i64 g.done, .int .i64 g.asked, .bool g.on, .slice p g.nd.length c]) rfl (by kernel_rfl) (by kernel_rfl) (by kernel_rfl) (fun _ _ _ h => h) ⟨by rfl, ?_⟩ hT0 ?_
        · rintro w hTw
          obtain ⟨q0, q1, q2, q3⟩ := hTw.1.cells
          go_simp
        (try simp only [Act.put, List.getElem_toArray, List.getElem_cons_zero, List.setIfInBounds_toArray, List.set_cons_succ, List.set_cons_zero])
        refine wpTwo_takeT (i := 1) (v := .agg #[.int .i64 d0, .int .i64 a0, .bool on0, .slice p0 n0 c0]) rfl (by kernel_rfl) (by kernel_rfl) (by kernel_rfl) (fun _ _ _ h => h) ⟨by rfl, ?_⟩ hT0 ?_
        · rintro w hTw
          obtain ⟨q0, q1, q2, q3⟩ := hTw.2.cells
          go_simp
        (try simp only [Act.put, List.getElem_toArray, List.getElem_cons_succ, List.getElem_cons_zero, List.setIfInBounds_toArray, List.set_cons_succ, List.set_cons_zero])
        refine wpTwo_ready (rs := [2]) (by kernel_rfl) (by simp) ?_
        refine (AllTwo.cons rfl (fun K hK => ?_) AllTwo.nil)
        go_simp
        (with_reducible refine HOW.out.mono ?_)
        rintro e X1 ⟨⟨pz, cz, rfl, hoz⟩, hb1⟩
        have hL1 := HLX.out.below' hb1
        have hT1 := And.intro hL1.zg.box hL1.zx
        have HSM := Lib.hid (sameR g (.slice p g.nd.length c) (.slice pz g.nd.length cz) X1 hL1.zg.row (bools_of_owns rfl hoz) HXL.out)
        have HL1 := Lib.hid hL1
        clear hb1 hoz hL1 HOW
        go_wp2_with fail
        refine hK.out _ _ ⟨hT1, fun _ _ => trivial⟩ ?_
        clear hK K hT0
        (try simp only [Act.put, List.getElem_toArray, List.getElem_cons_succ, List.getElem_cons_zero, List.setIfInBounds_toArray, List.set_cons_succ, List.set_cons_zero])
        refine wpTwo_ready (rs := [3]) (by kernel_rfl) (by simp) ?_
        refine (AllTwo.cons rfl (fun K hK => ?_) AllTwo.nil)
        go_simp
        (with_reducible refine HSM.out.mono ?_)
        rintro e X2 ⟨rfl, hb2⟩
        have hL2 := HL1.out.below' hb2
        have hT0 := And.intro hL2.zg.box hL2.zx
        have HL2 := Lib.hid hL2
        clear hb2 hL2 hT1
        go_wp2_with fail
        refine hK.out _ _ ⟨hT0, fun _ _ => trivial⟩ ?_
        clear hK K
        (try simp only [Act.put, List.getElem_toArray, List.getElem_cons_succ, List.getElem_cons_zero, List.setIfInBounds_toArray, List.set_cons_succ, List.set_cons_zero])
        refine wpTwo_takeT (i := 4) (v := .bool true) rfl (by kernel_rfl) (by kernel_rfl) (by kernel_rfl) (fun _ _ _ h => h) ⟨by rfl, ?_⟩ hT0 ?_
        · rintro w hTw
          go_simp
        (try simp only [Act.put, List.getElem_toArray, List.getElem_cons_succ, List.getElem_cons_zero, List.setIfInBounds_toArray, List.set_cons_succ, List.set_cons_zero])
        refine wpTwo_end (by kernel_rfl) ?_ _
        clear hT0
        go_wp2
        go_ret
        exact ⟨rfl, HL2.out.below⟩

end Go.Proofs.Ytfnpokddoffplaa
namespace Go.Proofs.Ytfnpokddoffplaa
open Go.RowKit Go.Shelf
open Go.ChangeShapes Go.WideShapes Go.ChangeAt Go.Deep
open Go.ChangeMaps (open_string shut_string)

set_option maxRecDepth 100000 in
theorem graceSteps_lifted (os : Os) (started : os.Started) (H : Type) (enc : TypeId × Value → H) :
    ReturnsInHanded {} Try.checked os 3 .any (Rows.graceStepsSpec.pre6 enc Try.prog Try.f3 Rows.graceStepsRow.domain false) (Rows.graceStepsSpec.post enc Try.prog Try.f3 false true false false) := by
  refine returnsInHanded_of_change (C := Try.checked) own started (by kernel_rfl) Try.func3
    (ChangeSpec.witness6 (enc := enc) (C := Try.checked) false ⟨#[], #[.agg #[.int .i64 0, .int .i64 0, .bool false, .slice none 0 0], .slice none 0 0, .bool false], []⟩ 8 (by kernel_rfl) (by kernel_rfl) (by kernel_rfl) (by kernel_rfl)) ?_
  intro W base args ds gs before hval0 hW hcnd _
  have hval : ∀ (j : Nat) t v, Try.f3.params[j]? = some t → args[j]? = some v → Value.okWide Try.prog W .any base t v := hval0
  have hW' := hW
  obtain ⟨p, q, hA0, hV, rfl, hfz, hnd⟩ := hW
  have hA : DataW.TrodAll enc Try.prog W 0 (fun _ => true) true Try.f3.params.toList args.toList ds p := hA0
  rw [Try.params3] at hA hval
  have hA2 := hA
  obtain ⟨v0, vs0, d0, ds0, pp0, qq0, hargs, rfl, rfl, h0, r0⟩ := trodAll_cons hA
  obtain ⟨v1, vs1, d1, ds1, pp1, qq1, rfl, rfl, rfl, h1, r1⟩ := trodAll_cons r0
  obtain ⟨v2, vs2, d2, ds2, pp2, qq2, rfl, rfl, rfl, h2, r2⟩ := trodAll_cons r1
  obtain ⟨rfl, rfl, rfl⟩ := trodAll_nil r2
  obtain rfl : args = #[v0, v1, v2] := by cases args; simp_all
  obtain ⟨rfl, rfl⟩ := trodVars_none hV
  obtain ⟨k0, m0, f0, u0, x0, rfl, a0, l0, i0, w0⟩ := grace_open (hval 0 24 v0 rfl rfl) h0
  obtain ⟨x1, a1, r1, l1⟩ := nums_open Try.underlying25 Try.underlying3 (by kernel_rfl) (hval 1 25 v1 rfl rfl) h1
  obtain ⟨b2, rfl, rfl, rfl⟩ := open_bool Try.underlying4 (hval 2 4 v2 rfl rfl) h2
  clear hA0 hval0
  simp only [List.append_nil] at hW'
  refine (graceSteps_c k0 m0 f0 u0 x0 v1 x1 b2 W a0 l0 a1 l1).mono fun e W' ⟨he, hb⟩ => ?_
  subst he
  exact ⟨_, rfl, _, _, _, [], _, [], hW', trodAll_cons_mk (shut_bool Try.underlying4 _) trodAll_mk0, trodAll_stays laidOut hb (by kernel_rfl) hA2 (fun x hx => by simpa using hW'.lt x (by simpa using hx)), rfl, hb.frame _, fun h => by cases h⟩

theorem graceSteps_holds : Rows.GraceStepsSaid :=
  OpenClaim.holds_of_wide 3 Try.f3 rfl rfl rfl rfl rfl rfl rfl ⟨rfl, rfl, rfl, rfl, rfl⟩ rfl rfl rfl rfl rfl (by kernel_rfl) Try.func3 (by kernel_rfl)
    (of_decide_eq_true (by kernel_rfl)) (by unfold Func.isWrapper; first | (rw [if_pos (by decide +kernel)]; kernel_rfl) | (rw [if_neg (by decide +kernel)]; exact ⟨rfl, rfl⟩))
    (fun os started H enc _ => graceSteps_lifted os started H enc)

end Go.Proofs.Ytfnpokddoffplaa
