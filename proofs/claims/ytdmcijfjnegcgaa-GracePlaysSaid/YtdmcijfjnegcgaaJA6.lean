/-
  Regions that draw their order, one state at a time; a region's operations, out of the function's text.
  Conditions: as each has them.
-/
import Derived.Test.YtdmcijfjnegcgaaJA5
import Derived.Test.YtdmcijfjnegcgaaJA4
import Derived.Test.YtdmcijfjnegcgaaJA3
import Derived.WalkKit
import Derived.StillTail
import Derived.Deep.RegionHeld3
import Derived.Deep.AppendLies
/-
  Package grace: Play.
  Conditions: the ranges of Go's types.
-/
namespace Go.Proofs.Ytdmcijfjnegcgaa
set_option maxRecDepth 100000
open Go.RowKit Go.Shelf
attribute [local go_sem] Oper.semAt_some

/-- Four results, two of them out of cells. -/
theorem results_cctt {fn : Func} {a b c d : Tmp} {t u : TypeId} (h : fn.results = #[.cell a t, .cell b u, .tmp c, .tmp d]) (tmps : Array Value) (P : Program) (w : World) {p q : Addr} {x y v v' : Value} (ha : tmps.getD a undef = .pointer (some p)) (hb : tmps.getD b undef = .pointer (some q)) (hc : tmps.getD c undef = v) (hd : tmps.getD d undef = v')
    (hx : (loadVar t p).run P w = .ok x w) (hy : (loadVar u q).run P w = .ok y w) : (results fn tmps).run P w = .ok (.tuple #[x, y, v, v']) w := by
  unfold results
  rw [h]
  simp only [Array.mapM_eq_foldlM, List.foldlM_toArray, List.foldlM_cons, List.foldlM_nil, ha, hb, hc, hd, asAddr, run_fmap, Sem.run_bind, Sem.run_pure, Result.andThen_ok, hx, hy]
  rfl

/-- What Play answers: readers (now, u, v), a grace (d, a, on, nv), numbers (lv), the error. -/
structure AnsV where
  now : Int
  pu : Option Addr
  nu : Nat
  cu : Nat
  pv : Option Addr
  nv : Nat
  cv : Nat
  d : Int
  a : Int
  on : Bool
  pn : Option Addr
  nn : Nat
  cn : Nat
  pl : Option Addr
  nl : Nat
  cl : Nat
  x : Int
def zeroA (x : Int) : AnsV := ⟨0, none, 0, 0, none, 0, 0, 0, 0, false, none, 0, 0, none, 0, 0, x⟩
def AnsP (B : Nat) (E : Int) (P : PlS) (A : AnsV) (w : World) : Prop :=
  (E ≠ 0 ∧ A = zeroA E) ∨ (E = 0 ∧ GoodP P ∧ ∃ gb hb nb n pl nl cl, A = ⟨P.s.now, some ⟨gb, 0, none⟩, n, n, some ⟨hb, 0, none⟩, n, n, P.g.done, P.g.asked, P.g.on, some ⟨nb, 0, none⟩, n, n, pl, nl, cl, 0⟩ ∧ n = P.g.nd.length ∧ IBlock w gb P.s.ns ∧ IBlock w hb P.s.os ∧ BBlock w nb P.g.nd ∧ w.ownsRow B 3 1 (.slice pl nl cl) P.ls.length (P.ls.map (Value.int .i64)))
theorem AnsP.keeps {S : Nat → Prop} {B : Nat} {E : Int} {P : PlS} {A : AnsV} {w w' : World} (h : AnsP B E P A w) (hk : Keeps S w w') (hI : ∀ b ns, IBlock w b ns → ¬ S b) (hJ : ∀ b bs, BBlock w b bs → ¬ S b) (hR : ∀ v n xs q, w.ownsRow B 3 1 v n xs → v.ownBlock = some q → ¬ S q) : AnsP B E P A w' := by
  rcases h with h | ⟨h1, h2, gb, hb, nb, n, pl, nl, cl, h3, h4, h5, h6, h7, h8⟩
  · exact .inl h
  · exact .inr ⟨h1, h2, gb, hb, nb, n, pl, nl, cl, h3, h4, h5.keeps hk (hI _ _ h5), h6.keeps hk (hI _ _ h6), h7.keeps hk (hJ _ _ h7), hk.row h8 (fun q hq => hR _ _ _ q h8 hq)⟩
theorem AnsP.below {B : Nat} {E : Int} {P : PlS} {A : AnsV} {w w' : World} (h : AnsP B E P A w) (hb : Below w.heap.size w w') : AnsP B E P A w' := h.keeps (Keeps.of_below (S := fun _ => False) hb) (fun _ _ _ h => h) (fun _ _ _ h => h) (fun _ _ _ _ _ _ h => h)
theorem AnsP.mono {B B' : Nat} {E : Int} {P : PlS} {A : AnsV} {w : World} (h : AnsP B E P A w) (hB : B' ≤ B) : AnsP B' E P A w := by
  rcases h with h | ⟨h1, h2, gb, hb, nb, n, pl, nl, cl, h3, h4, h5, h6, h7, h8⟩
  · exact .inl h
  · exact .inr ⟨h1, h2, gb, hb, nb, n, pl, nl, cl, h3, h4, h5, h6, h7, h8.mono hB⟩
/-- A block of another type is none of these. -/
theorem ne_int {w : World} {z b : Nat} {cs : Array Value} {T : TypeId} {f : Nat × Nat} {ns : List Int} (h : w.heap[z]? = some (.cells cs T f)) (hT : T ≠ 3) (k : IBlock w b ns) : b ≠ z := fun e => by
  have k' : w.heap[b]? = _ := k
  rw [e, h] at k'; injection k' with k'; injection k' with _ k' _; exact hT k'
theorem ne_bool {w : World} {z b : Nat} {cs : Array Value} {T : TypeId} {f : Nat × Nat} {bs : List Bool} (h : w.heap[z]? = some (.cells cs T f)) (hT : T ≠ 4) (k : BBlock w b bs) : b ≠ z := fun e => by
  have k' : w.heap[b]? = _ := k
  rw [e, h] at k'; injection k' with k'; injection k' with _ k' _; exact hT k'
theorem ne_rowi {w : World} {z B n q : Nat} {cs : Array Value} {T : TypeId} {f : Nat × Nat} {v : Value} {xs : List Value} (h : w.heap[z]? = some (.cells cs T f)) (hT : T ≠ 3) (k : w.ownsRow B 3 1 v n xs) (hq : v.ownBlock = some q) : q ≠ z := fun e => by
  obtain ⟨c, f', h1⟩ := Lib.ownsRow_kind k q hq
  rw [e, h] at h1; injection h1 with h1; injection h1 with _ h1 _; exact hT h1
def turnV (A : AnsV) : Value := .agg #[.int .i64 A.now, .slice A.pu A.nu A.cu, .slice A.pv A.nv A.cv, .int .i64 A.d, .int .i64 A.a, .bool A.on, .slice A.pn A.nn A.cn, .slice A.pl A.nl A.cl]
def PlayR (z : Nat) (E : Int) (P : PlS) (t : Value) (x : Int) (X : World) : Prop := ∃ A : AnsV, t = turnV A ∧ x = A.x ∧ AnsP (z + 2) E P A X
theorem play_of (caps : Array Value) (W : World) (E : Int) (P : PlS)
    (C : ∀ W0, TBox W0 W.heap.size 0 nilV nilV 0 0 false nilV nilV → Boxed W0 (W.heap.size + 1) 29 (.int .i64 0) → Below W.heap.size W W0 → W0.heap.size = W.heap.size + 2 → Calls Try.prog 51 (#[.pointer (some ⟨W.heap.size, 0, none⟩)] ++ caps) W0 fun e w' => AllQ W.heap.size E P e W0 w') :
    Calls Try.prog 40 #[.func (.func 51) #[] caps] W fun e w' => (∃ t x, e = .returned (.tuple #[t, .int .i64 x]) ∧ PlayR W.heap.size E P t x w') ∧ Below W.heap.size W w' := by
  obtain ⟨f1, f2, f3, f4⟩ := wT_facts W
  refine tried_K 51 caps W (fun _ _ => rfl) (PlayR W.heap.size E P) ((C (wT W) f1 f2 f3 f4).mono ?_)
  rintro e w' ⟨hk, h⟩
  have hB : Below W.heap.size W w' := f3.trans (hk.below f3.size (fun k e => by omega))
  have he : Boxed w' (W.heap.size + 1) 29 (.int .i64 0) := (hk.block _ f2.lt (by omega)).trans f2
  refine ⟨hB, ?_⟩
  rcases h with ⟨h1, rfl, now, u, v, d, a, on, nv, lv, h2, h3⟩ | ⟨h1, rfl, n, gb, hb, nb, lv, k, hnb⟩
  · exact ⟨now, u, v, d, a, on, nv, lv, h2, h3, he, .inl ⟨E, rfl, fun X _ => ⟨zeroA E, rfl, rfl, .inl ⟨h1, rfl⟩⟩⟩⟩
  · refine ⟨_, _, _, _, _, _, _, _, k.tu.box, ⟨rowV_sl _ _, rowV_sl _ _, ⟨_, _, _, rfl⟩, owns_sl k.tu.nums⟩, he, .inr ⟨rfl, fun X hX => ?_⟩⟩
    obtain ⟨pl, cl, rfl⟩ := owns_slice k.tu.nums
    refine ⟨⟨P.s.now, some ⟨gb, 0, none⟩, n, n, some ⟨hb, 0, none⟩, n, n, P.g.done, P.g.asked, P.g.on, some ⟨nb, 0, none⟩, n, n, pl, P.ls.length, cl, 0⟩, rfl, rfl, .inr ⟨h1, k.good, gb, hb, nb, n, pl, P.ls.length, cl, rfl, k.tu.len.symm, k.nest.keeps hX ?_, k.opened.keeps hX ?_, k.tu.needs.keeps hX ?_, hX.row k.tu.nums ?_⟩⟩
    · rintro (e | e)
      · exact k.tu.box.ne_ints k.nest e
      · exact ne_int he (by decide) k.nest e
    · rintro (e | e)
      · exact k.tu.box.ne_ints k.opened e
      · exact ne_int he (by decide) k.opened e
    · rintro (e | e)
      · exact k.tu.box.ne_bools k.tu.needs e.symm
      · exact ne_bool he (by decide) k.tu.needs e
    · rintro q hq (e | e)
      · exact k.tu.box.ne_row k.tu.nums q hq e
      · exact ne_rowi he (by decide) k.tu.nums hq e

def playW (W : World) (now : Int) (u v : Value) (d a : Int) (on : Bool) (nv tv : Value) : World := ((((W.alloc (.cells #[.int .i64 now, u, v] 45)).alloc (.cells #[.int .i64 d, .int .i64 a, .bool on, nv] 24)).alloc (.cells #[tv] 46)).alloc (.cells #[.int .i64 0, .slice none 0 0, .slice none 0 0] 45)).alloc (.cells #[.int .i64 0, .int .i64 0, .bool false, .slice none 0 0] 24)
theorem playW_facts (W : World) (now : Int) (u v : Value) (d a : Int) (on : Bool) (nv tv : Value) : RBox (playW W now u v d a on nv tv) W.heap.size now u v ∧ GBox (playW W now u v d a on nv tv) (W.heap.size + 1) d a on nv ∧ Boxed (playW W now u v d a on nv tv) (W.heap.size + 2) 46 tv ∧ RBox (playW W now u v d a on nv tv) (W.heap.size + 3) 0 (.slice none 0 0) (.slice none 0 0) ∧ GBox (playW W now u v d a on nv tv) (W.heap.size + 4) 0 0 false (.slice none 0 0) ∧ Below W.heap.size W (playW W now u v d a on nv tv) ∧ (playW W now u v d a on nv tv).heap.size = W.heap.size + 5 := by
  unfold playW
  obtain ⟨w1, h1⟩ : ∃ w1, w1 = W.alloc (.cells #[.int .i64 now, u, v] 45) := ⟨_, rfl⟩
  obtain ⟨w2, h2⟩ : ∃ w2, w2 = w1.alloc (.cells #[.int .i64 d, .int .i64 a, .bool on, nv] 24) := ⟨_, rfl⟩
  obtain ⟨w3, h3⟩ : ∃ w3, w3 = w2.alloc (.cells #[tv] 46) := ⟨_, rfl⟩
  obtain ⟨w4, h4⟩ : ∃ w4, w4 = w3.alloc (.cells #[.int .i64 0, .slice none 0 0, .slice none 0 0] 45) := ⟨_, rfl⟩
  obtain ⟨w5, h5⟩ : ∃ w5, w5 = w4.alloc (.cells #[.int .i64 0, .int .i64 0, .bool false, .slice none 0 0] 24) := ⟨_, rfl⟩
  rw [← h1, ← h2, ← h3, ← h4, ← h5]
  have s1 : w1.heap.size = W.heap.size + 1 := by rw [h1]; simp
  have s2 : w2.heap.size = W.heap.size + 2 := by rw [h2, World.size_alloc, s1]
  have s3 : w3.heap.size = W.heap.size + 3 := by rw [h3, World.size_alloc, s2]
  have s4 : w4.heap.size = W.heap.size + 4 := by rw [h4, World.size_alloc, s3]
  have s5 : w5.heap.size = W.heap.size + 5 := by rw [h5, World.size_alloc, s4]
  have b1 : Below W.heap.size W w1 := by rw [h1]; exact below1 _ _
  have b2 : Below w1.heap.size w1 w2 := by rw [h2]; exact below1 _ _
  have b3 : Below w2.heap.size w2 w3 := by rw [h3]; exact below1 _ _
  have b4 : Below w3.heap.size w3 w4 := by rw [h4]; exact below1 _ _
  have b5 : Below w4.heap.size w4 w5 := by rw [h5]; exact below1 _ _
  have c1 : RBox w1 W.heap.size now u v := by rw [h1]; exact RBox.new _ _ _ _
  have c2 : GBox w2 w1.heap.size d a on nv := by rw [h2]; exact GBox.new _ _ _ _ _
  have c3 : Boxed w3 w2.heap.size 46 tv := by rw [h3]; exact Boxed.new _ _ _
  have c4 : RBox w4 w3.heap.size 0 (.slice none 0 0) (.slice none 0 0) := by rw [h4]; exact RBox.new _ _ _ _
  have c5 : GBox w5 w4.heap.size 0 0 false (.slice none 0 0) := by rw [h5]; exact GBox.new _ _ _ _ _
  rw [s1] at c2
  rw [s2] at c3
  rw [s3] at c4
  rw [s4] at c5
  exact ⟨(((c1.below b2).below b3).below b4).below b5, ((c2.below b3).below b4).below b5, boxed_under (boxed_under c3 b4) b5, c4.below b5, c5, below_then (below_then (below_then (below_then b1 b1.size b2) (b1.trans (b2.mono b1.size)).size b3) ((b1.trans (b2.mono b1.size)).trans (b3.mono (b1.trans (b2.mono b1.size)).size)).size b4) (by omega) b5, s5⟩

/-- What Play answers, as an ending. -/
def PlayQ (B : Nat) (s : RdS) (g : GrS) (l : List (Int × Int)) (e : Ending) (w' : World) : Prop :=
  ∃ A : AnsV, e = .returned (.tuple #[.agg #[.int .i64 A.now, .slice A.pu A.nu A.cu, .slice A.pv A.nv A.cv], .agg #[.int .i64 A.d, .int .i64 A.a, .bool A.on, .slice A.pn A.nn A.cn], .slice A.pl A.nl A.cl, .int .i64 A.x]) ∧ AnsP B (allE s g l) (playP ⟨s, g, []⟩ l) A w'

set_option maxHeartbeats 16000000 in
theorem gPlay_c (s : RdS) (u v : Value) (g : GrS) (nv tv : Value) (l : List (Int × Int)) (W : World)
    (hn : NumsAt W .i64 u s.ns) (ho : NumsAt W .i64 v s.os) (h1 : s.ns.length ≤ 9223372036854775807) (h2 : s.os.length ≤ 9223372036854775807) (hr : ∀ x ∈ s.os, I64 x)
    (hv : BoolsAt W nv g.nd) (h3 : g.nd.length ≤ 9223372036854775807) (hl : TksAt W tv l) (hls : l.length ≤ 1000000) (hnz : ∀ b off n c, nv = .slice (some ⟨b, off, none⟩) n c → b < W.heap.size) (htz : ∀ b off n c, tv = .slice (some ⟨b, off, none⟩) n c → l ≠ [] → b < W.heap.size) :
    Calls Try.prog 24 #[.agg #[.int .i64 s.now, u, v], .agg #[.int .i64 g.done, .int .i64 g.asked, .bool g.on, nv], tv] W fun e w' => PlayQ W.heap.size s g l e w' ∧ Below W.heap.size W w' := by
  have hmf : ∀ (fn : Fn) (first cap : Array Value) (w : World), (Instr.makeFunc fn first cap).run Try.prog w = .ok (.func fn first cap) w := fun _ _ _ _ => rfl
  obtain ⟨w0, hw0⟩ : ∃ X : World, X = playW W s.now u v g.done g.asked g.on nv tv := ⟨_, rfl⟩
  have HF := Lib.hid (playW_facts W s.now u v g.done g.asked g.on nv tv)
  rw [← hw0] at HF
  have hB0 := HF.out.2.2.2.2.2.1
  have HT := Lib.hid (play_of #[.pointer (some ⟨W.heap.size, 0, none⟩), .pointer (some ⟨W.heap.size + 1, 0, none⟩), .pointer (some ⟨W.heap.size + 2, 0, none⟩)] w0 (allE s g l) (playP ⟨s, g, []⟩ l) (fun W0 kb _ hb hz => by
    have hs0 := HF.out.2.2.2.2.2.2
    have hbb := below_then hB0 hB0.size hb
    exact play1_c w0.heap.size W.heap.size (W.heap.size + 1) (W.heap.size + 2) s u v g nv tv l W0 kb hz.symm (HF.out.1.below hb) (HF.out.2.1.below hb) (boxed_under HF.out.2.2.1 hb) (by omega) (by omega) (by omega) (nums_below hn hbb) (nums_below ho hbb) h1 h2 hr (bools_below hv hbb) h3 (hl.below hbb)
      (fun b off n c e hne => by have := htz b off n c e hne; omega) (fun b off n c e => by have := hnz b off n c e; omega) hls))
  obtain ⟨p0, c0, rfl, -⟩ := hn
  obtain ⟨p1, c1, rfl, -⟩ := ho
  obtain ⟨p2, c2, rfl, -⟩ := hv
  obtain ⟨p3, c3, rfl, -⟩ := hl
  unfold playW at hw0
  clear h1 h2 h3 hr hls hnz htz hB0
  go_enter Try.func24, Try.ntmps24
  go_wp2_with fail
  rw [← hw0]
  clear hw0
  (with_reducible refine HT.out.mono ?_)
  rintro e w1 ⟨⟨t, x, rfl, ⟨now, pu, nu, cu, pv, nv', cv, d, a, on, pn, nn, cn, pl, nl, cl, x⟩, rfl, rfl, hA⟩, hb1⟩
  unfold turnV
  simp only
  obtain ⟨w2, hw2⟩ : ∃ X : World, X = w1.alloc (.cells #[.int .i64 now, .slice pu nu cu, .slice pv nv' cv, .int .i64 d, .int .i64 a, .bool on, .slice pn nn cn, .slice pl nl cl] 71) := ⟨_, rfl⟩
  have hb2 : Below w1.heap.size w1 w2 := by rw [hw2]; exact below1 _ _
  have hB1 := below_then HF.out.2.2.2.2.2.1 HF.out.2.2.2.2.2.1.size hb1
  have hB2 := below_then hB1 hB1.size hb2
  have hR2 : RBox w2 (W.heap.size + 3) 0 (.slice none 0 0) (.slice none 0 0) := (HF.out.2.2.2.1.below hb1).below hb2
  have hG2 : GBox w2 (W.heap.size + 4) 0 0 false (.slice none 0 0) := (HF.out.2.2.2.2.1.below hb1).below hb2
  have hp3 := hR2.put now (.slice pu nu cu) (.slice pv nv' cv)
  have hk3 := RBox.putK w2 (W.heap.size + 3) now (.slice pu nu cu) (.slice pv nv' cv)
  obtain ⟨w3, hw3⟩ : ∃ X : World, X = (((w2.setCell ⟨W.heap.size + 3, 0, none⟩ (.int .i64 now)).setCell ⟨W.heap.size + 3, 1, none⟩ (.slice pu nu cu)).setCell ⟨W.heap.size + 3, 2, none⟩ (.slice pv nv' cv)) := ⟨_, rfl⟩
  rw [← hw3] at hp3 hk3
  have hG3 := hG2.keeps hk3 (by omega)
  have hp4 := hG3.put d a on (.slice pn nn cn)
  have hk4 := GBox.putK w3 (W.heap.size + 4) d a on (.slice pn nn cn)
  obtain ⟨w4, hw4⟩ : ∃ X : World, X = ((((w3.setCell ⟨W.heap.size + 4, 0, none⟩ (.int .i64 d)).setCell ⟨W.heap.size + 4, 1, none⟩ (.int .i64 a)).setCell ⟨W.heap.size + 4, 2, none⟩ (.bool on)).setCell ⟨W.heap.size + 4, 3, none⟩ (.slice pn nn cn)) := ⟨_, rfl⟩
  rw [← hw4] at hp4 hk4
  have HX := Lib.hid (show RBox w4 (W.heap.size + 3) now (.slice pu nu cu) (.slice pv nv' cv) ∧ GBox w4 (W.heap.size + 4) d a on (.slice pn nn cn) ∧ Below W.heap.size W w4 ∧ AnsP (w0.heap.size + 2) (allE s g l) (playP ⟨s, g, []⟩ l) ⟨now, pu, nu, cu, pv, nv', cv, d, a, on, pn, nn, cn, pl, nl, cl, x⟩ w4 from by
    refine ⟨hp3.keeps hk4 (by omega), hp4, (hB2.trans (hk3.below hB2.size (fun k e => by omega))).trans (hk4.below (hB2.trans (hk3.below hB2.size (fun k e => by omega))).size (fun k e => by omega)), ?_⟩
    exact ((hA.below hb2).keeps hk3 (fun b ns h e => ne_int hR2 (by decide) h e) (fun b bs h e => ne_bool hR2 (by decide) h e) (fun v n xs q h hq e => ne_rowi hR2 (by decide) h hq e)).keeps hk4 (fun b ns h e => ne_int hG3 (by decide) h e) (fun b bs h e => ne_bool hG3 (by decide) h e) (fun v n xs q h hq e => ne_rowi hG3 (by decide) h hq e))
  obtain ⟨d0, d1, d2⟩ := hR2.cells
  have m0 := hR2.marks 0
  have m1 := hR2.marks 1
  have m2 := hR2.marks 2
  obtain ⟨e0, e1, e2, e3⟩ := hG2.cells
  have n0 := hG2.marks 0
  have n1 := hG2.marks 1
  have n2 := hG2.marks 2
  have n3 := hG2.marks 3
  have HS0 := Lib.hid HF.out.2.2.2.2.2.2
  have HW2 := Lib.hid (And.intro hw2 (And.intro hw3 hw4))
  rw [hw2] at d0 d1 d2 m0 m1 m2 e0 e1 e2 e3 n0 n1 n2 n3
  clear hp3 hk3 hw3 hp4 hk4 hw4 hG3 hR2 hG2 hB1 hB2 hb1 hb2 hA HT HF hw2
  go_wp2
  go_region
  go_wp2
  rw [← HW2.out.1, ← HW2.out.2.1, ← HW2.out.2.2]
  obtain ⟨h1, h2, h3, h4⟩ := HX.out
  refine bodyPost_ret (v := .tuple #[.agg #[.int .i64 now, .slice pu nu cu, .slice pv nv' cv], .agg #[.int .i64 d, .int .i64 a, .bool on, .slice pn nn cn], .slice pl nl cl, .int .i64 x]) (results_cctt (p := ⟨W.heap.size + 3, 0, none⟩) (q := ⟨W.heap.size + 4, 0, none⟩) rfl _ _ _ rfl rfl rfl rfl (readers_load (W := w4.drew) h1) (grace_load (W := w4.drew) h2)) rfl ⟨⟨⟨now, pu, nu, cu, pv, nv', cv, d, a, on, pn, nn, cn, pl, nl, cl, x⟩, rfl, ?_⟩, below_drewN h3 1⟩
  exact (h4.below (below_drewN (Below.refl _ _) 1)).mono (by have := HS0.out; omega)

end Go.Proofs.Ytdmcijfjnegcgaa
/-
  Package reader: New, Oldest; and the calls of the statements' first test.
  Conditions: none.
-/
namespace Go.Proofs.Ytdmcijfjnegcgaa
set_option maxRecDepth 100000
open Go.RowKit Go.Shelf
attribute [local go_sem] Oper.semAt_some

theorem okTo_at : ∀ (l : List (Int × Bool)) (s : RdS), okTo s l → ∀ i (h : i < l.length), stepE (runS s (l.take i)) l[i].1 l[i].2 = 0
  | [], s, _, i, h => by simp at h
  | x :: l, s, ho, 0, h => ho.1
  | x :: l, s, ho, i + 1, h => okTo_at l (stepS s x.1 x.2) ho.2 i (by simpa using h)
def Reads (s : RdS) (u v : Value) (w : World) : Prop := NumsAt w .i64 u s.ns ∧ NumsAt w .i64 v s.os
theorem Reads.below {s : RdS} {u v : Value} {w w' : World} (h : Reads s u v w) (hb : Below w.heap.size w w') : Reads s u v w' := ⟨nums_below h.1 hb, nums_below h.2 hb⟩
/-- Two rows of two in blocks. -/
def Two (now : Int) (ns os : List Int) (e : Value) (w : World) : Prop := ∃ g h : Nat, e = .agg #[.int .i64 now, .slice (some ⟨g, 0, none⟩) 2 2, .slice (some ⟨h, 0, none⟩) 2 2] ∧ Reads ⟨now, ns, os⟩ (.slice (some ⟨g, 0, none⟩) 2 2) (.slice (some ⟨h, 0, none⟩) 2 2) w

theorem new_fin (w1 : World) (W : World) (z : Nat) (g h : Nat) (hR : RBox w1 z 0 (.slice none 0 0) (.slice none 0 0)) (hB : Below W.heap.size W w1) (hz : W.heap.size ≤ z) (hgh : (g = w1.heap.size ∧ h = w1.heap.size + 1) ∨ (g = w1.heap.size + 1 ∧ h = w1.heap.size)) :
    ∀ X : World, X = (((((w1.setCell ⟨z, 0, none⟩ (.int .i64 0)).setCell ⟨z, 1, none⟩ (.slice (some ⟨g, 0, none⟩) 2 2)).setCell ⟨z, 2, none⟩ (.slice (some ⟨h, 0, none⟩) 2 2)).alloc (.cells #[.int .i64 0, .int .i64 0] 3)).alloc (.cells #[.int .i64 0, .int .i64 0] 3)).drew →
      RBox X z 0 (.slice (some ⟨g, 0, none⟩) 2 2) (.slice (some ⟨h, 0, none⟩) 2 2) ∧ Reads ⟨0, [0, 0], [0, 0]⟩ (.slice (some ⟨g, 0, none⟩) 2 2) (.slice (some ⟨h, 0, none⟩) 2 2) X ∧ Below W.heap.size W X := by
  rintro X rfl
  have hP := hR.put 0 (.slice (some ⟨g, 0, none⟩) 2 2) (.slice (some ⟨h, 0, none⟩) 2 2)
  have hK := RBox.putK w1 z 0 (.slice (some ⟨g, 0, none⟩) 2 2) (.slice (some ⟨h, 0, none⟩) 2 2)
  have hs : (((w1.setCell ⟨z, 0, none⟩ (.int .i64 0)).setCell ⟨z, 1, none⟩ (.slice (some ⟨g, 0, none⟩) 2 2)).setCell ⟨z, 2, none⟩ (.slice (some ⟨h, 0, none⟩) 2 2)).heap.size = w1.heap.size := by simp [World.setCell]
  generalize (((w1.setCell ⟨z, 0, none⟩ (.int .i64 0)).setCell ⟨z, 1, none⟩ (.slice (some ⟨g, 0, none⟩) 2 2)).setCell ⟨z, 2, none⟩ (.slice (some ⟨h, 0, none⟩) 2 2)) = w2 at hP hK hs ⊢
  have hB2 : Below W.heap.size W w2 := hB.trans (hK.below hB.size (fun k e => by omega))
  have a0 := World.alloc_heap_new w2 (.cells #[.int .i64 0, .int .i64 0] 3)
  have a1 := World.alloc_heap_new (w2.alloc (.cells #[.int .i64 0, .int .i64 0] 3)) (.cells #[.int .i64 0, .int .i64 0] 3)
  have a2 := (below1 (w2.alloc (.cells #[.int .i64 0, .int .i64 0] 3)) (.cells #[.int .i64 0, .int .i64 0] 3)).block w2.heap.size (by simp)
  rw [a0] at a2
  rw [World.size_alloc] at a1
  rw [hs] at a1 a2
  have hN : ∀ {Y : World} {g : Nat}, Y.heap[g]? = some (.cells #[.int .i64 0, .int .i64 0] 3 (0, 0)) → NumsAt Y .i64 (.slice (some ⟨g, 0, none⟩) 2 2) [0, 0] := fun {Y g} h => IBlock.nums (W := Y) (g := g) (ns := [0, 0]) h
  have hbox := (hP.below (below1 w2 (.cells #[.int .i64 0, .int .i64 0] 3))).below (below1 _ (.cells #[.int .i64 0, .int .i64 0] 3))
  refine ⟨hbox, ?_, ((below_then hB2 hB2.size (below2 _ _ _))).drew⟩
  rcases hgh with ⟨rfl, rfl⟩ | ⟨rfl, rfl⟩
  · exact ⟨hN a2, hN a1⟩
  · exact ⟨hN a1, hN a2⟩

set_option maxHeartbeats 4000000 in
theorem new2_c (W : World) : Calls Try.prog 56 #[.int .i64 2] W fun e w' => (∃ a, e = .returned (.tuple #[a, .int .i64 0]) ∧ Two 0 [0, 0] [0, 0] a w') ∧ Below W.heap.size W w' := by
  obtain ⟨w0, hw0⟩ : ∃ X : World, X = W.alloc (.cells #[.int .i64 0, .slice none 0 0, .slice none 0 0] 45) := ⟨_, rfl⟩
  have HR := Lib.hid (show RBox w0 W.heap.size 0 (.slice none 0 0) (.slice none 0 0) ∧ Below W.heap.size W w0 ∧ w0.heap.size = W.heap.size + 1 by rw [hw0]; exact ⟨RBox.new _ _ _ _, below1 _ _, by simp⟩)
  have HC := Lib.hid (mayBe_c 2 w0)
  rw [show mayCpus 2 = true from rfl] at HC
  have hmk : ∀ w : World, (Instr.makeSlice 25 (.int .i64 2) (.int .i64 2)).run Try.prog w = .ok (.slice (some ⟨w.heap.size, 0, none⟩) 2 2) (w.alloc (.cells #[.int .i64 0, .int .i64 0] 3)) := fun w => run_makeI 2 (by omega) w
  go_enter Try.func56, Try.ntmps56
  go_wp2_with fail
  rw [← hw0]
  clear hw0
  (with_reducible refine HC.out.mono ?_)
  rintro e w1 ⟨rfl, rfl⟩
  obtain ⟨d0, d1, d2⟩ := HR.out.1.cells
  have m0 := HR.out.1.marks 0
  have m1 := HR.out.1.marks 1
  have m2 := HR.out.1.marks 2
  have hz := HR.out.1.lt
  clear HC
  go_wp2
  go_region
  all_goals
    have HF1 := Lib.hid (new_fin w1 W W.heap.size (w1.heap.size + 1) w1.heap.size HR.out.1 HR.out.2.1 (Nat.le_refl _) (.inr ⟨rfl, rfl⟩))
    have HF2 := Lib.hid (new_fin w1 W W.heap.size w1.heap.size (w1.heap.size + 1) HR.out.1 HR.out.2.1 (Nat.le_refl _) (.inl ⟨rfl, rfl⟩))
    clear hmk d0 d1 d2 m0 m1 m2 hz
    go_wp2
    first
      | (obtain ⟨h1, h2, h3⟩ := HF1.out _ rfl
         exact bodyPost_ret (v := .tuple #[.agg #[.int .i64 0, .slice (some ⟨w1.heap.size + 1, 0, none⟩) 2 2, .slice (some ⟨w1.heap.size, 0, none⟩) 2 2], .int .i64 0]) (results_ct rfl _ _ _ rfl rfl (readers_load h1)) rfl ⟨⟨_, rfl, _, _, rfl, h2⟩, h3⟩)
      | (obtain ⟨h1, h2, h3⟩ := HF2.out _ rfl
         exact bodyPost_ret (v := .tuple #[.agg #[.int .i64 0, .slice (some ⟨w1.heap.size, 0, none⟩) 2 2, .slice (some ⟨w1.heap.size + 1, 0, none⟩) 2 2], .int .i64 0]) (results_ct rfl _ _ _ rfl rfl (readers_load h1)) rfl ⟨⟨_, rfl, _, _, rfl, h2⟩, h3⟩)

theorem i64s {os : List Int} (h : (os.all fun x => decide (-9223372036854775808 ≤ x) && decide (x ≤ 9223372036854775807)) = true) : ∀ x ∈ os, I64 x := fun x hx => by
  have := List.all_eq_true.1 h x hx
  simp only [Bool.and_eq_true, decide_eq_true_eq] at this
  exact this

theorem wk_run (u v lv : Value) (Z : World) (hr : Reads ⟨0, [0, 0], [0, 0]⟩ u v Z) (hl : RgsAt Z lv [(0, true), (1, true), (0, true), (0, false)]) :
    Calls Try.prog 67 #[.agg #[.int .i64 0, u, v], lv] Z fun e w' => (∃ a, e = .returned (.tuple #[a, .int .i64 4, .int .i64 0]) ∧ Two 4 [1, 1] [1, 2] a w') ∧ Below Z.heap.size Z w' := by
  have hok : okTo ⟨0, [0, 0], [0, 0]⟩ [(0, true), (1, true), (0, true), (0, false)] := ⟨by decide, by decide, by decide, by decide, trivial⟩
  refine (run_yes ⟨0, [0, 0], [0, 0]⟩ u v lv [(0, true), (1, true), (0, true), (0, false)] Z hr.1 hr.2 hl (by decide) ((good_iff _).1 (by decide))).mono ?_
  rintro e w' ⟨h | h, hb⟩
  · obtain ⟨i, hi, -, h2, -⟩ := h
    exact absurd (okTo_at _ _ hok i hi) h2
  · obtain ⟨-, g, h, -, -, hgh, rfl, h7, h8⟩ := h
    have e : runS ⟨0, [0, 0], [0, 0]⟩ [(0, true), (1, true), (0, true), (0, false)] = ⟨4, [1, 1], [1, 2]⟩ := by rfl
    rw [e] at h7 h8 ⊢
    exact ⟨⟨_, rfl, g, h, rfl, h7.nums, h8.nums⟩, hb⟩
theorem wk_leave (u v : Value) (Z : World) (hr : Reads ⟨4, [1, 1], [1, 2]⟩ u v Z) :
    Calls Try.prog 87 #[.agg #[.int .i64 4, u, v], .int .i64 0] Z fun e w' => (∃ a, e = .returned (.tuple #[a, .int .i64 0]) ∧ Two 5 [0, 1] [0, 2] a w') ∧ Below Z.heap.size Z w' := by
  refine (Leave_c ⟨4, [1, 1], [1, 2]⟩ u v 0 Z hr.1 hr.2 (by decide) (by decide) (i64s (by decide))).mono ?_
  rintro e w' ⟨⟨nw, p1, n1, c1, p2, n2, c2, err, rfl, h | h⟩, hb⟩
  · rcases h.1 with h | h
    · exact absurd h.1 (by decide)
    · exact absurd (show stepE ⟨4, [1, 1], [1, 2]⟩ 0 false = 0 by decide) h.2.1
  · obtain ⟨-, -, rfl, rfl, g, h, -, -, hgh, ⟨rfl, rfl, rfl⟩, ⟨rfl, rfl, rfl⟩, h7, h8⟩ := h
    have e : stepS ⟨4, [1, 1], [1, 2]⟩ 0 false = ⟨5, [0, 1], [0, 2]⟩ := by rfl
    rw [e] at h7 h8 ⊢
    exact ⟨⟨_, rfl, g, h, rfl, h7.nums, h8.nums⟩, hb⟩
theorem wk_leave2 (u v : Value) (Z : World) (hr : Reads ⟨5, [0, 1], [0, 2]⟩ u v Z) :
    Calls Try.prog 87 #[.agg #[.int .i64 5, u, v], .int .i64 0] Z fun e w' => e = .returned (.tuple #[zeroR, .int .i64 4]) ∧ Below Z.heap.size Z w' := by
  refine (Leave_c ⟨5, [0, 1], [0, 2]⟩ u v 0 Z hr.1 hr.2 (by decide) (by decide) (i64s (by decide))).mono ?_
  have e4 : stepE ⟨5, [0, 1], [0, 2]⟩ 0 false = 4 := by decide
  rintro e w' ⟨⟨nw, p1, n1, c1, p2, n2, c2, err, rfl, h | h⟩, hb⟩
  · obtain ⟨h, rfl, ⟨rfl, rfl, rfl⟩, ⟨rfl, rfl, rfl⟩⟩ := h
    rcases h with h | h
    · exact absurd h.1 (by decide)
    · rw [h.2.2, e4]
      exact ⟨rfl, hb⟩
  · have := h.2.1
    rw [e4] at this
    cases this

end Go.Proofs.Ytdmcijfjnegcgaa
/-
  Readers of any number of CPUs that begin; begun, pick, of the statements of layer 12.
  Conditions: none.
-/
namespace Go.Proofs.Ytdmcijfjnegcgaa
set_option maxRecDepth 100000
open Go.RowKit Go.Shelf
attribute [local go_sem] Oper.semAt_some

theorem newN_fin (n : Nat) (w1 : World) (W : World) (z : Nat) (g h : Nat) (hR : RBox w1 z 0 (.slice none 0 0) (.slice none 0 0)) (hB : Below W.heap.size W w1) (hz : W.heap.size ≤ z) (hgh : (g = w1.heap.size ∧ h = w1.heap.size + 1) ∨ (g = w1.heap.size + 1 ∧ h = w1.heap.size)) :
    ∀ X : World, X = (((((w1.setCell ⟨z, 0, none⟩ (.int .i64 0)).setCell ⟨z, 1, none⟩ (.slice (some ⟨g, 0, none⟩) n n)).setCell ⟨z, 2, none⟩ (.slice (some ⟨h, 0, none⟩) n n)).alloc (.cells (Array.replicate n (Value.int .i64 0)) 3)).alloc (.cells (Array.replicate n (Value.int .i64 0)) 3)).drew →
      RBox X z 0 (.slice (some ⟨g, 0, none⟩) n n) (.slice (some ⟨h, 0, none⟩) n n) ∧ (IBlock X g (List.replicate n 0) ∧ IBlock X h (List.replicate n 0)) ∧ Below W.heap.size W X := by
  rintro X rfl
  have hP := hR.put 0 (.slice (some ⟨g, 0, none⟩) n n) (.slice (some ⟨h, 0, none⟩) n n)
  have hK := RBox.putK w1 z 0 (.slice (some ⟨g, 0, none⟩) n n) (.slice (some ⟨h, 0, none⟩) n n)
  have hs : (((w1.setCell ⟨z, 0, none⟩ (.int .i64 0)).setCell ⟨z, 1, none⟩ (.slice (some ⟨g, 0, none⟩) n n)).setCell ⟨z, 2, none⟩ (.slice (some ⟨h, 0, none⟩) n n)).heap.size = w1.heap.size := by simp [World.setCell]
  generalize (((w1.setCell ⟨z, 0, none⟩ (.int .i64 0)).setCell ⟨z, 1, none⟩ (.slice (some ⟨g, 0, none⟩) n n)).setCell ⟨z, 2, none⟩ (.slice (some ⟨h, 0, none⟩) n n)) = w2 at hP hK hs ⊢
  have hB2 : Below W.heap.size W w2 := hB.trans (hK.below hB.size (fun k e => by omega))
  have a0 := World.alloc_heap_new w2 (.cells (Array.replicate n (Value.int .i64 0)) 3)
  have a1 := World.alloc_heap_new (w2.alloc (.cells (Array.replicate n (Value.int .i64 0)) 3)) (.cells (Array.replicate n (Value.int .i64 0)) 3)
  have a2 := (below1 (w2.alloc (.cells (Array.replicate n (Value.int .i64 0)) 3)) (.cells (Array.replicate n (Value.int .i64 0)) 3)).block w2.heap.size (by simp)
  rw [a0] at a2
  rw [World.size_alloc] at a1
  rw [hs] at a1 a2
  have hN : ∀ {Y : World} {g : Nat}, Y.heap[g]? = some (.cells (Array.replicate n (Value.int .i64 0)) 3 (0, 0)) → IBlock Y g (List.replicate n 0) := fun {Y g} h => by unfold IBlock; rw [h]; simp
  have hbox := (hP.below (below1 w2 (.cells (Array.replicate n (Value.int .i64 0)) 3))).below (below1 _ (.cells (Array.replicate n (Value.int .i64 0)) 3))
  refine ⟨hbox, ?_, ((below_then hB2 hB2.size (below2 _ _ _))).drew⟩
  rcases hgh with ⟨rfl, rfl⟩ | ⟨rfl, rfl⟩
  · exact ⟨hN a2, hN a1⟩
  · exact ⟨hN a1, hN a2⟩

set_option maxHeartbeats 4000000 in
theorem newN_c (n : Nat) (l1 : 1 ≤ n) (l8 : n ≤ 8) (W : World) : Calls Try.prog 56 #[.int .i64 (n : Int)] W fun e w' => (∃ g h, e = .returned (.tuple #[.agg #[.int .i64 0, .slice (some ⟨g, 0, none⟩) n n, .slice (some ⟨h, 0, none⟩) n n], .int .i64 0]) ∧ IBlock w' g (List.replicate n 0) ∧ IBlock w' h (List.replicate n 0)) ∧ Below W.heap.size W w' := by
  obtain ⟨w0, hw0⟩ : ∃ X : World, X = W.alloc (.cells #[.int .i64 0, .slice none 0 0, .slice none 0 0] 45) := ⟨_, rfl⟩
  have HR := Lib.hid (show RBox w0 W.heap.size 0 (.slice none 0 0) (.slice none 0 0) ∧ Below W.heap.size W w0 ∧ w0.heap.size = W.heap.size + 1 by rw [hw0]; exact ⟨RBox.new _ _ _ _, below1 _ _, by simp⟩)
  have HC := Lib.hid (mayBe_c (n : Int) w0)
  rw [show mayCpus (n : Int) = true by unfold mayCpus; simp; omega] at HC
  have hmk := run_makeI n (by omega)
  go_enter Try.func56, Try.ntmps56
  go_wp2_with fail
  rw [← hw0]
  clear hw0
  (with_reducible refine HC.out.mono ?_)
  rintro e w1 ⟨rfl, rfl⟩
  obtain ⟨d0, d1, d2⟩ := HR.out.1.cells
  have m0 := HR.out.1.marks 0
  have m1 := HR.out.1.marks 1
  have m2 := HR.out.1.marks 2
  have hz := HR.out.1.lt
  clear HC
  go_wp2
  go_region
  all_goals
    have HF1 := Lib.hid (newN_fin n w1 W W.heap.size (w1.heap.size + 1) w1.heap.size HR.out.1 HR.out.2.1 (Nat.le_refl _) (.inr ⟨rfl, rfl⟩))
    have HF2 := Lib.hid (newN_fin n w1 W W.heap.size w1.heap.size (w1.heap.size + 1) HR.out.1 HR.out.2.1 (Nat.le_refl _) (.inl ⟨rfl, rfl⟩))
    clear hmk d0 d1 d2 m0 m1 m2 hz
    go_wp2
    first
      | (obtain ⟨h1, h2, h3⟩ := HF1.out _ rfl
         exact bodyPost_ret (v := .tuple #[.agg #[.int .i64 0, .slice (some ⟨w1.heap.size + 1, 0, none⟩) n n, .slice (some ⟨w1.heap.size, 0, none⟩) n n], .int .i64 0]) (results_ct rfl _ _ _ rfl rfl (readers_load h1)) rfl ⟨⟨_, _, rfl, h2.1, h2.2⟩, h3⟩)
      | (obtain ⟨h1, h2, h3⟩ := HF2.out _ rfl
         exact bodyPost_ret (v := .tuple #[.agg #[.int .i64 0, .slice (some ⟨w1.heap.size, 0, none⟩) n n, .slice (some ⟨w1.heap.size + 1, 0, none⟩) n n], .int .i64 0]) (results_ct rfl _ _ _ rfl rfl (readers_load h1)) rfl ⟨⟨_, _, rfl, h2.1, h2.2⟩, h3⟩)


theorem tick_info : (Try.prog.info? 50).map (·.size) = some 2 := by kernel_rfl
theorem pickT_c (c : Int) (W : World) : Calls Try.prog 36 #[.int .i64 c] W fun e w' => e = .returned (.agg #[.int .i64 4, .int .i64 c]) ∧ Below W.heap.size W w' := by
  go_enter Try.func36, Try.ntmps36
  go_wp2
  have hh : (W.alloc (.cells #[.int .i64 4, .int .i64 c] 50)).heap[W.heap.size]? = some (.cells #[.int .i64 4, .int .i64 c] 50 (0, 0)) := World.alloc_heap_new W _
  refine bodyPost_ret (v := .agg #[.int .i64 4, .int .i64 c]) (results_cell1 rfl _ _ _ rfl ?_) rfl ⟨rfl, below1 _ _⟩
  refine run_loadVar_mid _ W.heap.size 0 50 [.int .i64 4, .int .i64 c] _ (fun j u hj => ?_) Try.underlying50 rfl tick_info
  rw [Nat.zero_add]
  match j, hj with
  | 0, hj => cases hj; unfold World.cell?; rw [hh]; rfl
  | 1, hj => cases hj; unfold World.cell?; rw [hh]; rfl
  | (k + 2), hj => simp at hj

theorem results_cct {fn : Func} {a b c : Tmp} {t u : TypeId} (h : fn.results = #[.cell a t, .cell b u, .tmp c]) (tmps : Array Value) (P : Program) (w : World) {p q : Addr} {x y v : Value} (ha : tmps.getD a undef = .pointer (some p)) (hb : tmps.getD b undef = .pointer (some q)) (hc : tmps.getD c undef = v)
    (hx : (loadVar t p).run P w = .ok x w) (hy : (loadVar u q).run P w = .ok y w) : (results fn tmps).run P w = .ok (.tuple #[x, y, v]) w := by
  unfold results
  rw [h]
  simp only [Array.mapM_eq_foldlM, List.foldlM_toArray, List.foldlM_cons, List.foldlM_nil, ha, hb, hc, asAddr, run_fmap, Sem.run_bind, Sem.run_pure, Result.andThen_ok, hx, hy]
  rfl
/-- What begun answers. -/
def BegunQ (n : Nat) (e : Ending) (w' : World) : Prop := ∃ g h b, e = .returned (.tuple #[.agg #[.int .i64 0, .slice (some ⟨g, 0, none⟩) n n, .slice (some ⟨h, 0, none⟩) n n], .agg #[.int .i64 0, .int .i64 0, .bool false, .slice (some ⟨b, 0, none⟩) n n], .bool true]) ∧ IBlock w' g (List.replicate n 0) ∧ IBlock w' h (List.replicate n 0) ∧ BBlock w' b (List.replicate n false)

set_option maxHeartbeats 8000000 in
theorem begun_c (n : Nat) (l1 : 1 ≤ n) (l8 : n ≤ 8) (W : World) : Calls Try.prog 29 #[.int .i64 (n : Int)] W fun e w' => BegunQ n e w' ∧ Below W.heap.size W w' := by
  obtain ⟨w0, hw0⟩ : ∃ X : World, X = (W.alloc (.cells #[.int .i64 0, .slice none 0 0, .slice none 0 0] 45)).alloc (.cells #[.int .i64 0, .int .i64 0, .bool false, .slice none 0 0] 24) := ⟨_, rfl⟩
  have HF := Lib.hid (show RBox w0 W.heap.size 0 (.slice none 0 0) (.slice none 0 0) ∧ GBox w0 (W.heap.size + 1) 0 0 false (.slice none 0 0) ∧ Below W.heap.size W w0 ∧ w0.heap.size = W.heap.size + 2 from ⟨by rw [hw0]; exact (RBox.new W _ _ _).below (below1 _ _), by
      rw [hw0]
      have := GBox.new (W.alloc (.cells #[.int .i64 0, .slice none 0 0, .slice none 0 0] 45)) 0 0 false (.slice none 0 0)
      simpa using this, by rw [hw0]; exact below2 _ _ _, by rw [hw0]; simp⟩)
  have HC := Lib.hid (newN_c n l1 l8 w0)
  go_enter Try.func29, Try.ntmps29
  go_wp2_with fail
  rw [← hw0]
  clear hw0
  (with_reducible refine HC.out.mono ?_)
  rintro e w1 ⟨⟨g, h, rfl, hg, hh⟩, hb1⟩
  obtain ⟨w2, hw2⟩ : ∃ X : World, X = w1.alloc (.cells #[.int .i64 0, .slice (some ⟨g, 0, none⟩) n n, .slice (some ⟨h, 0, none⟩) n n] 45) := ⟨_, rfl⟩
  have hb2 : Below w1.heap.size w1 w2 := by rw [hw2]; exact below1 _ _
  have hB1 := below_then HF.out.2.2.1 HF.out.2.2.1.size hb1
  have HX2 := Lib.hid (show RBox w2 W.heap.size 0 (.slice none 0 0) (.slice none 0 0) ∧ GBox w2 (W.heap.size + 1) 0 0 false (.slice none 0 0) ∧ Below W.heap.size W w2 ∧ IBlock w2 g (List.replicate n 0) ∧ IBlock w2 h (List.replicate n 0) ∧ RBox w2 w1.heap.size 0 (.slice (some ⟨g, 0, none⟩) n n) (.slice (some ⟨h, 0, none⟩) n n) ∧ W.heap.size + 1 < w1.heap.size from
    ⟨(HF.out.1.below hb1).below hb2, (HF.out.2.1.below hb1).below hb2, below_then hB1 hB1.size hb2, hg.below hb2, hh.below hb2, by rw [hw2]; exact RBox.new _ _ _ _, by have := HF.out.2.2.2; have := hb1.size; omega⟩)
  have HW2 := Lib.hid hw2
  have HC2 := Lib.hid (gnew_c n l1 l8 w2)
  have hz12 := hb2.size
  clear hb1 hb2 hB1 hg hh hw2 HC HF
  go_wp2_with fail
  rw [← HW2.out]
  (with_reducible refine HC2.out.mono ?_)
  rintro e w3 ⟨⟨b, rfl, hb, hbz⟩, hb3⟩
  obtain ⟨w4, hw4⟩ : ∃ X : World, X = w3.alloc (.cells #[.int .i64 0, .int .i64 0, .bool false, .slice (some ⟨b, 0, none⟩) n n] 24) := ⟨_, rfl⟩
  have hb4 : Below w3.heap.size w3 w4 := by rw [hw4]; exact below1 _ _
  obtain ⟨f1, f2, f3, f4, f5, f6, f7⟩ := HX2.out
  have hB3 := below_then f3 f3.size hb3
  have hR4 := (f1.below hb3).below hb4
  have hG4 := (f2.below hb3).below hb4
  have hp5 := hR4.put 0 (.slice (some ⟨g, 0, none⟩) n n) (.slice (some ⟨h, 0, none⟩) n n)
  have hk5 := RBox.putK w4 W.heap.size 0 (.slice (some ⟨g, 0, none⟩) n n) (.slice (some ⟨h, 0, none⟩) n n)
  obtain ⟨w5, hw5⟩ : ∃ X : World, X = (((w4.setCell ⟨W.heap.size, 0, none⟩ (.int .i64 0)).setCell ⟨W.heap.size, 1, none⟩ (.slice (some ⟨g, 0, none⟩) n n)).setCell ⟨W.heap.size, 2, none⟩ (.slice (some ⟨h, 0, none⟩) n n)) := ⟨_, rfl⟩
  rw [← hw5] at hp5 hk5
  have hG5 := hG4.keeps hk5 (by omega)
  have hp6 := hG5.put 0 0 false (.slice (some ⟨b, 0, none⟩) n n)
  have hk6 := GBox.putK w5 (W.heap.size + 1) 0 0 false (.slice (some ⟨b, 0, none⟩) n n)
  obtain ⟨w6, hw6⟩ : ∃ X : World, X = ((((w5.setCell ⟨W.heap.size + 1, 0, none⟩ (.int .i64 0)).setCell ⟨W.heap.size + 1, 1, none⟩ (.int .i64 0)).setCell ⟨W.heap.size + 1, 2, none⟩ (.bool false)).setCell ⟨W.heap.size + 1, 3, none⟩ (.slice (some ⟨b, 0, none⟩) n n)) := ⟨_, rfl⟩
  rw [← hw6] at hp6 hk6
  have hB4 := below_then hB3 hB3.size hb4
  have HX := Lib.hid (show RBox w6 W.heap.size 0 (.slice (some ⟨g, 0, none⟩) n n) (.slice (some ⟨h, 0, none⟩) n n) ∧ GBox w6 (W.heap.size + 1) 0 0 false (.slice (some ⟨b, 0, none⟩) n n) ∧ Below W.heap.size W w6 ∧ IBlock w6 g (List.replicate n 0) ∧ IBlock w6 h (List.replicate n 0) ∧ BBlock w6 b (List.replicate n false) from
    ⟨hp5.keeps hk6 (by omega), hp6, (hB4.trans (hk5.below hB4.size (fun k e => by omega))).trans (hk6.below (hB4.trans (hk5.below hB4.size (fun k e => by omega))).size (fun k e => by omega)),
      (((f4.below hb3).below hb4).keeps hk5 (fun e => ne_int hR4 (by decide) ((f4.below hb3).below hb4) e)).keeps hk6 (fun e => ne_int hG4 (by decide) ((f4.below hb3).below hb4) e),
      (((f5.below hb3).below hb4).keeps hk5 (fun e => ne_int hR4 (by decide) ((f5.below hb3).below hb4) e)).keeps hk6 (fun e => ne_int hG4 (by decide) ((f5.below hb3).below hb4) e),
      ((hb.below hb4).keeps hk5 (fun e => ne_bool hR4 (by decide) (hb.below hb4) e)).keeps hk6 (fun e => ne_bool hG4 (by decide) (hb.below hb4) e)⟩)
  obtain ⟨d0, d1, d2⟩ := hR4.cells
  have m0 := hR4.marks 0
  have m1 := hR4.marks 1
  have m2 := hR4.marks 2
  obtain ⟨e0, e1, e2, e3⟩ := hG4.cells
  have n0 := hG4.marks 0
  have n1 := hG4.marks 1
  have n2 := hG4.marks 2
  have n3 := hG4.marks 3
  obtain ⟨r0, r1, r2⟩ := ((f6.below hb3).below hb4).cells
  have hz13 := hb3.size
  have hgz := GBox.new w3 0 0 false (.slice (some ⟨b, 0, none⟩) n n)
  rw [← hw4] at hgz
  obtain ⟨q0, q1, q2, q3⟩ := hgz.cells
  have s0 := (setK w4 W.heap.size 0 (.int .i64 0)).cell q0 (by show ¬ w3.heap.size = W.heap.size; omega)
  have s1 := ((setK w4 W.heap.size 0 (.int .i64 0)).trans (setK _ W.heap.size 1 (.slice (some ⟨g, 0, none⟩) n n))).cell q1 (by show ¬ w3.heap.size = W.heap.size; omega)
  have s2 := (RBox.putK w4 W.heap.size 0 (.slice (some ⟨g, 0, none⟩) n n) (.slice (some ⟨h, 0, none⟩) n n)).cell q2 (by show ¬ w3.heap.size = W.heap.size; omega)
  have HW4 := Lib.hid (And.intro hw4 (And.intro hw5 hw6))
  rw [hw4] at d0 d1 d2 m0 m1 m2 e0 e1 e2 e3 n0 n1 n2 n3 r0 r1 r2 q0 q1 q2 q3 s0 s1 s2
  clear hgz hp5 hk5 hw5 hp6 hk6 hw6 hG5 hR4 hG4 hB3 hB4 hb4 hb hbz hb3 f1 f2 f3 f4 f5 f6 HX2 HC2
  go_wp2
  go_region
  go_wp2
  rw [← HW4.out.1, ← HW4.out.2.1, ← HW4.out.2.2]
  obtain ⟨h1, h2, h3, h4, h5, h6⟩ := HX.out
  exact bodyPost_ret (v := .tuple #[.agg #[.int .i64 0, .slice (some ⟨g, 0, none⟩) n n, .slice (some ⟨h, 0, none⟩) n n], .agg #[.int .i64 0, .int .i64 0, .bool false, .slice (some ⟨b, 0, none⟩) n n], .bool true]) (results_cct (p := ⟨W.heap.size, 0, none⟩) (q := ⟨W.heap.size + 1, 0, none⟩) rfl _ _ _ rfl rfl rfl (readers_load (W := w6.drew) h1) (grace_load (W := w6.drew) h2)) rfl ⟨⟨g, h, b, rfl, h4, h5, h6⟩, below_drewN h3 1⟩

end Go.Proofs.Ytdmcijfjnegcgaa
/-
  What the first test of the statements of layer 12 plays.
  Conditions: none.
-/
namespace Go.Proofs.Ytdmcijfjnegcgaa
set_option maxRecDepth 100000
open Go.RowKit Go.Shelf
attribute [local go_sem] Oper.semAt_some

theorem owns_nl {B : Nat} {E : TypeId} {W : World} {pl : Option Addr} {nl cl n : Nat} {xs : List Value} (h : W.ownsRow B E 1 (.slice pl nl cl) n xs) : nl = n := by
  rcases h.2 with ⟨e, h0⟩ | ⟨g, cap, cur, e, _⟩
  · injection e with e1 e2 e3
    rw [e2, h0]
  · injection e
def wkS : RdS := ⟨0, [0, 0], [0, 0]⟩
def wkG : GrS := ⟨0, 0, false, [false, false]⟩
def wkL1 : List (Int × Int) := [(1, 1), (3, 0), (4, 0), (4, 0), (4, 1)]
def wkL2 : List (Int × Int) := [(3, 0), (4, 0), (4, 0), (4, 1)]
theorem wk_all1 : allE wkS wkG wkL1 = 0 := by decide
theorem wk_all2 : allE wkS wkG wkL2 = 0 := by decide
theorem wk_play1 : playP ⟨wkS, wkG, []⟩ wkL1 = ⟨⟨1, [0, 1], [0, 1]⟩, ⟨0, 1, true, [false, true]⟩, [1]⟩ := by rfl
theorem wk_play2 : playP ⟨wkS, wkG, []⟩ wkL2 = ⟨⟨0, [0, 0], [0, 0]⟩, ⟨1, 1, false, [false, false]⟩, [1]⟩ := by rfl
/-- What a play of these answers. -/
def WkQ (now d a : Int) (on : Bool) (nd : List Bool) (e : Ending) (w' : World) : Prop := ∃ gb hb nb pl cl, e = .returned (.tuple #[.agg #[.int .i64 now, .slice (some ⟨gb, 0, none⟩) 2 2, .slice (some ⟨hb, 0, none⟩) 2 2], .agg #[.int .i64 d, .int .i64 a, .bool on, .slice (some ⟨nb, 0, none⟩) 2 2], .slice pl 1 cl, .int .i64 0]) ∧ BBlock w' nb nd ∧ w'.ownsRow 0 3 1 (.slice pl 1 cl) 1 [.int .i64 1]
theorem wkP (l : List (Int × Int)) (hls : l.length ≤ 5) (P : PlS) (hE : allE wkS wkG l = 0) (hP : playP ⟨wkS, wkG, []⟩ l = P) (h2 : P.g.nd.length = 2) (h1 : P.ls = [1]) (g1 h1' n1 tb : Nat) (Z : World) (hg : IBlock Z g1 [0, 0]) (hh : IBlock Z h1' [0, 0]) (hb : BBlock Z n1 [false, false]) (k : Nat) (hk : k = l.length) (hl : TksAt Z (.slice (some ⟨tb, 0, none⟩) k k) l) (htb : tb < Z.heap.size) :
    Calls Try.prog 24 #[.agg #[.int .i64 0, .slice (some ⟨g1, 0, none⟩) 2 2, .slice (some ⟨h1', 0, none⟩) 2 2], .agg #[.int .i64 0, .int .i64 0, .bool false, .slice (some ⟨n1, 0, none⟩) 2 2], .slice (some ⟨tb, 0, none⟩) k k] Z fun e w' => WkQ P.s.now P.g.done P.g.asked P.g.on P.g.nd e w' ∧ Below Z.heap.size Z w' := by
  refine (gPlay_c wkS _ _ wkG _ _ l Z hg.nums hh.nums (by decide) (by decide) (i64s (by decide)) hb.bools (by decide) hl (by omega) (fun b off n c e => by injection e with e1 _ _; injection e1 with e1; injection e1 with e1 _ _; rw [← e1]; exact hb.lt) (fun b off n c e _ => by injection e with e1 _ _; injection e1 with e1; injection e1 with e1 _ _; rw [← e1]; exact htb)).mono ?_
  rintro e w' ⟨⟨A, rfl, hA⟩, hB⟩
  refine ⟨?_, hB⟩
  rw [hE, hP] at hA
  rcases hA with h | ⟨-, -, gb, hb', nb, n, pl, nl, cl, rfl, hn, -, -, h7, h8⟩
  · exact absurd rfl h.1
  rw [h1] at h8
  obtain rfl := owns_nl h8
  rw [h2] at hn
  subst hn
  exact ⟨gb, hb', nb, pl, cl, rfl, h7, h8.mono (Nat.zero_le _)⟩

end Go.Proofs.Ytdmcijfjnegcgaa
/-
  A region that draws its order, loads cells, and at its end writes over them: what holds throughout (T), and what holds till the first of its last operations (S).
  Conditions: each of the last operations waits for each load of a cell that they write over.
-/
namespace Go.Proofs.Ytdmcijfjnegcgaa
open Go

section
variable {P : Program} {ops : Array Oper} {Q : Exit → Act → World → Prop} {md : Region.Mode} {T S : World → Prop} {late : Nat → Bool}

/-- Behind operation i, which was carried out in the world w. -/
def Kept (T S : World → Prop) (late : Nat → Bool) (i : Nat) (w w' : World) : Prop := T w' ∧ (late i = false → S w → S w')
/-- Whatever is picked from here on; behind each operation its word is kept. -/
def wpTwo (P : Program) (md : Region.Mode) (ops : Array Oper) (Q : Exit → Act → World → Prop) (T S : World → Prop) (late : Nat → Bool) : Nat → Array Bool → Act → World → Prop
  | 0, did, a, w => Region.ready md ops did = [] ∧ Q .normal a w
  | n + 1, did, a, w => (Region.ready md ops did = [] → Q .normal a w) ∧
      ∀ i ∈ Region.ready md ops did, wpOp P ops Q i (fun a' w' => Kept T S late i w w' ∧ wpTwo P md ops Q T S late n (did.setIfInBounds i true) a' w') a w
theorem wpTwo_any : ∀ (n : Nat) (did : Array Bool) (a : Act) (w : World), wpTwo P md ops Q T S late n did a w → wpAny P md ops Q n did a w
  | 0, _, _, _, h => h
  | n + 1, _, _, _, h => ⟨h.1, fun i hi => wpOp_mono (fun _ _ hx => wpTwo_any n _ _ _ hx.2) (h.2 i hi)⟩
theorem wpTwo_begin {id : Nat} {a : Act} {w : World} (hm : P.follows .mixedOrders = true) (h : wpTwo P .any ops Q T S late ops.size (Array.replicate ops.size false) a w.drew) : (Code.region id ops true).wp P Q a w :=
  wp_region_any hm (wpTwo_any _ _ _ _ h)
theorem wpTwo_end {did : Array Bool} {a : Act} {w : World} (hr : Region.ready md ops did = []) (h : Q .normal a w) : ∀ n, wpTwo P md ops Q T S late n did a w
  | 0 => ⟨hr, h⟩
  | _ + 1 => ⟨fun _ => h, fun i hi => by rw [hr] at hi; cases hi⟩

/-- An operation that is ready, and yields v in each world that meets R, may be the next: if R is kept by each one that does not wait for it. -/
theorem wpTwo_next {R : World → Prop} {i : Nat} {oi : Oper} {v : Value} (hi : ops[i]? = some oi) (hs : Region.noSelect ops = true)
    (hQ : ∀ c a w, Q (.panic c) (a.put oi.dst v) w → Q (.panic c) a w) (hT : ∀ w, R w → T w)
    (hR : ∀ j oj, ops[j]? = some oj → (∀ e ∈ oj.after, Region.binds md e = true → e.on ≠ i) → ∀ w w', R w → Kept T S late j w w' → R w') (n : Nat) :
    ∀ (did : Array Bool) (a : Act) (w : World), (∀ j oj, ops[j]? = some oj → j ≠ i → did.getD j true = false → (∀ e ∈ oj.after, Region.binds md e = true → e.on ≠ i) → oi.apart ops oj = true) →
      i ∈ Region.ready md ops did → YieldsIf P ops R oi v a → R w → wpTwo P md ops Q T S late n (did.setIfInBounds i true) (a.put oi.dst v) w → wpTwo P md ops Q T S late (n + 1) did a w := by
  have hsel := Region.noSelect_spec hs
  -- the operation itself, where it is picked
  have self : ∀ (n : Nat) (did : Array Bool) (a : Act) (w : World), YieldsIf P ops R oi v a → R w → wpTwo P md ops Q T S late n (did.setIfInBounds i true) (a.put oi.dst v) w →
      wpOp P ops Q i (fun a' w' => Kept T S late i w w' ∧ wpTwo P md ops Q T S late n (did.setIfInBounds i true) a' w') a w :=
    fun _ _ _ w hy hw h => hy.wpOp hi hw ⟨⟨hT w hw, fun _ => id⟩, h⟩
  induction n with
  | zero =>
    intro did a w _ hr hy hw h
    refine ⟨fun e => (List.ne_nil_of_mem hr e).elim, fun j hj => ?_⟩
    by_cases e : j = i
    · subst e; exact self _ _ _ _ hy hw h
    · have := ready_mono hj e
      rw [h.1] at this
      cases this
  | succ n ih =>
    intro did a w hfree hr hy hw h
    refine ⟨fun e => (List.ne_nil_of_mem hr e).elim, fun j hj => ?_⟩
    by_cases e : j = i
    · subst e; exact self _ _ _ _ hy hw h
    · obtain ⟨hun, oj, hoj, hall⟩ := mem_ready.1 hj
      have hiun := (mem_ready.1 hr).1
      have hno : ∀ x ∈ oj.after, Region.binds md x = true → x.on ≠ i := fun x hx hb hxi => by
        have h1 := hall x hx hb
        rw [hxi, getD_both hiun] at h1
        cases h1
      refine wpOp_mono (fun a' w' hx => ⟨hx.2.1, ih (did.setIfInBounds j true) a' w' (fun k ok hk hki hkun hkno => hfree k ok hk hki (by
        by_cases hjk : j = k
        · subst hjk; exact hun
        · rwa [getD_set_ne true hjk] at hkun) hkno) (ready_mono hr (Ne.symm e)) hx.1 (hR j oj hoj hno w w' hw hx.2.1) ?_⟩) (wpOp_putIf hoj (hfree j oj hoj e hun hno) (fun cs b => hsel i oi cs b hi) (fun cs b => hsel j oj cs b hoj) hQ hy (h.2 j (ready_mono hj e)))
      rw [Array.setIfInBounds_comm _ _ e]
      exact hx.2.2

/-- Taken by what holds throughout. -/
theorem wpTwo_takeT {i : Nat} {oi : Oper} {v : Value} {n : Nat} {did : Array Bool} {a : Act} {w : World} (hi : ops[i]? = some oi) (hs : Region.noSelect ops = true) (hf : Region.free md ops did i = true)
    (hr : (Region.ready md ops did).contains i = true) (hQ : ∀ c a w, Q (.panic c) (a.put oi.dst v) w → Q (.panic c) a w)
    (hy : Region.wanted oi (yielded ops a.tmps) = true ∧ ∀ w, T w → (execOp a.eval oi).run P w = .ok (.value v) w) (hw : T w)
    (h : wpTwo P md ops Q T S late n (did.setIfInBounds i true) (a.put oi.dst v) w) : wpTwo P md ops Q T S late (n + 1) did a w :=
  wpTwo_next (R := T) hi hs hQ (fun _ h => h) (fun _ _ _ _ _ _ _ hk => hk.1) n did a w (Region.free_spec hi hf) (by simpa using hr) (.inl hy) hw h
/-- Taken by what holds till the last ones begin: they wait for it. -/
theorem wpTwo_takeS {i : Nat} {oi : Oper} {v : Value} {n : Nat} {did : Array Bool} {a : Act} {w : World} (hl : ∀ j, late j = true → Region.waitsFor md ops j i = true) (hi : ops[i]? = some oi) (hs : Region.noSelect ops = true) (hf : Region.free md ops did i = true)
    (hr : (Region.ready md ops did).contains i = true) (hQ : ∀ c a w, Q (.panic c) (a.put oi.dst v) w → Q (.panic c) a w)
    (hy : Region.wanted oi (yielded ops a.tmps) = true ∧ ∀ w, T w ∧ S w → (execOp a.eval oi).run P w = .ok (.value v) w) (hw : T w ∧ S w)
    (h : wpTwo P md ops Q T S late n (did.setIfInBounds i true) (a.put oi.dst v) w) : wpTwo P md ops Q T S late (n + 1) did a w :=
  wpTwo_next (R := fun w => T w ∧ S w) hi hs hQ (fun _ h => h.1) (fun j oj hoj hno w w' hR hk => ⟨hk.1, hk.2 (by
    cases hlj : late j with
    | false => rfl
    | true =>
      obtain ⟨o', ho', e, he, hb, hei⟩ := Region.waitsFor_spec (hl j hlj)
      rw [hoj] at ho'
      cases ho'
      exact (hno e he hb hei).elim) hR.2⟩) n did a w (Region.free_spec hi hf) (by simpa using hr) (.inl hy) hw h

theorem waits_all {l : List Nat} {i : Nat} (h : (l.all fun j => Region.waitsFor md ops j i) = true) : ∀ j, (l.contains j) = true → Region.waitsFor md ops j i = true := fun j hj =>
  List.all_eq_true.1 h j (by simpa using hj)
/-- Each of the operations rs comes up next. -/
def AllTwo (P : Program) (md : Region.Mode) (ops : Array Oper) (Q : Exit → Act → World → Prop) (T S : World → Prop) (late : Nat → Bool) (n : Nat) (did : Array Bool) (a : Act) (w : World) (rs : List Nat) : Prop :=
  ∀ i ∈ rs, wpOp P ops Q i (fun a' w' => Kept T S late i w w' ∧ wpTwo P md ops Q T S late n (did.setIfInBounds i true) a' w') a w
theorem wpTwo_ready {rs : List Nat} {n : Nat} {did : Array Bool} {a : Act} {w : World} (hr : Region.ready md ops did = rs) (hne : rs ≠ []) (h : AllTwo P md ops Q T S late n did a w rs) : wpTwo P md ops Q T S late (n + 1) did a w :=
  ⟨fun e => (hne (hr ▸ e)).elim, hr ▸ h⟩
theorem AllTwo.nil {n : Nat} {did : Array Bool} {a : Act} {w : World} : AllTwo P md ops Q T S late n did a w [] := fun _ h => by cases h
theorem AllTwo.cons {n : Nat} {did : Array Bool} {a : Act} {w : World} {i : Nat} {o : Oper} {rs : List Nat} (ho : ops[i]? = some o)
    (h : ∀ K : Act → World → Prop, Shut (∀ a' w', Kept T S late i w w' → wpTwo P md ops Q T S late n (did.setIfInBounds i true) a' w' → K a' w') → if Region.wanted o (yielded ops a.tmps) = true then Oper.wp P o a w K Q else K (a.put o.dst undef) w)
    (hs : AllTwo P md ops Q T S late n did a w rs) : AllTwo P md ops Q T S late n did a w (i :: rs) := fun j hj => by
  rcases List.mem_cons.1 hj with rfl | hj
  · exact wpOp_step ho fun K hK => h K fun a' w' h1 h2 => hK a' w' ⟨h1, h2⟩
  · exact hs j hj
end

end Go.Proofs.Ytdmcijfjnegcgaa
namespace Go.Proofs.Ytdmcijfjnegcgaa
open Go.RowKit Go.Shelf

/-- A region's operations. -/
def regOps (id : Nat) : Code → Option (Array Oper)
  | .region i ops _ => if i = id then some ops else none
  | .seq a b => match regOps id a with
    | some o => some o
    | none => regOps id b
  | _ => none
/-- An operation that runs to a value. -/
theorem step_val {P : Program} {ops : Array Oper} {o : Oper} {a : Act} {w : World} {K : Act → World → Prop} {Q : Exit → Act → World → Prop} {E : Prop} (hg : o.guard = none) {v : Value} {w' : World} (hrun : (execOp a.eval o).run P w = .ok (.value v) w') (h : K (a.put o.dst v) w') :
    if Region.wanted o (yielded ops a.tmps) = true then Oper.wp P o a w K Q else E := by
  have hw : Region.wanted o (yielded ops a.tmps) = true := by simp [Region.wanted, hg]
  rw [if_pos hw]
  unfold Oper.wp
  rw [hrun]
  exact h
/-- An operation that runs to nothing. -/
theorem step_skip {P : Program} {ops : Array Oper} {o : Oper} {a : Act} {w : World} {K : Act → World → Prop} {Q : Exit → Act → World → Prop} {E : Prop} (hg : o.guard = none) {w' : World} (hrun : (execOp a.eval o).run P w = .ok .skip w') (h : K (a.put o.dst undef) w') :
    if Region.wanted o (yielded ops a.tmps) = true then Oper.wp P o a w K Q else E := by
  have hw : Region.wanted o (yielded ops a.tmps) = true := by simp [Region.wanted, hg]
  rw [if_pos hw]
  unfold Oper.wp
  rw [hrun]
  exact h
/-- A call, by its contract: it returns. -/
theorem step_ent {P : Program} {ops : Array Oper} {o : Oper} {a : Act} {w : World} {K : Act → World → Prop} {Q : Exit → Act → World → Prop} {E : Prop} (hg : o.guard = none) {f : FuncId} {args : Array Value} {w' : World} (hrun : (execOp a.eval o).run P w = .ok (.enter f args) w') {R : Ending → World → Prop} (hc : Calls P f args w' R) (h : ∀ e w'', R e w'' → ∃ v, e = .returned v ∧ K (a.put o.dst v) w'') :
    if Region.wanted o (yielded ops a.tmps) = true then Oper.wp P o a w K Q else E := by
  have hw : Region.wanted o (yielded ops a.tmps) = true := by simp [Region.wanted, hg]
  rw [if_pos hw]
  unfold Oper.wp
  rw [hrun]
  refine hc.mono fun e w'' hr => ?_
  obtain ⟨v, rfl, hk⟩ := h e w'' hr
  exact hk

end Go.Proofs.Ytdmcijfjnegcgaa
