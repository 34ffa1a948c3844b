/-
  live(8), of the statements of layer 6: eight words, all live, of 0.
  Conditions: none.
-/
import Derived.Test.YthkfjgfhaicfkaaSB15
import Derived.Test.YthkfjgfhaicfkaaSB8
import Derived.ScopeJumps
import Derived.WalkMore
import Derived.Deep.CutBlock
import Derived.Deep.DeepCutAuto
import Derived.Deep.RegionHeld3
import Derived.Test.YthkfjgfhaicfkaaSB4
import Derived.Test.YthkfjgfhaicfkaaSB5
/-
  Play, of package seq: a play of a read and writes that may be.
  Conditions: the ranges of Go's types.
-/
namespace Go.Proofs.Ythkfjgfhaicfkaa
open Go.RowKit Go.Shelf
attribute [local go_sem] Oper.semAt_some

/-- Picks from this address on, in none of the blocks of S. -/
def PkAt (S : Nat → Prop) (W : World) (p : Option Addr) (bs : List Bool) : Prop := bs ≠ [] → ∃ b off, p = some ⟨b, off, none⟩ ∧ ¬ S b ∧ ∀ i (h : i < bs.length), W.cell? ⟨b, off + i, none⟩ = some (.bool bs[i])
theorem PkAt.keeps {S T : Nat → Prop} {W W' : World} {p : Option Addr} {bs : List Bool} (h : PkAt S W p bs) (hk : Keeps T W W') (hT : ∀ k, T k → S k) : PkAt S W' p bs := by
  intro hne
  obtain ⟨b, off, rfl, hS, hcs⟩ := h hne
  exact ⟨b, off, rfl, hS, fun i hi => hk.cell (hcs i hi) (fun e => hS (hT b e))⟩
theorem PkAt.tail {S : Nat → Prop} {W : World} {b off : Nat} {x : Bool} {l : List Bool} (h : PkAt S W (some ⟨b, off, none⟩) (x :: l)) : PkAt S W (some ⟨b, off + 1, none⟩) l := by
  intro hne
  obtain ⟨b', off', e, hS, hcs⟩ := h (by simp)
  cases e
  refine ⟨b, off + 1, rfl, hS, fun i hi => ?_⟩
  have := hcs (i + 1) (by simp; omega)
  simp only [List.getElem_cons_succ] at this
  rw [show off + 1 + i = off + (i + 1) by omega]
  exact this
theorem PkAt.weaken {S T : Nat → Prop} {W : World} {p : Option Addr} {bs : List Bool} (h : PkAt S W p bs) (hT : ∀ k, T k → S k) : PkAt T W p bs := by
  intro hne
  obtain ⟨b, off, rfl, hS, hcs⟩ := h hne
  exact ⟨b, off, rfl, fun e => hS (hT b e), hcs⟩
theorem VV.weaken {S T : Nat → Prop} {W : World} {v : Value} {vs : List Int} (h : VV S W v vs) (hT : ∀ k, T k → S k) : VV T W v vs := by
  obtain ⟨p, c, e, hn, hc⟩ := h
  refine ⟨p, c, e, hn, ?_⟩
  rcases hc with hc | ⟨b, off, e2, hS, hcs⟩
  · exact .inl hc
  · exact .inr ⟨b, off, e2, fun h => hS (hT b h), hcs⟩
theorem WrsAt.weaken {S T : Nat → Prop} {W : World} {p : Option Addr} {l : List WrX} (h : WrsAt S W p l) (hT : ∀ k, T k → S k) : WrsAt T W p l := by
  intro hne
  obtain ⟨b, off, rfl, hS, hcs⟩ := h hne
  exact ⟨b, off, rfl, fun e => hS (hT b e), fun i hi => ⟨(hcs i hi).1, (hcs i hi).2.weaken hT⟩⟩
theorem RdBox.row {W : World} {z : Nat} {s : RdM} {w : Value} (h : RdBox W z s w) {B : Nat} {E : TypeId} {k n : Nat} {v : Value} {xs : List Value} (hr : W.ownsRow B E k v n xs) (hE : E ≠ 29) {g : Nat} (hg : v.ownBlock = some g) : z ≠ g := by
  rintro rfl
  have h' : W.heap[z]? = _ := h
  obtain ⟨c, f, h1⟩ := Lib.ownsRow_kind hr z hg
  rw [h'] at h1
  simp at h1
  exact hE h1.2.1.symm
theorem Keeps.of_low {W w : World} (h : Below W.heap.size W w) : Keeps (fun k => W.heap.size ≤ k) W w := ⟨h.os, h.tape, h.output, h.size, fun k hk _ => h.block k hk⟩
/-- What Play hands over. -/
def PlayOk (B : Nat) (ms : List Bool) (st : PlS) (e : Ending) (w' : World) : Prop :=
  ∃ gw cw gl cl p c, e = .returned (.tuple #[.agg #[.slice (some ⟨gw, 0, none⟩) st.us.length cw, .slice (some ⟨gl, 0, none⟩) ms.length cl, .bool st.u], rdV st.s (.slice p st.vs.length c), .int .i64 0]) ∧
  w'.ownsRow B 27 1 (.slice (some ⟨gw, 0, none⟩) st.us.length cw) st.us.length (st.us.map (Value.int .u64)) ∧ w'.ownsRow B 4 1 (.slice (some ⟨gl, 0, none⟩) ms.length cl) ms.length (ms.map Value.bool) ∧
  w'.ownsRow B 27 1 (.slice p st.vs.length c) st.vs.length (st.vs.map (Value.int .u64))
/-- What holds at the label. -/
structure PlJ (W : World) (ms : List Bool) (fin : PlS) (q gw gl cw cl r t mb mc : Nat) (st : PlS) (bs : List Bool) (pp : Option Addr) (pc : Nat) (w : World) : Prop where
  at' : PlAt W.heap.size q W.heap.size gw gl cw cl r t mb mc ms st w
  ok : PlOk ms st
  fin : playM ms st bs = fin
  pk : PkAt (PlC W.heap.size gw r t) w pp bs
  cap : bs.length ≤ pc ∧ pc ≤ 9223372036854775807
  low : Below W.heap.size W w
  res : MBox w (W.heap.size + 2) (.slice none 0 0) (.slice none 0 0) false
  rd : RdBox w (W.heap.size + 3) ⟨0, 0, 0, 0, 0, 0⟩ (.slice none 0 0)
  up : ∀ k, PlC W.heap.size gw r t k → W.heap.size ≤ k ∧ k ≠ W.heap.size + 2 ∧ k ≠ W.heap.size + 3
def pkLen (a : Act) : Nat := match a.tmps.getD 3 undef with | .slice _ n _ => n | _ => 0
/-- The frame at the label, and what holds. -/
def PlL (W : World) (mv rv wv : Value) (ms : List Bool) (fin : PlS) (a : Act) (w : World) : Prop :=
  ∃ (q gw gl cw cl r t mb mc : Nat) (st : PlS) (bs : List Bool) (pp : Option Addr) (pc : Nat) (u6 u7 u18 u19 u20 u21 u22 u23 u24 u25 u26 u27 u28 u29 u30 u31 u32 u33 u34 u35 u36 u37 u38 u39 u40 u41 u42 u43 u44 u45 u46 u47 u48 u49 u50 u51 u52 u53 u54 u55 u56 u57 u58 u59 u60 u61 u62 u63 u64 u65 u66 u67 u68 u69 u70 u71 u72 u73 u74 u75 : Value), a = { tmps := #[mv, rv, wv, .slice pp bs.length pc, .pointer (some ⟨W.heap.size, 0, none⟩), .pointer (some ⟨W.heap.size + 1, 0, none⟩), u6, u7, .pointer (some ⟨W.heap.size + 2, 0, none⟩), .pointer (some ⟨W.heap.size + 3, 0, none⟩), .int .i64 0, .int .i64 0, .int .i64 0, accV q, .pointer (some ⟨r, 0, none⟩), .pointer (some ⟨t, 0, none⟩), .map (some mb), .map (some mc), u18, u19, u20, u21, u22, u23, u24, u25, u26, u27, u28, u29, u30, u31, u32, u33, u34, u35, u36, u37, u38, u39, u40, u41, u42, u43, u44, u45, u46, u47, u48, u49, u50, u51, u52, u53, u54, u55, u56, u57, u58, u59, u60, u61, u62, u63, u64, u65, u66, u67, u68, u69, u70, u71, u72, u73, u74, u75], defers := [] } ∧ PlJ W ms fin q gw gl cw cl r t mb mc st bs pp pc w

set_option maxRecDepth 100000 in
set_option maxHeartbeats 8000000 in
theorem play_c (mv : Value) (us : List Int) (ms : List Bool) (u : Bool) (s : RdM) (rq : Option Addr) (rc : Nat) (vs : List Int) (p : Option Addr) (cap : Nat) (l : List WrX) (pp : Option Addr) (pc : Nat) (bs : List Bool) (W : World)
    (hM : MemAt W mv us ms u) (hr : rightB us ms = true) (hw : WRange us) (hV : VV (fun k => W.heap.size ≤ k) W (.slice rq vs.length rc) vs) (hR : rightRB s vs.length = true) (hsb : 0 ≤ s.b ∧ s.b ≤ 18446744073709551615)
    (hl : WrsAt (fun k => W.heap.size ≤ k) W p l) (hlm : l.length ≤ 4611686018427387904) (hlc : l.length ≤ cap ∧ cap ≤ 9223372036854775807) (hlr : wrsRight l = true) (hlg : WrsRange l) (hlv : ∀ x ∈ l, WRange x.vs)
    (hp : PkAt (fun k => W.heap.size ≤ k) W pp bs) (hpc : bs.length ≤ pc ∧ pc ≤ 9223372036854775807) :
    Calls Try.prog 32 #[mv, rdV s (.slice rq vs.length rc), .slice p l.length cap, .slice pp bs.length pc] W fun e w' => PlayOk W.heap.size ms (playM ms ⟨us, u, s, vs, ⟨⟨0, 0, 4, 0, 0⟩, .slice none 0 0, []⟩, l⟩ bs) e w' ∧ Below W.heap.size W w' := by
  obtain ⟨fin, hfin⟩ : ∃ f, f = playM ms ⟨us, u, s, vs, ⟨⟨0, 0, 4, 0, 0⟩, .slice none 0 0, []⟩, l⟩ bs := ⟨_, rfl⟩
  rw [← hfin]
  have HM := Lib.hid hM
  obtain ⟨vw, vl, rfl, ⟨pw, cw0, rfl, hcw⟩, pl, cl0, rfl, hcl⟩ := hM
  clear hcw hcl
  have HAN := Lib.hid (fun (Z : World) (hb : Below W.heap.size W Z) => anew_yes _ us ms u Z (HM.out.below hb) hr)
  have HCP := Lib.hid (fun (Z : World) (hb : Below W.heap.size W Z) => checkPlay_c s rq vs.length rc (fun _ => False) l p cap hsb hR Z (fun hne => by
    obtain ⟨b, off, e, hS, hcs⟩ := hl hne
    exact ⟨b, off, e, fun h => h, fun i hi => by
      obtain ⟨⟨c0, c1, c2, c3, c4, c5⟩, hv⟩ := hcs i hi
      exact ⟨⟨below_cell hb c0, below_cell hb c1, below_cell hb c2, below_cell hb c3, below_cell hb c4, below_cell hb c5⟩, by
        obtain ⟨q1, q2, e1, e2, e3⟩ := hv
        refine ⟨q1, q2, e1, e2, ?_⟩
        rcases e3 with e3 | ⟨b3, o3, e4, e5, e6⟩
        · exact .inl e3
        · exact .inr ⟨b3, o3, e4, fun h => h, fun i hi => below_cell hb (e6 i hi)⟩⟩⟩) hlm hlg)
  rw [hlr, if_pos rfl] at HCP
  obtain ⟨a, f, m, ph, b, t0⟩ := s
  have HALL := Lib.hid (And.intro hr (And.intro hw (And.intro hV (And.intro hR (And.intro hl (And.intro hlc (And.intro hlr (And.intro hlv (And.intro hp (And.intro hpc hfin))))))))))
  obtain ⟨w0, hw0⟩ : ∃ X : World, X = (((W.alloc (.cells #[.slice pw us.length cw0, .slice pl ms.length cl0, .bool u] 44)).alloc (.cells #[.int .i64 a, .int .i64 f, .int .i64 m, .int .i64 ph, .int .u64 b, .slice rq vs.length rc, .int .i64 t0] 29)).alloc (.cells #[.slice none 0 0, .slice none 0 0, .bool false] 44)).alloc (.cells #[.int .i64 0, .int .i64 0, .int .i64 0, .int .i64 0, .int .u64 0, .slice none 0 0, .int .i64 0] 29) := ⟨_, rfl⟩
  unfold rdV at *
  dsimp only at *
  have HB0 := Lib.hid (show Below W.heap.size W w0 by rw [hw0]; exact ((((Below.refl _ _).alloc (Nat.le_refl _) _).alloc (by simp) _).alloc (by simp; omega) _).alloc (by simp; omega) _)
  have e1 := World.alloc_heap_new W (.cells #[.slice pw us.length cw0, .slice pl ms.length cl0, .bool u] 44)
  have e2 := World.alloc_heap_new (W.alloc (.cells #[.slice pw us.length cw0, .slice pl ms.length cl0, .bool u] 44)) (.cells #[.int .i64 a, .int .i64 f, .int .i64 m, .int .i64 ph, .int .u64 b, .slice rq vs.length rc, .int .i64 t0] 29)
  have e3 := World.alloc_heap_new ((W.alloc (.cells #[.slice pw us.length cw0, .slice pl ms.length cl0, .bool u] 44)).alloc (.cells #[.int .i64 a, .int .i64 f, .int .i64 m, .int .i64 ph, .int .u64 b, .slice rq vs.length rc, .int .i64 t0] 29)) (.cells #[.slice none 0 0, .slice none 0 0, .bool false] 44)
  have e4 := World.alloc_heap_new (((W.alloc (.cells #[.slice pw us.length cw0, .slice pl ms.length cl0, .bool u] 44)).alloc (.cells #[.int .i64 a, .int .i64 f, .int .i64 m, .int .i64 ph, .int .u64 b, .slice rq vs.length rc, .int .i64 t0] 29)).alloc (.cells #[.slice none 0 0, .slice none 0 0, .bool false] 44)) (.cells #[.int .i64 0, .int .i64 0, .int .i64 0, .int .i64 0, .int .u64 0, .slice none 0 0, .int .i64 0] 29)
  simp only [World.size_alloc] at e2 e3 e4
  have HZ0 := Lib.hid (show MBox w0 W.heap.size (.slice pw us.length cw0) (.slice pl ms.length cl0) u by rw [hw0]; exact (((MBox.new W _ _ u).alloc _).alloc _).alloc _)
  have HR0 := Lib.hid (show RdBox w0 (W.heap.size + 1) ⟨a, f, m, ph, b, t0⟩ (.slice rq vs.length rc) by
    have h : RdBox _ (W.heap.size + 1) ⟨a, f, m, ph, b, t0⟩ (.slice rq vs.length rc) := e2
    rw [hw0]
    exact (h.below (below1 _ _)).below (below1 _ _))
  have HY0 := Lib.hid (show MBox w0 (W.heap.size + 2) (.slice none 0 0) (.slice none 0 0) false by
    have h : MBox _ (W.heap.size + 2) (.slice none 0 0) (.slice none 0 0) false := e3
    rw [hw0]; exact h.alloc _)
  have HT0 := Lib.hid (show RdBox w0 (W.heap.size + 3) ⟨0, 0, 0, 0, 0, 0⟩ (.slice none 0 0) by rw [hw0]; exact e4)
  have HW0 := Lib.hid hw0
  clear hr hw hV hR hsb hl hlm hlc hlr hlg hlv hp hpc hfin hw0 HM e1 e2 e3 e4
  go_enter Try.func32, Try.ntmps32
  go_wp2_with fail
  refine wp_scope_jumps 0 (PlL W (.agg #[.slice pw us.length cw0, .slice pl ms.length cl0, .bool u]) (.agg #[.int .i64 a, .int .i64 f, .int .i64 m, .int .i64 ph, .int .u64 b, .slice rq vs.length rc, .int .i64 t0]) (.slice p l.length cap) ms fin) (fun a _ => pkLen a) rfl ?first ?pass
  case pass =>
    rintro a' w8 ⟨q, gw, gl, cw, cl, r, t, mb, mc, st, bs, pp, pc, u6, u7, u18, u19, u20, u21, u22, u23, u24, u25, u26, u27, u28, u29, u30, u31, u32, u33, u34, u35, u36, u37, u38, u39, u40, u41, u42, u43, u44, u45, u46, u47, u48, u49, u50, u51, u52, u53, u54, u55, u56, u57, u58, u59, u60, u61, u62, u63, u64, u65, u66, u67, u68, u69, u70, u71, u72, u73, u74, u75, rfl, hJ⟩
    have HJ := Lib.hid hJ
    clear hJ HW0 HZ0 HR0 HY0 HT0 HB0 HAN HCP HALL
    cases bs with
    | nil =>
      obtain ⟨⟨z0, z1, z2⟩, -⟩ := mbox_cells HJ.out.at'.acc.box
      obtain ⟨v, hRv, hVv⟩ := HJ.out.at'.rd
      have HTO := Lib.hid (fun (Z : World) (hb : Below w8.heap.size w8 Z) => rtold_c r q st.s v st.vs (PlC W.heap.size gw r t) Z (hRv.below hb) (hVv.keeps (Keeps.of_below (S := fun _ => False) hb) (fun _ h => h.elim)) (by have := (fits_le (rightRB_parts HJ.out.ok.read).1.1 (rightRB_parts HJ.out.ok.read).2.2.2).1; have := (rightRB_parts HJ.out.ok.read).1.2; omega))
      have hfin : fin = st := HJ.out.fin.symm
      subst hfin
      clear hRv hVv
      unfold rdV at HTO
      go_upto_region 11 with fail
      have HRES := Lib.hid HJ.out.res
      have HRDB := Lib.hid HJ.out.rd
      go_region_with (first | (go_at_call 49; refine (HTO.out w8.drew (Below.refl _ _).drew).mono ?_; rintro e w9 ⟨⟨p9, c9, rfl, ho⟩, hb9⟩; have hb8 : Below w8.heap.size w8 w9 := ((Below.refl w8.heap.size w8).drew).trans hb9; have k0 := below_cell hb8 z0; have k1 := below_cell hb8 z1; have k2 := below_cell hb8 z2; have hy9 := HRES.out.below hb8; have hr9 := HRDB.out.below hb8; obtain ⟨⟨y0, y1, y2⟩, y3, y4, y5⟩ := mbox_cells hy9; obtain ⟨x0, x1, x2, x3, x4, x5, x6⟩ := hr9.cells; have v0 := hr9.marks 0; have v1 := hr9.marks 1; have v2 := hr9.marks 2; have v3 := hr9.marks 3; have v4 := hr9.marks 4; have v5 := hr9.marks 5; have v6 := hr9.marks 6; dsimp only at x0 x1 x2 x3 x4 x6))
      all_goals
        obtain ⟨wA, hwA⟩ : ∃ X : World, X = ((w9.setCell ⟨W.heap.size + 2, 0, none⟩ (.slice (some ⟨gw, 0, none⟩) fin.us.length cw)).setCell ⟨W.heap.size + 2, 1, none⟩ (.slice (some ⟨gl, 0, none⟩) ms.length cl)).setCell ⟨W.heap.size + 2, 2, none⟩ (.bool fin.u) := ⟨_, rfl⟩
        have hA : MBox wA (W.heap.size + 2) (.slice (some ⟨gw, 0, none⟩) fin.us.length cw) (.slice (some ⟨gl, 0, none⟩) ms.length cl) fin.u := by rw [hwA]; exact hy9.set _ _ _
        have hAK : Keeps (fun k => k = W.heap.size + 2) w9 wA := by
          rw [hwA]
          exact ((Keeps.setCell w9 (S := (· = W.heap.size + 2)) (p := ⟨W.heap.size + 2, 0, none⟩) rfl _).trans (Keeps.setCell _ (S := (· = W.heap.size + 2)) (p := ⟨W.heap.size + 2, 1, none⟩) rfl _)).trans (Keeps.setCell _ (S := (· = W.heap.size + 2)) (p := ⟨W.heap.size + 2, 2, none⟩) rfl _)
        have hr10 : RdBox wA (W.heap.size + 3) ⟨0, 0, 0, 0, 0, 0⟩ (.slice none 0 0) := (hAK.block (W.heap.size + 3) hr9.lt (by omega)).trans hr9
        have hP := hr10.put fin.s (.slice p9 fin.vs.length c9)
        have hPK := RdBox.putK wA (W.heap.size + 3) fin.s (.slice p9 fin.vs.length c9)
        rw [← hwA]
        clear k0 k1 k2 y0 y1 y2 y3 y4 y5 x0 x1 x2 x3 x4 x5 x6 v0 v1 v2 v3 v4 v5 v6 hwA
        revert hP hPK
        generalize World.setCell _ ⟨W.heap.size + 3, 6, none⟩ _ = wB
        intro hP hPK
        have hAB : MBox wB (W.heap.size + 2) (.slice (some ⟨gw, 0, none⟩) fin.us.length cw) (.slice (some ⟨gl, 0, none⟩) ms.length cl) fin.u := hA.keeps hPK (by omega)
        have HPB := Lib.hid hP
        have HMB := Lib.hid hAB
        have HKB := Lib.hid (show Keeps (fun k => k = W.heap.size + 2 ∨ k = W.heap.size + 3) w8 wB from ((Keeps.of_below hb8).trans (hAK.sub fun k _ e => .inl e)).trans (hPK.sub fun k _ e => .inr e))
        have HO9 := Lib.hid (show wB.ownsRow w8.heap.size 27 1 (.slice p9 fin.vs.length c9) fin.vs.length (fin.vs.map (Value.int .u64)) from (hPK.row (hAK.row ho (fun g hg e => by have := (ho.lt g hg).1; have h9 := HRDB.out.lt; have : w8.heap.size ≤ g := this; omega)) (fun g hg e => by have := (ho.lt g hg).1; have h9 := HRDB.out.lt; have : w8.heap.size ≤ g := this; omega)))
        clear hA hAK hr10 hP hPK hAB ho hb8 hb9 hy9 hr9 HTO z0 z1 z2
        obtain ⟨⟨y0, y1, y2⟩, -, -, -⟩ := mbox_cells HMB.out
        obtain ⟨x0, x1, x2, x3, x4, x5, x6⟩ := HPB.out.cells
        go_wp2
        try simp only [Exit.jump]
        refine bodyPost_ret (v := .tuple #[.agg #[.slice (some ⟨gw, 0, none⟩) fin.us.length cw, .slice (some ⟨gl, 0, none⟩) ms.length cl, .bool fin.u], rdV fin.s (.slice p9 fin.vs.length c9), .int .i64 0]) (by simp [results, Try.results32, go_sem, y0, y1, y2, x0, x1, x2, x3, x4, x5, x6, rdV]) rfl ⟨⟨gw, cw, gl, cl, p9, c9, rfl, ?_, ?_, ?_⟩, ?_⟩
        · exact HKB.out.row HJ.out.at'.acc.words (by intro g hg; simp only [Value.ownBlock, Option.some.injEq] at hg; subst hg; have := HJ.out.up gw (.inr (.inl rfl)); show ¬ (_ ∨ _); omega)
        · exact HKB.out.row HJ.out.at'.acc.lives (by intro g hg; have n1 := HRES.out.row HJ.out.at'.acc.lives (by decide) hg; have n2 := RdBox.row HRDB.out HJ.out.at'.acc.lives (by decide) hg; show ¬ (_ ∨ _); omega)
        · exact HO9.out.mono HJ.out.low.size
        · exact HJ.out.low.trans (HKB.out.below HJ.out.low.size (fun k e => by omega))
    | cons x bs =>
      obtain ⟨b0, off, rfl, hSb, hcs⟩ := HJ.out.pk (by simp)
      have hx := hcs 0 (by simp)
      simp only [List.getElem_cons_zero, Nat.add_zero] at hx
      have hpc1 : 1 ≤ pc := by have := HJ.out.cap.1; simp at this; omega
      have hpc2 : pc ≤ 9223372036854775807 := HJ.out.cap.2
      have hpc3 : bs.length + 1 ≤ pc := by have := HJ.out.cap.1; simpa using this
      have HPC3 := Lib.hid hpc3
      have HPC2 := Lib.hid hpc2
      clear hSb hcs hpc3
      rcases (show pc = 1 ∨ 2 ≤ pc by omega) with h1 | h1
      · have hpe := h1
        subst hpe
        clear h1 hpc1 hpc2
        cases x with
        | true =>
          go_wp2_with fail
          refine (pick_read W.heap.size q W.heap.size gw gl cw cl r t mb mc ms st w8 HJ.out.at' HJ.out.ok).mono ?_
          rintro e w9 ⟨rfl, hP, hk⟩
          have HP := Lib.hid hP
          have HK := Lib.hid hk
          clear hP hk hx
          go_wp2_with fail
          go_step3
          have HJN := Lib.hid (show PlJ W ms fin q gw gl cw cl r t mb mc (pickM ms st true) bs (some ⟨b0, off, none⟩) 0 w9 from ⟨HP.out, pickM_ok HJ.out.ok true, HJ.out.fin, fun hne => absurd (List.eq_nil_of_length_eq_zero (by have := HPC3.out; omega)) hne, by have := HPC3.out; have := HPC2.out; omega, HJ.out.low.trans (HK.out.below HJ.out.low.size (fun k e => (HJ.out.up k e).1)), HJ.out.res.keeps HK.out (fun e => (HJ.out.up _ e).2.1 rfl), (HK.out.block (W.heap.size + 3) HJ.out.rd.lt (fun e => (HJ.out.up _ e).2.2 rfl)).trans HJ.out.rd, HJ.out.up⟩)
          exact ⟨rfl, ⟨q, gw, gl, cw, cl, r, t, mb, mc, pickM ms st true, bs, (some ⟨b0, off, none⟩), 0, _, _, _, _, _, _, _, _, _, _, _, _, _, _, _, _, _, _, _, _, _, _, _, _, _, _, _, _, _, _, _, _, _, _, _, _, _, _, _, _, _, _, _, _, _, _, _, _, _, _, _, _, _, _, _, _, _, _, _, _, rfl, HJN.out⟩, by show pkLen _ < pkLen _; unfold pkLen; simp⟩
        | false =>
          go_wp2_with fail
          refine (pick_turn W.heap.size q W.heap.size gw gl cw cl r t mb mc ms st w8 HJ.out.at').mono ?_
          rintro e w9 ⟨rfl, hP, hk⟩
          have HP := Lib.hid hP
          have HK := Lib.hid hk
          clear hP hk hx
          go_wp2_with fail
          refine (pick_write W.heap.size q W.heap.size gw gl cw cl r t mb mc ms _ w9 HP.out HJ.out.ok.mem HJ.out.ok.rng (turnM_ok _ _ HJ.out.ok.x HJ.out.ok.l).1).mono ?_
          rintro e w10 ⟨rfl, hP2, hk2⟩
          have HP2 := Lib.hid hP2
          have HK2 := Lib.hid (HK.out.trans hk2)
          clear hP2 hk2 HP HK
          go_wp2_with fail
          go_step3
          have HJN := Lib.hid (show PlJ W ms fin q gw gl cw cl r t mb mc (pickM ms st false) bs (some ⟨b0, off, none⟩) 0 w10 from ⟨HP2.out, pickM_ok HJ.out.ok false, HJ.out.fin, fun hne => absurd (List.eq_nil_of_length_eq_zero (by have := HPC3.out; omega)) hne, by have := HPC3.out; have := HPC2.out; omega, HJ.out.low.trans (HK2.out.below HJ.out.low.size (fun k e => (HJ.out.up k e).1)), HJ.out.res.keeps HK2.out (fun e => (HJ.out.up _ e).2.1 rfl), (HK2.out.block (W.heap.size + 3) HJ.out.rd.lt (fun e => (HJ.out.up _ e).2.2 rfl)).trans HJ.out.rd, HJ.out.up⟩)
          exact ⟨rfl, ⟨q, gw, gl, cw, cl, r, t, mb, mc, pickM ms st false, bs, (some ⟨b0, off, none⟩), 0, _, _, _, _, _, _, _, _, _, _, _, _, _, _, _, _, _, _, _, _, _, _, _, _, _, _, _, _, _, _, _, _, _, _, _, _, _, _, _, _, _, _, _, _, _, _, _, _, _, _, _, _, _, _, _, _, _, _, _, _, rfl, HJN.out⟩, by show pkLen _ < pkLen _; unfold pkLen; simp⟩
      · have h1' : ¬ pc = 1 := by omega
        have h1'' : pc ≠ 1 := h1'
        cases x with
        | true =>
          go_wp2_with fail
          refine (pick_read W.heap.size q W.heap.size gw gl cw cl r t mb mc ms st w8 HJ.out.at' HJ.out.ok).mono ?_
          rintro e w9 ⟨rfl, hP, hk⟩
          have HP := Lib.hid hP
          have HK := Lib.hid hk
          clear hP hk hx
          go_wp2_with fail
          go_step3
          have HJN := Lib.hid (show PlJ W ms fin q gw gl cw cl r t mb mc (pickM ms st true) bs (some ⟨b0, off + 1, none⟩) (pc - 1) w9 from ⟨HP.out, pickM_ok HJ.out.ok true, HJ.out.fin, HJ.out.pk.tail.keeps HK.out (fun _ h => h), by have := HPC3.out; have := HPC2.out; omega, HJ.out.low.trans (HK.out.below HJ.out.low.size (fun k e => (HJ.out.up k e).1)), HJ.out.res.keeps HK.out (fun e => (HJ.out.up _ e).2.1 rfl), (HK.out.block (W.heap.size + 3) HJ.out.rd.lt (fun e => (HJ.out.up _ e).2.2 rfl)).trans HJ.out.rd, HJ.out.up⟩)
          exact ⟨rfl, ⟨q, gw, gl, cw, cl, r, t, mb, mc, pickM ms st true, bs, (some ⟨b0, off + 1, none⟩), (pc - 1), _, _, _, _, _, _, _, _, _, _, _, _, _, _, _, _, _, _, _, _, _, _, _, _, _, _, _, _, _, _, _, _, _, _, _, _, _, _, _, _, _, _, _, _, _, _, _, _, _, _, _, _, _, _, _, _, _, _, _, _, rfl, HJN.out⟩, by show pkLen _ < pkLen _; unfold pkLen; simp⟩
        | false =>
          go_wp2_with fail
          refine (pick_turn W.heap.size q W.heap.size gw gl cw cl r t mb mc ms st w8 HJ.out.at').mono ?_
          rintro e w9 ⟨rfl, hP, hk⟩
          have HP := Lib.hid hP
          have HK := Lib.hid hk
          clear hP hk hx
          go_wp2_with fail
          refine (pick_write W.heap.size q W.heap.size gw gl cw cl r t mb mc ms _ w9 HP.out HJ.out.ok.mem HJ.out.ok.rng (turnM_ok _ _ HJ.out.ok.x HJ.out.ok.l).1).mono ?_
          rintro e w10 ⟨rfl, hP2, hk2⟩
          have HP2 := Lib.hid hP2
          have HK2 := Lib.hid (HK.out.trans hk2)
          clear hP2 hk2 HP HK
          go_wp2_with fail
          go_step3
          have HJN := Lib.hid (show PlJ W ms fin q gw gl cw cl r t mb mc (pickM ms st false) bs (some ⟨b0, off + 1, none⟩) (pc - 1) w10 from ⟨HP2.out, pickM_ok HJ.out.ok false, HJ.out.fin, HJ.out.pk.tail.keeps HK2.out (fun _ h => h), by have := HPC3.out; have := HPC2.out; omega, HJ.out.low.trans (HK2.out.below HJ.out.low.size (fun k e => (HJ.out.up k e).1)), HJ.out.res.keeps HK2.out (fun e => (HJ.out.up _ e).2.1 rfl), (HK2.out.block (W.heap.size + 3) HJ.out.rd.lt (fun e => (HJ.out.up _ e).2.2 rfl)).trans HJ.out.rd, HJ.out.up⟩)
          exact ⟨rfl, ⟨q, gw, gl, cw, cl, r, t, mb, mc, pickM ms st false, bs, (some ⟨b0, off + 1, none⟩), (pc - 1), _, _, _, _, _, _, _, _, _, _, _, _, _, _, _, _, _, _, _, _, _, _, _, _, _, _, _, _, _, _, _, _, _, _, _, _, _, _, _, _, _, _, _, _, _, _, _, _, _, _, _, _, _, _, _, _, _, _, _, _, rfl, HJN.out⟩, by show pkLen _ < pkLen _; unfold pkLen; simp⟩

  case first =>
    go_wp2_with fail
    rw [← HW0.out]
    clear HW0
    refine (HAN.out _ HB0.out).mono ?_
    rintro e w1 ⟨⟨gw, cw, gl, cl, rfl, how, hol⟩, hb1⟩
    have HZ1 := Lib.hid (HZ0.out.below hb1)
    have HR1 := Lib.hid (HR0.out.below hb1)
    have HY1 := Lib.hid (HY0.out.below hb1)
    have HT1 := Lib.hid (HT0.out.below hb1)
    have HB1 := Lib.hid (below_then HB0.out HB0.out.size hb1)
    have HOW := Lib.hid (how.mono HB0.out.size)
    have HOL := Lib.hid (hol.mono HB0.out.size)
    have hgwl := (row_lt how).2
    have hs0 : W.heap.size + 3 < w0.heap.size := HT0.out.lt
    clear hb1 HAN HZ0 HR0 HY0 HT0 HB0 how hol
    obtain ⟨⟨hd0, hd1, hd2⟩, he0, he1, he2⟩ := mbox_cells HZ1.out
    obtain ⟨w2, hw2⟩ : ∃ X : World, X = ((w1.setCell ⟨W.heap.size, 0, none⟩ (.slice (some ⟨gw, 0, none⟩) us.length cw)).setCell ⟨W.heap.size, 1, none⟩ (.slice (some ⟨gl, 0, none⟩) ms.length cl)).setCell ⟨W.heap.size, 2, none⟩ (.bool u) := ⟨_, rfl⟩
    have hk2 : Keeps (fun k => k = W.heap.size) w1 w2 := by
      rw [hw2]
      exact ((Keeps.setCell w1 (S := (· = W.heap.size)) (p := ⟨W.heap.size, 0, none⟩) rfl _).trans (Keeps.setCell _ (S := (· = W.heap.size)) (p := ⟨W.heap.size, 1, none⟩) rfl _)).trans (Keeps.setCell _ (S := (· = W.heap.size)) (p := ⟨W.heap.size, 2, none⟩) rfl _)
    have HZ2 := Lib.hid (show MBox w2 W.heap.size (.slice (some ⟨gw, 0, none⟩) us.length cw) (.slice (some ⟨gl, 0, none⟩) ms.length cl) u by rw [hw2]; exact HZ1.out.set _ _ _)
    have HR2 := Lib.hid (show RdBox w2 (W.heap.size + 1) ⟨a, f, m, ph, b, t0⟩ (.slice rq vs.length rc) from (hk2.block (W.heap.size + 1) HR1.out.lt (by omega)).trans HR1.out)
    have HY2 := Lib.hid (HY1.out.keeps hk2 (by omega))
    have HT2 := Lib.hid (show RdBox w2 (W.heap.size + 3) ⟨0, 0, 0, 0, 0, 0⟩ (.slice none 0 0) from (hk2.block (W.heap.size + 3) HT1.out.lt (by omega)).trans HT1.out)
    have HB2 := Lib.hid (HB1.out.trans (hk2.below HB1.out.size (fun k e => by omega)))
    have HOW2 := Lib.hid (hk2.row HOW.out (fun g hg e => HZ1.out.row HOW.out (by decide) hg e.symm))
    have HOL2 := Lib.hid (hk2.row HOL.out (fun g hg e => HZ1.out.row HOL.out (by decide) hg e.symm))
    have HG := Lib.hid (show W.heap.size + 3 < gw by omega)
    have HW2 := Lib.hid hw2
    clear hw2 hk2 HZ1 HR1 HY1 HT1 HB1 HOW HOL hgwl hs0
    go_upto_region 2 with fail
    rw [← HW2.out]
    clear hd0 hd1 hd2 he0 he1 he2 HW2
    obtain ⟨r0, r1, r2, r3, r4, r5, r6⟩ := HR2.out.cells
    dsimp only at r0 r1 r2 r3 r4 r6
    go_wp2_with fail
    refine (HCP.out _ HB2.out).mono ?_
    rintro e w3 ⟨rfl, hb3⟩
    have HZ3 := Lib.hid (HZ2.out.below hb3)
    have HR3 := Lib.hid (HR2.out.below hb3)
    have HY3 := Lib.hid (HY2.out.below hb3)
    have HT3 := Lib.hid (HT2.out.below hb3)
    have HB3 := Lib.hid (below_then HB2.out HB2.out.size hb3)
    have HOW3 := Lib.hid (owns_below HOW2.out hb3)
    have HOL3 := Lib.hid (owns_below HOL2.out hb3)
    clear hb3 HCP HZ2 HR2 HY2 HT2 HB2 HOW2 HOL2 r0 r1 r2 r3 r4 r5 r6
    go_wp2_with fail
    refine (accesses_c W.heap.size w3).mono ?_
    obtain ⟨q, hq⟩ : ∃ q, q = w3.heap.size := ⟨_, rfl⟩
    rw [← hq]
    rintro e w4 ⟨⟨rfl, hx⟩, hb4⟩
    rw [hq] at hb4
    have HQ := Lib.hid (show W.heap.size + 3 < q by have := HT3.out.lt; omega)
    have HR4 := Lib.hid (HR3.out.below hb4)
    have HY4 := Lib.hid (HY3.out.below hb4)
    have HT4 := Lib.hid (HT3.out.below hb4)
    have HB4 := Lib.hid (below_then HB3.out HB3.out.size hb4)
    have HF4 := Lib.hid (show AccF W.heap.size q W.heap.size gw gl cw cl us ms u w4 from ⟨hx, HZ3.out.below hb4, owns_below HOW3.out hb4, owns_below HOL3.out hb4⟩)
    clear hb4 HZ3 HR3 HY3 HT3 HB3 HOW3 HOL3 hx hq
    go_upto_region 8 with fail
    go_cut [14, 15] (fun s14 s15 wc => Hid (∃ r t, (s14 = .pointer (some ⟨r, 0, none⟩) ∧ s15 = .pointer (some ⟨t, 0, none⟩)) ∧ RBox wc r ⟨a, f, m, ph, b, t0⟩ (.slice rq vs.length rc) q ∧ WBox wc t 109 [.slice p l.length cap] ⟨0, 0, 4, 0, 0⟩ (.slice none 0 0) q ∧ (w4.heap.size ≤ r ∧ w4.heap.size ≤ t) ∧ Below w4.heap.size w4 wc))
    case first =>
      obtain ⟨r0, r1, r2, r3, r4, r5, r6⟩ := HR4.out.cells
      dsimp only at r0 r1 r2 r3 r4 r6
      have HRO := Lib.hid (fun Z => rowOf_c q (.slice p l.length cap) ⟨_, _, _, rfl⟩ Z)
      clear HR4 HY4 HT4 HB4 HF4 HALL
      unfold accV at HRO ⊢
      go_region_with (first | (go_at_call 56; refine (HRO.out _).mono ?_; rintro e w5 ⟨⟨rfl, hW5⟩, hb5⟩; try (have s0 := below_cell hb5 r0; have s1 := below_cell hb5 r1; have s2 := below_cell hb5 r2; have s3 := below_cell hb5 r3; have s4 := below_cell hb5 r4; have s5 := below_cell hb5 r5; have s6 := below_cell hb5 r6)))
      all_goals (go_wp2_with fail; go_meet)
      all_goals first
        | exact Lib.hid ⟨w4.heap.size, _, ⟨rfl, by simp [World.size_alloc]⟩, RBox.below (w := (w4.alloc (.cells #[.int .i64 a, .int .i64 f, .int .i64 m, .int .i64 ph, .int .u64 b, .slice rq vs.length rc, .int .i64 t0, accV q] 92)).drew) (World.alloc_heap_new w4 _) hb5, hW5, ⟨Nat.le_refl _, by show w4.heap.size ≤ (w4.alloc _).heap.size; rw [World.size_alloc]; omega⟩, ((below1 w4 _).drew).trans (hb5.mono (by show w4.heap.size ≤ (w4.alloc _).heap.size; rw [World.size_alloc]; omega))⟩
        | (have hb6 : Below w4.heap.size w4 w5 := ((Below.refl w4.heap.size w4).drew).trans hb5
           exact Lib.hid ⟨w5.heap.size, w4.heap.size, ⟨rfl, rfl⟩, World.alloc_heap_new w5 _, hW5.below (below1 w5 _), ⟨hb6.size, Nat.le_refl _⟩, hb6.trans ((below1 w5 _).mono hb6.size)⟩)
    case rest =>
      obtain ⟨r, t, ⟨rfl, rfl⟩, hRB, hWB, ⟨hr4, ht4⟩, hbc⟩ := hcut.out
      clear hcut HR4
      have hk5 : Keeps (fun _ => False) w4 wc := Keeps.of_below hbc
      have HY5 := Lib.hid (HY4.out.below hbc)
      have HT5 := Lib.hid (HT4.out.below hbc)
      have HB5 := Lib.hid (below_then HB4.out HB4.out.size hbc)
      have HF5 := Lib.hid (HF4.out.below hbc)
      have HRB := Lib.hid hRB
      have HWB := Lib.hid hWB
      have HRT := Lib.hid (show W.heap.size + 3 < r ∧ W.heap.size + 3 < t by have := HT4.out.lt; omega)
      clear hk5 HY4 HT4 HB4 HF4 hRB hWB hr4 ht4 hbc
      obtain ⟨w5, hw5⟩ : ∃ X : World, X = wc := ⟨_, rfl⟩
      rw [← hw5] at HY5 HT5 HB5 HF5 HRB HWB
      rw [← hw5]
      clear hw5
      go_upto_region 9 with fail
      go_cut [16, 17] (fun s16 s17 wc => Hid (∃ mb mc, (s16 = .map (some mb) ∧ s17 = .map (some mc)) ∧ wc.heap[mb]? = some (rmap r) ∧ wc.heap[mc]? = some (wmap t) ∧ Below w5.heap.size w5 wc))
      case first =>
        have HRD := Lib.hid (fun Z => rdoes_c r Z)
        have HWD := Lib.hid (fun Z => wdoes_c t Z)
        clear HY5 HT5 HB5 HF5 HRB HWB HALL
        go_region_with (first | (go_at_call 48; refine (HRD.out _).mono ?_; rintro e w6 ⟨⟨rfl, hX6⟩, hb6⟩) | (go_at_call 52; refine (HWD.out _).mono ?_; rintro e w7 ⟨⟨rfl, hX7⟩, hb7⟩))
        all_goals (go_wp2_with fail; go_meet)
        all_goals first
          | exact Lib.hid ⟨_, _, ⟨rfl, rfl⟩, (hb7.block _ (Array.getElem?_eq_some_iff.1 hX6).1).trans hX6, hX7, (((Below.refl w5.heap.size w5).drew).trans hb6).trans (hb7.mono hb6.size)⟩
          | exact Lib.hid ⟨_, _, ⟨rfl, rfl⟩, hX6, (hb6.block _ (Array.getElem?_eq_some_iff.1 hX7).1).trans hX7, (((Below.refl w5.heap.size w5).drew).trans hb7).trans (hb6.mono hb7.size)⟩
      case rest =>
        obtain ⟨mb, mc, ⟨rfl, rfl⟩, hm1, hm2, hbc⟩ := hcut.out
        clear hcut
        have HY6 := Lib.hid (HY5.out.below hbc)
        have HT6 := Lib.hid (HT5.out.below hbc)
        have HB6 := Lib.hid (below_then HB5.out HB5.out.size hbc)
        have hF6 := HF5.out.below hbc
        have hR6 := HRB.out.below hbc
        have hW6 := HWB.out.below hbc
        have HJ := Lib.hid (show PlJ W ms fin q gw gl cw cl r t mb mc ⟨us, u, ⟨a, f, m, ph, b, t0⟩, vs, ⟨⟨0, 0, 4, 0, 0⟩, .slice none 0 0, []⟩, l⟩ bs pp pc wc by
          obtain ⟨g1, g2, g3, g4, g5, g6, g7, g8, g9, g10, g11⟩ := HALL.out
          have hup : ∀ k, PlC W.heap.size gw r t k → W.heap.size ≤ k ∧ k ≠ W.heap.size + 2 ∧ k ≠ W.heap.size + 3 := by
            have := HG.out
            have := HRT.out
            rintro k (e | e | e | e) <;> omega
          have hS : ∀ k, PlC W.heap.size gw r t k → W.heap.size ≤ k := fun k e => (hup k e).1
          have hkp : Keeps (fun k => W.heap.size ≤ k) W wc := Keeps.of_low HB6.out
          exact ⟨⟨hF6, ⟨_, hR6, (g3.keeps hkp (fun _ h => h)).weaken hS⟩, ⟨p, cap, hW6, VV.nil _ _, (g5.keeps hkp (fun _ h => h)).weaken hS, g6⟩, hm1, hm2⟩, ⟨g1, g2, g4, ⟨.inl rfl, by intro x hx; cases hx⟩, fun x hx => ⟨.inr (.inr (List.all_eq_true.1 g7 x hx)), g8 x hx⟩⟩, g11.symm, (g9.keeps hkp (fun _ h => h)).weaken hS, g10, HB6.out, HY6.out, HT6.out, hup⟩)
        clear hm1 hm2 hbc HY5 HT5 HB5 HF5 HRB HWB HY6 HT6 HB6 hF6 hR6 hW6 HALL HRT HG HQ
        obtain ⟨st, hst⟩ : ∃ x : PlS, x = ⟨us, u, ⟨a, f, m, ph, b, t0⟩, vs, ⟨⟨0, 0, 4, 0, 0⟩, .slice none 0 0, []⟩, l⟩ := ⟨_, rfl⟩
        rw [← hst] at HJ
        obtain ⟨w8, hw8⟩ : ∃ X : World, X = wc := ⟨_, rfl⟩
        rw [← hw8] at HJ
        rw [← hw8]
        clear hst hw8
        go_wp2_with fail
        go_step3
        cases bs with
        | nil =>
          obtain ⟨⟨z0, z1, z2⟩, -⟩ := mbox_cells HJ.out.at'.acc.box
          obtain ⟨v, hRv, hVv⟩ := HJ.out.at'.rd
          have HTO := Lib.hid (fun (Z : World) (hb : Below w8.heap.size w8 Z) => rtold_c r q st.s v st.vs (PlC W.heap.size gw r t) Z (hRv.below hb) (hVv.keeps (Keeps.of_below (S := fun _ => False) hb) (fun _ h => h.elim)) (by have := (fits_le (rightRB_parts HJ.out.ok.read).1.1 (rightRB_parts HJ.out.ok.read).2.2.2).1; have := (rightRB_parts HJ.out.ok.read).1.2; omega))
          have hfin : fin = st := HJ.out.fin.symm
          subst hfin
          clear hRv hVv
          unfold rdV at HTO
          go_upto_region 11 with fail
          rw [show W.heap.size + 1 + 1 + 1 = W.heap.size + 3 from rfl, show W.heap.size + 1 + 1 = W.heap.size + 2 from rfl]
          have HRES := Lib.hid HJ.out.res
          have HRDB := Lib.hid HJ.out.rd
          go_region_with (first | (go_at_call 49; refine (HTO.out w8.drew (Below.refl _ _).drew).mono ?_; rintro e w9 ⟨⟨p9, c9, rfl, ho⟩, hb9⟩; have hb8 : Below w8.heap.size w8 w9 := ((Below.refl w8.heap.size w8).drew).trans hb9; have k0 := below_cell hb8 z0; have k1 := below_cell hb8 z1; have k2 := below_cell hb8 z2; have hy9 := HRES.out.below hb8; have hr9 := HRDB.out.below hb8; obtain ⟨⟨y0, y1, y2⟩, y3, y4, y5⟩ := mbox_cells hy9; obtain ⟨x0, x1, x2, x3, x4, x5, x6⟩ := hr9.cells; have v0 := hr9.marks 0; have v1 := hr9.marks 1; have v2 := hr9.marks 2; have v3 := hr9.marks 3; have v4 := hr9.marks 4; have v5 := hr9.marks 5; have v6 := hr9.marks 6; dsimp only at x0 x1 x2 x3 x4 x6))
          all_goals
            obtain ⟨wA, hwA⟩ : ∃ X : World, X = ((w9.setCell ⟨W.heap.size + 2, 0, none⟩ (.slice (some ⟨gw, 0, none⟩) fin.us.length cw)).setCell ⟨W.heap.size + 2, 1, none⟩ (.slice (some ⟨gl, 0, none⟩) ms.length cl)).setCell ⟨W.heap.size + 2, 2, none⟩ (.bool fin.u) := ⟨_, rfl⟩
            have hA : MBox wA (W.heap.size + 2) (.slice (some ⟨gw, 0, none⟩) fin.us.length cw) (.slice (some ⟨gl, 0, none⟩) ms.length cl) fin.u := by rw [hwA]; exact hy9.set _ _ _
            have hAK : Keeps (fun k => k = W.heap.size + 2) w9 wA := by
              rw [hwA]
              exact ((Keeps.setCell w9 (S := (· = W.heap.size + 2)) (p := ⟨W.heap.size + 2, 0, none⟩) rfl _).trans (Keeps.setCell _ (S := (· = W.heap.size + 2)) (p := ⟨W.heap.size + 2, 1, none⟩) rfl _)).trans (Keeps.setCell _ (S := (· = W.heap.size + 2)) (p := ⟨W.heap.size + 2, 2, none⟩) rfl _)
            have hr10 : RdBox wA (W.heap.size + 3) ⟨0, 0, 0, 0, 0, 0⟩ (.slice none 0 0) := (hAK.block (W.heap.size + 3) hr9.lt (by omega)).trans hr9
            have hP := hr10.put fin.s (.slice p9 fin.vs.length c9)
            have hPK := RdBox.putK wA (W.heap.size + 3) fin.s (.slice p9 fin.vs.length c9)
            rw [← hwA]
            clear k0 k1 k2 y0 y1 y2 y3 y4 y5 x0 x1 x2 x3 x4 x5 x6 v0 v1 v2 v3 v4 v5 v6 hwA
            revert hP hPK
            generalize World.setCell _ ⟨W.heap.size + 3, 6, none⟩ _ = wB
            intro hP hPK
            have hAB : MBox wB (W.heap.size + 2) (.slice (some ⟨gw, 0, none⟩) fin.us.length cw) (.slice (some ⟨gl, 0, none⟩) ms.length cl) fin.u := hA.keeps hPK (by omega)
            have HPB := Lib.hid hP
            have HMB := Lib.hid hAB
            have HKB := Lib.hid (show Keeps (fun k => k = W.heap.size + 2 ∨ k = W.heap.size + 3) w8 wB from ((Keeps.of_below hb8).trans (hAK.sub fun k _ e => .inl e)).trans (hPK.sub fun k _ e => .inr e))
            have HO9 := Lib.hid (show wB.ownsRow w8.heap.size 27 1 (.slice p9 fin.vs.length c9) fin.vs.length (fin.vs.map (Value.int .u64)) from (hPK.row (hAK.row ho (fun g hg e => by have := (ho.lt g hg).1; have h9 := HRDB.out.lt; have : w8.heap.size ≤ g := this; omega)) (fun g hg e => by have := (ho.lt g hg).1; have h9 := HRDB.out.lt; have : w8.heap.size ≤ g := this; omega)))
            clear hA hAK hr10 hP hPK hAB ho hb8 hb9 hy9 hr9 HTO z0 z1 z2
            obtain ⟨⟨y0, y1, y2⟩, -, -, -⟩ := mbox_cells HMB.out
            obtain ⟨x0, x1, x2, x3, x4, x5, x6⟩ := HPB.out.cells
            go_wp2
            try simp only [Exit.jump]
            refine bodyPost_ret (v := .tuple #[.agg #[.slice (some ⟨gw, 0, none⟩) fin.us.length cw, .slice (some ⟨gl, 0, none⟩) ms.length cl, .bool fin.u], rdV fin.s (.slice p9 fin.vs.length c9), .int .i64 0]) (by simp [results, Try.results32, go_sem, y0, y1, y2, x0, x1, x2, x3, x4, x5, x6, rdV]) rfl ⟨⟨gw, cw, gl, cl, p9, c9, rfl, ?_, ?_, ?_⟩, ?_⟩
            · exact HKB.out.row HJ.out.at'.acc.words (by intro g hg; simp only [Value.ownBlock, Option.some.injEq] at hg; subst hg; have := HJ.out.up gw (.inr (.inl rfl)); show ¬ (_ ∨ _); omega)
            · exact HKB.out.row HJ.out.at'.acc.lives (by intro g hg; have n1 := HRES.out.row HJ.out.at'.acc.lives (by decide) hg; have n2 := RdBox.row HRDB.out HJ.out.at'.acc.lives (by decide) hg; show ¬ (_ ∨ _); omega)
            · exact HO9.out.mono HJ.out.low.size
            · exact HJ.out.low.trans (HKB.out.below HJ.out.low.size (fun k e => by omega))
        | cons x bs =>
          obtain ⟨b0, off, rfl, hSb, hcs⟩ := HJ.out.pk (by simp)
          have hx := hcs 0 (by simp)
          simp only [List.getElem_cons_zero, Nat.add_zero] at hx
          have hpc1 : 1 ≤ pc := by have := HJ.out.cap.1; simp at this; omega
          have hpc2 : pc ≤ 9223372036854775807 := HJ.out.cap.2
          have hpc3 : bs.length + 1 ≤ pc := by have := HJ.out.cap.1; simpa using this
          have HPC3 := Lib.hid hpc3
          have HPC2 := Lib.hid hpc2
          clear hSb hcs hpc3
          rcases (show pc = 1 ∨ 2 ≤ pc by omega) with h1 | h1
          · have hpe := h1
            subst hpe
            clear h1 hpc1 hpc2
            cases x with
            | true =>
              go_wp2_with fail
              refine (pick_read W.heap.size q W.heap.size gw gl cw cl r t mb mc ms st w8 HJ.out.at' HJ.out.ok).mono ?_
              rintro e w9 ⟨rfl, hP, hk⟩
              have HP := Lib.hid hP
              have HK := Lib.hid hk
              clear hP hk hx
              go_wp2_with fail
              go_step3
              have HJN := Lib.hid (show PlJ W ms fin q gw gl cw cl r t mb mc (pickM ms st true) bs (some ⟨b0, off, none⟩) 0 w9 from ⟨HP.out, pickM_ok HJ.out.ok true, HJ.out.fin, fun hne => absurd (List.eq_nil_of_length_eq_zero (by have := HPC3.out; omega)) hne, by have := HPC3.out; have := HPC2.out; omega, HJ.out.low.trans (HK.out.below HJ.out.low.size (fun k e => (HJ.out.up k e).1)), HJ.out.res.keeps HK.out (fun e => (HJ.out.up _ e).2.1 rfl), (HK.out.block (W.heap.size + 3) HJ.out.rd.lt (fun e => (HJ.out.up _ e).2.2 rfl)).trans HJ.out.rd, HJ.out.up⟩)
              exact ⟨rfl, ⟨q, gw, gl, cw, cl, r, t, mb, mc, pickM ms st true, bs, (some ⟨b0, off, none⟩), 0, _, _, _, _, _, _, _, _, _, _, _, _, _, _, _, _, _, _, _, _, _, _, _, _, _, _, _, _, _, _, _, _, _, _, _, _, _, _, _, _, _, _, _, _, _, _, _, _, _, _, _, _, _, _, _, _, _, _, _, _, rfl, HJN.out⟩⟩
            | false =>
              go_wp2_with fail
              refine (pick_turn W.heap.size q W.heap.size gw gl cw cl r t mb mc ms st w8 HJ.out.at').mono ?_
              rintro e w9 ⟨rfl, hP, hk⟩
              have HP := Lib.hid hP
              have HK := Lib.hid hk
              clear hP hk hx
              go_wp2_with fail
              refine (pick_write W.heap.size q W.heap.size gw gl cw cl r t mb mc ms _ w9 HP.out HJ.out.ok.mem HJ.out.ok.rng (turnM_ok _ _ HJ.out.ok.x HJ.out.ok.l).1).mono ?_
              rintro e w10 ⟨rfl, hP2, hk2⟩
              have HP2 := Lib.hid hP2
              have HK2 := Lib.hid (HK.out.trans hk2)
              clear hP2 hk2 HP HK
              go_wp2_with fail
              go_step3
              have HJN := Lib.hid (show PlJ W ms fin q gw gl cw cl r t mb mc (pickM ms st false) bs (some ⟨b0, off, none⟩) 0 w10 from ⟨HP2.out, pickM_ok HJ.out.ok false, HJ.out.fin, fun hne => absurd (List.eq_nil_of_length_eq_zero (by have := HPC3.out; omega)) hne, by have := HPC3.out; have := HPC2.out; omega, HJ.out.low.trans (HK2.out.below HJ.out.low.size (fun k e => (HJ.out.up k e).1)), HJ.out.res.keeps HK2.out (fun e => (HJ.out.up _ e).2.1 rfl), (HK2.out.block (W.heap.size + 3) HJ.out.rd.lt (fun e => (HJ.out.up _ e).2.2 rfl)).trans HJ.out.rd, HJ.out.up⟩)
              exact ⟨rfl, ⟨q, gw, gl, cw, cl, r, t, mb, mc, pickM ms st false, bs, (some ⟨b0, off, none⟩), 0, _, _, _, _, _, _, _, _, _, _, _, _, _, _, _, _, _, _, _, _, _, _, _, _, _, _, _, _, _, _, _, _, _, _, _, _, _, _, _, _, _, _, _, _, _, _, _, _, _, _, _, _, _, _, _, _, _, _, _, _, rfl, HJN.out⟩⟩
          · have h1' : ¬ pc = 1 := by omega
            have h1'' : pc ≠ 1 := h1'
            cases x with
            | true =>
              go_wp2_with fail
              refine (pick_read W.heap.size q W.heap.size gw gl cw cl r t mb mc ms st w8 HJ.out.at' HJ.out.ok).mono ?_
              rintro e w9 ⟨rfl, hP, hk⟩
              have HP := Lib.hid hP
              have HK := Lib.hid hk
              clear hP hk hx
              go_wp2_with fail
              go_step3
              have HJN := Lib.hid (show PlJ W ms fin q gw gl cw cl r t mb mc (pickM ms st true) bs (some ⟨b0, off + 1, none⟩) (pc - 1) w9 from ⟨HP.out, pickM_ok HJ.out.ok true, HJ.out.fin, HJ.out.pk.tail.keeps HK.out (fun _ h => h), by have := HPC3.out; have := HPC2.out; omega, HJ.out.low.trans (HK.out.below HJ.out.low.size (fun k e => (HJ.out.up k e).1)), HJ.out.res.keeps HK.out (fun e => (HJ.out.up _ e).2.1 rfl), (HK.out.block (W.heap.size + 3) HJ.out.rd.lt (fun e => (HJ.out.up _ e).2.2 rfl)).trans HJ.out.rd, HJ.out.up⟩)
              exact ⟨rfl, ⟨q, gw, gl, cw, cl, r, t, mb, mc, pickM ms st true, bs, (some ⟨b0, off + 1, none⟩), (pc - 1), _, _, _, _, _, _, _, _, _, _, _, _, _, _, _, _, _, _, _, _, _, _, _, _, _, _, _, _, _, _, _, _, _, _, _, _, _, _, _, _, _, _, _, _, _, _, _, _, _, _, _, _, _, _, _, _, _, _, _, _, rfl, HJN.out⟩⟩
            | false =>
              go_wp2_with fail
              refine (pick_turn W.heap.size q W.heap.size gw gl cw cl r t mb mc ms st w8 HJ.out.at').mono ?_
              rintro e w9 ⟨rfl, hP, hk⟩
              have HP := Lib.hid hP
              have HK := Lib.hid hk
              clear hP hk hx
              go_wp2_with fail
              refine (pick_write W.heap.size q W.heap.size gw gl cw cl r t mb mc ms _ w9 HP.out HJ.out.ok.mem HJ.out.ok.rng (turnM_ok _ _ HJ.out.ok.x HJ.out.ok.l).1).mono ?_
              rintro e w10 ⟨rfl, hP2, hk2⟩
              have HP2 := Lib.hid hP2
              have HK2 := Lib.hid (HK.out.trans hk2)
              clear hP2 hk2 HP HK
              go_wp2_with fail
              go_step3
              have HJN := Lib.hid (show PlJ W ms fin q gw gl cw cl r t mb mc (pickM ms st false) bs (some ⟨b0, off + 1, none⟩) (pc - 1) w10 from ⟨HP2.out, pickM_ok HJ.out.ok false, HJ.out.fin, HJ.out.pk.tail.keeps HK2.out (fun _ h => h), by have := HPC3.out; have := HPC2.out; omega, HJ.out.low.trans (HK2.out.below HJ.out.low.size (fun k e => (HJ.out.up k e).1)), HJ.out.res.keeps HK2.out (fun e => (HJ.out.up _ e).2.1 rfl), (HK2.out.block (W.heap.size + 3) HJ.out.rd.lt (fun e => (HJ.out.up _ e).2.2 rfl)).trans HJ.out.rd, HJ.out.up⟩)
              exact ⟨rfl, ⟨q, gw, gl, cw, cl, r, t, mb, mc, pickM ms st false, bs, (some ⟨b0, off + 1, none⟩), (pc - 1), _, _, _, _, _, _, _, _, _, _, _, _, _, _, _, _, _, _, _, _, _, _, _, _, _, _, _, _, _, _, _, _, _, _, _, _, _, _, _, _, _, _, _, _, _, _, _, _, _, _, _, _, _, _, _, _, _, _, _, _, rfl, HJN.out⟩⟩


end Go.Proofs.Ythkfjgfhaicfkaa
namespace Go.Proofs.Ythkfjgfhaicfkaa
open Go.RowKit Go.Shelf
attribute [local go_sem] Oper.semAt_some

set_option maxRecDepth 100000 in
set_option maxHeartbeats 8000000 in
theorem elive (W : World) : Calls Try.prog 34 #[.int .i64 8] W fun e w' => (∃ gw cw gl cl, e = .returned (.tuple #[.agg #[.slice (some ⟨gw, 0, none⟩) 8 cw, .slice (some ⟨gl, 0, none⟩) 8 cl, .bool false], .bool true]) ∧
      w'.ownsRow W.heap.size 27 1 (.slice (some ⟨gw, 0, none⟩) 8 cw) 8 ((List.replicate 8 0 : List Int).map (Value.int .u64)) ∧ w'.ownsRow W.heap.size 4 1 (.slice (some ⟨gl, 0, none⟩) 8 cl) 8 ((List.replicate 8 true).map Value.bool)) ∧ Below W.heap.size W w' := by
  have hB : Below W.heap.size W (W.alloc (.cells #[.slice none 0 0, .slice none 0 0, .bool false] 44)) := (Below.refl _ _).alloc (Nat.le_refl _) _
  have HR := Lib.hid (MBox.new W (.slice none 0 0) (.slice none 0 0) false)
  go_enter Try.func34, Try.ntmps34
  go_wp2_with fail
  refine (new_c _).mono ?_
  rintro e w1 ⟨⟨_, rfl, vw, vl, rfl, how, hol⟩, hb1⟩
  have HR1 := Lib.hid (HR.out.below hb1)
  have hB1 := below_then hB hB.size hb1
  clear hb1 hB HR
  obtain ⟨gw, cw, rfl, hgw, hgw3⟩ := own_form how (by decide)
  obtain ⟨gl, cl, rfl, hgl, hgl3⟩ := own_form hol (by decide)
  have hcapl := (own_cap hol).1
  have hb2 : Below w1.heap.size w1 (w1.alloc (.cells #[.slice (some ⟨gw, 0, none⟩) 8 cw, .slice (some ⟨gl, 0, none⟩) 8 cl, .bool false] 44)) := (Below.refl _ _).alloc (Nat.le_refl _) _
  have hmem : MemAt (w1.alloc (.cells #[.slice (some ⟨gw, 0, none⟩) 8 cw, .slice (some ⟨gl, 0, none⟩) 8 cl, .bool false] 44)) (.agg #[.slice (some ⟨gw, 0, none⟩) 8 cw, .slice (some ⟨gl, 0, none⟩) 8 cl, .bool false]) (List.replicate 8 0) (List.replicate 8 false) false :=
    ⟨_, _, rfl, nums_of_owns (by decide) (owns_below how hb2), bools_of_owns (by decide) (owns_below hol hb2)⟩
  have HLIVE := Lib.hid (live_yes _ _ _ false 0 8 _ hmem (by intro x y p n c e; injection e with e; injection e with e; injection e with _ e; injection e with e _; injection e with _ e1 e2; subst e1; subst e2; exact hcapl) (by decide) (by decide) (by decide) (by decide) (by decide))
  have HZ2 := Lib.hid (MBox.new w1 (.slice (some ⟨gw, 0, none⟩) 8 cw) (.slice (some ⟨gl, 0, none⟩) 8 cl) false)
  have HR2 := Lib.hid (HR1.out.below hb2)
  have hB2 := below_then hB1 hB1.size hb2
  have hzb : W.heap.size < w1.heap.size := HR1.out.lt
  obtain ⟨z, hz⟩ : ∃ z, z = w1.heap.size := ⟨_, rfl⟩
  have HZZ := Lib.hid hz
  clear hmem hb2 how hol hB1 HR1 hz
  go_wp2_with fail
  refine HLIVE.out.mono ?_
  rintro e w3 ⟨⟨_, rfl, vw2, vl2, rfl, how2, hol2⟩, hb3⟩
  obtain ⟨gw2, cw2, rfl, hgw2, hgw4⟩ := own_form how2 (by decide)
  obtain ⟨gl2, cl2, rfl, hgl2, hgl4⟩ := own_form hol2 (by decide)
  have e1 : fill (List.replicate 8 (0 : Int)) (Int.toNat 0) 0 (Int.toNat 8) = List.replicate 8 0 := by decide
  have e2 : fill (List.replicate 8 false) (Int.toNat 0) true (Int.toNat 8) = List.replicate 8 true := by decide
  rw [e1, e2]
  rw [e1] at how2
  rw [e2] at hol2
  rw [show (List.replicate 8 0 : List Int).length = 8 from rfl] at how2 ⊢
  rw [show (List.replicate 8 true : List Bool).length = 8 from rfl] at hol2 ⊢
  rw [World.size_alloc, ← HZZ.out] at hgw2 hgl2
  have hz3 := HZ2.out.below hb3
  rw [← HZZ.out] at hz3 hzb ⊢
  have hr3 := HR2.out.below hb3
  obtain ⟨⟨hd0, hd1, hd2⟩, he0, he1, he2⟩ := mbox_cells hz3
  obtain ⟨w4, hw4⟩ : ∃ w4 : World, w4 = ((w3.setCell ⟨z, 0, none⟩ (.slice (some ⟨gw2, 0, none⟩) 8 cw2)).setCell ⟨z, 1, none⟩ (.slice (some ⟨gl2, 0, none⟩) 8 cl2)).setCell ⟨z, 2, none⟩ (.bool false) := ⟨_, rfl⟩
  have hkz : Keeps (· = z) w3 w4 := by
    rw [hw4]
    exact ((Keeps.setCell w3 (S := (· = z)) (p := ⟨z, 0, none⟩) rfl _).trans (Keeps.setCell _ (S := (· = z)) (p := ⟨z, 1, none⟩) rfl _)).trans (Keeps.setCell _ (S := (· = z)) (p := ⟨z, 2, none⟩) rfl _)
  have HZ4 := Lib.hid (show MBox w4 z (.slice (some ⟨gw2, 0, none⟩) 8 cw2) (.slice (some ⟨gl2, 0, none⟩) 8 cl2) false by rw [hw4]; exact hz3.set _ _ _)
  have HR4 := Lib.hid (hr3.keeps hkz (fun e => by have e : W.heap.size = z := e; omega))
  have how4 := hkz.row how2 (fun q hq e => by have e : q = z := e; simp [Value.ownBlock] at hq; omega)
  have hol4 := hkz.row hol2 (fun q hq e => by have e : q = z := e; simp [Value.ownBlock] at hq; omega)
  have HOW := Lib.hid how4
  have HOL := Lib.hid hol4
  have HB4 := Lib.hid ((below_then hB2 hB2.size hb3).trans (hkz.below (below_then hB2 hB2.size hb3).size (fun q hq => by have e : q = z := hq; omega)))
  have HW4 := Lib.hid hw4
  have HGG := Lib.hid (show W.heap.size < gw2 ∧ W.heap.size < gl2 by omega)
  clear hw4 hkz how2 hol2 how4 hol4 hz3 hr3 hb3 hB2 e1 e2 HLIVE HZ2 HR2 hgw hgl hgw3 hgl3 hgw2 hgl2 hgw4 hgl4
  go_upto_region 3 with (fail)
  rw [← HW4.out]
  clear hd0 hd1 hd2 he0 he1 he2 HW4
  obtain ⟨⟨hd0, hd1, hd2⟩, _⟩ := mbox_cells HZ4.out
  obtain ⟨⟨r0, r1, r2⟩, q0, q1, q2⟩ := mbox_cells HR4.out
  have HPS := Lib.hid (HR4.out.set (.slice (some ⟨gw2, 0, none⟩) 8 cw2) (.slice (some ⟨gl2, 0, none⟩) 8 cl2) false)
  have HPK := Lib.hid (((Keeps.setCell w4 (S := (· = W.heap.size)) (p := ⟨W.heap.size, 0, none⟩) rfl (.slice (some ⟨gw2, 0, none⟩) 8 cw2)).trans (Keeps.setCell _ (S := (· = W.heap.size)) (p := ⟨W.heap.size, 1, none⟩) rfl (.slice (some ⟨gl2, 0, none⟩) 8 cl2))).trans (Keeps.setCell _ (S := (· = W.heap.size)) (p := ⟨W.heap.size, 2, none⟩) rfl (.bool false)))
  go_wp2
  clear hd0 hd1 hd2 r0 r1 r2 q0 q1 q2
  revert HPS HPK
  generalize World.setCell _ ⟨W.heap.size, 2, none⟩ _ = w5
  intro HPS HPK
  obtain ⟨⟨r0, r1, r2⟩, -, -, -⟩ := mbox_cells HPS.out
  exact bodyPost_ret (v := .tuple #[.agg #[.slice (some ⟨gw2, 0, none⟩) 8 cw2, .slice (some ⟨gl2, 0, none⟩) 8 cl2, .bool false], .bool true]) (by simp [results, Try.results34, go_sem, r0, r1, r2]) rfl ⟨⟨gw2, cw2, gl2, cl2, rfl, (HPK.out.row HOW.out (fun g hg e => by simp [Value.ownBlock] at hg; have e' : g = W.heap.size := e; have := HGG.out; omega)).mono (by rw [World.size_alloc, ← HZZ.out]; omega), (HPK.out.row HOL.out (fun g hg e => by simp [Value.ownBlock] at hg; have e' : g = W.heap.size := e; have := HGG.out; omega)).mono (by rw [World.size_alloc, ← HZZ.out]; omega)⟩, HB4.out.trans (HPK.out.below HB4.out.size (fun k e => Nat.le_of_eq e.symm))⟩

end Go.Proofs.Ythkfjgfhaicfkaa
