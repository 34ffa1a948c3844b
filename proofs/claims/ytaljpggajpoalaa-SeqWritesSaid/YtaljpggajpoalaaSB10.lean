/-
  StepRead, of package seq: a step of a read that may be.
  Conditions: the ranges of Go's types.
-/
import Derived.Test.YtaljpggajpoalaaSB9
import Derived.Test.YtaljpggajpoalaaSB6
import Derived.ScopeJumps
import Derived.WalkMore
import Derived.Deep.CutBlock
import Derived.Deep.DeepCutAuto
import Derived.Deep.RegionHeld3
import Derived.Test.YtaljpggajpoalaaSB7
/-
  Play, of package seq: a play of a read and writes that may be.
  Conditions: the ranges of Go's types.
-/
namespace Go.Proofs.Ytaljpggajpoalaa
open Go.RowKit Go.Shelf
attribute [local go_sem] Oper.semAt_some

/-- Picks from this address on, in none of the blocks of S. -/
def PkAt (S : Nat → Prop) (W : World) (p : Option Addr) (bs : List Bool) : Prop := bs ≠ [] → ∃ b off, p = some ⟨b, off, none⟩ ∧ ¬ S b ∧ ∀ i (h : i < bs.length), W.cell? ⟨b, off + i, none⟩ = some (.bool bs[i])
theorem PkAt.keeps {S T : Nat → Prop} {W W' : World} {p : Option Addr} {bs : List Bool} (h : PkAt S W p bs) (hk : Keeps T W W') (hT : ∀ k, T k → S k) : PkAt S W' p bs := by
  intro hne
  obtain ⟨b, off, rfl, hS, hcs⟩ := h hne
  exact ⟨b, off, rfl, hS, fun i hi => hk.cell (hcs i hi) (fun e => hS (hT b e))⟩
theorem PkAt.tail {S : Nat → Prop} {W : World} {b off : Nat} {x : Bool} {l : List Bool} (h : PkAt S W (some ⟨b, off, none⟩) (x :: l)) : PkAt S W (some ⟨b, off + 1, none⟩) l := by
  intro hne
  obtain ⟨b', off', e, hS, hcs⟩ := h (by simp)
  cases e
  refine ⟨b, off + 1, rfl, hS, fun i hi => ?_⟩
  have := hcs (i + 1) (by simp; omega)
  simp only [List.getElem_cons_succ] at this
  rw [show off + 1 + i = off + (i + 1) by omega]
  exact this
theorem PkAt.weaken {S T : Nat → Prop} {W : World} {p : Option Addr} {bs : List Bool} (h : PkAt S W p bs) (hT : ∀ k, T k → S k) : PkAt T W p bs := by
  intro hne
  obtain ⟨b, off, rfl, hS, hcs⟩ := h hne
  exact ⟨b, off, rfl, fun e => hS (hT b e), hcs⟩
theorem VV.weaken {S T : Nat → Prop} {W : World} {v : Value} {vs : List Int} (h : VV S W v vs) (hT : ∀ k, T k → S k) : VV T W v vs := by
  obtain ⟨p, c, e, hn, hc⟩ := h
  refine ⟨p, c, e, hn, ?_⟩
  rcases hc with hc | ⟨b, off, e2, hS, hcs⟩
  · exact .inl hc
  · exact .inr ⟨b, off, e2, fun h => hS (hT b h), hcs⟩
theorem WrsAt.weaken {S T : Nat → Prop} {W : World} {p : Option Addr} {l : List WrX} (h : WrsAt S W p l) (hT : ∀ k, T k → S k) : WrsAt T W p l := by
  intro hne
  obtain ⟨b, off, rfl, hS, hcs⟩ := h hne
  exact ⟨b, off, rfl, fun e => hS (hT b e), fun i hi => ⟨(hcs i hi).1, (hcs i hi).2.weaken hT⟩⟩
theorem RdBox.row {W : World} {z : Nat} {s : RdM} {w : Value} (h : RdBox W z s w) {B : Nat} {E : TypeId} {k n : Nat} {v : Value} {xs : List Value} (hr : W.ownsRow B E k v n xs) (hE : E ≠ 29) {g : Nat} (hg : v.ownBlock = some g) : z ≠ g := by
  rintro rfl
  have h' : W.heap[z]? = _ := h
  obtain ⟨c, f, h1⟩ := Lib.ownsRow_kind hr z hg
  rw [h'] at h1
  simp at h1
  exact hE h1.2.1.symm
theorem Keeps.of_low {W w : World} (h : Below W.heap.size W w) : Keeps (fun k => W.heap.size ≤ k) W w := ⟨h.os, h.tape, h.output, h.size, fun k hk _ => h.block k hk⟩
/-- What Play hands over. -/
def PlayOk (B : Nat) (ms : List Bool) (st : PlS) (e : Ending) (w' : World) : Prop :=
  ∃ gw cw gl cl p c, e = .returned (.tuple #[.agg #[.slice (some ⟨gw, 0, none⟩) st.us.length cw, .slice (some ⟨gl, 0, none⟩) ms.length cl, .bool st.u], rdV st.s (.slice p st.vs.length c), .int .i64 0]) ∧
  w'.ownsRow B 27 1 (.slice (some ⟨gw, 0, none⟩) st.us.length cw) st.us.length (st.us.map (Value.int .u64)) ∧ w'.ownsRow B 4 1 (.slice (some ⟨gl, 0, none⟩) ms.length cl) ms.length (ms.map Value.bool) ∧
  w'.ownsRow B 27 1 (.slice p st.vs.length c) st.vs.length (st.vs.map (Value.int .u64))
/-- What holds at the label. -/
structure PlJ (W : World) (ms : List Bool) (fin : PlS) (q gw gl cw cl r t mb mc : Nat) (st : PlS) (bs : List Bool) (pp : Option Addr) (pc : Nat) (w : World) : Prop where
  at' : PlAt W.heap.size q W.heap.size gw gl cw cl r t mb mc ms st w
  ok : PlOk ms st
  fin : playM ms st bs = fin
  pk : PkAt (PlC W.heap.size gw r t) w pp bs
  cap : bs.length ≤ pc ∧ pc ≤ 9223372036854775807
  low : Below W.heap.size W w
  res : MBox w (W.heap.size + 2) (.slice none 0 0) (.slice none 0 0) false
  rd : RdBox w (W.heap.size + 3) ⟨0, 0, 0, 0, 0, 0⟩ (.slice none 0 0)
  up : ∀ k, PlC W.heap.size gw r t k → W.heap.size ≤ k ∧ k ≠ W.heap.size + 2 ∧ k ≠ W.heap.size + 3
def pkLen (a : Act) : Nat := match a.tmps.getD 3 undef with | .slice _ n _ => n | _ => 0
/-- The frame at the label, and what holds. -/
def PlL (W : World) (mv rv wv : Value) (ms : List Bool) (fin : PlS) (a : Act) (w : World) : Prop :=
  ∃ (q gw gl cw cl r t mb mc : Nat) (st : PlS) (bs : List Bool) (pp : Option Addr) (pc : Nat) (u6 u7 u18 u19 u20 u21 u22 u23 u24 u25 u26 u27 u28 u29 u30 u31 u32 u33 u34 u35 u36 u37 u38 u39 u40 u41 u42 u43 u44 u45 u46 u47 u48 u49 u50 u51 u52 u53 u54 u55 u56 u57 u58 u59 u60 u61 u62 u63 u64 u65 u66 u67 u68 u69 u70 u71 u72 u73 u74 u75 : Value), a = { tmps := #[mv, rv, wv, .slice pp bs.length pc, .pointer (some ⟨W.heap.size, 0, none⟩), .pointer (some ⟨W.heap.size + 1, 0, none⟩), u6, u7, .pointer (some ⟨W.heap.size + 2, 0, none⟩), .pointer (some ⟨W.heap.size + 3, 0, none⟩), .int .i64 0, .int .i64 0, .int .i64 0, accV q, .pointer (some ⟨r, 0, none⟩), .pointer (some ⟨t, 0, none⟩), .map (some mb), .map (some mc), u18, u19, u20, u21, u22, u23, u24, u25, u26, u27, u28, u29, u30, u31, u32, u33, u34, u35, u36, u37, u38, u39, u40, u41, u42, u43, u44, u45, u46, u47, u48, u49, u50, u51, u52, u53, u54, u55, u56, u57, u58, u59, u60, u61, u62, u63, u64, u65, u66, u67, u68, u69, u70, u71, u72, u73, u74, u75], defers := [] } ∧ PlJ W ms fin q gw gl cw cl r t mb mc st bs pp pc w

set_option maxRecDepth 100000 in
set_option maxHeartbeats 8000000 in
theorem play_c (mv : Value) (us : List Int) (ms : List Bool) (u : Bool) (s : RdM) (rq : Option Addr) (rc : Nat) (vs : List Int) (p : Option Addr) (cap : Nat) (l : List WrX) (pp : Option Addr) (pc : Nat) (bs : List Bool) (W : World)
    (hM : MemAt W mv us ms u) (hr : rightB us ms = true) (hw : WRange us) (hV : VV (fun k => W.heap.size ≤ k) W (.slice rq vs.length rc) vs) (hR : rightRB s vs.length = true) (hsb : 0 ≤ s.b ∧ s.b ≤ 18446744073709551615)
    (hl : WrsAt (fun k => W.heap.size ≤ k) W p l) (hlm : l.length ≤ 4611686018427387904) (hlc : l.length ≤ cap ∧ cap ≤ 9223372036854775807) (hlr : wrsRight l = true) (hlg : WrsRange l) (hlv : ∀ x ∈ l, WRange x.vs)
    (hp : PkAt (fun k => W.heap.size ≤ k) W pp bs) (hpc : bs.length ≤ pc ∧ pc ≤ 9223372036854775807) :
    Calls Try.prog 32 #[mv, rdV s (.slice rq vs.length rc), .slice p l.length cap, .slice pp bs.length pc] W fun e w' => PlayOk W.heap.size ms (playM ms ⟨us, u, s, vs, ⟨⟨0, 0, 4, 0, 0⟩, .slice none 0 0, []⟩, l⟩ bs) e w' ∧ Below W.heap.size W w' := by
  obtain ⟨fin, hfin⟩ : ∃ f, f = playM ms ⟨us, u, s, vs, ⟨⟨0, 0, 4, 0, 0⟩, .slice none 0 0, []⟩, l⟩ bs := ⟨_, rfl⟩
  rw [← hfin]
  have HM := Lib.hid hM
  obtain ⟨vw, vl, rfl, ⟨pw, cw0, rfl, hcw⟩, pl, cl0, rfl, hcl⟩ := hM
  clear hcw hcl
  have HAN := Lib.hid (fun (Z : World) (hb : Below W.heap.size W Z) => anew_yes _ us ms u Z (HM.out.below hb) hr)
  have HCP := Lib.hid (fun (Z : World) (hb : Below W.heap.size W Z) => checkPlay_c s rq vs.length rc (fun _ => False) l p cap hsb hR Z (fun hne => by
    obtain ⟨b, off, e, hS, hcs⟩ := hl hne
    exact ⟨b, off, e, fun h => h, fun i hi => by
      obtain ⟨⟨c0, c1, c2, c3, c4, c5⟩, hv⟩ := hcs i hi
      exact ⟨⟨below_cell hb c0, below_cell hb c1, below_cell hb c2, below_cell hb c3, below_cell hb c4, below_cell hb c5⟩, by
        obtain ⟨q1, q2, e1, e2, e3⟩ := hv
        refine ⟨q1, q2, e1, e2, ?_⟩
        rcases e3 with e3 | ⟨b3, o3, e4, e5, e6⟩
        · exact .inl e3
        · exact .inr ⟨b3, o3, e4, fun h => h, fun i hi => below_cell hb (e6 i hi)⟩⟩⟩) hlm hlg)
  rw [hlr, if_pos rfl] at HCP
  obtain ⟨a, f, m, ph, b, t0⟩ := s
  have HALL := Lib.hid (And.intro hr (And.intro hw (And.intro hV (And.intro hR (And.intro hl (And.intro hlc (And.intro hlr (And.intro hlv (And.intro hp (And.intro hpc hfin))))))))))
  obtain ⟨w0, hw0⟩ : ∃ X : World, X = (((W.alloc (.cells #[.slice pw us.length cw0, .slice pl ms.length cl0, .bool u] 44)).alloc (.cells #[.int .i64 a, .int .i64 f, .int .i64 m, .int .i64 ph, .int .u64 b, .slice rq vs.length rc, .int .i64 t0] 29)).alloc (.cells #[.slice none 0 0, .slice none 0 0, .bool false] 44)).alloc (.cells #[.int .i64 0, .int .i64 0, .int .i64 0, .int .i64 0, .int .u64 0, .slice none 0 0, .int .i64 0] 29) := ⟨_, rfl⟩
  unfold rdV at *
  dsimp only at *
  have HB0 := Lib.hid (show Below W.heap.size W w0 by rw [hw0]; exact ((((Below.refl _ _).alloc (Nat.le_refl _) _).alloc (by simp) _).alloc (by simp; omega) _).alloc (by simp; omega) _)
  have e1 := World.alloc_heap_new W (.cells #[.slice pw us.length cw0, .slice pl ms.length cl0, .bool u] 44)
  have e2 := World.alloc_heap_new (W.alloc (.cells #[.slice pw us.length cw0, .slice pl ms.length cl0, .bool u] 44)) (.cells #[.int .i64 a, .int .i64 f, .int .i64 m, .int .i64 ph, .int .u64 b, .slice rq vs.length rc, .int .i64 t0] 29)
  have e3 := World.alloc_heap_new ((W.alloc (.cells #[.slice pw us.length cw0, .slice pl ms.length cl0, .bool u] 44)).alloc (.cells #[.int .i64 a, .int .i64 f, .int .i64 m, .int .i64 ph, .int .u64 b, .slice rq vs.length rc, .int .i64 t0] 29)) (.cells #[.slice none 0 0, .slice none 0 0, .bool false] 44)
  have e4 := World.alloc_heap_new (((W.alloc (.cells #[.slice pw us.length cw0, .slice pl ms.length cl0, .bool u] 44)).alloc (.cells #[.int .i64 a, .int .i64 f, .int .i64 m, .int .i64 ph, .int .u64 b, .slice rq vs.length rc, .int .i64 t0] 29)).alloc (.cells #[.slice none 0 0, .slice none 0 0, .bool false] 44)) (.cells #[.int .i64 0, .int .i64 0, .int .i64 0, .int .i64 0, .int .u64 0, .slice none 0 0, .int .i64 0] 29)
  simp only [World.size_alloc] at e2 e3 e4
  have HZ0 := Lib.hid (show MBox w0 W.heap.size (.slice pw us.length cw0) (.slice pl ms.length cl0) u by rw [hw0]; exact (((MBox.new W _ _ u).alloc _).alloc _).alloc _)
  have HR0 := Lib.hid (show RdBox w0 (W.heap.size + 1) ⟨a, f, m, ph, b, t0⟩ (.slice rq vs.length rc) by
    have h : RdBox _ (W.heap.size + 1) ⟨a, f, m, ph, b, t0⟩ (.slice rq vs.length rc) := e2
    rw [hw0]
    exact (h.below (below1 _ _)).below (below1 _ _))
  have HY0 := Lib.hid (show MBox w0 (W.heap.size + 2) (.slice none 0 0) (.slice none 0 0) false by
    have h : MBox _ (W.heap.size + 2) (.slice none 0 0) (.slice none 0 0) false := e3
    rw [hw0]; exact h.alloc _)
  have HT0 := Lib.hid (show RdBox w0 (W.heap.size + 3) ⟨0, 0, 0, 0, 0, 0⟩ (.slice none 0 0) by rw [hw0]; exact e4)
  have HW0 := Lib.hid hw0
  clear hr hw hV hR hsb hl hlm hlc hlr hlg hlv hp hpc hfin hw0 HM e1 e2 e3 e4
  go_enter Try.func32, Try.ntmps32
  go_wp2_with fail
  refine wp_scope_jumps 0 (PlL W (.agg #[.slice pw us.length cw0, .slice pl ms.length cl0, .bool u]) (.agg #[.int .i64 a, .int .i64 f, .int .i64 m, .int .i64 ph, .int .u64 b, .slice rq vs.length rc, .int .i64 t0]) (.slice p l.length cap) ms fin) (fun a _ => pkLen a) rfl ?first ?pass
  case pass =>
    rintro a' w8 ⟨q, gw, gl, cw, cl, r, t, mb, mc, st, bs, pp, pc, u6, u7, u18, u19, u20, u21, u22, u23, u24, u25, u26, u27, u28, u29, u30, u31, u32, u33, u34, u35, u36, u37, u38, u39, u40, u41, u42, u43, u44, u45, u46, u47, u48, u49, u50, u51, u52, u53, u54, u55, u56, u57, u58, u59, u60, u61, u62, u63, u64, u65, u66, u67, u68, u69, u70, u71, u72, u73, u74, u75, rfl, hJ⟩
    have HJ := Lib.hid hJ
    clear hJ HW0 HZ0 HR0 HY0 HT0 HB0 HAN HCP HALL
    cases bs with
    | nil =>
      obtain ⟨⟨z0, z1, z2⟩, -⟩ := mbox_cells HJ.out.at'.acc.box
      obtain ⟨v, hRv, hVv⟩ := HJ.out.at'.rd
      have HTO := Lib.hid (fun (Z : World) (hb : Below w8.heap.size w8 Z) => rtold_c r q st.s v st.vs (PlC W.heap.size gw r t) Z (hRv.below hb) (hVv.keeps (Keeps.of_below (S := fun _ => False) hb) (fun _ h => h.elim)) (by have := (fits_le (rightRB_parts HJ.out.ok.read).1.1 (rightRB_parts HJ.out.ok.read).2.2.2).1; have := (rightRB_parts HJ.out.ok.read).1.2; omega))
      have hfin : fin = st := HJ.out.fin.symm
      subst hfin
      clear hRv hVv
      unfold rdV at HTO
      go_upto_region 11 with fail
      have HRES := Lib.hid HJ.out.res
      have HRDB := Lib.hid HJ.out.rd
      go_region_with (first | (go_at_call 49; refine (HTO.out w8.drew (Below.refl _ _).drew).mono ?_; rintro e w9 ⟨⟨p9, c9, rfl, ho⟩, hb9⟩; have hb8 : Below w8.heap.size w8 w9 := ((Below.refl w8.heap.size w8).drew).trans hb9; have k0 := below_cell hb8 z0; have k1 := below_cell hb8 z1; have k2 := below_cell hb8 z2; have hy9 := HRES.out.below hb8; have hr9 := HRDB.out.below hb8; obtain ⟨⟨y0, y1, y2⟩, y3, y4, y5⟩ := mbox_cells hy9; obtain ⟨x0, x1, x2, x3, x4, x5, x6⟩ := hr9.cells; have v0 := hr9.marks 0; have v1 := hr9.marks 1; have v2 := hr9.marks 2; have v3 := hr9.marks 3; have v4 := hr9.marks 4; have v5 := hr9.marks 5; have v6 := hr9.marks 6; dsimp only at x0 x1 x2 x3 x4 x6))
      all_goals
        obtain ⟨wA, hwA⟩ : ∃ X : World, X = ((w9.setCell ⟨W.heap.size + 2, 0, none⟩ (.slice (some ⟨gw, 0, none⟩) fin.us.length cw)).setCell ⟨W.heap.size + 2, 1, none⟩ (.slice (some ⟨gl, 0, none⟩) ms.length cl)).setCell ⟨W.heap.size + 2, 2, none⟩ (.bool fin.u) := ⟨_, rfl⟩
        have hA : MBox wA (W.heap.size + 2) (.slice (some ⟨gw, 0, none⟩) fin.us.length cw) (.slice (some ⟨gl, 0, none⟩) ms.length cl) fin.u := by rw [hwA]; exact hy9.set _ _ _
        have hAK : Keeps (fun k => k = W.heap.size + 2) w9 wA := by
          rw [hwA]
          exact ((Keeps.setCell w9 (S := (· = W.heap.size + 2)) (p := ⟨W.heap.size + 2, 0, none⟩) rfl _).trans (Keeps.setCell _ (S := (· = W.heap.size + 2)) (p := ⟨W.heap.size + 2, 1, none⟩) rfl _)).trans (Keeps.setCell _ (S := (· = W.heap.size + 2)) (p := ⟨W.heap.size + 2, 2, none⟩) rfl _)
        have hr10 : RdBox wA (W.heap.size + 3) ⟨0, 0, 0, 0, 0, 0⟩ (.slice none 0 0) := (hAK.block (W.heap.size + 3) hr9.lt (by omega)).trans hr9
        have hP := hr10.put fin.s (.slice p9 fin.vs.length c9)
        have hPK := RdBox.putK wA (W.heap.size + 3) fin.s (.slice p9 fin.vs.length c9)
        rw [← hwA]
        clear k0 k1 k2 y0 y1 y2 y3 y4 y5 x0 x1 x2 x3 x4 x5 x6 v0 v1 v2 v3 v4 v5 v6 hwA
        revert hP hPK
        generalize World.setCell _ ⟨W.heap.size + 3, 6, none⟩ _ = wB
        intro hP hPK
        have hAB : MBox wB (W.heap.size + 2) (.slice (some ⟨gw, 0, none⟩) fin.us.length cw) (.slice (some ⟨gl, 0, none⟩) ms.length cl) fin.u := hA.keeps hPK (by omega)
        have HPB := Lib.hid hP
        have HMB := Lib.hid hAB
        have HKB := Lib.hid (show Keeps (fun k => k = W.heap.size + 2 ∨ k = W.heap.size + 3) w8 wB from ((Keeps.of_below hb8).trans (hAK.sub fun k _ e => .inl e)).trans (hPK.sub fun k _ e => .inr e))
        have HO9 := Lib.hid (show wB.ownsRow w8.heap.size 27 1 (.slice p9 fin.vs.length c9) fin.vs.length (fin.vs.map (Value.int .u64)) from (hPK.row (hAK.row ho (fun g hg e => by have := (ho.lt g hg).1; have h9 := HRDB.out.lt; have : w8.heap.size ≤ g := this; omega)) (fun g hg e => by have := (ho.lt g hg).1; have h9 := HRDB.out.lt; have : w8.heap.size ≤ g := this; omega)))
        clear hA hAK hr10 hP hPK hAB ho hb8 hb9 hy9 hr9 HTO z0 z1 z2
        obtain ⟨⟨y0, y1, y2⟩, -, -, -⟩ := mbox_cells HMB.out
        obtain ⟨x0, x1, x2, x3, x4, x5, x6⟩ := HPB.out.cells
        go_wp2
        try simp only [Exit.jump]
        refine bodyPost_ret (v := .tuple #[.agg #[.slice (some ⟨gw, 0, none⟩) fin.us.length cw, .slice (some ⟨gl, 0, none⟩) ms.length cl, .bool fin.u], rdV fin.s (.slice p9 fin.vs.length c9), .int .i64 0]) (by simp [results, Try.results32, go_sem, y0, y1, y2, x0, x1, x2, x3, x4, x5, x6, rdV]) rfl ⟨⟨gw, cw, gl, cl, p9, c9, rfl, ?_, ?_, ?_⟩, ?_⟩
        · exact HKB.out.row HJ.out.at'.acc.words (by intro g hg; simp only [Value.ownBlock, Option.some.injEq] at hg; subst hg; have := HJ.out.up gw (.inr (.inl rfl)); show ¬ (_ ∨ _); omega)
        · exact HKB.out.row HJ.out.at'.acc.lives (by intro g hg; have n1 := HRES.out.row HJ.out.at'.acc.lives (by decide) hg; have n2 := RdBox.row HRDB.out HJ.out.at'.acc.lives (by decide) hg; show ¬ (_ ∨ _); omega)
        · exact HO9.out.mono HJ.out.low.size
        · exact HJ.out.low.trans (HKB.out.below HJ.out.low.size (fun k e => by omega))
    | cons x bs =>
      obtain ⟨b0, off, rfl, hSb, hcs⟩ := HJ.out.pk (by simp)
      have hx := hcs 0 (by simp)
      simp only [List.getElem_cons_zero, Nat.add_zero] at hx
      have hpc1 : 1 ≤ pc := by have := HJ.out.cap.1; simp at this; omega
      have hpc2 : pc ≤ 9223372036854775807 := HJ.out.cap.2
      have hpc3 : bs.length + 1 ≤ pc := by have := HJ.out.cap.1; simpa using this
      have HPC3 := Lib.hid hpc3
      have HPC2 := Lib.hid hpc2
      clear hSb hcs hpc3
      rcases (show pc = 1 ∨ 2 ≤ pc by omega) with h1 | h1
      · have hpe := h1
        subst hpe
        clear h1 hpc1 hpc2
        cases x with
        | true =>
          go_wp2_with fail
          refine (pick_read W.heap.size q W.heap.size gw gl cw cl r t mb mc ms st w8 HJ.out.at' HJ.out.ok).mono ?_
          rintro e w9 ⟨rfl, hP, hk⟩
          have HP := Lib.hid hP
          have HK := Lib.hid hk
          clear hP hk hx
          go_wp2_with fail
          go_step3
          have HJN := Lib.hid (show PlJ W ms fin q gw gl cw cl r t mb mc (pickM ms st true) bs (some ⟨b0, off, none⟩) 0 w9 from ⟨HP.out, pickM_ok HJ.out.ok true, HJ.out.fin, fun hne => absurd (List.eq_nil_of_length_eq_zero (by have := HPC3.out; omega)) hne, by have := HPC3.out; have := HPC2.out; omega, HJ.out.low.trans (HK.out.below HJ.out.low.size (fun k e => (HJ.out.up k e).1)), HJ.out.res.keeps HK.out (fun e => (HJ.out.up _ e).2.1 rfl), (HK.out.block (W.heap.size + 3) HJ.out.rd.lt (fun e => (HJ.out.up _ e).2.2 rfl)).trans HJ.out.rd, HJ.out.up⟩)
          exact ⟨rfl, ⟨q, gw, gl, cw, cl, r, t, mb, mc, pickM ms st true, bs, (some ⟨b0, off, none⟩), 0, _, _, _, _, _, _, _, _, _, _, _, _, _, _, _, _, _, _, _, _, _, _, _, _, _, _, _, _, _, _, _, _, _, _, _, _, _, _, _, _, _, _, _, _, _, _, _, _, _, _, _, _, _, _, _, _, _, _, _, _, rfl, HJN.out⟩, by show pkLen _ < pkLen _; unfold pkLen; simp⟩
        | false =>
          go_wp2_with fail
          refine (pick_turn W.heap.size q W.heap.size gw gl cw cl r t mb mc ms st w8 HJ.out.at').mono ?_
          rintro e w9 ⟨rfl, hP, hk⟩
          have HP := Lib.hid hP
          have HK := Lib.hid hk
          clear hP hk hx
          go_wp2_with fail
          refine (pick_write W.heap.size q W.heap.size gw gl cw cl r t mb mc ms _ w9 HP.out HJ.out.ok.mem HJ.out.ok.rng (turnM_ok _ _ HJ.out.ok.x HJ.out.ok.l).1).mono ?_
          rintro e w10 ⟨rfl, hP2, hk2⟩
          have HP2 := Lib.hid hP2
          have HK2 := Lib.hid (HK.out.trans hk2)
          clear hP2 hk2 HP HK
          go_wp2_with fail
          go_step3
          have HJN := Lib.hid (show PlJ W ms fin q gw gl cw cl r t mb mc (pickM ms st false) bs (some ⟨b0, off, none⟩) 0 w10 from ⟨HP2.out, pickM_ok HJ.out.ok false, HJ.out.fin, fun hne => absurd (List.eq_nil_of_length_eq_zero (by have := HPC3.out; omega)) hne, by have := HPC3.out; have := HPC2.out; omega, HJ.out.low.trans (HK2.out.below HJ.out.low.size (fun k e => (HJ.out.up k e).1)), HJ.out.res.keeps HK2.out (fun e => (HJ.out.up _ e).2.1 rfl), (HK2.out.block (W.heap.size + 3) HJ.out.rd.lt (fun e => (HJ.out.up _ e).2.2 rfl)).trans HJ.out.rd, HJ.out.up⟩)
          exact ⟨rfl, ⟨q, gw, gl, cw, cl, r, t, mb, mc, pickM ms st false, bs, (some ⟨b0, off, none⟩), 0, _, _, _, _, _, _, _, _, _, _, _, _, _, _, _, _, _, _, _, _, _, _, _, _, _, _, _, _, _, _, _, _, _, _, _, _, _, _, _, _, _, _, _, _, _, _, _, _, _, _, _, _, _, _, _, _, _, _, _, _, rfl, HJN.out⟩, by show pkLen _ < pkLen _; unfold pkLen; simp⟩
      · have h1' : ¬ pc = 1 := by omega
        have h1'' : pc ≠ 1 := h1'
        cases x with
        | true =>
          go_wp2_with fail
          refine (pick_read W.heap.size q W.heap.size gw gl cw cl r t mb mc ms st w8 HJ.out.at' HJ.out.ok).mono ?_
          rintro e w9 ⟨rfl, hP, hk⟩
          have HP := Lib.hid hP
          have HK := Lib.hid hk
          clear hP hk hx
          go_wp2_with fail
          go_step3
          have HJN := Lib.hid (show PlJ W ms fin q gw gl cw cl r t mb mc (pickM ms st true) bs (some ⟨b0, off + 1, none⟩) (pc - 1) w9 from ⟨HP.out, pickM_ok HJ.out.ok true, HJ.out.fin, HJ.out.pk.tail.keeps HK.out (fun _ h => h), by have := HPC3.out; have := HPC2.out; omega, HJ.out.low.trans (HK.out.below HJ.out.low.size (fun k e => (HJ.out.up k e).1)), HJ.out.res.keeps HK.out (fun e => (HJ.out.up _ e).2.1 rfl), (HK.out.block (W.heap.size + 3) HJ.out.rd.lt (fun e => (HJ.out.up _ e).2.2 rfl)).trans HJ.out.rd, HJ.out.up⟩)
          exact ⟨rfl, ⟨q, gw, gl, cw, cl, r, t, mb, mc, pickM ms st true, bs, (some ⟨b0, off + 1, none⟩), (pc - 1), _, _, _, _, _, _, _, _, _, _, _, _, _, _, _, _, _, _, _, _, _, _, _, _, _, _, _, _, _, _, _, _, _, _, _, _, _, _, _, _, _, _, _, _, _, _, _, _, _, _, _, _, _, _, _, _, _, _, _, _, rfl, HJN.out⟩, by show pkLen _ < pkLen _; unfold pkLen; simp⟩
        | false =>
          go_wp2_with fail
          refine (pick_turn W.heap.size q W.heap.size gw gl cw cl r t mb mc ms st w8 HJ.out.at').mono ?_
          rintro e w9 ⟨rfl, hP, hk⟩
          have HP := Lib.hid hP
          have HK := Lib.hid hk
          clear hP hk hx
          go_wp2_with fail
          refine (pick_write W.heap.size q W.heap.size gw gl cw cl r t mb mc ms _ w9 HP.out HJ.out.ok.mem HJ.out.ok.rng (turnM_ok _ _ HJ.out.ok.x HJ.out.ok.l).1).mono ?_
          rintro e w10 ⟨rfl, hP2, hk2⟩
          have HP2 := Lib.hid hP2
          have HK2 := Lib.hid (HK.out.trans hk2)
          clear hP2 hk2 HP HK
          go_wp2_with fail
          go_step3
          have HJN := Lib.hid (show PlJ W ms fin q gw gl cw cl r t mb mc (pickM ms st false) bs (some ⟨b0, off + 1, none⟩) (pc - 1) w10 from ⟨HP2.out, pickM_ok HJ.out.ok false, HJ.out.fin, HJ.out.pk.tail.keeps HK2.out (fun _ h => h), by have := HPC3.out; have := HPC2.out; omega, HJ.out.low.trans (HK2.out.below HJ.out.low.size (fun k e => (HJ.out.up k e).1)), HJ.out.res.keeps HK2.out (fun e => (HJ.out.up _ e).2.1 rfl), (HK2.out.block (W.heap.size + 3) HJ.out.rd.lt (fun e => (HJ.out.up _ e).2.2 rfl)).trans HJ.out.rd, HJ.out.up⟩)
          exact ⟨rfl, ⟨q, gw, gl, cw, cl, r, t, mb, mc, pickM ms st false, bs, (some ⟨b0, off + 1, none⟩), (pc - 1), _, _, _, _, _, _, _, _, _, _, _, _, _, _, _, _, _, _, _, _, _, _, _, _, _, _, _, _, _, _, _, _, _, _, _, _, _, _, _, _, _, _, _, _, _, _, _, _, _, _, _, _, _, _, _, _, _, _, _, _, rfl, HJN.out⟩, by show pkLen _ < pkLen _; unfold pkLen; simp⟩

  case first =>
    go_wp2_with fail
    rw [← HW0.out]
    clear HW0
    refine (HAN.out _ HB0.out).mono ?_
    rintro e w1 ⟨⟨gw, cw, gl, cl, rfl, how, hol⟩, hb1⟩
    have HZ1 := Lib.hid (HZ0.out.below hb1)
    have HR1 := Lib.hid (HR0.out.below hb1)
    have HY1 := Lib.hid (HY0.out.below hb1)
    have HT1 := Lib.hid (HT0.out.below hb1)
    have HB1 := Lib.hid (below_then HB0.out HB0.out.size hb1)
    have HOW := Lib.hid (how.mono HB0.out.size)
    have HOL := Lib.hid (hol.mono HB0.out.size)
    have hgwl := (row_lt how).2
    have hs0 : W.heap.size + 3 < w0.heap.size := HT0.out.lt
    clear hb1 HAN HZ0 HR0 HY0 HT0 HB0 how hol
    obtain ⟨⟨hd0, hd1, hd2⟩, he0, he1, he2⟩ := mbox_cells HZ1.out
    obtain ⟨w2, hw2⟩ : ∃ X : World, X = ((w1.setCell ⟨W.heap.size, 0, none⟩ (.slice (some ⟨gw, 0, none⟩) us.length cw)).setCell ⟨W.heap.size, 1, none⟩ (.slice (some ⟨gl, 0, none⟩) ms.length cl)).setCell ⟨W.heap.size, 2, none⟩ (.bool u) := ⟨_, rfl⟩
    have hk2 : Keeps (fun k => k = W.heap.size) w1 w2 := by
      rw [hw2]
      exact ((Keeps.setCell w1 (S := (· = W.heap.size)) (p := ⟨W.heap.size, 0, none⟩) rfl _).trans (Keeps.setCell _ (S := (· = W.heap.size)) (p := ⟨W.heap.size, 1, none⟩) rfl _)).trans (Keeps.setCell _ (S := (· = W.heap.size)) (p := ⟨W.heap.size, 2, none⟩) rfl _)
    have HZ2 := Lib.hid (show MBox w2 W.heap.size (.slice (some ⟨gw, 0, none⟩) us.length cw) (.slice (some ⟨gl, 0, none⟩) ms.length cl) u by rw [hw2]; exact HZ1.out.set _ _ _)
    have HR2 := Lib.hid (show RdBox w2 (W.heap.size + 1) ⟨a, f, m, ph, b, t0⟩ (.slice rq vs.length rc) from (hk2.block (W.heap.size + 1) HR1.out.lt (by omega)).trans HR1.out)
    have HY2 := Lib.hid (HY1.out.keeps hk2 (by omega))
    have HT2 := Lib.hid (show RdBox w2 (W.heap.size + 3) ⟨0, 0, 0, 0, 0, 0⟩ (.slice none 0 0) from (hk2.block (W.heap.size + 3) HT1.out.lt (by omega)).trans HT1.out)
    have HB2 := Lib.hid (HB1.out.trans (hk2.below HB1.out.size (fun k e => by omega)))
    have HOW2 := Lib.hid (hk2.row HOW.out (fun g hg e => HZ1.out.row HOW.out (by decide) hg e.symm))
    have HOL2 := Lib.hid (hk2.row HOL.out (fun g hg e => HZ1.out.row HOL.out (by decide) hg e.symm))
    have HG := Lib.hid (show W.heap.size + 3 < gw by omega)
    have HW2 := Lib.hid hw2
    clear hw2 hk2 HZ1 HR1 HY1 HT1 HB1 HOW HOL hgwl hs0
    go_upto_region 2 with fail
    rw [← HW2.out]
    clear hd0 hd1 hd2 he0 he1 he2 HW2
    obtain ⟨r0, r1, r2, r3, r4, r5, r6⟩ := HR2.out.cells
    dsimp only at r0 r1 r2 r3 r4 r6
    go_wp2_with fail
    refine (HCP.out _ HB2.out).mono ?_
    rintro e w3 ⟨rfl, hb3⟩
    have HZ3 := Lib.hid (HZ2.out.below hb3)
    have HR3 := Lib.hid (HR2.out.below hb3)
    have HY3 := Lib.hid (HY2.out.below hb3)
    have HT3 := Lib.hid (HT2.out.below hb3)
    have HB3 := Lib.hid (below_then HB2.out HB2.out.size hb3)
    have HOW3 := Lib.hid (owns_below HOW2.out hb3)
    have HOL3 := Lib.hid (owns_below HOL2.out hb3)
    clear hb3 HCP HZ2 HR2 HY2 HT2 HB2 HOW2 HOL2 r0 r1 r2 r3 r4 r5 r6
    go_wp2_with fail
    refine (accesses_c W.heap.size w3).mono ?_
    obtain ⟨q, hq⟩ : ∃ q, q = w3.heap.size := ⟨_, rfl⟩
    rw [← hq]
    rintro e w4 ⟨⟨rfl, hx⟩, hb4⟩
    rw [hq] at hb4
    have HQ := Lib.hid (show W.heap.size + 3 < q by have := HT3.out.lt; omega)
    have HR4 := Lib.hid (HR3.out.below hb4)
    have HY4 := Lib.hid (HY3.out.below hb4)
    have HT4 := Lib.hid (HT3.out.below hb4)
    have HB4 := Lib.hid (below_then HB3.out HB3.out.size hb4)
    have HF4 := Lib.hid (show AccF W.heap.size q W.heap.size gw gl cw cl us ms u w4 from ⟨hx, HZ3.out.below hb4, owns_below HOW3.out hb4, owns_below HOL3.out hb4⟩)
    clear hb4 HZ3 HR3 HY3 HT3 HB3 HOW3 HOL3 hx hq
    go_upto_region 8 with fail
    go_cut [14, 15] (fun s14 s15 wc => Hid (∃ r t, (s14 = .pointer (some ⟨r, 0, none⟩) ∧ s15 = .pointer (some ⟨t, 0, none⟩)) ∧ RBox wc r ⟨a, f, m, ph, b, t0⟩ (.slice rq vs.length rc) q ∧ WBox wc t 109 [.slice p l.length cap] ⟨0, 0, 4, 0, 0⟩ (.slice none 0 0) q ∧ (w4.heap.size ≤ r ∧ w4.heap.size ≤ t) ∧ Below w4.heap.size w4 wc))
    case first =>
      obtain ⟨r0, r1, r2, r3, r4, r5, r6⟩ := HR4.out.cells
      dsimp only at r0 r1 r2 r3 r4 r6
      have HRO := Lib.hid (fun Z => rowOf_c q (.slice p l.length cap) ⟨_, _, _, rfl⟩ Z)
      clear HR4 HY4 HT4 HB4 HF4 HALL
      unfold accV at HRO ⊢
      go_region_with (first | (go_at_call 56; refine (HRO.out _).mono ?_; rintro e w5 ⟨⟨rfl, hW5⟩, hb5⟩; try (have s0 := below_cell hb5 r0; have s1 := below_cell hb5 r1; have s2 := below_cell hb5 r2; have s3 := below_cell hb5 r3; have s4 := below_cell hb5 r4; have s5 := below_cell hb5 r5; have s6 := below_cell hb5 r6)))
      all_goals (go_wp2_with fail; go_meet)
      all_goals first
        | exact Lib.hid ⟨w4.heap.size, _, ⟨rfl, by simp [World.size_alloc]⟩, RBox.below (w := (w4.alloc (.cells #[.int .i64 a, .int .i64 f, .int .i64 m, .int .i64 ph, .int .u64 b, .slice rq vs.length rc, .int .i64 t0, accV q] 92)).drew) (World.alloc_heap_new w4 _) hb5, hW5, ⟨Nat.le_refl _, by show w4.heap.size ≤ (w4.alloc _).heap.size; rw [World.size_alloc]; omega⟩, ((below1 w4 _).drew).trans (hb5.mono (by show w4.heap.size ≤ (w4.alloc _).heap.size; rw [World.size_alloc]; omega))⟩
        | (have hb6 : Below w4.heap.size w4 w5 := ((Below.refl w4.heap.size w4).drew).trans hb5
           exact Lib.hid ⟨w5.heap.size, w4.heap.size, ⟨rfl, rfl⟩, World.alloc_heap_new w5 _, hW5.below (below1 w5 _), ⟨hb6.size, Nat.le_refl _⟩, hb6.trans ((below1 w5 _).mono hb6.size)⟩)
    case rest =>
      obtain ⟨r, t, ⟨rfl, rfl⟩, hRB, hWB, ⟨hr4, ht4⟩, hbc⟩ := hcut.out
      clear hcut HR4
      have hk5 : Keeps (fun _ => False) w4 wc := Keeps.of_below hbc
      have HY5 := Lib.hid (HY4.out.below hbc)
      have HT5 := Lib.hid (HT4.out.below hbc)
      have HB5 := Lib.hid (below_then HB4.out HB4.out.size hbc)
      have HF5 := Lib.hid (HF4.out.below hbc)
      have HRB := Lib.hid hRB
      have HWB := Lib.hid hWB
      have HRT := Lib.hid (show W.heap.size + 3 < r ∧ W.heap.size + 3 < t by have := HT4.out.lt; omega)
      clear hk5 HY4 HT4 HB4 HF4 hRB hWB hr4 ht4 hbc
      obtain ⟨w5, hw5⟩ : ∃ X : World, X = wc := ⟨_, rfl⟩
      rw [← hw5] at HY5 HT5 HB5 HF5 HRB HWB
      rw [← hw5]
      clear hw5
      go_upto_region 9 with fail
      go_cut [16, 17] (fun s16 s17 wc => Hid (∃ mb mc, (s16 = .map (some mb) ∧ s17 = .map (some mc)) ∧ wc.heap[mb]? = some (rmap r) ∧ wc.heap[mc]? = some (wmap t) ∧ Below w5.heap.size w5 wc))
      case first =>
        have HRD := Lib.hid (fun Z => rdoes_c r Z)
        have HWD := Lib.hid (fun Z => wdoes_c t Z)
        clear HY5 HT5 HB5 HF5 HRB HWB HALL
        go_region_with (first | (go_at_call 48; refine (HRD.out _).mono ?_; rintro e w6 ⟨⟨rfl, hX6⟩, hb6⟩) | (go_at_call 52; refine (HWD.out _).mono ?_; rintro e w7 ⟨⟨rfl, hX7⟩, hb7⟩))
        all_goals (go_wp2_with fail; go_meet)
        all_goals first
          | exact Lib.hid ⟨_, _, ⟨rfl, rfl⟩, (hb7.block _ (Array.getElem?_eq_some_iff.1 hX6).1).trans hX6, hX7, (((Below.refl w5.heap.size w5).drew).trans hb6).trans (hb7.mono hb6.size)⟩
          | exact Lib.hid ⟨_, _, ⟨rfl, rfl⟩, hX6, (hb6.block _ (Array.getElem?_eq_some_iff.1 hX7).1).trans hX7, (((Below.refl w5.heap.size w5).drew).trans hb7).trans (hb6.mono hb7.size)⟩
      case rest =>
        obtain ⟨mb, mc, ⟨rfl, rfl⟩, hm1, hm2, hbc⟩ := hcut.out
        clear hcut
        have HY6 := Lib.hid (HY5.out.below hbc)
        have HT6 := Lib.hid (HT5.out.below hbc)
        have HB6 := Lib.hid (below_then HB5.out HB5.out.size hbc)
        have hF6 := HF5.out.below hbc
        have hR6 := HRB.out.below hbc
        have hW6 := HWB.out.below hbc
        have HJ := Lib.hid (show PlJ W ms fin q gw gl cw cl r t mb mc ⟨us, u, ⟨a, f, m, ph, b, t0⟩, vs, ⟨⟨0, 0, 4, 0, 0⟩, .slice none 0 0, []⟩, l⟩ bs pp pc wc by
          obtain ⟨g1, g2, g3, g4, g5, g6, g7, g8, g9, g10, g11⟩ := HALL.out
          have hup : ∀ k, PlC W.heap.size gw r t k → W.heap.size ≤ k ∧ k ≠ W.heap.size + 2 ∧ k ≠ W.heap.size + 3 := by
            have := HG.out
            have := HRT.out
            rintro k (e | e | e | e) <;> omega
          have hS : ∀ k, PlC W.heap.size gw r t k → W.heap.size ≤ k := fun k e => (hup k e).1
          have hkp : Keeps (fun k => W.heap.size ≤ k) W wc := Keeps.of_low HB6.out
          exact ⟨⟨hF6, ⟨_, hR6, (g3.keeps hkp (fun _ h => h)).weaken hS⟩, ⟨p, cap, hW6, VV.nil _ _, (g5.keeps hkp (fun _ h => h)).weaken hS, g6⟩, hm1, hm2⟩, ⟨g1, g2, g4, ⟨.inl rfl, by intro x hx; cases hx⟩, fun x hx => ⟨.inr (.inr (List.all_eq_true.1 g7 x hx)), g8 x hx⟩⟩, g11.symm, (g9.keeps hkp (fun _ h => h)).weaken hS, g10, HB6.out, HY6.out, HT6.out, hup⟩)
        clear hm1 hm2 hbc HY5 HT5 HB5 HF5 HRB HWB HY6 HT6 HB6 hF6 hR6 hW6 HALL HRT HG HQ
        obtain ⟨st, hst⟩ : ∃ x : PlS, x = ⟨us, u, ⟨a, f, m, ph, b, t0⟩, vs, ⟨⟨0, 0, 4, 0, 0⟩, .slice none 0 0, []⟩, l⟩ := ⟨_, rfl⟩
        rw [← hst] at HJ
        obtain ⟨w8, hw8⟩ : ∃ X : World, X = wc := ⟨_, rfl⟩
        rw [← hw8] at HJ
        rw [← hw8]
        clear hst hw8
        go_wp2_with fail
        go_step3
        cases bs with
        | nil =>
          obtain ⟨⟨z0, z1, z2⟩, -⟩ := mbox_cells HJ.out.at'.acc.box
          obtain ⟨v, hRv, hVv⟩ := HJ.out.at'.rd
          have HTO := Lib.hid (fun (Z : World) (hb : Below w8.heap.size w8 Z) => rtold_c r q st.s v st.vs (PlC W.heap.size gw r t) Z (hRv.below hb) (hVv.keeps (Keeps.of_below (S := fun _ => False) hb) (fun _ h => h.elim)) (by have := (fits_le (rightRB_parts HJ.out.ok.read).1.1 (rightRB_parts HJ.out.ok.read).2.2.2).1; have := (rightRB_parts HJ.out.ok.read).1.2; omega))
          have hfin : fin = st := HJ.out.fin.symm
          subst hfin
          clear hRv hVv
          unfold rdV at HTO
          go_upto_region 11 with fail
          rw [show W.heap.size + 1 + 1 + 1 = W.heap.size + 3 from rfl, show W.heap.size + 1 + 1 = W.heap.size + 2 from rfl]
          have HRES := Lib.hid HJ.out.res
          have HRDB := Lib.hid HJ.out.rd
          go_region_with (first | (go_at_call 49; refine (HTO.out w8.drew (Below.refl _ _).drew).mono ?_; rintro e w9 ⟨⟨p9, c9, rfl, ho⟩, hb9⟩; have hb8 : Below w8.heap.size w8 w9 := ((Below.refl w8.heap.size w8).drew).trans hb9; have k0 := below_cell hb8 z0; have k1 := below_cell hb8 z1; have k2 := below_cell hb8 z2; have hy9 := HRES.out.below hb8; have hr9 := HRDB.out.below hb8; obtain ⟨⟨y0, y1, y2⟩, y3, y4, y5⟩ := mbox_cells hy9; obtain ⟨x0, x1, x2, x3, x4, x5, x6⟩ := hr9.cells; have v0 := hr9.marks 0; have v1 := hr9.marks 1; have v2 := hr9.marks 2; have v3 := hr9.marks 3; have v4 := hr9.marks 4; have v5 := hr9.marks 5; have v6 := hr9.marks 6; dsimp only at x0 x1 x2 x3 x4 x6))
          all_goals
            obtain ⟨wA, hwA⟩ : ∃ X : World, X = ((w9.setCell ⟨W.heap.size + 2, 0, none⟩ (.slice (some ⟨gw, 0, none⟩) fin.us.length cw)).setCell ⟨W.heap.size + 2, 1, none⟩ (.slice (some ⟨gl, 0, none⟩) ms.length cl)).setCell ⟨W.heap.size + 2, 2, none⟩ (.bool fin.u) := ⟨_, rfl⟩
            have hA : MBox wA (W.heap.size + 2) (.slice (some ⟨gw, 0, none⟩) fin.us.length cw) (.slice (some ⟨gl, 0, none⟩) ms.length cl) fin.u := by rw [hwA]; exact hy9.set _ _ _
            have hAK : Keeps (fun k => k = W.heap.size + 2) w9 wA := by
              rw [hwA]
              exact ((Keeps.setCell w9 (S := (· = W.heap.size + 2)) (p := ⟨W.heap.size + 2, 0, none⟩) rfl _).trans (Keeps.setCell _ (S := (· = W.heap.size + 2)) (p := ⟨W.heap.size + 2, 1, none⟩) rfl _)).trans (Keeps.setCell _ (S := (· = W.heap.size + 2)) (p := ⟨W.heap.size + 2, 2, none⟩) rfl _)
            have hr10 : RdBox wA (W.heap.size + 3) ⟨0, 0, 0, 0, 0, 0⟩ (.slice none 0 0) := (hAK.block (W.heap.size + 3) hr9.lt (by omega)).trans hr9
            have hP := hr10.put fin.s (.slice p9 fin.vs.length c9)
            have hPK := RdBox.putK wA (W.heap.size + 3) fin.s (.slice p9 fin.vs.length c9)
            rw [← hwA]
            clear k0 k1 k2 y0 y1 y2 y3 y4 y5 x0 x1 x2 x3 x4 x5 x6 v0 v1 v2 v3 v4 v5 v6 hwA
            revert hP hPK
            generalize World.setCell _ ⟨W.heap.size + 3, 6, none⟩ _ = wB
            intro hP hPK
            have hAB : MBox wB (W.heap.size + 2) (.slice (some ⟨gw, 0, none⟩) fin.us.length cw) (.slice (some ⟨gl, 0, none⟩) ms.length cl) fin.u := hA.keeps hPK (by omega)
            have HPB := Lib.hid hP
            have HMB := Lib.hid hAB
            have HKB := Lib.hid (show Keeps (fun k => k = W.heap.size + 2 ∨ k = W.heap.size + 3) w8 wB from ((Keeps.of_below hb8).trans (hAK.sub fun k _ e => .inl e)).trans (hPK.sub fun k _ e => .inr e))
            have HO9 := Lib.hid (show wB.ownsRow w8.heap.size 27 1 (.slice p9 fin.vs.length c9) fin.vs.length (fin.vs.map (Value.int .u64)) from (hPK.row (hAK.row ho (fun g hg e => by have := (ho.lt g hg).1; have h9 := HRDB.out.lt; have : w8.heap.size ≤ g := this; omega)) (fun g hg e => by have := (ho.lt g hg).1; have h9 := HRDB.out.lt; have : w8.heap.size ≤ g := this; omega)))
            clear hA hAK hr10 hP hPK hAB ho hb8 hb9 hy9 hr9 HTO z0 z1 z2
            obtain ⟨⟨y0, y1, y2⟩, -, -, -⟩ := mbox_cells HMB.out
            obtain ⟨x0, x1, x2, x3, x4, x5, x6⟩ := HPB.out.cells
            go_wp2
            try simp only [Exit.jump]
            refine bodyPost_ret (v := .tuple #[.agg #[.slice (some ⟨gw, 0, none⟩) fin.us.length cw, .slice (some ⟨gl, 0, none⟩) ms.length cl, .bool fin.u], rdV fin.s (.slice p9 fin.vs.length c9), .int .i64 0]) (by simp [results, Try.results32, go_sem, y0, y1, y2, x0, x1, x2, x3, x4, x5, x6, rdV]) rfl ⟨⟨gw, cw, gl, cl, p9, c9, rfl, ?_, ?_, ?_⟩, ?_⟩
            · exact HKB.out.row HJ.out.at'.acc.words (by intro g hg; simp only [Value.ownBlock, Option.some.injEq] at hg; subst hg; have := HJ.out.up gw (.inr (.inl rfl)); show ¬ (_ ∨ _); omega)
            · exact HKB.out.row HJ.out.at'.acc.lives (by intro g hg; have n1 := HRES.out.row HJ.out.at'.acc.lives (by decide) hg; have n2 := RdBox.row HRDB.out HJ.out.at'.acc.lives (by decide) hg; show ¬ (_ ∨ _); omega)
            · exact HO9.out.mono HJ.out.low.size
            · exact HJ.out.low.trans (HKB.out.below HJ.out.low.size (fun k e => by omega))
        | cons x bs =>
          obtain ⟨b0, off, rfl, hSb, hcs⟩ := HJ.out.pk (by simp)
          have hx := hcs 0 (by simp)
          simp only [List.getElem_cons_zero, Nat.add_zero] at hx
          have hpc1 : 1 ≤ pc := by have := HJ.out.cap.1; simp at this; omega
          have hpc2 : pc ≤ 9223372036854775807 := HJ.out.cap.2
          have hpc3 : bs.length + 1 ≤ pc := by have := HJ.out.cap.1; simpa using this
          have HPC3 := Lib.hid hpc3
          have HPC2 := Lib.hid hpc2
          clear hSb hcs hpc3
          rcases (show pc = 1 ∨ 2 ≤ pc by omega) with h1 | h1
          · have hpe := h1
            subst hpe
            clear h1 hpc1 hpc2
            cases x with
            | true =>
              go_wp2_with fail
              refine (pick_read W.heap.size q W.heap.size gw gl cw cl r t mb mc ms st w8 HJ.out.at' HJ.out.ok).mono ?_
              rintro e w9 ⟨rfl, hP, hk⟩
              have HP := Lib.hid hP
              have HK := Lib.hid hk
              clear hP hk hx
              go_wp2_with fail
              go_step3
              have HJN := Lib.hid (show PlJ W ms fin q gw gl cw cl r t mb mc (pickM ms st true) bs (some ⟨b0, off, none⟩) 0 w9 from ⟨HP.out, pickM_ok HJ.out.ok true, HJ.out.fin, fun hne => absurd (List.eq_nil_of_length_eq_zero (by have := HPC3.out; omega)) hne, by have := HPC3.out; have := HPC2.out; omega, HJ.out.low.trans (HK.out.below HJ.out.low.size (fun k e => (HJ.out.up k e).1)), HJ.out.res.keeps HK.out (fun e => (HJ.out.up _ e).2.1 rfl), (HK.out.block (W.heap.size + 3) HJ.out.rd.lt (fun e => (HJ.out.up _ e).2.2 rfl)).trans HJ.out.rd, HJ.out.up⟩)
              exact ⟨rfl, ⟨q, gw, gl, cw, cl, r, t, mb, mc, pickM ms st true, bs, (some ⟨b0, off, none⟩), 0, _, _, _, _, _, _, _, _, _, _, _, _, _, _, _, _, _, _, _, _, _, _, _, _, _, _, _, _, _, _, _, _, _, _, _, _, _, _, _, _, _, _, _, _, _, _, _, _, _, _, _, _, _, _, _, _, _, _, _, _, rfl, HJN.out⟩⟩
            | false =>
              go_wp2_with fail
              refine (pick_turn W.heap.size q W.heap.size gw gl cw cl r t mb mc ms st w8 HJ.out.at').mono ?_
              rintro e w9 ⟨rfl, hP, hk⟩
              have HP := Lib.hid hP
              have HK := Lib.hid hk
              clear hP hk hx
              go_wp2_with fail
              refine (pick_write W.heap.size q W.heap.size gw gl cw cl r t mb mc ms _ w9 HP.out HJ.out.ok.mem HJ.out.ok.rng (turnM_ok _ _ HJ.out.ok.x HJ.out.ok.l).1).mono ?_
              rintro e w10 ⟨rfl, hP2, hk2⟩
              have HP2 := Lib.hid hP2
              have HK2 := Lib.hid (HK.out.trans hk2)
              clear hP2 hk2 HP HK
              go_wp2_with fail
              go_step3
              have HJN := Lib.hid (show PlJ W ms fin q gw gl cw cl r t mb mc (pickM ms st false) bs (some ⟨b0, off, none⟩) 0 w10 from ⟨HP2.out, pickM_ok HJ.out.ok false, HJ.out.fin, fun hne => absurd (List.eq_nil_of_length_eq_zero (by have := HPC3.out; omega)) hne, by have := HPC3.out; have := HPC2.out; omega, HJ.out.low.trans (HK2.out.below HJ.out.low.size (fun k e => (HJ.out.up k e).1)), HJ.out.res.keeps HK2.out (fun e => (HJ.out.up _ e).2.1 rfl), (HK2.out.block (W.heap.size + 3) HJ.out.rd.lt (fun e => (HJ.out.up _ e).2.2 rfl)).trans HJ.out.rd, HJ.out.up⟩)
              exact ⟨rfl, ⟨q, gw, gl, cw, cl, r, t, mb, mc, pickM ms st false, bs, (some ⟨b0, off, none⟩), 0, _, _, _, _, _, _, _, _, _, _, _, _, _, _, _, _, _, _, _, _, _, _, _, _, _, _, _, _, _, _, _, _, _, _, _, _, _, _, _, _, _, _, _, _, _, _, _, _, _, _, _, _, _, _, _, _, _, _, _, _, rfl, HJN.out⟩⟩
          · have h1' : ¬ pc = 1 := by omega
            have h1'' : pc ≠ 1 := h1'
            cases x with
            | true =>
              go_wp2_with fail
              refine (pick_read W.heap.size q W.heap.size gw gl cw cl r t mb mc ms st w8 HJ.out.at' HJ.out.ok).mono ?_
              rintro e w9 ⟨rfl, hP, hk⟩
              have HP := Lib.hid hP
              have HK := Lib.hid hk
              clear hP hk hx
              go_wp2_with fail
              go_step3
              have HJN := Lib.hid (show PlJ W ms fin q gw gl cw cl r t mb mc (pickM ms st true) bs (some ⟨b0, off + 1, none⟩) (pc - 1) w9 from ⟨HP.out, pickM_ok HJ.out.ok true, HJ.out.fin, HJ.out.pk.tail.keeps HK.out (fun _ h => h), by have := HPC3.out; have := HPC2.out; omega, HJ.out.low.trans (HK.out.below HJ.out.low.size (fun k e => (HJ.out.up k e).1)), HJ.out.res.keeps HK.out (fun e => (HJ.out.up _ e).2.1 rfl), (HK.out.block (W.heap.size + 3) HJ.out.rd.lt (fun e => (HJ.out.up _ e).2.2 rfl)).trans HJ.out.rd, HJ.out.up⟩)
              exact ⟨rfl, ⟨q, gw, gl, cw, cl, r, t, mb, mc, pickM ms st true, bs, (some ⟨b0, off + 1, none⟩), (pc - 1), _, _, _, _, _, _, _, _, _, _, _, _, _, _, _, _, _, _, _, _, _, _, _, _, _, _, _, _, _, _, _, _, _, _, _, _, _, _, _, _, _, _, _, _, _, _, _, _, _, _, _, _, _, _, _, _, _, _, _, _, rfl, HJN.out⟩⟩
            | false =>
              go_wp2_with fail
              refine (pick_turn W.heap.size q W.heap.size gw gl cw cl r t mb mc ms st w8 HJ.out.at').mono ?_
              rintro e w9 ⟨rfl, hP, hk⟩
              have HP := Lib.hid hP
              have HK := Lib.hid hk
              clear hP hk hx
              go_wp2_with fail
              refine (pick_write W.heap.size q W.heap.size gw gl cw cl r t mb mc ms _ w9 HP.out HJ.out.ok.mem HJ.out.ok.rng (turnM_ok _ _ HJ.out.ok.x HJ.out.ok.l).1).mono ?_
              rintro e w10 ⟨rfl, hP2, hk2⟩
              have HP2 := Lib.hid hP2
              have HK2 := Lib.hid (HK.out.trans hk2)
              clear hP2 hk2 HP HK
              go_wp2_with fail
              go_step3
              have HJN := Lib.hid (show PlJ W ms fin q gw gl cw cl r t mb mc (pickM ms st false) bs (some ⟨b0, off + 1, none⟩) (pc - 1) w10 from ⟨HP2.out, pickM_ok HJ.out.ok false, HJ.out.fin, HJ.out.pk.tail.keeps HK2.out (fun _ h => h), by have := HPC3.out; have := HPC2.out; omega, HJ.out.low.trans (HK2.out.below HJ.out.low.size (fun k e => (HJ.out.up k e).1)), HJ.out.res.keeps HK2.out (fun e => (HJ.out.up _ e).2.1 rfl), (HK2.out.block (W.heap.size + 3) HJ.out.rd.lt (fun e => (HJ.out.up _ e).2.2 rfl)).trans HJ.out.rd, HJ.out.up⟩)
              exact ⟨rfl, ⟨q, gw, gl, cw, cl, r, t, mb, mc, pickM ms st false, bs, (some ⟨b0, off + 1, none⟩), (pc - 1), _, _, _, _, _, _, _, _, _, _, _, _, _, _, _, _, _, _, _, _, _, _, _, _, _, _, _, _, _, _, _, _, _, _, _, _, _, _, _, _, _, _, _, _, _, _, _, _, _, _, _, _, _, _, _, _, _, _, _, _, rfl, HJN.out⟩⟩


end Go.Proofs.Ytaljpggajpoalaa
/-
  A read among writes of the same words, as plain mathematics: it has the values of one write.
  Conditions: at most four writes, of one to three words.
-/
namespace Go.Proofs.Ytaljpggajpoalaa
open Go.RowKit Go.Shelf

theorem u64wrap_small {n : Int} (h : 0 ≤ n) (h1 : n < 18446744073709551616) : IntKind.u64.wrap n = n := by
  have : IntKind.u64.wrap n = n % 18446744073709551616 := by simp [IntKind.wrap, IntKind.bits, IntKind.signed]
  omega
/-- The words that the counter at 9 guards. -/
def curW (us : List Int) (m : Nat) : List Int := (us.drop 2).take m
theorem curW_len {us : List Int} {m : Nat} (h : us.length = 12) (hm : m ≤ 3) : (curW us m).length = m := by simp [curW, h]; omega
theorem curW_cnt {us : List Int} {m : Nat} (hm : m ≤ 3) (c : Int) : curW (us.set 9 c) m = curW us m := by
  unfold curW
  refine List.ext_getElem? fun i => ?_
  simp only [List.getElem?_take, List.getElem?_drop, List.getElem?_set]
  split
  · rw [if_neg (by first | omega | (dsimp only; omega))]
  · rfl
theorem curW_put {us : List Int} {m j : Nat} (c : Int) : curW (us.set (2 + j) c) m = (curW us m).set j c := by
  unfold curW
  refine List.ext_getElem? fun i => ?_
  simp only [List.getElem?_take, List.getElem?_drop, List.getElem?_set, List.length_take, List.length_drop]
  split
  · by_cases hi : j = i
    · subst hi
      simp only [if_true]
      by_cases h2 : 2 + j < us.length
      · rw [if_pos h2, if_pos (by first | omega | (dsimp only; omega))]
      · rw [if_neg h2, if_neg (by first | omega | (dsimp only; omega))]
    · rw [if_neg (by first | omega | (dsimp only; omega)), if_neg hi]
  · split
    · rw [if_neg (by first | omega | (dsimp only; omega))]
    · rfl
theorem curW_get {us : List Int} {m j : Nat} (hj : j < m) : us.getD (2 + j) 0 = (curW us m).getD j 0 := by
  unfold curW
  rw [List.getD_eq_getElem?_getD, List.getD_eq_getElem?_getD, List.getElem?_take, if_pos hj, List.getElem?_drop]
theorem take_next {l : List Int} {j : Nat} (h : j < l.length) : l.take (j + 1) = l.take j ++ [l.getD j 0] := by
  rw [List.take_succ_eq_append_getElem h, List.getD_eq_getElem?_getD, List.getElem?_eq_getElem h]; rfl
theorem live12 {us : List Int} (h : us.length = 12) {a : Int} (h0 : 0 ≤ a) (h1 : a ≤ 11) : liveAt us (List.replicate 12 true) a = true := by
  obtain ⟨n, rfl⟩ := Int.eq_ofNat_of_zero_le h0
  unfold liveAt thereB
  rw [h, Int.toNat_natCast, List.getD_eq_getElem?_getD, List.getElem?_replicate, if_pos (by first | omega | (dsimp only; omega))]
  simp
  omega
/-- What holds of the read. -/
structure ROk (H : List (List Int)) (m : Nat) (us : List Int) (s : RdM) (vs : List Int) : Prop where
  a : s.a = 9
  f : s.f = 2
  mm : s.m = m
  t : 0 ≤ s.t
  ph : (s.p = 0 ∧ 2 * s.t ≤ us.getD 9 0 + 1) ∨
    ((s.p = 2 ∧ vs.length < m ∨ s.p = 3 ∧ vs.length = m) ∧ s.b ≤ us.getD 9 0 ∧ 2 * s.t ≤ s.b ∧ s.b % 2 = 0 ∧ (us.getD 9 0 = s.b → vs = (curW us m).take vs.length)) ∨
    (s.p = 4 ∧ vs ∈ H ∧ 2 * s.t ≤ us.getD 9 0 + 1)
/-- What holds of the writes. -/
structure WOk (H : List (List Int)) (m N : Nat) (us : List Int) (x : WrX) (l : List WrX) : Prop where
  cur : ∃ k : Nat, (x.s.p = 4 ∧ us.getD 9 0 = 2 * k ∧ curW us m ∈ H ∧ k + l.length ≤ N) ∨
    (x.s.a = 9 ∧ x.s.f = 2 ∧ x.vs.length = m ∧ x.vs ∈ H ∧ k + 1 + l.length ≤ N ∧
      ((x.s.p = 0 ∧ x.s.w = 0 ∧ us.getD 9 0 = 2 * k ∧ curW us m ∈ H) ∨ (x.s.p = 1 ∧ x.s.w = 0 ∧ x.s.b = 2 * k ∧ us.getD 9 0 = 2 * k ∧ curW us m ∈ H) ∨
        (x.s.p = 2 ∧ (∃ j : Nat, j < m ∧ x.s.w = j ∧ (curW us m).take j = x.vs.take j) ∧ x.s.b = 2 * k ∧ us.getD 9 0 = 2 * k + 1) ∨
        (x.s.p = 3 ∧ x.s.b = 2 * k ∧ us.getD 9 0 = 2 * k + 1 ∧ curW us m = x.vs)))
  left : ∀ y ∈ l, y.s = ⟨9, 2, 0, 0, 0⟩ ∧ y.vs.length = m ∧ y.vs ∈ H
structure SOk (H : List (List Int)) (m N : Nat) (st : PlS) : Prop where
  len : st.us.length = 12
  u : st.u = false
  r : ROk H m st.us st.s st.vs
  w : WOk H m N st.us st.x st.l
theorem getD_set9 {us : List Int} (h : us.length = 12) (c : Int) : (us.set 9 c).getD 9 0 = c := by
  rw [List.getD_eq_getElem?_getD, List.getElem?_set_self (by first | omega | (dsimp only; omega))]; rfl
theorem getD_set2 {us : List Int} {j : Nat} (h : j ≤ 3) (c : Int) : (us.set (2 + j) c).getD 9 0 = us.getD 9 0 := by
  rw [List.getD_eq_getElem?_getD, List.getElem?_set_ne (by first | omega | (dsimp only; omega)), ← List.getD_eq_getElem?_getD]
/-- If it is even no write is under way. -/
theorem WOk.even {H : List (List Int)} {m N : Nat} {us : List Int} {x : WrX} {l : List WrX} (h : WOk H m N us x l) (he : us.getD 9 0 % 2 = 0) : curW us m ∈ H := by
  obtain ⟨k, h | ⟨-, -, -, -, -, h | h | h | h⟩⟩ := h.cur
  · exact h.2.2.1
  · exact h.2.2.2
  · exact h.2.2.2.2
  · omega
  · omega
theorem stepR_sok {H : List (List Int)} {m N : Nat} {st : PlS} (hm : 1 ≤ m ∧ m ≤ 3) (h : SOk H m N st) : SOk H m N (pickM (List.replicate 12 true) st true) := by
  obtain ⟨us, u, ⟨a, f, mm, p, b, t⟩, vs, x, l⟩ := st
  obtain ⟨hl, hu, ⟨ha, hf, hmm, ht0, hph⟩, hw⟩ := h
  dsimp only at *
  subst ha hf hmm hu
  unfold pickM
  rw [if_pos rfl]
  dsimp only
  unfold stepR
  dsimp only
  rcases hph with ⟨rfl, ht⟩ | ⟨⟨rfl, hvl⟩ | ⟨rfl, hvl⟩, hb, ht, hbe, hv⟩ | ⟨rfl, hvH, ht⟩
  · rw [if_neg (by decide), if_neg (by decide), accM_load (live12 hl (by decide) (by decide))]
    dsimp only
    rw [if_neg (by decide), if_pos rfl]
    show SOk H m N _
    have e9 : (9 : Int).toNat = 9 := rfl
    rw [e9]
    split
    · rename_i he
      refine ⟨hl, rfl, ⟨rfl, rfl, rfl, ht0, .inr (.inl ⟨?_, Int.le_refl _, by first | omega | (dsimp only; omega), he, fun _ => by simp⟩)⟩, hw⟩
      unfold phR
      left
      exact ⟨by show (if ((0 : Nat) : Int) = (m : Int) then (3 : Int) else 2) = 2; rw [if_neg (by first | omega | (dsimp only; omega))], by simp; omega⟩
    · exact ⟨hl, rfl, ⟨rfl, rfl, rfl, ht0, .inl ⟨rfl, ht⟩⟩, hw⟩
  · have e : (2 + (vs.length : Int)).toNat = 2 + vs.length := by first | omega | (dsimp only; omega)
    rw [if_neg (by decide), if_pos rfl, accM_load (live12 hl (by first | omega | (dsimp only; omega)) (by first | omega | (dsimp only; omega)))]
    dsimp only
    rw [if_neg (by decide), if_neg (by decide), if_pos rfl, e, curW_get hvl]
    have hvv : us.getD 9 0 = b → vs ++ [(curW us m).getD vs.length 0] = (curW us m).take (vs ++ [(curW us m).getD vs.length 0]).length := fun e => by
      rw [List.length_append, List.length_singleton, take_next (by rw [curW_len hl hm.2]; exact hvl), ← hv e]
    refine ⟨hl, rfl, ⟨rfl, rfl, rfl, ht0, .inr (.inl ⟨?_, hb, ht, hbe, hvv⟩)⟩, hw⟩
    unfold phR
    dsimp only
    rw [List.length_append, List.length_singleton]
    split
    · right; exact ⟨rfl, by first | omega | (dsimp only; omega)⟩
    · left; exact ⟨rfl, by first | omega | (dsimp only; omega)⟩
  · rw [if_neg (by decide), if_neg (by decide), accM_load (live12 hl (by decide) (by decide))]
    dsimp only
    rw [if_neg (by decide), if_neg (by decide), if_neg (by decide)]
    have e9 : (9 : Int).toNat = 9 := rfl
    rw [e9]
    split
    · rename_i he
      refine ⟨hl, rfl, ⟨rfl, rfl, rfl, ht0, .inr (.inr ⟨rfl, ?_, by first | omega | (dsimp only; omega)⟩)⟩, hw⟩
      rw [hv he, hvl, List.take_of_length_le (by rw [curW_len hl hm.2]; omega)]
      exact hw.even (by first | omega | (dsimp only; omega))
    · rename_i he
      refine ⟨hl, rfl, ⟨rfl, rfl, rfl, ?_, .inl ⟨rfl, ?_⟩⟩, hw⟩ <;> dsimp only <;> split <;> omega
  · rw [if_pos (by decide)]
    exact ⟨hl, rfl, ⟨rfl, rfl, rfl, ht0, .inr (.inr ⟨rfl, hvH, ht⟩)⟩, hw⟩
theorem turnM_ok2 {H : List (List Int)} {m N : Nat} {us : List Int} : ∀ (x : WrX) (l : List WrX), WOk H m N us x l → WOk H m N us (turnM x l).1 (turnM x l).2
  | x, [], h => h
  | x, y :: t, h => by
    unfold turnM
    split
    · rename_i e
      refine turnM_ok2 y t ⟨?_, fun z hz => h.left z (by simp [hz])⟩
      obtain ⟨hy, hyl, hyH⟩ := h.left y (by simp)
      obtain ⟨k, h1 | ⟨-, -, -, -, -, h1⟩⟩ := h.cur
      · refine ⟨k, .inr ?_⟩
        rw [hy]
        have h2 := h1.2.2.2
        rw [List.length_cons] at h2
        exact ⟨rfl, rfl, hyl, hyH, by first | omega | (dsimp only; omega), .inl ⟨rfl, rfl, h1.2.1, h1.2.2.1⟩⟩
      · omega
    · exact h
theorem ROk.move {H : List (List Int)} {m : Nat} {us us' : List Int} {s : RdM} {vs : List Int} (h : ROk H m us s vs) (hc : us'.getD 9 0 = us.getD 9 0 ∧ curW us' m = curW us m ∨ us.getD 9 0 % 2 = 1 ∧ us'.getD 9 0 = us.getD 9 0 ∨ us'.getD 9 0 = us.getD 9 0 + 1 ∧ (us.getD 9 0 % 2 = 0 ∨ us.getD 9 0 % 2 = 1)) : ROk H m us' s vs := by
  obtain ⟨ha, hf, hm, ht, hph⟩ := h
  refine ⟨ha, hf, hm, ht, ?_⟩
  rcases hph with h | ⟨h1, h2, h3, h4, h5⟩ | h
  · left; omega
  · right; left
    refine ⟨h1, by first | omega | (dsimp only; omega), h3, h4, fun e => ?_⟩
    rcases hc with ⟨c1, c2⟩ | ⟨c1, c2⟩ | ⟨c1, c2⟩
    · rw [c2]; exact h5 (by first | omega | (dsimp only; omega))
    · omega
    · omega
  · right; right; exact ⟨h.1, h.2.1, by first | omega | (dsimp only; omega)⟩
theorem stepW_sok {H : List (List Int)} {m N : Nat} {st : PlS} (hm : 1 ≤ m ∧ m ≤ 3) (hN : N ≤ 4) (h : SOk H m N st) : SOk H m N (pickM (List.replicate 12 true) st false) := by
  obtain ⟨us, u, s, vs, x, l⟩ := st
  obtain ⟨hl, hu, hr, hw⟩ := h
  dsimp only at *
  subst hu
  replace hw := turnM_ok2 x l hw
  unfold pickM
  rw [if_neg (by decide)]
  dsimp only
  generalize turnM x l = y at hw
  clear x l
  obtain ⟨⟨⟨a, f, p, b, w⟩, v, ws⟩, l⟩ := y
  dsimp only at *
  obtain ⟨⟨k, h1 | ⟨h2, h3, h4, h5, h6, h1 | h1 | h1 | h1⟩⟩, hleft⟩ := hw
  · obtain ⟨rfl, h1⟩ := h1
    unfold stepW
    dsimp only
    rw [if_pos (by decide)]
    exact ⟨hl, rfl, hr, ⟨k, .inl ⟨rfl, h1⟩⟩, hleft⟩
  · dsimp only at *
    obtain ⟨rfl, rfl, hc, hH⟩ := h1
    subst h2 h3
    unfold stepW
    dsimp only
    rw [if_neg (by decide), if_pos rfl, accM_load (live12 hl (by decide) (by decide))]
    dsimp only
    have e9 : (9 : Int).toNat = 9 := rfl
    rw [if_neg (by decide), if_pos rfl, e9, if_pos (by first | omega | (dsimp only; omega)), hc]
    exact ⟨hl, rfl, hr, ⟨k, .inr ⟨rfl, rfl, h4, h5, h6, .inr (.inl ⟨rfl, rfl, rfl, hc, hH⟩)⟩⟩, hleft⟩
  · dsimp only at *
    obtain ⟨rfl, rfl, hb, hc, hH⟩ := h1
    subst h2 h3
    unfold stepW
    dsimp only
    rw [if_neg (by decide), if_neg (by decide), if_neg (by decide), if_pos rfl, accM_store (live12 hl (by decide) (by decide))]
    dsimp only
    have e9 : (9 : Int).toNat = 9 := rfl
    have ew : IntKind.u64.wrap (b + 1) = b + 1 := u64wrap_small (by first | omega | (dsimp only; omega)) (by first | omega | (dsimp only; omega))
    rw [if_neg (by decide), if_neg (by decide), if_pos rfl, e9, ew]
    refine ⟨by rw [List.length_set]; exact hl, rfl, hr.move (.inr (.inr ⟨by rw [getD_set9 hl]; omega, by first | omega | (dsimp only; omega)⟩)), ⟨k, .inr ⟨rfl, rfl, h4, h5, h6, .inr (.inr (.inl ⟨rfl, ⟨0, by first | omega | (dsimp only; omega), rfl, by simp⟩, hb, by dsimp only; rw [getD_set9 hl]; omega⟩))⟩⟩, hleft⟩
  · dsimp only at *
    obtain ⟨rfl, ⟨j, hj, rfl, hjt⟩, hb, hc⟩ := h1
    subst h2 h3
    unfold stepW
    dsimp only
    rw [if_neg (by decide), if_neg (by decide), if_pos rfl, if_neg (by decide), if_pos rfl, accM_store (live12 hl (by first | omega | (dsimp only; omega)) (by first | omega | (dsimp only; omega)))]
    dsimp only
    have ej : (2 + (j : Int)).toNat = 2 + j := by first | omega | (dsimp only; omega)
    rw [if_neg (by decide), if_neg (by decide), if_neg (by decide), if_pos rfl, ej, Int.toNat_natCast]
    have hcl := curW_len hl hm.2
    have hnx : (curW (us.set (2 + j) (ws.getD j 0)) m).take (j + 1) = ws.take (j + 1) := by
      rw [curW_put, take_next (by rw [List.length_set, hcl]; exact hj), take_next (by rw [h4]; exact hj), List.take_set_of_le (Nat.le_refl _), hjt]
      congr 2
      rw [List.getD_eq_getElem?_getD, List.getElem?_set_self (by rw [hcl]; exact hj)]; rfl
    refine ⟨by rw [List.length_set]; exact hl, rfl, hr.move (.inr (.inl ⟨by first | omega | (dsimp only; omega), getD_set2 (by first | omega | (dsimp only; omega)) _⟩)), ⟨k, .inr ⟨rfl, rfl, h4, h5, h6, ?_⟩⟩, hleft⟩
    dsimp only
    rw [getD_set2 (by first | omega | (dsimp only; omega))]
    split
    · right; right; right
      refine ⟨rfl, hb, hc, ?_⟩
      have e : j + 1 = m := by first | omega | (dsimp only; omega)
      rw [e] at hnx
      rwa [List.take_of_length_le (by rw [curW_put, List.length_set, hcl]; exact Nat.le_refl _), List.take_of_length_le (by first | omega | (dsimp only; omega))] at hnx
    · right; right; left
      exact ⟨rfl, ⟨j + 1, by first | omega | (dsimp only; omega), by simp, hnx⟩, hb, hc⟩
  · dsimp only at *
    obtain ⟨rfl, hb, hc, hH⟩ := h1
    subst h2 h3
    unfold stepW
    dsimp only
    rw [if_neg (by decide), if_neg (by decide), if_neg (by decide), if_neg (by decide), if_neg (by decide), accM_store (live12 hl (by decide) (by decide))]
    dsimp only
    have e9 : (9 : Int).toNat = 9 := rfl
    have ew : IntKind.u64.wrap (b + 2) = b + 2 := u64wrap_small (by first | omega | (dsimp only; omega)) (by first | omega | (dsimp only; omega))
    rw [if_neg (by decide), if_neg (by decide), if_neg (by decide), if_neg (by decide), e9, ew]
    refine ⟨by rw [List.length_set]; exact hl, rfl, hr.move (.inr (.inr ⟨by rw [getD_set9 hl]; omega, by first | omega | (dsimp only; omega)⟩)), ⟨k + 1, .inl ⟨rfl, by dsimp only; rw [getD_set9 hl]; omega, by dsimp only; rw [curW_cnt hm.2, hH]; exact h5, by dsimp only; omega⟩⟩, hleft⟩
theorem play_sok {H : List (List Int)} {m N : Nat} (hm : 1 ≤ m ∧ m ≤ 3) (hN : N ≤ 4) : ∀ (bs : List Bool) {st : PlS}, SOk H m N st → SOk H m N (playM (List.replicate 12 true) st bs)
  | [], _, h => h
  | true :: bs, _, h => play_sok hm hN bs (stepR_sok hm h)
  | false :: bs, _, h => play_sok hm hN bs (stepW_sok hm hN h)
/-- A read that is over has the values of one write. -/
theorem whole_math {m : Nat} (hm : 1 ≤ m ∧ m ≤ 3) (v : Value) (l : List WrX) (hl : l.length ≤ 4) (hs : ∀ y ∈ l, y.s = ⟨9, 2, 0, 0, 0⟩ ∧ y.vs.length = m) (bs : List Bool) (st : PlS)
    (hst : st = playM (List.replicate 12 true) ⟨List.replicate 12 0, false, ⟨9, 2, m, 0, 0, 0⟩, [], ⟨⟨0, 0, 4, 0, 0⟩, v, []⟩, l⟩ bs) :
    st.u = false ∧ st.s.t ≤ l.length ∧ st.s.p ≠ 5 ∧ (st.s.p = 4 → st.vs ∈ List.replicate m 0 :: l.map (·.vs)) := by
  have h0 : SOk (List.replicate m 0 :: l.map (·.vs)) m l.length ⟨List.replicate 12 0, false, ⟨9, 2, m, 0, 0, 0⟩, [], ⟨⟨0, 0, 4, 0, 0⟩, v, []⟩, l⟩ := by
    refine ⟨by simp, rfl, ⟨rfl, rfl, rfl, Int.le_refl _, .inl ⟨rfl, by show (2 : Int) * 0 ≤ (List.replicate 12 (0 : Int)).getD 9 0 + 1; decide⟩⟩, ⟨0, .inl ⟨rfl, by show (List.replicate 12 (0 : Int)).getD 9 0 = _; decide, ?_, by simp⟩⟩, fun y hy => ⟨(hs y hy).1, (hs y hy).2, by simp; exact .inr ⟨y, hy, rfl⟩⟩⟩
    have : curW (List.replicate 12 (0 : Int)) m = List.replicate m 0 := by
      rcases (by first | omega | (dsimp only; omega) : m = 1 ∨ m = 2 ∨ m = 3) with rfl | rfl | rfl <;> decide
    rw [this]; simp
  have h := play_sok hm hl bs h0
  rw [← hst] at h
  clear hst h0
  obtain ⟨-, hu, ⟨-, -, -, -, hph⟩, ⟨⟨k, hk⟩, -⟩⟩ := h
  have hc : st.us.getD 9 0 + 1 ≤ 2 * l.length + 1 := by
    rcases hk with hk | ⟨-, -, -, -, hk, hk2⟩ <;> omega
  refine ⟨hu, ?_, ?_, ?_⟩
  · rcases hph with h | h | h <;> omega
  · rcases hph with h | h | h <;> omega
  · intro e
    rcases hph with h | h | h
    · omega
    · omega
    · exact h.2.1
end Go.Proofs.Ytaljpggajpoalaa
/-
  A write alone, and a read behind it, as plain mathematics.
  Conditions: one to sixteen values.
-/
namespace Go.Proofs.Ytaljpggajpoalaa
open Go.RowKit Go.Shelf

/-- Twenty words: the last one a counter, the first j values from the second word on. -/
def memA (vs : List Int) (c : Int) (j : Nat) : List Int := (List.range 20).map fun i => if i = 19 then c else if 1 ≤ i ∧ i < 1 + j then vs.getD (i - 1) 0 else 0
theorem memA_len (vs : List Int) (c : Int) (j : Nat) : (memA vs c j).length = 20 := by simp [memA]
theorem memA_get (vs : List Int) (c : Int) (j i : Nat) (h : i < (memA vs c j).length) : (memA vs c j)[i] = if i = 19 then c else if 1 ≤ i ∧ i < 1 + j then vs.getD (i - 1) 0 else 0 := by simp [memA]
theorem memA_cnt (vs : List Int) (c c' : Int) (j : Nat) : (memA vs c j).set 19 c' = memA vs c' j := by
  refine List.ext_getElem (by simp [memA_len]) fun i h1 h2 => ?_
  rw [List.getElem_set, memA_get, memA_get]
  by_cases hi : i = 19
  · rw [if_pos hi.symm, if_pos hi]
  · rw [if_neg (fun e => hi e.symm), if_neg hi, if_neg hi]
theorem memA_put (vs : List Int) (c : Int) (j : Nat) (hj : j ≤ 16) : (memA vs c j).set (1 + j) (vs.getD j 0) = memA vs c (j + 1) := by
  refine List.ext_getElem (by simp [memA_len]) fun i h1 h2 => ?_
  rw [List.getElem_set, memA_get, memA_get]
  by_cases hi : 1 + j = i
  · subst hi
    rw [if_pos rfl, if_neg (by omega), if_pos (by omega), show 1 + j - 1 = j by omega]
  · rw [if_neg hi]
    by_cases h9 : i = 19
    · rw [if_pos h9, if_pos h9]
    · rw [if_neg h9, if_neg h9]
      by_cases h3 : 1 ≤ i ∧ i < 1 + j
      · rw [if_pos h3, if_pos (by omega)]
      · rw [if_neg h3, if_neg (by omega)]
theorem memA_19 (vs : List Int) (c : Int) (j : Nat) : (memA vs c j).getD 19 0 = c := by
  rw [List.getD_eq_getElem?_getD, List.getElem?_eq_getElem (by rw [memA_len]; decide), memA_get, if_pos rfl]; rfl
theorem memA_at (vs : List Int) (c : Int) (j i : Nat) (h : i < j) (hj : j ≤ 16) : (memA vs c j).getD (1 + i) 0 = vs.getD i 0 := by
  rw [List.getD_eq_getElem?_getD, List.getElem?_eq_getElem (by rw [memA_len]; omega), memA_get, if_neg (by omega), if_pos (by omega), show 1 + i - 1 = i by omega]; rfl
theorem memA_nil (vs : List Int) : memA vs 0 0 = List.replicate 20 0 := by
  refine List.ext_getElem (by simp [memA_len]) fun i h1 h2 => ?_
  rw [memA_get, List.getElem_replicate]
  split
  · rfl
  · rw [if_neg (by omega)]
theorem memA_range {vs : List Int} (h : WRange vs) {c : Int} (hc : 0 ≤ c ∧ c ≤ 2) (j : Nat) : WRange (memA vs c j) := by
  intro x hx
  obtain ⟨i, hi, rfl⟩ := List.getElem_of_mem hx
  rw [memA_get]
  split
  · omega
  · split
    · rw [List.getD_eq_getElem?_getD]
      cases e : vs[i - 1]? with
      | none => simp
      | some y => exact h y (List.mem_of_getElem? e)
    · omega
theorem right20 {us : List Int} (h : us.length = 20) : rightB us (List.replicate 20 true) = true := by
  rw [rightB_iff]
  refine ⟨by omega, by omega, by simp [h], fun i h1 h2 => ?_⟩
  rw [List.getElem_replicate]
  rfl
theorem live20 {us : List Int} (h : us.length = 20) {a : Int} (h0 : 0 ≤ a) (h1 : a ≤ 19) : liveAt us (List.replicate 20 true) a = true := by
  obtain ⟨n, rfl⟩ := Int.eq_ofNat_of_zero_le h0
  unfold liveAt thereB
  rw [h, Int.toNat_natCast, List.getD_eq_getElem?_getD, List.getElem?_replicate, if_pos (by omega)]
  simp
  omega
/-- A write alone, behind so many steps. -/
def AW (vs : List Int) (i : Nat) (us : List Int) (s : WrM) : Prop :=
  (i = 0 ∧ us = memA vs 0 0 ∧ s = ⟨19, 1, 0, 0, 0⟩) ∨ (i = 1 ∧ us = memA vs 0 0 ∧ s = ⟨19, 1, 1, 0, 0⟩) ∨
  (∃ j : Nat, j < vs.length ∧ i = 2 + j ∧ us = memA vs 1 j ∧ s = ⟨19, 1, 2, 0, j⟩) ∨
  (i = vs.length + 2 ∧ us = memA vs 1 vs.length ∧ s = ⟨19, 1, 3, 0, vs.length⟩) ∨ (i = vs.length + 3 ∧ us = memA vs 2 vs.length ∧ s = ⟨19, 1, 4, 0, vs.length⟩)
theorem aw_step {vs : List Int} {i : Nat} {us : List Int} {s : WrM} (h : AW vs i us s) (hn : 1 ≤ vs.length ∧ vs.length ≤ 16) (hi : i ≤ vs.length + 2) :
    (stepW (List.replicate 20 true) us false s vs).1.2 = false ∧ AW vs (i + 1) (stepW (List.replicate 20 true) us false s vs).1.1 (stepW (List.replicate 20 true) us false s vs).2 := by
  rcases h with ⟨rfl, rfl, rfl⟩ | ⟨rfl, rfl, rfl⟩ | ⟨j, hj, rfl, rfl, rfl⟩ | ⟨rfl, rfl, rfl⟩ | ⟨rfl, rfl, rfl⟩
  · unfold stepW
    dsimp only
    rw [if_neg (by decide), if_pos rfl, accM_load (live20 (memA_len _ _ _) (by decide) (by decide))]
    dsimp only
    rw [if_neg (by decide), if_pos rfl, show (19 : Int).toNat = 19 from rfl, memA_19, if_pos (by decide)]
    exact ⟨rfl, .inr (.inl ⟨rfl, rfl, rfl⟩)⟩
  · unfold stepW
    dsimp only
    rw [if_neg (by decide), if_neg (by decide), if_neg (by decide), if_pos rfl, accM_store (live20 (memA_len _ _ _) (by decide) (by decide))]
    dsimp only
    rw [if_neg (by decide), if_neg (by decide), if_pos rfl, show (19 : Int).toNat = 19 from rfl, u64wrap_small (by decide) (by decide), memA_cnt]
    exact ⟨rfl, .inr (.inr (.inl ⟨0, by omega, rfl, rfl, rfl⟩))⟩
  · unfold stepW
    dsimp only
    rw [if_neg (by decide), if_neg (by decide), if_pos rfl, if_neg (by decide), if_pos rfl, accM_store (live20 (memA_len _ _ _) (by omega) (by omega))]
    dsimp only
    rw [if_neg (by decide), if_neg (by decide), if_neg (by decide), if_pos rfl, show (1 + (j : Int)).toNat = 1 + j by omega, Int.toNat_natCast, memA_put _ _ _ (by omega)]
    refine ⟨rfl, ?_⟩
    by_cases e : (j : Int) + 1 = vs.length
    · rw [if_pos e]
      have e' : j + 1 = vs.length := by omega
      rw [show ((j : Int) + 1) = ((vs.length : Nat) : Int) from e, e']
      exact .inr (.inr (.inr (.inl ⟨by omega, rfl, rfl⟩)))
    · rw [if_neg e]
      exact .inr (.inr (.inl ⟨j + 1, by omega, by omega, rfl, rfl⟩))
  · unfold stepW
    dsimp only
    rw [if_neg (by decide), if_neg (by decide), if_neg (by decide), if_neg (by decide), if_neg (by decide), accM_store (live20 (memA_len _ _ _) (by decide) (by decide))]
    dsimp only
    rw [if_neg (by decide), if_neg (by decide), if_neg (by decide), if_neg (by decide), show (19 : Int).toNat = 19 from rfl, u64wrap_small (by decide) (by decide), memA_cnt]
    exact ⟨rfl, .inr (.inr (.inr (.inr ⟨rfl, rfl, rfl⟩)))⟩
  · omega
theorem aw_facts {vs : List Int} {i : Nat} {us : List Int} {s : WrM} (h : AW vs i us s) (hn : 1 ≤ vs.length ∧ vs.length ≤ 16) (hv : WRange vs) :
    us.length = 20 ∧ WRange us ∧ rightWB s vs.length = true ∧ s.b = 0 ∧ (s.p = 4 ↔ i = vs.length + 3) ∧ us.getD 19 0 = if i ≤ 1 then 0 else if i ≤ vs.length + 2 then 1 else 2 := by
  have hap : apartB 19 1 (vs.length : Int) = true := by
    unfold apartB
    simp
    omega
  have hwr : ∀ p w : Int, fitsWB p w vs.length = true → rightWB ⟨19, 1, p, 0, w⟩ vs.length = true := fun p w e => by
    unfold rightWB
    dsimp only
    rw [hap, e]
    simp
    omega
  rcases h with ⟨rfl, rfl, rfl⟩ | ⟨rfl, rfl, rfl⟩ | ⟨j, hj, rfl, rfl, rfl⟩ | ⟨rfl, rfl, rfl⟩ | ⟨rfl, rfl, rfl⟩
  · exact ⟨memA_len _ _ _, memA_range hv (by decide) _, hwr _ _ rfl, rfl, ⟨fun e => (by cases e), fun e => (by omega)⟩, by rw [memA_19]; rfl⟩
  · exact ⟨memA_len _ _ _, memA_range hv (by decide) _, hwr _ _ rfl, rfl, ⟨fun e => (by cases e), fun e => (by omega)⟩, by rw [memA_19]; rfl⟩
  · exact ⟨memA_len _ _ _, memA_range hv (by decide) _, hwr _ _ (by unfold fitsWB; rw [if_neg (by decide), if_pos rfl]; simp; omega), rfl, ⟨fun e => (by cases e), fun e => (by omega)⟩, by rw [memA_19, if_neg (by omega), if_pos (by omega)]⟩
  · exact ⟨memA_len _ _ _, memA_range hv (by decide) _, hwr _ _ (by unfold fitsWB; rw [if_neg (by decide), if_neg (by decide), if_pos (by decide)]; simp), rfl, ⟨fun e => (by cases e), fun e => (by omega)⟩, by rw [memA_19, if_neg (by omega), if_pos (by omega)]⟩
  · exact ⟨memA_len _ _ _, memA_range hv (by decide) _, hwr _ _ (by unfold fitsWB; rw [if_neg (by decide), if_neg (by decide), if_pos (by decide)]; simp), rfl, ⟨fun _ => rfl, fun _ => rfl⟩, by rw [memA_19, if_neg (by omega), if_neg (by omega)]⟩
/-- A read behind that write, behind so many steps. -/
def AR (vs : List Int) (i : Nat) (s : RdM) (rs : List Int) : Prop :=
  (i = 0 ∧ s = ⟨19, 1, vs.length, 0, 0, 0⟩ ∧ rs = []) ∨ (∃ j : Nat, j < vs.length ∧ i = 1 + j ∧ s = ⟨19, 1, vs.length, 2, 2, 0⟩ ∧ rs = vs.take j) ∨
  (i = vs.length + 1 ∧ s = ⟨19, 1, vs.length, 3, 2, 0⟩ ∧ rs = vs) ∨ (i = vs.length + 2 ∧ s = ⟨19, 1, vs.length, 4, 2, 0⟩ ∧ rs = vs)
theorem ar_step {vs : List Int} {i : Nat} {s : RdM} {rs : List Int} (h : AR vs i s rs) (hn : 1 ≤ vs.length ∧ vs.length ≤ 16) (hi : i ≤ vs.length + 1) :
    (stepR (List.replicate 20 true) (memA vs 2 vs.length) false s rs).1 = (memA vs 2 vs.length, false) ∧ AR vs (i + 1) (stepR (List.replicate 20 true) (memA vs 2 vs.length) false s rs).2.1 (stepR (List.replicate 20 true) (memA vs 2 vs.length) false s rs).2.2 := by
  rcases h with ⟨rfl, rfl, rfl⟩ | ⟨j, hj, rfl, rfl, rfl⟩ | ⟨rfl, rfl, rfl⟩ | ⟨rfl, rfl, rfl⟩
  · unfold stepR
    dsimp only
    rw [if_neg (by decide), if_neg (by decide), accM_load (live20 (memA_len _ _ _) (by decide) (by decide))]
    dsimp only
    rw [if_neg (by decide), if_pos rfl, show (19 : Int).toNat = 19 from rfl, memA_19, if_pos (by decide)]
    refine ⟨rfl, .inr (.inl ⟨0, by omega, rfl, ?_, by simp⟩)⟩
    unfold phR
    rw [if_neg (by omega)]
  · have hl : (vs.take j).length = j := by rw [List.length_take]; omega
    unfold stepR
    dsimp only
    rw [if_neg (by decide), if_pos rfl, hl, accM_load (live20 (memA_len _ _ _) (by omega) (by omega))]
    dsimp only
    rw [if_neg (by decide), if_neg (by decide), if_pos rfl, show (1 + (j : Int)).toNat = 1 + j by omega, memA_at _ _ _ _ hj (by omega), ← take_next hj]
    refine ⟨rfl, ?_⟩
    unfold phR
    dsimp only
    by_cases e : ((j + 1 : Nat) : Int) = (vs.length : Int)
    · rw [if_pos e]
      have e' : j + 1 = vs.length := by omega
      exact .inr (.inr (.inl ⟨by omega, rfl, by rw [e', List.take_length]⟩))
    · rw [if_neg e]
      exact .inr (.inl ⟨j + 1, by omega, by omega, rfl, rfl⟩)
  · unfold stepR
    dsimp only
    rw [if_neg (by decide), if_neg (by decide), accM_load (live20 (memA_len _ _ _) (by decide) (by decide))]
    dsimp only
    rw [if_neg (by decide), if_neg (by decide), if_neg (by decide), show (19 : Int).toNat = 19 from rfl, memA_19, if_pos rfl]
    exact ⟨rfl, .inr (.inr (.inr ⟨rfl, rfl, rfl⟩))⟩
  · omega
theorem ar_facts {vs : List Int} {i : Nat} {s : RdM} {rs : List Int} (h : AR vs i s rs) (hn : 1 ≤ vs.length ∧ vs.length ≤ 16) :
    rightRB s rs.length = true ∧ (0 ≤ s.b ∧ s.b ≤ 2) ∧ (s.p = 4 ↔ i = vs.length + 2) ∧ (i = vs.length + 2 → rs = vs) ∧ rs.length ≤ 16 := by
  have hap : apartB 19 1 (vs.length : Int) = true := by
    unfold apartB
    simp
    omega
  have hwr : ∀ (p b : Int) (n : Nat), b % 2 = 0 → fitsRB p 0 vs.length n = true → rightRB ⟨19, 1, vs.length, p, b, 0⟩ n = true := fun p b n hb e => by
    unfold rightRB
    dsimp only
    rw [hap, e]
    simp
    omega
  rcases h with ⟨rfl, rfl, rfl⟩ | ⟨j, hj, rfl, rfl, rfl⟩ | ⟨rfl, rfl, rfl⟩ | ⟨rfl, rfl, rfl⟩
  · exact ⟨hwr _ _ _ (by decide) rfl, by dsimp only; omega, ⟨fun e => (by cases e), fun e => (by omega)⟩, fun e => by omega, by simp⟩
  · have hl : (vs.take j).length = j := by rw [List.length_take]; omega
    exact ⟨hwr _ _ _ (by decide) (by rw [hl]; unfold fitsRB; rw [if_neg (by decide), if_pos rfl]; simp; omega), by dsimp only; omega, ⟨fun e => (by cases e), fun e => (by omega)⟩, fun e => by omega, by omega⟩
  · exact ⟨hwr _ _ _ (by decide) (by unfold fitsRB; rw [if_neg (by decide), if_neg (by decide), if_pos (by decide)]; simp), by dsimp only; omega, ⟨fun e => (by cases e), fun e => (by omega)⟩, fun e => by omega, by omega⟩
  · exact ⟨hwr _ _ _ (by decide) (by unfold fitsRB; rw [if_neg (by decide), if_neg (by decide), if_pos (by decide)]; simp), by dsimp only; omega, ⟨fun _ => rfl, fun _ => rfl⟩, fun _ => rfl, by omega⟩
end Go.Proofs.Ytaljpggajpoalaa
namespace Go.Proofs.Ytaljpggajpoalaa
open Go.RowKit Go.Shelf
attribute [local go_sem] Oper.semAt_some

/-- What StepRead hands over. -/
def SReadOk (B : Nat) (ms : List Bool) (x : (List Int × Bool) × RdM × List Int) (e : Ending) (w' : World) : Prop :=
  ∃ gw cw gl cl p c, e = .returned (.tuple #[.agg #[.slice (some ⟨gw, 0, none⟩) x.1.1.length cw, .slice (some ⟨gl, 0, none⟩) ms.length cl, .bool x.1.2], rdV x.2.1 (.slice p x.2.2.length c), .int .i64 0]) ∧
  w'.ownsRow B 27 1 (.slice (some ⟨gw, 0, none⟩) x.1.1.length cw) x.1.1.length (x.1.1.map (Value.int .u64)) ∧ w'.ownsRow B 4 1 (.slice (some ⟨gl, 0, none⟩) ms.length cl) ms.length (ms.map Value.bool) ∧
  w'.ownsRow B 27 1 (.slice p x.2.2.length c) x.2.2.length (x.2.2.map (Value.int .u64))

theorem RS.below {B q z gw gl cw cl r : Nat} {S : Nat → Prop} {ms : List Bool} {x : (List Int × Bool) × RdM × List Int} {w w' : World} (h : RS B q z gw gl cw cl r S ms x w) (hb : Below w.heap.size w w') : RS B q z gw gl cw cl r S ms x w' := by
  obtain ⟨hF, v, hR, hV⟩ := h
  exact ⟨hF.below hb, v, hR.below hb, hV.keeps (Keeps.of_below (S := fun _ => False) hb) (fun _ h => h.elim)⟩
set_option maxRecDepth 100000 in
set_option maxHeartbeats 8000000 in
theorem sread_c (mv : Value) (us : List Int) (ms : List Bool) (u : Bool) (s : RdM) (rq : Option Addr) (rc : Nat) (vs : List Int) (W : World)
    (hM : MemAt W mv us ms u) (hr : rightB us ms = true) (hw : WRange us) (hV : VV (fun k => W.heap.size ≤ k) W (.slice rq vs.length rc) vs) (hR : rightRB s vs.length = true) (hsb : 0 ≤ s.b ∧ s.b ≤ 18446744073709551615) :
    Calls Try.prog 22 #[mv, rdV s (.slice rq vs.length rc)] W fun e w' => SReadOk W.heap.size ms (stepR ms us u s vs) e w' ∧ Below W.heap.size W w' := by
  obtain ⟨fin, hfin⟩ : ∃ f, f = stepR ms us u s vs := ⟨_, rfl⟩
  rw [← hfin]
  have HM := Lib.hid hM
  obtain ⟨vw, vl, rfl, ⟨pw, cw0, rfl, hcw⟩, pl, cl0, rfl, hcl⟩ := hM
  clear hcw hcl
  have HAN := Lib.hid (fun (Z : World) (hb : Below W.heap.size W Z) => anew_yes _ us ms u Z (HM.out.below hb) hr)
  have HCP := Lib.hid (fun (Z : World) => checkRead_c s rq vs.length rc hsb Z)
  rw [hR, if_pos rfl] at HCP
  obtain ⟨a, f, m, ph, b, t0⟩ := s
  have HALL := Lib.hid (And.intro hr (And.intro hw (And.intro hV (And.intro hR hfin))))
  obtain ⟨w0, hw0⟩ : ∃ X : World, X = (((W.alloc (.cells #[.slice pw us.length cw0, .slice pl ms.length cl0, .bool u] 44)).alloc (.cells #[.int .i64 a, .int .i64 f, .int .i64 m, .int .i64 ph, .int .u64 b, .slice rq vs.length rc, .int .i64 t0] 29)).alloc (.cells #[.slice none 0 0, .slice none 0 0, .bool false] 44)).alloc (.cells #[.int .i64 0, .int .i64 0, .int .i64 0, .int .i64 0, .int .u64 0, .slice none 0 0, .int .i64 0] 29) := ⟨_, rfl⟩
  unfold rdV at *
  dsimp only at *
  have HB0 := Lib.hid (show Below W.heap.size W w0 by rw [hw0]; exact ((((Below.refl _ _).alloc (Nat.le_refl _) _).alloc (by simp) _).alloc (by simp; omega) _).alloc (by simp; omega) _)
  have e1 := World.alloc_heap_new W (.cells #[.slice pw us.length cw0, .slice pl ms.length cl0, .bool u] 44)
  have e2 := World.alloc_heap_new (W.alloc (.cells #[.slice pw us.length cw0, .slice pl ms.length cl0, .bool u] 44)) (.cells #[.int .i64 a, .int .i64 f, .int .i64 m, .int .i64 ph, .int .u64 b, .slice rq vs.length rc, .int .i64 t0] 29)
  have e3 := World.alloc_heap_new ((W.alloc (.cells #[.slice pw us.length cw0, .slice pl ms.length cl0, .bool u] 44)).alloc (.cells #[.int .i64 a, .int .i64 f, .int .i64 m, .int .i64 ph, .int .u64 b, .slice rq vs.length rc, .int .i64 t0] 29)) (.cells #[.slice none 0 0, .slice none 0 0, .bool false] 44)
  have e4 := World.alloc_heap_new (((W.alloc (.cells #[.slice pw us.length cw0, .slice pl ms.length cl0, .bool u] 44)).alloc (.cells #[.int .i64 a, .int .i64 f, .int .i64 m, .int .i64 ph, .int .u64 b, .slice rq vs.length rc, .int .i64 t0] 29)).alloc (.cells #[.slice none 0 0, .slice none 0 0, .bool false] 44)) (.cells #[.int .i64 0, .int .i64 0, .int .i64 0, .int .i64 0, .int .u64 0, .slice none 0 0, .int .i64 0] 29)
  simp only [World.size_alloc] at e2 e3 e4
  have HZ0 := Lib.hid (show MBox w0 W.heap.size (.slice pw us.length cw0) (.slice pl ms.length cl0) u by rw [hw0]; exact (((MBox.new W _ _ u).alloc _).alloc _).alloc _)
  have HR0 := Lib.hid (show RdBox w0 (W.heap.size + 1) ⟨a, f, m, ph, b, t0⟩ (.slice rq vs.length rc) by
    have h : RdBox _ (W.heap.size + 1) ⟨a, f, m, ph, b, t0⟩ (.slice rq vs.length rc) := e2
    rw [hw0]
    exact (h.below (below1 _ _)).below (below1 _ _))
  have HY0 := Lib.hid (show MBox w0 (W.heap.size + 2) (.slice none 0 0) (.slice none 0 0) false by
    have h : MBox _ (W.heap.size + 2) (.slice none 0 0) (.slice none 0 0) false := e3
    rw [hw0]; exact h.alloc _)
  have HT0 := Lib.hid (show RdBox w0 (W.heap.size + 3) ⟨0, 0, 0, 0, 0, 0⟩ (.slice none 0 0) by rw [hw0]; exact e4)
  have HW0 := Lib.hid hw0
  clear hr hw hV hR hsb hfin hw0 HM e1 e2 e3 e4
  go_enter Try.func22, Try.ntmps22
  go_wp2_with fail
  rw [← HW0.out]
  clear HW0
  refine (HAN.out _ HB0.out).mono ?_
  rintro e w1 ⟨⟨gw, cw, gl, cl, rfl, how, hol⟩, hb1⟩
  have HZ1 := Lib.hid (HZ0.out.below hb1)
  have HR1 := Lib.hid (HR0.out.below hb1)
  have HY1 := Lib.hid (HY0.out.below hb1)
  have HT1 := Lib.hid (HT0.out.below hb1)
  have HB1 := Lib.hid (below_then HB0.out HB0.out.size hb1)
  have HOW := Lib.hid (how.mono HB0.out.size)
  have HOL := Lib.hid (hol.mono HB0.out.size)
  have hgwl := (row_lt how).2
  have hs0 : W.heap.size + 3 < w0.heap.size := HT0.out.lt
  clear hb1 HAN HZ0 HR0 HY0 HT0 HB0 how hol
  obtain ⟨⟨hd0, hd1, hd2⟩, he0, he1, he2⟩ := mbox_cells HZ1.out
  obtain ⟨w2, hw2⟩ : ∃ X : World, X = ((w1.setCell ⟨W.heap.size, 0, none⟩ (.slice (some ⟨gw, 0, none⟩) us.length cw)).setCell ⟨W.heap.size, 1, none⟩ (.slice (some ⟨gl, 0, none⟩) ms.length cl)).setCell ⟨W.heap.size, 2, none⟩ (.bool u) := ⟨_, rfl⟩
  have hk2 : Keeps (fun k => k = W.heap.size) w1 w2 := by
    rw [hw2]
    exact ((Keeps.setCell w1 (S := (· = W.heap.size)) (p := ⟨W.heap.size, 0, none⟩) rfl _).trans (Keeps.setCell _ (S := (· = W.heap.size)) (p := ⟨W.heap.size, 1, none⟩) rfl _)).trans (Keeps.setCell _ (S := (· = W.heap.size)) (p := ⟨W.heap.size, 2, none⟩) rfl _)
  have HZ2 := Lib.hid (show MBox w2 W.heap.size (.slice (some ⟨gw, 0, none⟩) us.length cw) (.slice (some ⟨gl, 0, none⟩) ms.length cl) u by rw [hw2]; exact HZ1.out.set _ _ _)
  have HR2 := Lib.hid (show RdBox w2 (W.heap.size + 1) ⟨a, f, m, ph, b, t0⟩ (.slice rq vs.length rc) from (hk2.block (W.heap.size + 1) HR1.out.lt (by omega)).trans HR1.out)
  have HY2 := Lib.hid (HY1.out.keeps hk2 (by omega))
  have HT2 := Lib.hid (show RdBox w2 (W.heap.size + 3) ⟨0, 0, 0, 0, 0, 0⟩ (.slice none 0 0) from (hk2.block (W.heap.size + 3) HT1.out.lt (by omega)).trans HT1.out)
  have HB2 := Lib.hid (HB1.out.trans (hk2.below HB1.out.size (fun k e => by omega)))
  have HOW2 := Lib.hid (hk2.row HOW.out (fun g hg e => HZ1.out.row HOW.out (by decide) hg e.symm))
  have HOL2 := Lib.hid (hk2.row HOL.out (fun g hg e => HZ1.out.row HOL.out (by decide) hg e.symm))
  have HG := Lib.hid (show W.heap.size + 3 < gw by omega)
  have HW2 := Lib.hid hw2
  clear hw2 hk2 HZ1 HR1 HY1 HT1 HB1 HOW HOL hgwl hs0
  go_upto_region 2 with fail
  rw [← HW2.out]
  clear hd0 hd1 hd2 he0 he1 he2 HW2
  obtain ⟨r0, r1, r2, r3, r4, r5, r6⟩ := HR2.out.cells
  dsimp only at r0 r1 r2 r3 r4 r6
  go_wp2_with fail
  refine (HCP.out w2).mono ?_
  rintro e w3 ⟨rfl, hb3⟩
  have HZ3 := Lib.hid (HZ2.out.below hb3)
  have hR3 := HR2.out.below hb3
  have HY3 := Lib.hid (HY2.out.below hb3)
  have HT3 := Lib.hid (HT2.out.below hb3)
  have HB3 := Lib.hid (below_then HB2.out HB2.out.size hb3)
  have HOW3 := Lib.hid (owns_below HOW2.out hb3)
  have HOL3 := Lib.hid (owns_below HOL2.out hb3)
  have HR3 := Lib.hid hR3
  clear hb3 hR3 HCP HZ2 HR2 HY2 HT2 HB2 HOW2 HOL2 r0 r1 r2 r3 r4 r5 r6
  go_upto_region 7 with fail
  go_cut [9] (fun s9 wc => Hid (∃ r q, s9 = .pointer (some ⟨r, 0, none⟩) ∧ RBox wc r ⟨a, f, m, ph, b, t0⟩ (.slice rq vs.length rc) q ∧ XBox wc q W.heap.size ∧ (w3.heap.size ≤ r ∧ w3.heap.size ≤ q) ∧ Below w3.heap.size w3 wc))
  case first =>
    obtain ⟨r0, r1, r2, r3, r4, r5, r6⟩ := HR3.out.cells
    dsimp only at r0 r1 r2 r3 r4 r6
    have HAC := Lib.hid (fun Z => accesses_c W.heap.size Z)
    clear HR3 HY3 HT3 HB3 HOW3 HOL3 HZ3 HALL
    unfold accV at HAC
    go_region_with (first | (go_at_call 46; refine (HAC.out _).mono ?_; rintro e w5 ⟨⟨rfl, hW5⟩, hb5⟩; have s0 := below_cell hb5 r0; have s1 := below_cell hb5 r1; have s2 := below_cell hb5 r2; have s3 := below_cell hb5 r3; have s4 := below_cell hb5 r4; have s5 := below_cell hb5 r5; have s6 := below_cell hb5 r6))
    all_goals (go_wp2_with fail; go_meet)
    all_goals
      have hb6 : Below w3.heap.size w3 w5 := ((Below.refl w3.heap.size w3).drew).trans hb5
      exact Lib.hid ⟨w5.heap.size, w3.heap.size, rfl, World.alloc_heap_new w5 _, ((below1 w5 _).block _ hW5.lt).trans hW5, ⟨hb6.size, Nat.le_refl _⟩, hb6.trans ((below1 w5 _).mono hb6.size)⟩
  case rest =>
    obtain ⟨r, q, rfl, hRB, hX, ⟨hr4, hq4⟩, hbc⟩ := hcut.out
    clear hcut HR3
    have HY5 := Lib.hid (HY3.out.below hbc)
    have HT5 := Lib.hid (HT3.out.below hbc)
    have HB5 := Lib.hid (below_then HB3.out HB3.out.size hbc)
    have HS5 := Lib.hid (show RS W.heap.size q W.heap.size gw gl cw cl r (fun k => k = W.heap.size ∨ k = gw ∨ k = r) ms ((us, u), ⟨a, f, m, ph, b, t0⟩, vs) wc by
      obtain ⟨g1, g2, g3, g4, g5⟩ := HALL.out
      have hb9 := HB5.out
      refine ⟨⟨hX, HZ3.out.below hbc, owns_below HOW3.out hbc, owns_below HOL3.out hbc⟩, _, hRB, ((g3.keeps (Keeps.of_low hb9) (fun _ h => h)).weaken ?_)⟩
      have := HG.out
      have := HT3.out.lt
      rintro k (e | e | e) <;> show W.heap.size ≤ k <;> omega)
    have HRT := Lib.hid (show W.heap.size + 3 < r by have := HT3.out.lt; omega)
    have HSL := Lib.hid (show ∀ k, (k = W.heap.size ∨ k = gw ∨ k = r) → k < wc.heap.size by
      obtain ⟨hA, v9, hR9, -⟩ := HS5.out
      rintro k (rfl | rfl | rfl)
      · exact hA.box.lt
      · exact (row_lt hA.words).1
      · exact hR9.lt)
    have HM8 := Lib.hid (fun (Z : World) (hb : Below wc.heap.size wc Z) => rdoes_c r Z)
    clear HY3 HT3 HB3 HZ3 HOW3 HOL3 hRB hX hr4 hq4 hbc
    obtain ⟨w5, hw5⟩ : ∃ X : World, X = wc := ⟨_, rfl⟩
    rw [← hw5] at HY5 HT5 HB5 HS5 HSL HM8
    rw [← hw5]
    clear hw5
    go_upto_region 8 with fail
    go_cut [] (fun wc => Hid (RS W.heap.size q W.heap.size gw gl cw cl r (fun k => k = W.heap.size ∨ k = gw ∨ k = r) ms fin wc ∧ Keeps (fun k => k = W.heap.size ∨ k = gw ∨ k = r) w5 wc))
    case first =>
      have HRD := Lib.hid (fun Z => rdoes_c r Z)
      have HST := Lib.hid (fun (Z : World) (mb : Nat) (hb : Below w5.heap.size w5 Z) (hX : Z.heap[mb]? = some (rmap r)) => rstep_c W.heap.size q W.heap.size gw gl cw cl r mb (fun k => k = W.heap.size ∨ k = gw ∨ k = r) us ms u ⟨a, f, m, ph, b, t0⟩ vs Z (HS5.out.below hb) hX HALL.out.1 HALL.out.2.1 HALL.out.2.2.2.1 (fun _ h => h) (fun k h => Nat.lt_of_lt_of_le (HSL.out k h) hb.size))
      rw [← HALL.out.2.2.2.2] at HST
      clear HY5 HT5 HB5 HALL HM8
      go_region_with (first | (go_at_call 48; refine (HRD.out _).mono ?_; rintro e w6 ⟨⟨rfl, hX6⟩, hb6⟩) | (go_at_call 47; refine (HST.out w6 _ (((Below.refl w5.heap.size w5).drew).trans hb6) hX6).mono ?_; rintro e w7 ⟨rfl, hS7, hk7⟩))
      all_goals (go_wp2_with fail; go_meet)
      all_goals exact Lib.hid ⟨hS7, (Keeps.of_below (((Below.refl w5.heap.size w5).drew).trans hb6)).trans hk7⟩
    case rest =>
      obtain ⟨hS8, hk8⟩ := hcut.out
      clear hcut
      obtain ⟨w8, hw8⟩ : ∃ X : World, X = wc := ⟨_, rfl⟩
      rw [← hw8] at hS8 hk8
      rw [← hw8]
      clear hw8
      have HUP := Lib.hid (show ∀ k, (k = W.heap.size ∨ k = gw ∨ k = r) → W.heap.size ≤ k ∧ k ≠ W.heap.size + 2 ∧ k ≠ W.heap.size + 3 by
        have := HG.out
        have := HRT.out
        rintro k (e | e | e) <;> omega)
      have HB8 := Lib.hid (HB5.out.trans (hk8.below HB5.out.size (fun k e => (HUP.out k e).1)))
      have HRES := Lib.hid (HY5.out.keeps hk8 (fun e => (HUP.out _ e).2.1 rfl))
      have HRDB := Lib.hid (show RdBox w8 (W.heap.size + 3) ⟨0, 0, 0, 0, 0, 0⟩ (.slice none 0 0) from (hk8.block (W.heap.size + 3) HT5.out.lt (fun e => (HUP.out _ e).2.2 rfl)).trans HT5.out)
      have HS8 := Lib.hid hS8
      have HLEN := Lib.hid (show fin.2.2.length ≤ 1099511627776 by
        have h := stepR_right ms us u ⟨a, f, m, ph, b, t0⟩ vs HALL.out.2.2.2.1
        rw [← HALL.out.2.2.2.2] at h
        have h1 := (fits_le (rightRB_parts h).1.1 (rightRB_parts h).2.2.2).1
        have h2 := (rightRB_parts h).1.2
        omega)
      clear hS8 hk8 HY5 HT5 HB5 HS5 HSL HRT HG HALL HM8
      obtain ⟨⟨z0, z1, z2⟩, -⟩ := mbox_cells HS8.out.1.box
      obtain ⟨v, hRv, hVv⟩ := HS8.out.2
      have HTO := Lib.hid (fun (Z : World) (hb : Below w8.heap.size w8 Z) => rtold_c r q fin.2.1 v fin.2.2 (fun k => k = W.heap.size ∨ k = gw ∨ k = r) Z (hRv.below hb) (hVv.keeps (Keeps.of_below (S := fun _ => False) hb) (fun _ h => h.elim)) HLEN.out)
      clear hRv hVv
      unfold rdV at HTO
      rw [show W.heap.size + 1 + 1 + 1 = W.heap.size + 3 from rfl, show W.heap.size + 1 + 1 = W.heap.size + 2 from rfl]
      go_upto_region 9 with fail
      go_region_with (first | (go_at_call 49; refine (HTO.out w8.drew (Below.refl _ _).drew).mono ?_; rintro e w9 ⟨⟨p9, c9, rfl, ho⟩, hb9⟩; have hb8 : Below w8.heap.size w8 w9 := ((Below.refl w8.heap.size w8).drew).trans hb9; have k0 := below_cell hb8 z0; have k1 := below_cell hb8 z1; have k2 := below_cell hb8 z2; have hy9 := HRES.out.below hb8; have hr9 := HRDB.out.below hb8; obtain ⟨⟨y0, y1, y2⟩, y3, y4, y5⟩ := mbox_cells hy9; obtain ⟨x0, x1, x2, x3, x4, x5, x6⟩ := hr9.cells; have v0 := hr9.marks 0; have v1 := hr9.marks 1; have v2 := hr9.marks 2; have v3 := hr9.marks 3; have v4 := hr9.marks 4; have v5 := hr9.marks 5; have v6 := hr9.marks 6; dsimp only at x0 x1 x2 x3 x4 x6))
      all_goals
        obtain ⟨wA, hwA⟩ : ∃ X : World, X = ((w9.setCell ⟨W.heap.size + 2, 0, none⟩ (.slice (some ⟨gw, 0, none⟩) fin.1.1.length cw)).setCell ⟨W.heap.size + 2, 1, none⟩ (.slice (some ⟨gl, 0, none⟩) ms.length cl)).setCell ⟨W.heap.size + 2, 2, none⟩ (.bool fin.1.2) := ⟨_, rfl⟩
        have hA : MBox wA (W.heap.size + 2) (.slice (some ⟨gw, 0, none⟩) fin.1.1.length cw) (.slice (some ⟨gl, 0, none⟩) ms.length cl) fin.1.2 := by rw [hwA]; exact hy9.set _ _ _
        have hAK : Keeps (fun k => k = W.heap.size + 2) w9 wA := by
          rw [hwA]
          exact ((Keeps.setCell w9 (S := (· = W.heap.size + 2)) (p := ⟨W.heap.size + 2, 0, none⟩) rfl _).trans (Keeps.setCell _ (S := (· = W.heap.size + 2)) (p := ⟨W.heap.size + 2, 1, none⟩) rfl _)).trans (Keeps.setCell _ (S := (· = W.heap.size + 2)) (p := ⟨W.heap.size + 2, 2, none⟩) rfl _)
        have hr10 : RdBox wA (W.heap.size + 3) ⟨0, 0, 0, 0, 0, 0⟩ (.slice none 0 0) := (hAK.block (W.heap.size + 3) hr9.lt (by omega)).trans hr9
        have hP := hr10.put fin.2.1 (.slice p9 fin.2.2.length c9)
        have hPK := RdBox.putK wA (W.heap.size + 3) fin.2.1 (.slice p9 fin.2.2.length c9)
        rw [← hwA]
        clear k0 k1 k2 y0 y1 y2 y3 y4 y5 x0 x1 x2 x3 x4 x5 x6 v0 v1 v2 v3 v4 v5 v6 hwA
        revert hP hPK
        generalize World.setCell _ ⟨W.heap.size + 3, 6, none⟩ _ = wB
        intro hP hPK
        have hAB : MBox wB (W.heap.size + 2) (.slice (some ⟨gw, 0, none⟩) fin.1.1.length cw) (.slice (some ⟨gl, 0, none⟩) ms.length cl) fin.1.2 := hA.keeps hPK (by omega)
        have HPB := Lib.hid hP
        have HMB := Lib.hid hAB
        have HKB := Lib.hid (show Keeps (fun k => k = W.heap.size + 2 ∨ k = W.heap.size + 3) w8 wB from ((Keeps.of_below hb8).trans (hAK.sub fun k _ e => .inl e)).trans (hPK.sub fun k _ e => .inr e))
        have HO9 := Lib.hid (show wB.ownsRow w8.heap.size 27 1 (.slice p9 fin.2.2.length c9) fin.2.2.length (fin.2.2.map (Value.int .u64)) from (hPK.row (hAK.row ho (fun g hg e => by have := (ho.lt g hg).1; have h9 := HRDB.out.lt; have : w8.heap.size ≤ g := this; omega)) (fun g hg e => by have := (ho.lt g hg).1; have h9 := HRDB.out.lt; have : w8.heap.size ≤ g := this; omega)))
        clear hA hAK hr10 hP hPK hAB ho hb8 hb9 hy9 hr9 HTO z0 z1 z2
        obtain ⟨⟨y0, y1, y2⟩, -, -, -⟩ := mbox_cells HMB.out
        obtain ⟨x0, x1, x2, x3, x4, x5, x6⟩ := HPB.out.cells
        go_wp2
        try simp only [Exit.jump]
        refine bodyPost_ret (v := .tuple #[.agg #[.slice (some ⟨gw, 0, none⟩) fin.1.1.length cw, .slice (some ⟨gl, 0, none⟩) ms.length cl, .bool fin.1.2], rdV fin.2.1 (.slice p9 fin.2.2.length c9), .int .i64 0]) (by simp [results, Try.results22, go_sem, y0, y1, y2, x0, x1, x2, x3, x4, x5, x6, rdV]) rfl ⟨⟨gw, cw, gl, cl, p9, c9, rfl, ?_, ?_, ?_⟩, ?_⟩
        · exact HKB.out.row HS8.out.1.words (by intro g hg; simp only [Value.ownBlock, Option.some.injEq] at hg; subst hg; have := HUP.out gw (.inr (.inl rfl)); show ¬ (_ ∨ _); omega)
        · exact HKB.out.row HS8.out.1.lives (by intro g hg; have n1 := HRES.out.row HS8.out.1.lives (by decide) hg; have n2 := RdBox.row HRDB.out HS8.out.1.lives (by decide) hg; show ¬ (_ ∨ _); omega)
        · exact HO9.out.mono HB8.out.size
        · exact HB8.out.trans (HKB.out.below HB8.out.size (fun k e => by omega))


end Go.Proofs.Ytaljpggajpoalaa
