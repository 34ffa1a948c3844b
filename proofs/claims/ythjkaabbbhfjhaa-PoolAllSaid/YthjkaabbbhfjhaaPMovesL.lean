/-
  PoolMoves: what a pool is behind pages that are taken, and given, as the document says.
  Conditions: the ranges of Go's types.
-/
import Derived.Test.YthjkaabbbhfjhaaPWordsL
import Derived.Test.YthjkaabbbhfjhaaPRefB
import Derived.Test.YthjkaabbbhfjhaaPRefC
import Derived.Deep.RegionWith
namespace Go.Proofs.Ythjkaabbbhfjhaa
open Go.RowKit Go.Shelf
attribute [local go_sem] Oper.semAt_some

/-- What stays as it is: the pool that came in, the pool gone through, and its row. -/
def MB (W : World) (zp B2 : Nat) (b pg : Int) (v0 : Value) (p : Option Addr) (c : Nat) (us : List Int) (w : World) : Prop :=
  PBox w W.heap.size b pg v0 ∧ PBox w zp b pg (.slice p us.length c) ∧ w.ownsRow (W.heap.size + 1) 3 1 (.slice p us.length c) us.length (us.map (Value.int .i64)) ∧ (∀ g, (Value.slice p us.length c).ownBlock = some g → g < B2) ∧ (zp < B2 ∧ W.heap.size < B2 ∧ B2 ≤ w.heap.size) ∧ Below W.heap.size W w
theorem MB.keeps {W w w' : World} {zp B2 : Nat} {b pg : Int} {v0 : Value} {p : Option Addr} {c : Nat} {us : List Int} {S : Nat → Prop} (h : MB W zp B2 b pg v0 p c us w) (hk : Keeps S w w') (hS : ∀ k, S k → B2 ≤ k) : MB W zp B2 b pg v0 p c us w' := by
  obtain ⟨h1, h2, h3, h4, ⟨h5, h6, h7⟩, h8⟩ := h
  exact ⟨h1.keeps hk (fun e => by have := hS _ e; omega), h2.keeps hk (fun e => by have := hS _ e; omega), hk.row h3 (fun g hg e => by have := hS _ e; have := h4 g hg; omega), h4, ⟨h5, h6, Nat.le_trans h7 hk.size⟩, h8.trans (hk.below h8.size (fun k e => by have := hS _ e; omega))⟩
theorem MB.below {W w w' : World} {zp B2 : Nat} {b pg : Int} {v0 : Value} {p : Option Addr} {c : Nat} {us : List Int} (h : MB W zp B2 b pg v0 p c us w) (hb : Below w.heap.size w w') : MB W zp B2 b pg v0 p c us w' := h.keeps (Keeps.of_below (S := fun _ => False) hb) (fun _ e => e.elim)
/-- A variable that holds a pool whose row lies at B2 or behind. -/
def TV (w : World) (z B2 : Nat) (b pg : Int) (q : Option Addr) (n c : Nat) (xs : List Int) : Prop := PBox w z b pg (.slice q n c) ∧ RowS w B2 q n c xs ∧ B2 ≤ z
theorem TV.below {w w' : World} {z B2 : Nat} {b pg : Int} {q : Option Addr} {n c : Nat} {xs : List Int} (h : TV w z B2 b pg q n c xs) (hb : Below w.heap.size w w') : TV w' z B2 b pg q n c xs := ⟨h.1.below hb, h.2.1.below hb, h.2.2⟩
theorem rowS_nil (w : World) (B : Nat) : RowS w B none 0 0 [] := ⟨rfl, .inl ⟨rfl, rfl, rfl⟩⟩
theorem TV.new {w : World} {B2 : Nat} {q : Option Addr} {n c : Nat} {xs : List Int} (b pg : Int) (h : RowS w B2 q n c xs) (hB : B2 ≤ w.heap.size) : TV (w.alloc (.cells #[.int .i64 b, .int .i64 pg, .slice q n c] 24)) w.heap.size B2 b pg q n c xs := ⟨PBox.new _ _ _ _, h.below (below1 _ _), hB⟩
theorem RowS.box_ne {W : World} {B : Nat} {q : Option Addr} {n c : Nat} {xs : List Int} (h : RowS W B q n c xs) {z : Nat} {b p : Int} {v : Value} (hp : PBox W z b p v) : ∀ g, q = some ⟨g, 0, none⟩ → ¬ g = z := fun g e hz => by
  rcases h.2 with ⟨h0, _⟩ | ⟨g', cur, e', _, hc, _⟩
  · rw [e] at h0; cases h0
  · rw [e] at e'
    injection e' with e'
    injection e' with e1
    subst e1 hz
    have h' : W.heap[g]? = _ := hp
    rw [hc] at h'
    simp at h'
theorem TV.keeps {w w' : World} {z B2 : Nat} {b pg : Int} {q : Option Addr} {n c : Nat} {xs : List Int} (h : TV w z B2 b pg q n c xs) {zw : Nat} (hk : Keeps (fun k => k = zw) w w') {b' p' : Int} {v' : Value} (hp : PBox w zw b' p' v') (hz : z < zw) : TV w' z B2 b pg q n c xs := ⟨h.1.keeps hk (by omega), h.2.1.keeps hk (h.2.1.box_ne hp), h.2.2⟩
theorem owns_head {w : World} {B : Nat} {E : TypeId} {n c : Nat} {p : Option Addr} {xs : List Value} (h : w.ownsRow B E 1 (.slice p (n + 1) c) (n + 1) xs) : ∃ g, p = some ⟨g, 0, none⟩ := by
  rcases h.2 with ⟨_, h0⟩ | ⟨g, cap, cur, e, _⟩
  · cases h0
  · injection e with e1; exact ⟨g, e1⟩
/-- What Take told, of the pool p. -/
def TK (rb : Bool) (b pg : Int) (us : List Int) (bt pt : Int) (ts : List Int) (n e : Int) : Prop :=
  (rb = false ∧ bt = 0 ∧ pt = 0 ∧ ts = [] ∧ n = 0 ∧ e = 170) ∨ (rb = true ∧ us = [] ∧ bt = 0 ∧ pt = 0 ∧ ts = [] ∧ n = 0 ∧ e = 6) ∨ (rb = true ∧ bt = b ∧ pt = pg ∧ us = ts ++ [n] ∧ e = 0)
def GK (rb : Bool) (b pg : Int) (us ps : List Int) (bg pgg : Int) (gs : List Int) (e : Int) : Prop :=
  (rb = false ∧ bg = 0 ∧ pgg = 0 ∧ gs = [] ∧ e = 170) ∨ (rb = true ∧ e = (giveR pg us ps).1 ∧ e ≠ 0 ∧ bg = 0 ∧ pgg = 0 ∧ gs = []) ∨ (rb = true ∧ (giveR pg us ps).1 = 0 ∧ e = 0 ∧ bg = b ∧ pgg = pg ∧ gs = (giveR pg us ps).2)
theorem TK.len {rb : Bool} {b pg bt pt n e : Int} {us ts : List Int} (h : TK rb b pg us bt pt ts n e) (hu : us.length ≤ 70) : ts.length ≤ 70 := by
  rcases h with ⟨_, _, _, h, _⟩ | ⟨_, _, _, _, h, _⟩ | ⟨_, _, _, h, _⟩
  · rw [h]; simp
  · rw [h]; simp
  · rw [h] at hu; simp at hu; omega
theorem giveR_len (pg : Int) : ∀ (ps fs : List Int), (giveR pg fs ps).2.length ≤ fs.length + ps.length
  | [], fs => Nat.le_refl _
  | x :: t, fs => by
    unfold giveR
    split
    · exact Nat.zero_le _
    · split
      · exact Nat.zero_le _
      · have h := giveR_len pg t (fs ++ [x])
        simp only [List.length_append, List.length_cons, List.length_nil] at h ⊢
        omega
theorem GK.len {rb : Bool} {b pg bg pgg e : Int} {us ps gs : List Int} (h : GK rb b pg us ps bg pgg gs e) (hu : us.length ≤ 70) (hp : ps.length ≤ 20) : gs.length ≤ 4611686018427387904 := by
  rcases h with ⟨_, _, _, h, _⟩ | ⟨_, _, _, _, _, h⟩ | ⟨_, _, _, _, _, h⟩
  · rw [h]; simp
  · rw [h]; simp
  · have := giveR_len pg ps us
    rw [h]; omega
theorem sameB_self (b pg : Int) (l : List Int) : sameB b b pg pg l l = true := by unfold sameB; simp
/-- A row of numbers, whatever they are. -/
def RowX (w : World) (B : Nat) (q : Option Addr) (n c : Nat) : Prop := ∃ xs, RowS w B q n c xs
theorem rowX_set {w : World} {B : Nat} {q : Option Addr} {n c : Nat} (h : RowX w B q n c) (g i : Nat) (x : Int) : RowX (w.setCell ⟨g, i, none⟩ (.int .i64 x)) B q n c := by
  obtain ⟨xs, h1, h2⟩ := h
  rcases h2 with h2 | ⟨g', cur, e, hB, hc, hnc, hnl, ht⟩
  · exact ⟨xs, h1, .inl h2⟩
  · by_cases hg : g' = g
    · subst hg
      refine ⟨xs.set i x, by rw [List.length_set]; exact h1, .inr ⟨g', cur.setIfInBounds i (.int .i64 x), e, hB, heap_setCell_same w g' i _ _ _ hc, hnc, by simpa using hnl, ?_⟩⟩
      rw [Array.toList_setIfInBounds, List.take_set, ht, List.map_set]
    · exact ⟨xs, h1, .inr ⟨g', cur, e, hB, ((Keeps.setCell w (S := (· = g)) (p := ⟨g, i, none⟩) rfl (.int .i64 x)).block g' (Array.getElem?_eq_some_iff.1 hc).1 hg).trans hc, hnc, hnl, ht⟩⟩
theorem PBox.int_ne {w : World} {z g : Nat} {b p : Int} {v : Value} {cur : Array Value} (h : PBox w z b p v) (hg : w.heap[g]? = some (.cells cur 3 (0, 0))) : z ≠ g := fun e => by
  subst e
  have h' : w.heap[z]? = _ := h
  rw [hg] at h'
  simp at h'
/-- Behind the comparisons. -/
def MX (W : World) (zp B2 zt zg : Nat) (b pg : Int) (v0 : Value) (p : Option Addr) (c : Nat) (us : List Int) (bt pt : Int) (tq : Option Addr) (nt ct : Nat) (bg pgg : Int) (gq : Option Addr) (ng cg : Nat) (w : World) : Prop :=
  MB W zp B2 b pg v0 p c us w ∧ PBox w zt bt pt (.slice tq nt ct) ∧ RowX w B2 tq nt ct ∧ PBox w zg bg pgg (.slice gq ng cg) ∧ RowX w B2 gq ng cg
theorem MX.set {W : World} {zp B2 zt zg : Nat} {b pg : Int} {v0 : Value} {p : Option Addr} {c : Nat} {us : List Int} {bt pt : Int} {tq : Option Addr} {nt ct : Nat} {bg pgg : Int} {gq : Option Addr} {ng cg : Nat} {w : World} (h : MX W zp B2 zt zg b pg v0 p c us bt pt tq nt ct bg pgg gq ng cg w) {g : Nat} {cur : Array Value} (hg : w.heap[g]? = some (.cells cur 3 (0, 0))) (hB : B2 ≤ g) (i : Nat) (x : Int) :
    MX W zp B2 zt zg b pg v0 p c us bt pt tq nt ct bg pgg gq ng cg (w.setCell ⟨g, i, none⟩ (.int .i64 x)) := by
  have hk := Keeps.setCell w (S := (· = g)) (p := ⟨g, i, none⟩) rfl (.int .i64 x)
  exact ⟨h.1.keeps hk (fun k e => by omega), h.2.1.keeps hk (h.2.1.int_ne hg), rowX_set h.2.2.1 g i x, h.2.2.2.1.keeps hk (h.2.2.2.1.int_ne hg), rowX_set h.2.2.2.2 g i x⟩
theorem rowX_cell {w : World} {B : Nat} {q : Option Addr} {n c : Nat} (h : RowX w B q n c) (i : Nat) (hi : i < n) : ∃ g cur x, q = some ⟨g, 0, none⟩ ∧ B ≤ g ∧ w.heap[g]? = some (.cells cur 3 (0, 0)) ∧ w.cell? ⟨g, i, none⟩ = some (.int .i64 x) ∧ w.frozen? ⟨g, i, none⟩ = false := by
  obtain ⟨xs, hR⟩ := h
  have hN := hR.nums
  obtain ⟨h1, h2⟩ := hR
  rcases h2 with ⟨_, h0, _⟩ | ⟨g, cur, e, hB, hc, hnc, hnl, ht⟩
  · omega
  · subst e h1
    obtain ⟨q, cap, e, hcs⟩ := hN
    injection e with e _ _
    obtain ⟨b, off, e2, hcs⟩ := hcs (by intro e; rw [e] at hi; cases hi)
    rw [← e] at e2
    injection e2 with e2
    injection e2 with e3 e4 _
    subst e3 e4
    have h5 := hcs i hi
    rw [Nat.zero_add] at h5
    exact ⟨g, cur, xs[i], rfl, hB, hc, h5, by simp [World.frozen?, hc]⟩

theorem argr_of_owns {W : World} {B n c : Nat} {p : Option Addr} {xs : List Int} (h : W.ownsRow B 3 1 (.slice p n c) n (xs.map (Value.int .i64))) : ArgR W (.slice p n c) (xs.map (Value.int .i64)) := by
  have hl := h.1
  refine ⟨p, n, c, rfl, by omega, ?_⟩
  rcases id h.2 with ⟨e, h0⟩ | ⟨g, cap, cur, e, _, _, h3, _⟩
  · injection e with e1 e2 e3; exact .inl ⟨e1, h0, e3⟩
  · injection e with e1 e2 e3
    subst e1 e3
    refine .inr ⟨⟨g, 0, none⟩, rfl, h3, fun j u hj => ?_⟩
    obtain ⟨hj1, _⟩ := List.getElem?_eq_some_iff.1 hj
    rw [addr_add_off, Nat.zero_add, h.cellAt j (by omega)]
    exact hj

set_option maxRecDepth 100000 in
set_option maxHeartbeats 8000000 in
theorem moves_law (b pg : Int) (v : Value) (xs : List Int) (nv : Value) (ns : List Int) (W : World) (h0 : ArgR W v (xs.map (Value.int .i64))) (hw : xs.length ≤ 9223372036854775807) (hn : ArgR W nv (ns.map (Value.int .i64))) (hnl : ns.length ≤ 9223372036854775807) :
    Calls Try.prog 3 #[.agg #[.int .i64 b, .int .i64 pg, v], nv] W fun e w' => e = .returned (.bool true) ∧ Below W.heap.size W w' := by
  have HXA := Lib.hid h0
  obtain ⟨np, nc, rfl, hnums, hncap, hnnil⟩ := nums_of_argr hn
  obtain ⟨k0, hk0⟩ : ∃ k, k = min ns.length 20 := ⟨_, rfl⟩
  have HPS := Lib.hid (show NumsAt W .i64 (.slice np k0 nc) (ns.take 20) ∧ (ns.take 20).length = k0 ∧ k0 ≤ 20 by
    refine ⟨?_, by rw [List.length_take]; omega, by omega⟩
    have h := nums_take hnums k0 (by omega)
    rw [show ns.take k0 = ns.take 20 by rw [hk0]; rcases Nat.le_total ns.length 20 with h | h; rw [Nat.min_eq_left h, List.take_of_length_le (Nat.le_refl _), List.take_of_length_le h]; rw [Nat.min_eq_right h]] at h
    exact h)
  have hs0 : ∀ wx, (Instr.slice 22 (.slice np ns.length nc) none (some (.int .i64 (k0 : Int))) none).run Try.prog wx = .ok (.slice np k0 nc) wx := run_cut70 np ns.length nc k0 (by omega)
  have hm0 : ∀ wx, (Builtin.min_ #[3, 3] 3 #[.int .i64 (ns.length : Int), .int .i64 20]).run Try.prog wx = .ok (.int .i64 (k0 : Int)) wx := fun wx => by
    have : (if (20 : Int) < (ns.length : Int) then (20 : Int) else ns.length) = (k0 : Int) := by rw [hk0]; split <;> omega
    simp [Builtin.min_, Builtin.min2, this]
  have HS0 := Lib.hid (And.intro hs0 hm0)
  obtain ⟨ps, hps⟩ : ∃ ps, ps = ns.take 20 := ⟨_, rfl⟩
  rw [← hps] at HPS
  clear hn hnums hncap hnnil hk0 hs0 hm0 hps
  obtain ⟨us, hus⟩ : ∃ us, us = xs.take 70 := ⟨_, rfl⟩
  have HLU := Lib.hid (show us.length ≤ 70 by rw [hus, List.length_take]; omega)
  have HOW := Lib.hid (fun (Z : World) (hb : Below W.heap.size W Z) => hus ▸ own7_c b pg v xs Z (h0.below hb) hw)
  obtain ⟨p0, n0, c0, rfl, -, -⟩ := h0
  obtain ⟨w0, hw0⟩ : ∃ X : World, X = W.alloc (.cells #[.int .i64 b, .int .i64 pg, .slice p0 n0 c0] 24) := ⟨_, rfl⟩
  have HP0 := Lib.hid (show PBox w0 W.heap.size b pg (.slice p0 n0 c0) by rw [hw0]; exact PBox.new _ _ _ _)
  have HB0 := Lib.hid (show Below W.heap.size W w0 by rw [hw0]; exact below1 _ _)
  have HW0 := Lib.hid hw0
  clear hw0 hus hw
  have HOW := HOW
  go_enter Try.func3, Try.ntmps3
  go_wp2_with fail
  rw [← HW0.out]
  clear HW0
  refine (wakes7 w0).mono ?_
  rintro e w1 ⟨rfl, hb1⟩
  have HB1 := Lib.hid (below_then HB0.out HB0.out.size hb1)
  have HP1 := Lib.hid (HP0.out.below hb1)
  obtain ⟨d0, d1, d2⟩ := HP1.out.cells
  clear hb1 HP0 HB0
  go_wp2_with fail
  refine (HOW.out w1 HB1.out).mono ?_
  rintro e w2 ⟨⟨p, c, rfl, ho⟩, hb2⟩
  have hv2 := PV.of_owns (b := b) (pg := pg) ho rfl
  obtain ⟨w3, hw3⟩ : ∃ X : World, X = w2.alloc (.cells #[.int .i64 b, .int .i64 pg, .slice p us.length c] 24) := ⟨_, rfl⟩
  have hb3 : Below w2.heap.size w2 w3 := by rw [hw3]; exact below1 _ _
  have HV3 := Lib.hid (show PV w3 w2.heap.size b pg p us.length c us by rw [hw3]; exact hv2)
  have HB3 := Lib.hid (below_then (below_then HB1.out HB1.out.size hb2) (below_then HB1.out HB1.out.size hb2).size hb3)
  have HW3 := Lib.hid hw3
  have hm64 : us.length ≤ 4611686018427387904 := by have := HLU.out; omega
  have HRI := Lib.hid (rright_c b pg p c us w3 hm64 HV3.out.2.1 HV3.out.2.2.2.2)
  have d3 := HV3.out.1.cells
  rw [hw3] at d3
  obtain ⟨d30, d31, d32⟩ := d3
  have hP3 : PBox w3 W.heap.size b pg (.slice p0 n0 c0) := (HP1.out.below hb2).below hb3
  have ho3 : w3.ownsRow (W.heap.size + 1) 3 1 (.slice p us.length c) us.length (us.map (Value.int .i64)) := owns_below (ho.mono (by have := HP1.out.lt; omega)) hb3
  have hg3 : ∀ g, (Value.slice p us.length c).ownBlock = some g → g < w3.heap.size := fun g hg => Nat.lt_of_lt_of_le (ho.lt g hg).2 hb3.size
  have HMB3 := Lib.hid (show MB W w2.heap.size w3.heap.size b pg (.slice p0 n0 c0) p c us w3 from ⟨hP3, HV3.out.1, ho3, hg3, ⟨HV3.out.1.lt, hP3.lt, Nat.le_refl _⟩, HB3.out⟩)
  clear hw3 hb2 hb3 ho hv2 d0 d1 d2 HP1 HB1 hP3 ho3 hg3 HB3
  go_wp2_with fail
  rw [← HW3.out]
  clear HW3 d30 d31 d32
  refine HRI.out.mono ?_
  rintro e w4 ⟨rfl, hw4⟩
  have hb4 : Below w3.heap.size w3 w4 := by rw [hw4]; exact below1 _ _
  obtain ⟨zp, hz⟩ : ∃ z, z = w2.heap.size := ⟨_, rfl⟩
  obtain ⟨B2, hB2⟩ : ∃ z, z = w3.heap.size := ⟨_, rfl⟩
  rw [← hz] at HV3 HMB3 ⊢
  rw [← hB2] at HMB3
  have HV4 := Lib.hid (HV3.out.below hb4)
  have HMB4 := Lib.hid (HMB3.out.below hb4)
  obtain ⟨rb, hrb⟩ : ∃ r, r = rightP b pg us := ⟨_, rfl⟩
  rw [← hrb]
  have HRB := Lib.hid hrb
  clear hz hw4 hb4 HRI hrb hB2 HV3 HMB3
  go_upto_region 5 with fail
  go_cut [7, 8, 9] (fun s7 s8 s9 wd => ∃ zt bt pt q nt ct ts n e, (s7 = .pointer (some ⟨zt, 0, none⟩) ∧ s8 = .int .i64 n ∧ s9 = .int .i64 e) ∧ Hid (TK rb b pg us bt pt ts n e ∧ TV wd zt B2 bt pt q nt ct ts ∧ MB W zp B2 b pg (.slice p0 n0 c0) p c us wd))
  case first =>
    obtain ⟨d0, d1, d2⟩ := HV4.out.1.cells
    have hB4 : B2 ≤ w4.heap.size := HMB4.out.2.2.2.2.1.2.2
    cases rb with
    | false =>
      have HT := Lib.hid (take_no b pg p c us w4 hm64 HV4.out.2.1 HRB.out.symm)
      unfold zeroP at HT
      go_wp2_with fail
      refine HT.out.mono ?_
      rintro e w5 ⟨rfl, hb5⟩
      have HX := Lib.hid (And.intro (TV.new 0 0 (rowS_nil w5 B2) (Nat.le_trans hB4 hb5.size)) ((HMB4.out.below hb5).below (below1 w5 (.cells #[.int .i64 0, .int .i64 0, .slice none 0 0] 24))))
      clear hb5 d0 d1 d2 HT
      go_wp2_with fail
      go_meet
      exact ⟨_, 0, 0, none, 0, 0, [], 0, 170, ⟨rfl, rfl, rfl⟩, Lib.hid ⟨.inl ⟨rfl, rfl, rfl, rfl, rfl, rfl⟩, HX.out.1, HX.out.2⟩⟩
    | true =>
      have HT := Lib.hid (take_yes b pg p c us w4 hm64 HV4.out.2.1 HV4.out.2.2.1 HRB.out.symm)
      unfold zeroP at HT
      go_wp2_with fail
      refine HT.out.mono ?_
      rintro e w5 ⟨⟨hE, rfl⟩ | ⟨gs, x, q, hE, rfl, hR⟩, hb5⟩
      · have HX := Lib.hid (And.intro (TV.new 0 0 (rowS_nil w5 B2) (Nat.le_trans hB4 hb5.size)) ((HMB4.out.below hb5).below (below1 w5 (.cells #[.int .i64 0, .int .i64 0, .slice none 0 0] 24))))
        have HE := Lib.hid hE
        clear hb5 d0 d1 d2 HT hE
        go_wp2_with fail
        go_meet
        exact ⟨_, 0, 0, none, 0, 0, [], 0, 6, ⟨rfl, rfl, rfl⟩, Lib.hid ⟨.inr (.inl ⟨rfl, HE.out, rfl, rfl, rfl, rfl, rfl⟩), HX.out.1, HX.out.2⟩⟩
      · have HX := Lib.hid (And.intro (TV.new b pg (hR.mono hB4) (Nat.le_trans hB4 hb5.size)) ((HMB4.out.below hb5).below (below1 w5 (.cells #[.int .i64 b, .int .i64 pg, .slice q gs.length gs.length] 24))))
        have HE := Lib.hid hE
        clear hb5 d0 d1 d2 HT hE hR
        go_wp2_with fail
        go_meet
        exact ⟨_, b, pg, q, gs.length, gs.length, gs, x, 0, ⟨rfl, rfl, rfl⟩, Lib.hid ⟨.inr (.inr ⟨rfl, rfl, rfl, HE.out, rfl⟩), HX.out.1, HX.out.2⟩⟩
  case rest =>
    obtain ⟨zt, bt, pt, q, nt, ct, ts, n, er, ⟨rfl, rfl, rfl⟩, HT⟩ := hcut
    clear HMB4 HV4
    obtain ⟨w5, hw5⟩ : ∃ X : World, X = wc := ⟨_, rfl⟩
    rw [← hw5] at HT
    rw [← hw5]
    clear hw5
    obtain ⟨w6, hw6⟩ : ∃ X : World, X = w5.alloc (.cells #[.int .i64 0, .int .i64 0, .slice none 0 0] 24) := ⟨_, rfl⟩
    have hb6 : Below w5.heap.size w5 w6 := by rw [hw6]; exact below1 _ _
    have HT6 := Lib.hid (show TK rb b pg us bt pt ts n er ∧ TV w6 zt B2 bt pt q nt ct ts ∧ MB W zp B2 b pg (.slice p0 n0 c0) p c us w6 ∧ PBox w6 w5.heap.size 0 0 (.slice none 0 0) ∧ B2 ≤ w5.heap.size ∧ zt < w5.heap.size from ⟨HT.out.1, HT.out.2.1.below hb6, HT.out.2.2.below hb6, by rw [hw6]; exact PBox.new _ _ _ _, HT.out.2.2.2.2.2.2.1.2.2, HT.out.2.1.1.lt⟩)
    have HW6 := Lib.hid hw6
    clear hw6 hb6 HT
    obtain ⟨zw, hzw⟩ : ∃ z, z = w5.heap.size := ⟨_, rfl⟩
    rw [← hzw] at HT6
    have HZW := Lib.hid hzw
    clear hzw
    go_upto_if 32 with fail
    rw [← HW6.out, ← HZW.out]
    clear HW6 HZW
    go_cut [11, 12] (fun s11 s12 wd => ∃ q2 c2, (s11 = .int .i64 n ∧ s12 = .int .i64 er) ∧ Hid (TK rb b pg us bt pt ts n er ∧ TV wd zt B2 bt pt q nt ct ts ∧ MB W zp B2 b pg (.slice p0 n0 c0) p c us wd ∧ PBox wd zw bt pt (.slice q2 ts.length c2) ∧ NumsAt wd .i64 (.slice q2 ts.length c2) ts))
    case first =>
      rcases HT6.out.1 with ⟨rfl, rfl, rfl, rfl, rfl, rfl⟩ | ⟨rfl, hus, rfl, rfl, rfl, rfl, rfl⟩ | ⟨rfl, rfl, rfl, hus, rfl⟩
      · go_wp2_with fail
        go_meet
        exact ⟨none, 0, ⟨rfl, rfl⟩, Lib.hid ⟨HT6.out.1, HT6.out.2.1, HT6.out.2.2.1, HT6.out.2.2.2.1, (rowS_nil w6 0).nums⟩⟩
      · obtain ⟨d0, d1, d2⟩ := HT6.out.2.2.1.2.1.cells
        have hz : us.length = 0 := by rw [hus]; rfl
        rw [hz] at d2
        clear hus hz
        go_wp2_with fail
        go_meet
        exact ⟨none, 0, ⟨rfl, rfl⟩, Lib.hid ⟨HT6.out.1, HT6.out.2.1, HT6.out.2.2.1, HT6.out.2.2.2.1, (rowS_nil w6 0).nums⟩⟩
      · have hl : us.length = ts.length + 1 := by rw [hus]; simp
        have hu70 : us.take 70 = us := List.take_of_length_le HLU.out
        obtain ⟨m, hm⟩ : ∃ m, m = ts.length := ⟨_, rfl⟩
        have hget : us[m]? = some n := by rw [hus, hm]; simp
        have htake : us.take m = ts := by rw [hus, hm]; simp
        have hlu := HLU.out
        rw [hl, ← hm] at hlu
        obtain ⟨hP6, hp6, ho6, hg6, ⟨hz6, hz7, hz8⟩, hB6⟩ := id HT6.out.2.2.1
        have HOW6 := Lib.hid (own7_c bt pt (.slice p us.length c) us w6 (argr_of_owns ho6) (by omega))
        rw [hu70, hl, ← hm] at HOW6
        obtain ⟨d0, d1, d2⟩ := hp6.cells
        rw [hl, ← hm] at d2
        have HF := Lib.hid (And.intro (And.intro hl hm) (And.intro hget htake))
        clear hl hu70 hm hget htake hus hP6 hp6 ho6 hg6 hz6 hz7 hz8 hB6
        go_wp2_with fail
        refine HOW6.out.mono ?_
        rintro e w7 ⟨⟨p2, c2, rfl, ho7⟩, hb7⟩
        have hM7 := HT6.out.2.2.1.below hb7
        have hT7 := HT6.out.2.1.below hb7
        have hW7 := HT6.out.2.2.2.1.below hb7
        have hzl : zw < w6.heap.size := HT6.out.2.2.2.1.lt
        have hBz : B2 ≤ zw := HT6.out.2.2.2.2.1
        have hzt : zt < zw := HT6.out.2.2.2.2.2
        have hzp : zp < zw := Nat.lt_of_lt_of_le hM7.2.2.2.2.1.1 hBz
        obtain ⟨f0, f1, f2⟩ := hW7.cells
        have l0 := hW7.marks 0
        have l1 := hW7.marks 1
        have l2 := hW7.marks 2
        obtain ⟨w8, hw8⟩ : ∃ X : World, X = (((w7.setCell ⟨zw, 0, none⟩ (.int .i64 bt)).setCell ⟨zw, 1, none⟩ (.int .i64 pt)).setCell ⟨zw, 2, none⟩ (.slice p2 (m + 1) c2)) := ⟨_, rfl⟩
        have hk8 : Keeps (fun k => k = zw) w7 w8 := by rw [hw8]; exact PBox.putK w7 zw bt pt _
        have hW8 : PBox w8 zw bt pt (.slice p2 (m + 1) c2) := by rw [hw8]; exact hW7.put bt pt _
        have hM8 := hM7.keeps hk8 (fun k e => by omega)
        have hT8 : TV w8 zt B2 bt pt q nt ct ts := ⟨hT7.1.keeps hk8 (by omega), hT7.2.1.keeps hk8 (hT7.2.1.box_ne hW7), hT7.2.2⟩
        have hO8 := hk8.row ho7 (fun g hg e => by have := (ho7.lt g hg).1; omega)
        have hcap := owns_cap ho7
        have hcap1 : (m : Int) ≤ (c2 : Int) := by omega
        have h8 := hM8.2.2.1
        rw [HF.out.1.1, ← HF.out.1.2] at h8
        obtain ⟨g8, hg8⟩ := owns_head h8
        have hc8 : w8.cell? ⟨g8, m, none⟩ = some (.int .i64 n) := by
          subst hg8
          rw [h8.cellAt m (by omega), List.getElem?_map, HF.out.2.1]
          rfl
        have hp8 := hM8.2.1
        rw [HF.out.1.1, ← HF.out.1.2, hg8] at hp8
        have HALL := Lib.hid (And.intro hW8 (And.intro hM8 (And.intro hT8 (And.intro hO8 hp8))))
        have HW8 := Lib.hid hw8
        have HC8 := Lib.hid hc8
        have HN8 := Lib.hid (And.intro (And.intro hzl hBz) (And.intro hzt hzp))
        clear hw8 hk8 hW8 hM8 hT8 hO8 hM7 hT7 hW7 ho7 hb7 h8 hp8 hzl hBz hzt hzp hc8 d0 d1 d2 hcap hg8
        go_upto_region 11 with fail
        rw [← HW8.out]
        clear f0 f1 f2 l0 l1 l2 HW8 HOW6
        obtain ⟨d0, d1, d2⟩ := HALL.out.2.2.2.2.cells
        obtain ⟨f0, f1, f2⟩ := HALL.out.1.cells
        have l2 := HALL.out.1.marks 2
        have hc8 := HC8.out
        have hm0 : (0 : Int) ≤ (m : Int) := by omega
        obtain ⟨w9, hw9⟩ : ∃ X : World, X = w8.setCell ⟨zw, 2, none⟩ (.slice p2 m c2) := ⟨_, rfl⟩
        have hk9 : Keeps (fun k => k = zw) w8 w9 := by rw [hw9]; exact Keeps.setCell w8 (S := (· = zw)) (p := ⟨zw, 2, none⟩) rfl _
        have hW9 : PBox w9 zw bt pt (.slice p2 m c2) := by rw [hw9]; unfold PBox; rw [heap_setCell_same w8 zw 2 _ _ _ HALL.out.1]; rfl
        have hM9 := HALL.out.2.1.keeps hk9 (fun k e => by have := HN8.out.1.2; omega)
        have hT9 : TV w9 zt B2 bt pt q nt ct ts := ⟨HALL.out.2.2.1.1.keeps hk9 (by have := HN8.out.2.1; omega), HALL.out.2.2.1.2.1.keeps hk9 (HALL.out.2.2.1.2.1.box_ne HALL.out.1), HALL.out.2.2.1.2.2⟩
        have hN9 : NumsAt w9 .i64 (.slice p2 m c2) ts := by
          have h := nums_of_owns (by rw [HF.out.1.1, ← HF.out.1.2]) (hk9.row HALL.out.2.2.2.1 (fun g hg e => by have := (HALL.out.2.2.2.1.lt g hg).1; have := HN8.out.1.1; omega))
          have h := nums_take h m (by rw [HF.out.1.1]; have := HF.out.1.2; omega)
          rw [HF.out.2.2] at h
          exact h
        have HFIN := Lib.hid (And.intro hT9 (And.intro hM9 (And.intro hW9 hN9)))
        have HW9 := Lib.hid hw9
        clear hw9 hk9 hW9 hM9 hT9 hN9
        go_wp2_with fail
        rw [← HW9.out]
        go_meet
        refine ⟨p2, c2, ⟨rfl, rfl⟩, Lib.hid ⟨HT6.out.1, HFIN.out.1, HFIN.out.2.1, ?_, ?_⟩⟩
        · rw [← HF.out.1.2]; exact HFIN.out.2.2.1
        · rw [← HF.out.1.2]; exact HFIN.out.2.2.2
    case rest =>
      obtain ⟨q2, c2, ⟨rfl, rfl⟩, HC⟩ := hcut
      clear HT6
      obtain ⟨w7, hw7⟩ : ∃ X : World, X = wc := ⟨_, rfl⟩
      rw [← hw7] at HC
      rw [← hw7]
      clear hw7
      have hk0 := HPS.out.2.1
      subst hk0
      have HSM := Lib.hid (rsame_c bt bt pt pt (.slice q nt ct) (.slice q2 ts.length c2) ts ts w7 HC.out.2.1.2.1.nums HC.out.2.2.2.2 (by have := HC.out.1.len HLU.out; omega))
      rw [sameB_self] at HSM
      obtain ⟨d0, d1, d2⟩ := HC.out.2.1.1.cells
      obtain ⟨f0, f1, f2⟩ := HC.out.2.2.2.1.cells
      have hs0 := HS0.out.1
      have hm0 := HS0.out.2
      go_wp2_with fail
      refine HSM.out.mono ?_
      rintro e w8 ⟨rfl, hb8⟩
      have HT8 := Lib.hid (And.intro (HC.out.2.1.below hb8) (HC.out.2.2.1.below hb8))
      have HTK := Lib.hid HC.out.1
      clear hb8 HSM HC d0 d1 d2 f0 f1 f2
      go_upto_region 16 with fail
      clear hs0 hm0 HS0
      go_cut [13, 14] (fun s13 s14 wd => ∃ zg bg pgg gq ng cg gs f, (s13 = .pointer (some ⟨zg, 0, none⟩) ∧ s14 = .int .i64 f) ∧ Hid (GK rb b pg us ps bg pgg gs f ∧ TV wd zg B2 bg pgg gq ng cg gs ∧ TV wd zt B2 bt pt q nt ct ts ∧ MB W zp B2 b pg (.slice p0 n0 c0) p c us wd))
      case first =>
        obtain ⟨d0, d1, d2⟩ := HT8.out.2.2.1.cells
        have hB8 : B2 ≤ w8.heap.size := HT8.out.2.2.2.2.2.1.2.2
        have ho8 := HT8.out.2.2.2.1
        have hn8 := nums_of_owns (by rfl) ho8
        have hp8 := nums_below HPS.out.1 HT8.out.2.2.2.2.2.2
        cases rb with
        | false =>
          have HG := Lib.hid (give_no b pg p c us np ps.length nc w8 (by have := HLU.out; omega) hn8 HRB.out.symm)
          unfold zeroP at HG
          clear ho8 hn8 hp8
          go_wp2_with fail
          refine HG.out.mono ?_
          rintro e w9 ⟨rfl, hb9⟩
          have HX := Lib.hid (And.intro (TV.new 0 0 (rowS_nil w9 B2) (Nat.le_trans hB8 hb9.size)) (And.intro ((HT8.out.1.below hb9).below (below1 w9 (.cells #[.int .i64 0, .int .i64 0, .slice none 0 0] 24))) ((HT8.out.2.below hb9).below (below1 w9 (.cells #[.int .i64 0, .int .i64 0, .slice none 0 0] 24)))))
          clear hb9 d0 d1 d2 HG
          go_wp2_with fail
          go_meet
          exact ⟨_, 0, 0, none, 0, 0, [], 170, ⟨rfl, rfl⟩, Lib.hid ⟨.inl ⟨rfl, rfl, rfl, rfl, rfl⟩, HX.out.1, HX.out.2.1, HX.out.2.2⟩⟩
        | true =>
          have HG := Lib.hid (give_yes b pg p c us ps np nc w8 (by have := HLU.out; omega) (by have := HPS.out.2.2; omega) hn8 (owns_nilcap ho8) HRB.out.symm hp8)
          unfold zeroP at HG
          clear ho8 hn8 hp8
          go_wp2_with fail
          refine HG.out.mono ?_
          rintro e w9 ⟨⟨hE, rfl⟩ | ⟨hE, p9, c9, rfl, hR, -⟩, hb9⟩
          · have HX := Lib.hid (And.intro (TV.new 0 0 (rowS_nil w9 B2) (Nat.le_trans hB8 hb9.size)) (And.intro ((HT8.out.1.below hb9).below (below1 w9 (.cells #[.int .i64 0, .int .i64 0, .slice none 0 0] 24))) ((HT8.out.2.below hb9).below (below1 w9 (.cells #[.int .i64 0, .int .i64 0, .slice none 0 0] 24)))))
            have HE := Lib.hid hE
            clear hb9 d0 d1 d2 HG hE
            go_wp2_with fail
            go_meet
            exact ⟨_, 0, 0, none, 0, 0, [], _, ⟨rfl, rfl⟩, Lib.hid ⟨.inr (.inl ⟨rfl, rfl, HE.out, rfl, rfl, rfl⟩), HX.out.1, HX.out.2.1, HX.out.2.2⟩⟩
          · obtain ⟨gs, hgs⟩ : ∃ gs, gs = (giveR pg us ps).2 := ⟨_, rfl⟩
            rw [← hgs] at hR ⊢
            have HX := Lib.hid (And.intro (TV.new b pg ((RowS.of_owns rfl hR).mono hB8) (Nat.le_trans hB8 hb9.size)) (And.intro ((HT8.out.1.below hb9).below (below1 w9 (.cells #[.int .i64 b, .int .i64 pg, .slice p9 gs.length c9] 24))) ((HT8.out.2.below hb9).below (below1 w9 (.cells #[.int .i64 b, .int .i64 pg, .slice p9 gs.length c9] 24)))))
            have HE := Lib.hid (And.intro hE hgs)
            clear hb9 d0 d1 d2 HG hE hR hgs
            go_wp2_with fail
            go_meet
            exact ⟨_, b, pg, p9, gs.length, c9, gs, 0, ⟨rfl, rfl⟩, Lib.hid ⟨.inr (.inr ⟨rfl, HE.out.1, rfl, rfl, rfl, HE.out.2⟩), HX.out.1, HX.out.2.1, HX.out.2.2⟩⟩
      case rest =>
        obtain ⟨zg, bg, pgg, gq, ng, cg, gs, f, ⟨rfl, rfl⟩, HC⟩ := hcut
        clear HT8
        obtain ⟨w9, hw9⟩ : ∃ X : World, X = wc := ⟨_, rfl⟩
        rw [← hw9] at HC
        rw [← hw9]
        clear hw9
        obtain ⟨w10, hw10⟩ : ∃ X : World, X = w9.alloc (.cells #[.int .i64 0, .int .i64 0, .slice none 0 0] 24) := ⟨_, rfl⟩
        have hb10 : Below w9.heap.size w9 w10 := by rw [hw10]; exact below1 _ _
        have HC10 := Lib.hid (show GK rb b pg us ps bg pgg gs f ∧ TV w10 zg B2 bg pgg gq ng cg gs ∧ TV w10 zt B2 bt pt q nt ct ts ∧ MB W zp B2 b pg (.slice p0 n0 c0) p c us w10 ∧ PBox w10 w9.heap.size 0 0 (.slice none 0 0) ∧ B2 ≤ w9.heap.size ∧ zg < w9.heap.size ∧ zt < w9.heap.size from ⟨HC.out.1, HC.out.2.1.below hb10, HC.out.2.2.1.below hb10, HC.out.2.2.2.below hb10, by rw [hw10]; exact PBox.new _ _ _ _, HC.out.2.2.2.2.2.2.2.1.2.2, HC.out.2.1.1.lt, HC.out.2.2.1.1.lt⟩)
        have HW10 := Lib.hid hw10
        clear hw10 hb10 HC
        obtain ⟨zn, hzn⟩ : ∃ z, z = w9.heap.size := ⟨_, rfl⟩
        rw [← hzn] at HC10
        have HZN := Lib.hid hzn
        clear hzn
        go_upto_if 81 with fail
        rw [← HW10.out, ← HZN.out]
        clear HW10 HZN
        go_cut [16] (fun s16 wd => ∃ q3 c3, s16 = .int .i64 f ∧ Hid (GK rb b pg us ps bg pgg gs f ∧ TV wd zg B2 bg pgg gq ng cg gs ∧ TV wd zt B2 bt pt q nt ct ts ∧ MB W zp B2 b pg (.slice p0 n0 c0) p c us wd ∧ PBox wd zn bg pgg (.slice q3 gs.length c3) ∧ NumsAt wd .i64 (.slice q3 gs.length c3) gs))
        case first =>
          cases rb with
          | false =>
            rcases HC10.out.1 with ⟨_, rfl, rfl, rfl, rfl⟩ | ⟨h, _⟩ | ⟨h, _⟩
            · go_wp2_with fail
              go_meet
              exact ⟨none, 0, rfl, Lib.hid ⟨HC10.out.1, HC10.out.2.1, HC10.out.2.2.1, HC10.out.2.2.2.1, HC10.out.2.2.2.2.1, (rowS_nil w10 0).nums⟩⟩
            · cases h
            · cases h
          | true =>
            obtain ⟨d0, d1, d2⟩ := HC10.out.2.2.2.1.2.1.cells
            have HG := Lib.hid (rgive_c _ b pg p c us ps np nc w10 HC10.out.2.2.2.1.2.2.1 (by have := HPS.out.2.2; omega) HRB.out.symm (nums_below HPS.out.1 HC10.out.2.2.2.1.2.2.2.2.2))
            unfold zeroP at HG
            go_wp2_with fail
            refine HG.out.mono ?_
            rintro e w11 ⟨⟨hE, rfl⟩ | ⟨hE, p9, c9, rfl, hR⟩, hb11⟩
            · have hW := HC10.out.2.2.2.2.1.below hb11
              rcases HC10.out.1 with ⟨h, _⟩ | ⟨_, rfl, hf, rfl, rfl, rfl⟩ | ⟨_, h, _⟩
              · cases h
              · obtain ⟨f0, f1, f2⟩ := hW.cells
                have l0 := hW.marks 0
                have l1 := hW.marks 1
                have l2 := hW.marks 2
                obtain ⟨w12, hw12⟩ : ∃ X : World, X = (((w11.setCell ⟨zn, 0, none⟩ (.int .i64 0)).setCell ⟨zn, 1, none⟩ (.int .i64 0)).setCell ⟨zn, 2, none⟩ (.slice none 0 0)) := ⟨_, rfl⟩
                have hk12 : Keeps (fun k => k = zn) w11 w12 := by rw [hw12]; exact PBox.putK w11 zn 0 0 _
                have HF := Lib.hid (show TV w12 zg B2 0 0 gq ng cg [] ∧ TV w12 zt B2 bt pt q nt ct ts ∧ MB W zp B2 b pg (.slice p0 n0 c0) p c us w12 ∧ PBox w12 zn 0 0 (.slice none 0 0) from ⟨(HC10.out.2.1.below hb11).keeps hk12 hW (by have := HC10.out.2.2.2.2.2.2.1; omega), (HC10.out.2.2.1.below hb11).keeps hk12 hW (by have := HC10.out.2.2.2.2.2.2.2; omega), (HC10.out.2.2.2.1.below hb11).keeps hk12 (fun k e => by have := HC10.out.2.2.2.2.2.1; omega), by rw [hw12]; exact hW.put 0 0 _⟩)
                have HW12 := Lib.hid hw12
                clear hw12 hk12 hW hb11 d0 d1 d2 HG
                go_wp2_with fail
                rw [← HW12.out]
                go_meet
                exact ⟨none, 0, rfl, Lib.hid ⟨HC10.out.1, HF.out.1, HF.out.2.1, HF.out.2.2.1, HF.out.2.2.2, (rowS_nil w12 0).nums⟩⟩
              · exact absurd h hE
            · have hW := HC10.out.2.2.2.2.1.below hb11
              rcases HC10.out.1 with ⟨h, _⟩ | ⟨_, h1, h2, _⟩ | ⟨_, _, rfl, rfl, rfl, hgs⟩
              · cases h
              · exact absurd (h1.trans hE) h2
              · rw [← hgs] at hR ⊢
                obtain ⟨f0, f1, f2⟩ := hW.cells
                have l0 := hW.marks 0
                have l1 := hW.marks 1
                have l2 := hW.marks 2
                obtain ⟨w12, hw12⟩ : ∃ X : World, X = (((w11.setCell ⟨zn, 0, none⟩ (.int .i64 bg)).setCell ⟨zn, 1, none⟩ (.int .i64 pgg)).setCell ⟨zn, 2, none⟩ (.slice p9 gs.length c9)) := ⟨_, rfl⟩
                have hk12 : Keeps (fun k => k = zn) w11 w12 := by rw [hw12]; exact PBox.putK w11 zn bg pgg _
                have hzl : zn < w10.heap.size := HC10.out.2.2.2.2.1.lt
                have HF := Lib.hid (show TV w12 zg B2 bg pgg gq ng cg gs ∧ TV w12 zt B2 bt pt q nt ct ts ∧ MB W zp B2 bg pgg (.slice p0 n0 c0) p c us w12 ∧ PBox w12 zn bg pgg (.slice p9 gs.length c9) ∧ NumsAt w12 .i64 (.slice p9 gs.length c9) gs from ⟨(HC10.out.2.1.below hb11).keeps hk12 hW (by have := HC10.out.2.2.2.2.2.2.1; omega), (HC10.out.2.2.1.below hb11).keeps hk12 hW (by have := HC10.out.2.2.2.2.2.2.2; omega), (HC10.out.2.2.2.1.below hb11).keeps hk12 (fun k e => by have := HC10.out.2.2.2.2.2.1; omega), by rw [hw12]; exact hW.put bg pgg _, nums_of_owns rfl (hk12.row hR (fun g hg e => by have := (hR.lt g hg).1; omega))⟩)
                have HW12 := Lib.hid hw12
                have HHG := Lib.hid hgs
                clear hw12 hk12 hW hb11 d0 d1 d2 HG hR hgs hzl
                go_wp2_with fail
                rw [← HW12.out]
                go_meet
                exact ⟨p9, c9, rfl, Lib.hid ⟨HC10.out.1, HF.out.1, HF.out.2.1, HF.out.2.2.1, HF.out.2.2.2.1, HF.out.2.2.2.2⟩⟩
        case rest =>
          obtain ⟨q3, c3, rfl, HC⟩ := hcut
          clear HC10
          obtain ⟨w11, hw11⟩ : ∃ X : World, X = wc := ⟨_, rfl⟩
          rw [← hw11] at HC
          rw [← hw11]
          clear hw11
          have HSM := Lib.hid (rsame_c bg bg pgg pgg (.slice gq ng cg) (.slice q3 gs.length c3) gs gs w11 HC.out.2.1.2.1.nums HC.out.2.2.2.2.2 (HC.out.1.len HLU.out HPS.out.2.2))
          rw [sameB_self] at HSM
          obtain ⟨d0, d1, d2⟩ := HC.out.2.1.1.cells
          obtain ⟨f0, f1, f2⟩ := HC.out.2.2.2.2.1.cells
          go_wp2_with fail
          refine HSM.out.mono ?_
          rintro e w12 ⟨rfl, hb12⟩
          have HX := Lib.hid (show MX W zp B2 zt zg b pg (.slice p0 n0 c0) p c us bt pt q nt ct bg pgg gq ng cg w12 from ⟨HC.out.2.2.2.1.below hb12, HC.out.2.2.1.1.below hb12, ⟨ts, HC.out.2.2.1.2.1.below hb12⟩, HC.out.2.1.1.below hb12, ⟨gs, HC.out.2.1.2.1.below hb12⟩⟩)
          have hng : ng ≤ 4611686018427387904 := by have h := HC.out.2.1.2.1.1; rw [← h]; exact HC.out.1.len HLU.out HPS.out.2.2
          have hnt : nt ≤ 4611686018427387904 := by have h := HC.out.2.2.1.2.1.1; have := HTK.out.len HLU.out; omega
          clear hb12 HSM HC d0 d1 d2 f0 f1 f2
          obtain ⟨d0, d1, d2⟩ := HX.out.2.2.2.1.cells
          go_wp2_with fail
          clear d0 d1 d2
          go_loopw [100] (fun iv wr => ∃ i : Nat, i ≤ ng ∧ iv = .int .i64 (i : Int) ∧ Hid (MX W zp B2 zt zg b pg (.slice p0 n0 c0) p c us bt pt q nt ct bg pgg gq ng cg wr)) (fun iv _ => ng - (pIntOf iv).toNat)
          case atStart => exact ⟨0, Nat.zero_le _, rfl, HX⟩
          case round =>
            clear HX
            obtain ⟨i, hi, rfl, HX⟩ := hrel
            by_cases hlt : i < ng
            · obtain ⟨g0, cur, x, rfl, hB0, hc0, hx, hz⟩ := rowX_cell HX.out.2.2.2.2 i hlt
              obtain ⟨d0, d1, d2⟩ := HX.out.2.2.2.1.cells
              have HX2 := Lib.hid (fun y => HX.out.set hc0 hB0 i y)
              clear hc0
              go_wp2_with fail
              go_roundw
              case rel => exact ⟨i + 1, by omega, by go_num, Lib.hid (HX2.out _)⟩
              case measure => simp [pIntOf]; omega
            · obtain ⟨d0, d1, d2⟩ := HX.out.2.1.cells
              go_wp2_with fail
              clear d0 d1 d2
              go_loopw [114] (fun iv wr => ∃ i : Nat, i ≤ nt ∧ iv = .int .i64 (i : Int) ∧ Hid (MX W zp B2 zt zg b pg (.slice p0 n0 c0) p c us bt pt q nt ct bg pgg gq ng cg wr)) (fun iv _ => nt - (pIntOf iv).toNat)
              case atStart => exact ⟨0, Nat.zero_le _, rfl, HX⟩
              case round =>
                clear HX
                obtain ⟨j, hj, rfl, HX⟩ := hrel
                by_cases hjt : j < nt
                · obtain ⟨g0, cur, x, rfl, hB0, hc0, hx, hz⟩ := rowX_cell HX.out.2.2.1 j hjt
                  obtain ⟨d0, d1, d2⟩ := HX.out.2.1.cells
                  have HX2 := Lib.hid (fun y => HX.out.set hc0 hB0 j y)
                  clear hc0
                  go_wp2_with fail
                  go_roundw
                  case rel => exact ⟨j + 1, by omega, by go_num, Lib.hid (HX2.out _)⟩
                  case measure => simp [pIntOf]; omega
                · obtain ⟨d0, d1, d2⟩ := HX.out.1.1.cells
                  obtain ⟨f0, f1, f2⟩ := HX.out.1.2.1.cells
                  go_upto_region 32 with fail
                  have HO2 := Lib.hid (fun Z hb => HOW.out Z hb)
                  have HBW := Lib.hid HX.out.1.2.2.2.2.2
                  have HROW := Lib.hid HX.out.1.2.2.1
                  obtain ⟨wz, hwz⟩ : ∃ X : World, X = wr := ⟨_, rfl⟩
                  go_region_with (first
                    | (go_at_call 8; refine (HOW.out _ (?_ : Below W.heap.size W wr.drew)).mono ?_; exact HBW.out.drew; rintro e w9 ⟨⟨p9, c9, rfl, ho⟩, hb9⟩; have hb8 : Below wr.heap.size wr w9 := ((Below.refl wr.heap.size wr).drew).trans hb9; have e0 := below_cell hb8 f0; have e1 := below_cell hb8 f1; have e2 := below_cell hb8 f2; have HN := Lib.hid (And.intro (nums_below (nums_of_owns rfl HROW.out) hb8) (And.intro (nums_of_owns rfl ho) (below_then HBW.out HBW.out.size hb8))); clear ho hb9)
                    | (go_at_call 11; refine (rsame_c b b pg pg (.slice p us.length c) (.slice p9 us.length c9) us us w9 HN.out.1 HN.out.2.1 hm64).mono ?_; rw [sameB_self]; rintro e w10 ⟨rfl, hb10⟩; have HBF := Lib.hid (below_then HN.out.2.2 HN.out.2.2.size hb10)))
                  all_goals (go_wp2_with fail; go_ret; exact ⟨rfl, HBF.out⟩)
end Go.Proofs.Ythjkaabbbhfjhaa
