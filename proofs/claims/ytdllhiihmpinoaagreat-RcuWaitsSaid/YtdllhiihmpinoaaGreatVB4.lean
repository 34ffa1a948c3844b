/-
  Package grace, in mathematics: which graces may be, and stay so; ticks, one behind the other.
  Conditions: none.
-/
import Derived.Test.YtdllhiihmpinoaaGreatVB3
/-
  Package grace: Begin, Report, Pick.
  Conditions: the ranges of Go's types.
-/
namespace Go.Proofs.YtdllhiihmpinoaaGreat
set_option maxRecDepth 100000
open Go.RowKit Go.Shelf
attribute [local go_sem] Oper.semAt_some

/-- What an answered grace is. -/
def AnsG (B : Nat) (E : Int) (g' : GrS) (d a : Int) (on : Bool) (p : Option Addr) (n c : Nat) (x : Int) (w : World) : Prop :=
  (E ≠ 0 ∧ x = E ∧ d = 0 ∧ a = 0 ∧ on = false ∧ p = none ∧ n = 0 ∧ c = 0) ∨ (E = 0 ∧ x = 0 ∧ d = g'.done ∧ a = g'.asked ∧ on = g'.on ∧ ∃ nb, p = some ⟨nb, 0, none⟩ ∧ n = g'.nd.length ∧ c = g'.nd.length ∧ BBlock w nb g'.nd ∧ B ≤ nb)
theorem AnsG.keeps {S : Nat → Prop} {B : Nat} {E : Int} {g' : GrS} {d a : Int} {on : Bool} {p : Option Addr} {n c : Nat} {x : Int} {w w' : World} (h : AnsG B E g' d a on p n c x w) (hk : Keeps S w w') (hS : ∀ k, S k → k < B) : AnsG B E g' d a on p n c x w' := by
  rcases h with h | ⟨h1, h2, h3, h4, h5, nb, h6, h7, h8, h9, h10⟩
  · exact .inl h
  · exact .inr ⟨h1, h2, h3, h4, h5, nb, h6, h7, h8, h9.keeps hk (fun e => by have := hS _ e; omega), h10⟩
theorem AnsG.mono {B B' : Nat} {E : Int} {g' : GrS} {d a : Int} {on : Bool} {p : Option Addr} {n c : Nat} {x : Int} {w : World} (h : AnsG B E g' d a on p n c x w) (hB : B' ≤ B) : AnsG B' E g' d a on p n c x w := by
  rcases h with h | ⟨h1, h2, h3, h4, h5, nb, h6, h7, h8, h9, h10⟩
  · exact .inl h
  · exact .inr ⟨h1, h2, h3, h4, h5, nb, h6, h7, h8, h9, Nat.le_trans hB h10⟩
def TriR (B z : Nat) (E : Int) (g' : GrS) (ls : List Int) (t : Value) (x : Int) (X : World) : Prop := ∃ d a on pn nn cn pl nl cl,
  t = .agg #[.int .i64 0, .slice none 0 0, .slice none 0 0, .int .i64 d, .int .i64 a, .bool on, .slice pn nn cn, .slice pl nl cl] ∧ AnsG B E g' d a on pn nn cn x X ∧ (E = 0 → X.ownsRow z 3 1 (.slice pl nl cl) ls.length (ls.map (Value.int .i64)))
theorem tri_of (K : Nat) (caps : Array Value) (W : World) (E : Int) (g' : GrS) (ls : List Int) (hcf : ∀ (args : Array Value) (w : World), (callFunc K args).run Tryz.prog w = .ok (.enter K args) w)
    (C : ∀ W0, TBox W0 W.heap.size 0 nilV nilV 0 0 false nilV nilV → Boxed W0 (W.heap.size + 1) 39 (.int .i64 0) → Below W.heap.size W W0 → W0.heap.size = W.heap.size + 2 → Calls Tryz.prog K (#[.pointer (some ⟨W.heap.size, 0, none⟩)] ++ caps) W0 fun e w' => DoQ W.heap.size W0.heap.size E g' ls e W0 w') :
    Calls Tryz.prog 113 #[.func (.func K) #[] caps] W fun e w' => (∃ t x, e = .returned (.tuple #[t, .int .i64 x]) ∧ TriR (W.heap.size + 2) W.heap.size E g' ls t x w') ∧ Below W.heap.size W w' := by
  obtain ⟨f1, f2, f3, f4⟩ := wT_facts W
  refine tried_K K caps W hcf (TriR (W.heap.size + 2) W.heap.size E g' ls) ((C (wT W) f1 f2 f3 f4).mono ?_)
  rintro e w' ⟨hk, h⟩
  have hB : Below W.heap.size W w' := f3.trans (hk.below f3.size (fun k e => by omega))
  have he : Boxed w' (W.heap.size + 1) 39 (.int .i64 0) := (hk.block _ f2.lt (by omega)).trans f2
  refine ⟨hB, ?_⟩
  rcases h with ⟨h1, rfl, now, u, v, d, a, on, nv, lv, h2, h3⟩ | ⟨h1, rfl, nb, lv, k, hnb⟩
  · exact ⟨now, u, v, d, a, on, nv, lv, h2, h3, he, .inl ⟨E, rfl, fun X _ => ⟨0, 0, false, none, 0, 0, none, 0, 0, rfl, .inl ⟨h1, rfl, rfl, rfl, rfl, rfl, rfl, rfl⟩, fun h => absurd h h1⟩⟩⟩
  · refine ⟨_, _, _, _, _, _, _, _, k.box, ⟨nil_sl, nil_sl, ⟨_, _, _, rfl⟩, owns_sl k.nums⟩, he, .inr ⟨rfl, fun X hX => ?_⟩⟩
    obtain ⟨pl, cl, rfl⟩ := owns_slice k.nums
    refine ⟨_, _, _, _, _, _, _, _, _, rfl, .inr ⟨h1, rfl, rfl, rfl, rfl, nb, rfl, rfl, rfl, k.needs.keeps hX ?_, by omega⟩, fun _ => hX.row k.nums (fun q hq e => ?_)⟩
    · rintro (e | e) <;> omega
    · rcases e with e | e
      · exact k.box.ne_row k.nums q hq e
      · obtain ⟨c, f, h1⟩ := Lib.ownsRow_kind k.nums q hq
        have h2 : w'.heap[W.heap.size + 1]? = _ := he
        rw [e, h2] at h1; injection h1 with h1; injection h1 with _ h1 _; revert h1; decide

set_option maxHeartbeats 8000000 in
theorem gPick_c (g : GrS) (v : Value) (c : Int) (q : Bool) (W : World) (hv : BoolsAt W v g.nd) (hl : g.nd.length ≤ 9223372036854775807) :
    Calls Tryz.prog 124 #[.agg #[.int .i64 g.done, .int .i64 g.asked, .bool g.on, v], .int .i64 c, .bool q] W fun e w' => (∃ d a on p n cc x, e = .returned (.tuple #[.agg #[.int .i64 d, .int .i64 a, .bool on, .slice p n cc], .int .i64 x]) ∧ AnsG W.heap.size (errG g (pickE g c)) (pickG g c.toNat q) d a on p n cc x w') ∧ Below W.heap.size W w' := by
  have hmf : ∀ (fn : Fn) (first cap : Array Value) (w : World), (Instr.makeFunc fn first cap).run Tryz.prog w = .ok (.func fn first cap) w := fun _ _ _ _ => rfl
  obtain ⟨w0, hw0⟩ : ∃ X : World, X = ((((W.alloc (.cells #[.int .i64 g.done, .int .i64 g.asked, .bool g.on, v] 27)).alloc (.cells #[.int .i64 c] 3)).alloc (.cells #[.bool q] 4)).alloc (.cells #[.int .i64 0, .int .i64 0, .bool false, .slice none 0 0] 27)) := ⟨_, rfl⟩
  have HF := Lib.hid (show GBox w0 W.heap.size g.done g.asked g.on v ∧ Boxed w0 (W.heap.size + 1) 3 (.int .i64 c) ∧ Boxed w0 (W.heap.size + 2) 4 (.bool q) ∧ GBox w0 (W.heap.size + 3) 0 0 false (.slice none 0 0) ∧ Below W.heap.size W w0 ∧ w0.heap.size = W.heap.size + 4 from ⟨by rw [hw0]; exact (((GBox.new W _ _ _ _).below (below1 _ _)).below (below1 _ _)).below (below1 _ _), by
      rw [hw0]
      have := (((Boxed.new (W.alloc (.cells #[.int .i64 g.done, .int .i64 g.asked, .bool g.on, v] 27)) 3 (.int .i64 c)).alloc (.cells #[.bool q] 4)).alloc (.cells #[.int .i64 0, .int .i64 0, .bool false, .slice none 0 0] 27))
      simpa using this, by
      rw [hw0]
      have := ((Boxed.new ((W.alloc (.cells #[.int .i64 g.done, .int .i64 g.asked, .bool g.on, v] 27)).alloc (.cells #[.int .i64 c] 3)) 4 (.bool q)).alloc (.cells #[.int .i64 0, .int .i64 0, .bool false, .slice none 0 0] 27))
      simpa using this, by
      rw [hw0]
      have := GBox.new (((W.alloc (.cells #[.int .i64 g.done, .int .i64 g.asked, .bool g.on, v] 27)).alloc (.cells #[.int .i64 c] 3)).alloc (.cells #[.bool q] 4)) 0 0 false (.slice none 0 0)
      simpa using this, by rw [hw0]; exact below4 _ _ _ _ _ , by rw [hw0]; simp⟩)
  have HV := Lib.hid (bools_below hv HF.out.2.2.2.2.1)
  have HT := Lib.hid (tri_of 146 #[.pointer (some ⟨W.heap.size, 0, none⟩), .pointer (some ⟨W.heap.size + 1, 0, none⟩), .pointer (some ⟨W.heap.size + 2, 0, none⟩)] w0 (errG g (pickE g c)) (pickG g c.toNat q) [] (fun _ _ => rfl) (fun W0 kb _ hb hz => by
    have := pickc_c w0.heap.size W.heap.size g v (W.heap.size + 1) (W.heap.size + 2) c q W0 kb (HF.out.1.below hb) (bools_below HV.out hb) hl (boxed_under HF.out.2.1 hb) (by have := HF.out.2.2.2.2.2; omega) (boxed_under HF.out.2.2.1 hb) (by have := HF.out.2.2.2.2.2; omega)
    exact this))
  obtain ⟨p0, c0, rfl, -⟩ := hv
  clear hl
  go_enter Tryz.func124, Tryz.ntmps124
  go_wp2_with fail
  rw [← hw0]
  clear hw0
  (with_reducible refine HT.out.mono ?_)
  rintro e w1 ⟨⟨t, x, rfl, d, a, on, pn, nn, cn, pl, nl, cl, rfl, hA, -⟩, hb1⟩
  obtain ⟨w2, hw2⟩ : ∃ X : World, X = w1.alloc (.cells #[.int .i64 0, .slice none 0 0, .slice none 0 0, .int .i64 d, .int .i64 a, .bool on, .slice pn nn cn, .slice pl nl cl] 159) := ⟨_, rfl⟩
  have hb2 : Below w1.heap.size w1 w2 := by rw [hw2]; exact below1 _ _
  have hz1 : W.heap.size + 3 < w1.heap.size := by have := HF.out.2.2.2.2.2; have := hb1.size; omega
  have HX := Lib.hid (show GBox w2 (W.heap.size + 3) 0 0 false (.slice none 0 0) ∧ AnsG (w0.heap.size + 2) (errG g (pickE g c)) (pickG g c.toNat q) d a on pn nn cn x w2 ∧ Below W.heap.size W w2 from ⟨(HF.out.2.2.2.1.below hb1).below hb2, hA.keeps (S := fun _ => False) (Keeps.of_below hb2) (fun _ h => h.elim), below_then (below_then HF.out.2.2.2.2.1 HF.out.2.2.2.2.1.size hb1) (below_then HF.out.2.2.2.2.1 HF.out.2.2.2.2.1.size hb1).size hb2⟩)
  obtain ⟨d0, d1, d2, d3⟩ := HX.out.1.cells
  have m0 := HX.out.1.marks 0
  have m1 := HX.out.1.marks 1
  have m2 := HX.out.1.marks 2
  have m3 := HX.out.1.marks 3
  have HP := Lib.hid (HX.out.1.put d a on (.slice pn nn cn))
  have HK := Lib.hid (GBox.putK w2 (W.heap.size + 3) d a on (.slice pn nn cn))
  have HZ := Lib.hid HF.out.2.2.2.2.2
  rw [hw2] at d0 d1 d2 d3 m0 m1 m2 m3 HP
  have HW2 := Lib.hid hw2
  clear hw2 hb2 hb1 hA HT HF HV hz1
  go_wp2
  refine bodyPost_ret (HP.out.result2 rfl _ rfl rfl) rfl ⟨⟨_, _, _, _, _, _, _, rfl, ?_⟩, ?_⟩
  · rw [← HW2.out]; exact (AnsG.keeps (B := w0.heap.size + 2) HX.out.2.1 HK.out (fun k e => by have := HZ.out; omega)).mono (by have := HZ.out; omega)
  · rw [← HW2.out]; exact HX.out.2.2.trans (HK.out.below HX.out.2.2.size (fun k e => by omega))

end Go.Proofs.YtdllhiihmpinoaaGreat
/-
  Package grace: Ask.
  Conditions: the ranges of Go's types.
-/
namespace Go.Proofs.YtdllhiihmpinoaaGreat
set_option maxRecDepth 100000
open Go.RowKit Go.Shelf
attribute [local go_sem] Oper.semAt_some

theorem owns_first {B : Nat} {W : World} {p : Option Addr} {c : Nat} {x : Int} (h : W.ownsRow B 3 1 (.slice p 1 c) 1 [.int .i64 x]) : ∃ b, p = some ⟨b, 0, none⟩ ∧ W.cell? ⟨b, 0, none⟩ = some (.int .i64 x) := by
  rcases id h.2 with ⟨_, h0⟩ | ⟨g, cap, cur, e, _⟩
  · cases h0
  · injection e with e1 e2 e3
    subst e1
    refine ⟨g, rfl, ?_⟩
    have e' : Value.slice (some ⟨g, 0, none⟩) 1 c = .slice (some ⟨g, 0, none⟩) 1 c := rfl
    have := h.cellAt 0 (by omega)
    simpa using this

/-- What Ask answers. -/
def AskQ (B : Nat) (g : GrS) (e : Ending) (w' : World) : Prop := ∃ d a on p n cc k x, e = .returned (.tuple #[.agg #[.int .i64 d, .int .i64 a, .bool on, .slice p n cc], .int .i64 k, .int .i64 x]) ∧ AnsG B (errG g (askE g)) (askG g) d a on p n cc x w' ∧ k = (if errG g (askE g) = 0 then nextG g else 0)

set_option maxHeartbeats 8000000 in
theorem gAsk_c (g : GrS) (v : Value) (W : World) (hv : BoolsAt W v g.nd) (hl : g.nd.length ≤ 9223372036854775807) :
    Calls Tryz.prog 144 #[.agg #[.int .i64 g.done, .int .i64 g.asked, .bool g.on, v]] W fun e w' => AskQ W.heap.size g e w' ∧ Below W.heap.size W w' := by
  have hmf : ∀ (fn : Fn) (first cap : Array Value) (w : World), (Instr.makeFunc fn first cap).run Tryz.prog w = .ok (.func fn first cap) w := fun _ _ _ _ => rfl
  obtain ⟨w0, hw0⟩ : ∃ X : World, X = (W.alloc (.cells #[.int .i64 g.done, .int .i64 g.asked, .bool g.on, v] 27)).alloc (.cells #[.int .i64 0, .int .i64 0, .bool false, .slice none 0 0] 27) := ⟨_, rfl⟩
  have HF := Lib.hid (show GBox w0 W.heap.size g.done g.asked g.on v ∧ GBox w0 (W.heap.size + 1) 0 0 false (.slice none 0 0) ∧ Below W.heap.size W w0 ∧ w0.heap.size = W.heap.size + 2 from ⟨by rw [hw0]; exact (GBox.new W _ _ _ _).below (below1 _ _), by
      rw [hw0]
      have := GBox.new (W.alloc (.cells #[.int .i64 g.done, .int .i64 g.asked, .bool g.on, v] 27)) 0 0 false (.slice none 0 0)
      simpa using this, by rw [hw0]; exact below2 _ _ _, by rw [hw0]; simp⟩)
  have HV := Lib.hid (bools_below hv HF.out.2.2.1)
  have HT := Lib.hid (tri_of 160 #[.pointer (some ⟨W.heap.size, 0, none⟩)] w0 (errG g (askE g)) (askG g) [nextG g] (fun _ _ => rfl) (fun W0 kb _ hb hz => by
    have := ask1_c w0.heap.size W.heap.size g v W0 kb (HF.out.1.below hb) (bools_below HV.out hb) hl
    exact this))
  obtain ⟨p0, c0, rfl, -⟩ := hv
  clear hl
  go_enter Tryz.func144, Tryz.ntmps144
  go_wp2_with fail
  rw [← hw0]
  clear hw0
  (with_reducible refine HT.out.mono ?_)
  rintro e w1 ⟨⟨t, x, rfl, d, a, on, pn, nn, cn, pl, nl, cl, rfl, hA, hO⟩, hb1⟩
  obtain ⟨w2, hw2⟩ : ∃ X : World, X = w1.alloc (.cells #[.int .i64 0, .slice none 0 0, .slice none 0 0, .int .i64 d, .int .i64 a, .bool on, .slice pn nn cn, .slice pl nl cl] 159) := ⟨_, rfl⟩
  have hb2 : Below w1.heap.size w1 w2 := by rw [hw2]; exact below1 _ _
  have hz1 : W.heap.size + 1 < w1.heap.size := by have := HF.out.2.2.2; have := hb1.size; omega
  have HX := Lib.hid (show GBox w2 (W.heap.size + 1) 0 0 false (.slice none 0 0) ∧ AnsG (w0.heap.size + 2) (errG g (askE g)) (askG g) d a on pn nn cn x w2 ∧ Below W.heap.size W w2 from ⟨(HF.out.2.1.below hb1).below hb2, hA.keeps (S := fun _ => False) (Keeps.of_below hb2) (fun _ h => h.elim), below_then (below_then HF.out.2.2.1 HF.out.2.2.1.size hb1) (below_then HF.out.2.2.1 HF.out.2.2.1.size hb1).size hb2⟩)
  have HZ := Lib.hid HF.out.2.2.2
  obtain ⟨d0, d1, d2, d3⟩ := HX.out.1.cells
  have m0 := HX.out.1.marks 0
  have m1 := HX.out.1.marks 1
  have m2 := HX.out.1.marks 2
  have m3 := HX.out.1.marks 3
  by_cases hE : errG g (askE g) = 0
  · have hx : x = 0 := by rcases HX.out.2.1 with h | h; exact absurd hE h.1; exact h.2.1
    subst hx
    have hrow := owns_below (hO hE) hb2
    have hnl : nl = 1 := by have h1 := hrow.2; rcases h1 with ⟨_, h0⟩ | ⟨_, _, _, e, _⟩; cases h0; injection e
    subst hnl
    obtain ⟨q, rfl, hq⟩ := owns_first hrow
    have hqz : ¬ q = W.heap.size + 1 := by have := (hrow.lt q rfl).1; have := HZ.out; omega
    have hq1 := (setK w2 (W.heap.size + 1) 0 (.int .i64 d)).cell hq hqz
    have HE := Lib.hid hE
    have HP := Lib.hid (show GBox ((((w2.setCell ⟨W.heap.size + 1, 0, none⟩ (.int .i64 d)).setCell ⟨W.heap.size + 1, 1, none⟩ (.int .i64 a)).setCell ⟨W.heap.size + 1, 2, none⟩ (.bool on)).setCell ⟨W.heap.size + 1, 3, none⟩ (.slice pn nn cn)).drew (W.heap.size + 1) d a on (.slice pn nn cn) from HX.out.1.put d a on (.slice pn nn cn))
    have HK := Lib.hid (GBox.putK w2 (W.heap.size + 1) d a on (.slice pn nn cn))
    rw [hw2] at d0 d1 d2 d3 m0 m1 m2 m3 hq hq1 HP
    have HW2 := Lib.hid hw2
    clear hw2 hb2 hb1 hA HT HF HV hz1 hO hrow hE
    go_wp2
    go_region
    go_wp2
    refine bodyPost_ret (HP.out.result3 rfl _ rfl rfl rfl) rfl ⟨⟨_, _, _, _, _, _, _, _, rfl, ?_, ?_⟩, ?_⟩
    · rw [← HW2.out]; exact (AnsG.keeps (B := w0.heap.size + 2) HX.out.2.1 (HK.out.drewN 1) (fun k e => by have := HZ.out; omega)).mono (by have := HZ.out; omega)
    · rw [if_pos HE.out]
    · rw [← HW2.out]; exact below_drewN (HX.out.2.2.trans (HK.out.below HX.out.2.2.size (fun k e => by omega))) 1
  · have hx : x = errG g (askE g) ∧ d = 0 ∧ a = 0 ∧ on = false ∧ pn = none ∧ nn = 0 ∧ cn = 0 := by rcases HX.out.2.1 with h | h; exact h.2; exact absurd h.1 hE
    obtain ⟨hx1, rfl, rfl, rfl, rfl, rfl, rfl⟩ := hx
    have hne : (x != 0) = true := by rw [bne_iff_ne, hx1]; exact hE
    have HE := Lib.hid hE
    have HP := Lib.hid (HX.out.1.put 0 0 false (.slice none 0 0))
    have HK := Lib.hid (GBox.putK w2 (W.heap.size + 1) 0 0 false (.slice none 0 0))
    rw [hw2] at d0 d1 d2 d3 m0 m1 m2 m3 HP
    have HW2 := Lib.hid hw2
    clear hw2 hb2 hb1 hA HT HF HV hz1 hO hE hx1
    go_wp2
    refine bodyPost_ret (HP.out.result3 rfl _ rfl rfl rfl) rfl ⟨⟨_, _, _, _, _, _, _, _, rfl, ?_, ?_⟩, ?_⟩
    · rw [← HW2.out]; exact (AnsG.keeps (B := w0.heap.size + 2) HX.out.2.1 HK.out (fun k e => by have := HZ.out; omega)).mono (by have := HZ.out; omega)
    · rw [if_neg HE.out]
    · rw [← HW2.out]; exact HX.out.2.2.trans (HK.out.below HX.out.2.2.size (fun k e => by omega))

end Go.Proofs.YtdllhiihmpinoaaGreat
/-
  Package reader: Run.
  Conditions: the ranges of Go's types.
-/
namespace Go.Proofs.YtdllhiihmpinoaaGreat
set_option maxRecDepth 100000
open Go.RowKit Go.Shelf
attribute [local go_sem] Oper.semAt_some

set_option maxHeartbeats 4000000 in
theorem run_no (now : Int) (u v lv : Value) (ns os : List Int) (W : World) (hn : NumsAt W .i64 u ns) (ho : NumsAt W .i64 v os) (h1 : ns.length ≤ 9223372036854775807) (h2 : os.length ≤ 9223372036854775807) (hr : ∀ x ∈ os, I64 x) (hm : mayB now ns os = false) :
    Calls Tryz.prog 137 #[.agg #[.int .i64 now, u, v], lv] W fun e w' => e = .returned (.tuple #[zeroR, .int .i64 0, .int .i64 210]) ∧ Below W.heap.size W w' := by
  have HF := Lib.hid (wR_facts W now u v)
  obtain ⟨w0, hw0⟩ : ∃ X, X = wR W now u v := ⟨_, rfl⟩
  rw [← hw0] at HF
  unfold wR at hw0
  have HC := Lib.hid (may_c now u v ns os w0 (nums_below hn HF.out.2.2.1) (nums_below ho HF.out.2.2.1) h1 h2 hr)
  rw [hm] at HC
  obtain ⟨d0, d1, d2⟩ := HF.out.1.cells
  obtain ⟨p, c, rfl, -⟩ := hn
  obtain ⟨q, d, rfl, -⟩ := ho
  clear hm h1 h2 hr
  go_enter Tryz.func137, Tryz.ntmps137
  go_wp2_with fail
  rw [← hw0]
  clear hw0
  (with_reducible refine HC.out.mono ?_)
  rintro e w1 ⟨rfl, hb1⟩
  have HZ1 := Lib.hid (HF.out.2.1.below hb1)
  have HB1 := Lib.hid (below_then HF.out.2.2.1 HF.out.2.2.1.size hb1)
  obtain ⟨g0, g1, g2⟩ := HZ1.out.cells
  have m0 := HZ1.out.marks 0
  have m1 := HZ1.out.marks 1
  have m2 := HZ1.out.marks 2
  have HP := Lib.hid (HZ1.out.put 0 (.slice none 0 0) (.slice none 0 0))
  have HK := Lib.hid (RBox.putK w1 (W.heap.size + 1) 0 (.slice none 0 0) (.slice none 0 0))
  obtain ⟨w3, hw3⟩ : ∃ X : World, X = (((w1.setCell ⟨W.heap.size + 1, 0, none⟩ (.int .i64 0)).setCell ⟨W.heap.size + 1, 1, none⟩ (.slice none 0 0)).setCell ⟨W.heap.size + 1, 2, none⟩ (.slice none 0 0)) := ⟨_, rfl⟩
  rw [← hw3] at HP HK
  have HW3 := Lib.hid hw3
  clear hw3 hb1 HC d0 d1 d2
  go_wp2
  rw [← HW3.out]
  exact bodyPost_ret (v := .tuple #[zeroR, .int .i64 0, .int .i64 210]) (HP.out.result3 rfl _ rfl rfl rfl) rfl ⟨rfl, HB1.out.trans (HK.out.below HB1.out.size (fun k e => by omega))⟩

/-- What Run answers, of readers that may be. -/
def RunRes (B : Nat) (s : RdS) (l : List (Int × Bool)) (e : Ending) (w' : World) : Prop :=
  (∃ i, ∃ h : i < l.length, okTo s (l.take i) ∧ stepE (runS s (l.take i)) l[i].1 l[i].2 ≠ 0 ∧ e = .returned (.tuple #[zeroR, .int .i64 ((i : Int) + 1), .int .i64 (stepE (runS s (l.take i)) l[i].1 l[i].2)])) ∨
  (okTo s l ∧ ∃ g h : Nat, B ≤ g ∧ B ≤ h ∧ g ≠ h ∧ e = .returned (.tuple #[.agg #[.int .i64 (runS s l).now, .slice (some ⟨g, 0, none⟩) (runS s l).ns.length (runS s l).ns.length, .slice (some ⟨h, 0, none⟩) (runS s l).os.length (runS s l).os.length], .int .i64 (l.length : Int), .int .i64 0]) ∧ IBlock w' g (runS s l).ns ∧ IBlock w' h (runS s l).os)

set_option maxHeartbeats 8000000 in
theorem run_yes (s : RdS) (u v lv : Value) (l : List (Int × Bool)) (W : World) (hn : NumsAt W .i64 u s.ns) (ho : NumsAt W .i64 v s.os) (hlv : RgsAt W lv l) (hll : l.length ≤ 1000000000) (g : Good s) :
    Calls Tryz.prog 137 #[.agg #[.int .i64 s.now, u, v], lv] W fun e w' => RunRes W.heap.size s l e w' ∧ Below W.heap.size W w' := by
  have hr := g.rangeO
  have hm := (good_iff s).2 g
  have h8 := g.l8
  have hoo := g.lo
  have HG := Lib.hid g
  clear g
  have HF := Lib.hid (wR_facts W s.now u v)
  obtain ⟨w0, hw0⟩ : ∃ X, X = wR W s.now u v := ⟨_, rfl⟩
  rw [← hw0] at HF
  unfold wR at hw0
  have HN0 := Lib.hid (And.intro (nums_below hn HF.out.2.2.1) (nums_below ho HF.out.2.2.1))
  have HC := Lib.hid (may_c s.now u v s.ns s.os w0 HN0.out.1 HN0.out.2 (by omega) (by omega) hr)
  rw [hm] at HC
  have HLV := Lib.hid (And.intro hlv hoo)
  obtain ⟨d0, d1, d2⟩ := HF.out.1.cells
  obtain ⟨p, c, rfl, -⟩ := hn
  obtain ⟨q, d, rfl, -⟩ := ho
  obtain ⟨pl, cl, rfl, -⟩ := hlv
  clear hm hr hoo
  go_enter Tryz.func137, Tryz.ntmps137
  go_wp2_with fail
  rw [← hw0]
  clear hw0
  (with_reducible refine HC.out.mono ?_)
  rintro e w1 ⟨rfl, hb1⟩
  have HF1 := Lib.hid (show RBox w1 W.heap.size s.now (.slice p s.ns.length c) (.slice q s.os.length d) ∧ RBox w1 (W.heap.size + 1) 0 (.slice none 0 0) (.slice none 0 0) ∧ Below W.heap.size W w1 ∧ W.heap.size + 2 ≤ w1.heap.size from ⟨HF.out.1.below hb1, HF.out.2.1.below hb1, below_then HF.out.2.2.1 HF.out.2.2.1.size hb1, by have := hb1.size; have := HF.out.2.2.2; omega⟩)
  have hN : ∀ Z, Below w1.heap.size w1 Z → Calls Tryz.prog 152 #[.slice p s.ns.length c] Z fun e w' => (e = .returned (.slice (some ⟨Z.heap.size, 0, none⟩) s.ns.length s.ns.length) ∧ IBlock w' Z.heap.size s.ns) ∧ Below Z.heap.size Z w' := fun Z hZ => own_c _ s.ns Z (nums_below (nums_below HN0.out.1 hb1) hZ) (by omega)
  have hO : ∀ Z, Below w1.heap.size w1 Z → Calls Tryz.prog 152 #[.slice q s.os.length d] Z fun e w' => (e = .returned (.slice (some ⟨Z.heap.size, 0, none⟩) s.os.length s.os.length) ∧ IBlock w' Z.heap.size s.os) ∧ Below Z.heap.size Z w' := fun Z hZ => own_c _ s.os Z (nums_below (nums_below HN0.out.2 hb1) hZ) (by have := HLV.out.2; omega)
  have HNC := Lib.hid hN
  have HOC := Lib.hid hO
  have HLV1 := Lib.hid (And.intro (HLV.out.1.below HF1.out.2.2.1) HLV.out.2)
  obtain ⟨g0, g1, g2⟩ := HF1.out.1.cells
  clear hb1 HC d0 d1 d2 hN hO HN0 HF
  go_upto_region 3 with fail
  go_cut [7] (fun s7 wc => ∃ z g h : Nat, s7 = .pointer (some ⟨z, 0, none⟩) ∧ Hid (TurnAt wc z g h s ∧ Below w1.heap.size w1 wc ∧ w1.heap.size ≤ g ∧ w1.heap.size ≤ h ∧ w1.heap.size ≤ z))
  case first =>
    have hW2 : Below w1.heap.size w1 w1.drew := (Below.refl _ _).drew
    go_region_held3 (fun w' => w'.cell? ⟨W.heap.size, 0, none⟩ = some (.int .i64 s.now) ∧ w'.cell? ⟨W.heap.size, 1, none⟩ = some (.slice p s.ns.length c) ∧ w'.cell? ⟨W.heap.size, 2, none⟩ = some (.slice q s.os.length d))
      (first
        | exact ⟨g0, g1, g2⟩
        | go_keep
        | (go_split_ands; exact ⟨below_cell hb3 (by assumption), below_cell hb3 (by assumption), below_cell hb3 (by assumption)⟩))
      (first
        | (go_at_call 152; (with_reducible refine (HNC.out _ ?_).mono ?_); exact hW2; rintro e w3 ⟨⟨rfl, hX3⟩, hb3⟩; have HX3 := Lib.hid hX3; have HB3 := Lib.hid hb3; replace hW2 := below_then hW2 hW2.size hb3)
        | (go_at_call 152; (with_reducible refine (HOC.out _ ?_).mono ?_); exact hW2; rintro e w3 ⟨⟨rfl, hX3⟩, hb3⟩; have HX4 := Lib.hid hX3; have HB4 := Lib.hid hb3; replace hW2 := below_then hW2 hW2.size hb3))
    rename_i wa hba hXa _
    clear hX3 hXa hba hb3
    have hlt := HX3.out.lt
    have hlt2 := HX4.out.lt
    have hFIN := Lib.hid (show TurnAt (w3.alloc (.cells #[.int .i64 s.now, .slice (some ⟨w1.heap.size, 0, none⟩) s.ns.length s.ns.length, .slice (some ⟨wa.heap.size, 0, none⟩) s.os.length s.os.length] 204)) w3.heap.size w1.heap.size wa.heap.size s ∧ Below w1.heap.size w1 (w3.alloc (.cells #[.int .i64 s.now, .slice (some ⟨w1.heap.size, 0, none⟩) s.ns.length s.ns.length, .slice (some ⟨wa.heap.size, 0, none⟩) s.os.length s.os.length] 204)) ∧ w1.heap.size ≤ w1.heap.size ∧ w1.heap.size ≤ wa.heap.size ∧ w1.heap.size ≤ w3.heap.size from
      ⟨⟨World.alloc_heap_new _ _, (HX3.out.below HB4.out).below (below1 _ _), HX4.out.below (below1 _ _), fun e => by have h : w1.heap.size < wa.heap.size := hlt; omega⟩, below_then hW2 hW2.size (below1 _ _), Nat.le_refl _, Nat.le_of_lt hlt, hW2.size⟩)
    clear hlt hlt2 hW2
    go_wp2_with fail
    go_meet
    exact ⟨_, _, _, rfl, hFIN⟩
  case rest =>
    obtain ⟨z, g, h, rfl, hT⟩ := hcut
    obtain ⟨hT1, hT2, hT3, hT4, hT5⟩ := hT.out
    have HB5 := Lib.hid (And.intro hT3 (And.intro hT4 hT5))
    have HI0 := Lib.hid (show okTo s (l.take 0) ∧ TurnAt wc z g h (runS s (l.take 0)) ∧ RBox wc (W.heap.size + 1) 0 (.slice none 0 0) (.slice none 0 0) ∧ Below w1.heap.size w1 wc from ⟨trivial, hT1, HF1.out.2.1.below hT2, hT2⟩)
    clear g0 g1 g2 HNC HOC HLV hT1 hT2 hT3 hT4 hT5 hT
    obtain ⟨w2, hw2⟩ : ∃ X : World, X = wc := ⟨_, rfl⟩
    rw [← hw2] at HI0
    rw [← hw2]
    clear hw2
    go_wp2
    go_loopw [29] (fun iv wr => ∃ k : Nat, k ≤ l.length ∧ iv = .int .i64 (k : Int) ∧ Hid (okTo s (l.take k) ∧ TurnAt wr z g h (runS s (l.take k)) ∧ RBox wr (W.heap.size + 1) 0 (.slice none 0 0) (.slice none 0 0) ∧ Below w1.heap.size w1 wr)) (fun iv _ => l.length - (intOf iv).toNat)
    case atStart => exact ⟨0, Nat.zero_le _, rfl, HI0⟩
    case round =>
      clear HI0
      obtain ⟨k, hk, rfl, HI⟩ := hrel
      by_cases hlt : k < l.length
      · obtain ⟨hok, hT, hZ, hB⟩ := HI.out
        have hgood := HG.out.run _ hok
        have hsn1 := okTo_snoc (l.take k) s l[k]
        have hsn2 := runS_snoc s (l.take k) l[k]
        rw [← List.take_succ_eq_append_getElem hlt] at hsn1 hsn2
        obtain ⟨pb, hpb⟩ : ∃ x : RdS, x = runS s (l.take k) := ⟨_, rfl⟩
        rw [← hpb] at hT hgood hsn1 hsn2
        obtain ⟨cpu, hcpu⟩ : ∃ x, x = l[k].1 := ⟨_, rfl⟩
        obtain ⟨en, hen⟩ : ∃ x, x = l[k].2 := ⟨_, rfl⟩
        obtain ⟨pp, cc, hpe, hcells⟩ := HLV1.out.1.below hB
        injection hpe with hpe1 hpe2 hpe3
        subst hpe1
        clear hpe2 hpe3
        obtain ⟨b, off, hp, hcs⟩ := hcells (by intro e; rw [e] at hlt; simp at hlt)
        obtain ⟨hx, hy⟩ := hcs k hlt
        rw [← hcpu] at hx hsn1 hsn2
        rw [← hen] at hy hsn1 hsn2
        subst hp
        have HSN := Lib.hid (And.intro hsn1 hsn2)
        have HTK := Lib.hid (And.intro hok (And.intro hpb (And.intro hcpu hen)))
        obtain ⟨w3, hw3⟩ : ∃ X : World, X = wr.alloc (.cells #[.int .i64 cpu, .bool en] 86) := ⟨_, rfl⟩
        have hb3 : Below wr.heap.size wr w3 := by rw [hw3]; exact below1 _ _
        have hq0 : w3.cell? ⟨wr.heap.size, 0, none⟩ = some (.int .i64 cpu) := by rw [hw3]; simp
        have hq1 : w3.cell? ⟨wr.heap.size, 1, none⟩ = some (.bool en) := by rw [hw3]; simp
        have HZ3 := Lib.hid (show RBox w3 (W.heap.size + 1) 0 (.slice none 0 0) (.slice none 0 0) ∧ Below w1.heap.size w1 w3 ∧ TurnAt w3 z g h pb from ⟨hZ.below hb3, below_then hB hB.size hb3, hT.below hb3⟩)
        have HS2 := Lib.hid (show W.heap.size + 2 ≤ w1.heap.size ∧ Below W.heap.size W w1 from ⟨HF1.out.2.2.2, HF1.out.2.2.1⟩)
        have HTS := Lib.hid (And.intro hT.zg hT.zh)
        have hk0 : (0 : Int) ≤ (k : Int) := by omega
        have hkl : (k : Int) < (l.length : Int) := by omega
        have HW3 := Lib.hid hw3
        have HBL := Lib.hid (World.block_lt_of_cell? wr _ hx)
        have HCE := Lib.hid (enter_c z g h pb cpu w3 HZ3.out.2.2 hgood.lo hgood.l8 ⟨hgood.n0, hgood.n1⟩ hgood.range)
        have HCL := Lib.hid (leave_c z g h pb cpu w3 HZ3.out.2.2 hgood.lo hgood.l8 ⟨hgood.n0, hgood.n1⟩ hgood.range)
        clear hok hT hZ hB hsn1 hsn2 hpb hcpu hen hcells hcs hw3 hb3 hgood HI
        cases en with
        | true =>
          go_upto_region 8 with fail
          rw [← HW3.out]
          clear hx hy
          obtain ⟨e1, he1⟩ : ∃ x, x = stepE pb cpu true := ⟨_, rfl⟩
          rw [← he1] at HCE
          have HE1 := Lib.hid he1
          clear he1
          go_wp2_with fail
          (with_reducible refine HCE.out.mono ?_)
          rintro e w4 ⟨rfl, hk4, ht4⟩
          have hz4 : RBox w4 (W.heap.size + 1) 0 (.slice none 0 0) (.slice none 0 0) := HZ3.out.1.keeps hk4 (fun e => by have := HB5.out; have := HS2.out.1; omega)
          have hB4 : Below w1.heap.size w1 w4 := HZ3.out.2.1.trans (hk4.below HZ3.out.2.1.size (fun j e => by have := HB5.out; omega))
          have HZ4 := Lib.hid (And.intro hz4 hB4)
          by_cases hc : e1 = 0
          · have hq : (e1 != 0) = false := by rw [hc]; rfl
            have HI4 := Lib.hid (show okTo s (l.take (k + 1)) ∧ TurnAt w4 z g h (runS s (l.take (k + 1))) ∧ RBox w4 (W.heap.size + 1) 0 (.slice none 0 0) (.slice none 0 0) ∧ Below w1.heap.size w1 w4 from ⟨HSN.out.1.2 ⟨HTK.out.1, by rw [← HE1.out]; exact hc⟩, by rw [HSN.out.2]; exact ht4 hc, hz4, hB4⟩)
            clear hc hk4 ht4 hz4 hB4 hq0 hq1
            go_wp2
            go_roundw
            case rel => exact ⟨k + 1, by omega, rfl, HI4⟩
            case measure => first | omega | (simp [intOf]; omega)
          · have hq : (e1 != 0) = true := by rw [bne_iff_ne]; exact hc
            obtain ⟨g0, g1, g2⟩ := hz4.cells
            have m0 := hz4.marks 0
            have m1 := hz4.marks 1
            have m2 := hz4.marks 2
            have HP := Lib.hid (hz4.put 0 (.slice none 0 0) (.slice none 0 0))
            have HK := Lib.hid (RBox.putK w4 (W.heap.size + 1) 0 (.slice none 0 0) (.slice none 0 0))
            obtain ⟨w5, hw5⟩ : ∃ X : World, X = (((w4.setCell ⟨W.heap.size + 1, 0, none⟩ (.int .i64 0)).setCell ⟨W.heap.size + 1, 1, none⟩ (.slice none 0 0)).setCell ⟨W.heap.size + 1, 2, none⟩ (.slice none 0 0)) := ⟨_, rfl⟩
            rw [← hw5] at HP HK
            have HW5 := Lib.hid hw5
            have HC := Lib.hid hc
            clear hw5 hc hk4 ht4 hz4 hB4 hq0 hq1
            go_wp2
            rw [← HW5.out]
            refine bodyPost_ret (v := .tuple #[zeroR, .int .i64 ((k : Int) + 1), .int .i64 e1]) (HP.out.result3 rfl _ rfl rfl rfl) rfl ⟨.inl ⟨k, hlt, HTK.out.1, ?_, ?_⟩, ?_⟩
            · rw [← HTK.out.2.1, ← HTK.out.2.2.1, ← HTK.out.2.2.2, ← HE1.out]; exact HC.out
            · rw [← HTK.out.2.1, ← HTK.out.2.2.1, ← HTK.out.2.2.2, ← HE1.out]
            · have hB : Below W.heap.size W w4 := below_then HS2.out.2 HS2.out.2.size HZ4.out.2
              exact hB.trans (HK.out.below hB.size (fun j e => by omega))
        | false =>
          go_upto_region 8 with fail
          rw [← HW3.out]
          clear hx hy
          obtain ⟨e1, he1⟩ : ∃ x, x = stepE pb cpu false := ⟨_, rfl⟩
          rw [← he1] at HCL
          have HE1 := Lib.hid he1
          clear he1
          go_wp2_with fail
          (with_reducible refine HCL.out.mono ?_)
          rintro e w4 ⟨rfl, hk4, ht4⟩
          have hz4 : RBox w4 (W.heap.size + 1) 0 (.slice none 0 0) (.slice none 0 0) := HZ3.out.1.keeps hk4 (fun e => by have := HB5.out; have := HS2.out.1; omega)
          have hB4 : Below w1.heap.size w1 w4 := HZ3.out.2.1.trans (hk4.below HZ3.out.2.1.size (fun j e => by have := HB5.out; omega))
          have HZ4 := Lib.hid (And.intro hz4 hB4)
          by_cases hc : e1 = 0
          · have hq : (e1 != 0) = false := by rw [hc]; rfl
            have HI4 := Lib.hid (show okTo s (l.take (k + 1)) ∧ TurnAt w4 z g h (runS s (l.take (k + 1))) ∧ RBox w4 (W.heap.size + 1) 0 (.slice none 0 0) (.slice none 0 0) ∧ Below w1.heap.size w1 w4 from ⟨HSN.out.1.2 ⟨HTK.out.1, by rw [← HE1.out]; exact hc⟩, by rw [HSN.out.2]; exact ht4 hc, hz4, hB4⟩)
            clear hc hk4 ht4 hz4 hB4 hq0 hq1
            go_wp2
            go_roundw
            case rel => exact ⟨k + 1, by omega, rfl, HI4⟩
            case measure => first | omega | (simp [intOf]; omega)
          · have hq : (e1 != 0) = true := by rw [bne_iff_ne]; exact hc
            obtain ⟨g0, g1, g2⟩ := hz4.cells
            have m0 := hz4.marks 0
            have m1 := hz4.marks 1
            have m2 := hz4.marks 2
            have HP := Lib.hid (hz4.put 0 (.slice none 0 0) (.slice none 0 0))
            have HK := Lib.hid (RBox.putK w4 (W.heap.size + 1) 0 (.slice none 0 0) (.slice none 0 0))
            obtain ⟨w5, hw5⟩ : ∃ X : World, X = (((w4.setCell ⟨W.heap.size + 1, 0, none⟩ (.int .i64 0)).setCell ⟨W.heap.size + 1, 1, none⟩ (.slice none 0 0)).setCell ⟨W.heap.size + 1, 2, none⟩ (.slice none 0 0)) := ⟨_, rfl⟩
            rw [← hw5] at HP HK
            have HW5 := Lib.hid hw5
            have HC := Lib.hid hc
            clear hw5 hc hk4 ht4 hz4 hB4 hq0 hq1
            go_wp2
            rw [← HW5.out]
            refine bodyPost_ret (v := .tuple #[zeroR, .int .i64 ((k : Int) + 1), .int .i64 e1]) (HP.out.result3 rfl _ rfl rfl rfl) rfl ⟨.inl ⟨k, hlt, HTK.out.1, ?_, ?_⟩, ?_⟩
            · rw [← HTK.out.2.1, ← HTK.out.2.2.1, ← HTK.out.2.2.2, ← HE1.out]; exact HC.out
            · rw [← HTK.out.2.1, ← HTK.out.2.2.1, ← HTK.out.2.2.2, ← HE1.out]
            · have hB : Below W.heap.size W w4 := below_then HS2.out.2 HS2.out.2.size HZ4.out.2
              exact hB.trans (HK.out.below hB.size (fun j e => by omega))
      · obtain rfl : k = l.length := by omega
        have hti := HI.out
        rw [List.take_length] at hti
        obtain ⟨hok, hT, hZ, hB⟩ := hti
        obtain ⟨t0, t1, t2⟩ := hT.cells
        obtain ⟨g0, g1, g2⟩ := hZ.cells
        have m0 := hZ.marks 0
        have m1 := hZ.marks 1
        have m2 := hZ.marks 2
        obtain ⟨pb, hpb⟩ : ∃ x : RdS, x = runS s l := ⟨_, rfl⟩
        rw [← hpb] at hT t0 t1 t2
        obtain ⟨nl, hnl⟩ : ∃ x, x = pb.ns.length := ⟨_, rfl⟩
        obtain ⟨ol, hol⟩ : ∃ x, x = pb.os.length := ⟨_, rfl⟩
        obtain ⟨nw, hnw⟩ : ∃ x, x = pb.now := ⟨_, rfl⟩
        rw [← hnl] at t1
        rw [← hol] at t2
        rw [← hnw] at t0
        have HP := Lib.hid (hZ.put nw (.slice (some ⟨g, 0, none⟩) nl nl) (.slice (some ⟨h, 0, none⟩) ol ol))
        have HK := Lib.hid (RBox.putK wr (W.heap.size + 1) nw (.slice (some ⟨g, 0, none⟩) nl nl) (.slice (some ⟨h, 0, none⟩) ol ol))
        obtain ⟨w5, hw5⟩ : ∃ X : World, X = (((wr.setCell ⟨W.heap.size + 1, 0, none⟩ (.int .i64 nw)).setCell ⟨W.heap.size + 1, 1, none⟩ (.slice (some ⟨g, 0, none⟩) nl nl)).setCell ⟨W.heap.size + 1, 2, none⟩ (.slice (some ⟨h, 0, none⟩) ol ol)) := ⟨_, rfl⟩
        rw [← hw5] at HP HK
        have HW5 := Lib.hid hw5
        have HS2 := Lib.hid (show W.heap.size + 2 ≤ w1.heap.size ∧ Below W.heap.size W w1 from ⟨HF1.out.2.2.2, HF1.out.2.2.1⟩)
        have HFIN := Lib.hid (And.intro hok (And.intro hpb (And.intro hB (And.intro hT (And.intro hnl (And.intro hol hnw))))))
        clear hw5 hok hT hZ hB hpb hnl hol hnw HI hlt hk
        go_wp2
        rw [← HW5.out]
        obtain ⟨hok, hpb, hB, hT, hnl, hol, hnw⟩ := HFIN.out
        refine bodyPost_ret (v := .tuple #[.agg #[.int .i64 nw, .slice (some ⟨g, 0, none⟩) nl nl, .slice (some ⟨h, 0, none⟩) ol ol], .int .i64 (l.length : Int), .int .i64 0]) (HP.out.result3 rfl _ rfl rfl rfl) rfl ⟨.inr ⟨hok, g, h, ?_, ?_, hT.apart, ?_, ?_, ?_⟩, ?_⟩
        · have := HS2.out.1; have := HB5.out; omega
        · have := HS2.out.1; have := HB5.out; omega
        · rw [← hpb, ← hnl, ← hol, ← hnw]
        · rw [← hpb]; exact hT.nest.keeps HK.out (fun e => by have := HS2.out.1; have := HB5.out; omega)
        · rw [← hpb]; exact hT.opened.keeps HK.out (fun e => by have := HS2.out.1; have := HB5.out; omega)
        · have hB2 : Below W.heap.size W wr := below_then HS2.out.2 HS2.out.2.size hB
          exact hB2.trans (HK.out.below hB2.size (fun j e => by omega))

end Go.Proofs.YtdllhiihmpinoaaGreat
/-
  Package reader: Enter and Leave.
  Conditions: the ranges of Go's types.
-/
namespace Go.Proofs.YtdllhiihmpinoaaGreat
set_option maxRecDepth 100000
open Go.RowKit Go.Shelf
attribute [local go_sem] Oper.semAt_some

/-- What a step comes to: the readers that it answers, and the error. -/
def StepQ (B : Nat) (s : RdS) (c : Int) (en : Bool) (nw : Int) (p1 : Option Addr) (n1 c1 : Nat) (p2 : Option Addr) (n2 c2 : Nat) (err : Int) (w : World) : Prop :=
  ((mayB s.now s.ns s.os = false ∧ err = 210 ∨ Good s ∧ stepE s c en ≠ 0 ∧ err = stepE s c en) ∧ nw = 0 ∧ (p1 = none ∧ n1 = 0 ∧ c1 = 0) ∧ (p2 = none ∧ n2 = 0 ∧ c2 = 0)) ∨
  (Good s ∧ stepE s c en = 0 ∧ err = 0 ∧ nw = (stepS s c en).now ∧ ∃ g h : Nat, B ≤ g ∧ B ≤ h ∧ g ≠ h ∧ (p1 = some ⟨g, 0, none⟩ ∧ n1 = (stepS s c en).ns.length ∧ c1 = (stepS s c en).ns.length) ∧ (p2 = some ⟨h, 0, none⟩ ∧ n2 = (stepS s c en).os.length ∧ c2 = (stepS s c en).os.length) ∧ IBlock w g (stepS s c en).ns ∧ IBlock w h (stepS s c en).os)
theorem StepQ.keeps {B : Nat} {s : RdS} {c : Int} {en : Bool} {nw : Int} {p1 : Option Addr} {n1 c1 : Nat} {p2 : Option Addr} {n2 c2 : Nat} {err : Int} {w w' : World} {S : Nat → Prop} (h : StepQ B s c en nw p1 n1 c1 p2 n2 c2 err w) (hk : Keeps S w w') (hS : ∀ k, S k → k < B) : StepQ B s c en nw p1 n1 c1 p2 n2 c2 err w' := by
  rcases h with h | ⟨h1, h2, h3, h4, g, hh, h5, h6, h7, h8, h9, h10, h11⟩
  · exact .inl h
  · exact .inr ⟨h1, h2, h3, h4, g, hh, h5, h6, h7, h8, h9, h10.keeps hk (fun e => by have := hS _ e; omega), h11.keeps hk (fun e => by have := hS _ e; omega)⟩
/-- Run at one reading. -/
theorem run_one (s : RdS) (u v lv : Value) (c : Int) (en : Bool) (W : World) (hn : NumsAt W .i64 u s.ns) (ho : NumsAt W .i64 v s.os) (h1 : s.ns.length ≤ 9223372036854775807) (h2 : s.os.length ≤ 9223372036854775807) (hr : ∀ x ∈ s.os, I64 x) (hlv : RgsAt W lv [(c, en)]) :
    Calls Tryz.prog 137 #[.agg #[.int .i64 s.now, u, v], lv] W fun e w' => (∃ nw p1 n1 c1 p2 n2 c2 k err, e = .returned (.tuple #[.agg #[.int .i64 nw, .slice p1 n1 c1, .slice p2 n2 c2], .int .i64 k, .int .i64 err]) ∧ StepQ W.heap.size s c en nw p1 n1 c1 p2 n2 c2 err w') ∧ Below W.heap.size W w' := by
  cases hm : mayB s.now s.ns s.os with
  | false =>
    refine (run_no s.now u v lv s.ns s.os W hn ho h1 h2 hr hm).mono ?_
    rintro e w' ⟨rfl, hb⟩
    exact ⟨⟨0, none, 0, 0, none, 0, 0, 0, 210, rfl, .inl ⟨.inl ⟨hm, rfl⟩, rfl, ⟨rfl, rfl, rfl⟩, ⟨rfl, rfl, rfl⟩⟩⟩, hb⟩
  | true =>
    have g := (good_iff s).1 hm
    refine (run_yes s u v lv [(c, en)] W hn ho hlv (by simp) g).mono ?_
    rintro e w' ⟨h | h, hb⟩
    · obtain ⟨i, hi, h3, h4, rfl⟩ := h
      obtain rfl : i = 0 := by simp at hi; omega
      exact ⟨⟨0, none, 0, 0, none, 0, 0, _, _, rfl, .inl ⟨.inr ⟨g, h4, rfl⟩, rfl, ⟨rfl, rfl, rfl⟩, ⟨rfl, rfl, rfl⟩⟩⟩, hb⟩
    · obtain ⟨h3, gg, hh, h4, h5, h6, rfl, h7, h8⟩ := h
      exact ⟨⟨_, _, _, _, _, _, _, _, _, rfl, .inr ⟨g, h3.1, rfl, rfl, gg, hh, h4, h5, h6, ⟨rfl, rfl, rfl⟩, ⟨rfl, rfl, rfl⟩, h7, h8⟩⟩, hb⟩

set_option maxHeartbeats 4000000 in
theorem Enter_c (s : RdS) (u v : Value) (c : Int) (W : World) (hn : NumsAt W .i64 u s.ns) (ho : NumsAt W .i64 v s.os) (h1 : s.ns.length ≤ 9223372036854775807) (h2 : s.os.length ≤ 9223372036854775807) (hr : ∀ x ∈ s.os, I64 x) :
    Calls Tryz.prog 142 #[.agg #[.int .i64 s.now, u, v], .int .i64 c] W fun e w' => (∃ nw p1 n1 c1 p2 n2 c2 err, e = .returned (.tuple #[.agg #[.int .i64 nw, .slice p1 n1 c1, .slice p2 n2 c2], .int .i64 err]) ∧ StepQ (W.heap.size + 2) s c true nw p1 n1 c1 p2 n2 c2 err w') ∧ Below W.heap.size W w' := by
  have HF := Lib.hid (wR_facts W s.now u v)
  obtain ⟨w0, hw0⟩ : ∃ X, X = wR W s.now u v := ⟨_, rfl⟩
  rw [← hw0] at HF
  unfold wR at hw0
  obtain ⟨w1, hw1⟩ : ∃ X : World, X = w0.alloc (.cells #[.int .i64 c, .bool true] 86) := ⟨_, rfl⟩
  have hb1 : Below w0.heap.size w0 w1 := by rw [hw1]; exact below1 _ _
  have hz1 : w1.heap.size = W.heap.size + 3 := by rw [hw1, World.size_alloc, HF.out.2.2.2]
  have hlv : RgsAt w1 (.slice (some ⟨W.heap.size + 2, 0, none⟩) 1 1) [(c, true)] := ⟨_, _, rfl, fun _ => ⟨_, _, rfl, fun i hi => by
    obtain rfl : i = 0 := by simp at hi; omega
    have h : w1.heap[W.heap.size + 2]? = some (.cells #[.int .i64 c, .bool true] 86 (0, 0)) := by rw [hw1, ← HF.out.2.2.2]; exact World.alloc_heap_new _ _
    simp [World.cell?, h]⟩⟩
  have HC := Lib.hid (run_one s u v _ c true w1 (nums_below (nums_below hn HF.out.2.2.1) hb1) (nums_below (nums_below ho HF.out.2.2.1) hb1) h1 h2 hr hlv)
  have HF1 := Lib.hid (show RBox w1 W.heap.size s.now u v ∧ RBox w1 (W.heap.size + 1) 0 (.slice none 0 0) (.slice none 0 0) ∧ Below W.heap.size W w1 ∧ w1.heap.size = W.heap.size + 3 from ⟨HF.out.1.below hb1, HF.out.2.1.below hb1, below_then HF.out.2.2.1 HF.out.2.2.1.size hb1, hz1⟩)
  obtain ⟨d0, d1, d2⟩ := HF.out.1.cells
  obtain ⟨p, cp, rfl, -⟩ := hn
  obtain ⟨q, cq, rfl, -⟩ := ho
  have hz0 := HF.out.2.2.2
  have HW1 := Lib.hid hw1
  clear hr h1 h2 hlv hb1 hz1 hw1 HF
  go_enter Tryz.func142, Tryz.ntmps142
  go_wp2_with fail
  rw [← hw0]
  rw [← HW1.out]
  clear hw0 hz0
  (with_reducible refine HC.out.mono ?_)
  rintro e w2 ⟨⟨nw, p1, n1, c1, p2, n2, c2, k, err, rfl, hQ⟩, hb2⟩
  have hR2 := HF1.out.1.below hb2
  have hZ2 := HF1.out.2.1.below hb2
  have hB2 := below_then HF1.out.2.2.1 HF1.out.2.2.1.size hb2
  have hR3 := hR2.put nw (.slice p1 n1 c1) (.slice p2 n2 c2)
  have hk3 := RBox.putK w2 W.heap.size nw (.slice p1 n1 c1) (.slice p2 n2 c2)
  obtain ⟨w3, hw3⟩ : ∃ X : World, X = (((w2.setCell ⟨W.heap.size, 0, none⟩ (.int .i64 nw)).setCell ⟨W.heap.size, 1, none⟩ (.slice p1 n1 c1)).setCell ⟨W.heap.size, 2, none⟩ (.slice p2 n2 c2)) := ⟨_, rfl⟩
  rw [← hw3] at hR3 hk3
  have hZ3 := hZ2.keeps hk3 (by omega)
  have HB3 := Lib.hid (hB2.trans (hk3.below hB2.size (fun j e => by omega)))
  have HQ3 := Lib.hid ((hQ.keeps hk3 (fun j e => by have := HF1.out.2.2.2; omega)))
  obtain ⟨f0, f1, f2⟩ := hR2.cells
  have l0 := hR2.marks 0
  have l1 := hR2.marks 1
  have l2 := hR2.marks 2
  have HR3 := Lib.hid hR3
  have HZ3 := Lib.hid hZ3
  have HW3 := Lib.hid hw3
  clear hQ hb2 hR2 hZ2 hB2 hR3 hk3 hw3 hZ3 HC d0 d1 d2
  go_upto_region 2 with fail
  rw [← HW3.out]
  clear f0 f1 f2 l0 l1 l2 HW3
  obtain ⟨f0, f1, f2⟩ := HR3.out.cells
  obtain ⟨g0, g1, g2⟩ := HZ3.out.cells
  have m0 := HZ3.out.marks 0
  have m1 := HZ3.out.marks 1
  have m2 := HZ3.out.marks 2
  have HP := Lib.hid (HZ3.out.put nw (.slice p1 n1 c1) (.slice p2 n2 c2))
  have HK := Lib.hid (RBox.putK w3 (W.heap.size + 1) nw (.slice p1 n1 c1) (.slice p2 n2 c2))
  obtain ⟨w4, hw4⟩ : ∃ X : World, X = (((w3.setCell ⟨W.heap.size + 1, 0, none⟩ (.int .i64 nw)).setCell ⟨W.heap.size + 1, 1, none⟩ (.slice p1 n1 c1)).setCell ⟨W.heap.size + 1, 2, none⟩ (.slice p2 n2 c2)) := ⟨_, rfl⟩
  rw [← hw4] at HP HK
  have HW4 := Lib.hid hw4
  clear hw4
  go_wp2
  rw [← HW4.out]
  refine bodyPost_ret (v := .tuple #[.agg #[.int .i64 nw, .slice p1 n1 c1, .slice p2 n2 c2], .int .i64 err]) (HP.out.result2 rfl _ rfl rfl) rfl ⟨⟨_, _, _, _, _, _, _, _, rfl, ?_⟩, HB3.out.trans (HK.out.below HB3.out.size (fun j e => by omega))⟩
  rcases HQ3.out.keeps HK.out (fun j e => by have := HF1.out.2.2.2; omega) with h | ⟨h1, h2, h3, h4, g, hh, h5, h6, h7⟩
  · exact .inl h
  · exact .inr ⟨h1, h2, h3, h4, g, hh, by have := HF1.out.2.2.2; omega, by have := HF1.out.2.2.2; omega, h7⟩

set_option maxHeartbeats 4000000 in
theorem Leave_c (s : RdS) (u v : Value) (c : Int) (W : World) (hn : NumsAt W .i64 u s.ns) (ho : NumsAt W .i64 v s.os) (h1 : s.ns.length ≤ 9223372036854775807) (h2 : s.os.length ≤ 9223372036854775807) (hr : ∀ x ∈ s.os, I64 x) :
    Calls Tryz.prog 143 #[.agg #[.int .i64 s.now, u, v], .int .i64 c] W fun e w' => (∃ nw p1 n1 c1 p2 n2 c2 err, e = .returned (.tuple #[.agg #[.int .i64 nw, .slice p1 n1 c1, .slice p2 n2 c2], .int .i64 err]) ∧ StepQ (W.heap.size + 2) s c false nw p1 n1 c1 p2 n2 c2 err w') ∧ Below W.heap.size W w' := by
  have HF := Lib.hid (wR_facts W s.now u v)
  obtain ⟨w0, hw0⟩ : ∃ X, X = wR W s.now u v := ⟨_, rfl⟩
  rw [← hw0] at HF
  unfold wR at hw0
  obtain ⟨w1, hw1⟩ : ∃ X : World, X = w0.alloc (.cells #[.int .i64 c, .bool false] 86) := ⟨_, rfl⟩
  have hb1 : Below w0.heap.size w0 w1 := by rw [hw1]; exact below1 _ _
  have hz1 : w1.heap.size = W.heap.size + 3 := by rw [hw1, World.size_alloc, HF.out.2.2.2]
  have hlv : RgsAt w1 (.slice (some ⟨W.heap.size + 2, 0, none⟩) 1 1) [(c, false)] := ⟨_, _, rfl, fun _ => ⟨_, _, rfl, fun i hi => by
    obtain rfl : i = 0 := by simp at hi; omega
    have h : w1.heap[W.heap.size + 2]? = some (.cells #[.int .i64 c, .bool false] 86 (0, 0)) := by rw [hw1, ← HF.out.2.2.2]; exact World.alloc_heap_new _ _
    simp [World.cell?, h]⟩⟩
  have HC := Lib.hid (run_one s u v _ c false w1 (nums_below (nums_below hn HF.out.2.2.1) hb1) (nums_below (nums_below ho HF.out.2.2.1) hb1) h1 h2 hr hlv)
  have HF1 := Lib.hid (show RBox w1 W.heap.size s.now u v ∧ RBox w1 (W.heap.size + 1) 0 (.slice none 0 0) (.slice none 0 0) ∧ Below W.heap.size W w1 ∧ w1.heap.size = W.heap.size + 3 from ⟨HF.out.1.below hb1, HF.out.2.1.below hb1, below_then HF.out.2.2.1 HF.out.2.2.1.size hb1, hz1⟩)
  obtain ⟨d0, d1, d2⟩ := HF.out.1.cells
  obtain ⟨p, cp, rfl, -⟩ := hn
  obtain ⟨q, cq, rfl, -⟩ := ho
  have hz0 := HF.out.2.2.2
  have HW1 := Lib.hid hw1
  clear hr h1 h2 hlv hb1 hz1 hw1 HF
  go_enter Tryz.func143, Tryz.ntmps143
  go_wp2_with fail
  rw [← hw0]
  rw [← HW1.out]
  clear hw0 hz0
  (with_reducible refine HC.out.mono ?_)
  rintro e w2 ⟨⟨nw, p1, n1, c1, p2, n2, c2, k, err, rfl, hQ⟩, hb2⟩
  have hR2 := HF1.out.1.below hb2
  have hZ2 := HF1.out.2.1.below hb2
  have hB2 := below_then HF1.out.2.2.1 HF1.out.2.2.1.size hb2
  have hR3 := hR2.put nw (.slice p1 n1 c1) (.slice p2 n2 c2)
  have hk3 := RBox.putK w2 W.heap.size nw (.slice p1 n1 c1) (.slice p2 n2 c2)
  obtain ⟨w3, hw3⟩ : ∃ X : World, X = (((w2.setCell ⟨W.heap.size, 0, none⟩ (.int .i64 nw)).setCell ⟨W.heap.size, 1, none⟩ (.slice p1 n1 c1)).setCell ⟨W.heap.size, 2, none⟩ (.slice p2 n2 c2)) := ⟨_, rfl⟩
  rw [← hw3] at hR3 hk3
  have hZ3 := hZ2.keeps hk3 (by omega)
  have HB3 := Lib.hid (hB2.trans (hk3.below hB2.size (fun j e => by omega)))
  have HQ3 := Lib.hid ((hQ.keeps hk3 (fun j e => by have := HF1.out.2.2.2; omega)))
  obtain ⟨f0, f1, f2⟩ := hR2.cells
  have l0 := hR2.marks 0
  have l1 := hR2.marks 1
  have l2 := hR2.marks 2
  have HR3 := Lib.hid hR3
  have HZ3 := Lib.hid hZ3
  have HW3 := Lib.hid hw3
  clear hQ hb2 hR2 hZ2 hB2 hR3 hk3 hw3 hZ3 HC d0 d1 d2
  go_upto_region 2 with fail
  rw [← HW3.out]
  clear f0 f1 f2 l0 l1 l2 HW3
  obtain ⟨f0, f1, f2⟩ := HR3.out.cells
  obtain ⟨g0, g1, g2⟩ := HZ3.out.cells
  have m0 := HZ3.out.marks 0
  have m1 := HZ3.out.marks 1
  have m2 := HZ3.out.marks 2
  have HP := Lib.hid (HZ3.out.put nw (.slice p1 n1 c1) (.slice p2 n2 c2))
  have HK := Lib.hid (RBox.putK w3 (W.heap.size + 1) nw (.slice p1 n1 c1) (.slice p2 n2 c2))
  obtain ⟨w4, hw4⟩ : ∃ X : World, X = (((w3.setCell ⟨W.heap.size + 1, 0, none⟩ (.int .i64 nw)).setCell ⟨W.heap.size + 1, 1, none⟩ (.slice p1 n1 c1)).setCell ⟨W.heap.size + 1, 2, none⟩ (.slice p2 n2 c2)) := ⟨_, rfl⟩
  rw [← hw4] at HP HK
  have HW4 := Lib.hid hw4
  clear hw4
  go_wp2
  rw [← HW4.out]
  refine bodyPost_ret (v := .tuple #[.agg #[.int .i64 nw, .slice p1 n1 c1, .slice p2 n2 c2], .int .i64 err]) (HP.out.result2 rfl _ rfl rfl) rfl ⟨⟨_, _, _, _, _, _, _, _, rfl, ?_⟩, HB3.out.trans (HK.out.below HB3.out.size (fun j e => by omega))⟩
  rcases HQ3.out.keeps HK.out (fun j e => by have := HF1.out.2.2.2; omega) with h | ⟨h1, h2, h3, h4, g, hh, h5, h6, h7⟩
  · exact .inl h
  · exact .inr ⟨h1, h2, h3, h4, g, hh, by have := HF1.out.2.2.2; omega, by have := HF1.out.2.2.2; omega, h7⟩

end Go.Proofs.YtdllhiihmpinoaaGreat
/-
  Package reader: Check, Same, Quiet, Passed.
  Conditions: the ranges of Go's types.
-/
namespace Go.Proofs.YtdllhiihmpinoaaGreat
set_option maxRecDepth 100000
open Go.RowKit Go.Shelf
attribute [local go_sem] Oper.semAt_some

def sameB (s t : RdS) : Bool := decide (s.now = t.now) && (decide (s.ns = t.ns) && decide (s.os = t.os))
/-- Two boxes. -/
def wS (W : World) (now : Int) (u v : Value) (now' : Int) (u' v' : Value) : World := (W.alloc (.cells #[.int .i64 now, u, v] 24)).alloc (.cells #[.int .i64 now', u', v'] 24)
theorem wS_facts (W : World) (now : Int) (u v : Value) (now' : Int) (u' v' : Value) : RBox (wS W now u v now' u' v') W.heap.size now u v ∧ RBox (wS W now u v now' u' v') (W.heap.size + 1) now' u' v' ∧ Below W.heap.size W (wS W now u v now' u' v') := by
  refine ⟨(RBox.new W now u v).below (below1 _ _), ?_, below2 _ _ _⟩
  have := RBox.new (W.alloc (.cells #[.int .i64 now, u, v] 24)) now' u' v'
  rwa [World.size_alloc] at this

set_option maxHeartbeats 4000000 in
theorem same_c (s t : RdS) (u v u' v' : Value) (W : World) (hn : NumsAt W .i64 u s.ns) (ho : NumsAt W .i64 v s.os) (hn' : NumsAt W .i64 u' t.ns) (ho' : NumsAt W .i64 v' t.os)
    (l1 : s.ns.length ≤ 9223372036854775807) (l2 : s.os.length ≤ 9223372036854775807) (l3 : t.ns.length ≤ 9223372036854775807) (l4 : t.os.length ≤ 9223372036854775807) :
    Calls Tryz.prog 63 #[.agg #[.int .i64 s.now, u, v], .agg #[.int .i64 t.now, u', v']] W fun e w' => e = .returned (.bool (sameB s t)) ∧ Below W.heap.size W w' := by
  have HE1 := Lib.hid (fun (Z : World) (hb : Below W.heap.size W Z) => equalI_c u u' s.ns t.ns Z (nums_below hn hb) (nums_below hn' hb) l1 l3)
  have HE2 := Lib.hid (fun (Z : World) (hb : Below W.heap.size W Z) => equalI_c v v' s.os t.os Z (nums_below ho hb) (nums_below ho' hb) l2 l4)
  have HF := Lib.hid (wS_facts W s.now u v t.now u' v')
  obtain ⟨w0, hw0⟩ : ∃ X, X = wS W s.now u v t.now u' v' := ⟨_, rfl⟩
  rw [← hw0] at HF
  unfold wS at hw0
  obtain ⟨p, c, rfl, -⟩ := hn
  obtain ⟨p2, c2, rfl, -⟩ := ho
  obtain ⟨p', c', rfl, -⟩ := hn'
  obtain ⟨p2', c2', rfl, -⟩ := ho'
  obtain ⟨d0, d1, d2⟩ := HF.out.1.cells
  obtain ⟨e0, e1, e2⟩ := HF.out.2.1.cells
  have HB := Lib.hid HF.out.2.2
  clear l1 l2 l3 l4
  unfold sameB
  by_cases h1 : s.now = t.now
  · have q1 : (s.now == t.now) = true := by rw [beq_iff_eq]; exact h1
    rw [decide_eq_true h1, Bool.true_and]
    clear h1
    by_cases h2 : s.ns = t.ns
    · have HE := Lib.hid (HE1.out w0 HB.out)
      rw [decide_eq_true h2] at HE
      rw [decide_eq_true h2, Bool.true_and]
      clear h2 HE1
      go_enter Tryz.func63, Tryz.ntmps63
      go_wp2_with fail
      rw [← hw0]
      clear hw0
      (with_reducible refine HE.out.mono ?_)
      rintro e w1 ⟨rfl, hb1⟩
      have HB1 := Lib.hid (below_then HB.out HB.out.size hb1)
      obtain ⟨d0, d1, d2⟩ := (HF.out.1.below hb1).cells
      obtain ⟨e0, e1, e2⟩ := (HF.out.2.1.below hb1).cells
      have HEE := Lib.hid (HE2.out w1 HB1.out)
      clear hb1 HE HE2
      go_wp2_with fail
      (with_reducible refine HEE.out.mono ?_)
      rintro e w2 ⟨rfl, hb2⟩
      have HB2 := Lib.hid (below_then HB1.out HB1.out.size hb2)
      clear hb2
      go_wp2
      go_ret
      exact ⟨rfl, HB2.out⟩
    · have HE := Lib.hid (HE1.out w0 HB.out)
      rw [decide_eq_false h2] at HE
      rw [decide_eq_false h2, Bool.false_and]
      clear h2 HE1 HE2
      go_enter Tryz.func63, Tryz.ntmps63
      go_wp2_with fail
      rw [← hw0]
      clear hw0
      (with_reducible refine HE.out.mono ?_)
      rintro e w1 ⟨rfl, hb1⟩
      have HB1 := Lib.hid (below_then HB.out HB.out.size hb1)
      clear hb1 HE
      go_wp2
      go_ret
      exact ⟨rfl, HB1.out⟩
  · have q1 : (s.now == t.now) = false := by rw [beq_eq_false_iff_ne]; exact h1
    rw [decide_eq_false h1, Bool.false_and]
    clear h1 HE1 HE2
    go_enter Tryz.func63, Tryz.ntmps63
    go_wp2
    go_ret
    exact ⟨rfl, by first | exact HB.out | (rw [hw0] at HB; exact HB.out) | exact below2 _ _ _⟩

set_option maxHeartbeats 4000000 in
theorem check_c (s : RdS) (u v : Value) (W : World) (hn : NumsAt W .i64 u s.ns) (ho : NumsAt W .i64 v s.os) (h1 : s.ns.length ≤ 9223372036854775807) (h2 : s.os.length ≤ 9223372036854775807) (hr : ∀ x ∈ s.os, I64 x) :
    Calls Tryz.prog 89 #[.agg #[.int .i64 s.now, u, v]] W fun e w' => e = .returned (.int .i64 (if mayB s.now s.ns s.os = true then 0 else 210)) ∧ Below W.heap.size W w' := by
  obtain ⟨w0, hw0⟩ : ∃ X : World, X = W.alloc (.cells #[.int .i64 s.now, u, v] 24) := ⟨_, rfl⟩
  have hb0 : Below W.heap.size W w0 := by rw [hw0]; exact below1 _ _
  have HB := Lib.hid hb0
  have HC := Lib.hid (may_c s.now u v s.ns s.os w0 (nums_below hn hb0) (nums_below ho hb0) h1 h2 hr)
  have hbx : RBox w0 W.heap.size s.now u v := by rw [hw0]; exact RBox.new _ _ _ _
  obtain ⟨d0, d1, d2⟩ := hbx.cells
  obtain ⟨p, c, rfl, -⟩ := hn
  obtain ⟨p2, c2, rfl, -⟩ := ho
  clear hb0 hr h1 h2 hbx
  cases hm : mayB s.now s.ns s.os with
  | true =>
    rw [hm] at HC
    rw [if_pos rfl]
    clear hm
    go_enter Tryz.func89, Tryz.ntmps89
    go_wp2_with fail
    rw [← hw0]
    clear hw0
    (with_reducible refine HC.out.mono ?_)
    rintro e w1 ⟨rfl, hb1⟩
    have HB1 := Lib.hid (below_then HB.out HB.out.size hb1)
    clear hb1
    go_wp2
    go_ret
    exact ⟨rfl, HB1.out⟩
  | false =>
    rw [hm] at HC
    rw [if_neg Bool.false_ne_true]
    clear hm
    go_enter Tryz.func89, Tryz.ntmps89
    go_wp2_with fail
    rw [← hw0]
    clear hw0
    (with_reducible refine HC.out.mono ?_)
    rintro e w1 ⟨rfl, hb1⟩
    have HB1 := Lib.hid (below_then HB.out HB.out.size hb1)
    clear hb1
    go_wp2
    go_ret
    exact ⟨rfl, HB1.out⟩

/-- Is the CPU there, and quiet? -/
def quietB (s : RdS) (c : Int) : Bool := mayB s.now s.ns s.os && (hasB s.ns.length c && decide (s.ns.getD c.toNat 0 = 0))
set_option maxHeartbeats 4000000 in
theorem quiet_c (s : RdS) (u v : Value) (c : Int) (W : World) (hn : NumsAt W .i64 u s.ns) (ho : NumsAt W .i64 v s.os) (h1 : s.ns.length ≤ 9223372036854775807) (h2 : s.os.length ≤ 9223372036854775807) (hr : ∀ x ∈ s.os, I64 x) :
    Calls Tryz.prog 125 #[.agg #[.int .i64 s.now, u, v], .int .i64 c] W fun e w' => e = .returned (.bool (quietB s c)) ∧ Below W.heap.size W w' := by
  obtain ⟨w0, hw0⟩ : ∃ X : World, X = W.alloc (.cells #[.int .i64 s.now, u, v] 24) := ⟨_, rfl⟩
  have hb0 : Below W.heap.size W w0 := by rw [hw0]; exact below1 _ _
  have HB := Lib.hid hb0
  have HC := Lib.hid (may_c s.now u v s.ns s.os w0 (nums_below hn hb0) (nums_below ho hb0) h1 h2 hr)
  have hbx : RBox w0 W.heap.size s.now u v := by rw [hw0]; exact RBox.new _ _ _ _
  have HBX := Lib.hid hbx
  obtain ⟨d0, d1, d2⟩ := hbx.cells
  have HN := Lib.hid (nums_below hn hb0)
  obtain ⟨p, cp, rfl, -⟩ := hn
  obtain ⟨p2, cp2, rfl, -⟩ := ho
  have HH := Lib.hid (fun Z => has_c s.now c p s.ns.length cp (.slice p2 s.os.length cp2) Z)
  clear hb0 hr h1 h2 hbx
  unfold quietB
  cases hm : mayB s.now s.ns s.os with
  | false =>
    rw [hm] at HC
    rw [Bool.false_and]
    clear hm HH
    go_enter Tryz.func125, Tryz.ntmps125
    go_wp2_with fail
    rw [← hw0]
    clear hw0
    (with_reducible refine HC.out.mono ?_)
    rintro e w1 ⟨rfl, hb1⟩
    have HB1 := Lib.hid (below_then HB.out HB.out.size hb1)
    clear hb1
    go_wp2
    go_ret
    exact ⟨rfl, HB1.out⟩
  | true =>
    rw [hm] at HC
    rw [Bool.true_and]
    clear hm
    cases hh : hasB s.ns.length c with
    | false =>
      rw [hh] at HH
      rw [Bool.false_and]
      clear hh
      go_enter Tryz.func125, Tryz.ntmps125
      go_wp2_with fail
      rw [← hw0]
      clear hw0
      (with_reducible refine HC.out.mono ?_)
      rintro e w1 ⟨rfl, hb1⟩
      have HB1 := Lib.hid (below_then HB.out HB.out.size hb1)
      obtain ⟨d0, d1, d2⟩ := (HBX.out.below hb1).cells
      clear hb1
      go_wp2_with fail
      (with_reducible refine (HH.out _).mono ?_)
      rintro e w2 ⟨rfl, hb2⟩
      have HB2 := Lib.hid (below_then HB1.out HB1.out.size hb2)
      clear hb2
      go_wp2
      go_ret
      exact ⟨rfl, HB2.out⟩
    | true =>
      obtain ⟨i, rfl, hi⟩ := (has_iff _ _).1 hh
      rw [hh] at HH
      rw [Bool.true_and, Int.toNat_natCast, getD_lt hi]
      clear hh
      obtain ⟨n, hn⟩ : ∃ n, n = s.ns[i] := ⟨_, rfl⟩
      rw [← hn]
      have HX := Lib.hid (show ∃ b off, p = some ⟨b, off, none⟩ ∧ w0.cell? ⟨b, off + i, none⟩ = some (.int .i64 n) by
        obtain ⟨q, cc, e, hcs⟩ := HN.out
        injection e with e1 e2 e3
        subst e1
        obtain ⟨b, off, e, hc⟩ := hcs (by intro e; rw [e] at hi; simp at hi)
        exact ⟨b, off, e, by rw [hn]; exact hc i hi⟩)
      obtain ⟨b, off, rfl, hx⟩ := HX.out
      have hi0 : (0 : Int) ≤ (i : Int) := by omega
      have hil : (i : Int) < (s.ns.length : Int) := by omega
      clear hn HX
      by_cases hz : n = 0
      · have hq : (n == 0) = true := by rw [hz]; rfl
        rw [decide_eq_true hz]
        clear hz
        go_enter Tryz.func125, Tryz.ntmps125
        go_wp2_with fail
        rw [← hw0]
        clear hw0
        (with_reducible refine HC.out.mono ?_)
        rintro e w1 ⟨rfl, hb1⟩
        have HB1 := Lib.hid (below_then HB.out HB.out.size hb1)
        have HBX1 := Lib.hid (HBX.out.below hb1)
        obtain ⟨d0, d1, d2⟩ := HBX1.out.cells
        have hx1 := below_cell hb1 hx
        clear hb1 hx
        go_wp2_with fail
        (with_reducible refine (HH.out _).mono ?_)
        rintro e w2 ⟨rfl, hb2⟩
        have HB2 := Lib.hid (below_then HB1.out HB1.out.size hb2)
        obtain ⟨d0, d1, d2⟩ := (HBX1.out.below hb2).cells
        have hx2 := below_cell hb2 hx1
        clear hb2 hx1
        go_wp2
        go_ret
        exact ⟨rfl, HB2.out⟩
      · have hq : (n == 0) = false := by rw [beq_eq_false_iff_ne]; exact hz
        rw [decide_eq_false hz]
        clear hz
        go_enter Tryz.func125, Tryz.ntmps125
        go_wp2_with fail
        rw [← hw0]
        clear hw0
        (with_reducible refine HC.out.mono ?_)
        rintro e w1 ⟨rfl, hb1⟩
        have HB1 := Lib.hid (below_then HB.out HB.out.size hb1)
        have HBX1 := Lib.hid (HBX.out.below hb1)
        obtain ⟨d0, d1, d2⟩ := HBX1.out.cells
        have hx1 := below_cell hb1 hx
        clear hb1 hx
        go_wp2_with fail
        (with_reducible refine (HH.out _).mono ?_)
        rintro e w2 ⟨rfl, hb2⟩
        have HB2 := Lib.hid (below_then HB1.out HB1.out.size hb2)
        obtain ⟨d0, d1, d2⟩ := (HBX1.out.below hb2).cells
        have hx2 := below_cell hb2 hx1
        clear hb2 hx1
        go_wp2
        go_ret
        exact ⟨rfl, HB2.out⟩

end Go.Proofs.YtdllhiihmpinoaaGreat
/-
  Package reader: Passed.
  Conditions: the ranges of Go's types.
-/
namespace Go.Proofs.YtdllhiihmpinoaaGreat
set_option maxRecDepth 100000
open Go.RowKit Go.Shelf
attribute [local go_sem] Oper.semAt_some

def passB (now : Int) (o : Int) (step : Int) : Bool := decide (0 ≤ step) && (decide (step ≤ now) && (decide (o = 0) || decide (step < o)))
set_option maxHeartbeats 8000000 in
theorem passed_c (s : RdS) (u v : Value) (c : Int) (W : World) (hn : NumsAt W .i64 u s.ns) (ho : NumsAt W .i64 v s.os) (h1 : s.ns.length ≤ 9223372036854775807) (h2 : s.os.length ≤ 9223372036854775807) (hr : ∀ x ∈ s.os, I64 x) :
    Calls Tryz.prog 21 #[.agg #[.int .i64 s.now, u, v], .int .i64 c] W fun e w' => e = .returned (.bool (mayB s.now s.ns s.os && passB s.now (oldM (secs (s.ns.zip s.os))) c)) ∧ Below W.heap.size W w' := by
  obtain ⟨w0, hw0⟩ : ∃ X : World, X = W.alloc (.cells #[.int .i64 s.now, u, v] 24) := ⟨_, rfl⟩
  have hb0 : Below W.heap.size W w0 := by rw [hw0]; exact below1 _ _
  have HB := Lib.hid hb0
  have HC := Lib.hid (may_c s.now u v s.ns s.os w0 (nums_below hn hb0) (nums_below ho hb0) h1 h2 hr)
  have hbx : RBox w0 W.heap.size s.now u v := by rw [hw0]; exact RBox.new _ _ _ _
  have HBX := Lib.hid hbx
  obtain ⟨d0, d1, d2⟩ := hbx.cells
  have HN := Lib.hid (And.intro (nums_below hn hb0) (nums_below ho hb0))
  obtain ⟨p, cp, rfl, -⟩ := hn
  obtain ⟨p2, cp2, rfl, -⟩ := ho
  clear hb0 hr h1 h2 hbx
  cases hm : mayB s.now s.ns s.os with
  | false =>
    rw [hm] at HC
    rw [Bool.false_and]
    clear hm
    go_enter Tryz.func21, Tryz.ntmps21
    go_wp2_with fail
    rw [← hw0]
    clear hw0
    (with_reducible refine HC.out.mono ?_)
    rintro e w1 ⟨rfl, hb1⟩
    have HB1 := Lib.hid (below_then HB.out HB.out.size hb1)
    clear hb1
    go_wp2
    go_ret
    exact ⟨rfl, HB1.out⟩
  | true =>
    have g := (good_iff s).1 hm
    have HG := Lib.hid g
    rw [hm] at HC
    rw [Bool.true_and]
    clear hm g
    unfold passB
    by_cases c1 : 0 ≤ c
    · rw [decide_eq_true c1, Bool.true_and]
      by_cases c2 : c ≤ s.now
      · rw [decide_eq_true c2, Bool.true_and]
        have q1 : decide (c < 0) = false := by simp; omega
        have q2 : decide (s.now < c) = false := by simp; omega
        obtain ⟨o, hoo⟩ : ∃ o, o = oldM (secs (s.ns.zip s.os)) := ⟨_, rfl⟩
        rw [← hoo]
        by_cases c3 : o = 0
        · have q3 : (o == 0) = true := by rw [c3]; rfl
          rw [decide_eq_true c3, Bool.true_or]
          have HO := Lib.hid hoo
          clear hoo c3
          go_enter Tryz.func21, Tryz.ntmps21
          go_wp2_with fail
          rw [← hw0]
          clear hw0
          (with_reducible refine HC.out.mono ?_)
          rintro e w1 ⟨rfl, hb1⟩
          have HB1 := Lib.hid (below_then HB.out HB.out.size hb1)
          obtain ⟨d0, d1, d2⟩ := (HBX.out.below hb1).cells
          have HOL := Lib.hid (oldest_c s.now _ _ s.ns s.os w1 HG.out.lo HG.out.l8 (nums_below HN.out.1 hb1) (nums_below HN.out.2 hb1))
          rw [← HO.out] at HOL
          clear hb1
          go_wp2_with fail
          (with_reducible refine HOL.out.mono ?_)
          rintro e w2 ⟨rfl, hb2⟩
          have HB2 := Lib.hid (below_then HB1.out HB1.out.size hb2)
          clear hb2
          go_wp2
          go_ret
          exact ⟨rfl, HB2.out⟩
        · have q3 : (o == 0) = false := by rw [beq_eq_false_iff_ne]; exact c3
          rw [decide_eq_false c3, Bool.false_or]
          have HO := Lib.hid hoo
          clear hoo c3
          go_enter Tryz.func21, Tryz.ntmps21
          go_wp2_with fail
          rw [← hw0]
          clear hw0
          (with_reducible refine HC.out.mono ?_)
          rintro e w1 ⟨rfl, hb1⟩
          have HB1 := Lib.hid (below_then HB.out HB.out.size hb1)
          obtain ⟨d0, d1, d2⟩ := (HBX.out.below hb1).cells
          have HOL := Lib.hid (oldest_c s.now _ _ s.ns s.os w1 HG.out.lo HG.out.l8 (nums_below HN.out.1 hb1) (nums_below HN.out.2 hb1))
          rw [← HO.out] at HOL
          clear hb1
          go_wp2_with fail
          (with_reducible refine HOL.out.mono ?_)
          rintro e w2 ⟨rfl, hb2⟩
          have HB2 := Lib.hid (below_then HB1.out HB1.out.size hb2)
          clear hb2
          go_wp2
          go_ret
          exact ⟨rfl, HB2.out⟩
      · rw [decide_eq_false c2, Bool.false_and]
        have q1 : decide (c < 0) = false := by simp; omega
        have q2 : decide (s.now < c) = true := by simp; omega
        clear HG HN
        go_enter Tryz.func21, Tryz.ntmps21
        go_wp2_with fail
        rw [← hw0]
        clear hw0
        (with_reducible refine HC.out.mono ?_)
        rintro e w1 ⟨rfl, hb1⟩
        have HB1 := Lib.hid (below_then HB.out HB.out.size hb1)
        obtain ⟨d0, d1, d2⟩ := (HBX.out.below hb1).cells
        clear hb1
        go_wp2
        go_ret
        exact ⟨rfl, HB1.out⟩
    · rw [decide_eq_false c1, Bool.false_and]
      have q1 : decide (c < 0) = true := by simp; omega
      clear HG HN
      go_enter Tryz.func21, Tryz.ntmps21
      go_wp2_with fail
      rw [← hw0]
      clear hw0
      (with_reducible refine HC.out.mono ?_)
      rintro e w1 ⟨rfl, hb1⟩
      have HB1 := Lib.hid (below_then HB.out HB.out.size hb1)
      clear hb1
      go_wp2
      go_ret
      exact ⟨rfl, HB1.out⟩

end Go.Proofs.YtdllhiihmpinoaaGreat
/-
  Package reader: the mathematics of the statements: what is passed, and what comes of a step.
  Conditions: none.
-/
namespace Go.Proofs.YtdllhiihmpinoaaGreat

theorem oldM_spec : ∀ (n : Nat) (l : List (Int × Int)), l.length = n → (∀ x ∈ l, 1 ≤ x.2) → (l = [] → oldM l = 0) ∧ (l ≠ [] → ∃ x ∈ l, oldM l = x.2) ∧ ∀ x ∈ l, oldM l ≤ x.2
  | 0, l, hl, _ => by
    obtain rfl := List.eq_nil_of_length_eq_zero hl
    exact ⟨fun _ => rfl, fun h => absurd rfl h, fun x hx => by cases hx⟩
  | n + 1, l', hl, h => by
    obtain ⟨l, y, rfl⟩ : ∃ l y, l' = l ++ [y] := by
      rcases List.eq_nil_or_concat l' with rfl | ⟨l, y, e⟩
      · cases hl
      · exact ⟨l, y, by rw [e, List.concat_eq_append]⟩
    have ih := oldM_spec n l (by simpa using hl)
    obtain ⟨h1, h2, h3⟩ := ih (fun x hx => h x (by simp [hx]))
    have hy := h y (by simp)
    refine ⟨fun e => by simp at e, fun _ => ?_, fun x hx => ?_⟩
    · rw [oldM_snoc]
      by_cases ha : aheadB (oldM l) y.2 = true
      · rw [if_pos ha]; exact ⟨y, by simp, rfl⟩
      · rw [if_neg ha]
        have hne : l ≠ [] := fun e => ha (by unfold aheadB; rw [h1 e]; rfl)
        obtain ⟨x, hx, he⟩ := h2 hne
        exact ⟨x, by simp [hx], he⟩
    · rw [oldM_snoc]
      by_cases ha : aheadB (oldM l) y.2 = true
      · rw [if_pos ha]
        rcases List.mem_append.1 hx with hx | hx
        · have hle := h3 x hx
          obtain ⟨z, hz, he⟩ := h2 (by intro e; rw [e] at hx; cases hx)
          have hz1 := h z (by simp [hz])
          unfold aheadB at ha
          simp only [Bool.or_eq_true, decide_eq_true_eq] at ha
          omega
        · rw [List.mem_singleton.1 hx]; exact Int.le_refl _
      · rw [if_neg ha]
        unfold aheadB at ha
        simp only [Bool.or_eq_true, decide_eq_true_eq, not_or] at ha
        rcases List.mem_append.1 hx with hx | hx
        · exact h3 x hx
        · rw [List.mem_singleton.1 hx]; omega
theorem Good.secs {s : RdS} (g : Good s) : ∀ x, x ∈ secs (s.ns.zip s.os) ↔ ∃ i, i < s.ns.length ∧ nN s i ≠ 0 ∧ x = (nN s i, oO s i) := fun x => by
  have hz : (s.ns.zip s.os).length = s.ns.length := by have := g.lo; simp; omega
  unfold Go.Proofs.YtdllhiihmpinoaaGreat.secs
  rw [List.mem_filter]
  constructor
  · rintro ⟨h1, h2⟩
    obtain ⟨i, hi, rfl⟩ := List.getElem_of_mem h1
    have e := zip_at s g.lo i hi
    rw [e] at h2 ⊢
    refine ⟨i, by omega, fun h0 => ?_, rfl⟩
    have := g.each i (by omega)
    have hb := (secB_iff _ _).1 h2
    simp only at hb
    omega
  · rintro ⟨i, hi, h0, rfl⟩
    have e := zip_at s g.lo i (by omega)
    exact ⟨by rw [← e]; exact List.getElem_mem _, (secB_iff _ _).2 (fun h => h0 h.1)⟩
/-- What is passed. -/
theorem pass_iff {s : RdS} (g : Good s) (t : Int) : passB s.now (oldM (secs (s.ns.zip s.os))) t = true ↔ 0 ≤ t ∧ t ≤ s.now ∧ ∀ i, i < s.ns.length → nN s i ≠ 0 → t < oO s i := by
  have hp : ∀ x ∈ secs (s.ns.zip s.os), 1 ≤ x.2 := fun x hx => by
    obtain ⟨i, hi, h0, rfl⟩ := (g.secs x).1 hx
    have := g.each i hi
    simp only
    omega
  obtain ⟨h1, h2, h3⟩ := oldM_spec _ _ rfl hp
  unfold passB
  simp only [Bool.and_eq_true, Bool.or_eq_true, decide_eq_true_eq]
  constructor
  · rintro ⟨a, b, c⟩
    refine ⟨a, b, fun i hi h0 => ?_⟩
    have hm := (g.secs _).2 ⟨i, hi, h0, rfl⟩
    have h4 := h3 _ hm
    obtain ⟨x, hx, he⟩ := h2 (by intro e; rw [e] at hm; cases hm)
    have := hp x hx
    simp only at h4
    omega
  · rintro ⟨a, b, c⟩
    refine ⟨a, b, ?_⟩
    by_cases hne : secs (s.ns.zip s.os) = []
    · exact .inl (h1 hne)
    · obtain ⟨x, hx, he⟩ := h2 hne
      obtain ⟨i, hi, h0, rfl⟩ := (g.secs x).1 hx
      exact .inr (by rw [he]; exact c i hi h0)
theorem pass_now {s : RdS} (g : Good s) : passB s.now (oldM (secs (s.ns.zip s.os))) s.now = true ↔ ∀ i, i < s.ns.length → nN s i = 0 := by
  rw [pass_iff g]
  constructor
  · rintro ⟨_, _, h⟩ i hi
    have := g.each i hi
    by_cases h0 : nN s i = 0
    · exact h0
    · have := h i hi h0
      omega
  · intro h
    exact ⟨g.n0, Int.le_refl _, fun i hi h0 => absurd (h i hi) h0⟩
/-- Once a step is passed it stays so. -/
theorem pass_stays {s : RdS} {c : Int} {en : Bool} (g : Good s) (h : stepE s c en = 0) (t : Int) (hp : passB s.now (oldM (secs (s.ns.zip s.os))) t = true) : passB (stepS s c en).now (oldM (secs ((stepS s c en).ns.zip (stepS s c en).os))) t = true := by
  have g2 := g.step h
  rw [pass_iff g] at hp
  rw [pass_iff g2]
  obtain ⟨i, rfl, hi, hnow, h8, h0⟩ := stepE_zero h
  obtain ⟨p1, p2, p3⟩ := hp
  have hl := stepS_len s i en
  have hio : i < s.os.length := by have := g.lo; omega
  rw [stepS_now]
  refine ⟨p1, by omega, fun j hj hne => ?_⟩
  rw [hl.1] at hj
  rw [stepS_n s i en hi] at hne
  rw [stepS_o s i en hio]
  by_cases e : j = i
  · subst e
    rw [if_pos rfl] at hne
    rw [if_pos (rfl : j = j)]
    have := p3 j hj
    cases en
    · have := h0 rfl
      simp only [Bool.false_eq_true, if_false] at hne ⊢
      split <;> omega
    · simp only [if_true] at hne ⊢
      split <;> omega
  · rw [if_neg e] at hne
    rw [if_neg e]
    exact p3 j hj hne
theorem quiet_iff {s : RdS} (g : Good s) (i : Nat) (hi : i < s.ns.length) : quietB s (i : Int) = decide (nN s i = 0) := by
  unfold quietB
  rw [(good_iff s).2 g, Bool.true_and, (has_iff _ _).2 ⟨i, rfl, hi⟩, Bool.true_and, Int.toNat_natCast]
  rfl
/-- Behind an entry: not quiet, and the step is not passed. -/
theorem enter_then {s : RdS} {c : Int} (g : Good s) (h : stepE s c true = 0) : quietB (stepS s c true) c = false ∧ passB (stepS s c true).now (oldM (secs ((stepS s c true).ns.zip (stepS s c true).os))) (stepS s c true).now = false := by
  have g2 := g.step h
  obtain ⟨i, rfl, hi, hnow, h8, h0⟩ := stepE_zero h
  have hl := stepS_len s i true
  have hn := stepS_n s i true hi i
  rw [if_pos rfl, if_pos rfl] at hn
  have := g.each i hi
  refine ⟨by rw [quiet_iff g2 i (by omega), decide_eq_false (by omega)], ?_⟩
  cases hh : passB (stepS s i true).now (oldM (secs ((stepS s i true).ns.zip (stepS s i true).os))) (stepS s i true).now with
  | false => rfl
  | true =>
    have := (pass_now g2).1 hh i (by omega)
    omega
/-- Entered, and left: as it was, but for Now. -/
theorem enter_leave {s : RdS} {c : Int} (g : Good s) (h : stepE s c true = 0) : (s.now = 2147483646 ∧ stepE (stepS s c true) c false = 6) ∨
    (s.now < 2147483646 ∧ stepE (stepS s c true) c false = 0 ∧ (stepS (stepS s c true) c false).ns = s.ns ∧ (stepS (stepS s c true) c false).os = s.os) := by
  have g2 := g.step h
  obtain ⟨i, rfl, hi, hnow, h8, h0⟩ := stepE_zero h
  have hl := stepS_len s i true
  have hn := stepS_n s i true hi i
  rw [if_pos rfl, if_pos rfl] at hn
  have hi1 := g.each i hi
  have hs := stepS_now s i true
  have hh : hasB (stepS s i true).ns.length (i : Int) = true := (has_iff _ _).2 ⟨i, rfl, by omega⟩
  have hm := g2.n1
  by_cases e : s.now = 2147483646
  · refine .inl ⟨e, ?_⟩
    unfold stepE
    rw [if_neg (by rw [hh]; exact Bool.noConfusion), if_pos (.inl (by omega))]
  · refine .inr ⟨by omega, ?_, ?_, ?_⟩
    · unfold stepE
      rw [if_neg (by rw [hh]; exact Bool.noConfusion), if_neg (by rintro (h | ⟨h, _⟩); omega; cases h), if_neg]
      rintro ⟨_, h⟩
      rw [Int.toNat_natCast] at h
      have : nN (stepS s i true) i = 0 := h
      omega
    · refine List.ext_getElem (by rw [(stepS_len _ _ _).1, hl.1]) fun j h1 h2 => ?_
      have e2 := stepS_n (stepS s i true) i false (by omega) j
      rw [← getD_lt h1, ← getD_lt h2]
      show nN _ j = nN s j
      rw [e2]
      by_cases ej : j = i
      · subst ej
        rw [if_pos rfl, if_neg Bool.false_ne_true, hn]
        omega
      · rw [if_neg ej, stepS_n s i true hi, if_neg ej]
    · refine List.ext_getElem (by rw [(stepS_len _ _ _).2, hl.2]) fun j h1 h2 => ?_
      have hio : i < s.os.length := by have := g.lo; omega
      have e2 := stepS_o (stepS s i true) i false (by omega) j
      rw [← getD_lt h1, ← getD_lt h2]
      show oO _ j = oO s j
      rw [e2]
      by_cases ej : j = i
      · subst ej
        rw [if_pos rfl, if_neg Bool.false_ne_true, hn, stepS_o s j true hio, if_pos rfl, if_pos rfl]
        by_cases hz : nN s j = 0
        · rw [if_pos (by omega)]
          omega
        · rw [if_neg (by omega), if_neg hz]
      · rw [if_neg ej, stepS_o s i true hio, if_neg ej]

end Go.Proofs.YtdllhiihmpinoaaGreat
namespace Go.Proofs.YtdllhiihmpinoaaGreat
open Go.RowKit Go.Shelf

def ndB (g : GrS) (i : Nat) : Bool := g.nd.getD i false
structure GoodG (g : GrS) : Prop where
  l1 : 1 ≤ g.nd.length
  l8 : g.nd.length ≤ 8
  d0 : 0 ≤ g.done
  a1 : g.asked ≤ 2147483645
  on1 : g.on = true → (∃ i, i < g.nd.length ∧ ndB g i = true) ∧ g.done < g.asked ∧ g.asked ≤ g.done + 2
  on0 : g.on = false → (∀ i, i < g.nd.length → ndB g i = false) ∧ g.done ≤ g.asked ∧ g.asked ≤ g.done + 1
theorem many_pos (nd : List Bool) : 0 < manyG nd ↔ ∃ i, i < nd.length ∧ nd.getD i false = true := by
  unfold manyG
  constructor
  · intro h
    cases hl : trN nd nd.length with
    | nil => rw [hl] at h; simp at h
    | cons x r =>
      have hx : x ∈ trN nd nd.length := by rw [hl]; simp
      obtain ⟨i, h1, _, h2⟩ := (trN_mem nd x _).1 hx
      exact ⟨i, h1, h2⟩
  · rintro ⟨i, h1, h2⟩
    have : (i : Int) ∈ trN nd nd.length := (trN_mem nd _ _).2 ⟨i, h1, rfl, h2⟩
    exact List.length_pos_of_mem this
theorem goodG_iff (g : GrS) : mayG g = true ↔ GoodG g := by
  unfold mayG numsG mayCpus tellG
  constructor
  · intro h
    simp only [Bool.and_eq_true, decide_eq_true_eq] at h
    obtain ⟨⟨h1, h2, h3, h4⟩, h5⟩ := h
    refine ⟨by omega, by omega, h2, h4, fun ho => ?_, fun ho => ?_⟩
    · rw [if_pos ho] at h5
      simp only [Bool.and_eq_true, decide_eq_true_eq] at h5
      exact ⟨(many_pos _).1 (by omega), by omega, by omega⟩
    · rw [if_neg (by rw [ho]; exact Bool.false_ne_true)] at h5
      simp only [Bool.and_eq_true, decide_eq_true_eq] at h5
      refine ⟨fun i hi => ?_, h3, by omega⟩
      cases hb : ndB g i with
      | false => rfl
      | true => have := (many_pos g.nd).2 ⟨i, hi, hb⟩; omega
  · rintro ⟨l1, l8, d0, a1, on1, on0⟩
    have key : g.done ≤ g.asked := by
      cases ho : g.on with
      | true => have := on1 ho; omega
      | false => have := on0 ho; omega
    simp only [Bool.and_eq_true, decide_eq_true_eq]
    refine ⟨⟨by omega, d0, key, a1⟩, ?_⟩
    cases ho : g.on with
    | true =>
      obtain ⟨h1, h2, h3⟩ := on1 ho
      rw [if_pos rfl]
      simp only [Bool.and_eq_true, decide_eq_true_eq]
      have := (many_pos g.nd).2 h1
      omega
    | false =>
      obtain ⟨h1, h2, h3⟩ := on0 ho
      rw [if_neg Bool.false_ne_true]
      simp only [Bool.and_eq_true, decide_eq_true_eq]
      refine ⟨?_, by omega⟩
      have : ¬ 0 < manyG g.nd := fun h => by
        obtain ⟨i, hi, hb⟩ := (many_pos _).1 h
        have := h1 i hi
        unfold ndB at this
        rw [hb] at this; cases this
      omega
theorem last_iff (nd : List Bool) (i : Nat) : lastB nd i = true ↔ ∀ j, j < nd.length → nd.getD j false = true → j = i := by
  unfold lastB
  rw [List.all_eq_true]
  constructor
  · intro h j hj hb
    have := h (j : Int) ((trN_mem nd _ _).2 ⟨j, hj, rfl, hb⟩)
    rw [beq_iff_eq] at this
    omega
  · intro h x hx
    obtain ⟨j, hj, rfl, hb⟩ := (trN_mem nd x _).1 hx
    rw [beq_iff_eq, h j hj hb]
theorem getB_set (l : List Bool) (k : Nat) (x : Bool) (i : Nat) : (l.set k x).getD i false = if i = k ∧ k < l.length then x else l.getD i false := by
  rw [List.getD_eq_getElem?_getD, List.getElem?_set, List.getD_eq_getElem?_getD]
  by_cases h : k = i
  · subst h
    by_cases h2 : k < l.length
    · simp [h2]
    · simp [h2]
  · rw [if_neg h, if_neg (fun e => h e.1.symm)]
theorem GoodG.next {g : GrS} (h : GoodG g) : g.asked ≤ nextG g ∧ nextG g ≤ g.done + 2 ∧ g.done < nextG g := by
  unfold nextG
  cases ho : g.on with
  | true => have := h.on1 ho; rw [if_pos rfl]; omega
  | false => have := h.on0 ho; rw [if_neg Bool.false_ne_true]; omega
theorem GoodG.ask {g : GrS} (h : GoodG g) (he : askE g = 0) : GoodG (askG g) := by
  have hx : ¬ 2147483645 < nextG g := fun hx => by unfold askE at he; rw [if_pos hx] at he; cases he
  have hn := h.next
  refine ⟨h.l1, h.l8, h.d0, (by show nextG g ≤ _; omega), fun ho => ⟨(h.on1 ho).1, (by show g.done < nextG g; omega), (by show nextG g ≤ _; exact hn.2.1)⟩, fun ho => ⟨(h.on0 ho).1, (by show g.done ≤ nextG g; omega), ?_⟩⟩
  show nextG g ≤ _
  have ho' : g.on = false := ho
  unfold nextG
  rw [if_neg (by rw [ho']; exact Bool.false_ne_true)]
  exact Int.le_refl _
theorem GoodG.begin {g : GrS} (h : GoodG g) (he : beginE g = 0) : GoodG (beginG g) := by
  unfold beginE at he
  have ho : g.on = false := by cases ho : g.on with | false => rfl | true => rw [ho, if_pos rfl] at he; cases he
  rw [if_neg (by rw [ho]; exact Bool.false_ne_true)] at he
  have hne : ¬ g.asked = g.done := fun e => by rw [if_pos e] at he; cases he
  obtain ⟨h1, h2, h3⟩ := h.on0 ho
  refine ⟨by rw [beginG_len]; exact h.l1, by rw [beginG_len]; exact h.l8, h.d0, h.a1, fun _ => ⟨⟨0, by rw [beginG_len]; exact h.l1, ?_⟩, (by show g.done < g.asked; omega), (by show g.asked ≤ g.done + 2; omega)⟩, fun ho => by cases ho⟩
  unfold ndB beginG
  have := h.l1
  rw [List.getD_eq_getElem?_getD, List.getElem?_replicate, if_pos (by omega)]
  rfl
theorem GoodG.report {g : GrS} (h : GoodG g) (i : Nat) (ho : g.on = true) : GoodG (reportG g i) := by
  obtain ⟨⟨j, hj, hb⟩, h2, h3⟩ := h.on1 ho
  unfold reportG
  by_cases hl : lastB g.nd i = true
  · rw [if_pos hl]
    refine ⟨by simp only [List.length_set]; exact h.l1, by simp only [List.length_set]; exact h.l8, (by have := h.d0; show 0 ≤ g.done + 1; omega), h.a1, fun e => by (cases e), fun _ => ⟨fun k hk => ?_, (by show g.done + 1 ≤ g.asked; omega), (by show g.asked ≤ g.done + 1 + 1; omega)⟩⟩
    simp only [List.length_set] at hk
    unfold ndB
    simp only
    rw [getB_set]
    split
    · rfl
    · rename_i hn
      cases hb : g.nd.getD k false with
      | false => rfl
      | true =>
        have := (last_iff g.nd i).1 hl k hk hb
        subst this
        exact absurd ⟨rfl, hk⟩ hn
  · rw [if_neg hl]
    have : ∃ k, k < g.nd.length ∧ g.nd.getD k false = true ∧ k ≠ i := by
      refine Classical.byContradiction fun hc => hl ((last_iff g.nd i).2 fun k hk hb => ?_)
      exact Classical.byContradiction fun he => hc ⟨k, hk, hb, he⟩
    obtain ⟨k, hk, hb, hki⟩ := this
    refine ⟨by simp only [List.length_set]; exact h.l1, by simp only [List.length_set]; exact h.l8, h.d0, h.a1, fun _ => ⟨⟨k, by simp only [List.length_set]; exact hk, ?_⟩, h2, h3⟩, fun e => by rw [ho] at e; cases e⟩
    unfold ndB
    simp only
    rw [getB_set, if_neg (fun e => hki e.1)]
    exact hb
theorem GoodG.pick {g : GrS} (h : GoodG g) (i : Nat) (q : Bool) : GoodG (pickG g i q) := by
  unfold pickG
  split
  · rename_i ho
    split
    · exact h.report i ho
    · exact h
  · rename_i ho
    split
    · rename_i hlt
      exact h.begin (by unfold beginE; rw [if_neg ho, if_neg (by omega)])
    · exact h

/-- Readers, a grace, and the numbers that were asked for. -/
structure PlS where
  s : RdS
  g : GrS
  ls : List Int
/-- The error of a tick; 0: none. -/
def tickE (P : PlS) (t : Int × Int) : Int :=
  if t.1 = 1 then stepE P.s t.2 true else if t.1 = 2 then stepE P.s t.2 false else if t.1 = 3 then (if hasB P.g.nd.length t.2 = false then 2 else askE P.g) else if t.1 = 4 then (if hasB P.g.nd.length t.2 = false then 2 else 0) else 221
def tickP (P : PlS) (t : Int × Int) : PlS :=
  if t.1 = 1 then ⟨stepS P.s t.2 true, P.g, P.ls⟩ else if t.1 = 2 then ⟨stepS P.s t.2 false, P.g, P.ls⟩ else if t.1 = 3 then ⟨P.s, askG P.g, P.ls ++ [nextG P.g]⟩ else ⟨P.s, pickG P.g t.2.toNat (quietB P.s t.2), P.ls⟩
def playE : PlS → List (Int × Int) → Int
  | _, [] => 0
  | P, t :: l => if tickE P t = 0 then playE (tickP P t) l else tickE P t
def playP (P : PlS) (l : List (Int × Int)) : PlS := l.foldl tickP P
structure GoodP (P : PlS) : Prop where
  s : Good P.s
  g : GoodG P.g
  len : P.s.ns.length = P.g.nd.length
theorem GoodP.tick {P : PlS} (h : GoodP P) {t : Int × Int} (he : tickE P t = 0) : GoodP (tickP P t) := by
  unfold tickE at he
  unfold tickP
  by_cases h1 : t.1 = 1
  · rw [if_pos h1] at he ⊢
    exact ⟨h.s.step he, h.g, by rw [show (stepS P.s t.2 true).ns.length = P.s.ns.length from (stepS_len _ _ _).1]; exact h.len⟩
  · rw [if_neg h1] at he ⊢
    by_cases h2 : t.1 = 2
    · rw [if_pos h2] at he ⊢
      exact ⟨h.s.step he, h.g, by rw [show (stepS P.s t.2 false).ns.length = P.s.ns.length from (stepS_len _ _ _).1]; exact h.len⟩
    · rw [if_neg h2] at he ⊢
      by_cases h3 : t.1 = 3
      · rw [if_pos h3] at he ⊢
        have : askE P.g = 0 := by
          by_cases hh : hasB P.g.nd.length t.2 = false
          · rw [if_pos hh] at he; cases he
          · rw [if_neg hh] at he; exact he
        exact ⟨h.s, h.g.ask this, h.len⟩
      · rw [if_neg h3]
        exact ⟨h.s, h.g.pick _ _, by rw [show (pickG P.g t.2.toNat (quietB P.s t.2)).nd.length = P.g.nd.length from pickG_len _ _ _]; exact h.len⟩
theorem tick_ls (P : PlS) (t : Int × Int) : (tickP P t).ls.length ≤ P.ls.length + 1 := by
  unfold tickP
  repeat' split
  all_goals simp
theorem tick_len {P : PlS} (h : GoodP P) {t : Int × Int} (he : tickE P t = 0) : (tickP P t).g.nd.length = P.g.nd.length := by
  have h1 := (h.tick he).len
  unfold tickP
  repeat' split
  all_goals first | rfl | exact pickG_len _ _ _

end Go.Proofs.YtdllhiihmpinoaaGreat
