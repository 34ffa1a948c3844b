/-
  Package grace: what each kind of tick does to a turn.
  Conditions: the ranges of Go's types.
-/
import Derived.Test.YtfnpokddoffplaaJA6
import Derived.Test.YtfnpokddoffplaaJA4
/-
  Package grace: Begin, Report, Pick.
  Conditions: the ranges of Go's types.
-/
namespace Go.Proofs.Ytfnpokddoffplaa
set_option maxRecDepth 100000
open Go.RowKit Go.Shelf
attribute [local go_sem] Oper.semAt_some

/-- What an answered grace is. -/
def AnsG (B : Nat) (E : Int) (g' : GrS) (d a : Int) (on : Bool) (p : Option Addr) (n c : Nat) (x : Int) (w : World) : Prop :=
  (E ≠ 0 ∧ x = E ∧ d = 0 ∧ a = 0 ∧ on = false ∧ p = none ∧ n = 0 ∧ c = 0) ∨ (E = 0 ∧ x = 0 ∧ d = g'.done ∧ a = g'.asked ∧ on = g'.on ∧ ∃ nb, p = some ⟨nb, 0, none⟩ ∧ n = g'.nd.length ∧ c = g'.nd.length ∧ BBlock w nb g'.nd ∧ B ≤ nb)
theorem AnsG.keeps {S : Nat → Prop} {B : Nat} {E : Int} {g' : GrS} {d a : Int} {on : Bool} {p : Option Addr} {n c : Nat} {x : Int} {w w' : World} (h : AnsG B E g' d a on p n c x w) (hk : Keeps S w w') (hS : ∀ k, S k → k < B) : AnsG B E g' d a on p n c x w' := by
  rcases h with h | ⟨h1, h2, h3, h4, h5, nb, h6, h7, h8, h9, h10⟩
  · exact .inl h
  · exact .inr ⟨h1, h2, h3, h4, h5, nb, h6, h7, h8, h9.keeps hk (fun e => by have := hS _ e; omega), h10⟩
theorem AnsG.mono {B B' : Nat} {E : Int} {g' : GrS} {d a : Int} {on : Bool} {p : Option Addr} {n c : Nat} {x : Int} {w : World} (h : AnsG B E g' d a on p n c x w) (hB : B' ≤ B) : AnsG B' E g' d a on p n c x w := by
  rcases h with h | ⟨h1, h2, h3, h4, h5, nb, h6, h7, h8, h9, h10⟩
  · exact .inl h
  · exact .inr ⟨h1, h2, h3, h4, h5, nb, h6, h7, h8, h9, Nat.le_trans hB h10⟩
def TriR (B z : Nat) (E : Int) (g' : GrS) (ls : List Int) (t : Value) (x : Int) (X : World) : Prop := ∃ d a on pn nn cn pl nl cl,
  t = .agg #[.int .i64 0, .slice none 0 0, .slice none 0 0, .int .i64 d, .int .i64 a, .bool on, .slice pn nn cn, .slice pl nl cl] ∧ AnsG B E g' d a on pn nn cn x X ∧ (E = 0 → X.ownsRow z 3 1 (.slice pl nl cl) ls.length (ls.map (Value.int .i64)))
theorem tri_of (K : Nat) (caps : Array Value) (W : World) (E : Int) (g' : GrS) (ls : List Int) (hcf : ∀ (args : Array Value) (w : World), (callFunc K args).run Try.prog w = .ok (.enter K args) w)
    (C : ∀ W0, TBox W0 W.heap.size 0 nilV nilV 0 0 false nilV nilV → Boxed W0 (W.heap.size + 1) 29 (.int .i64 0) → Below W.heap.size W W0 → W0.heap.size = W.heap.size + 2 → Calls Try.prog K (#[.pointer (some ⟨W.heap.size, 0, none⟩)] ++ caps) W0 fun e w' => DoQ W.heap.size W0.heap.size E g' ls e W0 w') :
    Calls Try.prog 40 #[.func (.func K) #[] caps] W fun e w' => (∃ t x, e = .returned (.tuple #[t, .int .i64 x]) ∧ TriR (W.heap.size + 2) W.heap.size E g' ls t x w') ∧ Below W.heap.size W w' := by
  obtain ⟨f1, f2, f3, f4⟩ := wT_facts W
  refine tried_K K caps W hcf (TriR (W.heap.size + 2) W.heap.size E g' ls) ((C (wT W) f1 f2 f3 f4).mono ?_)
  rintro e w' ⟨hk, h⟩
  have hB : Below W.heap.size W w' := f3.trans (hk.below f3.size (fun k e => by omega))
  have he : Boxed w' (W.heap.size + 1) 29 (.int .i64 0) := (hk.block _ f2.lt (by omega)).trans f2
  refine ⟨hB, ?_⟩
  rcases h with ⟨h1, rfl, now, u, v, d, a, on, nv, lv, h2, h3⟩ | ⟨h1, rfl, nb, lv, k, hnb⟩
  · exact ⟨now, u, v, d, a, on, nv, lv, h2, h3, he, .inl ⟨E, rfl, fun X _ => ⟨0, 0, false, none, 0, 0, none, 0, 0, rfl, .inl ⟨h1, rfl, rfl, rfl, rfl, rfl, rfl, rfl⟩, fun h => absurd h h1⟩⟩⟩
  · refine ⟨_, _, _, _, _, _, _, _, k.box, ⟨nil_sl, nil_sl, ⟨_, _, _, rfl⟩, owns_sl k.nums⟩, he, .inr ⟨rfl, fun X hX => ?_⟩⟩
    obtain ⟨pl, cl, rfl⟩ := owns_slice k.nums
    refine ⟨_, _, _, _, _, _, _, _, _, rfl, .inr ⟨h1, rfl, rfl, rfl, rfl, nb, rfl, rfl, rfl, k.needs.keeps hX ?_, by omega⟩, fun _ => hX.row k.nums (fun q hq e => ?_)⟩
    · rintro (e | e) <;> omega
    · rcases e with e | e
      · exact k.box.ne_row k.nums q hq e
      · obtain ⟨c, f, h1⟩ := Lib.ownsRow_kind k.nums q hq
        have h2 : w'.heap[W.heap.size + 1]? = _ := he
        rw [e, h2] at h1; injection h1 with h1; injection h1 with _ h1 _; revert h1; decide

set_option maxHeartbeats 8000000 in
theorem gBegin_c (g : GrS) (v : Value)  (W : World) (hv : BoolsAt W v g.nd) (hl : g.nd.length ≤ 9223372036854775807) :
    Calls Try.prog 12 #[.agg #[.int .i64 g.done, .int .i64 g.asked, .bool g.on, v]] W fun e w' => (∃ d a on p n cc x, e = .returned (.tuple #[.agg #[.int .i64 d, .int .i64 a, .bool on, .slice p n cc], .int .i64 x]) ∧ AnsG W.heap.size (errG g (beginE g)) (beginG g) d a on p n cc x w') ∧ Below W.heap.size W w' := by
  have hmf : ∀ (fn : Fn) (first cap : Array Value) (w : World), (Instr.makeFunc fn first cap).run Try.prog w = .ok (.func fn first cap) w := fun _ _ _ _ => rfl
  obtain ⟨w0, hw0⟩ : ∃ X : World, X = ((W.alloc (.cells #[.int .i64 g.done, .int .i64 g.asked, .bool g.on, v] 24)).alloc (.cells #[.int .i64 0, .int .i64 0, .bool false, .slice none 0 0] 24)) := ⟨_, rfl⟩
  have HF := Lib.hid (show GBox w0 W.heap.size g.done g.asked g.on v ∧ GBox w0 (W.heap.size + 1) 0 0 false (.slice none 0 0) ∧ Below W.heap.size W w0 ∧ w0.heap.size = W.heap.size + 2 from ⟨by rw [hw0]; exact (GBox.new W _ _ _ _).below (below1 _ _), by
      rw [hw0]
      have := GBox.new (W.alloc (.cells #[.int .i64 g.done, .int .i64 g.asked, .bool g.on, v] 24)) 0 0 false (.slice none 0 0)
      simpa using this, by rw [hw0]; exact below2 _ _ _ , by rw [hw0]; simp⟩)
  have HV := Lib.hid (bools_below hv HF.out.2.2.1)
  have HT := Lib.hid (tri_of 44 #[.pointer (some ⟨W.heap.size, 0, none⟩)] w0 (errG g (beginE g)) (beginG g) [] (fun _ _ => rfl) (fun W0 kb _ hb hz => by
    have := begin1_c w0.heap.size W.heap.size g v W0 kb (HF.out.1.below hb) (bools_below HV.out hb) hl
    exact this))
  obtain ⟨p0, c0, rfl, -⟩ := hv
  clear hl
  go_enter Try.func12, Try.ntmps12
  go_wp2_with fail
  rw [← hw0]
  clear hw0
  (with_reducible refine HT.out.mono ?_)
  rintro e w1 ⟨⟨t, x, rfl, d, a, on, pn, nn, cn, pl, nl, cl, rfl, hA, -⟩, hb1⟩
  obtain ⟨w2, hw2⟩ : ∃ X : World, X = w1.alloc (.cells #[.int .i64 0, .slice none 0 0, .slice none 0 0, .int .i64 d, .int .i64 a, .bool on, .slice pn nn cn, .slice pl nl cl] 71) := ⟨_, rfl⟩
  have hb2 : Below w1.heap.size w1 w2 := by rw [hw2]; exact below1 _ _
  have hz1 : W.heap.size + 1 < w1.heap.size := by have := HF.out.2.2.2; have := hb1.size; omega
  have HX := Lib.hid (show GBox w2 (W.heap.size + 1) 0 0 false (.slice none 0 0) ∧ AnsG (w0.heap.size + 2) (errG g (beginE g)) (beginG g) d a on pn nn cn x w2 ∧ Below W.heap.size W w2 from ⟨(HF.out.2.1.below hb1).below hb2, hA.keeps (S := fun _ => False) (Keeps.of_below hb2) (fun _ h => h.elim), below_then (below_then HF.out.2.2.1 HF.out.2.2.1.size hb1) (below_then HF.out.2.2.1 HF.out.2.2.1.size hb1).size hb2⟩)
  obtain ⟨d0, d1, d2, d3⟩ := HX.out.1.cells
  have m0 := HX.out.1.marks 0
  have m1 := HX.out.1.marks 1
  have m2 := HX.out.1.marks 2
  have m3 := HX.out.1.marks 3
  have HP := Lib.hid (HX.out.1.put d a on (.slice pn nn cn))
  have HK := Lib.hid (GBox.putK w2 (W.heap.size + 1) d a on (.slice pn nn cn))
  have HZ := Lib.hid HF.out.2.2.2
  rw [hw2] at d0 d1 d2 d3 m0 m1 m2 m3 HP
  have HW2 := Lib.hid hw2
  clear hw2 hb2 hb1 hA HT HF HV hz1
  go_wp2
  refine bodyPost_ret (HP.out.result2 rfl _ rfl rfl) rfl ⟨⟨_, _, _, _, _, _, _, rfl, ?_⟩, ?_⟩
  · rw [← HW2.out]; exact (AnsG.keeps (B := w0.heap.size + 2) HX.out.2.1 HK.out (fun k e => by have := HZ.out; omega)).mono (by have := HZ.out; omega)
  · rw [← HW2.out]; exact HX.out.2.2.trans (HK.out.below HX.out.2.2.size (fun k e => by omega))

set_option maxHeartbeats 8000000 in
theorem gReport_c (g : GrS) (v : Value) (c : Int) (W : World) (hv : BoolsAt W v g.nd) (hl : g.nd.length ≤ 9223372036854775807) :
    Calls Try.prog 18 #[.agg #[.int .i64 g.done, .int .i64 g.asked, .bool g.on, v], .int .i64 c] W fun e w' => (∃ d a on p n cc x, e = .returned (.tuple #[.agg #[.int .i64 d, .int .i64 a, .bool on, .slice p n cc], .int .i64 x]) ∧ AnsG W.heap.size (errG g (reportE g c)) (reportG g c.toNat) d a on p n cc x w') ∧ Below W.heap.size W w' := by
  have hmf : ∀ (fn : Fn) (first cap : Array Value) (w : World), (Instr.makeFunc fn first cap).run Try.prog w = .ok (.func fn first cap) w := fun _ _ _ _ => rfl
  obtain ⟨w0, hw0⟩ : ∃ X : World, X = (((W.alloc (.cells #[.int .i64 g.done, .int .i64 g.asked, .bool g.on, v] 24)).alloc (.cells #[.int .i64 c] 3)).alloc (.cells #[.int .i64 0, .int .i64 0, .bool false, .slice none 0 0] 24)) := ⟨_, rfl⟩
  have HF := Lib.hid (show GBox w0 W.heap.size g.done g.asked g.on v ∧ Boxed w0 (W.heap.size + 1) 3 (.int .i64 c) ∧ GBox w0 (W.heap.size + 2) 0 0 false (.slice none 0 0) ∧ Below W.heap.size W w0 ∧ w0.heap.size = W.heap.size + 3 from ⟨by rw [hw0]; exact ((GBox.new W _ _ _ _).below (below1 _ _)).below (below1 _ _), by
      rw [hw0]
      have := ((Boxed.new (W.alloc (.cells #[.int .i64 g.done, .int .i64 g.asked, .bool g.on, v] 24)) 3 (.int .i64 c)).alloc (.cells #[.int .i64 0, .int .i64 0, .bool false, .slice none 0 0] 24))
      simpa using this, by
      rw [hw0]
      have := GBox.new ((W.alloc (.cells #[.int .i64 g.done, .int .i64 g.asked, .bool g.on, v] 24)).alloc (.cells #[.int .i64 c] 3)) 0 0 false (.slice none 0 0)
      simpa using this, by rw [hw0]; exact below3 _ _ _ _ , by rw [hw0]; simp⟩)
  have HV := Lib.hid (bools_below hv HF.out.2.2.2.1)
  have HT := Lib.hid (tri_of 46 #[.pointer (some ⟨W.heap.size, 0, none⟩), .pointer (some ⟨W.heap.size + 1, 0, none⟩)] w0 (errG g (reportE g c)) (reportG g c.toNat) [] (fun _ _ => rfl) (fun W0 kb _ hb hz => by
    have := reportc_c w0.heap.size W.heap.size g v (W.heap.size + 1) c W0 kb (HF.out.1.below hb) (bools_below HV.out hb) hl (boxed_under HF.out.2.1 hb) (by have := HF.out.2.2.2.2; omega)
    exact this))
  obtain ⟨p0, c0, rfl, -⟩ := hv
  clear hl
  go_enter Try.func18, Try.ntmps18
  go_wp2_with fail
  rw [← hw0]
  clear hw0
  (with_reducible refine HT.out.mono ?_)
  rintro e w1 ⟨⟨t, x, rfl, d, a, on, pn, nn, cn, pl, nl, cl, rfl, hA, -⟩, hb1⟩
  obtain ⟨w2, hw2⟩ : ∃ X : World, X = w1.alloc (.cells #[.int .i64 0, .slice none 0 0, .slice none 0 0, .int .i64 d, .int .i64 a, .bool on, .slice pn nn cn, .slice pl nl cl] 71) := ⟨_, rfl⟩
  have hb2 : Below w1.heap.size w1 w2 := by rw [hw2]; exact below1 _ _
  have hz1 : W.heap.size + 2 < w1.heap.size := by have := HF.out.2.2.2.2; have := hb1.size; omega
  have HX := Lib.hid (show GBox w2 (W.heap.size + 2) 0 0 false (.slice none 0 0) ∧ AnsG (w0.heap.size + 2) (errG g (reportE g c)) (reportG g c.toNat) d a on pn nn cn x w2 ∧ Below W.heap.size W w2 from ⟨(HF.out.2.2.1.below hb1).below hb2, hA.keeps (S := fun _ => False) (Keeps.of_below hb2) (fun _ h => h.elim), below_then (below_then HF.out.2.2.2.1 HF.out.2.2.2.1.size hb1) (below_then HF.out.2.2.2.1 HF.out.2.2.2.1.size hb1).size hb2⟩)
  obtain ⟨d0, d1, d2, d3⟩ := HX.out.1.cells
  have m0 := HX.out.1.marks 0
  have m1 := HX.out.1.marks 1
  have m2 := HX.out.1.marks 2
  have m3 := HX.out.1.marks 3
  have HP := Lib.hid (HX.out.1.put d a on (.slice pn nn cn))
  have HK := Lib.hid (GBox.putK w2 (W.heap.size + 2) d a on (.slice pn nn cn))
  have HZ := Lib.hid HF.out.2.2.2.2
  rw [hw2] at d0 d1 d2 d3 m0 m1 m2 m3 HP
  have HW2 := Lib.hid hw2
  clear hw2 hb2 hb1 hA HT HF HV hz1
  go_wp2
  refine bodyPost_ret (HP.out.result2 rfl _ rfl rfl) rfl ⟨⟨_, _, _, _, _, _, _, rfl, ?_⟩, ?_⟩
  · rw [← HW2.out]; exact (AnsG.keeps (B := w0.heap.size + 2) HX.out.2.1 HK.out (fun k e => by have := HZ.out; omega)).mono (by have := HZ.out; omega)
  · rw [← HW2.out]; exact HX.out.2.2.trans (HK.out.below HX.out.2.2.size (fun k e => by omega))

set_option maxHeartbeats 8000000 in
theorem gPick_c (g : GrS) (v : Value) (c : Int) (q : Bool) (W : World) (hv : BoolsAt W v g.nd) (hl : g.nd.length ≤ 9223372036854775807) :
    Calls Try.prog 19 #[.agg #[.int .i64 g.done, .int .i64 g.asked, .bool g.on, v], .int .i64 c, .bool q] W fun e w' => (∃ d a on p n cc x, e = .returned (.tuple #[.agg #[.int .i64 d, .int .i64 a, .bool on, .slice p n cc], .int .i64 x]) ∧ AnsG W.heap.size (errG g (pickE g c)) (pickG g c.toNat q) d a on p n cc x w') ∧ Below W.heap.size W w' := by
  have hmf : ∀ (fn : Fn) (first cap : Array Value) (w : World), (Instr.makeFunc fn first cap).run Try.prog w = .ok (.func fn first cap) w := fun _ _ _ _ => rfl
  obtain ⟨w0, hw0⟩ : ∃ X : World, X = ((((W.alloc (.cells #[.int .i64 g.done, .int .i64 g.asked, .bool g.on, v] 24)).alloc (.cells #[.int .i64 c] 3)).alloc (.cells #[.bool q] 4)).alloc (.cells #[.int .i64 0, .int .i64 0, .bool false, .slice none 0 0] 24)) := ⟨_, rfl⟩
  have HF := Lib.hid (show GBox w0 W.heap.size g.done g.asked g.on v ∧ Boxed w0 (W.heap.size + 1) 3 (.int .i64 c) ∧ Boxed w0 (W.heap.size + 2) 4 (.bool q) ∧ GBox w0 (W.heap.size + 3) 0 0 false (.slice none 0 0) ∧ Below W.heap.size W w0 ∧ w0.heap.size = W.heap.size + 4 from ⟨by rw [hw0]; exact (((GBox.new W _ _ _ _).below (below1 _ _)).below (below1 _ _)).below (below1 _ _), by
      rw [hw0]
      have := (((Boxed.new (W.alloc (.cells #[.int .i64 g.done, .int .i64 g.asked, .bool g.on, v] 24)) 3 (.int .i64 c)).alloc (.cells #[.bool q] 4)).alloc (.cells #[.int .i64 0, .int .i64 0, .bool false, .slice none 0 0] 24))
      simpa using this, by
      rw [hw0]
      have := ((Boxed.new ((W.alloc (.cells #[.int .i64 g.done, .int .i64 g.asked, .bool g.on, v] 24)).alloc (.cells #[.int .i64 c] 3)) 4 (.bool q)).alloc (.cells #[.int .i64 0, .int .i64 0, .bool false, .slice none 0 0] 24))
      simpa using this, by
      rw [hw0]
      have := GBox.new (((W.alloc (.cells #[.int .i64 g.done, .int .i64 g.asked, .bool g.on, v] 24)).alloc (.cells #[.int .i64 c] 3)).alloc (.cells #[.bool q] 4)) 0 0 false (.slice none 0 0)
      simpa using this, by rw [hw0]; exact below4 _ _ _ _ _ , by rw [hw0]; simp⟩)
  have HV := Lib.hid (bools_below hv HF.out.2.2.2.2.1)
  have HT := Lib.hid (tri_of 48 #[.pointer (some ⟨W.heap.size, 0, none⟩), .pointer (some ⟨W.heap.size + 1, 0, none⟩), .pointer (some ⟨W.heap.size + 2, 0, none⟩)] w0 (errG g (pickE g c)) (pickG g c.toNat q) [] (fun _ _ => rfl) (fun W0 kb _ hb hz => by
    have := pickc_c w0.heap.size W.heap.size g v (W.heap.size + 1) (W.heap.size + 2) c q W0 kb (HF.out.1.below hb) (bools_below HV.out hb) hl (boxed_under HF.out.2.1 hb) (by have := HF.out.2.2.2.2.2; omega) (boxed_under HF.out.2.2.1 hb) (by have := HF.out.2.2.2.2.2; omega)
    exact this))
  obtain ⟨p0, c0, rfl, -⟩ := hv
  clear hl
  go_enter Try.func19, Try.ntmps19
  go_wp2_with fail
  rw [← hw0]
  clear hw0
  (with_reducible refine HT.out.mono ?_)
  rintro e w1 ⟨⟨t, x, rfl, d, a, on, pn, nn, cn, pl, nl, cl, rfl, hA, -⟩, hb1⟩
  obtain ⟨w2, hw2⟩ : ∃ X : World, X = w1.alloc (.cells #[.int .i64 0, .slice none 0 0, .slice none 0 0, .int .i64 d, .int .i64 a, .bool on, .slice pn nn cn, .slice pl nl cl] 71) := ⟨_, rfl⟩
  have hb2 : Below w1.heap.size w1 w2 := by rw [hw2]; exact below1 _ _
  have hz1 : W.heap.size + 3 < w1.heap.size := by have := HF.out.2.2.2.2.2; have := hb1.size; omega
  have HX := Lib.hid (show GBox w2 (W.heap.size + 3) 0 0 false (.slice none 0 0) ∧ AnsG (w0.heap.size + 2) (errG g (pickE g c)) (pickG g c.toNat q) d a on pn nn cn x w2 ∧ Below W.heap.size W w2 from ⟨(HF.out.2.2.2.1.below hb1).below hb2, hA.keeps (S := fun _ => False) (Keeps.of_below hb2) (fun _ h => h.elim), below_then (below_then HF.out.2.2.2.2.1 HF.out.2.2.2.2.1.size hb1) (below_then HF.out.2.2.2.2.1 HF.out.2.2.2.2.1.size hb1).size hb2⟩)
  obtain ⟨d0, d1, d2, d3⟩ := HX.out.1.cells
  have m0 := HX.out.1.marks 0
  have m1 := HX.out.1.marks 1
  have m2 := HX.out.1.marks 2
  have m3 := HX.out.1.marks 3
  have HP := Lib.hid (HX.out.1.put d a on (.slice pn nn cn))
  have HK := Lib.hid (GBox.putK w2 (W.heap.size + 3) d a on (.slice pn nn cn))
  have HZ := Lib.hid HF.out.2.2.2.2.2
  rw [hw2] at d0 d1 d2 d3 m0 m1 m2 m3 HP
  have HW2 := Lib.hid hw2
  clear hw2 hb2 hb1 hA HT HF HV hz1
  go_wp2
  refine bodyPost_ret (HP.out.result2 rfl _ rfl rfl) rfl ⟨⟨_, _, _, _, _, _, _, rfl, ?_⟩, ?_⟩
  · rw [← HW2.out]; exact (AnsG.keeps (B := w0.heap.size + 2) HX.out.2.1 HK.out (fun k e => by have := HZ.out; omega)).mono (by have := HZ.out; omega)
  · rw [← HW2.out]; exact HX.out.2.2.trans (HK.out.below HX.out.2.2.size (fun k e => by omega))

end Go.Proofs.Ytfnpokddoffplaa
/-
  Package grace: Ask.
  Conditions: the ranges of Go's types.
-/
namespace Go.Proofs.Ytfnpokddoffplaa
set_option maxRecDepth 100000
open Go.RowKit Go.Shelf
attribute [local go_sem] Oper.semAt_some

theorem owns_first {B : Nat} {W : World} {p : Option Addr} {c : Nat} {x : Int} (h : W.ownsRow B 3 1 (.slice p 1 c) 1 [.int .i64 x]) : ∃ b, p = some ⟨b, 0, none⟩ ∧ W.cell? ⟨b, 0, none⟩ = some (.int .i64 x) := by
  rcases id h.2 with ⟨_, h0⟩ | ⟨g, cap, cur, e, _⟩
  · cases h0
  · injection e with e1 e2 e3
    subst e1
    refine ⟨g, rfl, ?_⟩
    have e' : Value.slice (some ⟨g, 0, none⟩) 1 c = .slice (some ⟨g, 0, none⟩) 1 c := rfl
    have := h.cellAt 0 (by omega)
    simpa using this

/-- What Ask answers. -/
def AskQ (B : Nat) (g : GrS) (e : Ending) (w' : World) : Prop := ∃ d a on p n cc k x, e = .returned (.tuple #[.agg #[.int .i64 d, .int .i64 a, .bool on, .slice p n cc], .int .i64 k, .int .i64 x]) ∧ AnsG B (errG g (askE g)) (askG g) d a on p n cc x w' ∧ k = (if errG g (askE g) = 0 then nextG g else 0)

set_option maxHeartbeats 8000000 in
theorem gAsk_c (g : GrS) (v : Value) (W : World) (hv : BoolsAt W v g.nd) (hl : g.nd.length ≤ 9223372036854775807) :
    Calls Try.prog 11 #[.agg #[.int .i64 g.done, .int .i64 g.asked, .bool g.on, v]] W fun e w' => AskQ W.heap.size g e w' ∧ Below W.heap.size W w' := by
  have hmf : ∀ (fn : Fn) (first cap : Array Value) (w : World), (Instr.makeFunc fn first cap).run Try.prog w = .ok (.func fn first cap) w := fun _ _ _ _ => rfl
  obtain ⟨w0, hw0⟩ : ∃ X : World, X = (W.alloc (.cells #[.int .i64 g.done, .int .i64 g.asked, .bool g.on, v] 24)).alloc (.cells #[.int .i64 0, .int .i64 0, .bool false, .slice none 0 0] 24) := ⟨_, rfl⟩
  have HF := Lib.hid (show GBox w0 W.heap.size g.done g.asked g.on v ∧ GBox w0 (W.heap.size + 1) 0 0 false (.slice none 0 0) ∧ Below W.heap.size W w0 ∧ w0.heap.size = W.heap.size + 2 from ⟨by rw [hw0]; exact (GBox.new W _ _ _ _).below (below1 _ _), by
      rw [hw0]
      have := GBox.new (W.alloc (.cells #[.int .i64 g.done, .int .i64 g.asked, .bool g.on, v] 24)) 0 0 false (.slice none 0 0)
      simpa using this, by rw [hw0]; exact below2 _ _ _, by rw [hw0]; simp⟩)
  have HV := Lib.hid (bools_below hv HF.out.2.2.1)
  have HT := Lib.hid (tri_of 41 #[.pointer (some ⟨W.heap.size, 0, none⟩)] w0 (errG g (askE g)) (askG g) [nextG g] (fun _ _ => rfl) (fun W0 kb _ hb hz => by
    have := ask1_c w0.heap.size W.heap.size g v W0 kb (HF.out.1.below hb) (bools_below HV.out hb) hl
    exact this))
  obtain ⟨p0, c0, rfl, -⟩ := hv
  clear hl
  go_enter Try.func11, Try.ntmps11
  go_wp2_with fail
  rw [← hw0]
  clear hw0
  (with_reducible refine HT.out.mono ?_)
  rintro e w1 ⟨⟨t, x, rfl, d, a, on, pn, nn, cn, pl, nl, cl, rfl, hA, hO⟩, hb1⟩
  obtain ⟨w2, hw2⟩ : ∃ X : World, X = w1.alloc (.cells #[.int .i64 0, .slice none 0 0, .slice none 0 0, .int .i64 d, .int .i64 a, .bool on, .slice pn nn cn, .slice pl nl cl] 71) := ⟨_, rfl⟩
  have hb2 : Below w1.heap.size w1 w2 := by rw [hw2]; exact below1 _ _
  have hz1 : W.heap.size + 1 < w1.heap.size := by have := HF.out.2.2.2; have := hb1.size; omega
  have HX := Lib.hid (show GBox w2 (W.heap.size + 1) 0 0 false (.slice none 0 0) ∧ AnsG (w0.heap.size + 2) (errG g (askE g)) (askG g) d a on pn nn cn x w2 ∧ Below W.heap.size W w2 from ⟨(HF.out.2.1.below hb1).below hb2, hA.keeps (S := fun _ => False) (Keeps.of_below hb2) (fun _ h => h.elim), below_then (below_then HF.out.2.2.1 HF.out.2.2.1.size hb1) (below_then HF.out.2.2.1 HF.out.2.2.1.size hb1).size hb2⟩)
  have HZ := Lib.hid HF.out.2.2.2
  obtain ⟨d0, d1, d2, d3⟩ := HX.out.1.cells
  have m0 := HX.out.1.marks 0
  have m1 := HX.out.1.marks 1
  have m2 := HX.out.1.marks 2
  have m3 := HX.out.1.marks 3
  by_cases hE : errG g (askE g) = 0
  · have hx : x = 0 := by rcases HX.out.2.1 with h | h; exact absurd hE h.1; exact h.2.1
    subst hx
    have hrow := owns_below (hO hE) hb2
    have hnl : nl = 1 := by have h1 := hrow.2; rcases h1 with ⟨_, h0⟩ | ⟨_, _, _, e, _⟩; cases h0; injection e
    subst hnl
    obtain ⟨q, rfl, hq⟩ := owns_first hrow
    have hqz : ¬ q = W.heap.size + 1 := by have := (hrow.lt q rfl).1; have := HZ.out; omega
    have hq1 := (setK w2 (W.heap.size + 1) 0 (.int .i64 d)).cell hq hqz
    have HE := Lib.hid hE
    have HP := Lib.hid (show GBox ((((w2.setCell ⟨W.heap.size + 1, 0, none⟩ (.int .i64 d)).setCell ⟨W.heap.size + 1, 1, none⟩ (.int .i64 a)).setCell ⟨W.heap.size + 1, 2, none⟩ (.bool on)).setCell ⟨W.heap.size + 1, 3, none⟩ (.slice pn nn cn)).drew (W.heap.size + 1) d a on (.slice pn nn cn) from HX.out.1.put d a on (.slice pn nn cn))
    have HK := Lib.hid (GBox.putK w2 (W.heap.size + 1) d a on (.slice pn nn cn))
    rw [hw2] at d0 d1 d2 d3 m0 m1 m2 m3 hq hq1 HP
    have HW2 := Lib.hid hw2
    clear hw2 hb2 hb1 hA HT HF HV hz1 hO hrow hE
    go_wp2
    go_region
    go_wp2
    refine bodyPost_ret (HP.out.result3 rfl _ rfl rfl rfl) rfl ⟨⟨_, _, _, _, _, _, _, _, rfl, ?_, ?_⟩, ?_⟩
    · rw [← HW2.out]; exact (AnsG.keeps (B := w0.heap.size + 2) HX.out.2.1 (HK.out.drewN 1) (fun k e => by have := HZ.out; omega)).mono (by have := HZ.out; omega)
    · rw [if_pos HE.out]
    · rw [← HW2.out]; exact below_drewN (HX.out.2.2.trans (HK.out.below HX.out.2.2.size (fun k e => by omega))) 1
  · have hx : x = errG g (askE g) ∧ d = 0 ∧ a = 0 ∧ on = false ∧ pn = none ∧ nn = 0 ∧ cn = 0 := by rcases HX.out.2.1 with h | h; exact h.2; exact absurd h.1 hE
    obtain ⟨hx1, rfl, rfl, rfl, rfl, rfl, rfl⟩ := hx
    have hne : (x != 0) = true := by rw [bne_iff_ne, hx1]; exact hE
    have HE := Lib.hid hE
    have HP := Lib.hid (HX.out.1.put 0 0 false (.slice none 0 0))
    have HK := Lib.hid (GBox.putK w2 (W.heap.size + 1) 0 0 false (.slice none 0 0))
    rw [hw2] at d0 d1 d2 d3 m0 m1 m2 m3 HP
    have HW2 := Lib.hid hw2
    clear hw2 hb2 hb1 hA HT HF HV hz1 hO hE hx1
    go_wp2
    refine bodyPost_ret (HP.out.result3 rfl _ rfl rfl rfl) rfl ⟨⟨_, _, _, _, _, _, _, _, rfl, ?_, ?_⟩, ?_⟩
    · rw [← HW2.out]; exact (AnsG.keeps (B := w0.heap.size + 2) HX.out.2.1 HK.out (fun k e => by have := HZ.out; omega)).mono (by have := HZ.out; omega)
    · rw [if_neg HE.out]
    · rw [← HW2.out]; exact HX.out.2.2.trans (HK.out.below HX.out.2.2.size (fun k e => by omega))

end Go.Proofs.Ytfnpokddoffplaa
/-
  Package reader: Passed.
  Conditions: the ranges of Go's types.
-/
namespace Go.Proofs.Ytfnpokddoffplaa
set_option maxRecDepth 100000
open Go.RowKit Go.Shelf
attribute [local go_sem] Oper.semAt_some

def passB (now : Int) (o : Int) (step : Int) : Bool := decide (0 ≤ step) && (decide (step ≤ now) && (decide (o = 0) || decide (step < o)))
set_option maxHeartbeats 8000000 in
theorem passed_c (s : RdS) (u v : Value) (c : Int) (W : World) (hn : NumsAt W .i64 u s.ns) (ho : NumsAt W .i64 v s.os) (h1 : s.ns.length ≤ 9223372036854775807) (h2 : s.os.length ≤ 9223372036854775807) (hr : ∀ x ∈ s.os, I64 x) :
    Calls Try.prog 31 #[.agg #[.int .i64 s.now, u, v], .int .i64 c] W fun e w' => e = .returned (.bool (mayB s.now s.ns s.os && passB s.now (oldM (secs (s.ns.zip s.os))) c)) ∧ Below W.heap.size W w' := by
  obtain ⟨w0, hw0⟩ : ∃ X : World, X = W.alloc (.cells #[.int .i64 s.now, u, v] 45) := ⟨_, rfl⟩
  have hb0 : Below W.heap.size W w0 := by rw [hw0]; exact below1 _ _
  have HB := Lib.hid hb0
  have HC := Lib.hid (may_c s.now u v s.ns s.os w0 (nums_below hn hb0) (nums_below ho hb0) h1 h2 hr)
  have hbx : RBox w0 W.heap.size s.now u v := by rw [hw0]; exact RBox.new _ _ _ _
  have HBX := Lib.hid hbx
  obtain ⟨d0, d1, d2⟩ := hbx.cells
  have HN := Lib.hid (And.intro (nums_below hn hb0) (nums_below ho hb0))
  obtain ⟨p, cp, rfl, -⟩ := hn
  obtain ⟨p2, cp2, rfl, -⟩ := ho
  clear hb0 hr h1 h2 hbx
  cases hm : mayB s.now s.ns s.os with
  | false =>
    rw [hm] at HC
    rw [Bool.false_and]
    clear hm
    go_enter Try.func31, Try.ntmps31
    go_wp2_with fail
    rw [← hw0]
    clear hw0
    (with_reducible refine HC.out.mono ?_)
    rintro e w1 ⟨rfl, hb1⟩
    have HB1 := Lib.hid (below_then HB.out HB.out.size hb1)
    clear hb1
    go_wp2
    go_ret
    exact ⟨rfl, HB1.out⟩
  | true =>
    have g := (good_iff s).1 hm
    have HG := Lib.hid g
    rw [hm] at HC
    rw [Bool.true_and]
    clear hm g
    unfold passB
    by_cases c1 : 0 ≤ c
    · rw [decide_eq_true c1, Bool.true_and]
      by_cases c2 : c ≤ s.now
      · rw [decide_eq_true c2, Bool.true_and]
        have q1 : decide (c < 0) = false := by simp; omega
        have q2 : decide (s.now < c) = false := by simp; omega
        obtain ⟨o, hoo⟩ : ∃ o, o = oldM (secs (s.ns.zip s.os)) := ⟨_, rfl⟩
        rw [← hoo]
        by_cases c3 : o = 0
        · have q3 : (o == 0) = true := by rw [c3]; rfl
          rw [decide_eq_true c3, Bool.true_or]
          have HO := Lib.hid hoo
          clear hoo c3
          go_enter Try.func31, Try.ntmps31
          go_wp2_with fail
          rw [← hw0]
          clear hw0
          (with_reducible refine HC.out.mono ?_)
          rintro e w1 ⟨rfl, hb1⟩
          have HB1 := Lib.hid (below_then HB.out HB.out.size hb1)
          obtain ⟨d0, d1, d2⟩ := (HBX.out.below hb1).cells
          have HOL := Lib.hid (oldest_c s.now _ _ s.ns s.os w1 HG.out.lo HG.out.l8 (nums_below HN.out.1 hb1) (nums_below HN.out.2 hb1))
          rw [← HO.out] at HOL
          clear hb1
          go_wp2_with fail
          (with_reducible refine HOL.out.mono ?_)
          rintro e w2 ⟨rfl, hb2⟩
          have HB2 := Lib.hid (below_then HB1.out HB1.out.size hb2)
          clear hb2
          go_wp2
          go_ret
          exact ⟨rfl, HB2.out⟩
        · have q3 : (o == 0) = false := by rw [beq_eq_false_iff_ne]; exact c3
          rw [decide_eq_false c3, Bool.false_or]
          have HO := Lib.hid hoo
          clear hoo c3
          go_enter Try.func31, Try.ntmps31
          go_wp2_with fail
          rw [← hw0]
          clear hw0
          (with_reducible refine HC.out.mono ?_)
          rintro e w1 ⟨rfl, hb1⟩
          have HB1 := Lib.hid (below_then HB.out HB.out.size hb1)
          obtain ⟨d0, d1, d2⟩ := (HBX.out.below hb1).cells
          have HOL := Lib.hid (oldest_c s.now _ _ s.ns s.os w1 HG.out.lo HG.out.l8 (nums_below HN.out.1 hb1) (nums_below HN.out.2 hb1))
          rw [← HO.out] at HOL
          clear hb1
          go_wp2_with fail
          (with_reducible refine HOL.out.mono ?_)
          rintro e w2 ⟨rfl, hb2⟩
          have HB2 := Lib.hid (below_then HB1.out HB1.out.size hb2)
          clear hb2
          go_wp2
          go_ret
          exact ⟨rfl, HB2.out⟩
      · rw [decide_eq_false c2, Bool.false_and]
        have q1 : decide (c < 0) = false := by simp; omega
        have q2 : decide (s.now < c) = true := by simp; omega
        clear HG HN
        go_enter Try.func31, Try.ntmps31
        go_wp2_with fail
        rw [← hw0]
        clear hw0
        (with_reducible refine HC.out.mono ?_)
        rintro e w1 ⟨rfl, hb1⟩
        have HB1 := Lib.hid (below_then HB.out HB.out.size hb1)
        obtain ⟨d0, d1, d2⟩ := (HBX.out.below hb1).cells
        clear hb1
        go_wp2
        go_ret
        exact ⟨rfl, HB1.out⟩
    · rw [decide_eq_false c1, Bool.false_and]
      have q1 : decide (c < 0) = true := by simp; omega
      clear HG HN
      go_enter Try.func31, Try.ntmps31
      go_wp2_with fail
      rw [← hw0]
      clear hw0
      (with_reducible refine HC.out.mono ?_)
      rintro e w1 ⟨rfl, hb1⟩
      have HB1 := Lib.hid (below_then HB.out HB.out.size hb1)
      clear hb1
      go_wp2
      go_ret
      exact ⟨rfl, HB1.out⟩

end Go.Proofs.Ytfnpokddoffplaa
/-
  Package reader: the mathematics of the statements: what is passed, and what comes of a step.
  Conditions: none.
-/
namespace Go.Proofs.Ytfnpokddoffplaa

theorem oldM_spec : ∀ (n : Nat) (l : List (Int × Int)), l.length = n → (∀ x ∈ l, 1 ≤ x.2) → (l = [] → oldM l = 0) ∧ (l ≠ [] → ∃ x ∈ l, oldM l = x.2) ∧ ∀ x ∈ l, oldM l ≤ x.2
  | 0, l, hl, _ => by
    obtain rfl := List.eq_nil_of_length_eq_zero hl
    exact ⟨fun _ => rfl, fun h => absurd rfl h, fun x hx => by cases hx⟩
  | n + 1, l', hl, h => by
    obtain ⟨l, y, rfl⟩ : ∃ l y, l' = l ++ [y] := by
      rcases List.eq_nil_or_concat l' with rfl | ⟨l, y, e⟩
      · cases hl
      · exact ⟨l, y, by rw [e, List.concat_eq_append]⟩
    have ih := oldM_spec n l (by simpa using hl)
    obtain ⟨h1, h2, h3⟩ := ih (fun x hx => h x (by simp [hx]))
    have hy := h y (by simp)
    refine ⟨fun e => by simp at e, fun _ => ?_, fun x hx => ?_⟩
    · rw [oldM_snoc]
      by_cases ha : aheadB (oldM l) y.2 = true
      · rw [if_pos ha]; exact ⟨y, by simp, rfl⟩
      · rw [if_neg ha]
        have hne : l ≠ [] := fun e => ha (by unfold aheadB; rw [h1 e]; rfl)
        obtain ⟨x, hx, he⟩ := h2 hne
        exact ⟨x, by simp [hx], he⟩
    · rw [oldM_snoc]
      by_cases ha : aheadB (oldM l) y.2 = true
      · rw [if_pos ha]
        rcases List.mem_append.1 hx with hx | hx
        · have hle := h3 x hx
          obtain ⟨z, hz, he⟩ := h2 (by intro e; rw [e] at hx; cases hx)
          have hz1 := h z (by simp [hz])
          unfold aheadB at ha
          simp only [Bool.or_eq_true, decide_eq_true_eq] at ha
          omega
        · rw [List.mem_singleton.1 hx]; exact Int.le_refl _
      · rw [if_neg ha]
        unfold aheadB at ha
        simp only [Bool.or_eq_true, decide_eq_true_eq, not_or] at ha
        rcases List.mem_append.1 hx with hx | hx
        · exact h3 x hx
        · rw [List.mem_singleton.1 hx]; omega
theorem Good.secs {s : RdS} (g : Good s) : ∀ x, x ∈ secs (s.ns.zip s.os) ↔ ∃ i, i < s.ns.length ∧ nN s i ≠ 0 ∧ x = (nN s i, oO s i) := fun x => by
  have hz : (s.ns.zip s.os).length = s.ns.length := by have := g.lo; simp; omega
  unfold Go.Proofs.Ytfnpokddoffplaa.secs
  rw [List.mem_filter]
  constructor
  · rintro ⟨h1, h2⟩
    obtain ⟨i, hi, rfl⟩ := List.getElem_of_mem h1
    have e := zip_at s g.lo i hi
    rw [e] at h2 ⊢
    refine ⟨i, by omega, fun h0 => ?_, rfl⟩
    have := g.each i (by omega)
    have hb := (secB_iff _ _).1 h2
    simp only at hb
    omega
  · rintro ⟨i, hi, h0, rfl⟩
    have e := zip_at s g.lo i (by omega)
    exact ⟨by rw [← e]; exact List.getElem_mem _, (secB_iff _ _).2 (fun h => h0 h.1)⟩
/-- What is passed. -/
theorem pass_iff {s : RdS} (g : Good s) (t : Int) : passB s.now (oldM (secs (s.ns.zip s.os))) t = true ↔ 0 ≤ t ∧ t ≤ s.now ∧ ∀ i, i < s.ns.length → nN s i ≠ 0 → t < oO s i := by
  have hp : ∀ x ∈ secs (s.ns.zip s.os), 1 ≤ x.2 := fun x hx => by
    obtain ⟨i, hi, h0, rfl⟩ := (g.secs x).1 hx
    have := g.each i hi
    simp only
    omega
  obtain ⟨h1, h2, h3⟩ := oldM_spec _ _ rfl hp
  unfold passB
  simp only [Bool.and_eq_true, Bool.or_eq_true, decide_eq_true_eq]
  constructor
  · rintro ⟨a, b, c⟩
    refine ⟨a, b, fun i hi h0 => ?_⟩
    have hm := (g.secs _).2 ⟨i, hi, h0, rfl⟩
    have h4 := h3 _ hm
    obtain ⟨x, hx, he⟩ := h2 (by intro e; rw [e] at hm; cases hm)
    have := hp x hx
    simp only at h4
    omega
  · rintro ⟨a, b, c⟩
    refine ⟨a, b, ?_⟩
    by_cases hne : secs (s.ns.zip s.os) = []
    · exact .inl (h1 hne)
    · obtain ⟨x, hx, he⟩ := h2 hne
      obtain ⟨i, hi, h0, rfl⟩ := (g.secs x).1 hx
      exact .inr (by rw [he]; exact c i hi h0)
theorem pass_now {s : RdS} (g : Good s) : passB s.now (oldM (secs (s.ns.zip s.os))) s.now = true ↔ ∀ i, i < s.ns.length → nN s i = 0 := by
  rw [pass_iff g]
  constructor
  · rintro ⟨_, _, h⟩ i hi
    have := g.each i hi
    by_cases h0 : nN s i = 0
    · exact h0
    · have := h i hi h0
      omega
  · intro h
    exact ⟨g.n0, Int.le_refl _, fun i hi h0 => absurd (h i hi) h0⟩
/-- Once a step is passed it stays so. -/
theorem pass_stays {s : RdS} {c : Int} {en : Bool} (g : Good s) (h : stepE s c en = 0) (t : Int) (hp : passB s.now (oldM (secs (s.ns.zip s.os))) t = true) : passB (stepS s c en).now (oldM (secs ((stepS s c en).ns.zip (stepS s c en).os))) t = true := by
  have g2 := g.step h
  rw [pass_iff g] at hp
  rw [pass_iff g2]
  obtain ⟨i, rfl, hi, hnow, h8, h0⟩ := stepE_zero h
  obtain ⟨p1, p2, p3⟩ := hp
  have hl := stepS_len s i en
  have hio : i < s.os.length := by have := g.lo; omega
  rw [stepS_now]
  refine ⟨p1, by omega, fun j hj hne => ?_⟩
  rw [hl.1] at hj
  rw [stepS_n s i en hi] at hne
  rw [stepS_o s i en hio]
  by_cases e : j = i
  · subst e
    rw [if_pos rfl] at hne
    rw [if_pos (rfl : j = j)]
    have := p3 j hj
    cases en
    · have := h0 rfl
      simp only [Bool.false_eq_true, if_false] at hne ⊢
      split <;> omega
    · simp only [if_true] at hne ⊢
      split <;> omega
  · rw [if_neg e] at hne
    rw [if_neg e]
    exact p3 j hj hne
theorem quiet_iff {s : RdS} (g : Good s) (i : Nat) (hi : i < s.ns.length) : quietB s (i : Int) = decide (nN s i = 0) := by
  unfold quietB
  rw [(good_iff s).2 g, Bool.true_and, (has_iff _ _).2 ⟨i, rfl, hi⟩, Bool.true_and, Int.toNat_natCast]
  rfl
/-- Behind an entry: not quiet, and the step is not passed. -/
theorem enter_then {s : RdS} {c : Int} (g : Good s) (h : stepE s c true = 0) : quietB (stepS s c true) c = false ∧ passB (stepS s c true).now (oldM (secs ((stepS s c true).ns.zip (stepS s c true).os))) (stepS s c true).now = false := by
  have g2 := g.step h
  obtain ⟨i, rfl, hi, hnow, h8, h0⟩ := stepE_zero h
  have hl := stepS_len s i true
  have hn := stepS_n s i true hi i
  rw [if_pos rfl, if_pos rfl] at hn
  have := g.each i hi
  refine ⟨by rw [quiet_iff g2 i (by omega), decide_eq_false (by omega)], ?_⟩
  cases hh : passB (stepS s i true).now (oldM (secs ((stepS s i true).ns.zip (stepS s i true).os))) (stepS s i true).now with
  | false => rfl
  | true =>
    have := (pass_now g2).1 hh i (by omega)
    omega
/-- Entered, and left: as it was, but for Now. -/
theorem enter_leave {s : RdS} {c : Int} (g : Good s) (h : stepE s c true = 0) : (s.now = 2147483646 ∧ stepE (stepS s c true) c false = 6) ∨
    (s.now < 2147483646 ∧ stepE (stepS s c true) c false = 0 ∧ (stepS (stepS s c true) c false).ns = s.ns ∧ (stepS (stepS s c true) c false).os = s.os) := by
  have g2 := g.step h
  obtain ⟨i, rfl, hi, hnow, h8, h0⟩ := stepE_zero h
  have hl := stepS_len s i true
  have hn := stepS_n s i true hi i
  rw [if_pos rfl, if_pos rfl] at hn
  have hi1 := g.each i hi
  have hs := stepS_now s i true
  have hh : hasB (stepS s i true).ns.length (i : Int) = true := (has_iff _ _).2 ⟨i, rfl, by omega⟩
  have hm := g2.n1
  by_cases e : s.now = 2147483646
  · refine .inl ⟨e, ?_⟩
    unfold stepE
    rw [if_neg (by rw [hh]; exact Bool.noConfusion), if_pos (.inl (by omega))]
  · refine .inr ⟨by omega, ?_, ?_, ?_⟩
    · unfold stepE
      rw [if_neg (by rw [hh]; exact Bool.noConfusion), if_neg (by rintro (h | ⟨h, _⟩); omega; cases h), if_neg]
      rintro ⟨_, h⟩
      rw [Int.toNat_natCast] at h
      have : nN (stepS s i true) i = 0 := h
      omega
    · refine List.ext_getElem (by rw [(stepS_len _ _ _).1, hl.1]) fun j h1 h2 => ?_
      have e2 := stepS_n (stepS s i true) i false (by omega) j
      rw [← getD_lt h1, ← getD_lt h2]
      show nN _ j = nN s j
      rw [e2]
      by_cases ej : j = i
      · subst ej
        rw [if_pos rfl, if_neg Bool.false_ne_true, hn]
        omega
      · rw [if_neg ej, stepS_n s i true hi, if_neg ej]
    · refine List.ext_getElem (by rw [(stepS_len _ _ _).2, hl.2]) fun j h1 h2 => ?_
      have hio : i < s.os.length := by have := g.lo; omega
      have e2 := stepS_o (stepS s i true) i false (by omega) j
      rw [← getD_lt h1, ← getD_lt h2]
      show oO _ j = oO s j
      rw [e2]
      by_cases ej : j = i
      · subst ej
        rw [if_pos rfl, if_neg Bool.false_ne_true, hn, stepS_o s j true hio, if_pos rfl, if_pos rfl]
        by_cases hz : nN s j = 0
        · rw [if_pos (by omega)]
          omega
        · rw [if_neg (by omega), if_neg hz]
      · rw [if_neg ej, stepS_o s i true hio, if_neg ej]

end Go.Proofs.Ytfnpokddoffplaa
/-
  Package grace, in mathematics: which graces may be, and stay so; ticks, one behind the other.
  Conditions: none.
-/
namespace Go.Proofs.Ytfnpokddoffplaa
open Go.RowKit Go.Shelf

def ndB (g : GrS) (i : Nat) : Bool := g.nd.getD i false
structure GoodG (g : GrS) : Prop where
  l1 : 1 ≤ g.nd.length
  l8 : g.nd.length ≤ 8
  d0 : 0 ≤ g.done
  a1 : g.asked ≤ 2147483645
  on1 : g.on = true → (∃ i, i < g.nd.length ∧ ndB g i = true) ∧ g.done < g.asked ∧ g.asked ≤ g.done + 2
  on0 : g.on = false → (∀ i, i < g.nd.length → ndB g i = false) ∧ g.done ≤ g.asked ∧ g.asked ≤ g.done + 1
theorem many_pos (nd : List Bool) : 0 < manyG nd ↔ ∃ i, i < nd.length ∧ nd.getD i false = true := by
  unfold manyG
  constructor
  · intro h
    cases hl : trN nd nd.length with
    | nil => rw [hl] at h; simp at h
    | cons x r =>
      have hx : x ∈ trN nd nd.length := by rw [hl]; simp
      obtain ⟨i, h1, _, h2⟩ := (trN_mem nd x _).1 hx
      exact ⟨i, h1, h2⟩
  · rintro ⟨i, h1, h2⟩
    have : (i : Int) ∈ trN nd nd.length := (trN_mem nd _ _).2 ⟨i, h1, rfl, h2⟩
    exact List.length_pos_of_mem this
theorem goodG_iff (g : GrS) : mayG g = true ↔ GoodG g := by
  unfold mayG numsG mayCpus tellG
  constructor
  · intro h
    simp only [Bool.and_eq_true, decide_eq_true_eq] at h
    obtain ⟨⟨h1, h2, h3, h4⟩, h5⟩ := h
    refine ⟨by omega, by omega, h2, h4, fun ho => ?_, fun ho => ?_⟩
    · rw [if_pos ho] at h5
      simp only [Bool.and_eq_true, decide_eq_true_eq] at h5
      exact ⟨(many_pos _).1 (by omega), by omega, by omega⟩
    · rw [if_neg (by rw [ho]; exact Bool.false_ne_true)] at h5
      simp only [Bool.and_eq_true, decide_eq_true_eq] at h5
      refine ⟨fun i hi => ?_, h3, by omega⟩
      cases hb : ndB g i with
      | false => rfl
      | true => have := (many_pos g.nd).2 ⟨i, hi, hb⟩; omega
  · rintro ⟨l1, l8, d0, a1, on1, on0⟩
    have key : g.done ≤ g.asked := by
      cases ho : g.on with
      | true => have := on1 ho; omega
      | false => have := on0 ho; omega
    simp only [Bool.and_eq_true, decide_eq_true_eq]
    refine ⟨⟨by omega, d0, key, a1⟩, ?_⟩
    cases ho : g.on with
    | true =>
      obtain ⟨h1, h2, h3⟩ := on1 ho
      rw [if_pos rfl]
      simp only [Bool.and_eq_true, decide_eq_true_eq]
      have := (many_pos g.nd).2 h1
      omega
    | false =>
      obtain ⟨h1, h2, h3⟩ := on0 ho
      rw [if_neg Bool.false_ne_true]
      simp only [Bool.and_eq_true, decide_eq_true_eq]
      refine ⟨?_, by omega⟩
      have : ¬ 0 < manyG g.nd := fun h => by
        obtain ⟨i, hi, hb⟩ := (many_pos _).1 h
        have := h1 i hi
        unfold ndB at this
        rw [hb] at this; cases this
      omega
theorem last_iff (nd : List Bool) (i : Nat) : lastB nd i = true ↔ ∀ j, j < nd.length → nd.getD j false = true → j = i := by
  unfold lastB
  rw [List.all_eq_true]
  constructor
  · intro h j hj hb
    have := h (j : Int) ((trN_mem nd _ _).2 ⟨j, hj, rfl, hb⟩)
    rw [beq_iff_eq] at this
    omega
  · intro h x hx
    obtain ⟨j, hj, rfl, hb⟩ := (trN_mem nd x _).1 hx
    rw [beq_iff_eq, h j hj hb]
theorem getB_set (l : List Bool) (k : Nat) (x : Bool) (i : Nat) : (l.set k x).getD i false = if i = k ∧ k < l.length then x else l.getD i false := by
  rw [List.getD_eq_getElem?_getD, List.getElem?_set, List.getD_eq_getElem?_getD]
  by_cases h : k = i
  · subst h
    by_cases h2 : k < l.length
    · simp [h2]
    · simp [h2]
  · rw [if_neg h, if_neg (fun e => h e.1.symm)]
theorem GoodG.next {g : GrS} (h : GoodG g) : g.asked ≤ nextG g ∧ nextG g ≤ g.done + 2 ∧ g.done < nextG g := by
  unfold nextG
  cases ho : g.on with
  | true => have := h.on1 ho; rw [if_pos rfl]; omega
  | false => have := h.on0 ho; rw [if_neg Bool.false_ne_true]; omega
theorem GoodG.ask {g : GrS} (h : GoodG g) (he : askE g = 0) : GoodG (askG g) := by
  have hx : ¬ 2147483645 < nextG g := fun hx => by unfold askE at he; rw [if_pos hx] at he; cases he
  have hn := h.next
  refine ⟨h.l1, h.l8, h.d0, (by show nextG g ≤ _; omega), fun ho => ⟨(h.on1 ho).1, (by show g.done < nextG g; omega), (by show nextG g ≤ _; exact hn.2.1)⟩, fun ho => ⟨(h.on0 ho).1, (by show g.done ≤ nextG g; omega), ?_⟩⟩
  show nextG g ≤ _
  have ho' : g.on = false := ho
  unfold nextG
  rw [if_neg (by rw [ho']; exact Bool.false_ne_true)]
  exact Int.le_refl _
theorem GoodG.begin {g : GrS} (h : GoodG g) (he : beginE g = 0) : GoodG (beginG g) := by
  unfold beginE at he
  have ho : g.on = false := by cases ho : g.on with | false => rfl | true => rw [ho, if_pos rfl] at he; cases he
  rw [if_neg (by rw [ho]; exact Bool.false_ne_true)] at he
  have hne : ¬ g.asked = g.done := fun e => by rw [if_pos e] at he; cases he
  obtain ⟨h1, h2, h3⟩ := h.on0 ho
  refine ⟨by rw [beginG_len]; exact h.l1, by rw [beginG_len]; exact h.l8, h.d0, h.a1, fun _ => ⟨⟨0, by rw [beginG_len]; exact h.l1, ?_⟩, (by show g.done < g.asked; omega), (by show g.asked ≤ g.done + 2; omega)⟩, fun ho => by cases ho⟩
  unfold ndB beginG
  have := h.l1
  rw [List.getD_eq_getElem?_getD, List.getElem?_replicate, if_pos (by omega)]
  rfl
theorem GoodG.report {g : GrS} (h : GoodG g) (i : Nat) (ho : g.on = true) : GoodG (reportG g i) := by
  obtain ⟨⟨j, hj, hb⟩, h2, h3⟩ := h.on1 ho
  unfold reportG
  by_cases hl : lastB g.nd i = true
  · rw [if_pos hl]
    refine ⟨by simp only [List.length_set]; exact h.l1, by simp only [List.length_set]; exact h.l8, (by have := h.d0; show 0 ≤ g.done + 1; omega), h.a1, fun e => by (cases e), fun _ => ⟨fun k hk => ?_, (by show g.done + 1 ≤ g.asked; omega), (by show g.asked ≤ g.done + 1 + 1; omega)⟩⟩
    simp only [List.length_set] at hk
    unfold ndB
    simp only
    rw [getB_set]
    split
    · rfl
    · rename_i hn
      cases hb : g.nd.getD k false with
      | false => rfl
      | true =>
        have := (last_iff g.nd i).1 hl k hk hb
        subst this
        exact absurd ⟨rfl, hk⟩ hn
  · rw [if_neg hl]
    have : ∃ k, k < g.nd.length ∧ g.nd.getD k false = true ∧ k ≠ i := by
      refine Classical.byContradiction fun hc => hl ((last_iff g.nd i).2 fun k hk hb => ?_)
      exact Classical.byContradiction fun he => hc ⟨k, hk, hb, he⟩
    obtain ⟨k, hk, hb, hki⟩ := this
    refine ⟨by simp only [List.length_set]; exact h.l1, by simp only [List.length_set]; exact h.l8, h.d0, h.a1, fun _ => ⟨⟨k, by simp only [List.length_set]; exact hk, ?_⟩, h2, h3⟩, fun e => by rw [ho] at e; cases e⟩
    unfold ndB
    simp only
    rw [getB_set, if_neg (fun e => hki e.1)]
    exact hb
theorem GoodG.pick {g : GrS} (h : GoodG g) (i : Nat) (q : Bool) : GoodG (pickG g i q) := by
  unfold pickG
  split
  · rename_i ho
    split
    · exact h.report i ho
    · exact h
  · rename_i ho
    split
    · rename_i hlt
      exact h.begin (by unfold beginE; rw [if_neg ho, if_neg (by omega)])
    · exact h

/-- Readers, a grace, and the numbers that were asked for. -/
structure PlS where
  s : RdS
  g : GrS
  ls : List Int
/-- The error of a tick; 0: none. -/
def tickE (P : PlS) (t : Int × Int) : Int :=
  if t.1 = 1 then stepE P.s t.2 true else if t.1 = 2 then stepE P.s t.2 false else if t.1 = 3 then (if hasB P.g.nd.length t.2 = false then 2 else askE P.g) else if t.1 = 4 then (if hasB P.g.nd.length t.2 = false then 2 else 0) else 221
def tickP (P : PlS) (t : Int × Int) : PlS :=
  if t.1 = 1 then ⟨stepS P.s t.2 true, P.g, P.ls⟩ else if t.1 = 2 then ⟨stepS P.s t.2 false, P.g, P.ls⟩ else if t.1 = 3 then ⟨P.s, askG P.g, P.ls ++ [nextG P.g]⟩ else ⟨P.s, pickG P.g t.2.toNat (quietB P.s t.2), P.ls⟩
def playE : PlS → List (Int × Int) → Int
  | _, [] => 0
  | P, t :: l => if tickE P t = 0 then playE (tickP P t) l else tickE P t
def playP (P : PlS) (l : List (Int × Int)) : PlS := l.foldl tickP P
structure GoodP (P : PlS) : Prop where
  s : Good P.s
  g : GoodG P.g
  len : P.s.ns.length = P.g.nd.length
theorem GoodP.tick {P : PlS} (h : GoodP P) {t : Int × Int} (he : tickE P t = 0) : GoodP (tickP P t) := by
  unfold tickE at he
  unfold tickP
  by_cases h1 : t.1 = 1
  · rw [if_pos h1] at he ⊢
    exact ⟨h.s.step he, h.g, by rw [show (stepS P.s t.2 true).ns.length = P.s.ns.length from (stepS_len _ _ _).1]; exact h.len⟩
  · rw [if_neg h1] at he ⊢
    by_cases h2 : t.1 = 2
    · rw [if_pos h2] at he ⊢
      exact ⟨h.s.step he, h.g, by rw [show (stepS P.s t.2 false).ns.length = P.s.ns.length from (stepS_len _ _ _).1]; exact h.len⟩
    · rw [if_neg h2] at he ⊢
      by_cases h3 : t.1 = 3
      · rw [if_pos h3] at he ⊢
        have : askE P.g = 0 := by
          by_cases hh : hasB P.g.nd.length t.2 = false
          · rw [if_pos hh] at he; cases he
          · rw [if_neg hh] at he; exact he
        exact ⟨h.s, h.g.ask this, h.len⟩
      · rw [if_neg h3]
        exact ⟨h.s, h.g.pick _ _, by rw [show (pickG P.g t.2.toNat (quietB P.s t.2)).nd.length = P.g.nd.length from pickG_len _ _ _]; exact h.len⟩
theorem tick_ls (P : PlS) (t : Int × Int) : (tickP P t).ls.length ≤ P.ls.length + 1 := by
  unfold tickP
  repeat' split
  all_goals simp
theorem tick_len {P : PlS} (h : GoodP P) {t : Int × Int} (he : tickE P t = 0) : (tickP P t).g.nd.length = P.g.nd.length := by
  have h1 := (h.tick he).len
  unfold tickP
  repeat' split
  all_goals first | rfl | exact pickG_len _ _ _

end Go.Proofs.Ytfnpokddoffplaa
namespace Go.Proofs.Ytfnpokddoffplaa
set_option maxRecDepth 100000
open Go.RowKit Go.Shelf
attribute [local go_sem] Oper.semAt_some

def rowV (b n : Nat) : Value := .slice (some ⟨b, 0, none⟩) n n
theorem rowV_sl (b n : Nat) : IsSl (rowV b n) := ⟨_, _, _, rfl⟩
/-- A turn with readers, in memory. -/
structure PlAt (W : World) (z B : Nat) (P : PlS) (n gb hb nb : Nat) (lv : Value) : Prop where
  tu : TuAt W z B P.s.now (rowV gb n) (rowV hb n) P.g n nb lv P.ls
  nest : IBlock W gb P.s.ns
  opened : IBlock W hb P.s.os
  good : GoodP P
  ap : ∀ q, lv.ownBlock = some q → q ≠ gb ∧ q ≠ hb
  hB : B ≤ W.heap.size
theorem PlAt.ln {W : World} {z B : Nat} {P : PlS} {n gb hb nb : Nat} {lv : Value} (k : PlAt W z B P n gb hb nb lv) : P.s.ns.length = n ∧ P.s.os.length = n ∧ P.g.nd.length = n := by
  have h1 := k.tu.len
  have h2 := k.good.len
  have h3 := k.good.s.lo
  omega
theorem TBox.ne_ints {W : World} {z gb : Nat} {now : Int} {u v : Value} {d a : Int} {on : Bool} {nv lv : Value} {ns : List Int} (h : TBox W z now u v d a on nv lv) (k : IBlock W gb ns) : gb ≠ z := fun e => by
  have h1 : W.heap[z]? = _ := h
  have h2 : W.heap[gb]? = _ := k
  rw [e, h1] at h2; injection h2 with h2; injection h2 with _ h2 _; revert h2; decide
theorem BBlock.ne_ints {W : World} {nb gb : Nat} {bs : List Bool} {ns : List Int} (h : BBlock W nb bs) (k : IBlock W gb ns) : gb ≠ nb := fun e => by
  have h1 : W.heap[nb]? = _ := h
  have h2 : W.heap[gb]? = _ := k
  rw [e, h1] at h2; injection h2 with h2; injection h2 with _ h2 _; revert h2; decide
theorem PlAt.keeps {S : Nat → Prop} {W W' : World} {z B : Nat} {P : PlS} {n gb hb nb : Nat} {lv : Value} (k : PlAt W z B P n gb hb nb lv) (hk : Keeps S W W') (hz : ¬ S z) (hn : ¬ S nb) (hg : ¬ S gb) (hh : ¬ S hb) (hl : ∀ q, lv.ownBlock = some q → ¬ S q) : PlAt W' z B P n gb hb nb lv :=
  ⟨k.tu.keeps hk hz hn hl, k.nest.keeps hk hg, k.opened.keeps hk hh, k.good, k.ap, Nat.le_trans k.hB hk.size⟩
theorem PlAt.below {W W' : World} {z B : Nat} {P : PlS} {n gb hb nb : Nat} {lv : Value} (k : PlAt W z B P n gb hb nb lv) (hb' : Below W.heap.size W W') : PlAt W' z B P n gb hb nb lv :=
  k.keeps (Keeps.of_below (S := fun _ => False) hb') id id id id (fun _ _ => id)
theorem PlAt.any {W : World} {z B : Nat} {P : PlS} {n gb hb nb : Nat} {lv : Value} (k : PlAt W z B P n gb hb nb lv) : TAny W z := k.tu.any (rowV_sl _ _) (rowV_sl _ _)
/-- What a tick leaves, or with which error it was left: only what the turn holds, and new memory, changes. -/
def TickQ (z B : Nat) (E : Int) (P' : PlS) (n nb : Nat) (S : Nat → Prop) (e : Ending) (W w' : World) : Prop :=
  Keeps S W w' ∧ ((E ≠ 0 ∧ e = woe E ∧ TAny w' z) ∨ (E = 0 ∧ e = .returned (.tuple #[]) ∧ ∃ gb hb lv, PlAt w' z B P' n gb hb nb lv ∧ ∀ q, lv.ownBlock = some q → S q ∨ W.heap.size ≤ q))

set_option maxHeartbeats 8000000 in
theorem pask_c (z B : Nat) (P : PlS) (n gb hb nb : Nat) (lv : Value) (c : Int) (W : World) (k : PlAt W z B P n gb hb nb lv) (hls : P.ls.length ≤ 1000000) :
    Calls Try.prog 82 #[.pointer (some ⟨z, 0, none⟩), .int .i64 c] W fun e w' => TickQ z B (tickE P (3, c)) (tickP P (3, c)) n nb (fun q => q = z ∨ some q = lv.ownBlock) e W w' := by
  have HE := Lib.hid (show tickE P (3, c) = if hasB n c = false then 2 else askE P.g by unfold tickE; simp only [k.ln.2.2]; rfl)
  have HP := Lib.hid (show tickP P (3, c) = ⟨P.s, askG P.g, P.ls ++ [nextG P.g]⟩ from rfl)
  have HG := Lib.hid (fun h => k.good.tick (t := (3, c)) h)
  have hd0 := k.good.g.d0
  have hda : P.g.done ≤ 2147483645 := by have := (mayG_facts ((goodG_iff _).2 k.good.g)); omega
  have HK := Lib.hid k
  cases hh : hasB n c with
  | false =>
    rw [hh, if_pos rfl] at HE
    have HC := Lib.hid (gat_no z _ _ _ _ _ _ _ n n lv c W k.tu.box hh)
    clear hh k
    go_enter Try.func82, Try.ntmps82
    go_wp2_with fail
    (with_reducible refine HC.out.mono ?_)
    rintro e w1 ⟨rfl, hb1⟩
    exact ⟨rfl, Keeps.of_below hb1, .inl ⟨by rw [HE.out]; decide, by rw [HE.out]; rfl, (HK.out.below hb1).any⟩⟩
  | true =>
    rw [hh, if_neg (by simp)] at HE
    have HC := Lib.hid (gat_ok z _ _ _ _ _ _ _ n n lv c W k.tu.box hh)
    clear hh k
    go_enter Try.func82, Try.ntmps82
    go_wp2_with fail
    (with_reducible refine HC.out.mono ?_)
    rintro e w1 ⟨rfl, hb1⟩
    have HK1 := Lib.hid (And.intro (HK.out.below hb1) (Keeps.of_below (S := fun q => q = z ∨ some q = lv.ownBlock) hb1))
    clear hb1 HC
    by_cases hx : 2147483645 < nextG P.g
    · have HX := Lib.hid (show askE P.g = 6 by unfold askE; rw [if_pos hx])
      have HC2 := Lib.hid (gorder_no z B P.s.now (rowV gb n) (rowV hb n) P.g n nb lv P.ls w1 HK1.out.1.tu hd0 hda hx)
      clear hx
      go_wp2_with fail
      (with_reducible refine HC2.out.mono ?_)
      rintro e w2 ⟨rfl, hw2⟩
      rw [hw2]
      exact ⟨rfl, HK1.out.2, .inl ⟨by rw [HE.out, HX.out]; decide, by rw [HE.out, HX.out]; rfl, HK1.out.1.any⟩⟩
    · have HX := Lib.hid (show askE P.g = 0 by unfold askE; rw [if_neg hx])
      have HC2 := Lib.hid (gorder_ok z B P.s.now (rowV gb n) (rowV hb n) P.g n nb lv P.ls w1 HK1.out.1.tu hd0 (by omega) HK1.out.1.hB hls)
      clear hx
      go_wp2_with fail
      (with_reducible refine HC2.out.mono ?_)
      rintro e w2 ⟨rfl, lv2, k2, hk2, hfr, hB2⟩
      have k1 := HK1.out.1
      have HR := Lib.hid (show TickQ z B (tickE P (3, c)) (tickP P (3, c)) n nb (fun q => q = z ∨ some q = lv.ownBlock) (.returned (.tuple #[])) W w2 by
        have hng : ∀ {b : Nat} {ns : List Int}, IBlock w1 b ns → (∀ q, lv.ownBlock = some q → q ≠ b) → ¬ (b = z ∨ some b = lv.ownBlock) := fun hb hap e => by
          rcases e with e | e
          · exact k1.tu.box.ne_ints hb e
          · exact hap _ e.symm rfl
        refine ⟨HK1.out.2.trans hk2, .inr ⟨by rw [HE.out, HX.out], rfl, gb, hb, lv2, ⟨?_, ?_, ?_, HG.out (by rw [HE.out, HX.out]), ?_, hB2⟩, ?_⟩⟩
        · rw [HP.out]; exact k2
        · rw [HP.out]; exact k1.nest.keeps hk2 (hng k1.nest (fun q hq => (k1.ap q hq).1))
        · rw [HP.out]; exact k1.opened.keeps hk2 (hng k1.opened (fun q hq => (k1.ap q hq).2))
        · intro q hq
          rcases hfr q hq with h | h
          · exact k1.ap q h
          · have h1 := k1.nest.lt
            have h2 := k1.opened.lt
            omega
        · intro q hq
          rcases hfr q hq with h | h
          · exact .inl (.inr h.symm)
          · exact .inr (Nat.le_trans HK1.out.2.size h))
      clear k2 hk2 hfr hB2 k1
      go_wp2
      go_end0
      exact HR.out

set_option maxHeartbeats 8000000 in
theorem ppick_c (z B : Nat) (P : PlS) (n gb hb nb : Nat) (lv : Value) (c : Int) (W : World) (k : PlAt W z B P n gb hb nb lv) :
    Calls Try.prog 83 #[.pointer (some ⟨z, 0, none⟩), .int .i64 c] W fun e w' => TickQ z B (tickE P (4, c)) (tickP P (4, c)) n nb (fun q => q = z ∨ q = nb ∨ some q = lv.ownBlock) e W w' := by
  have HE := Lib.hid (show tickE P (4, c) = if hasB n c = false then 2 else 0 by unfold tickE; simp only [k.ln.2.2]; rfl)
  have HP := Lib.hid (show tickP P (4, c) = ⟨P.s, pickG P.g c.toNat (quietB P.s c), P.ls⟩ from rfl)
  have HG := Lib.hid (fun h => k.good.tick (t := (4, c)) h)
  have hf := mayG_facts ((goodG_iff _).2 k.good.g)
  have HK := Lib.hid k
  have hln := k.ln
  have HQ := Lib.hid (quiet_c P.s (rowV gb n) (rowV hb n) c W (by have := k.nest.nums; rw [hln.1] at this; exact this) (by have := k.opened.nums; rw [hln.2.1] at this; exact this) (by omega) (by omega) k.good.s.rangeO)
  obtain ⟨d0, d1, d2, d3, d4, d5, d6, d7⟩ := k.tu.box.cells
  unfold rowV at d1 d2 HQ
  have HF := Lib.hid hf
  clear k hf
  go_enter Try.func83, Try.ntmps83
  go_wp2_with fail
  (with_reducible refine HQ.out.mono ?_)
  rintro e w1 ⟨rfl, hb1⟩
  have HK1 := Lib.hid (And.intro (HK.out.below hb1) (Keeps.of_below (S := fun q => q = z ∨ q = nb ∨ some q = lv.ownBlock) hb1))
  clear hb1 d0 d1 d2 d3 d4 d5 d6 d7 HQ
  cases hh : hasB n c with
  | false =>
    rw [hh, if_pos rfl] at HE
    have HC := Lib.hid (gpicked_no z B P.s.now (rowV gb n) (rowV hb n) P.g n nb lv P.ls c (quietB P.s c) w1 HK1.out.1.tu hh)
    clear hh
    go_wp2_with fail
    (with_reducible refine HC.out.mono ?_)
    rintro e w2 ⟨rfl, hb2⟩
    exact ⟨rfl, HK1.out.2.trans (Keeps.of_below hb2), .inl ⟨by rw [HE.out]; decide, by rw [HE.out]; rfl, (HK1.out.1.below hb2).any⟩⟩
  | true =>
    rw [hh, if_neg (by simp)] at HE
    obtain ⟨i, hic, hi⟩ := (has_iff _ _).1 hh
    subst hic
    have HC := Lib.hid (gpicked_ok z B P.s.now (rowV gb n) (rowV hb n) P.g n nb lv P.ls i (quietB P.s (i : Int)) w1 HK1.out.1.tu hi (by have := HF.out; omega) HF.out.2.2.1 (by have := HF.out; omega) HF.out.2.2.2.1)
    clear hh hi
    go_wp2_with fail
    (with_reducible refine HC.out.mono ?_)
    rintro e w2 ⟨rfl, k2, hk2⟩
    have k1 := HK1.out.1
    have HR := Lib.hid (show TickQ z B (tickE P (4, (i : Int))) (tickP P (4, (i : Int))) n nb (fun q => q = z ∨ q = nb ∨ some q = lv.ownBlock) (.returned (.tuple #[])) W w2 by
      have hng : ∀ {b : Nat} {ns : List Int}, IBlock w1 b ns → ¬ (b = z ∨ b = nb) := fun hb e => by
        rcases e with e | e
        · exact k1.tu.box.ne_ints hb e
        · exact k1.tu.needs.ne_ints hb e
      refine ⟨HK1.out.2.trans (hk2.sub (fun q _ h => h.elim .inl (fun h => .inr (.inl h)))), .inr ⟨HE.out, rfl, gb, hb, lv, ⟨?_, ?_, ?_, HG.out HE.out, k1.ap, Nat.le_trans k1.hB hk2.size⟩, fun q hq => .inl (.inr (.inr hq.symm))⟩⟩
      · rw [HP.out]; simp only [Int.toNat_natCast]; exact k2
      · rw [HP.out]; exact k1.nest.keeps hk2 (hng k1.nest)
      · rw [HP.out]; exact k1.opened.keeps hk2 (hng k1.opened))
    clear k2 hk2 k1
    go_wp2
    go_end0
    exact HR.out

end Go.Proofs.Ytfnpokddoffplaa
