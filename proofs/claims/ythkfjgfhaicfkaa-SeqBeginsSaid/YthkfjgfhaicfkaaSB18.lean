/-
  SeqBegins: which reads and writes there are.
  Conditions: the ranges of Go's types.
-/
import Derived.Test.YthkfjgfhaicfkaaSB17
import Derived.Test.YthkfjgfhaicfkaaSB8
import Derived.Test.YthkfjgfhaicfkaaSB3
namespace Go.Proofs.Ythkfjgfhaicfkaa
open Go.RowKit Go.Shelf
attribute [local go_sem] Oper.semAt_some

theorem vals_takeN {W W' : World} {p : Option Addr} {n c : Nat} {xs : List Value} (N : Nat) (hn : n = xs.length) (h : (p = none ∧ n = 0 ∧ c = 0) ∨ ∃ a : Addr, p = some a ∧ n ≤ c ∧ ∀ j u, xs[j]? = some u → W.cell? (a.add j) = some u) (hb : Below W.heap.size W W') :
    ValsAt W' (.slice p (min n N) c) 1 (min n N) (xs.take N) := by
  refine ⟨by rw [List.length_take, hn]; omega, p, c, rfl, ?_⟩
  rcases h with ⟨rfl, rfl, rfl⟩ | ⟨a, rfl, _, hcs⟩
  · exact .inl ⟨rfl, by omega, rfl⟩
  · refine .inr ⟨a, rfl, fun j u hj => below_cell hb (hcs j u ?_)⟩
    rw [List.getElem?_take] at hj
    split at hj
    · exact hj
    · cases hj
theorem WrBox.row {W : World} {z : Nat} {s : WrM} {w : Value} (h : WrBox W z s w) {B : Nat} {E : TypeId} {k n : Nat} {v : Value} {xs : List Value} (hr : W.ownsRow B E k v n xs) (hE : E ≠ 34) {g : Nat} (hg : v.ownBlock = some g) : z ≠ g := by
  rintro rfl
  have h' : W.heap[z]? = _ := h
  obtain ⟨c, f, h1⟩ := Lib.ownsRow_kind hr z hg
  rw [h'] at h1
  simp at h1
  exact hE h1.2.1.symm
theorem begR (a f m : Int) : rightRB ⟨a, f, m, 0, 0, 0⟩ 0 = (decide (0 ≤ m) && (decide (m ≤ 16) && apartB a f m)) := by
  unfold rightRB fitsRB
  simp
  cases apartB a f m <;> simp
theorem begW (a f : Int) (n : Nat) : rightWB ⟨a, f, 0, 0, 0⟩ n = (decide (1 ≤ n) && (decide (n ≤ 16) && apartB a f (n : Int))) := by
  unfold rightWB fitsWB
  simp
  cases apartB a f n <;> simp
def Arr3 (w : World) (z : Nat) (a b c : Int) : Prop := w.heap[z]? = some (.cells #[.int .i64 a, .int .i64 b, .int .i64 c] 22 (0, 0))
def Arr2 (w : World) (z : Nat) (a b : Int) : Prop := w.heap[z]? = some (.cells #[.int .i64 a, .int .i64 b] 23 (0, 0))
theorem Arr3.below {w w' : World} {z : Nat} {a b c : Int} (h : Arr3 w z a b c) (hb : Below w.heap.size w w') : Arr3 w' z a b c := (hb.block z (Array.getElem?_eq_some_iff.1 h).1).trans h
theorem Arr2.below {w w' : World} {z : Nat} {a b : Int} (h : Arr2 w z a b) (hb : Below w.heap.size w w') : Arr2 w' z a b := (hb.block z (Array.getElem?_eq_some_iff.1 h).1).trans h
theorem Arr3.cells {w : World} {z : Nat} {a b c : Int} (h : Arr3 w z a b c) : w.cell? ⟨z, 0, none⟩ = some (.int .i64 a) ∧ w.cell? ⟨z, 1, none⟩ = some (.int .i64 b) ∧ w.cell? ⟨z, 2, none⟩ = some (.int .i64 c) := by
  have h' : w.heap[z]? = _ := h
  simp [World.cell?, h']
theorem Arr2.cells {w : World} {z : Nat} {a b : Int} (h : Arr2 w z a b) : w.cell? ⟨z, 0, none⟩ = some (.int .i64 a) ∧ w.cell? ⟨z, 1, none⟩ = some (.int .i64 b) := by
  have h' : w.heap[z]? = _ := h
  simp [World.cell?, h']

set_option maxRecDepth 100000 in
set_option maxHeartbeats 8000000 in
theorem begins_tt (r0 r1 r2 s0 s1 : Int) (v : Value) (vs : List Int) (W : World) (hv : ArgR W v (vs.map (Value.int .u64))) (hvl : vs.length ≤ 9223372036854775807) (hx : rightRB ⟨r0, r1, r2, 0, 0, 0⟩ 0 = true) (hy : rightWB ⟨s0, s1, 0, 0, 0⟩ (min vs.length 18) = true) :
    Calls Try.prog 3 #[.agg #[.int .i64 r0, .int .i64 r1, .int .i64 r2], .agg #[.int .i64 s0, .int .i64 s1], v] W fun e w' => e = .returned (.bool true) ∧ Below W.heap.size W w' := by
  obtain ⟨p0, n0, c0, rfl, hn0, hp0⟩ := hv
  have HCW : ∀ W' : World, Below W.heap.size W W' → Calls Try.prog 11 #[.slice p0 (min n0 18) c0] W' fun e w' => OwnsSl W'.heap.size 27 (min n0 18) ((vs.take 18).map (Value.int .u64)) e w' ∧ Below W'.heap.size W' w' := fun W' hb => by
    have := cloneW _ _ _ W' (vals_takeN 18 hn0 hp0 hb) (fun u hu => by obtain ⟨x, _, rfl⟩ := List.mem_map.1 (List.mem_of_mem_take hu); rfl) (by omega)
    rw [← List.map_take] at this
    exact this.mono fun _ _ h => ⟨h.1.sl, h.2⟩
  rw [List.length_map] at hn0
  rw [← hn0] at hy
  have HL0 := Lib.hid (show (vs.take 18).length = min n0 18 by rw [List.length_take, hn0]; omega)
  have hnc0 : n0 ≤ c0 := by rcases hp0 with ⟨_, b, c⟩ | ⟨_, _, b, _⟩ <;> omega
  obtain ⟨k, hk0⟩ : ∃ k, k = min n0 18 := ⟨_, rfl⟩
  rw [← hk0] at HCW HL0 hy
  have hs0 : ∀ wx, (Instr.slice 24 (.slice p0 n0 c0) none (some (.int .i64 (k : Int))) none).run Try.prog wx = .ok (.slice p0 k c0) wx := run_cut16 Try.underlying24 (fun wx => by go_simp) p0 n0 c0 k (by omega)
  have hm0 : ∀ wx, (Builtin.min_ #[3, 3] 3 #[.int .i64 (n0 : Int), .int .i64 18]).run Try.prog wx = .ok (.int .i64 (k : Int)) wx := fun wx => by
    have : (if (18 : Int) < (n0 : Int) then (18 : Int) else n0) = (k : Int) := by rw [hk0]; split <;> omega
    simp [Builtin.min_, Builtin.min2, this]
  have hw0 : n0 ≤ 9223372036854775807 := by omega
  obtain ⟨xs, hxs⟩ : ∃ xs, xs = vs.take 18 := ⟨_, rfl⟩
  rw [← hxs] at HCW HL0
  have HXL := Lib.hid (show xs.length ≤ 18 by rw [HL0.out, hk0]; omega)
  have HCX := Lib.hid HCW
  clear hp0 hk0 hn0 hnc0 hvl hxs HCW
  have HRD := Lib.hid (show ∀ Z : World, Calls Try.prog 12 #[.int .i64 r0, .int .i64 r1, .int .i64 r2] Z fun e w' => e = .returned (.tuple #[.agg #[.int .i64 r0, .int .i64 r1, .int .i64 r2, .int .i64 0, .int .u64 0, .slice none 0 0, .int .i64 0], .int .i64 0]) ∧ Below Z.heap.size Z w' from fun Z => by
    have h := read_c r0 r1 r2 Z
    rw [hx] at h
    exact h)
  have HER := Lib.hid (show ∀ Z : World, Calls Try.prog 14 #[.int .i64 r0, .int .i64 r1, .int .i64 r2] Z fun e w' => e = .returned (.bool true) ∧ Below Z.heap.size Z w' from fun Z => by
    have h := eRead_c r0 r1 r2 Z
    rw [← begR, hx] at h
    exact h)
  have HEW := Lib.hid (show ∀ (Z : World) (q : Option Addr) (c : Nat), Calls Try.prog 15 #[.int .i64 s0, .int .i64 s1, .slice q k c] Z fun e w' => e = .returned (.bool true) ∧ Below Z.heap.size Z w' from fun Z q c => by
    have h := eWrite_c s0 s1 q k c Z
    rw [← begW, hy] at h
    exact h)
  have HWR := Lib.hid (fun (Z : World) (q : Option Addr) (c : Nat) (hv : NumsAt Z .u64 (.slice q k c) xs) => write_yes s0 s1 q k c xs hy Z hv)
  unfold wrV at HWR
  dsimp only at HWR
  have HSR := Lib.hid (fun Z : World => esameRead ⟨r0, r1, r2, 0, 0, 0⟩ (.slice none 0 0) (.slice none 0 0) [] Z ⟨none, 0, rfl, fun h => absurd rfl h⟩ ⟨none, 0, rfl, fun h => absurd rfl h⟩ (by decide))
  unfold rdV at HSR
  dsimp only at HSR
  obtain ⟨w0, hw00⟩ : ∃ X : World, X = (W.alloc (.cells #[.int .i64 r0, .int .i64 r1, .int .i64 r2] 22)).alloc (.cells #[.int .i64 s0, .int .i64 s1] 23) := ⟨_, rfl⟩
  have HA0 := Lib.hid (show Arr3 w0 W.heap.size r0 r1 r2 by rw [hw00]; exact Arr3.below (World.alloc_heap_new W _) (below1 _ _))
  have HC0 := Lib.hid (show Arr2 w0 (W.heap.size + 1) s0 s1 by
    have h := World.alloc_heap_new (W.alloc (.cells #[.int .i64 r0, .int .i64 r1, .int .i64 r2] 22)) (.cells #[.int .i64 s0, .int .i64 s1] 23)
    rw [World.size_alloc, ← hw00] at h
    exact h)
  have HB0 := Lib.hid (show Below W.heap.size W w0 by rw [hw00]; exact below2 _ _ _)
  have HW0 := Lib.hid hw00
  clear hw00
  go_enter Try.func3, Try.ntmps3
  go_wp2_with fail
  rw [← HW0.out]
  clear HW0
  refine (ewakes w0).mono ?_
  rintro e w1 ⟨rfl, hb1⟩
  have HA1 := Lib.hid (HA0.out.below hb1)
  have HC1 := Lib.hid (HC0.out.below hb1)
  have HB1 := Lib.hid (below_then HB0.out HB0.out.size hb1)
  clear HA0 HC0 HB0 hb1
  go_wp2_with fail
  refine (HCX.out w1 HB1.out).mono ?_
  rintro e w2 ⟨⟨q2, c2, rfl, ho2⟩, hb2⟩
  have HX2 := Lib.hid ho2
  have HA2 := Lib.hid (HA1.out.below hb2)
  have HC2 := Lib.hid (HC1.out.below hb2)
  have HB2 := Lib.hid (below_then HB1.out HB1.out.size hb2)
  clear HA1 HC1 HB1 hb2 ho2 HCX hs0 hm0 hw0
  obtain ⟨a0, a1, a2⟩ := HA2.out.cells
  go_wp2_with fail
  refine (HRD.out w2).mono ?_
  rintro e w3 ⟨rfl, hb3⟩
  obtain ⟨z7, hz7⟩ : ∃ z, z = w3.heap.size := ⟨_, rfl⟩
  obtain ⟨w4, hw4⟩ : ∃ X : World, X = w3.alloc (.cells #[.int .i64 r0, .int .i64 r1, .int .i64 r2, .int .i64 0, .int .u64 0, .slice none 0 0, .int .i64 0] 29) := ⟨_, rfl⟩
  have hb4 : Below w2.heap.size w2 w4 := by rw [hw4]; exact hb3.trans ((below1 w3 _).mono hb3.size)
  have HR4 := Lib.hid (show RdBox w4 z7 ⟨r0, r1, r2, 0, 0, 0⟩ (.slice none 0 0) by rw [hw4, hz7]; exact World.alloc_heap_new _ _)
  have HW4 := Lib.hid (And.intro hz7 hw4)
  have HA4 := Lib.hid (HA2.out.below hb4)
  have HC4 := Lib.hid (HC2.out.below hb4)
  have HX4 := Lib.hid (owns_below HX2.out hb4)
  have HB4 := Lib.hid (below_then HB2.out HB2.out.size hb4)
  clear HA2 HC2 HX2 HB2 hb3 hb4 hz7 hw4 HRD a0 a1 a2
  go_upto_region 5 with (fail)
  rw [← HW4.out.1, ← HW4.out.2]
  clear HW4
  obtain ⟨d0, d1⟩ := HC4.out.cells
  go_wp2_with fail
  refine (HWR.out w4 q2 c2 (nums_of_owns HL0.out HX4.out)).mono ?_
  rintro e w5 ⟨⟨q5, c5, rfl, ho5⟩, hb5⟩
  obtain ⟨z9, hz9⟩ : ∃ z, z = w5.heap.size := ⟨_, rfl⟩
  obtain ⟨w6, hw6⟩ : ∃ X : World, X = w5.alloc (.cells #[.int .i64 s0, .int .i64 s1, .slice q5 k c5, .int .i64 0, .int .u64 0, .int .i64 0] 34) := ⟨_, rfl⟩
  have hb56 : Below w5.heap.size w5 w6 := by rw [hw6]; exact below1 w5 _
  have hb6 : Below w4.heap.size w4 w6 := hb5.trans (hb56.mono hb5.size)
  have HV6 := Lib.hid (show WrBox w6 z9 ⟨s0, s1, 0, 0, 0⟩ (.slice q5 k c5) by rw [hw6, hz9]; exact World.alloc_heap_new _ _)
  have HW6 := Lib.hid (And.intro hz9 hw6)
  have HQ6 := Lib.hid (owns_below ho5 hb56)
  have HA6 := Lib.hid (HA4.out.below hb6)
  have HC6 := Lib.hid (HC4.out.below hb6)
  have HX6 := Lib.hid (owns_below HX4.out hb6)
  have HR6 := Lib.hid (HR4.out.below hb6)
  have HB6 := Lib.hid (below_then HB4.out HB4.out.size hb6)
  clear HA4 HC4 HX4 HR4 HB4 hb5 hb56 hb6 hz9 hw6 HWR d0 d1 ho5
  go_upto_region 6 with (fail)
  rw [← HW6.out.1, ← HW6.out.2]
  clear HW6
  obtain ⟨zz, hzz⟩ : ∃ z, z = w6.heap.size := ⟨_, rfl⟩
  obtain ⟨w7, hw7⟩ : ∃ X : World, X = w6.alloc (.cells #[.int .i64 0, .int .i64 0, .int .i64 0, .int .i64 0, .int .u64 0, .slice none 0 0, .int .i64 0] 29) := ⟨_, rfl⟩
  have hb7 : Below w6.heap.size w6 w7 := by rw [hw7]; exact below1 w6 _
  have HS7 := Lib.hid (show RdBox w7 zz ⟨0, 0, 0, 0, 0, 0⟩ (.slice none 0 0) by rw [hw7, hzz]; exact World.alloc_heap_new _ _)
  have HW7 := Lib.hid (And.intro hzz hw7)
  have HNE := Lib.hid (show z9 < zz ∧ z7 < zz ∧ W.heap.size + 1 < zz by
    have h2 := HR6.out.lt; have h3 := (Array.getElem?_eq_some_iff.1 HV6.out).1; have h4 := (Array.getElem?_eq_some_iff.1 HC6.out).1
    omega)
  have HA7 := Lib.hid (HA6.out.below hb7)
  have HC7 := Lib.hid (HC6.out.below hb7)
  have HX7 := Lib.hid (owns_below HX6.out hb7)
  have HR7 := Lib.hid (HR6.out.below hb7)
  have HV7 := Lib.hid (HV6.out.below hb7)
  have HQ7 := Lib.hid (owns_below HQ6.out hb7)
  have HB7 := Lib.hid (below_then HB6.out HB6.out.size hb7)
  clear HA6 HC6 HX6 HR6 HV6 HQ6 HB6 hb7 hzz hw7
  go_upto_region 7 with (fail)
  rw [← HW7.out.1, ← HW7.out.2]
  clear HW7
  obtain ⟨a0, a1, a2⟩ := HA7.out.cells
  go_wp2_with fail
  refine (HER.out w7).mono ?_
  rintro e w8 ⟨rfl, hb8⟩
  clear a0 a1 a2
  have HA8 := Lib.hid (HA7.out.below hb8)
  have HC8 := Lib.hid (HC7.out.below hb8)
  have HX8 := Lib.hid (owns_below HX7.out hb8)
  have HR8 := Lib.hid (HR7.out.below hb8)
  have HV8 := Lib.hid (HV7.out.below hb8)
  have HS8 := Lib.hid (HS7.out.below hb8)
  have HQ8 := Lib.hid (owns_below HQ7.out hb8)
  have HB8 := Lib.hid (below_then HB7.out HB7.out.size hb8)
  clear HA7 HC7 HX7 HR7 HV7 HS7 HQ7 HB7 hb8 HER
  obtain ⟨a0, a1, a2⟩ := HA8.out.cells
  obtain ⟨c0, c1, c2', c3, c4, c5', c6⟩ := HS8.out.cells
  dsimp only at c0 c1 c2' c3 c4 c6
  have m0 := HS8.out.marks 0
  have m1 := HS8.out.marks 1
  have m2 := HS8.out.marks 2
  have m3 := HS8.out.marks 3
  have m4 := HS8.out.marks 4
  have m5 := HS8.out.marks 5
  have m6 := HS8.out.marks 6
  obtain ⟨w9, hw9⟩ : ∃ X : World, X = ((((((w8.setCell ⟨zz, 0, none⟩ (.int .i64 r0)).setCell ⟨zz, 1, none⟩ (.int .i64 r1)).setCell ⟨zz, 2, none⟩ (.int .i64 r2)).setCell ⟨zz, 3, none⟩ (.int .i64 0)).setCell ⟨zz, 4, none⟩ (.int .u64 0)).setCell ⟨zz, 5, none⟩ (.slice none 0 0)).setCell ⟨zz, 6, none⟩ (.int .i64 0) := ⟨_, rfl⟩
  have HS9 := Lib.hid (show RdBox w9 zz ⟨r0, r1, r2, 0, 0, 0⟩ (.slice none 0 0) by rw [hw9]; exact HS8.out.put ⟨r0, r1, r2, 0, 0, 0⟩ (.slice none 0 0))
  have hk9 : Keeps (fun k => k = zz) w8 w9 := by rw [hw9]; exact RdBox.putK w8 zz ⟨r0, r1, r2, 0, 0, 0⟩ (.slice none 0 0)
  have hne := HNE.out
  have HA9 := Lib.hid (show Arr3 w9 W.heap.size r0 r1 r2 from (hk9.block W.heap.size (Array.getElem?_eq_some_iff.1 HA8.out).1 (by show ¬ _ = zz; omega)).trans HA8.out)
  have HC9 := Lib.hid (show Arr2 w9 (W.heap.size + 1) s0 s1 from (hk9.block (W.heap.size + 1) (Array.getElem?_eq_some_iff.1 HC8.out).1 (by show ¬ _ = zz; omega)).trans HC8.out)
  have HR9 := Lib.hid (show RdBox w9 z7 ⟨r0, r1, r2, 0, 0, 0⟩ (.slice none 0 0) from (hk9.block z7 HR8.out.lt (by show ¬ _ = zz; omega)).trans HR8.out)
  have HV9 := Lib.hid (show WrBox w9 z9 ⟨s0, s1, 0, 0, 0⟩ (.slice q5 k c5) from (hk9.block z9 (Array.getElem?_eq_some_iff.1 HV8.out).1 (by show ¬ _ = zz; omega)).trans HV8.out)
  have HX9 := Lib.hid (hk9.row HX8.out (fun g hg e => RdBox.row HS8.out HX8.out (by decide) hg e.symm))
  have HQ9 := Lib.hid (hk9.row HQ8.out (fun g hg e => RdBox.row HS8.out HQ8.out (by decide) hg e.symm))
  have HB9 := Lib.hid (HB8.out.trans (hk9.below HB8.out.size (fun k e => by have e' : k = zz := e; omega)))
  have HW9 := Lib.hid hw9
  clear hw9 hk9 hne
  go_upto_region 9 with (fail)
  rw [← HW9.out]
  clear HW9 a0 a1 a2 c0 c1 c2' c3 c4 c5' c6 m0 m1 m2 m3 m4 m5 m6 HA8 HC8 HR8 HV8 HX8 HB8 HS8 HQ8
  obtain ⟨zy, hzy⟩ : ∃ z, z = w9.heap.size := ⟨_, rfl⟩
  obtain ⟨wa, hwa⟩ : ∃ X : World, X = w9.alloc (.cells #[.int .i64 0, .int .i64 0, .slice none 0 0, .int .i64 0, .int .u64 0, .int .i64 0] 34) := ⟨_, rfl⟩
  have hba : Below w9.heap.size w9 wa := by rw [hwa]; exact below1 w9 _
  have HUa := Lib.hid (show WrBox wa zy ⟨0, 0, 0, 0, 0⟩ (.slice none 0 0) by rw [hwa, hzy]; exact World.alloc_heap_new _ _)
  have HNY := Lib.hid (show zz < zy ∧ z9 < zy ∧ z7 < zy ∧ W.heap.size + 1 < zy by
    have h1 := HS9.out.lt; have h2 := HR9.out.lt; have h3 := (Array.getElem?_eq_some_iff.1 HV9.out).1; have h4 := (Array.getElem?_eq_some_iff.1 HC9.out).1
    omega)
  have HWa := Lib.hid (And.intro hzy hwa)
  have HAa := Lib.hid (HA9.out.below hba)
  have HCa := Lib.hid (HC9.out.below hba)
  have HXa := Lib.hid (owns_below HX9.out hba)
  have HRa := Lib.hid (HR9.out.below hba)
  have HVa := Lib.hid (HV9.out.below hba)
  have HSa := Lib.hid (HS9.out.below hba)
  have HQa := Lib.hid (owns_below HQ9.out hba)
  have HBa := Lib.hid (below_then HB9.out HB9.out.size hba)
  clear HA9 HC9 HX9 HR9 HV9 HS9 HQ9 HB9 hba hzy hwa
  go_upto_region 10 with (fail)
  rw [← HWa.out.1, ← HWa.out.2]
  clear HWa
  obtain ⟨d0, d1⟩ := HCa.out.cells
  go_wp2_with fail
  refine (HEW.out wa q2 c2).mono ?_
  rintro e wb ⟨rfl, hbb⟩
  clear d0 d1
  have HAb := Lib.hid (HAa.out.below hbb)
  have HCb := Lib.hid (HCa.out.below hbb)
  have HXb := Lib.hid (owns_below HXa.out hbb)
  have HRb := Lib.hid (HRa.out.below hbb)
  have HVb := Lib.hid (HVa.out.below hbb)
  have HSb := Lib.hid (HSa.out.below hbb)
  have HUb := Lib.hid (HUa.out.below hbb)
  have HQb := Lib.hid (owns_below HQa.out hbb)
  have HBb := Lib.hid (below_then HBa.out HBa.out.size hbb)
  clear HAa HCa HXa HRa HVa HSa HUa HQa HBa hbb HEW
  obtain ⟨d0, d1⟩ := HCb.out.cells
  obtain ⟨c0, c1, c2', c3, c4, c5'⟩ := HUb.out.cells
  dsimp only at c0 c1 c3 c4 c5'
  have m0 := HUb.out.marks 0
  have m1 := HUb.out.marks 1
  have m2 := HUb.out.marks 2
  have m3 := HUb.out.marks 3
  have m4 := HUb.out.marks 4
  have m5 := HUb.out.marks 5
  obtain ⟨wc, hwc⟩ : ∃ X : World, X = (((((wb.setCell ⟨zy, 0, none⟩ (.int .i64 s0)).setCell ⟨zy, 1, none⟩ (.int .i64 s1)).setCell ⟨zy, 2, none⟩ (.slice q2 k c2)).setCell ⟨zy, 3, none⟩ (.int .i64 0)).setCell ⟨zy, 4, none⟩ (.int .u64 0)).setCell ⟨zy, 5, none⟩ (.int .i64 0) := ⟨_, rfl⟩
  have HUc := Lib.hid (show WrBox wc zy ⟨s0, s1, 0, 0, 0⟩ (.slice q2 k c2) by rw [hwc]; exact HUb.out.put ⟨s0, s1, 0, 0, 0⟩ (.slice q2 k c2))
  have hkc : Keeps (fun k => k = zy) wb wc := by
    rw [hwc]
    exact (((((Keeps.setCell wb (S := (· = zy)) (p := ⟨zy, 0, none⟩) rfl _).trans (Keeps.setCell _ (S := (· = zy)) (p := ⟨zy, 1, none⟩) rfl _)).trans (Keeps.setCell _ (S := (· = zy)) (p := ⟨zy, 2, none⟩) rfl _)).trans (Keeps.setCell _ (S := (· = zy)) (p := ⟨zy, 3, none⟩) rfl _)).trans (Keeps.setCell _ (S := (· = zy)) (p := ⟨zy, 4, none⟩) rfl _)).trans (Keeps.setCell _ (S := (· = zy)) (p := ⟨zy, 5, none⟩) rfl _)
  have hne := HNY.out
  have HRc := Lib.hid (show RdBox wc z7 ⟨r0, r1, r2, 0, 0, 0⟩ (.slice none 0 0) from (hkc.block z7 HRb.out.lt (by show ¬ _ = zy; omega)).trans HRb.out)
  have HSc := Lib.hid (show RdBox wc zz ⟨r0, r1, r2, 0, 0, 0⟩ (.slice none 0 0) from (hkc.block zz HSb.out.lt (by show ¬ _ = zy; omega)).trans HSb.out)
  have HVc := Lib.hid (show WrBox wc z9 ⟨s0, s1, 0, 0, 0⟩ (.slice q5 k c5) from (hkc.block z9 (Array.getElem?_eq_some_iff.1 HVb.out).1 (by show ¬ _ = zy; omega)).trans HVb.out)
  have HXc := Lib.hid (hkc.row HXb.out (fun g hg e => WrBox.row HUb.out HXb.out (by decide) hg e.symm))
  have HQc := Lib.hid (hkc.row HQb.out (fun g hg e => WrBox.row HUb.out HQb.out (by decide) hg e.symm))
  have HBc := Lib.hid (HBb.out.trans (hkc.below HBb.out.size (fun k e => by have e' : k = zy := e; omega)))
  have HWc := Lib.hid hwc
  clear hwc hkc hne
  go_upto_region 12 with (fail)
  rw [← HWc.out]
  clear HWc d0 d1 c0 c1 c2' c3 c4 c5' m0 m1 m2 m3 m4 m5 HAb HCb HRb HVb HXb HBb HSb HQb HUb
  obtain ⟨c0, c1, c2', c3, c4, c5', c6⟩ := HRc.out.cells
  obtain ⟨e0, e1, e2, e3, e4, e5, e6⟩ := HSc.out.cells
  dsimp only at c0 c1 c2' c3 c4 c6 e0 e1 e2 e3 e4 e6
  go_wp2_with fail
  refine (HSR.out wc).mono ?_
  rintro e wd ⟨rfl, hbd⟩
  clear c0 c1 c2' c3 c4 c5' c6 e0 e1 e2 e3 e4 e5 e6
  have HSW := Lib.hid (esameWrite ⟨s0, s1, 0, 0, 0⟩ (.slice q5 k c5) (.slice q2 k c2) xs wd (nums_of_owns HL0.out (owns_below HQc.out hbd)) (nums_of_owns HL0.out (owns_below HXc.out hbd)) (by have := HXL.out; omega))
  unfold wrV at HSW
  dsimp only at HSW
  obtain ⟨c0, c1, c2', c3, c4, c5'⟩ := (HVc.out.below hbd).cells
  obtain ⟨e0, e1, e2, e3, e4, e5⟩ := (HUc.out.below hbd).cells
  dsimp only at c0 c1 c3 c4 c5' e0 e1 e3 e4 e5
  have HBd := Lib.hid (below_then HBc.out HBc.out.size hbd)
  clear hbd HBc HSR
  go_wp2_with fail
  refine HSW.out.mono ?_
  rintro e we ⟨rfl, hbe⟩
  have HBe := Lib.hid (below_then HBd.out HBd.out.size hbe)
  clear hbe HBd HSW c0 c1 c2' c3 c4 c5' e0 e1 e2 e3 e4 e5
  go_wp2
  go_ret
  exact ⟨rfl, HBe.out⟩

set_option maxRecDepth 100000 in
set_option maxHeartbeats 8000000 in
theorem begins_tf (r0 r1 r2 s0 s1 : Int) (v : Value) (vs : List Int) (W : World) (hv : ArgR W v (vs.map (Value.int .u64))) (hvl : vs.length ≤ 9223372036854775807) (hx : rightRB ⟨r0, r1, r2, 0, 0, 0⟩ 0 = true) (hy : rightWB ⟨s0, s1, 0, 0, 0⟩ (min vs.length 18) = false) :
    Calls Try.prog 3 #[.agg #[.int .i64 r0, .int .i64 r1, .int .i64 r2], .agg #[.int .i64 s0, .int .i64 s1], v] W fun e w' => e = .returned (.bool true) ∧ Below W.heap.size W w' := by
  obtain ⟨p0, n0, c0, rfl, hn0, hp0⟩ := hv
  have HCW : ∀ W' : World, Below W.heap.size W W' → Calls Try.prog 11 #[.slice p0 (min n0 18) c0] W' fun e w' => OwnsSl W'.heap.size 27 (min n0 18) ((vs.take 18).map (Value.int .u64)) e w' ∧ Below W'.heap.size W' w' := fun W' hb => by
    have := cloneW _ _ _ W' (vals_takeN 18 hn0 hp0 hb) (fun u hu => by obtain ⟨x, _, rfl⟩ := List.mem_map.1 (List.mem_of_mem_take hu); rfl) (by omega)
    rw [← List.map_take] at this
    exact this.mono fun _ _ h => ⟨h.1.sl, h.2⟩
  rw [List.length_map] at hn0
  rw [← hn0] at hy
  have HL0 := Lib.hid (show (vs.take 18).length = min n0 18 by rw [List.length_take, hn0]; omega)
  have hnc0 : n0 ≤ c0 := by rcases hp0 with ⟨_, b, c⟩ | ⟨_, _, b, _⟩ <;> omega
  obtain ⟨k, hk0⟩ : ∃ k, k = min n0 18 := ⟨_, rfl⟩
  rw [← hk0] at HCW HL0 hy
  have hs0 : ∀ wx, (Instr.slice 24 (.slice p0 n0 c0) none (some (.int .i64 (k : Int))) none).run Try.prog wx = .ok (.slice p0 k c0) wx := run_cut16 Try.underlying24 (fun wx => by go_simp) p0 n0 c0 k (by omega)
  have hm0 : ∀ wx, (Builtin.min_ #[3, 3] 3 #[.int .i64 (n0 : Int), .int .i64 18]).run Try.prog wx = .ok (.int .i64 (k : Int)) wx := fun wx => by
    have : (if (18 : Int) < (n0 : Int) then (18 : Int) else n0) = (k : Int) := by rw [hk0]; split <;> omega
    simp [Builtin.min_, Builtin.min2, this]
  have hw0 : n0 ≤ 9223372036854775807 := by omega
  obtain ⟨xs, hxs⟩ : ∃ xs, xs = vs.take 18 := ⟨_, rfl⟩
  rw [← hxs] at HCW HL0
  have HXL := Lib.hid (show xs.length ≤ 18 by rw [HL0.out, hk0]; omega)
  have HCX := Lib.hid HCW
  clear hp0 hk0 hn0 hnc0 hvl hxs HCW
  have HRD := Lib.hid (show ∀ Z : World, Calls Try.prog 12 #[.int .i64 r0, .int .i64 r1, .int .i64 r2] Z fun e w' => e = .returned (.tuple #[.agg #[.int .i64 r0, .int .i64 r1, .int .i64 r2, .int .i64 0, .int .u64 0, .slice none 0 0, .int .i64 0], .int .i64 0]) ∧ Below Z.heap.size Z w' from fun Z => by
    have h := read_c r0 r1 r2 Z
    rw [hx] at h
    exact h)
  have HER := Lib.hid (show ∀ Z : World, Calls Try.prog 14 #[.int .i64 r0, .int .i64 r1, .int .i64 r2] Z fun e w' => e = .returned (.bool true) ∧ Below Z.heap.size Z w' from fun Z => by
    have h := eRead_c r0 r1 r2 Z
    rw [← begR, hx] at h
    exact h)
  have HEW := Lib.hid (show ∀ (Z : World) (q : Option Addr) (c : Nat), Calls Try.prog 15 #[.int .i64 s0, .int .i64 s1, .slice q k c] Z fun e w' => e = .returned (.bool false) ∧ Below Z.heap.size Z w' from fun Z q c => by
    have h := eWrite_c s0 s1 q k c Z
    rw [← begW, hy] at h
    exact h)
  have HWR := Lib.hid (fun (Z : World) (q : Option Addr) (c : Nat) => write_no s0 s1 q k c hy Z)
  unfold wrV at HWR
  dsimp only at HWR
  have HSR := Lib.hid (fun Z : World => esameRead ⟨r0, r1, r2, 0, 0, 0⟩ (.slice none 0 0) (.slice none 0 0) [] Z ⟨none, 0, rfl, fun h => absurd rfl h⟩ ⟨none, 0, rfl, fun h => absurd rfl h⟩ (by decide))
  unfold rdV at HSR
  dsimp only at HSR
  obtain ⟨w0, hw00⟩ : ∃ X : World, X = (W.alloc (.cells #[.int .i64 r0, .int .i64 r1, .int .i64 r2] 22)).alloc (.cells #[.int .i64 s0, .int .i64 s1] 23) := ⟨_, rfl⟩
  have HA0 := Lib.hid (show Arr3 w0 W.heap.size r0 r1 r2 by rw [hw00]; exact Arr3.below (World.alloc_heap_new W _) (below1 _ _))
  have HC0 := Lib.hid (show Arr2 w0 (W.heap.size + 1) s0 s1 by
    have h := World.alloc_heap_new (W.alloc (.cells #[.int .i64 r0, .int .i64 r1, .int .i64 r2] 22)) (.cells #[.int .i64 s0, .int .i64 s1] 23)
    rw [World.size_alloc, ← hw00] at h
    exact h)
  have HB0 := Lib.hid (show Below W.heap.size W w0 by rw [hw00]; exact below2 _ _ _)
  have HW0 := Lib.hid hw00
  clear hw00
  go_enter Try.func3, Try.ntmps3
  go_wp2_with fail
  rw [← HW0.out]
  clear HW0
  refine (ewakes w0).mono ?_
  rintro e w1 ⟨rfl, hb1⟩
  have HA1 := Lib.hid (HA0.out.below hb1)
  have HC1 := Lib.hid (HC0.out.below hb1)
  have HB1 := Lib.hid (below_then HB0.out HB0.out.size hb1)
  clear HA0 HC0 HB0 hb1
  go_wp2_with fail
  refine (HCX.out w1 HB1.out).mono ?_
  rintro e w2 ⟨⟨q2, c2, rfl, ho2⟩, hb2⟩
  have HX2 := Lib.hid ho2
  have HA2 := Lib.hid (HA1.out.below hb2)
  have HC2 := Lib.hid (HC1.out.below hb2)
  have HB2 := Lib.hid (below_then HB1.out HB1.out.size hb2)
  clear HA1 HC1 HB1 hb2 ho2 HCX hs0 hm0 hw0
  obtain ⟨a0, a1, a2⟩ := HA2.out.cells
  go_wp2_with fail
  refine (HRD.out w2).mono ?_
  rintro e w3 ⟨rfl, hb3⟩
  obtain ⟨z7, hz7⟩ : ∃ z, z = w3.heap.size := ⟨_, rfl⟩
  obtain ⟨w4, hw4⟩ : ∃ X : World, X = w3.alloc (.cells #[.int .i64 r0, .int .i64 r1, .int .i64 r2, .int .i64 0, .int .u64 0, .slice none 0 0, .int .i64 0] 29) := ⟨_, rfl⟩
  have hb4 : Below w2.heap.size w2 w4 := by rw [hw4]; exact hb3.trans ((below1 w3 _).mono hb3.size)
  have HR4 := Lib.hid (show RdBox w4 z7 ⟨r0, r1, r2, 0, 0, 0⟩ (.slice none 0 0) by rw [hw4, hz7]; exact World.alloc_heap_new _ _)
  have HW4 := Lib.hid (And.intro hz7 hw4)
  have HA4 := Lib.hid (HA2.out.below hb4)
  have HC4 := Lib.hid (HC2.out.below hb4)
  have HX4 := Lib.hid (owns_below HX2.out hb4)
  have HB4 := Lib.hid (below_then HB2.out HB2.out.size hb4)
  clear HA2 HC2 HX2 HB2 hb3 hb4 hz7 hw4 HRD a0 a1 a2
  go_upto_region 5 with (fail)
  rw [← HW4.out.1, ← HW4.out.2]
  clear HW4
  obtain ⟨d0, d1⟩ := HC4.out.cells
  go_wp2_with fail
  refine (HWR.out w4 q2 c2).mono ?_
  rintro e w5 ⟨rfl, hb5⟩
  obtain ⟨z9, hz9⟩ : ∃ z, z = w5.heap.size := ⟨_, rfl⟩
  obtain ⟨w6, hw6⟩ : ∃ X : World, X = w5.alloc (.cells #[.int .i64 0, .int .i64 0, .slice none 0 0, .int .i64 0, .int .u64 0, .int .i64 0] 34) := ⟨_, rfl⟩
  have hb56 : Below w5.heap.size w5 w6 := by rw [hw6]; exact below1 w5 _
  have hb6 : Below w4.heap.size w4 w6 := hb5.trans (hb56.mono hb5.size)
  have HV6 := Lib.hid (show WrBox w6 z9 ⟨0, 0, 0, 0, 0⟩ (.slice none 0 0) by rw [hw6, hz9]; exact World.alloc_heap_new _ _)
  have HW6 := Lib.hid (And.intro hz9 hw6)
  have HA6 := Lib.hid (HA4.out.below hb6)
  have HC6 := Lib.hid (HC4.out.below hb6)
  have HX6 := Lib.hid (owns_below HX4.out hb6)
  have HR6 := Lib.hid (HR4.out.below hb6)
  have HB6 := Lib.hid (below_then HB4.out HB4.out.size hb6)
  clear HA4 HC4 HX4 HR4 HB4 hb5 hb56 hb6 hz9 hw6 HWR d0 d1
  go_upto_region 6 with (fail)
  rw [← HW6.out.1, ← HW6.out.2]
  clear HW6
  obtain ⟨zz, hzz⟩ : ∃ z, z = w6.heap.size := ⟨_, rfl⟩
  obtain ⟨w7, hw7⟩ : ∃ X : World, X = w6.alloc (.cells #[.int .i64 0, .int .i64 0, .int .i64 0, .int .i64 0, .int .u64 0, .slice none 0 0, .int .i64 0] 29) := ⟨_, rfl⟩
  have hb7 : Below w6.heap.size w6 w7 := by rw [hw7]; exact below1 w6 _
  have HS7 := Lib.hid (show RdBox w7 zz ⟨0, 0, 0, 0, 0, 0⟩ (.slice none 0 0) by rw [hw7, hzz]; exact World.alloc_heap_new _ _)
  have HW7 := Lib.hid (And.intro hzz hw7)
  have HNE := Lib.hid (show z9 < zz ∧ z7 < zz ∧ W.heap.size + 1 < zz by
    have h2 := HR6.out.lt; have h3 := (Array.getElem?_eq_some_iff.1 HV6.out).1; have h4 := (Array.getElem?_eq_some_iff.1 HC6.out).1
    omega)
  have HA7 := Lib.hid (HA6.out.below hb7)
  have HC7 := Lib.hid (HC6.out.below hb7)
  have HX7 := Lib.hid (owns_below HX6.out hb7)
  have HR7 := Lib.hid (HR6.out.below hb7)
  have HV7 := Lib.hid (HV6.out.below hb7)
  have HB7 := Lib.hid (below_then HB6.out HB6.out.size hb7)
  clear HA6 HC6 HX6 HR6 HV6 HB6 hb7 hzz hw7
  go_upto_region 7 with (fail)
  rw [← HW7.out.1, ← HW7.out.2]
  clear HW7
  obtain ⟨a0, a1, a2⟩ := HA7.out.cells
  go_wp2_with fail
  refine (HER.out w7).mono ?_
  rintro e w8 ⟨rfl, hb8⟩
  clear a0 a1 a2
  have HA8 := Lib.hid (HA7.out.below hb8)
  have HC8 := Lib.hid (HC7.out.below hb8)
  have HX8 := Lib.hid (owns_below HX7.out hb8)
  have HR8 := Lib.hid (HR7.out.below hb8)
  have HV8 := Lib.hid (HV7.out.below hb8)
  have HS8 := Lib.hid (HS7.out.below hb8)
  have HB8 := Lib.hid (below_then HB7.out HB7.out.size hb8)
  clear HA7 HC7 HX7 HR7 HV7 HS7 HB7 hb8 HER
  obtain ⟨a0, a1, a2⟩ := HA8.out.cells
  obtain ⟨c0, c1, c2', c3, c4, c5', c6⟩ := HS8.out.cells
  dsimp only at c0 c1 c2' c3 c4 c6
  have m0 := HS8.out.marks 0
  have m1 := HS8.out.marks 1
  have m2 := HS8.out.marks 2
  have m3 := HS8.out.marks 3
  have m4 := HS8.out.marks 4
  have m5 := HS8.out.marks 5
  have m6 := HS8.out.marks 6
  obtain ⟨w9, hw9⟩ : ∃ X : World, X = ((((((w8.setCell ⟨zz, 0, none⟩ (.int .i64 r0)).setCell ⟨zz, 1, none⟩ (.int .i64 r1)).setCell ⟨zz, 2, none⟩ (.int .i64 r2)).setCell ⟨zz, 3, none⟩ (.int .i64 0)).setCell ⟨zz, 4, none⟩ (.int .u64 0)).setCell ⟨zz, 5, none⟩ (.slice none 0 0)).setCell ⟨zz, 6, none⟩ (.int .i64 0) := ⟨_, rfl⟩
  have HS9 := Lib.hid (show RdBox w9 zz ⟨r0, r1, r2, 0, 0, 0⟩ (.slice none 0 0) by rw [hw9]; exact HS8.out.put ⟨r0, r1, r2, 0, 0, 0⟩ (.slice none 0 0))
  have hk9 : Keeps (fun k => k = zz) w8 w9 := by rw [hw9]; exact RdBox.putK w8 zz ⟨r0, r1, r2, 0, 0, 0⟩ (.slice none 0 0)
  have hne := HNE.out
  have HA9 := Lib.hid (show Arr3 w9 W.heap.size r0 r1 r2 from (hk9.block W.heap.size (Array.getElem?_eq_some_iff.1 HA8.out).1 (by show ¬ _ = zz; omega)).trans HA8.out)
  have HC9 := Lib.hid (show Arr2 w9 (W.heap.size + 1) s0 s1 from (hk9.block (W.heap.size + 1) (Array.getElem?_eq_some_iff.1 HC8.out).1 (by show ¬ _ = zz; omega)).trans HC8.out)
  have HR9 := Lib.hid (show RdBox w9 z7 ⟨r0, r1, r2, 0, 0, 0⟩ (.slice none 0 0) from (hk9.block z7 HR8.out.lt (by show ¬ _ = zz; omega)).trans HR8.out)
  have HV9 := Lib.hid (show WrBox w9 z9 ⟨0, 0, 0, 0, 0⟩ (.slice none 0 0) from (hk9.block z9 (Array.getElem?_eq_some_iff.1 HV8.out).1 (by show ¬ _ = zz; omega)).trans HV8.out)
  have HX9 := Lib.hid (hk9.row HX8.out (fun g hg e => RdBox.row HS8.out HX8.out (by decide) hg e.symm))
  have HB9 := Lib.hid (HB8.out.trans (hk9.below HB8.out.size (fun k e => by have e' : k = zz := e; omega)))
  have HW9 := Lib.hid hw9
  clear hw9 hk9 hne
  go_upto_region 9 with (fail)
  rw [← HW9.out]
  clear HW9 a0 a1 a2 c0 c1 c2' c3 c4 c5' c6 m0 m1 m2 m3 m4 m5 m6 HA8 HC8 HR8 HV8 HX8 HB8 HS8
  obtain ⟨zy, hzy⟩ : ∃ z, z = w9.heap.size := ⟨_, rfl⟩
  obtain ⟨wa, hwa⟩ : ∃ X : World, X = w9.alloc (.cells #[.int .i64 0, .int .i64 0, .slice none 0 0, .int .i64 0, .int .u64 0, .int .i64 0] 34) := ⟨_, rfl⟩
  have hba : Below w9.heap.size w9 wa := by rw [hwa]; exact below1 w9 _
  have HUa := Lib.hid (show WrBox wa zy ⟨0, 0, 0, 0, 0⟩ (.slice none 0 0) by rw [hwa, hzy]; exact World.alloc_heap_new _ _)
  have HNY := Lib.hid (show zz < zy ∧ z9 < zy ∧ z7 < zy ∧ W.heap.size + 1 < zy by
    have h1 := HS9.out.lt; have h2 := HR9.out.lt; have h3 := (Array.getElem?_eq_some_iff.1 HV9.out).1; have h4 := (Array.getElem?_eq_some_iff.1 HC9.out).1
    omega)
  have HWa := Lib.hid (And.intro hzy hwa)
  have HAa := Lib.hid (HA9.out.below hba)
  have HCa := Lib.hid (HC9.out.below hba)
  have HXa := Lib.hid (owns_below HX9.out hba)
  have HRa := Lib.hid (HR9.out.below hba)
  have HVa := Lib.hid (HV9.out.below hba)
  have HSa := Lib.hid (HS9.out.below hba)
  have HBa := Lib.hid (below_then HB9.out HB9.out.size hba)
  clear HA9 HC9 HX9 HR9 HV9 HS9 HB9 hba hzy hwa
  go_upto_region 10 with (fail)
  rw [← HWa.out.1, ← HWa.out.2]
  clear HWa
  obtain ⟨d0, d1⟩ := HCa.out.cells
  go_wp2_with fail
  refine (HEW.out wa q2 c2).mono ?_
  rintro e wb ⟨rfl, hbb⟩
  clear d0 d1
  have HAb := Lib.hid (HAa.out.below hbb)
  have HCb := Lib.hid (HCa.out.below hbb)
  have HXb := Lib.hid (owns_below HXa.out hbb)
  have HRb := Lib.hid (HRa.out.below hbb)
  have HVb := Lib.hid (HVa.out.below hbb)
  have HSb := Lib.hid (HSa.out.below hbb)
  have HUb := Lib.hid (HUa.out.below hbb)
  have HBb := Lib.hid (below_then HBa.out HBa.out.size hbb)
  clear HAa HCa HXa HRa HVa HSa HUa HBa hbb HEW
  go_upto_region 12 with (fail)
  have HRc := Lib.hid (HRb.out.below (Below.refl wb.heap.size wb))
  have HVc := Lib.hid (HVb.out.below (Below.refl wb.heap.size wb))
  have HSc := Lib.hid (HSb.out.below (Below.refl wb.heap.size wb))
  have HUc := Lib.hid (HUb.out.below (Below.refl wb.heap.size wb))
  have HBc := Lib.hid (below_then HBb.out HBb.out.size (Below.refl wb.heap.size wb))
  clear HRb HVb HSb HUb HBb HAb HCb HXb
  obtain ⟨wc, hwc⟩ : ∃ X : World, X = wb := ⟨_, rfl⟩
  rw [← hwc] at HRc HVc HSc HUc HBc
  rw [← hwc]
  clear hwc
  obtain ⟨c0, c1, c2', c3, c4, c5', c6⟩ := HRc.out.cells
  obtain ⟨e0, e1, e2, e3, e4, e5, e6⟩ := HSc.out.cells
  dsimp only at c0 c1 c2' c3 c4 c6 e0 e1 e2 e3 e4 e6
  go_wp2_with fail
  refine (HSR.out wc).mono ?_
  rintro e wd ⟨rfl, hbd⟩
  clear c0 c1 c2' c3 c4 c5' c6 e0 e1 e2 e3 e4 e5 e6
  have HSW := Lib.hid (esameWrite ⟨0, 0, 0, 0, 0⟩ (.slice none 0 0) (.slice none 0 0) [] wd ⟨none, 0, rfl, fun h => absurd rfl h⟩ ⟨none, 0, rfl, fun h => absurd rfl h⟩ (by decide))
  unfold wrV at HSW
  dsimp only at HSW
  obtain ⟨c0, c1, c2', c3, c4, c5'⟩ := (HVc.out.below hbd).cells
  obtain ⟨e0, e1, e2, e3, e4, e5⟩ := (HUc.out.below hbd).cells
  dsimp only at c0 c1 c3 c4 c5' e0 e1 e3 e4 e5
  have HBd := Lib.hid (below_then HBc.out HBc.out.size hbd)
  clear hbd HBc HSR
  go_wp2_with fail
  refine HSW.out.mono ?_
  rintro e we ⟨rfl, hbe⟩
  have HBe := Lib.hid (below_then HBd.out HBd.out.size hbe)
  clear hbe HBd HSW c0 c1 c2' c3 c4 c5' e0 e1 e2 e3 e4 e5
  go_wp2
  go_ret
  exact ⟨rfl, HBe.out⟩

set_option maxRecDepth 100000 in
set_option maxHeartbeats 8000000 in
theorem begins_ft (r0 r1 r2 s0 s1 : Int) (v : Value) (vs : List Int) (W : World) (hv : ArgR W v (vs.map (Value.int .u64))) (hvl : vs.length ≤ 9223372036854775807) (hx : rightRB ⟨r0, r1, r2, 0, 0, 0⟩ 0 = false) (hy : rightWB ⟨s0, s1, 0, 0, 0⟩ (min vs.length 18) = true) :
    Calls Try.prog 3 #[.agg #[.int .i64 r0, .int .i64 r1, .int .i64 r2], .agg #[.int .i64 s0, .int .i64 s1], v] W fun e w' => e = .returned (.bool true) ∧ Below W.heap.size W w' := by
  obtain ⟨p0, n0, c0, rfl, hn0, hp0⟩ := hv
  have HCW : ∀ W' : World, Below W.heap.size W W' → Calls Try.prog 11 #[.slice p0 (min n0 18) c0] W' fun e w' => OwnsSl W'.heap.size 27 (min n0 18) ((vs.take 18).map (Value.int .u64)) e w' ∧ Below W'.heap.size W' w' := fun W' hb => by
    have := cloneW _ _ _ W' (vals_takeN 18 hn0 hp0 hb) (fun u hu => by obtain ⟨x, _, rfl⟩ := List.mem_map.1 (List.mem_of_mem_take hu); rfl) (by omega)
    rw [← List.map_take] at this
    exact this.mono fun _ _ h => ⟨h.1.sl, h.2⟩
  rw [List.length_map] at hn0
  rw [← hn0] at hy
  have HL0 := Lib.hid (show (vs.take 18).length = min n0 18 by rw [List.length_take, hn0]; omega)
  have hnc0 : n0 ≤ c0 := by rcases hp0 with ⟨_, b, c⟩ | ⟨_, _, b, _⟩ <;> omega
  obtain ⟨k, hk0⟩ : ∃ k, k = min n0 18 := ⟨_, rfl⟩
  rw [← hk0] at HCW HL0 hy
  have hs0 : ∀ wx, (Instr.slice 24 (.slice p0 n0 c0) none (some (.int .i64 (k : Int))) none).run Try.prog wx = .ok (.slice p0 k c0) wx := run_cut16 Try.underlying24 (fun wx => by go_simp) p0 n0 c0 k (by omega)
  have hm0 : ∀ wx, (Builtin.min_ #[3, 3] 3 #[.int .i64 (n0 : Int), .int .i64 18]).run Try.prog wx = .ok (.int .i64 (k : Int)) wx := fun wx => by
    have : (if (18 : Int) < (n0 : Int) then (18 : Int) else n0) = (k : Int) := by rw [hk0]; split <;> omega
    simp [Builtin.min_, Builtin.min2, this]
  have hw0 : n0 ≤ 9223372036854775807 := by omega
  obtain ⟨xs, hxs⟩ : ∃ xs, xs = vs.take 18 := ⟨_, rfl⟩
  rw [← hxs] at HCW HL0
  have HXL := Lib.hid (show xs.length ≤ 18 by rw [HL0.out, hk0]; omega)
  have HCX := Lib.hid HCW
  clear hp0 hk0 hn0 hnc0 hvl hxs HCW
  have HRD := Lib.hid (show ∀ Z : World, Calls Try.prog 12 #[.int .i64 r0, .int .i64 r1, .int .i64 r2] Z fun e w' => e = .returned (.tuple #[.agg #[.int .i64 0, .int .i64 0, .int .i64 0, .int .i64 0, .int .u64 0, .slice none 0 0, .int .i64 0], .int .i64 2]) ∧ Below Z.heap.size Z w' from fun Z => by
    have h := read_c r0 r1 r2 Z
    rw [hx] at h
    exact h)
  have HER := Lib.hid (show ∀ Z : World, Calls Try.prog 14 #[.int .i64 r0, .int .i64 r1, .int .i64 r2] Z fun e w' => e = .returned (.bool false) ∧ Below Z.heap.size Z w' from fun Z => by
    have h := eRead_c r0 r1 r2 Z
    rw [← begR, hx] at h
    exact h)
  have HEW := Lib.hid (show ∀ (Z : World) (q : Option Addr) (c : Nat), Calls Try.prog 15 #[.int .i64 s0, .int .i64 s1, .slice q k c] Z fun e w' => e = .returned (.bool true) ∧ Below Z.heap.size Z w' from fun Z q c => by
    have h := eWrite_c s0 s1 q k c Z
    rw [← begW, hy] at h
    exact h)
  have HWR := Lib.hid (fun (Z : World) (q : Option Addr) (c : Nat) (hv : NumsAt Z .u64 (.slice q k c) xs) => write_yes s0 s1 q k c xs hy Z hv)
  unfold wrV at HWR
  dsimp only at HWR
  have HSR := Lib.hid (fun Z : World => esameRead ⟨0, 0, 0, 0, 0, 0⟩ (.slice none 0 0) (.slice none 0 0) [] Z ⟨none, 0, rfl, fun h => absurd rfl h⟩ ⟨none, 0, rfl, fun h => absurd rfl h⟩ (by decide))
  unfold rdV at HSR
  dsimp only at HSR
  obtain ⟨w0, hw00⟩ : ∃ X : World, X = (W.alloc (.cells #[.int .i64 r0, .int .i64 r1, .int .i64 r2] 22)).alloc (.cells #[.int .i64 s0, .int .i64 s1] 23) := ⟨_, rfl⟩
  have HA0 := Lib.hid (show Arr3 w0 W.heap.size r0 r1 r2 by rw [hw00]; exact Arr3.below (World.alloc_heap_new W _) (below1 _ _))
  have HC0 := Lib.hid (show Arr2 w0 (W.heap.size + 1) s0 s1 by
    have h := World.alloc_heap_new (W.alloc (.cells #[.int .i64 r0, .int .i64 r1, .int .i64 r2] 22)) (.cells #[.int .i64 s0, .int .i64 s1] 23)
    rw [World.size_alloc, ← hw00] at h
    exact h)
  have HB0 := Lib.hid (show Below W.heap.size W w0 by rw [hw00]; exact below2 _ _ _)
  have HW0 := Lib.hid hw00
  clear hw00
  go_enter Try.func3, Try.ntmps3
  go_wp2_with fail
  rw [← HW0.out]
  clear HW0
  refine (ewakes w0).mono ?_
  rintro e w1 ⟨rfl, hb1⟩
  have HA1 := Lib.hid (HA0.out.below hb1)
  have HC1 := Lib.hid (HC0.out.below hb1)
  have HB1 := Lib.hid (below_then HB0.out HB0.out.size hb1)
  clear HA0 HC0 HB0 hb1
  go_wp2_with fail
  refine (HCX.out w1 HB1.out).mono ?_
  rintro e w2 ⟨⟨q2, c2, rfl, ho2⟩, hb2⟩
  have HX2 := Lib.hid ho2
  have HA2 := Lib.hid (HA1.out.below hb2)
  have HC2 := Lib.hid (HC1.out.below hb2)
  have HB2 := Lib.hid (below_then HB1.out HB1.out.size hb2)
  clear HA1 HC1 HB1 hb2 ho2 HCX hs0 hm0 hw0
  obtain ⟨a0, a1, a2⟩ := HA2.out.cells
  go_wp2_with fail
  refine (HRD.out w2).mono ?_
  rintro e w3 ⟨rfl, hb3⟩
  obtain ⟨z7, hz7⟩ : ∃ z, z = w3.heap.size := ⟨_, rfl⟩
  obtain ⟨w4, hw4⟩ : ∃ X : World, X = w3.alloc (.cells #[.int .i64 0, .int .i64 0, .int .i64 0, .int .i64 0, .int .u64 0, .slice none 0 0, .int .i64 0] 29) := ⟨_, rfl⟩
  have hb4 : Below w2.heap.size w2 w4 := by rw [hw4]; exact hb3.trans ((below1 w3 _).mono hb3.size)
  have HR4 := Lib.hid (show RdBox w4 z7 ⟨0, 0, 0, 0, 0, 0⟩ (.slice none 0 0) by rw [hw4, hz7]; exact World.alloc_heap_new _ _)
  have HW4 := Lib.hid (And.intro hz7 hw4)
  have HA4 := Lib.hid (HA2.out.below hb4)
  have HC4 := Lib.hid (HC2.out.below hb4)
  have HX4 := Lib.hid (owns_below HX2.out hb4)
  have HB4 := Lib.hid (below_then HB2.out HB2.out.size hb4)
  clear HA2 HC2 HX2 HB2 hb3 hb4 hz7 hw4 HRD a0 a1 a2
  go_upto_region 5 with (fail)
  rw [← HW4.out.1, ← HW4.out.2]
  clear HW4
  obtain ⟨d0, d1⟩ := HC4.out.cells
  go_wp2_with fail
  refine (HWR.out w4 q2 c2 (nums_of_owns HL0.out HX4.out)).mono ?_
  rintro e w5 ⟨⟨q5, c5, rfl, ho5⟩, hb5⟩
  obtain ⟨z9, hz9⟩ : ∃ z, z = w5.heap.size := ⟨_, rfl⟩
  obtain ⟨w6, hw6⟩ : ∃ X : World, X = w5.alloc (.cells #[.int .i64 s0, .int .i64 s1, .slice q5 k c5, .int .i64 0, .int .u64 0, .int .i64 0] 34) := ⟨_, rfl⟩
  have hb56 : Below w5.heap.size w5 w6 := by rw [hw6]; exact below1 w5 _
  have hb6 : Below w4.heap.size w4 w6 := hb5.trans (hb56.mono hb5.size)
  have HV6 := Lib.hid (show WrBox w6 z9 ⟨s0, s1, 0, 0, 0⟩ (.slice q5 k c5) by rw [hw6, hz9]; exact World.alloc_heap_new _ _)
  have HW6 := Lib.hid (And.intro hz9 hw6)
  have HQ6 := Lib.hid (owns_below ho5 hb56)
  have HA6 := Lib.hid (HA4.out.below hb6)
  have HC6 := Lib.hid (HC4.out.below hb6)
  have HX6 := Lib.hid (owns_below HX4.out hb6)
  have HR6 := Lib.hid (HR4.out.below hb6)
  have HB6 := Lib.hid (below_then HB4.out HB4.out.size hb6)
  clear HA4 HC4 HX4 HR4 HB4 hb5 hb56 hb6 hz9 hw6 HWR d0 d1 ho5
  go_upto_region 6 with (fail)
  rw [← HW6.out.1, ← HW6.out.2]
  clear HW6
  obtain ⟨zz, hzz⟩ : ∃ z, z = w6.heap.size := ⟨_, rfl⟩
  obtain ⟨w7, hw7⟩ : ∃ X : World, X = w6.alloc (.cells #[.int .i64 0, .int .i64 0, .int .i64 0, .int .i64 0, .int .u64 0, .slice none 0 0, .int .i64 0] 29) := ⟨_, rfl⟩
  have hb7 : Below w6.heap.size w6 w7 := by rw [hw7]; exact below1 w6 _
  have HS7 := Lib.hid (show RdBox w7 zz ⟨0, 0, 0, 0, 0, 0⟩ (.slice none 0 0) by rw [hw7, hzz]; exact World.alloc_heap_new _ _)
  have HW7 := Lib.hid (And.intro hzz hw7)
  have HNE := Lib.hid (show z9 < zz ∧ z7 < zz ∧ W.heap.size + 1 < zz by
    have h2 := HR6.out.lt; have h3 := (Array.getElem?_eq_some_iff.1 HV6.out).1; have h4 := (Array.getElem?_eq_some_iff.1 HC6.out).1
    omega)
  have HA7 := Lib.hid (HA6.out.below hb7)
  have HC7 := Lib.hid (HC6.out.below hb7)
  have HX7 := Lib.hid (owns_below HX6.out hb7)
  have HR7 := Lib.hid (HR6.out.below hb7)
  have HV7 := Lib.hid (HV6.out.below hb7)
  have HQ7 := Lib.hid (owns_below HQ6.out hb7)
  have HB7 := Lib.hid (below_then HB6.out HB6.out.size hb7)
  clear HA6 HC6 HX6 HR6 HV6 HQ6 HB6 hb7 hzz hw7
  go_upto_region 7 with (fail)
  rw [← HW7.out.1, ← HW7.out.2]
  clear HW7
  obtain ⟨a0, a1, a2⟩ := HA7.out.cells
  go_wp2_with fail
  refine (HER.out w7).mono ?_
  rintro e w8 ⟨rfl, hb8⟩
  clear a0 a1 a2
  have HA8 := Lib.hid (HA7.out.below hb8)
  have HC8 := Lib.hid (HC7.out.below hb8)
  have HX8 := Lib.hid (owns_below HX7.out hb8)
  have HR8 := Lib.hid (HR7.out.below hb8)
  have HV8 := Lib.hid (HV7.out.below hb8)
  have HS8 := Lib.hid (HS7.out.below hb8)
  have HQ8 := Lib.hid (owns_below HQ7.out hb8)
  have HB8 := Lib.hid (below_then HB7.out HB7.out.size hb8)
  clear HA7 HC7 HX7 HR7 HV7 HS7 HQ7 HB7 hb8 HER
  go_upto_region 9 with (fail)
  have HA9 := Lib.hid (HA8.out.below (Below.refl w8.heap.size w8))
  have HC9 := Lib.hid (HC8.out.below (Below.refl w8.heap.size w8))
  have HX9 := Lib.hid (owns_below HX8.out (Below.refl w8.heap.size w8))
  have HR9 := Lib.hid (HR8.out.below (Below.refl w8.heap.size w8))
  have HV9 := Lib.hid (HV8.out.below (Below.refl w8.heap.size w8))
  have HS9 := Lib.hid (HS8.out.below (Below.refl w8.heap.size w8))
  have HQ9 := Lib.hid (owns_below HQ8.out (Below.refl w8.heap.size w8))
  have HB9 := Lib.hid (below_then HB8.out HB8.out.size (Below.refl w8.heap.size w8))
  clear HA8 HC8 HX8 HR8 HV8 HS8 HQ8 HB8 
  obtain ⟨w9, hw9⟩ : ∃ X : World, X = w8 := ⟨_, rfl⟩
  rw [← hw9] at HA9 HC9 HX9 HR9 HV9 HS9 HB9 HQ9
  rw [← hw9]
  clear hw9
  obtain ⟨zy, hzy⟩ : ∃ z, z = w9.heap.size := ⟨_, rfl⟩
  obtain ⟨wa, hwa⟩ : ∃ X : World, X = w9.alloc (.cells #[.int .i64 0, .int .i64 0, .slice none 0 0, .int .i64 0, .int .u64 0, .int .i64 0] 34) := ⟨_, rfl⟩
  have hba : Below w9.heap.size w9 wa := by rw [hwa]; exact below1 w9 _
  have HUa := Lib.hid (show WrBox wa zy ⟨0, 0, 0, 0, 0⟩ (.slice none 0 0) by rw [hwa, hzy]; exact World.alloc_heap_new _ _)
  have HNY := Lib.hid (show zz < zy ∧ z9 < zy ∧ z7 < zy ∧ W.heap.size + 1 < zy by
    have h1 := HS9.out.lt; have h2 := HR9.out.lt; have h3 := (Array.getElem?_eq_some_iff.1 HV9.out).1; have h4 := (Array.getElem?_eq_some_iff.1 HC9.out).1
    omega)
  have HWa := Lib.hid (And.intro hzy hwa)
  have HAa := Lib.hid (HA9.out.below hba)
  have HCa := Lib.hid (HC9.out.below hba)
  have HXa := Lib.hid (owns_below HX9.out hba)
  have HRa := Lib.hid (HR9.out.below hba)
  have HVa := Lib.hid (HV9.out.below hba)
  have HSa := Lib.hid (HS9.out.below hba)
  have HQa := Lib.hid (owns_below HQ9.out hba)
  have HBa := Lib.hid (below_then HB9.out HB9.out.size hba)
  clear HA9 HC9 HX9 HR9 HV9 HS9 HQ9 HB9 hba hzy hwa
  go_upto_region 10 with (fail)
  rw [← HWa.out.1, ← HWa.out.2]
  clear HWa
  obtain ⟨d0, d1⟩ := HCa.out.cells
  go_wp2_with fail
  refine (HEW.out wa q2 c2).mono ?_
  rintro e wb ⟨rfl, hbb⟩
  clear d0 d1
  have HAb := Lib.hid (HAa.out.below hbb)
  have HCb := Lib.hid (HCa.out.below hbb)
  have HXb := Lib.hid (owns_below HXa.out hbb)
  have HRb := Lib.hid (HRa.out.below hbb)
  have HVb := Lib.hid (HVa.out.below hbb)
  have HSb := Lib.hid (HSa.out.below hbb)
  have HUb := Lib.hid (HUa.out.below hbb)
  have HQb := Lib.hid (owns_below HQa.out hbb)
  have HBb := Lib.hid (below_then HBa.out HBa.out.size hbb)
  clear HAa HCa HXa HRa HVa HSa HUa HQa HBa hbb HEW
  obtain ⟨d0, d1⟩ := HCb.out.cells
  obtain ⟨c0, c1, c2', c3, c4, c5'⟩ := HUb.out.cells
  dsimp only at c0 c1 c3 c4 c5'
  have m0 := HUb.out.marks 0
  have m1 := HUb.out.marks 1
  have m2 := HUb.out.marks 2
  have m3 := HUb.out.marks 3
  have m4 := HUb.out.marks 4
  have m5 := HUb.out.marks 5
  obtain ⟨wc, hwc⟩ : ∃ X : World, X = (((((wb.setCell ⟨zy, 0, none⟩ (.int .i64 s0)).setCell ⟨zy, 1, none⟩ (.int .i64 s1)).setCell ⟨zy, 2, none⟩ (.slice q2 k c2)).setCell ⟨zy, 3, none⟩ (.int .i64 0)).setCell ⟨zy, 4, none⟩ (.int .u64 0)).setCell ⟨zy, 5, none⟩ (.int .i64 0) := ⟨_, rfl⟩
  have HUc := Lib.hid (show WrBox wc zy ⟨s0, s1, 0, 0, 0⟩ (.slice q2 k c2) by rw [hwc]; exact HUb.out.put ⟨s0, s1, 0, 0, 0⟩ (.slice q2 k c2))
  have hkc : Keeps (fun k => k = zy) wb wc := by
    rw [hwc]
    exact (((((Keeps.setCell wb (S := (· = zy)) (p := ⟨zy, 0, none⟩) rfl _).trans (Keeps.setCell _ (S := (· = zy)) (p := ⟨zy, 1, none⟩) rfl _)).trans (Keeps.setCell _ (S := (· = zy)) (p := ⟨zy, 2, none⟩) rfl _)).trans (Keeps.setCell _ (S := (· = zy)) (p := ⟨zy, 3, none⟩) rfl _)).trans (Keeps.setCell _ (S := (· = zy)) (p := ⟨zy, 4, none⟩) rfl _)).trans (Keeps.setCell _ (S := (· = zy)) (p := ⟨zy, 5, none⟩) rfl _)
  have hne := HNY.out
  have HRc := Lib.hid (show RdBox wc z7 ⟨0, 0, 0, 0, 0, 0⟩ (.slice none 0 0) from (hkc.block z7 HRb.out.lt (by show ¬ _ = zy; omega)).trans HRb.out)
  have HSc := Lib.hid (show RdBox wc zz ⟨0, 0, 0, 0, 0, 0⟩ (.slice none 0 0) from (hkc.block zz HSb.out.lt (by show ¬ _ = zy; omega)).trans HSb.out)
  have HVc := Lib.hid (show WrBox wc z9 ⟨s0, s1, 0, 0, 0⟩ (.slice q5 k c5) from (hkc.block z9 (Array.getElem?_eq_some_iff.1 HVb.out).1 (by show ¬ _ = zy; omega)).trans HVb.out)
  have HXc := Lib.hid (hkc.row HXb.out (fun g hg e => WrBox.row HUb.out HXb.out (by decide) hg e.symm))
  have HQc := Lib.hid (hkc.row HQb.out (fun g hg e => WrBox.row HUb.out HQb.out (by decide) hg e.symm))
  have HBc := Lib.hid (HBb.out.trans (hkc.below HBb.out.size (fun k e => by have e' : k = zy := e; omega)))
  have HWc := Lib.hid hwc
  clear hwc hkc hne
  go_upto_region 12 with (fail)
  rw [← HWc.out]
  clear HWc d0 d1 c0 c1 c2' c3 c4 c5' m0 m1 m2 m3 m4 m5 HAb HCb HRb HVb HXb HBb HSb HQb HUb
  obtain ⟨c0, c1, c2', c3, c4, c5', c6⟩ := HRc.out.cells
  obtain ⟨e0, e1, e2, e3, e4, e5, e6⟩ := HSc.out.cells
  dsimp only at c0 c1 c2' c3 c4 c6 e0 e1 e2 e3 e4 e6
  go_wp2_with fail
  refine (HSR.out wc).mono ?_
  rintro e wd ⟨rfl, hbd⟩
  clear c0 c1 c2' c3 c4 c5' c6 e0 e1 e2 e3 e4 e5 e6
  have HSW := Lib.hid (esameWrite ⟨s0, s1, 0, 0, 0⟩ (.slice q5 k c5) (.slice q2 k c2) xs wd (nums_of_owns HL0.out (owns_below HQc.out hbd)) (nums_of_owns HL0.out (owns_below HXc.out hbd)) (by have := HXL.out; omega))
  unfold wrV at HSW
  dsimp only at HSW
  obtain ⟨c0, c1, c2', c3, c4, c5'⟩ := (HVc.out.below hbd).cells
  obtain ⟨e0, e1, e2, e3, e4, e5⟩ := (HUc.out.below hbd).cells
  dsimp only at c0 c1 c3 c4 c5' e0 e1 e3 e4 e5
  have HBd := Lib.hid (below_then HBc.out HBc.out.size hbd)
  clear hbd HBc HSR
  go_wp2_with fail
  refine HSW.out.mono ?_
  rintro e we ⟨rfl, hbe⟩
  have HBe := Lib.hid (below_then HBd.out HBd.out.size hbe)
  clear hbe HBd HSW c0 c1 c2' c3 c4 c5' e0 e1 e2 e3 e4 e5
  go_wp2
  go_ret
  exact ⟨rfl, HBe.out⟩

set_option maxRecDepth 100000 in
set_option maxHeartbeats 8000000 in
theorem begins_ff (r0 r1 r2 s0 s1 : Int) (v : Value) (vs : List Int) (W : World) (hv : ArgR W v (vs.map (Value.int .u64))) (hvl : vs.length ≤ 9223372036854775807) (hx : rightRB ⟨r0, r1, r2, 0, 0, 0⟩ 0 = false) (hy : rightWB ⟨s0, s1, 0, 0, 0⟩ (min vs.length 18) = false) :
    Calls Try.prog 3 #[.agg #[.int .i64 r0, .int .i64 r1, .int .i64 r2], .agg #[.int .i64 s0, .int .i64 s1], v] W fun e w' => e = .returned (.bool true) ∧ Below W.heap.size W w' := by
  obtain ⟨p0, n0, c0, rfl, hn0, hp0⟩ := hv
  have HCW : ∀ W' : World, Below W.heap.size W W' → Calls Try.prog 11 #[.slice p0 (min n0 18) c0] W' fun e w' => OwnsSl W'.heap.size 27 (min n0 18) ((vs.take 18).map (Value.int .u64)) e w' ∧ Below W'.heap.size W' w' := fun W' hb => by
    have := cloneW _ _ _ W' (vals_takeN 18 hn0 hp0 hb) (fun u hu => by obtain ⟨x, _, rfl⟩ := List.mem_map.1 (List.mem_of_mem_take hu); rfl) (by omega)
    rw [← List.map_take] at this
    exact this.mono fun _ _ h => ⟨h.1.sl, h.2⟩
  rw [List.length_map] at hn0
  rw [← hn0] at hy
  have HL0 := Lib.hid (show (vs.take 18).length = min n0 18 by rw [List.length_take, hn0]; omega)
  have hnc0 : n0 ≤ c0 := by rcases hp0 with ⟨_, b, c⟩ | ⟨_, _, b, _⟩ <;> omega
  obtain ⟨k, hk0⟩ : ∃ k, k = min n0 18 := ⟨_, rfl⟩
  rw [← hk0] at HCW HL0 hy
  have hs0 : ∀ wx, (Instr.slice 24 (.slice p0 n0 c0) none (some (.int .i64 (k : Int))) none).run Try.prog wx = .ok (.slice p0 k c0) wx := run_cut16 Try.underlying24 (fun wx => by go_simp) p0 n0 c0 k (by omega)
  have hm0 : ∀ wx, (Builtin.min_ #[3, 3] 3 #[.int .i64 (n0 : Int), .int .i64 18]).run Try.prog wx = .ok (.int .i64 (k : Int)) wx := fun wx => by
    have : (if (18 : Int) < (n0 : Int) then (18 : Int) else n0) = (k : Int) := by rw [hk0]; split <;> omega
    simp [Builtin.min_, Builtin.min2, this]
  have hw0 : n0 ≤ 9223372036854775807 := by omega
  obtain ⟨xs, hxs⟩ : ∃ xs, xs = vs.take 18 := ⟨_, rfl⟩
  rw [← hxs] at HCW HL0
  have HXL := Lib.hid (show xs.length ≤ 18 by rw [HL0.out, hk0]; omega)
  have HCX := Lib.hid HCW
  clear hp0 hk0 hn0 hnc0 hvl hxs HCW
  have HRD := Lib.hid (show ∀ Z : World, Calls Try.prog 12 #[.int .i64 r0, .int .i64 r1, .int .i64 r2] Z fun e w' => e = .returned (.tuple #[.agg #[.int .i64 0, .int .i64 0, .int .i64 0, .int .i64 0, .int .u64 0, .slice none 0 0, .int .i64 0], .int .i64 2]) ∧ Below Z.heap.size Z w' from fun Z => by
    have h := read_c r0 r1 r2 Z
    rw [hx] at h
    exact h)
  have HER := Lib.hid (show ∀ Z : World, Calls Try.prog 14 #[.int .i64 r0, .int .i64 r1, .int .i64 r2] Z fun e w' => e = .returned (.bool false) ∧ Below Z.heap.size Z w' from fun Z => by
    have h := eRead_c r0 r1 r2 Z
    rw [← begR, hx] at h
    exact h)
  have HEW := Lib.hid (show ∀ (Z : World) (q : Option Addr) (c : Nat), Calls Try.prog 15 #[.int .i64 s0, .int .i64 s1, .slice q k c] Z fun e w' => e = .returned (.bool false) ∧ Below Z.heap.size Z w' from fun Z q c => by
    have h := eWrite_c s0 s1 q k c Z
    rw [← begW, hy] at h
    exact h)
  have HWR := Lib.hid (fun (Z : World) (q : Option Addr) (c : Nat) => write_no s0 s1 q k c hy Z)
  unfold wrV at HWR
  dsimp only at HWR
  have HSR := Lib.hid (fun Z : World => esameRead ⟨0, 0, 0, 0, 0, 0⟩ (.slice none 0 0) (.slice none 0 0) [] Z ⟨none, 0, rfl, fun h => absurd rfl h⟩ ⟨none, 0, rfl, fun h => absurd rfl h⟩ (by decide))
  unfold rdV at HSR
  dsimp only at HSR
  obtain ⟨w0, hw00⟩ : ∃ X : World, X = (W.alloc (.cells #[.int .i64 r0, .int .i64 r1, .int .i64 r2] 22)).alloc (.cells #[.int .i64 s0, .int .i64 s1] 23) := ⟨_, rfl⟩
  have HA0 := Lib.hid (show Arr3 w0 W.heap.size r0 r1 r2 by rw [hw00]; exact Arr3.below (World.alloc_heap_new W _) (below1 _ _))
  have HC0 := Lib.hid (show Arr2 w0 (W.heap.size + 1) s0 s1 by
    have h := World.alloc_heap_new (W.alloc (.cells #[.int .i64 r0, .int .i64 r1, .int .i64 r2] 22)) (.cells #[.int .i64 s0, .int .i64 s1] 23)
    rw [World.size_alloc, ← hw00] at h
    exact h)
  have HB0 := Lib.hid (show Below W.heap.size W w0 by rw [hw00]; exact below2 _ _ _)
  have HW0 := Lib.hid hw00
  clear hw00
  go_enter Try.func3, Try.ntmps3
  go_wp2_with fail
  rw [← HW0.out]
  clear HW0
  refine (ewakes w0).mono ?_
  rintro e w1 ⟨rfl, hb1⟩
  have HA1 := Lib.hid (HA0.out.below hb1)
  have HC1 := Lib.hid (HC0.out.below hb1)
  have HB1 := Lib.hid (below_then HB0.out HB0.out.size hb1)
  clear HA0 HC0 HB0 hb1
  go_wp2_with fail
  refine (HCX.out w1 HB1.out).mono ?_
  rintro e w2 ⟨⟨q2, c2, rfl, ho2⟩, hb2⟩
  have HX2 := Lib.hid ho2
  have HA2 := Lib.hid (HA1.out.below hb2)
  have HC2 := Lib.hid (HC1.out.below hb2)
  have HB2 := Lib.hid (below_then HB1.out HB1.out.size hb2)
  clear HA1 HC1 HB1 hb2 ho2 HCX hs0 hm0 hw0
  obtain ⟨a0, a1, a2⟩ := HA2.out.cells
  go_wp2_with fail
  refine (HRD.out w2).mono ?_
  rintro e w3 ⟨rfl, hb3⟩
  obtain ⟨z7, hz7⟩ : ∃ z, z = w3.heap.size := ⟨_, rfl⟩
  obtain ⟨w4, hw4⟩ : ∃ X : World, X = w3.alloc (.cells #[.int .i64 0, .int .i64 0, .int .i64 0, .int .i64 0, .int .u64 0, .slice none 0 0, .int .i64 0] 29) := ⟨_, rfl⟩
  have hb4 : Below w2.heap.size w2 w4 := by rw [hw4]; exact hb3.trans ((below1 w3 _).mono hb3.size)
  have HR4 := Lib.hid (show RdBox w4 z7 ⟨0, 0, 0, 0, 0, 0⟩ (.slice none 0 0) by rw [hw4, hz7]; exact World.alloc_heap_new _ _)
  have HW4 := Lib.hid (And.intro hz7 hw4)
  have HA4 := Lib.hid (HA2.out.below hb4)
  have HC4 := Lib.hid (HC2.out.below hb4)
  have HX4 := Lib.hid (owns_below HX2.out hb4)
  have HB4 := Lib.hid (below_then HB2.out HB2.out.size hb4)
  clear HA2 HC2 HX2 HB2 hb3 hb4 hz7 hw4 HRD a0 a1 a2
  go_upto_region 5 with (fail)
  rw [← HW4.out.1, ← HW4.out.2]
  clear HW4
  obtain ⟨d0, d1⟩ := HC4.out.cells
  go_wp2_with fail
  refine (HWR.out w4 q2 c2).mono ?_
  rintro e w5 ⟨rfl, hb5⟩
  obtain ⟨z9, hz9⟩ : ∃ z, z = w5.heap.size := ⟨_, rfl⟩
  obtain ⟨w6, hw6⟩ : ∃ X : World, X = w5.alloc (.cells #[.int .i64 0, .int .i64 0, .slice none 0 0, .int .i64 0, .int .u64 0, .int .i64 0] 34) := ⟨_, rfl⟩
  have hb56 : Below w5.heap.size w5 w6 := by rw [hw6]; exact below1 w5 _
  have hb6 : Below w4.heap.size w4 w6 := hb5.trans (hb56.mono hb5.size)
  have HV6 := Lib.hid (show WrBox w6 z9 ⟨0, 0, 0, 0, 0⟩ (.slice none 0 0) by rw [hw6, hz9]; exact World.alloc_heap_new _ _)
  have HW6 := Lib.hid (And.intro hz9 hw6)
  have HA6 := Lib.hid (HA4.out.below hb6)
  have HC6 := Lib.hid (HC4.out.below hb6)
  have HX6 := Lib.hid (owns_below HX4.out hb6)
  have HR6 := Lib.hid (HR4.out.below hb6)
  have HB6 := Lib.hid (below_then HB4.out HB4.out.size hb6)
  clear HA4 HC4 HX4 HR4 HB4 hb5 hb56 hb6 hz9 hw6 HWR d0 d1
  go_upto_region 6 with (fail)
  rw [← HW6.out.1, ← HW6.out.2]
  clear HW6
  obtain ⟨zz, hzz⟩ : ∃ z, z = w6.heap.size := ⟨_, rfl⟩
  obtain ⟨w7, hw7⟩ : ∃ X : World, X = w6.alloc (.cells #[.int .i64 0, .int .i64 0, .int .i64 0, .int .i64 0, .int .u64 0, .slice none 0 0, .int .i64 0] 29) := ⟨_, rfl⟩
  have hb7 : Below w6.heap.size w6 w7 := by rw [hw7]; exact below1 w6 _
  have HS7 := Lib.hid (show RdBox w7 zz ⟨0, 0, 0, 0, 0, 0⟩ (.slice none 0 0) by rw [hw7, hzz]; exact World.alloc_heap_new _ _)
  have HW7 := Lib.hid (And.intro hzz hw7)
  have HNE := Lib.hid (show z9 < zz ∧ z7 < zz ∧ W.heap.size + 1 < zz by
    have h2 := HR6.out.lt; have h3 := (Array.getElem?_eq_some_iff.1 HV6.out).1; have h4 := (Array.getElem?_eq_some_iff.1 HC6.out).1
    omega)
  have HA7 := Lib.hid (HA6.out.below hb7)
  have HC7 := Lib.hid (HC6.out.below hb7)
  have HX7 := Lib.hid (owns_below HX6.out hb7)
  have HR7 := Lib.hid (HR6.out.below hb7)
  have HV7 := Lib.hid (HV6.out.below hb7)
  have HB7 := Lib.hid (below_then HB6.out HB6.out.size hb7)
  clear HA6 HC6 HX6 HR6 HV6 HB6 hb7 hzz hw7
  go_upto_region 7 with (fail)
  rw [← HW7.out.1, ← HW7.out.2]
  clear HW7
  obtain ⟨a0, a1, a2⟩ := HA7.out.cells
  go_wp2_with fail
  refine (HER.out w7).mono ?_
  rintro e w8 ⟨rfl, hb8⟩
  clear a0 a1 a2
  have HA8 := Lib.hid (HA7.out.below hb8)
  have HC8 := Lib.hid (HC7.out.below hb8)
  have HX8 := Lib.hid (owns_below HX7.out hb8)
  have HR8 := Lib.hid (HR7.out.below hb8)
  have HV8 := Lib.hid (HV7.out.below hb8)
  have HS8 := Lib.hid (HS7.out.below hb8)
  have HB8 := Lib.hid (below_then HB7.out HB7.out.size hb8)
  clear HA7 HC7 HX7 HR7 HV7 HS7 HB7 hb8 HER
  go_upto_region 9 with (fail)
  have HA9 := Lib.hid (HA8.out.below (Below.refl w8.heap.size w8))
  have HC9 := Lib.hid (HC8.out.below (Below.refl w8.heap.size w8))
  have HX9 := Lib.hid (owns_below HX8.out (Below.refl w8.heap.size w8))
  have HR9 := Lib.hid (HR8.out.below (Below.refl w8.heap.size w8))
  have HV9 := Lib.hid (HV8.out.below (Below.refl w8.heap.size w8))
  have HS9 := Lib.hid (HS8.out.below (Below.refl w8.heap.size w8))
  have HB9 := Lib.hid (below_then HB8.out HB8.out.size (Below.refl w8.heap.size w8))
  clear HA8 HC8 HX8 HR8 HV8 HS8 HB8 
  obtain ⟨w9, hw9⟩ : ∃ X : World, X = w8 := ⟨_, rfl⟩
  rw [← hw9] at HA9 HC9 HX9 HR9 HV9 HS9 HB9
  rw [← hw9]
  clear hw9
  obtain ⟨zy, hzy⟩ : ∃ z, z = w9.heap.size := ⟨_, rfl⟩
  obtain ⟨wa, hwa⟩ : ∃ X : World, X = w9.alloc (.cells #[.int .i64 0, .int .i64 0, .slice none 0 0, .int .i64 0, .int .u64 0, .int .i64 0] 34) := ⟨_, rfl⟩
  have hba : Below w9.heap.size w9 wa := by rw [hwa]; exact below1 w9 _
  have HUa := Lib.hid (show WrBox wa zy ⟨0, 0, 0, 0, 0⟩ (.slice none 0 0) by rw [hwa, hzy]; exact World.alloc_heap_new _ _)
  have HNY := Lib.hid (show zz < zy ∧ z9 < zy ∧ z7 < zy ∧ W.heap.size + 1 < zy by
    have h1 := HS9.out.lt; have h2 := HR9.out.lt; have h3 := (Array.getElem?_eq_some_iff.1 HV9.out).1; have h4 := (Array.getElem?_eq_some_iff.1 HC9.out).1
    omega)
  have HWa := Lib.hid (And.intro hzy hwa)
  have HAa := Lib.hid (HA9.out.below hba)
  have HCa := Lib.hid (HC9.out.below hba)
  have HXa := Lib.hid (owns_below HX9.out hba)
  have HRa := Lib.hid (HR9.out.below hba)
  have HVa := Lib.hid (HV9.out.below hba)
  have HSa := Lib.hid (HS9.out.below hba)
  have HBa := Lib.hid (below_then HB9.out HB9.out.size hba)
  clear HA9 HC9 HX9 HR9 HV9 HS9 HB9 hba hzy hwa
  go_upto_region 10 with (fail)
  rw [← HWa.out.1, ← HWa.out.2]
  clear HWa
  obtain ⟨d0, d1⟩ := HCa.out.cells
  go_wp2_with fail
  refine (HEW.out wa q2 c2).mono ?_
  rintro e wb ⟨rfl, hbb⟩
  clear d0 d1
  have HAb := Lib.hid (HAa.out.below hbb)
  have HCb := Lib.hid (HCa.out.below hbb)
  have HXb := Lib.hid (owns_below HXa.out hbb)
  have HRb := Lib.hid (HRa.out.below hbb)
  have HVb := Lib.hid (HVa.out.below hbb)
  have HSb := Lib.hid (HSa.out.below hbb)
  have HUb := Lib.hid (HUa.out.below hbb)
  have HBb := Lib.hid (below_then HBa.out HBa.out.size hbb)
  clear HAa HCa HXa HRa HVa HSa HUa HBa hbb HEW
  go_upto_region 12 with (fail)
  have HRc := Lib.hid (HRb.out.below (Below.refl wb.heap.size wb))
  have HVc := Lib.hid (HVb.out.below (Below.refl wb.heap.size wb))
  have HSc := Lib.hid (HSb.out.below (Below.refl wb.heap.size wb))
  have HUc := Lib.hid (HUb.out.below (Below.refl wb.heap.size wb))
  have HBc := Lib.hid (below_then HBb.out HBb.out.size (Below.refl wb.heap.size wb))
  clear HRb HVb HSb HUb HBb HAb HCb HXb
  obtain ⟨wc, hwc⟩ : ∃ X : World, X = wb := ⟨_, rfl⟩
  rw [← hwc] at HRc HVc HSc HUc HBc
  rw [← hwc]
  clear hwc
  obtain ⟨c0, c1, c2', c3, c4, c5', c6⟩ := HRc.out.cells
  obtain ⟨e0, e1, e2, e3, e4, e5, e6⟩ := HSc.out.cells
  dsimp only at c0 c1 c2' c3 c4 c6 e0 e1 e2 e3 e4 e6
  go_wp2_with fail
  refine (HSR.out wc).mono ?_
  rintro e wd ⟨rfl, hbd⟩
  clear c0 c1 c2' c3 c4 c5' c6 e0 e1 e2 e3 e4 e5 e6
  have HSW := Lib.hid (esameWrite ⟨0, 0, 0, 0, 0⟩ (.slice none 0 0) (.slice none 0 0) [] wd ⟨none, 0, rfl, fun h => absurd rfl h⟩ ⟨none, 0, rfl, fun h => absurd rfl h⟩ (by decide))
  unfold wrV at HSW
  dsimp only at HSW
  obtain ⟨c0, c1, c2', c3, c4, c5'⟩ := (HVc.out.below hbd).cells
  obtain ⟨e0, e1, e2, e3, e4, e5⟩ := (HUc.out.below hbd).cells
  dsimp only at c0 c1 c3 c4 c5' e0 e1 e3 e4 e5
  have HBd := Lib.hid (below_then HBc.out HBc.out.size hbd)
  clear hbd HBc HSR
  go_wp2_with fail
  refine HSW.out.mono ?_
  rintro e we ⟨rfl, hbe⟩
  have HBe := Lib.hid (below_then HBd.out HBd.out.size hbe)
  clear hbe HBd HSW c0 c1 c2' c3 c4 c5' e0 e1 e2 e3 e4 e5
  go_wp2
  go_ret
  exact ⟨rfl, HBe.out⟩

theorem begins_law (r0 r1 r2 s0 s1 : Int) (v : Value) (vs : List Int) (W : World) (hv : ArgR W v (vs.map (Value.int .u64))) (hvl : vs.length ≤ 9223372036854775807) :
    Calls Try.prog 3 #[.agg #[.int .i64 r0, .int .i64 r1, .int .i64 r2], .agg #[.int .i64 s0, .int .i64 s1], v] W fun e w' => e = .returned (.bool true) ∧ Below W.heap.size W w' := by
  cases hx : rightRB ⟨r0, r1, r2, 0, 0, 0⟩ 0 <;> cases hy : rightWB ⟨s0, s1, 0, 0, 0⟩ (min vs.length 18)
  · exact begins_ff r0 r1 r2 s0 s1 v vs W hv hvl hx hy
  · exact begins_ft r0 r1 r2 s0 s1 v vs W hv hvl hx hy
  · exact begins_tf r0 r1 r2 s0 s1 v vs W hv hvl hx hy
  · exact begins_tt r0 r1 r2 s0 s1 v vs W hv hvl hx hy

end Go.Proofs.Ythkfjgfhaicfkaa
