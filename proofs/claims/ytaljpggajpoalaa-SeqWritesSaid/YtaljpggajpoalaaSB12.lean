/-
  SeqAlone's steps: a write alone, and a read behind it, as contracts of StepWrite and StepRead.
  Conditions: one to sixteen values, in the range of Go's type.
-/
import Derived.Test.YtaljpggajpoalaaSB11
import Derived.Test.YtaljpggajpoalaaSB5
import Derived.Test.YtaljpggajpoalaaSB2
import Derived.Test.YtaljpggajpoalaaSB3
import Derived.Test.YtaljpggajpoalaaSB4
import Derived.Test.YtaljpggajpoalaaSB10
/-
  SeqBegins: which reads and writes there are.
  Conditions: the ranges of Go's types.
-/
namespace Go.Proofs.Ytaljpggajpoalaa
open Go.RowKit Go.Shelf
attribute [local go_sem] Oper.semAt_some

theorem vals_takeN {W W' : World} {p : Option Addr} {n c : Nat} {xs : List Value} (N : Nat) (hn : n = xs.length) (h : (p = none ∧ n = 0 ∧ c = 0) ∨ ∃ a : Addr, p = some a ∧ n ≤ c ∧ ∀ j u, xs[j]? = some u → W.cell? (a.add j) = some u) (hb : Below W.heap.size W W') :
    ValsAt W' (.slice p (min n N) c) 1 (min n N) (xs.take N) := by
  refine ⟨by rw [List.length_take, hn]; omega, p, c, rfl, ?_⟩
  rcases h with ⟨rfl, rfl, rfl⟩ | ⟨a, rfl, _, hcs⟩
  · exact .inl ⟨rfl, by omega, rfl⟩
  · refine .inr ⟨a, rfl, fun j u hj => below_cell hb (hcs j u ?_)⟩
    rw [List.getElem?_take] at hj
    split at hj
    · exact hj
    · cases hj
theorem WrBox.row {W : World} {z : Nat} {s : WrM} {w : Value} (h : WrBox W z s w) {B : Nat} {E : TypeId} {k n : Nat} {v : Value} {xs : List Value} (hr : W.ownsRow B E k v n xs) (hE : E ≠ 34) {g : Nat} (hg : v.ownBlock = some g) : z ≠ g := by
  rintro rfl
  have h' : W.heap[z]? = _ := h
  obtain ⟨c, f, h1⟩ := Lib.ownsRow_kind hr z hg
  rw [h'] at h1
  simp at h1
  exact hE h1.2.1.symm
theorem begR (a f m : Int) : rightRB ⟨a, f, m, 0, 0, 0⟩ 0 = (decide (0 ≤ m) && (decide (m ≤ 16) && apartB a f m)) := by
  unfold rightRB fitsRB
  simp
  cases apartB a f m <;> simp
theorem begW (a f : Int) (n : Nat) : rightWB ⟨a, f, 0, 0, 0⟩ n = (decide (1 ≤ n) && (decide (n ≤ 16) && apartB a f (n : Int))) := by
  unfold rightWB fitsWB
  simp
  cases apartB a f n <;> simp
def Arr3 (w : World) (z : Nat) (a b c : Int) : Prop := w.heap[z]? = some (.cells #[.int .i64 a, .int .i64 b, .int .i64 c] 22 (0, 0))
def Arr2 (w : World) (z : Nat) (a b : Int) : Prop := w.heap[z]? = some (.cells #[.int .i64 a, .int .i64 b] 23 (0, 0))
theorem Arr3.below {w w' : World} {z : Nat} {a b c : Int} (h : Arr3 w z a b c) (hb : Below w.heap.size w w') : Arr3 w' z a b c := (hb.block z (Array.getElem?_eq_some_iff.1 h).1).trans h
theorem Arr2.below {w w' : World} {z : Nat} {a b : Int} (h : Arr2 w z a b) (hb : Below w.heap.size w w') : Arr2 w' z a b := (hb.block z (Array.getElem?_eq_some_iff.1 h).1).trans h
theorem Arr3.cells {w : World} {z : Nat} {a b c : Int} (h : Arr3 w z a b c) : w.cell? ⟨z, 0, none⟩ = some (.int .i64 a) ∧ w.cell? ⟨z, 1, none⟩ = some (.int .i64 b) ∧ w.cell? ⟨z, 2, none⟩ = some (.int .i64 c) := by
  have h' : w.heap[z]? = _ := h
  simp [World.cell?, h']
theorem Arr2.cells {w : World} {z : Nat} {a b : Int} (h : Arr2 w z a b) : w.cell? ⟨z, 0, none⟩ = some (.int .i64 a) ∧ w.cell? ⟨z, 1, none⟩ = some (.int .i64 b) := by
  have h' : w.heap[z]? = _ := h
  simp [World.cell?, h']

set_option maxRecDepth 100000 in
set_option maxHeartbeats 8000000 in
theorem begins_tt (r0 r1 r2 s0 s1 : Int) (v : Value) (vs : List Int) (W : World) (hv : ArgR W v (vs.map (Value.int .u64))) (hvl : vs.length ≤ 9223372036854775807) (hx : rightRB ⟨r0, r1, r2, 0, 0, 0⟩ 0 = true) (hy : rightWB ⟨s0, s1, 0, 0, 0⟩ (min vs.length 18) = true) :
    Calls Try.prog 3 #[.agg #[.int .i64 r0, .int .i64 r1, .int .i64 r2], .agg #[.int .i64 s0, .int .i64 s1], v] W fun e w' => e = .returned (.bool true) ∧ Below W.heap.size W w' := by
  obtain ⟨p0, n0, c0, rfl, hn0, hp0⟩ := hv
  have HCW : ∀ W' : World, Below W.heap.size W W' → Calls Try.prog 11 #[.slice p0 (min n0 18) c0] W' fun e w' => OwnsSl W'.heap.size 27 (min n0 18) ((vs.take 18).map (Value.int .u64)) e w' ∧ Below W'.heap.size W' w' := fun W' hb => by
    have := cloneW _ _ _ W' (vals_takeN 18 hn0 hp0 hb) (fun u hu => by obtain ⟨x, _, rfl⟩ := List.mem_map.1 (List.mem_of_mem_take hu); rfl) (by omega)
    rw [← List.map_take] at this
    exact this.mono fun _ _ h => ⟨h.1.sl, h.2⟩
  rw [List.length_map] at hn0
  rw [← hn0] at hy
  have HL0 := Lib.hid (show (vs.take 18).length = min n0 18 by rw [List.length_take, hn0]; omega)
  have hnc0 : n0 ≤ c0 := by rcases hp0 with ⟨_, b, c⟩ | ⟨_, _, b, _⟩ <;> omega
  obtain ⟨k, hk0⟩ : ∃ k, k = min n0 18 := ⟨_, rfl⟩
  rw [← hk0] at HCW HL0 hy
  have hs0 : ∀ wx, (Instr.slice 24 (.slice p0 n0 c0) none (some (.int .i64 (k : Int))) none).run Try.prog wx = .ok (.slice p0 k c0) wx := run_cut16 Try.underlying24 (fun wx => by go_simp) p0 n0 c0 k (by omega)
  have hm0 : ∀ wx, (Builtin.min_ #[3, 3] 3 #[.int .i64 (n0 : Int), .int .i64 18]).run Try.prog wx = .ok (.int .i64 (k : Int)) wx := fun wx => by
    have : (if (18 : Int) < (n0 : Int) then (18 : Int) else n0) = (k : Int) := by rw [hk0]; split <;> omega
    simp [Builtin.min_, Builtin.min2, this]
  have hw0 : n0 ≤ 9223372036854775807 := by omega
  obtain ⟨xs, hxs⟩ : ∃ xs, xs = vs.take 18 := ⟨_, rfl⟩
  rw [← hxs] at HCW HL0
  have HXL := Lib.hid (show xs.length ≤ 18 by rw [HL0.out, hk0]; omega)
  have HCX := Lib.hid HCW
  clear hp0 hk0 hn0 hnc0 hvl hxs HCW
  have HRD := Lib.hid (show ∀ Z : World, Calls Try.prog 12 #[.int .i64 r0, .int .i64 r1, .int .i64 r2] Z fun e w' => e = .returned (.tuple #[.agg #[.int .i64 r0, .int .i64 r1, .int .i64 r2, .int .i64 0, .int .u64 0, .slice none 0 0, .int .i64 0], .int .i64 0]) ∧ Below Z.heap.size Z w' from fun Z => by
    have h := read_c r0 r1 r2 Z
    rw [hx] at h
    exact h)
  have HER := Lib.hid (show ∀ Z : World, Calls Try.prog 14 #[.int .i64 r0, .int .i64 r1, .int .i64 r2] Z fun e w' => e = .returned (.bool true) ∧ Below Z.heap.size Z w' from fun Z => by
    have h := eRead_c r0 r1 r2 Z
    rw [← begR, hx] at h
    exact h)
  have HEW := Lib.hid (show ∀ (Z : World) (q : Option Addr) (c : Nat), Calls Try.prog 15 #[.int .i64 s0, .int .i64 s1, .slice q k c] Z fun e w' => e = .returned (.bool true) ∧ Below Z.heap.size Z w' from fun Z q c => by
    have h := eWrite_c s0 s1 q k c Z
    rw [← begW, hy] at h
    exact h)
  have HWR := Lib.hid (fun (Z : World) (q : Option Addr) (c : Nat) (hv : NumsAt Z .u64 (.slice q k c) xs) => write_yes s0 s1 q k c xs hy Z hv)
  unfold wrV at HWR
  dsimp only at HWR
  have HSR := Lib.hid (fun Z : World => esameRead ⟨r0, r1, r2, 0, 0, 0⟩ (.slice none 0 0) (.slice none 0 0) [] Z ⟨none, 0, rfl, fun h => absurd rfl h⟩ ⟨none, 0, rfl, fun h => absurd rfl h⟩ (by decide))
  unfold rdV at HSR
  dsimp only at HSR
  obtain ⟨w0, hw00⟩ : ∃ X : World, X = (W.alloc (.cells #[.int .i64 r0, .int .i64 r1, .int .i64 r2] 22)).alloc (.cells #[.int .i64 s0, .int .i64 s1] 23) := ⟨_, rfl⟩
  have HA0 := Lib.hid (show Arr3 w0 W.heap.size r0 r1 r2 by rw [hw00]; exact Arr3.below (World.alloc_heap_new W _) (below1 _ _))
  have HC0 := Lib.hid (show Arr2 w0 (W.heap.size + 1) s0 s1 by
    have h := World.alloc_heap_new (W.alloc (.cells #[.int .i64 r0, .int .i64 r1, .int .i64 r2] 22)) (.cells #[.int .i64 s0, .int .i64 s1] 23)
    rw [World.size_alloc, ← hw00] at h
    exact h)
  have HB0 := Lib.hid (show Below W.heap.size W w0 by rw [hw00]; exact below2 _ _ _)
  have HW0 := Lib.hid hw00
  clear hw00
  go_enter Try.func3, Try.ntmps3
  go_wp2_with fail
  rw [← HW0.out]
  clear HW0
  refine (ewakes w0).mono ?_
  rintro e w1 ⟨rfl, hb1⟩
  have HA1 := Lib.hid (HA0.out.below hb1)
  have HC1 := Lib.hid (HC0.out.below hb1)
  have HB1 := Lib.hid (below_then HB0.out HB0.out.size hb1)
  clear HA0 HC0 HB0 hb1
  go_wp2_with fail
  refine (HCX.out w1 HB1.out).mono ?_
  rintro e w2 ⟨⟨q2, c2, rfl, ho2⟩, hb2⟩
  have HX2 := Lib.hid ho2
  have HA2 := Lib.hid (HA1.out.below hb2)
  have HC2 := Lib.hid (HC1.out.below hb2)
  have HB2 := Lib.hid (below_then HB1.out HB1.out.size hb2)
  clear HA1 HC1 HB1 hb2 ho2 HCX hs0 hm0 hw0
  obtain ⟨a0, a1, a2⟩ := HA2.out.cells
  go_wp2_with fail
  refine (HRD.out w2).mono ?_
  rintro e w3 ⟨rfl, hb3⟩
  obtain ⟨z7, hz7⟩ : ∃ z, z = w3.heap.size := ⟨_, rfl⟩
  obtain ⟨w4, hw4⟩ : ∃ X : World, X = w3.alloc (.cells #[.int .i64 r0, .int .i64 r1, .int .i64 r2, .int .i64 0, .int .u64 0, .slice none 0 0, .int .i64 0] 29) := ⟨_, rfl⟩
  have hb4 : Below w2.heap.size w2 w4 := by rw [hw4]; exact hb3.trans ((below1 w3 _).mono hb3.size)
  have HR4 := Lib.hid (show RdBox w4 z7 ⟨r0, r1, r2, 0, 0, 0⟩ (.slice none 0 0) by rw [hw4, hz7]; exact World.alloc_heap_new _ _)
  have HW4 := Lib.hid (And.intro hz7 hw4)
  have HA4 := Lib.hid (HA2.out.below hb4)
  have HC4 := Lib.hid (HC2.out.below hb4)
  have HX4 := Lib.hid (owns_below HX2.out hb4)
  have HB4 := Lib.hid (below_then HB2.out HB2.out.size hb4)
  clear HA2 HC2 HX2 HB2 hb3 hb4 hz7 hw4 HRD a0 a1 a2
  go_upto_region 5 with (fail)
  rw [← HW4.out.1, ← HW4.out.2]
  clear HW4
  obtain ⟨d0, d1⟩ := HC4.out.cells
  go_wp2_with fail
  refine (HWR.out w4 q2 c2 (nums_of_owns HL0.out HX4.out)).mono ?_
  rintro e w5 ⟨⟨q5, c5, rfl, ho5⟩, hb5⟩
  obtain ⟨z9, hz9⟩ : ∃ z, z = w5.heap.size := ⟨_, rfl⟩
  obtain ⟨w6, hw6⟩ : ∃ X : World, X = w5.alloc (.cells #[.int .i64 s0, .int .i64 s1, .slice q5 k c5, .int .i64 0, .int .u64 0, .int .i64 0] 34) := ⟨_, rfl⟩
  have hb56 : Below w5.heap.size w5 w6 := by rw [hw6]; exact below1 w5 _
  have hb6 : Below w4.heap.size w4 w6 := hb5.trans (hb56.mono hb5.size)
  have HV6 := Lib.hid (show WrBox w6 z9 ⟨s0, s1, 0, 0, 0⟩ (.slice q5 k c5) by rw [hw6, hz9]; exact World.alloc_heap_new _ _)
  have HW6 := Lib.hid (And.intro hz9 hw6)
  have HQ6 := Lib.hid (owns_below ho5 hb56)
  have HA6 := Lib.hid (HA4.out.below hb6)
  have HC6 := Lib.hid (HC4.out.below hb6)
  have HX6 := Lib.hid (owns_below HX4.out hb6)
  have HR6 := Lib.hid (HR4.out.below hb6)
  have HB6 := Lib.hid (below_then HB4.out HB4.out.size hb6)
  clear HA4 HC4 HX4 HR4 HB4 hb5 hb56 hb6 hz9 hw6 HWR d0 d1 ho5
  go_upto_region 6 with (fail)
  rw [← HW6.out.1, ← HW6.out.2]
  clear HW6
  obtain ⟨zz, hzz⟩ : ∃ z, z = w6.heap.size := ⟨_, rfl⟩
  obtain ⟨w7, hw7⟩ : ∃ X : World, X = w6.alloc (.cells #[.int .i64 0, .int .i64 0, .int .i64 0, .int .i64 0, .int .u64 0, .slice none 0 0, .int .i64 0] 29) := ⟨_, rfl⟩
  have hb7 : Below w6.heap.size w6 w7 := by rw [hw7]; exact below1 w6 _
  have HS7 := Lib.hid (show RdBox w7 zz ⟨0, 0, 0, 0, 0, 0⟩ (.slice none 0 0) by rw [hw7, hzz]; exact World.alloc_heap_new _ _)
  have HW7 := Lib.hid (And.intro hzz hw7)
  have HNE := Lib.hid (show z9 < zz ∧ z7 < zz ∧ W.heap.size + 1 < zz by
    have h2 := HR6.out.lt; have h3 := (Array.getElem?_eq_some_iff.1 HV6.out).1; have h4 := (Array.getElem?_eq_some_iff.1 HC6.out).1
    omega)
  have HA7 := Lib.hid (HA6.out.below hb7)
  have HC7 := Lib.hid (HC6.out.below hb7)
  have HX7 := Lib.hid (owns_below HX6.out hb7)
  have HR7 := Lib.hid (HR6.out.below hb7)
  have HV7 := Lib.hid (HV6.out.below hb7)
  have HQ7 := Lib.hid (owns_below HQ6.out hb7)
  have HB7 := Lib.hid (below_then HB6.out HB6.out.size hb7)
  clear HA6 HC6 HX6 HR6 HV6 HQ6 HB6 hb7 hzz hw7
  go_upto_region 7 with (fail)
  rw [← HW7.out.1, ← HW7.out.2]
  clear HW7
  obtain ⟨a0, a1, a2⟩ := HA7.out.cells
  go_wp2_with fail
  refine (HER.out w7).mono ?_
  rintro e w8 ⟨rfl, hb8⟩
  clear a0 a1 a2
  have HA8 := Lib.hid (HA7.out.below hb8)
  have HC8 := Lib.hid (HC7.out.below hb8)
  have HX8 := Lib.hid (owns_below HX7.out hb8)
  have HR8 := Lib.hid (HR7.out.below hb8)
  have HV8 := Lib.hid (HV7.out.below hb8)
  have HS8 := Lib.hid (HS7.out.below hb8)
  have HQ8 := Lib.hid (owns_below HQ7.out hb8)
  have HB8 := Lib.hid (below_then HB7.out HB7.out.size hb8)
  clear HA7 HC7 HX7 HR7 HV7 HS7 HQ7 HB7 hb8 HER
  obtain ⟨a0, a1, a2⟩ := HA8.out.cells
  obtain ⟨c0, c1, c2', c3, c4, c5', c6⟩ := HS8.out.cells
  dsimp only at c0 c1 c2' c3 c4 c6
  have m0 := HS8.out.marks 0
  have m1 := HS8.out.marks 1
  have m2 := HS8.out.marks 2
  have m3 := HS8.out.marks 3
  have m4 := HS8.out.marks 4
  have m5 := HS8.out.marks 5
  have m6 := HS8.out.marks 6
  obtain ⟨w9, hw9⟩ : ∃ X : World, X = ((((((w8.setCell ⟨zz, 0, none⟩ (.int .i64 r0)).setCell ⟨zz, 1, none⟩ (.int .i64 r1)).setCell ⟨zz, 2, none⟩ (.int .i64 r2)).setCell ⟨zz, 3, none⟩ (.int .i64 0)).setCell ⟨zz, 4, none⟩ (.int .u64 0)).setCell ⟨zz, 5, none⟩ (.slice none 0 0)).setCell ⟨zz, 6, none⟩ (.int .i64 0) := ⟨_, rfl⟩
  have HS9 := Lib.hid (show RdBox w9 zz ⟨r0, r1, r2, 0, 0, 0⟩ (.slice none 0 0) by rw [hw9]; exact HS8.out.put ⟨r0, r1, r2, 0, 0, 0⟩ (.slice none 0 0))
  have hk9 : Keeps (fun k => k = zz) w8 w9 := by rw [hw9]; exact RdBox.putK w8 zz ⟨r0, r1, r2, 0, 0, 0⟩ (.slice none 0 0)
  have hne := HNE.out
  have HA9 := Lib.hid (show Arr3 w9 W.heap.size r0 r1 r2 from (hk9.block W.heap.size (Array.getElem?_eq_some_iff.1 HA8.out).1 (by show ¬ _ = zz; omega)).trans HA8.out)
  have HC9 := Lib.hid (show Arr2 w9 (W.heap.size + 1) s0 s1 from (hk9.block (W.heap.size + 1) (Array.getElem?_eq_some_iff.1 HC8.out).1 (by show ¬ _ = zz; omega)).trans HC8.out)
  have HR9 := Lib.hid (show RdBox w9 z7 ⟨r0, r1, r2, 0, 0, 0⟩ (.slice none 0 0) from (hk9.block z7 HR8.out.lt (by show ¬ _ = zz; omega)).trans HR8.out)
  have HV9 := Lib.hid (show WrBox w9 z9 ⟨s0, s1, 0, 0, 0⟩ (.slice q5 k c5) from (hk9.block z9 (Array.getElem?_eq_some_iff.1 HV8.out).1 (by show ¬ _ = zz; omega)).trans HV8.out)
  have HX9 := Lib.hid (hk9.row HX8.out (fun g hg e => RdBox.row HS8.out HX8.out (by decide) hg e.symm))
  have HQ9 := Lib.hid (hk9.row HQ8.out (fun g hg e => RdBox.row HS8.out HQ8.out (by decide) hg e.symm))
  have HB9 := Lib.hid (HB8.out.trans (hk9.below HB8.out.size (fun k e => by have e' : k = zz := e; omega)))
  have HW9 := Lib.hid hw9
  clear hw9 hk9 hne
  go_upto_region 9 with (fail)
  rw [← HW9.out]
  clear HW9 a0 a1 a2 c0 c1 c2' c3 c4 c5' c6 m0 m1 m2 m3 m4 m5 m6 HA8 HC8 HR8 HV8 HX8 HB8 HS8 HQ8
  obtain ⟨zy, hzy⟩ : ∃ z, z = w9.heap.size := ⟨_, rfl⟩
  obtain ⟨wa, hwa⟩ : ∃ X : World, X = w9.alloc (.cells #[.int .i64 0, .int .i64 0, .slice none 0 0, .int .i64 0, .int .u64 0, .int .i64 0] 34) := ⟨_, rfl⟩
  have hba : Below w9.heap.size w9 wa := by rw [hwa]; exact below1 w9 _
  have HUa := Lib.hid (show WrBox wa zy ⟨0, 0, 0, 0, 0⟩ (.slice none 0 0) by rw [hwa, hzy]; exact World.alloc_heap_new _ _)
  have HNY := Lib.hid (show zz < zy ∧ z9 < zy ∧ z7 < zy ∧ W.heap.size + 1 < zy by
    have h1 := HS9.out.lt; have h2 := HR9.out.lt; have h3 := (Array.getElem?_eq_some_iff.1 HV9.out).1; have h4 := (Array.getElem?_eq_some_iff.1 HC9.out).1
    omega)
  have HWa := Lib.hid (And.intro hzy hwa)
  have HAa := Lib.hid (HA9.out.below hba)
  have HCa := Lib.hid (HC9.out.below hba)
  have HXa := Lib.hid (owns_below HX9.out hba)
  have HRa := Lib.hid (HR9.out.below hba)
  have HVa := Lib.hid (HV9.out.below hba)
  have HSa := Lib.hid (HS9.out.below hba)
  have HQa := Lib.hid (owns_below HQ9.out hba)
  have HBa := Lib.hid (below_then HB9.out HB9.out.size hba)
  clear HA9 HC9 HX9 HR9 HV9 HS9 HQ9 HB9 hba hzy hwa
  go_upto_region 10 with (fail)
  rw [← HWa.out.1, ← HWa.out.2]
  clear HWa
  obtain ⟨d0, d1⟩ := HCa.out.cells
  go_wp2_with fail
  refine (HEW.out wa q2 c2).mono ?_
  rintro e wb ⟨rfl, hbb⟩
  clear d0 d1
  have HAb := Lib.hid (HAa.out.below hbb)
  have HCb := Lib.hid (HCa.out.below hbb)
  have HXb := Lib.hid (owns_below HXa.out hbb)
  have HRb := Lib.hid (HRa.out.below hbb)
  have HVb := Lib.hid (HVa.out.below hbb)
  have HSb := Lib.hid (HSa.out.below hbb)
  have HUb := Lib.hid (HUa.out.below hbb)
  have HQb := Lib.hid (owns_below HQa.out hbb)
  have HBb := Lib.hid (below_then HBa.out HBa.out.size hbb)
  clear HAa HCa HXa HRa HVa HSa HUa HQa HBa hbb HEW
  obtain ⟨d0, d1⟩ := HCb.out.cells
  obtain ⟨c0, c1, c2', c3, c4, c5'⟩ := HUb.out.cells
  dsimp only at c0 c1 c3 c4 c5'
  have m0 := HUb.out.marks 0
  have m1 := HUb.out.marks 1
  have m2 := HUb.out.marks 2
  have m3 := HUb.out.marks 3
  have m4 := HUb.out.marks 4
  have m5 := HUb.out.marks 5
  obtain ⟨wc, hwc⟩ : ∃ X : World, X = (((((wb.setCell ⟨zy, 0, none⟩ (.int .i64 s0)).setCell ⟨zy, 1, none⟩ (.int .i64 s1)).setCell ⟨zy, 2, none⟩ (.slice q2 k c2)).setCell ⟨zy, 3, none⟩ (.int .i64 0)).setCell ⟨zy, 4, none⟩ (.int .u64 0)).setCell ⟨zy, 5, none⟩ (.int .i64 0) := ⟨_, rfl⟩
  have HUc := Lib.hid (show WrBox wc zy ⟨s0, s1, 0, 0, 0⟩ (.slice q2 k c2) by rw [hwc]; exact HUb.out.put ⟨s0, s1, 0, 0, 0⟩ (.slice q2 k c2))
  have hkc : Keeps (fun k => k = zy) wb wc := by
    rw [hwc]
    exact (((((Keeps.setCell wb (S := (· = zy)) (p := ⟨zy, 0, none⟩) rfl _).trans (Keeps.setCell _ (S := (· = zy)) (p := ⟨zy, 1, none⟩) rfl _)).trans (Keeps.setCell _ (S := (· = zy)) (p := ⟨zy, 2, none⟩) rfl _)).trans (Keeps.setCell _ (S := (· = zy)) (p := ⟨zy, 3, none⟩) rfl _)).trans (Keeps.setCell _ (S := (· = zy)) (p := ⟨zy, 4, none⟩) rfl _)).trans (Keeps.setCell _ (S := (· = zy)) (p := ⟨zy, 5, none⟩) rfl _)
  have hne := HNY.out
  have HRc := Lib.hid (show RdBox wc z7 ⟨r0, r1, r2, 0, 0, 0⟩ (.slice none 0 0) from (hkc.block z7 HRb.out.lt (by show ¬ _ = zy; omega)).trans HRb.out)
  have HSc := Lib.hid (show RdBox wc zz ⟨r0, r1, r2, 0, 0, 0⟩ (.slice none 0 0) from (hkc.block zz HSb.out.lt (by show ¬ _ = zy; omega)).trans HSb.out)
  have HVc := Lib.hid (show WrBox wc z9 ⟨s0, s1, 0, 0, 0⟩ (.slice q5 k c5) from (hkc.block z9 (Array.getElem?_eq_some_iff.1 HVb.out).1 (by show ¬ _ = zy; omega)).trans HVb.out)
  have HXc := Lib.hid (hkc.row HXb.out (fun g hg e => WrBox.row HUb.out HXb.out (by decide) hg e.symm))
  have HQc := Lib.hid (hkc.row HQb.out (fun g hg e => WrBox.row HUb.out HQb.out (by decide) hg e.symm))
  have HBc := Lib.hid (HBb.out.trans (hkc.below HBb.out.size (fun k e => by have e' : k = zy := e; omega)))
  have HWc := Lib.hid hwc
  clear hwc hkc hne
  go_upto_region 12 with (fail)
  rw [← HWc.out]
  clear HWc d0 d1 c0 c1 c2' c3 c4 c5' m0 m1 m2 m3 m4 m5 HAb HCb HRb HVb HXb HBb HSb HQb HUb
  obtain ⟨c0, c1, c2', c3, c4, c5', c6⟩ := HRc.out.cells
  obtain ⟨e0, e1, e2, e3, e4, e5, e6⟩ := HSc.out.cells
  dsimp only at c0 c1 c2' c3 c4 c6 e0 e1 e2 e3 e4 e6
  go_wp2_with fail
  refine (HSR.out wc).mono ?_
  rintro e wd ⟨rfl, hbd⟩
  clear c0 c1 c2' c3 c4 c5' c6 e0 e1 e2 e3 e4 e5 e6
  have HSW := Lib.hid (esameWrite ⟨s0, s1, 0, 0, 0⟩ (.slice q5 k c5) (.slice q2 k c2) xs wd (nums_of_owns HL0.out (owns_below HQc.out hbd)) (nums_of_owns HL0.out (owns_below HXc.out hbd)) (by have := HXL.out; omega))
  unfold wrV at HSW
  dsimp only at HSW
  obtain ⟨c0, c1, c2', c3, c4, c5'⟩ := (HVc.out.below hbd).cells
  obtain ⟨e0, e1, e2, e3, e4, e5⟩ := (HUc.out.below hbd).cells
  dsimp only at c0 c1 c3 c4 c5' e0 e1 e3 e4 e5
  have HBd := Lib.hid (below_then HBc.out HBc.out.size hbd)
  clear hbd HBc HSR
  go_wp2_with fail
  refine HSW.out.mono ?_
  rintro e we ⟨rfl, hbe⟩
  have HBe := Lib.hid (below_then HBd.out HBd.out.size hbe)
  clear hbe HBd HSW c0 c1 c2' c3 c4 c5' e0 e1 e2 e3 e4 e5
  go_wp2
  go_ret
  exact ⟨rfl, HBe.out⟩

set_option maxRecDepth 100000 in
set_option maxHeartbeats 8000000 in
theorem begins_tf (r0 r1 r2 s0 s1 : Int) (v : Value) (vs : List Int) (W : World) (hv : ArgR W v (vs.map (Value.int .u64))) (hvl : vs.length ≤ 9223372036854775807) (hx : rightRB ⟨r0, r1, r2, 0, 0, 0⟩ 0 = true) (hy : rightWB ⟨s0, s1, 0, 0, 0⟩ (min vs.length 18) = false) :
    Calls Try.prog 3 #[.agg #[.int .i64 r0, .int .i64 r1, .int .i64 r2], .agg #[.int .i64 s0, .int .i64 s1], v] W fun e w' => e = .returned (.bool true) ∧ Below W.heap.size W w' := by
  obtain ⟨p0, n0, c0, rfl, hn0, hp0⟩ := hv
  have HCW : ∀ W' : World, Below W.heap.size W W' → Calls Try.prog 11 #[.slice p0 (min n0 18) c0] W' fun e w' => OwnsSl W'.heap.size 27 (min n0 18) ((vs.take 18).map (Value.int .u64)) e w' ∧ Below W'.heap.size W' w' := fun W' hb => by
    have := cloneW _ _ _ W' (vals_takeN 18 hn0 hp0 hb) (fun u hu => by obtain ⟨x, _, rfl⟩ := List.mem_map.1 (List.mem_of_mem_take hu); rfl) (by omega)
    rw [← List.map_take] at this
    exact this.mono fun _ _ h => ⟨h.1.sl, h.2⟩
  rw [List.length_map] at hn0
  rw [← hn0] at hy
  have HL0 := Lib.hid (show (vs.take 18).length = min n0 18 by rw [List.length_take, hn0]; omega)
  have hnc0 : n0 ≤ c0 := by rcases hp0 with ⟨_, b, c⟩ | ⟨_, _, b, _⟩ <;> omega
  obtain ⟨k, hk0⟩ : ∃ k, k = min n0 18 := ⟨_, rfl⟩
  rw [← hk0] at HCW HL0 hy
  have hs0 : ∀ wx, (Instr.slice 24 (.slice p0 n0 c0) none (some (.int .i64 (k : Int))) none).run Try.prog wx = .ok (.slice p0 k c0) wx := run_cut16 Try.underlying24 (fun wx => by go_simp) p0 n0 c0 k (by omega)
  have hm0 : ∀ wx, (Builtin.min_ #[3, 3] 3 #[.int .i64 (n0 : Int), .int .i64 18]).run Try.prog wx = .ok (.int .i64 (k : Int)) wx := fun wx => by
    have : (if (18 : Int) < (n0 : Int) then (18 : Int) else n0) = (k : Int) := by rw [hk0]; split <;> omega
    simp [Builtin.min_, Builtin.min2, this]
  have hw0 : n0 ≤ 9223372036854775807 := by omega
  obtain ⟨xs, hxs⟩ : ∃ xs, xs = vs.take 18 := ⟨_, rfl⟩
  rw [← hxs] at HCW HL0
  have HXL := Lib.hid (show xs.length ≤ 18 by rw [HL0.out, hk0]; omega)
  have HCX := Lib.hid HCW
  clear hp0 hk0 hn0 hnc0 hvl hxs HCW
  have HRD := Lib.hid (show ∀ Z : World, Calls Try.prog 12 #[.int .i64 r0, .int .i64 r1, .int .i64 r2] Z fun e w' => e = .returned (.tuple #[.agg #[.int .i64 r0, .int .i64 r1, .int .i64 r2, .int .i64 0, .int .u64 0, .slice none 0 0, .int .i64 0], .int .i64 0]) ∧ Below Z.heap.size Z w' from fun Z => by
    have h := read_c r0 r1 r2 Z
    rw [hx] at h
    exact h)
  have HER := Lib.hid (show ∀ Z : World, Calls Try.prog 14 #[.int .i64 r0, .int .i64 r1, .int .i64 r2] Z fun e w' => e = .returned (.bool true) ∧ Below Z.heap.size Z w' from fun Z => by
    have h := eRead_c r0 r1 r2 Z
    rw [← begR, hx] at h
    exact h)
  have HEW := Lib.hid (show ∀ (Z : World) (q : Option Addr) (c : Nat), Calls Try.prog 15 #[.int .i64 s0, .int .i64 s1, .slice q k c] Z fun e w' => e = .returned (.bool false) ∧ Below Z.heap.size Z w' from fun Z q c => by
    have h := eWrite_c s0 s1 q k c Z
    rw [← begW, hy] at h
    exact h)
  have HWR := Lib.hid (fun (Z : World) (q : Option Addr) (c : Nat) => write_no s0 s1 q k c hy Z)
  unfold wrV at HWR
  dsimp only at HWR
  have HSR := Lib.hid (fun Z : World => esameRead ⟨r0, r1, r2, 0, 0, 0⟩ (.slice none 0 0) (.slice none 0 0) [] Z ⟨none, 0, rfl, fun h => absurd rfl h⟩ ⟨none, 0, rfl, fun h => absurd rfl h⟩ (by decide))
  unfold rdV at HSR
  dsimp only at HSR
  obtain ⟨w0, hw00⟩ : ∃ X : World, X = (W.alloc (.cells #[.int .i64 r0, .int .i64 r1, .int .i64 r2] 22)).alloc (.cells #[.int .i64 s0, .int .i64 s1] 23) := ⟨_, rfl⟩
  have HA0 := Lib.hid (show Arr3 w0 W.heap.size r0 r1 r2 by rw [hw00]; exact Arr3.below (World.alloc_heap_new W _) (below1 _ _))
  have HC0 := Lib.hid (show Arr2 w0 (W.heap.size + 1) s0 s1 by
    have h := World.alloc_heap_new (W.alloc (.cells #[.int .i64 r0, .int .i64 r1, .int .i64 r2] 22)) (.cells #[.int .i64 s0, .int .i64 s1] 23)
    rw [World.size_alloc, ← hw00] at h
    exact h)
  have HB0 := Lib.hid (show Below W.heap.size W w0 by rw [hw00]; exact below2 _ _ _)
  have HW0 := Lib.hid hw00
  clear hw00
  go_enter Try.func3, Try.ntmps3
  go_wp2_with fail
  rw [← HW0.out]
  clear HW0
  refine (ewakes w0).mono ?_
  rintro e w1 ⟨rfl, hb1⟩
  have HA1 := Lib.hid (HA0.out.below hb1)
  have HC1 := Lib.hid (HC0.out.below hb1)
  have HB1 := Lib.hid (below_then HB0.out HB0.out.size hb1)
  clear HA0 HC0 HB0 hb1
  go_wp2_with fail
  refine (HCX.out w1 HB1.out).mono ?_
  rintro e w2 ⟨⟨q2, c2, rfl, ho2⟩, hb2⟩
  have HX2 := Lib.hid ho2
  have HA2 := Lib.hid (HA1.out.below hb2)
  have HC2 := Lib.hid (HC1.out.below hb2)
  have HB2 := Lib.hid (below_then HB1.out HB1.out.size hb2)
  clear HA1 HC1 HB1 hb2 ho2 HCX hs0 hm0 hw0
  obtain ⟨a0, a1, a2⟩ := HA2.out.cells
  go_wp2_with fail
  refine (HRD.out w2).mono ?_
  rintro e w3 ⟨rfl, hb3⟩
  obtain ⟨z7, hz7⟩ : ∃ z, z = w3.heap.size := ⟨_, rfl⟩
  obtain ⟨w4, hw4⟩ : ∃ X : World, X = w3.alloc (.cells #[.int .i64 r0, .int .i64 r1, .int .i64 r2, .int .i64 0, .int .u64 0, .slice none 0 0, .int .i64 0] 29) := ⟨_, rfl⟩
  have hb4 : Below w2.heap.size w2 w4 := by rw [hw4]; exact hb3.trans ((below1 w3 _).mono hb3.size)
  have HR4 := Lib.hid (show RdBox w4 z7 ⟨r0, r1, r2, 0, 0, 0⟩ (.slice none 0 0) by rw [hw4, hz7]; exact World.alloc_heap_new _ _)
  have HW4 := Lib.hid (And.intro hz7 hw4)
  have HA4 := Lib.hid (HA2.out.below hb4)
  have HC4 := Lib.hid (HC2.out.below hb4)
  have HX4 := Lib.hid (owns_below HX2.out hb4)
  have HB4 := Lib.hid (below_then HB2.out HB2.out.size hb4)
  clear HA2 HC2 HX2 HB2 hb3 hb4 hz7 hw4 HRD a0 a1 a2
  go_upto_region 5 with (fail)
  rw [← HW4.out.1, ← HW4.out.2]
  clear HW4
  obtain ⟨d0, d1⟩ := HC4.out.cells
  go_wp2_with fail
  refine (HWR.out w4 q2 c2).mono ?_
  rintro e w5 ⟨rfl, hb5⟩
  obtain ⟨z9, hz9⟩ : ∃ z, z = w5.heap.size := ⟨_, rfl⟩
  obtain ⟨w6, hw6⟩ : ∃ X : World, X = w5.alloc (.cells #[.int .i64 0, .int .i64 0, .slice none 0 0, .int .i64 0, .int .u64 0, .int .i64 0] 34) := ⟨_, rfl⟩
  have hb56 : Below w5.heap.size w5 w6 := by rw [hw6]; exact below1 w5 _
  have hb6 : Below w4.heap.size w4 w6 := hb5.trans (hb56.mono hb5.size)
  have HV6 := Lib.hid (show WrBox w6 z9 ⟨0, 0, 0, 0, 0⟩ (.slice none 0 0) by rw [hw6, hz9]; exact World.alloc_heap_new _ _)
  have HW6 := Lib.hid (And.intro hz9 hw6)
  have HA6 := Lib.hid (HA4.out.below hb6)
  have HC6 := Lib.hid (HC4.out.below hb6)
  have HX6 := Lib.hid (owns_below HX4.out hb6)
  have HR6 := Lib.hid (HR4.out.below hb6)
  have HB6 := Lib.hid (below_then HB4.out HB4.out.size hb6)
  clear HA4 HC4 HX4 HR4 HB4 hb5 hb56 hb6 hz9 hw6 HWR d0 d1
  go_upto_region 6 with (fail)
  rw [← HW6.out.1, ← HW6.out.2]
  clear HW6
  obtain ⟨zz, hzz⟩ : ∃ z, z = w6.heap.size := ⟨_, rfl⟩
  obtain ⟨w7, hw7⟩ : ∃ X : World, X = w6.alloc (.cells #[.int .i64 0, .int .i64 0, .int .i64 0, .int .i64 0, .int .u64 0, .slice none 0 0, .int .i64 0] 29) := ⟨_, rfl⟩
  have hb7 : Below w6.heap.size w6 w7 := by rw [hw7]; exact below1 w6 _
  have HS7 := Lib.hid (show RdBox w7 zz ⟨0, 0, 0, 0, 0, 0⟩ (.slice none 0 0) by rw [hw7, hzz]; exact World.alloc_heap_new _ _)
  have HW7 := Lib.hid (And.intro hzz hw7)
  have HNE := Lib.hid (show z9 < zz ∧ z7 < zz ∧ W.heap.size + 1 < zz by
    have h2 := HR6.out.lt; have h3 := (Array.getElem?_eq_some_iff.1 HV6.out).1; have h4 := (Array.getElem?_eq_some_iff.1 HC6.out).1
    omega)
  have HA7 := Lib.hid (HA6.out.below hb7)
  have HC7 := Lib.hid (HC6.out.below hb7)
  have HX7 := Lib.hid (owns_below HX6.out hb7)
  have HR7 := Lib.hid (HR6.out.below hb7)
  have HV7 := Lib.hid (HV6.out.below hb7)
  have HB7 := Lib.hid (below_then HB6.out HB6.out.size hb7)
  clear HA6 HC6 HX6 HR6 HV6 HB6 hb7 hzz hw7
  go_upto_region 7 with (fail)
  rw [← HW7.out.1, ← HW7.out.2]
  clear HW7
  obtain ⟨a0, a1, a2⟩ := HA7.out.cells
  go_wp2_with fail
  refine (HER.out w7).mono ?_
  rintro e w8 ⟨rfl, hb8⟩
  clear a0 a1 a2
  have HA8 := Lib.hid (HA7.out.below hb8)
  have HC8 := Lib.hid (HC7.out.below hb8)
  have HX8 := Lib.hid (owns_below HX7.out hb8)
  have HR8 := Lib.hid (HR7.out.below hb8)
  have HV8 := Lib.hid (HV7.out.below hb8)
  have HS8 := Lib.hid (HS7.out.below hb8)
  have HB8 := Lib.hid (below_then HB7.out HB7.out.size hb8)
  clear HA7 HC7 HX7 HR7 HV7 HS7 HB7 hb8 HER
  obtain ⟨a0, a1, a2⟩ := HA8.out.cells
  obtain ⟨c0, c1, c2', c3, c4, c5', c6⟩ := HS8.out.cells
  dsimp only at c0 c1 c2' c3 c4 c6
  have m0 := HS8.out.marks 0
  have m1 := HS8.out.marks 1
  have m2 := HS8.out.marks 2
  have m3 := HS8.out.marks 3
  have m4 := HS8.out.marks 4
  have m5 := HS8.out.marks 5
  have m6 := HS8.out.marks 6
  obtain ⟨w9, hw9⟩ : ∃ X : World, X = ((((((w8.setCell ⟨zz, 0, none⟩ (.int .i64 r0)).setCell ⟨zz, 1, none⟩ (.int .i64 r1)).setCell ⟨zz, 2, none⟩ (.int .i64 r2)).setCell ⟨zz, 3, none⟩ (.int .i64 0)).setCell ⟨zz, 4, none⟩ (.int .u64 0)).setCell ⟨zz, 5, none⟩ (.slice none 0 0)).setCell ⟨zz, 6, none⟩ (.int .i64 0) := ⟨_, rfl⟩
  have HS9 := Lib.hid (show RdBox w9 zz ⟨r0, r1, r2, 0, 0, 0⟩ (.slice none 0 0) by rw [hw9]; exact HS8.out.put ⟨r0, r1, r2, 0, 0, 0⟩ (.slice none 0 0))
  have hk9 : Keeps (fun k => k = zz) w8 w9 := by rw [hw9]; exact RdBox.putK w8 zz ⟨r0, r1, r2, 0, 0, 0⟩ (.slice none 0 0)
  have hne := HNE.out
  have HA9 := Lib.hid (show Arr3 w9 W.heap.size r0 r1 r2 from (hk9.block W.heap.size (Array.getElem?_eq_some_iff.1 HA8.out).1 (by show ¬ _ = zz; omega)).trans HA8.out)
  have HC9 := Lib.hid (show Arr2 w9 (W.heap.size + 1) s0 s1 from (hk9.block (W.heap.size + 1) (Array.getElem?_eq_some_iff.1 HC8.out).1 (by show ¬ _ = zz; omega)).trans HC8.out)
  have HR9 := Lib.hid (show RdBox w9 z7 ⟨r0, r1, r2, 0, 0, 0⟩ (.slice none 0 0) from (hk9.block z7 HR8.out.lt (by show ¬ _ = zz; omega)).trans HR8.out)
  have HV9 := Lib.hid (show WrBox w9 z9 ⟨0, 0, 0, 0, 0⟩ (.slice none 0 0) from (hk9.block z9 (Array.getElem?_eq_some_iff.1 HV8.out).1 (by show ¬ _ = zz; omega)).trans HV8.out)
  have HX9 := Lib.hid (hk9.row HX8.out (fun g hg e => RdBox.row HS8.out HX8.out (by decide) hg e.symm))
  have HB9 := Lib.hid (HB8.out.trans (hk9.below HB8.out.size (fun k e => by have e' : k = zz := e; omega)))
  have HW9 := Lib.hid hw9
  clear hw9 hk9 hne
  go_upto_region 9 with (fail)
  rw [← HW9.out]
  clear HW9 a0 a1 a2 c0 c1 c2' c3 c4 c5' c6 m0 m1 m2 m3 m4 m5 m6 HA8 HC8 HR8 HV8 HX8 HB8 HS8
  obtain ⟨zy, hzy⟩ : ∃ z, z = w9.heap.size := ⟨_, rfl⟩
  obtain ⟨wa, hwa⟩ : ∃ X : World, X = w9.alloc (.cells #[.int .i64 0, .int .i64 0, .slice none 0 0, .int .i64 0, .int .u64 0, .int .i64 0] 34) := ⟨_, rfl⟩
  have hba : Below w9.heap.size w9 wa := by rw [hwa]; exact below1 w9 _
  have HUa := Lib.hid (show WrBox wa zy ⟨0, 0, 0, 0, 0⟩ (.slice none 0 0) by rw [hwa, hzy]; exact World.alloc_heap_new _ _)
  have HNY := Lib.hid (show zz < zy ∧ z9 < zy ∧ z7 < zy ∧ W.heap.size + 1 < zy by
    have h1 := HS9.out.lt; have h2 := HR9.out.lt; have h3 := (Array.getElem?_eq_some_iff.1 HV9.out).1; have h4 := (Array.getElem?_eq_some_iff.1 HC9.out).1
    omega)
  have HWa := Lib.hid (And.intro hzy hwa)
  have HAa := Lib.hid (HA9.out.below hba)
  have HCa := Lib.hid (HC9.out.below hba)
  have HXa := Lib.hid (owns_below HX9.out hba)
  have HRa := Lib.hid (HR9.out.below hba)
  have HVa := Lib.hid (HV9.out.below hba)
  have HSa := Lib.hid (HS9.out.below hba)
  have HBa := Lib.hid (below_then HB9.out HB9.out.size hba)
  clear HA9 HC9 HX9 HR9 HV9 HS9 HB9 hba hzy hwa
  go_upto_region 10 with (fail)
  rw [← HWa.out.1, ← HWa.out.2]
  clear HWa
  obtain ⟨d0, d1⟩ := HCa.out.cells
  go_wp2_with fail
  refine (HEW.out wa q2 c2).mono ?_
  rintro e wb ⟨rfl, hbb⟩
  clear d0 d1
  have HAb := Lib.hid (HAa.out.below hbb)
  have HCb := Lib.hid (HCa.out.below hbb)
  have HXb := Lib.hid (owns_below HXa.out hbb)
  have HRb := Lib.hid (HRa.out.below hbb)
  have HVb := Lib.hid (HVa.out.below hbb)
  have HSb := Lib.hid (HSa.out.below hbb)
  have HUb := Lib.hid (HUa.out.below hbb)
  have HBb := Lib.hid (below_then HBa.out HBa.out.size hbb)
  clear HAa HCa HXa HRa HVa HSa HUa HBa hbb HEW
  go_upto_region 12 with (fail)
  have HRc := Lib.hid (HRb.out.below (Below.refl wb.heap.size wb))
  have HVc := Lib.hid (HVb.out.below (Below.refl wb.heap.size wb))
  have HSc := Lib.hid (HSb.out.below (Below.refl wb.heap.size wb))
  have HUc := Lib.hid (HUb.out.below (Below.refl wb.heap.size wb))
  have HBc := Lib.hid (below_then HBb.out HBb.out.size (Below.refl wb.heap.size wb))
  clear HRb HVb HSb HUb HBb HAb HCb HXb
  obtain ⟨wc, hwc⟩ : ∃ X : World, X = wb := ⟨_, rfl⟩
  rw [← hwc] at HRc HVc HSc HUc HBc
  rw [← hwc]
  clear hwc
  obtain ⟨c0, c1, c2', c3, c4, c5', c6⟩ := HRc.out.cells
  obtain ⟨e0, e1, e2, e3, e4, e5, e6⟩ := HSc.out.cells
  dsimp only at c0 c1 c2' c3 c4 c6 e0 e1 e2 e3 e4 e6
  go_wp2_with fail
  refine (HSR.out wc).mono ?_
  rintro e wd ⟨rfl, hbd⟩
  clear c0 c1 c2' c3 c4 c5' c6 e0 e1 e2 e3 e4 e5 e6
  have HSW := Lib.hid (esameWrite ⟨0, 0, 0, 0, 0⟩ (.slice none 0 0) (.slice none 0 0) [] wd ⟨none, 0, rfl, fun h => absurd rfl h⟩ ⟨none, 0, rfl, fun h => absurd rfl h⟩ (by decide))
  unfold wrV at HSW
  dsimp only at HSW
  obtain ⟨c0, c1, c2', c3, c4, c5'⟩ := (HVc.out.below hbd).cells
  obtain ⟨e0, e1, e2, e3, e4, e5⟩ := (HUc.out.below hbd).cells
  dsimp only at c0 c1 c3 c4 c5' e0 e1 e3 e4 e5
  have HBd := Lib.hid (below_then HBc.out HBc.out.size hbd)
  clear hbd HBc HSR
  go_wp2_with fail
  refine HSW.out.mono ?_
  rintro e we ⟨rfl, hbe⟩
  have HBe := Lib.hid (below_then HBd.out HBd.out.size hbe)
  clear hbe HBd HSW c0 c1 c2' c3 c4 c5' e0 e1 e2 e3 e4 e5
  go_wp2
  go_ret
  exact ⟨rfl, HBe.out⟩

set_option maxRecDepth 100000 in
set_option maxHeartbeats 8000000 in
theorem begins_ft (r0 r1 r2 s0 s1 : Int) (v : Value) (vs : List Int) (W : World) (hv : ArgR W v (vs.map (Value.int .u64))) (hvl : vs.length ≤ 9223372036854775807) (hx : rightRB ⟨r0, r1, r2, 0, 0, 0⟩ 0 = false) (hy : rightWB ⟨s0, s1, 0, 0, 0⟩ (min vs.length 18) = true) :
    Calls Try.prog 3 #[.agg #[.int .i64 r0, .int .i64 r1, .int .i64 r2], .agg #[.int .i64 s0, .int .i64 s1], v] W fun e w' => e = .returned (.bool true) ∧ Below W.heap.size W w' := by
  obtain ⟨p0, n0, c0, rfl, hn0, hp0⟩ := hv
  have HCW : ∀ W' : World, Below W.heap.size W W' → Calls Try.prog 11 #[.slice p0 (min n0 18) c0] W' fun e w' => OwnsSl W'.heap.size 27 (min n0 18) ((vs.take 18).map (Value.int .u64)) e w' ∧ Below W'.heap.size W' w' := fun W' hb => by
    have := cloneW _ _ _ W' (vals_takeN 18 hn0 hp0 hb) (fun u hu => by obtain ⟨x, _, rfl⟩ := List.mem_map.1 (List.mem_of_mem_take hu); rfl) (by omega)
    rw [← List.map_take] at this
    exact this.mono fun _ _ h => ⟨h.1.sl, h.2⟩
  rw [List.length_map] at hn0
  rw [← hn0] at hy
  have HL0 := Lib.hid (show (vs.take 18).length = min n0 18 by rw [List.length_take, hn0]; omega)
  have hnc0 : n0 ≤ c0 := by rcases hp0 with ⟨_, b, c⟩ | ⟨_, _, b, _⟩ <;> omega
  obtain ⟨k, hk0⟩ : ∃ k, k = min n0 18 := ⟨_, rfl⟩
  rw [← hk0] at HCW HL0 hy
  have hs0 : ∀ wx, (Instr.slice 24 (.slice p0 n0 c0) none (some (.int .i64 (k : Int))) none).run Try.prog wx = .ok (.slice p0 k c0) wx := run_cut16 Try.underlying24 (fun wx => by go_simp) p0 n0 c0 k (by omega)
  have hm0 : ∀ wx, (Builtin.min_ #[3, 3] 3 #[.int .i64 (n0 : Int), .int .i64 18]).run Try.prog wx = .ok (.int .i64 (k : Int)) wx := fun wx => by
    have : (if (18 : Int) < (n0 : Int) then (18 : Int) else n0) = (k : Int) := by rw [hk0]; split <;> omega
    simp [Builtin.min_, Builtin.min2, this]
  have hw0 : n0 ≤ 9223372036854775807 := by omega
  obtain ⟨xs, hxs⟩ : ∃ xs, xs = vs.take 18 := ⟨_, rfl⟩
  rw [← hxs] at HCW HL0
  have HXL := Lib.hid (show xs.length ≤ 18 by rw [HL0.out, hk0]; omega)
  have HCX := Lib.hid HCW
  clear hp0 hk0 hn0 hnc0 hvl hxs HCW
  have HRD := Lib.hid (show ∀ Z : World, Calls Try.prog 12 #[.int .i64 r0, .int .i64 r1, .int .i64 r2] Z fun e w' => e = .returned (.tuple #[.agg #[.int .i64 0, .int .i64 0, .int .i64 0, .int .i64 0, .int .u64 0, .slice none 0 0, .int .i64 0], .int .i64 2]) ∧ Below Z.heap.size Z w' from fun Z => by
    have h := read_c r0 r1 r2 Z
    rw [hx] at h
    exact h)
  have HER := Lib.hid (show ∀ Z : World, Calls Try.prog 14 #[.int .i64 r0, .int .i64 r1, .int .i64 r2] Z fun e w' => e = .returned (.bool false) ∧ Below Z.heap.size Z w' from fun Z => by
    have h := eRead_c r0 r1 r2 Z
    rw [← begR, hx] at h
    exact h)
  have HEW := Lib.hid (show ∀ (Z : World) (q : Option Addr) (c : Nat), Calls Try.prog 15 #[.int .i64 s0, .int .i64 s1, .slice q k c] Z fun e w' => e = .returned (.bool true) ∧ Below Z.heap.size Z w' from fun Z q c => by
    have h := eWrite_c s0 s1 q k c Z
    rw [← begW, hy] at h
    exact h)
  have HWR := Lib.hid (fun (Z : World) (q : Option Addr) (c : Nat) (hv : NumsAt Z .u64 (.slice q k c) xs) => write_yes s0 s1 q k c xs hy Z hv)
  unfold wrV at HWR
  dsimp only at HWR
  have HSR := Lib.hid (fun Z : World => esameRead ⟨0, 0, 0, 0, 0, 0⟩ (.slice none 0 0) (.slice none 0 0) [] Z ⟨none, 0, rfl, fun h => absurd rfl h⟩ ⟨none, 0, rfl, fun h => absurd rfl h⟩ (by decide))
  unfold rdV at HSR
  dsimp only at HSR
  obtain ⟨w0, hw00⟩ : ∃ X : World, X = (W.alloc (.cells #[.int .i64 r0, .int .i64 r1, .int .i64 r2] 22)).alloc (.cells #[.int .i64 s0, .int .i64 s1] 23) := ⟨_, rfl⟩
  have HA0 := Lib.hid (show Arr3 w0 W.heap.size r0 r1 r2 by rw [hw00]; exact Arr3.below (World.alloc_heap_new W _) (below1 _ _))
  have HC0 := Lib.hid (show Arr2 w0 (W.heap.size + 1) s0 s1 by
    have h := World.alloc_heap_new (W.alloc (.cells #[.int .i64 r0, .int .i64 r1, .int .i64 r2] 22)) (.cells #[.int .i64 s0, .int .i64 s1] 23)
    rw [World.size_alloc, ← hw00] at h
    exact h)
  have HB0 := Lib.hid (show Below W.heap.size W w0 by rw [hw00]; exact below2 _ _ _)
  have HW0 := Lib.hid hw00
  clear hw00
  go_enter Try.func3, Try.ntmps3
  go_wp2_with fail
  rw [← HW0.out]
  clear HW0
  refine (ewakes w0).mono ?_
  rintro e w1 ⟨rfl, hb1⟩
  have HA1 := Lib.hid (HA0.out.below hb1)
  have HC1 := Lib.hid (HC0.out.below hb1)
  have HB1 := Lib.hid (below_then HB0.out HB0.out.size hb1)
  clear HA0 HC0 HB0 hb1
  go_wp2_with fail
  refine (HCX.out w1 HB1.out).mono ?_
  rintro e w2 ⟨⟨q2, c2, rfl, ho2⟩, hb2⟩
  have HX2 := Lib.hid ho2
  have HA2 := Lib.hid (HA1.out.below hb2)
  have HC2 := Lib.hid (HC1.out.below hb2)
  have HB2 := Lib.hid (below_then HB1.out HB1.out.size hb2)
  clear HA1 HC1 HB1 hb2 ho2 HCX hs0 hm0 hw0
  obtain ⟨a0, a1, a2⟩ := HA2.out.cells
  go_wp2_with fail
  refine (HRD.out w2).mono ?_
  rintro e w3 ⟨rfl, hb3⟩
  obtain ⟨z7, hz7⟩ : ∃ z, z = w3.heap.size := ⟨_, rfl⟩
  obtain ⟨w4, hw4⟩ : ∃ X : World, X = w3.alloc (.cells #[.int .i64 0, .int .i64 0, .int .i64 0, .int .i64 0, .int .u64 0, .slice none 0 0, .int .i64 0] 29) := ⟨_, rfl⟩
  have hb4 : Below w2.heap.size w2 w4 := by rw [hw4]; exact hb3.trans ((below1 w3 _).mono hb3.size)
  have HR4 := Lib.hid (show RdBox w4 z7 ⟨0, 0, 0, 0, 0, 0⟩ (.slice none 0 0) by rw [hw4, hz7]; exact World.alloc_heap_new _ _)
  have HW4 := Lib.hid (And.intro hz7 hw4)
  have HA4 := Lib.hid (HA2.out.below hb4)
  have HC4 := Lib.hid (HC2.out.below hb4)
  have HX4 := Lib.hid (owns_below HX2.out hb4)
  have HB4 := Lib.hid (below_then HB2.out HB2.out.size hb4)
  clear HA2 HC2 HX2 HB2 hb3 hb4 hz7 hw4 HRD a0 a1 a2
  go_upto_region 5 with (fail)
  rw [← HW4.out.1, ← HW4.out.2]
  clear HW4
  obtain ⟨d0, d1⟩ := HC4.out.cells
  go_wp2_with fail
  refine (HWR.out w4 q2 c2 (nums_of_owns HL0.out HX4.out)).mono ?_
  rintro e w5 ⟨⟨q5, c5, rfl, ho5⟩, hb5⟩
  obtain ⟨z9, hz9⟩ : ∃ z, z = w5.heap.size := ⟨_, rfl⟩
  obtain ⟨w6, hw6⟩ : ∃ X : World, X = w5.alloc (.cells #[.int .i64 s0, .int .i64 s1, .slice q5 k c5, .int .i64 0, .int .u64 0, .int .i64 0] 34) := ⟨_, rfl⟩
  have hb56 : Below w5.heap.size w5 w6 := by rw [hw6]; exact below1 w5 _
  have hb6 : Below w4.heap.size w4 w6 := hb5.trans (hb56.mono hb5.size)
  have HV6 := Lib.hid (show WrBox w6 z9 ⟨s0, s1, 0, 0, 0⟩ (.slice q5 k c5) by rw [hw6, hz9]; exact World.alloc_heap_new _ _)
  have HW6 := Lib.hid (And.intro hz9 hw6)
  have HQ6 := Lib.hid (owns_below ho5 hb56)
  have HA6 := Lib.hid (HA4.out.below hb6)
  have HC6 := Lib.hid (HC4.out.below hb6)
  have HX6 := Lib.hid (owns_below HX4.out hb6)
  have HR6 := Lib.hid (HR4.out.below hb6)
  have HB6 := Lib.hid (below_then HB4.out HB4.out.size hb6)
  clear HA4 HC4 HX4 HR4 HB4 hb5 hb56 hb6 hz9 hw6 HWR d0 d1 ho5
  go_upto_region 6 with (fail)
  rw [← HW6.out.1, ← HW6.out.2]
  clear HW6
  obtain ⟨zz, hzz⟩ : ∃ z, z = w6.heap.size := ⟨_, rfl⟩
  obtain ⟨w7, hw7⟩ : ∃ X : World, X = w6.alloc (.cells #[.int .i64 0, .int .i64 0, .int .i64 0, .int .i64 0, .int .u64 0, .slice none 0 0, .int .i64 0] 29) := ⟨_, rfl⟩
  have hb7 : Below w6.heap.size w6 w7 := by rw [hw7]; exact below1 w6 _
  have HS7 := Lib.hid (show RdBox w7 zz ⟨0, 0, 0, 0, 0, 0⟩ (.slice none 0 0) by rw [hw7, hzz]; exact World.alloc_heap_new _ _)
  have HW7 := Lib.hid (And.intro hzz hw7)
  have HNE := Lib.hid (show z9 < zz ∧ z7 < zz ∧ W.heap.size + 1 < zz by
    have h2 := HR6.out.lt; have h3 := (Array.getElem?_eq_some_iff.1 HV6.out).1; have h4 := (Array.getElem?_eq_some_iff.1 HC6.out).1
    omega)
  have HA7 := Lib.hid (HA6.out.below hb7)
  have HC7 := Lib.hid (HC6.out.below hb7)
  have HX7 := Lib.hid (owns_below HX6.out hb7)
  have HR7 := Lib.hid (HR6.out.below hb7)
  have HV7 := Lib.hid (HV6.out.below hb7)
  have HQ7 := Lib.hid (owns_below HQ6.out hb7)
  have HB7 := Lib.hid (below_then HB6.out HB6.out.size hb7)
  clear HA6 HC6 HX6 HR6 HV6 HQ6 HB6 hb7 hzz hw7
  go_upto_region 7 with (fail)
  rw [← HW7.out.1, ← HW7.out.2]
  clear HW7
  obtain ⟨a0, a1, a2⟩ := HA7.out.cells
  go_wp2_with fail
  refine (HER.out w7).mono ?_
  rintro e w8 ⟨rfl, hb8⟩
  clear a0 a1 a2
  have HA8 := Lib.hid (HA7.out.below hb8)
  have HC8 := Lib.hid (HC7.out.below hb8)
  have HX8 := Lib.hid (owns_below HX7.out hb8)
  have HR8 := Lib.hid (HR7.out.below hb8)
  have HV8 := Lib.hid (HV7.out.below hb8)
  have HS8 := Lib.hid (HS7.out.below hb8)
  have HQ8 := Lib.hid (owns_below HQ7.out hb8)
  have HB8 := Lib.hid (below_then HB7.out HB7.out.size hb8)
  clear HA7 HC7 HX7 HR7 HV7 HS7 HQ7 HB7 hb8 HER
  go_upto_region 9 with (fail)
  have HA9 := Lib.hid (HA8.out.below (Below.refl w8.heap.size w8))
  have HC9 := Lib.hid (HC8.out.below (Below.refl w8.heap.size w8))
  have HX9 := Lib.hid (owns_below HX8.out (Below.refl w8.heap.size w8))
  have HR9 := Lib.hid (HR8.out.below (Below.refl w8.heap.size w8))
  have HV9 := Lib.hid (HV8.out.below (Below.refl w8.heap.size w8))
  have HS9 := Lib.hid (HS8.out.below (Below.refl w8.heap.size w8))
  have HQ9 := Lib.hid (owns_below HQ8.out (Below.refl w8.heap.size w8))
  have HB9 := Lib.hid (below_then HB8.out HB8.out.size (Below.refl w8.heap.size w8))
  clear HA8 HC8 HX8 HR8 HV8 HS8 HQ8 HB8 
  obtain ⟨w9, hw9⟩ : ∃ X : World, X = w8 := ⟨_, rfl⟩
  rw [← hw9] at HA9 HC9 HX9 HR9 HV9 HS9 HB9 HQ9
  rw [← hw9]
  clear hw9
  obtain ⟨zy, hzy⟩ : ∃ z, z = w9.heap.size := ⟨_, rfl⟩
  obtain ⟨wa, hwa⟩ : ∃ X : World, X = w9.alloc (.cells #[.int .i64 0, .int .i64 0, .slice none 0 0, .int .i64 0, .int .u64 0, .int .i64 0] 34) := ⟨_, rfl⟩
  have hba : Below w9.heap.size w9 wa := by rw [hwa]; exact below1 w9 _
  have HUa := Lib.hid (show WrBox wa zy ⟨0, 0, 0, 0, 0⟩ (.slice none 0 0) by rw [hwa, hzy]; exact World.alloc_heap_new _ _)
  have HNY := Lib.hid (show zz < zy ∧ z9 < zy ∧ z7 < zy ∧ W.heap.size + 1 < zy by
    have h1 := HS9.out.lt; have h2 := HR9.out.lt; have h3 := (Array.getElem?_eq_some_iff.1 HV9.out).1; have h4 := (Array.getElem?_eq_some_iff.1 HC9.out).1
    omega)
  have HWa := Lib.hid (And.intro hzy hwa)
  have HAa := Lib.hid (HA9.out.below hba)
  have HCa := Lib.hid (HC9.out.below hba)
  have HXa := Lib.hid (owns_below HX9.out hba)
  have HRa := Lib.hid (HR9.out.below hba)
  have HVa := Lib.hid (HV9.out.below hba)
  have HSa := Lib.hid (HS9.out.below hba)
  have HQa := Lib.hid (owns_below HQ9.out hba)
  have HBa := Lib.hid (below_then HB9.out HB9.out.size hba)
  clear HA9 HC9 HX9 HR9 HV9 HS9 HQ9 HB9 hba hzy hwa
  go_upto_region 10 with (fail)
  rw [← HWa.out.1, ← HWa.out.2]
  clear HWa
  obtain ⟨d0, d1⟩ := HCa.out.cells
  go_wp2_with fail
  refine (HEW.out wa q2 c2).mono ?_
  rintro e wb ⟨rfl, hbb⟩
  clear d0 d1
  have HAb := Lib.hid (HAa.out.below hbb)
  have HCb := Lib.hid (HCa.out.below hbb)
  have HXb := Lib.hid (owns_below HXa.out hbb)
  have HRb := Lib.hid (HRa.out.below hbb)
  have HVb := Lib.hid (HVa.out.below hbb)
  have HSb := Lib.hid (HSa.out.below hbb)
  have HUb := Lib.hid (HUa.out.below hbb)
  have HQb := Lib.hid (owns_below HQa.out hbb)
  have HBb := Lib.hid (below_then HBa.out HBa.out.size hbb)
  clear HAa HCa HXa HRa HVa HSa HUa HQa HBa hbb HEW
  obtain ⟨d0, d1⟩ := HCb.out.cells
  obtain ⟨c0, c1, c2', c3, c4, c5'⟩ := HUb.out.cells
  dsimp only at c0 c1 c3 c4 c5'
  have m0 := HUb.out.marks 0
  have m1 := HUb.out.marks 1
  have m2 := HUb.out.marks 2
  have m3 := HUb.out.marks 3
  have m4 := HUb.out.marks 4
  have m5 := HUb.out.marks 5
  obtain ⟨wc, hwc⟩ : ∃ X : World, X = (((((wb.setCell ⟨zy, 0, none⟩ (.int .i64 s0)).setCell ⟨zy, 1, none⟩ (.int .i64 s1)).setCell ⟨zy, 2, none⟩ (.slice q2 k c2)).setCell ⟨zy, 3, none⟩ (.int .i64 0)).setCell ⟨zy, 4, none⟩ (.int .u64 0)).setCell ⟨zy, 5, none⟩ (.int .i64 0) := ⟨_, rfl⟩
  have HUc := Lib.hid (show WrBox wc zy ⟨s0, s1, 0, 0, 0⟩ (.slice q2 k c2) by rw [hwc]; exact HUb.out.put ⟨s0, s1, 0, 0, 0⟩ (.slice q2 k c2))
  have hkc : Keeps (fun k => k = zy) wb wc := by
    rw [hwc]
    exact (((((Keeps.setCell wb (S := (· = zy)) (p := ⟨zy, 0, none⟩) rfl _).trans (Keeps.setCell _ (S := (· = zy)) (p := ⟨zy, 1, none⟩) rfl _)).trans (Keeps.setCell _ (S := (· = zy)) (p := ⟨zy, 2, none⟩) rfl _)).trans (Keeps.setCell _ (S := (· = zy)) (p := ⟨zy, 3, none⟩) rfl _)).trans (Keeps.setCell _ (S := (· = zy)) (p := ⟨zy, 4, none⟩) rfl _)).trans (Keeps.setCell _ (S := (· = zy)) (p := ⟨zy, 5, none⟩) rfl _)
  have hne := HNY.out
  have HRc := Lib.hid (show RdBox wc z7 ⟨0, 0, 0, 0, 0, 0⟩ (.slice none 0 0) from (hkc.block z7 HRb.out.lt (by show ¬ _ = zy; omega)).trans HRb.out)
  have HSc := Lib.hid (show RdBox wc zz ⟨0, 0, 0, 0, 0, 0⟩ (.slice none 0 0) from (hkc.block zz HSb.out.lt (by show ¬ _ = zy; omega)).trans HSb.out)
  have HVc := Lib.hid (show WrBox wc z9 ⟨s0, s1, 0, 0, 0⟩ (.slice q5 k c5) from (hkc.block z9 (Array.getElem?_eq_some_iff.1 HVb.out).1 (by show ¬ _ = zy; omega)).trans HVb.out)
  have HXc := Lib.hid (hkc.row HXb.out (fun g hg e => WrBox.row HUb.out HXb.out (by decide) hg e.symm))
  have HQc := Lib.hid (hkc.row HQb.out (fun g hg e => WrBox.row HUb.out HQb.out (by decide) hg e.symm))
  have HBc := Lib.hid (HBb.out.trans (hkc.below HBb.out.size (fun k e => by have e' : k = zy := e; omega)))
  have HWc := Lib.hid hwc
  clear hwc hkc hne
  go_upto_region 12 with (fail)
  rw [← HWc.out]
  clear HWc d0 d1 c0 c1 c2' c3 c4 c5' m0 m1 m2 m3 m4 m5 HAb HCb HRb HVb HXb HBb HSb HQb HUb
  obtain ⟨c0, c1, c2', c3, c4, c5', c6⟩ := HRc.out.cells
  obtain ⟨e0, e1, e2, e3, e4, e5, e6⟩ := HSc.out.cells
  dsimp only at c0 c1 c2' c3 c4 c6 e0 e1 e2 e3 e4 e6
  go_wp2_with fail
  refine (HSR.out wc).mono ?_
  rintro e wd ⟨rfl, hbd⟩
  clear c0 c1 c2' c3 c4 c5' c6 e0 e1 e2 e3 e4 e5 e6
  have HSW := Lib.hid (esameWrite ⟨s0, s1, 0, 0, 0⟩ (.slice q5 k c5) (.slice q2 k c2) xs wd (nums_of_owns HL0.out (owns_below HQc.out hbd)) (nums_of_owns HL0.out (owns_below HXc.out hbd)) (by have := HXL.out; omega))
  unfold wrV at HSW
  dsimp only at HSW
  obtain ⟨c0, c1, c2', c3, c4, c5'⟩ := (HVc.out.below hbd).cells
  obtain ⟨e0, e1, e2, e3, e4, e5⟩ := (HUc.out.below hbd).cells
  dsimp only at c0 c1 c3 c4 c5' e0 e1 e3 e4 e5
  have HBd := Lib.hid (below_then HBc.out HBc.out.size hbd)
  clear hbd HBc HSR
  go_wp2_with fail
  refine HSW.out.mono ?_
  rintro e we ⟨rfl, hbe⟩
  have HBe := Lib.hid (below_then HBd.out HBd.out.size hbe)
  clear hbe HBd HSW c0 c1 c2' c3 c4 c5' e0 e1 e2 e3 e4 e5
  go_wp2
  go_ret
  exact ⟨rfl, HBe.out⟩

set_option maxRecDepth 100000 in
set_option maxHeartbeats 8000000 in
theorem begins_ff (r0 r1 r2 s0 s1 : Int) (v : Value) (vs : List Int) (W : World) (hv : ArgR W v (vs.map (Value.int .u64))) (hvl : vs.length ≤ 9223372036854775807) (hx : rightRB ⟨r0, r1, r2, 0, 0, 0⟩ 0 = false) (hy : rightWB ⟨s0, s1, 0, 0, 0⟩ (min vs.length 18) = false) :
    Calls Try.prog 3 #[.agg #[.int .i64 r0, .int .i64 r1, .int .i64 r2], .agg #[.int .i64 s0, .int .i64 s1], v] W fun e w' => e = .returned (.bool true) ∧ Below W.heap.size W w' := by
  obtain ⟨p0, n0, c0, rfl, hn0, hp0⟩ := hv
  have HCW : ∀ W' : World, Below W.heap.size W W' → Calls Try.prog 11 #[.slice p0 (min n0 18) c0] W' fun e w' => OwnsSl W'.heap.size 27 (min n0 18) ((vs.take 18).map (Value.int .u64)) e w' ∧ Below W'.heap.size W' w' := fun W' hb => by
    have := cloneW _ _ _ W' (vals_takeN 18 hn0 hp0 hb) (fun u hu => by obtain ⟨x, _, rfl⟩ := List.mem_map.1 (List.mem_of_mem_take hu); rfl) (by omega)
    rw [← List.map_take] at this
    exact this.mono fun _ _ h => ⟨h.1.sl, h.2⟩
  rw [List.length_map] at hn0
  rw [← hn0] at hy
  have HL0 := Lib.hid (show (vs.take 18).length = min n0 18 by rw [List.length_take, hn0]; omega)
  have hnc0 : n0 ≤ c0 := by rcases hp0 with ⟨_, b, c⟩ | ⟨_, _, b, _⟩ <;> omega
  obtain ⟨k, hk0⟩ : ∃ k, k = min n0 18 := ⟨_, rfl⟩
  rw [← hk0] at HCW HL0 hy
  have hs0 : ∀ wx, (Instr.slice 24 (.slice p0 n0 c0) none (some (.int .i64 (k : Int))) none).run Try.prog wx = .ok (.slice p0 k c0) wx := run_cut16 Try.underlying24 (fun wx => by go_simp) p0 n0 c0 k (by omega)
  have hm0 : ∀ wx, (Builtin.min_ #[3, 3] 3 #[.int .i64 (n0 : Int), .int .i64 18]).run Try.prog wx = .ok (.int .i64 (k : Int)) wx := fun wx => by
    have : (if (18 : Int) < (n0 : Int) then (18 : Int) else n0) = (k : Int) := by rw [hk0]; split <;> omega
    simp [Builtin.min_, Builtin.min2, this]
  have hw0 : n0 ≤ 9223372036854775807 := by omega
  obtain ⟨xs, hxs⟩ : ∃ xs, xs = vs.take 18 := ⟨_, rfl⟩
  rw [← hxs] at HCW HL0
  have HXL := Lib.hid (show xs.length ≤ 18 by rw [HL0.out, hk0]; omega)
  have HCX := Lib.hid HCW
  clear hp0 hk0 hn0 hnc0 hvl hxs HCW
  have HRD := Lib.hid (show ∀ Z : World, Calls Try.prog 12 #[.int .i64 r0, .int .i64 r1, .int .i64 r2] Z fun e w' => e = .returned (.tuple #[.agg #[.int .i64 0, .int .i64 0, .int .i64 0, .int .i64 0, .int .u64 0, .slice none 0 0, .int .i64 0], .int .i64 2]) ∧ Below Z.heap.size Z w' from fun Z => by
    have h := read_c r0 r1 r2 Z
    rw [hx] at h
    exact h)
  have HER := Lib.hid (show ∀ Z : World, Calls Try.prog 14 #[.int .i64 r0, .int .i64 r1, .int .i64 r2] Z fun e w' => e = .returned (.bool false) ∧ Below Z.heap.size Z w' from fun Z => by
    have h := eRead_c r0 r1 r2 Z
    rw [← begR, hx] at h
    exact h)
  have HEW := Lib.hid (show ∀ (Z : World) (q : Option Addr) (c : Nat), Calls Try.prog 15 #[.int .i64 s0, .int .i64 s1, .slice q k c] Z fun e w' => e = .returned (.bool false) ∧ Below Z.heap.size Z w' from fun Z q c => by
    have h := eWrite_c s0 s1 q k c Z
    rw [← begW, hy] at h
    exact h)
  have HWR := Lib.hid (fun (Z : World) (q : Option Addr) (c : Nat) => write_no s0 s1 q k c hy Z)
  unfold wrV at HWR
  dsimp only at HWR
  have HSR := Lib.hid (fun Z : World => esameRead ⟨0, 0, 0, 0, 0, 0⟩ (.slice none 0 0) (.slice none 0 0) [] Z ⟨none, 0, rfl, fun h => absurd rfl h⟩ ⟨none, 0, rfl, fun h => absurd rfl h⟩ (by decide))
  unfold rdV at HSR
  dsimp only at HSR
  obtain ⟨w0, hw00⟩ : ∃ X : World, X = (W.alloc (.cells #[.int .i64 r0, .int .i64 r1, .int .i64 r2] 22)).alloc (.cells #[.int .i64 s0, .int .i64 s1] 23) := ⟨_, rfl⟩
  have HA0 := Lib.hid (show Arr3 w0 W.heap.size r0 r1 r2 by rw [hw00]; exact Arr3.below (World.alloc_heap_new W _) (below1 _ _))
  have HC0 := Lib.hid (show Arr2 w0 (W.heap.size + 1) s0 s1 by
    have h := World.alloc_heap_new (W.alloc (.cells #[.int .i64 r0, .int .i64 r1, .int .i64 r2] 22)) (.cells #[.int .i64 s0, .int .i64 s1] 23)
    rw [World.size_alloc, ← hw00] at h
    exact h)
  have HB0 := Lib.hid (show Below W.heap.size W w0 by rw [hw00]; exact below2 _ _ _)
  have HW0 := Lib.hid hw00
  clear hw00
  go_enter Try.func3, Try.ntmps3
  go_wp2_with fail
  rw [← HW0.out]
  clear HW0
  refine (ewakes w0).mono ?_
  rintro e w1 ⟨rfl, hb1⟩
  have HA1 := Lib.hid (HA0.out.below hb1)
  have HC1 := Lib.hid (HC0.out.below hb1)
  have HB1 := Lib.hid (below_then HB0.out HB0.out.size hb1)
  clear HA0 HC0 HB0 hb1
  go_wp2_with fail
  refine (HCX.out w1 HB1.out).mono ?_
  rintro e w2 ⟨⟨q2, c2, rfl, ho2⟩, hb2⟩
  have HX2 := Lib.hid ho2
  have HA2 := Lib.hid (HA1.out.below hb2)
  have HC2 := Lib.hid (HC1.out.below hb2)
  have HB2 := Lib.hid (below_then HB1.out HB1.out.size hb2)
  clear HA1 HC1 HB1 hb2 ho2 HCX hs0 hm0 hw0
  obtain ⟨a0, a1, a2⟩ := HA2.out.cells
  go_wp2_with fail
  refine (HRD.out w2).mono ?_
  rintro e w3 ⟨rfl, hb3⟩
  obtain ⟨z7, hz7⟩ : ∃ z, z = w3.heap.size := ⟨_, rfl⟩
  obtain ⟨w4, hw4⟩ : ∃ X : World, X = w3.alloc (.cells #[.int .i64 0, .int .i64 0, .int .i64 0, .int .i64 0, .int .u64 0, .slice none 0 0, .int .i64 0] 29) := ⟨_, rfl⟩
  have hb4 : Below w2.heap.size w2 w4 := by rw [hw4]; exact hb3.trans ((below1 w3 _).mono hb3.size)
  have HR4 := Lib.hid (show RdBox w4 z7 ⟨0, 0, 0, 0, 0, 0⟩ (.slice none 0 0) by rw [hw4, hz7]; exact World.alloc_heap_new _ _)
  have HW4 := Lib.hid (And.intro hz7 hw4)
  have HA4 := Lib.hid (HA2.out.below hb4)
  have HC4 := Lib.hid (HC2.out.below hb4)
  have HX4 := Lib.hid (owns_below HX2.out hb4)
  have HB4 := Lib.hid (below_then HB2.out HB2.out.size hb4)
  clear HA2 HC2 HX2 HB2 hb3 hb4 hz7 hw4 HRD a0 a1 a2
  go_upto_region 5 with (fail)
  rw [← HW4.out.1, ← HW4.out.2]
  clear HW4
  obtain ⟨d0, d1⟩ := HC4.out.cells
  go_wp2_with fail
  refine (HWR.out w4 q2 c2).mono ?_
  rintro e w5 ⟨rfl, hb5⟩
  obtain ⟨z9, hz9⟩ : ∃ z, z = w5.heap.size := ⟨_, rfl⟩
  obtain ⟨w6, hw6⟩ : ∃ X : World, X = w5.alloc (.cells #[.int .i64 0, .int .i64 0, .slice none 0 0, .int .i64 0, .int .u64 0, .int .i64 0] 34) := ⟨_, rfl⟩
  have hb56 : Below w5.heap.size w5 w6 := by rw [hw6]; exact below1 w5 _
  have hb6 : Below w4.heap.size w4 w6 := hb5.trans (hb56.mono hb5.size)
  have HV6 := Lib.hid (show WrBox w6 z9 ⟨0, 0, 0, 0, 0⟩ (.slice none 0 0) by rw [hw6, hz9]; exact World.alloc_heap_new _ _)
  have HW6 := Lib.hid (And.intro hz9 hw6)
  have HA6 := Lib.hid (HA4.out.below hb6)
  have HC6 := Lib.hid (HC4.out.below hb6)
  have HX6 := Lib.hid (owns_below HX4.out hb6)
  have HR6 := Lib.hid (HR4.out.below hb6)
  have HB6 := Lib.hid (below_then HB4.out HB4.out.size hb6)
  clear HA4 HC4 HX4 HR4 HB4 hb5 hb56 hb6 hz9 hw6 HWR d0 d1
  go_upto_region 6 with (fail)
  rw [← HW6.out.1, ← HW6.out.2]
  clear HW6
  obtain ⟨zz, hzz⟩ : ∃ z, z = w6.heap.size := ⟨_, rfl⟩
  obtain ⟨w7, hw7⟩ : ∃ X : World, X = w6.alloc (.cells #[.int .i64 0, .int .i64 0, .int .i64 0, .int .i64 0, .int .u64 0, .slice none 0 0, .int .i64 0] 29) := ⟨_, rfl⟩
  have hb7 : Below w6.heap.size w6 w7 := by rw [hw7]; exact below1 w6 _
  have HS7 := Lib.hid (show RdBox w7 zz ⟨0, 0, 0, 0, 0, 0⟩ (.slice none 0 0) by rw [hw7, hzz]; exact World.alloc_heap_new _ _)
  have HW7 := Lib.hid (And.intro hzz hw7)
  have HNE := Lib.hid (show z9 < zz ∧ z7 < zz ∧ W.heap.size + 1 < zz by
    have h2 := HR6.out.lt; have h3 := (Array.getElem?_eq_some_iff.1 HV6.out).1; have h4 := (Array.getElem?_eq_some_iff.1 HC6.out).1
    omega)
  have HA7 := Lib.hid (HA6.out.below hb7)
  have HC7 := Lib.hid (HC6.out.below hb7)
  have HX7 := Lib.hid (owns_below HX6.out hb7)
  have HR7 := Lib.hid (HR6.out.below hb7)
  have HV7 := Lib.hid (HV6.out.below hb7)
  have HB7 := Lib.hid (below_then HB6.out HB6.out.size hb7)
  clear HA6 HC6 HX6 HR6 HV6 HB6 hb7 hzz hw7
  go_upto_region 7 with (fail)
  rw [← HW7.out.1, ← HW7.out.2]
  clear HW7
  obtain ⟨a0, a1, a2⟩ := HA7.out.cells
  go_wp2_with fail
  refine (HER.out w7).mono ?_
  rintro e w8 ⟨rfl, hb8⟩
  clear a0 a1 a2
  have HA8 := Lib.hid (HA7.out.below hb8)
  have HC8 := Lib.hid (HC7.out.below hb8)
  have HX8 := Lib.hid (owns_below HX7.out hb8)
  have HR8 := Lib.hid (HR7.out.below hb8)
  have HV8 := Lib.hid (HV7.out.below hb8)
  have HS8 := Lib.hid (HS7.out.below hb8)
  have HB8 := Lib.hid (below_then HB7.out HB7.out.size hb8)
  clear HA7 HC7 HX7 HR7 HV7 HS7 HB7 hb8 HER
  go_upto_region 9 with (fail)
  have HA9 := Lib.hid (HA8.out.below (Below.refl w8.heap.size w8))
  have HC9 := Lib.hid (HC8.out.below (Below.refl w8.heap.size w8))
  have HX9 := Lib.hid (owns_below HX8.out (Below.refl w8.heap.size w8))
  have HR9 := Lib.hid (HR8.out.below (Below.refl w8.heap.size w8))
  have HV9 := Lib.hid (HV8.out.below (Below.refl w8.heap.size w8))
  have HS9 := Lib.hid (HS8.out.below (Below.refl w8.heap.size w8))
  have HB9 := Lib.hid (below_then HB8.out HB8.out.size (Below.refl w8.heap.size w8))
  clear HA8 HC8 HX8 HR8 HV8 HS8 HB8 
  obtain ⟨w9, hw9⟩ : ∃ X : World, X = w8 := ⟨_, rfl⟩
  rw [← hw9] at HA9 HC9 HX9 HR9 HV9 HS9 HB9
  rw [← hw9]
  clear hw9
  obtain ⟨zy, hzy⟩ : ∃ z, z = w9.heap.size := ⟨_, rfl⟩
  obtain ⟨wa, hwa⟩ : ∃ X : World, X = w9.alloc (.cells #[.int .i64 0, .int .i64 0, .slice none 0 0, .int .i64 0, .int .u64 0, .int .i64 0] 34) := ⟨_, rfl⟩
  have hba : Below w9.heap.size w9 wa := by rw [hwa]; exact below1 w9 _
  have HUa := Lib.hid (show WrBox wa zy ⟨0, 0, 0, 0, 0⟩ (.slice none 0 0) by rw [hwa, hzy]; exact World.alloc_heap_new _ _)
  have HNY := Lib.hid (show zz < zy ∧ z9 < zy ∧ z7 < zy ∧ W.heap.size + 1 < zy by
    have h1 := HS9.out.lt; have h2 := HR9.out.lt; have h3 := (Array.getElem?_eq_some_iff.1 HV9.out).1; have h4 := (Array.getElem?_eq_some_iff.1 HC9.out).1
    omega)
  have HWa := Lib.hid (And.intro hzy hwa)
  have HAa := Lib.hid (HA9.out.below hba)
  have HCa := Lib.hid (HC9.out.below hba)
  have HXa := Lib.hid (owns_below HX9.out hba)
  have HRa := Lib.hid (HR9.out.below hba)
  have HVa := Lib.hid (HV9.out.below hba)
  have HSa := Lib.hid (HS9.out.below hba)
  have HBa := Lib.hid (below_then HB9.out HB9.out.size hba)
  clear HA9 HC9 HX9 HR9 HV9 HS9 HB9 hba hzy hwa
  go_upto_region 10 with (fail)
  rw [← HWa.out.1, ← HWa.out.2]
  clear HWa
  obtain ⟨d0, d1⟩ := HCa.out.cells
  go_wp2_with fail
  refine (HEW.out wa q2 c2).mono ?_
  rintro e wb ⟨rfl, hbb⟩
  clear d0 d1
  have HAb := Lib.hid (HAa.out.below hbb)
  have HCb := Lib.hid (HCa.out.below hbb)
  have HXb := Lib.hid (owns_below HXa.out hbb)
  have HRb := Lib.hid (HRa.out.below hbb)
  have HVb := Lib.hid (HVa.out.below hbb)
  have HSb := Lib.hid (HSa.out.below hbb)
  have HUb := Lib.hid (HUa.out.below hbb)
  have HBb := Lib.hid (below_then HBa.out HBa.out.size hbb)
  clear HAa HCa HXa HRa HVa HSa HUa HBa hbb HEW
  go_upto_region 12 with (fail)
  have HRc := Lib.hid (HRb.out.below (Below.refl wb.heap.size wb))
  have HVc := Lib.hid (HVb.out.below (Below.refl wb.heap.size wb))
  have HSc := Lib.hid (HSb.out.below (Below.refl wb.heap.size wb))
  have HUc := Lib.hid (HUb.out.below (Below.refl wb.heap.size wb))
  have HBc := Lib.hid (below_then HBb.out HBb.out.size (Below.refl wb.heap.size wb))
  clear HRb HVb HSb HUb HBb HAb HCb HXb
  obtain ⟨wc, hwc⟩ : ∃ X : World, X = wb := ⟨_, rfl⟩
  rw [← hwc] at HRc HVc HSc HUc HBc
  rw [← hwc]
  clear hwc
  obtain ⟨c0, c1, c2', c3, c4, c5', c6⟩ := HRc.out.cells
  obtain ⟨e0, e1, e2, e3, e4, e5, e6⟩ := HSc.out.cells
  dsimp only at c0 c1 c2' c3 c4 c6 e0 e1 e2 e3 e4 e6
  go_wp2_with fail
  refine (HSR.out wc).mono ?_
  rintro e wd ⟨rfl, hbd⟩
  clear c0 c1 c2' c3 c4 c5' c6 e0 e1 e2 e3 e4 e5 e6
  have HSW := Lib.hid (esameWrite ⟨0, 0, 0, 0, 0⟩ (.slice none 0 0) (.slice none 0 0) [] wd ⟨none, 0, rfl, fun h => absurd rfl h⟩ ⟨none, 0, rfl, fun h => absurd rfl h⟩ (by decide))
  unfold wrV at HSW
  dsimp only at HSW
  obtain ⟨c0, c1, c2', c3, c4, c5'⟩ := (HVc.out.below hbd).cells
  obtain ⟨e0, e1, e2, e3, e4, e5⟩ := (HUc.out.below hbd).cells
  dsimp only at c0 c1 c3 c4 c5' e0 e1 e3 e4 e5
  have HBd := Lib.hid (below_then HBc.out HBc.out.size hbd)
  clear hbd HBc HSR
  go_wp2_with fail
  refine HSW.out.mono ?_
  rintro e we ⟨rfl, hbe⟩
  have HBe := Lib.hid (below_then HBd.out HBd.out.size hbe)
  clear hbe HBd HSW c0 c1 c2' c3 c4 c5' e0 e1 e2 e3 e4 e5
  go_wp2
  go_ret
  exact ⟨rfl, HBe.out⟩

theorem begins_law (r0 r1 r2 s0 s1 : Int) (v : Value) (vs : List Int) (W : World) (hv : ArgR W v (vs.map (Value.int .u64))) (hvl : vs.length ≤ 9223372036854775807) :
    Calls Try.prog 3 #[.agg #[.int .i64 r0, .int .i64 r1, .int .i64 r2], .agg #[.int .i64 s0, .int .i64 s1], v] W fun e w' => e = .returned (.bool true) ∧ Below W.heap.size W w' := by
  cases hx : rightRB ⟨r0, r1, r2, 0, 0, 0⟩ 0 <;> cases hy : rightWB ⟨s0, s1, 0, 0, 0⟩ (min vs.length 18)
  · exact begins_ff r0 r1 r2 s0 s1 v vs W hv hvl hx hy
  · exact begins_ft r0 r1 r2 s0 s1 v vs W hv hvl hx hy
  · exact begins_tf r0 r1 r2 s0 s1 v vs W hv hvl hx hy
  · exact begins_tt r0 r1 r2 s0 s1 v vs W hv hvl hx hy

end Go.Proofs.Ytaljpggajpoalaa
/-
  memory.New, called with 20: so many words, all free, of 0; what was in memory stays.
  Conditions: none.
-/
namespace Go.Proofs.Ytaljpggajpoalaa
open Go.RowKit Go.Shelf

/-- What New hands over. -/
def NewOk20 (B : Nat) (e : Ending) (w' : World) : Prop :=
  ∃ v', e = .returned (.tuple #[v', .int .i64 0]) ∧ OwnsMem w' B v' (List.replicate 20 0) (List.replicate 20 false) false

set_option maxRecDepth 100000 in
set_option maxHeartbeats 4000000 in
theorem new20_c (W : World) : Calls Try.prog 59 #[.int .i64 20] W fun e w' => NewOk20 W.heap.size e w' ∧ Below W.heap.size W w' := by
  obtain ⟨i0, hi, hz0, hz1, hz2⟩ := info_parts word_info
  obtain ⟨i1, hj, hy0, hy1, hy2⟩ := info_parts bool_info
  obtain ⟨c8, hc8⟩ : ∃ c : Array Value, c = madeCells (Value.int .u64 0).cells 20 := ⟨_, rfl⟩
  obtain ⟨b8, hb8⟩ : ∃ c : Array Value, c = madeCells (Value.bool false).cells 20 := ⟨_, rfl⟩
  have hm1 : ∀ w, (Instr.makeSlice 24 (.int .i64 20) (.int .i64 20)).run Try.prog w = .ok (.slice (some ⟨w.heap.size, 0, none⟩) 20 20) (w.alloc (.cells c8 27)) := fun w => by
    have := run_make (P := Try.prog) w 24 27 i0 (.int .u64 0) Try.underlying24 hi hz0 .i64 .i64 20 20 (by decide) (by decide) (by rw [hz2]; decide) (by decide)
    rw [this, hc8, hz1]; rfl
  have hm2 : ∀ w, (Instr.makeSlice 42 (.int .i64 20) (.int .i64 20)).run Try.prog w = .ok (.slice (some ⟨w.heap.size, 0, none⟩) 20 20) (w.alloc (.cells b8 4)) := fun w => by
    have := run_make (P := Try.prog) w 42 4 i1 (.bool false) Try.underlying42 hj hy0 .i64 .i64 20 20 (by decide) (by decide) (by rw [hy2]; decide) (by decide)
    rw [this, hb8, hy1]; rfl
  have HC := Lib.hid (show c8.toList = (List.replicate 20 (0 : Int)).map (Value.int .u64) by rw [hc8, List.map_replicate]; exact toList_madeCells_one _ 20)
  have HB := Lib.hid (show b8.toList = (List.replicate 20 false).map Value.bool by rw [hb8, List.map_replicate]; exact toList_madeCells_one _ 20)
  have HC8 := Lib.hid (show c8.size = 20 * 1 by rw [hc8, size_madeCells])
  have HB8 := Lib.hid (show b8.size = 20 * 1 by rw [hb8, size_madeCells])
  clear hc8 hb8 hi hj hz0 hz1 hz2 hy0 hy1 hy2
  go_enter Try.func59, Try.ntmps59
  go_wp2
  go_region
  all_goals go_wp2
  · have ho1 := (World.ownsRow_lit (base := W.heap.size) (e := 27) (size := 1) (W.alloc (.cells #[.slice (some ⟨W.heap.size + 1, 0, none⟩) 20 20, .slice (some ⟨W.heap.size + 1 + 1, 0, none⟩) 20 20, .bool false] 44)) c8 20 (by simp) (by decide) HC8.out).alloc (.cells b8 4)
    have ho2 := World.ownsRow_lit (base := W.heap.size) (e := 4) (size := 1) ((W.alloc (.cells #[.slice (some ⟨W.heap.size + 1, 0, none⟩) 20 20, .slice (some ⟨W.heap.size + 1 + 1, 0, none⟩) 20 20, .bool false] 44)).alloc (.cells c8 27)) b8 20 (by simp; omega) (by decide) HB8.out
    rw [World.size_alloc] at ho1
    rw [World.size_alloc, World.size_alloc] at ho2
    refine bodyPost_ret (v := .tuple #[.agg #[.slice (some ⟨W.heap.size + 1, 0, none⟩) 20 20, .slice (some ⟨W.heap.size + 1 + 1, 0, none⟩) 20 20, .bool false], .int .i64 0]) (by simp [results, Try.results59, go_sem]) rfl ⟨⟨_, rfl, _, _, rfl, ?_, ?_⟩, ((((Below.refl _ _).alloc (Nat.le_refl _) _).alloc (by simp) _).alloc (by simp; omega) _).drew⟩
    · rw [HC.out] at ho1; exact ho1.drew
    · rw [HB.out] at ho2; exact ho2.drew
  · have ho1 := (World.ownsRow_lit (base := W.heap.size) (e := 4) (size := 1) (W.alloc (.cells #[.slice (some ⟨W.heap.size + 1 + 1, 0, none⟩) 20 20, .slice (some ⟨W.heap.size + 1, 0, none⟩) 20 20, .bool false] 44)) b8 20 (by simp) (by decide) HB8.out).alloc (.cells c8 27)
    have ho2 := World.ownsRow_lit (base := W.heap.size) (e := 27) (size := 1) ((W.alloc (.cells #[.slice (some ⟨W.heap.size + 1 + 1, 0, none⟩) 20 20, .slice (some ⟨W.heap.size + 1, 0, none⟩) 20 20, .bool false] 44)).alloc (.cells b8 4)) c8 20 (by simp; omega) (by decide) HC8.out
    rw [World.size_alloc] at ho1
    rw [World.size_alloc, World.size_alloc] at ho2
    refine bodyPost_ret (v := .tuple #[.agg #[.slice (some ⟨W.heap.size + 1 + 1, 0, none⟩) 20 20, .slice (some ⟨W.heap.size + 1, 0, none⟩) 20 20, .bool false], .int .i64 0]) (by simp [results, Try.results59, go_sem]) rfl ⟨⟨_, rfl, _, _, rfl, ?_, ?_⟩, ((((Below.refl _ _).alloc (Nat.le_refl _) _).alloc (by simp) _).alloc (by simp; omega) _).drew⟩
    · rw [HC.out] at ho2; exact ho2.drew
    · rw [HB.out] at ho1; exact ho1.drew

end Go.Proofs.Ytaljpggajpoalaa
/-
  live(20), of the statements of layer 6: words, all live, of 0.
  Conditions: none.
-/
namespace Go.Proofs.Ytaljpggajpoalaa
open Go.RowKit Go.Shelf
attribute [local go_sem] Oper.semAt_some

set_option maxRecDepth 100000 in
set_option maxHeartbeats 8000000 in
theorem elive20 (W : World) : Calls Try.prog 34 #[.int .i64 20] W fun e w' => (∃ gw cw gl cl, e = .returned (.tuple #[.agg #[.slice (some ⟨gw, 0, none⟩) 20 cw, .slice (some ⟨gl, 0, none⟩) 20 cl, .bool false], .bool true]) ∧
      w'.ownsRow W.heap.size 27 1 (.slice (some ⟨gw, 0, none⟩) 20 cw) 20 ((List.replicate 20 0 : List Int).map (Value.int .u64)) ∧ w'.ownsRow W.heap.size 4 1 (.slice (some ⟨gl, 0, none⟩) 20 cl) 20 ((List.replicate 20 true).map Value.bool)) ∧ Below W.heap.size W w' := by
  have hB : Below W.heap.size W (W.alloc (.cells #[.slice none 0 0, .slice none 0 0, .bool false] 44)) := (Below.refl _ _).alloc (Nat.le_refl _) _
  have HR := Lib.hid (MBox.new W (.slice none 0 0) (.slice none 0 0) false)
  go_enter Try.func34, Try.ntmps34
  go_wp2_with fail
  refine (new20_c _).mono ?_
  rintro e w1 ⟨⟨_, rfl, vw, vl, rfl, how, hol⟩, hb1⟩
  have HR1 := Lib.hid (HR.out.below hb1)
  have hB1 := below_then hB hB.size hb1
  clear hb1 hB HR
  obtain ⟨gw, cw, rfl, hgw, hgw3⟩ := own_form how (by decide)
  obtain ⟨gl, cl, rfl, hgl, hgl3⟩ := own_form hol (by decide)
  have hcapl := (own_cap hol).1
  have hb2 : Below w1.heap.size w1 (w1.alloc (.cells #[.slice (some ⟨gw, 0, none⟩) 20 cw, .slice (some ⟨gl, 0, none⟩) 20 cl, .bool false] 44)) := (Below.refl _ _).alloc (Nat.le_refl _) _
  have hmem : MemAt (w1.alloc (.cells #[.slice (some ⟨gw, 0, none⟩) 20 cw, .slice (some ⟨gl, 0, none⟩) 20 cl, .bool false] 44)) (.agg #[.slice (some ⟨gw, 0, none⟩) 20 cw, .slice (some ⟨gl, 0, none⟩) 20 cl, .bool false]) (List.replicate 20 0) (List.replicate 20 false) false :=
    ⟨_, _, rfl, nums_of_owns (by decide) (owns_below how hb2), bools_of_owns (by decide) (owns_below hol hb2)⟩
  have HLIVE := Lib.hid (live_yes _ _ _ false 0 20 _ hmem (by intro x y p n c e; injection e with e; injection e with e; injection e with _ e; injection e with e _; injection e with _ e1 e2; subst e1; subst e2; exact hcapl) (by decide) (by decide) (by kernel_rfl) (by kernel_rfl) (by kernel_rfl))
  have HZ2 := Lib.hid (MBox.new w1 (.slice (some ⟨gw, 0, none⟩) 20 cw) (.slice (some ⟨gl, 0, none⟩) 20 cl) false)
  have HR2 := Lib.hid (HR1.out.below hb2)
  have hB2 := below_then hB1 hB1.size hb2
  have hzb : W.heap.size < w1.heap.size := HR1.out.lt
  obtain ⟨z, hz⟩ : ∃ z, z = w1.heap.size := ⟨_, rfl⟩
  have HZZ := Lib.hid hz
  clear hmem hb2 how hol hB1 HR1 hz
  go_wp2_with fail
  refine HLIVE.out.mono ?_
  rintro e w3 ⟨⟨_, rfl, vw2, vl2, rfl, how2, hol2⟩, hb3⟩
  obtain ⟨gw2, cw2, rfl, hgw2, hgw4⟩ := own_form how2 (by decide)
  obtain ⟨gl2, cl2, rfl, hgl2, hgl4⟩ := own_form hol2 (by decide)
  have e1 : fill (List.replicate 20 (0 : Int)) (Int.toNat 0) 0 (Int.toNat 20) = List.replicate 20 0 := by kernel_rfl
  have e2 : fill (List.replicate 20 false) (Int.toNat 0) true (Int.toNat 20) = List.replicate 20 true := by kernel_rfl
  rw [e1, e2]
  rw [e1] at how2
  rw [e2] at hol2
  rw [show (List.replicate 20 0 : List Int).length = 20 from rfl] at how2 ⊢
  rw [show (List.replicate 20 true : List Bool).length = 20 from rfl] at hol2 ⊢
  rw [World.size_alloc, ← HZZ.out] at hgw2 hgl2
  have hz3 := HZ2.out.below hb3
  rw [← HZZ.out] at hz3 hzb ⊢
  have hr3 := HR2.out.below hb3
  obtain ⟨⟨hd0, hd1, hd2⟩, he0, he1, he2⟩ := mbox_cells hz3
  obtain ⟨w4, hw4⟩ : ∃ w4 : World, w4 = ((w3.setCell ⟨z, 0, none⟩ (.slice (some ⟨gw2, 0, none⟩) 20 cw2)).setCell ⟨z, 1, none⟩ (.slice (some ⟨gl2, 0, none⟩) 20 cl2)).setCell ⟨z, 2, none⟩ (.bool false) := ⟨_, rfl⟩
  have hkz : Keeps (· = z) w3 w4 := by
    rw [hw4]
    exact ((Keeps.setCell w3 (S := (· = z)) (p := ⟨z, 0, none⟩) rfl _).trans (Keeps.setCell _ (S := (· = z)) (p := ⟨z, 1, none⟩) rfl _)).trans (Keeps.setCell _ (S := (· = z)) (p := ⟨z, 2, none⟩) rfl _)
  have HZ4 := Lib.hid (show MBox w4 z (.slice (some ⟨gw2, 0, none⟩) 20 cw2) (.slice (some ⟨gl2, 0, none⟩) 20 cl2) false by rw [hw4]; exact hz3.set _ _ _)
  have HR4 := Lib.hid (hr3.keeps hkz (fun e => by have e : W.heap.size = z := e; omega))
  have how4 := hkz.row how2 (fun q hq e => by have e : q = z := e; simp [Value.ownBlock] at hq; omega)
  have hol4 := hkz.row hol2 (fun q hq e => by have e : q = z := e; simp [Value.ownBlock] at hq; omega)
  have HOW := Lib.hid how4
  have HOL := Lib.hid hol4
  have HB4 := Lib.hid ((below_then hB2 hB2.size hb3).trans (hkz.below (below_then hB2 hB2.size hb3).size (fun q hq => by have e : q = z := hq; omega)))
  have HW4 := Lib.hid hw4
  have HGG := Lib.hid (show W.heap.size < gw2 ∧ W.heap.size < gl2 by omega)
  clear hw4 hkz how2 hol2 how4 hol4 hz3 hr3 hb3 hB2 e1 e2 HLIVE HZ2 HR2 hgw hgl hgw3 hgl3 hgw2 hgl2 hgw4 hgl4
  go_upto_region 3 with (fail)
  rw [← HW4.out]
  clear hd0 hd1 hd2 he0 he1 he2 HW4
  obtain ⟨⟨hd0, hd1, hd2⟩, _⟩ := mbox_cells HZ4.out
  obtain ⟨⟨r0, r1, r2⟩, q0, q1, q2⟩ := mbox_cells HR4.out
  have HPS := Lib.hid (HR4.out.set (.slice (some ⟨gw2, 0, none⟩) 20 cw2) (.slice (some ⟨gl2, 0, none⟩) 20 cl2) false)
  have HPK := Lib.hid (((Keeps.setCell w4 (S := (· = W.heap.size)) (p := ⟨W.heap.size, 0, none⟩) rfl (.slice (some ⟨gw2, 0, none⟩) 20 cw2)).trans (Keeps.setCell _ (S := (· = W.heap.size)) (p := ⟨W.heap.size, 1, none⟩) rfl (.slice (some ⟨gl2, 0, none⟩) 20 cl2))).trans (Keeps.setCell _ (S := (· = W.heap.size)) (p := ⟨W.heap.size, 2, none⟩) rfl (.bool false)))
  go_wp2
  clear hd0 hd1 hd2 r0 r1 r2 q0 q1 q2
  revert HPS HPK
  generalize World.setCell _ ⟨W.heap.size, 2, none⟩ _ = w5
  intro HPS HPK
  obtain ⟨⟨r0, r1, r2⟩, -, -, -⟩ := mbox_cells HPS.out
  exact bodyPost_ret (v := .tuple #[.agg #[.slice (some ⟨gw2, 0, none⟩) 20 cw2, .slice (some ⟨gl2, 0, none⟩) 20 cl2, .bool false], .bool true]) (by simp [results, Try.results34, go_sem, r0, r1, r2]) rfl ⟨⟨gw2, cw2, gl2, cl2, rfl, (HPK.out.row HOW.out (fun g hg e => by simp [Value.ownBlock] at hg; have e' : g = W.heap.size := e; have := HGG.out; omega)).mono (by rw [World.size_alloc, ← HZZ.out]; omega), (HPK.out.row HOL.out (fun g hg e => by simp [Value.ownBlock] at hg; have e' : g = W.heap.size := e; have := HGG.out; omega)).mono (by rw [World.size_alloc, ← HZZ.out]; omega)⟩, HB4.out.trans (HPK.out.below HB4.out.size (fun k e => Nat.le_of_eq e.symm))⟩

end Go.Proofs.Ytaljpggajpoalaa
namespace Go.Proofs.Ytaljpggajpoalaa
open Go.RowKit Go.Shelf

theorem mbox_wrbox {w : World} {z z' : Nat} {a b : Value} {f : Bool} {s : WrM} {v : Value} (h : MBox w z a b f) (h' : WrBox w z' s v) : z ≠ z' := by
  rintro rfl
  have h1 : w.heap[z]? = _ := h
  have h2 : w.heap[z]? = _ := h'
  rw [h1] at h2
  simp at h2
theorem mbox_rdbox {w : World} {z z' : Nat} {a b : Value} {f : Bool} {s : RdM} {v : Value} (h : MBox w z a b f) (h' : RdBox w z' s v) : z ≠ z' := by
  rintro rfl
  have h1 : w.heap[z]? = _ := h
  have h2 : w.heap[z]? = _ := h'
  rw [h1] at h2
  simp at h2
theorem rdbox_wrbox {w : World} {z z' : Nat} {s' : RdM} {v' : Value} {s : WrM} {v : Value} (h : RdBox w z s' v') (h' : WrBox w z' s v) : z ≠ z' := by
  rintro rfl
  have h1 : w.heap[z]? = _ := h
  have h2 : w.heap[z]? = _ := h'
  rw [h1] at h2
  simp at h2
/-- Twenty words, all live, and a row of values. -/
def AlRows (B : Nat) (w : World) (gw cw gl cl : Nat) (us : List Int) : Prop :=
  w.ownsRow B 27 1 (.slice (some ⟨gw, 0, none⟩) 20 cw) 20 (us.map (Value.int .u64)) ∧ w.ownsRow B 4 1 (.slice (some ⟨gl, 0, none⟩) 20 cl) 20 ((List.replicate 20 true).map Value.bool)
theorem AlRows.below {B : Nat} {w w' : World} {gw cw gl cl : Nat} {us : List Int} (h : AlRows B w gw cw gl cl us) (hb : Below w.heap.size w w') : AlRows B w' gw cw gl cl us := ⟨owns_below h.1 hb, owns_below h.2 hb⟩
theorem AlRows.mem {B : Nat} {w : World} {gw cw gl cl : Nat} {us : List Int} (h : AlRows B w gw cw gl cl us) (hl : us.length = 20) (f : Bool) : MemAt w (.agg #[.slice (some ⟨gw, 0, none⟩) 20 cw, .slice (some ⟨gl, 0, none⟩) 20 cl, .bool f]) us (List.replicate 20 true) f :=
  ⟨_, _, rfl, nums_of_owns hl h.1, bools_of_owns (by simp) h.2⟩
theorem AlRows.cnt {B : Nat} {w : World} {gw cw gl cl : Nat} {us : List Int} (h : AlRows B w gw cw gl cl us) (hl : us.length = 20) : w.cell? ⟨gw, 19, none⟩ = some (.int .u64 (us.getD 19 0)) := by
  rw [h.1.cellAt 19 (by decide), List.getElem?_map, List.getD_eq_getElem?_getD, List.getElem?_eq_getElem (by omega)]
  rfl
theorem awrite_c {xs : List Int} {k : Nat} (hk : xs.length = k) {us us2 : List Int} {s s2 : WrM} (hst : stepW (List.replicate 20 true) us false s xs = ((us2, false), s2)) (hl : us.length = 20) (hw : WRange us) (hR : rightWB s k = true) (hb : s.b = 0) (wr : World) (B gw cw gl cl : Nat) (q : Option Addr) (c : Nat)
    (hm : AlRows B wr gw cw gl cl us) (hv : wr.ownsRow B 27 1 (.slice q k c) k (xs.map (Value.int .u64))) :
    Calls Try.prog 29 #[.agg #[.slice (some ⟨gw, 0, none⟩) 20 cw, .slice (some ⟨gl, 0, none⟩) 20 cl, .bool false], wrV s (.slice q k c)] wr fun e w' =>
      (∃ gw cw gl cl p c, e = .returned (.tuple #[.agg #[.slice (some ⟨gw, 0, none⟩) 20 cw, .slice (some ⟨gl, 0, none⟩) 20 cl, .bool false], wrV s2 (.slice p k c), .int .i64 0]) ∧ AlRows wr.heap.size w' gw cw gl cl us2 ∧ w'.ownsRow wr.heap.size 27 1 (.slice p k c) k (xs.map (Value.int .u64))) ∧ Below wr.heap.size wr w' := by
  subst hk
  have h := swrite_c _ us (List.replicate 20 true) false s q c xs wr (hm.mem hl false) (right20 hl) hw (VV.ownsLt hv rfl) hR (by rw [hb]; omega)
  rw [hst] at h
  refine h.mono ?_
  have hl2 : us2.length = 20 := by
    have := stepW_words (List.replicate 20 true) us false s xs
    rw [hst] at this
    exact this.trans hl
  rintro e w' ⟨⟨gw, cw, gl, cl, p, c, he, h1, h2, h3⟩, hb⟩
  dsimp only at he h1
  rw [hl2, List.length_replicate] at he
  rw [hl2] at h1
  rw [List.length_replicate] at h2
  exact ⟨⟨gw, cw, gl, cl, p, c, he, ⟨h1, h2⟩, h3⟩, hb⟩
theorem aread_c {us : List Int} {s s2 : RdM} {rs rs2 : List Int} {n n2 : Nat} (hn : rs.length = n) (hn2 : rs2.length = n2) (hst : stepR (List.replicate 20 true) us false s rs = ((us, false), s2, rs2)) (hl : us.length = 20) (hw : WRange us) (hR : rightRB s n = true) (hb : 0 ≤ s.b ∧ s.b ≤ 2) (wr : World) (B gw cw gl cl : Nat) (q : Option Addr) (c : Nat)
    (hm : AlRows B wr gw cw gl cl us) (hv : wr.ownsRow B 27 1 (.slice q n c) n (rs.map (Value.int .u64))) :
    Calls Try.prog 22 #[.agg #[.slice (some ⟨gw, 0, none⟩) 20 cw, .slice (some ⟨gl, 0, none⟩) 20 cl, .bool false], rdV s (.slice q n c)] wr fun e w' =>
      (∃ gw cw gl cl p c, e = .returned (.tuple #[.agg #[.slice (some ⟨gw, 0, none⟩) 20 cw, .slice (some ⟨gl, 0, none⟩) 20 cl, .bool false], rdV s2 (.slice p n2 c), .int .i64 0]) ∧ AlRows wr.heap.size w' gw cw gl cl us ∧ w'.ownsRow wr.heap.size 27 1 (.slice p n2 c) n2 (rs2.map (Value.int .u64))) ∧ Below wr.heap.size wr w' := by
  subst hn hn2
  have h := sread_c _ us (List.replicate 20 true) false s q c rs wr (hm.mem hl false) (right20 hl) hw (VV.ownsLt hv rfl) hR (by omega)
  rw [hst] at h
  refine h.mono ?_
  rintro e w' ⟨⟨gw, cw, gl, cl, p, c, he, h1, h2, h3⟩, hb⟩
  dsimp only at he h1 h3
  rw [hl, List.length_replicate] at he
  rw [hl] at h1
  rw [List.length_replicate] at h2
  exact ⟨⟨gw, cw, gl, cl, p, c, he, ⟨h1, h2⟩, h3⟩, hb⟩
end Go.Proofs.Ytaljpggajpoalaa
