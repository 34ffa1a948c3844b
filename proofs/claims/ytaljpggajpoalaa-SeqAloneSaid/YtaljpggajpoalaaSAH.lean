/-
  SeqAlone returns true for all values, and its argument reads behind the call as it read before.
  Conditions: none.
-/
import Derived.Test.YtaljpggajpoalaaSB12
import Derived.Test.YtaljpggajpoalaaSB1
import Derived.Test.YtaljpggajpoalaaSB2
/-
  SeqAlone: a write alone, and a read behind it, in so many steps.
  Conditions: the ranges of Go's types.
-/
namespace Go.Proofs.Ytaljpggajpoalaa
open Go.RowKit Go.Shelf
attribute [local go_sem] Oper.semAt_some

/-- Where SeqAlone's variables lie. -/
def AlAt (B : Nat) (w : World) (zm zw zr : Nat) (us : List Int) (s : WrM) (xs : List Int) (k : Nat) (r : RdM) (rs : List Int) (n : Nat) (q2 : Option Addr) (c2 : Nat) : Prop :=
  ∃ gw cw gl cl q5 c5 q7 c7, MBox w zm (.slice (some ⟨gw, 0, none⟩) 20 cw) (.slice (some ⟨gl, 0, none⟩) 20 cl) false ∧ WrBox w zw s (.slice q5 k c5) ∧ RdBox w zr r (.slice q7 n c7) ∧ AlRows B w gw cw gl cl us ∧
    w.ownsRow B 27 1 (.slice q5 k c5) k (xs.map (Value.int .u64)) ∧ w.ownsRow B 27 1 (.slice q7 n c7) n (rs.map (Value.int .u64)) ∧ w.ownsRow B 27 1 (.slice q2 k c2) k (xs.map (Value.int .u64))
set_option maxRecDepth 100000 in
set_option maxHeartbeats 8000000 in
theorem alone_none (v : Value) (vs : List Int) (W : World) (hv : ArgR W v (vs.map (Value.int .u64))) (hvl : vs.length ≤ 9223372036854775807) (hwr : WRange vs) (hk1 : (vs.take 16).length = 0) :
    Calls Try.prog 9 #[v] W fun e w' => e = .returned (.bool true) ∧ Below W.heap.size W w' := by
  obtain ⟨p0, n0, c0, rfl, hn0, hp0⟩ := hv
  have HCW : ∀ W' : World, Below W.heap.size W W' → Calls Try.prog 11 #[.slice p0 (min n0 16) c0] W' fun e w' => OwnsSl W'.heap.size 27 (min n0 16) ((vs.take 16).map (Value.int .u64)) e w' ∧ Below W'.heap.size W' w' := fun W' hb => by
    have := cloneW _ _ _ W' (vals_takeN 16 hn0 hp0 hb) (fun u hu => by obtain ⟨x, _, rfl⟩ := List.mem_map.1 (List.mem_of_mem_take hu); rfl) (by omega)
    rw [← List.map_take] at this
    exact this.mono fun _ _ h => ⟨h.1.sl, h.2⟩
  rw [List.length_map] at hn0
  have HL0 := Lib.hid (show (vs.take 16).length = min n0 16 by rw [List.length_take, hn0]; omega)
  have hnc0 : n0 ≤ c0 := by rcases hp0 with ⟨_, b, c⟩ | ⟨_, _, b, _⟩ <;> omega
  obtain ⟨k, hk0⟩ : ∃ k, k = min n0 16 := ⟨_, rfl⟩
  rw [← hk0] at HCW HL0
  have hs0 : ∀ wx, (Instr.slice 24 (.slice p0 n0 c0) none (some (.int .i64 (k : Int))) none).run Try.prog wx = .ok (.slice p0 k c0) wx := run_cut16 Try.underlying24 (fun wx => by go_simp) p0 n0 c0 k (by omega)
  have hm0 : ∀ wx, (Builtin.min_ #[3, 3] 3 #[.int .i64 (n0 : Int), .int .i64 16]).run Try.prog wx = .ok (.int .i64 (k : Int)) wx := fun wx => by
    have : (if (16 : Int) < (n0 : Int) then (16 : Int) else n0) = (k : Int) := by rw [hk0]; split <;> omega
    simp [Builtin.min_, Builtin.min2, this]
  have hw0 : n0 ≤ 9223372036854775807 := by omega
  have hk16 : k ≤ 16 := by omega
  obtain ⟨xs, hxs⟩ : ∃ xs, xs = vs.take 16 := ⟨_, rfl⟩
  rw [← hxs] at HCW HL0
  have HXR := Lib.hid (show WRange xs from fun x hx => hwr x (List.mem_of_mem_take (hxs ▸ hx)))
  obtain rfl : k = 0 := by rw [← hxs, HL0.out] at hk1; exact hk1
  have HCX := Lib.hid HCW
  clear hk1 hk16 hp0 hk0 hn0 hnc0 hvl hxs HCW hwr
  have HWR := Lib.hid (show ∀ (Z : World) (q : Option Addr) (c : Nat), Calls Try.prog 13 #[.int .i64 19, .int .i64 1, .slice q 0 c] Z fun e w' => e = .returned (.tuple #[.agg #[.int .i64 0, .int .i64 0, .slice none 0 0, .int .i64 0, .int .u64 0, .int .i64 0], .int .i64 2]) ∧ Below Z.heap.size Z w' from fun Z q c => write_no 19 1 q 0 c (by decide) Z)
  have HRD := Lib.hid (show ∀ Z : World, Calls Try.prog 12 #[.int .i64 19, .int .i64 1, .int .i64 0] Z fun e w' => e = .returned (.tuple #[.agg #[.int .i64 19, .int .i64 1, .int .i64 0, .int .i64 0, .int .u64 0, .slice none 0 0, .int .i64 0], .int .i64 0]) ∧ Below Z.heap.size Z w' from fun Z => by
    have h := read_c 19 1 0 Z
    rw [if_pos (by decide)] at h
    exact h)
  go_enter Try.func9, Try.ntmps9
  go_wp2_with fail
  refine (ewakes W).mono ?_
  rintro e w1 ⟨rfl, hb1⟩
  have HB1 := Lib.hid hb1
  clear hb1
  go_wp2_with fail
  refine (HCX.out w1 HB1.out).mono ?_
  rintro e w2 ⟨⟨q2, c2, rfl, ho2⟩, hb2⟩
  have HX2 := Lib.hid (ho2.mono HB1.out.size)
  have HB2 := Lib.hid (below_then HB1.out HB1.out.size hb2)
  clear HB1 hb2 ho2 HCX hs0 hm0 hw0
  go_wp2_with fail
  refine (elive20 w2).mono ?_
  rintro e w3 ⟨⟨gw, cw, gl, cl, rfl, how, hol⟩, hb3⟩
  obtain ⟨zm, hzm⟩ : ∃ z, z = w3.heap.size := ⟨_, rfl⟩
  obtain ⟨w4, hw4⟩ : ∃ X : World, X = w3.alloc (.cells #[.slice (some ⟨gw, 0, none⟩) 20 cw, .slice (some ⟨gl, 0, none⟩) 20 cl, .bool false] 44) := ⟨_, rfl⟩
  have hb34 : Below w3.heap.size w3 w4 := by rw [hw4]; exact below1 w3 _
  have hb4 : Below w2.heap.size w2 w4 := hb3.trans (hb34.mono hb3.size)
  have HM4 := Lib.hid (show MBox w4 zm (.slice (some ⟨gw, 0, none⟩) 20 cw) (.slice (some ⟨gl, 0, none⟩) 20 cl) false by rw [hw4, hzm]; exact MBox.new _ _ _ _)
  have HR4 := Lib.hid (show AlRows W.heap.size w4 gw cw gl cl (List.replicate 20 0) from ⟨(owns_below how hb34).mono HB2.out.size, (owns_below hol hb34).mono HB2.out.size⟩)
  have HX4 := Lib.hid (owns_below HX2.out hb4)
  have HB4 := Lib.hid (below_then HB2.out HB2.out.size hb4)
  have HZM := Lib.hid (show W.heap.size ≤ zm by rw [hzm]; exact Nat.le_trans HB2.out.size hb3.size)
  have HW4 := Lib.hid (And.intro hzm hw4)
  clear HX2 HB2 hb3 hb34 hb4 how hol hzm hw4
  go_upto_region 5 with (fail)
  rw [← HW4.out.1, ← HW4.out.2]
  clear HW4
  clear HXR HL0 HX4 HM4 HR4
  go_wp2_with fail
  refine (HWR.out w4 q2 c2).mono ?_
  rintro e w5 ⟨rfl, hb5⟩
  have hb6 : Below w4.heap.size w4 (w5.alloc (.cells #[.int .i64 0, .int .i64 0, .slice none 0 0, .int .i64 0, .int .u64 0, .int .i64 0] 34)) := hb5.trans ((below1 w5 _).mono hb5.size)
  have HB6 := Lib.hid (below_then HB4.out HB4.out.size hb6)
  clear hb5 hb6 HB4 HWR
  go_wp2_with fail
  refine (HRD.out _).mono ?_
  rintro e w7 ⟨rfl, hb7⟩
  have HB7 := Lib.hid (below_then HB6.out HB6.out.size hb7)
  clear hb7 HRD HB6
  go_wp2
  go_ret
  exact ⟨rfl, (below_then HB7.out HB7.out.size (below1 w7 _))⟩

set_option maxRecDepth 100000 in
set_option maxHeartbeats 8000000 in
theorem alone_some (v : Value) (vs : List Int) (W : World) (hv : ArgR W v (vs.map (Value.int .u64))) (hvl : vs.length ≤ 9223372036854775807) (hwr : WRange vs) (hk1 : 1 ≤ (vs.take 16).length) :
    Calls Try.prog 9 #[v] W fun e w' => e = .returned (.bool true) ∧ Below W.heap.size W w' := by
  obtain ⟨p0, n0, c0, rfl, hn0, hp0⟩ := hv
  have HCW : ∀ W' : World, Below W.heap.size W W' → Calls Try.prog 11 #[.slice p0 (min n0 16) c0] W' fun e w' => OwnsSl W'.heap.size 27 (min n0 16) ((vs.take 16).map (Value.int .u64)) e w' ∧ Below W'.heap.size W' w' := fun W' hb => by
    have := cloneW _ _ _ W' (vals_takeN 16 hn0 hp0 hb) (fun u hu => by obtain ⟨x, _, rfl⟩ := List.mem_map.1 (List.mem_of_mem_take hu); rfl) (by omega)
    rw [← List.map_take] at this
    exact this.mono fun _ _ h => ⟨h.1.sl, h.2⟩
  rw [List.length_map] at hn0
  have HL0 := Lib.hid (show (vs.take 16).length = min n0 16 by rw [List.length_take, hn0]; omega)
  have hnc0 : n0 ≤ c0 := by rcases hp0 with ⟨_, b, c⟩ | ⟨_, _, b, _⟩ <;> omega
  obtain ⟨k, hk0⟩ : ∃ k, k = min n0 16 := ⟨_, rfl⟩
  rw [← hk0] at HCW HL0
  have hs0 : ∀ wx, (Instr.slice 24 (.slice p0 n0 c0) none (some (.int .i64 (k : Int))) none).run Try.prog wx = .ok (.slice p0 k c0) wx := run_cut16 Try.underlying24 (fun wx => by go_simp) p0 n0 c0 k (by omega)
  have hm0 : ∀ wx, (Builtin.min_ #[3, 3] 3 #[.int .i64 (n0 : Int), .int .i64 16]).run Try.prog wx = .ok (.int .i64 (k : Int)) wx := fun wx => by
    have : (if (16 : Int) < (n0 : Int) then (16 : Int) else n0) = (k : Int) := by rw [hk0]; split <;> omega
    simp [Builtin.min_, Builtin.min2, this]
  have hw0 : n0 ≤ 9223372036854775807 := by omega
  have hk16 : k ≤ 16 := by omega
  obtain ⟨xs, hxs⟩ : ∃ xs, xs = vs.take 16 := ⟨_, rfl⟩
  rw [← hxs] at HCW HL0
  have HXR := Lib.hid (show WRange xs from fun x hx => hwr x (List.mem_of_mem_take (hxs ▸ hx)))
  have hk1 : 1 ≤ k := by rw [← hxs, HL0.out] at hk1; exact hk1
  have HKN := Lib.hid (show 1 ≤ xs.length ∧ xs.length ≤ 16 by rw [HL0.out]; exact ⟨hk1, hk16⟩)
  have HRW := Lib.hid (show rightWB ⟨19, 1, 0, 0, 0⟩ k = true by
    have h := (aw_facts (vs := xs) (.inl ⟨rfl, rfl, rfl⟩) HKN.out HXR.out).2.2.1
    rw [HL0.out] at h
    exact h)
  have HRR := Lib.hid (show rightRB ⟨19, 1, (k : Int), 0, 0, 0⟩ 0 = true by
    have h := (ar_facts (vs := xs) (.inl ⟨rfl, rfl, rfl⟩) HKN.out).1
    rw [HL0.out] at h
    exact h)
  have HCX := Lib.hid HCW
  clear hp0 hk0 hn0 hnc0 hvl hxs HCW hwr
  have HWR := Lib.hid (fun (Z : World) (q : Option Addr) (c : Nat) (hv : NumsAt Z .u64 (.slice q k c) xs) => write_yes 19 1 q k c xs HRW.out Z hv)
  unfold wrV at HWR
  dsimp only at HWR
  have HRD := Lib.hid (show ∀ Z : World, Calls Try.prog 12 #[.int .i64 19, .int .i64 1, .int .i64 (k : Int)] Z fun e w' => e = .returned (.tuple #[.agg #[.int .i64 19, .int .i64 1, .int .i64 (k : Int), .int .i64 0, .int .u64 0, .slice none 0 0, .int .i64 0], .int .i64 0]) ∧ Below Z.heap.size Z w' from fun Z => by
    have h := read_c 19 1 (k : Int) Z
    rw [HRR.out] at h
    exact h)
  go_enter Try.func9, Try.ntmps9
  go_wp2_with fail
  refine (ewakes W).mono ?_
  rintro e w1 ⟨rfl, hb1⟩
  have HB1 := Lib.hid hb1
  clear hb1
  go_wp2_with fail
  refine (HCX.out w1 HB1.out).mono ?_
  rintro e w2 ⟨⟨q2, c2, rfl, ho2⟩, hb2⟩
  have HX2 := Lib.hid (ho2.mono HB1.out.size)
  have HB2 := Lib.hid (below_then HB1.out HB1.out.size hb2)
  clear HB1 hb2 ho2 HCX hs0 hm0 hw0
  go_wp2_with fail
  refine (elive20 w2).mono ?_
  rintro e w3 ⟨⟨gw, cw, gl, cl, rfl, how, hol⟩, hb3⟩
  obtain ⟨zm, hzm⟩ : ∃ z, z = w3.heap.size := ⟨_, rfl⟩
  obtain ⟨w4, hw4⟩ : ∃ X : World, X = w3.alloc (.cells #[.slice (some ⟨gw, 0, none⟩) 20 cw, .slice (some ⟨gl, 0, none⟩) 20 cl, .bool false] 44) := ⟨_, rfl⟩
  have hb34 : Below w3.heap.size w3 w4 := by rw [hw4]; exact below1 w3 _
  have hb4 : Below w2.heap.size w2 w4 := hb3.trans (hb34.mono hb3.size)
  have HM4 := Lib.hid (show MBox w4 zm (.slice (some ⟨gw, 0, none⟩) 20 cw) (.slice (some ⟨gl, 0, none⟩) 20 cl) false by rw [hw4, hzm]; exact MBox.new _ _ _ _)
  have HR4 := Lib.hid (show AlRows W.heap.size w4 gw cw gl cl (List.replicate 20 0) from ⟨(owns_below how hb34).mono HB2.out.size, (owns_below hol hb34).mono HB2.out.size⟩)
  have HX4 := Lib.hid (owns_below HX2.out hb4)
  have HB4 := Lib.hid (below_then HB2.out HB2.out.size hb4)
  have HZM := Lib.hid (show W.heap.size ≤ zm by rw [hzm]; exact Nat.le_trans HB2.out.size hb3.size)
  have HW4 := Lib.hid (And.intro hzm hw4)
  clear HX2 HB2 hb3 hb34 hb4 how hol hzm hw4
  go_upto_region 5 with (fail)
  rw [← HW4.out.1, ← HW4.out.2]
  clear HW4
  go_wp2_with fail
  refine (HWR.out w4 q2 c2 (nums_of_owns HL0.out HX4.out)).mono ?_
  rintro e w5 ⟨⟨q5, c5, rfl, ho5⟩, hb5⟩
  obtain ⟨zw, hzw⟩ : ∃ z, z = w5.heap.size := ⟨_, rfl⟩
  obtain ⟨w6, hw6⟩ : ∃ X : World, X = w5.alloc (.cells #[.int .i64 19, .int .i64 1, .slice q5 k c5, .int .i64 0, .int .u64 0, .int .i64 0] 34) := ⟨_, rfl⟩
  have hb56 : Below w5.heap.size w5 w6 := by rw [hw6]; exact below1 w5 _
  have hb6 : Below w4.heap.size w4 w6 := hb5.trans (hb56.mono hb5.size)
  have HV6 := Lib.hid (show WrBox w6 zw ⟨19, 1, 0, 0, 0⟩ (.slice q5 k c5) by rw [hw6, hzw]; exact World.alloc_heap_new _ _)
  have HQ6 := Lib.hid ((owns_below ho5 hb56).mono HB4.out.size)
  have HM6 := Lib.hid (HM4.out.below hb6)
  have HR6 := Lib.hid (HR4.out.below hb6)
  have HX6 := Lib.hid (owns_below HX4.out hb6)
  have HB6 := Lib.hid (below_then HB4.out HB4.out.size hb6)
  have HZW := Lib.hid (show W.heap.size ≤ zw by rw [hzw]; exact Nat.le_trans HB4.out.size hb5.size)
  have HW6 := Lib.hid (And.intro hzw hw6)
  clear HM4 HR4 HX4 HB4 hb5 hb56 hb6 ho5 hzw hw6 HWR
  go_upto_region 6 with (fail)
  rw [← HW6.out.1, ← HW6.out.2]
  clear HW6
  go_wp2_with fail
  refine (HRD.out w6).mono ?_
  rintro e w7 ⟨rfl, hb7⟩
  obtain ⟨zr, hzr⟩ : ∃ z, z = w7.heap.size := ⟨_, rfl⟩
  obtain ⟨w8, hw8⟩ : ∃ X : World, X = w7.alloc (.cells #[.int .i64 19, .int .i64 1, .int .i64 (k : Int), .int .i64 0, .int .u64 0, .slice none 0 0, .int .i64 0] 29) := ⟨_, rfl⟩
  have hb78 : Below w7.heap.size w7 w8 := by rw [hw8]; exact below1 w7 _
  have hb8 : Below w6.heap.size w6 w8 := hb7.trans (hb78.mono hb7.size)
  have HS8 := Lib.hid (show AW xs 0 (List.replicate 20 0) ⟨19, 1, 0, 0, 0⟩ ∧ AlAt W.heap.size w8 zm zw zr (List.replicate 20 0) ⟨19, 1, 0, 0, 0⟩ xs k ⟨19, 1, k, 0, 0, 0⟩ [] 0 q2 c2 ∧ Below W.heap.size W w8 from
    ⟨.inl ⟨rfl, (memA_nil xs).symm, rfl⟩, ⟨gw, cw, gl, cl, q5, c5, none, 0, HM6.out.below hb8, HV6.out.below hb8, by rw [hw8, hzr]; exact World.alloc_heap_new _ _, HR6.out.below hb8, owns_below HQ6.out hb8, World.ownsRow_nil _ _ _ _, owns_below HX6.out hb8⟩, below_then HB6.out HB6.out.size hb8⟩)
  have HZR := Lib.hid (show W.heap.size ≤ zr by rw [hzr]; exact Nat.le_trans HB6.out.size hb7.size)
  have HW8 := Lib.hid (And.intro hzr hw8)
  clear HM6 HV6 HR6 HQ6 HX6 HB6 hb7 hb78 hb8 hzr hw8 HRD HRR HRW
  go_upto_region 7 with (fail)
  rw [← HW8.out.1, ← HW8.out.2]
  clear HW8
  have hk0 : 0 < k := hk1
  go_wp2
  go_loopw [6, 54] (fun ev iv wr => ∃ (i : Nat) (us : List Int) (s : WrM), ev = .int .i64 0 ∧ i ≤ k + 3 ∧ iv = .int .i64 (i : Int) ∧ Hid (AW xs i us s ∧ AlAt W.heap.size wr zm zw zr us s xs k ⟨19, 1, k, 0, 0, 0⟩ [] 0 q2 c2 ∧ Below W.heap.size W wr)) (fun _ iv _ => k + 3 - (pIntOf iv).toNat)
  case atStart => exact ⟨0, _, _, rfl, Nat.zero_le _, rfl, HS8⟩
  case round =>
    clear HS8
    obtain ⟨i, us, s, rfl, hi, rfl, HR⟩ := hrel
    by_cases hlt : i < k + 3
    · obtain ⟨hA, ⟨gw, cw, gl, cl, q5, c5, q7, c7, hM, hX, hY, hAR, ho5, ho7, ho2⟩, hB⟩ := HR.out
      obtain ⟨hl, hw, hRt, hb0, -, -⟩ := aw_facts hA HKN.out HXR.out
      have hs := aw_step hA HKN.out (by rw [HL0.out]; omega)
      obtain ⟨⟨⟨us2, u2⟩, s2⟩, hst⟩ : ∃ x, x = stepW (List.replicate 20 true) us false s xs := ⟨_, rfl⟩
      rw [← hst] at hs
      dsimp only at hs
      obtain ⟨rfl, hA2⟩ := hs
      obtain ⟨hl2, hw2, -, -, hp2, hc2⟩ := aw_facts hA2 HKN.out HXR.out
      rw [HL0.out] at hRt hp2 hc2
      have HST := Lib.hid (awrite_c HL0.out hst.symm hl hw hRt hb0 wr _ gw cw gl cl q5 c5 hAR ho5)
      have HA2 := Lib.hid hA2
      have HPC := Lib.hid (And.intro hl2 (And.intro hp2 hc2))
      obtain ⟨a, f, p, b, w⟩ := s
      obtain ⟨a2, f2, p2, b2, w2⟩ := s2
      unfold wrV at HST
      dsimp only at HST
      obtain ⟨⟨m0, m1, m2⟩, -⟩ := mbox_cells hM
      obtain ⟨x0, x1, x2, x3, x4, x5⟩ := hX.cells
      dsimp only at x0 x1 x3 x4 x5
      have HX := Lib.hid (And.intro hM (And.intro hX (And.intro hY (And.intro ho7 ho2))))
      have HB := Lib.hid hB
      clear hA hM hX hY hAR ho5 ho7 ho2 hB hl hw hRt hb0 hst hA2 hl2 hw2 hp2 hc2 HR
      go_wp2_with fail
      refine HST.out.mono ?_
      rintro e w3 ⟨⟨gw2, cw2, gl2, cl2, p3, c3, rfl, hAR2, ho3⟩, hb3⟩
      clear m0 m1 m2 x0 x1 x2 x3 x4 x5 HST
      have hM3 := HX.out.1.below hb3
      have hX3 := HX.out.2.1.below hb3
      have hY3 := HX.out.2.2.1.below hb3
      have hn1 : zm ≠ zw := mbox_wrbox hM3 hX3
      have hn2 : zw ≠ zm := fun e => hn1 e.symm
      have HN := Lib.hid (And.intro (show zr ≠ zm from fun e => mbox_rdbox hM3 hY3 e.symm) (show zr ≠ zw from rdbox_wrbox hY3 hX3))
      obtain ⟨wA, hwA⟩ : ∃ X : World, X = ((w3.setCell ⟨zm, 0, none⟩ (.slice (some ⟨gw2, 0, none⟩) 20 cw2)).setCell ⟨zm, 1, none⟩ (.slice (some ⟨gl2, 0, none⟩) 20 cl2)).setCell ⟨zm, 2, none⟩ (.bool false) := ⟨_, rfl⟩
      have hMA : MBox wA zm (.slice (some ⟨gw2, 0, none⟩) 20 cw2) (.slice (some ⟨gl2, 0, none⟩) 20 cl2) false := by rw [hwA]; exact hM3.set _ _ _
      have hKA : Keeps (fun k => k = zm) w3 wA := by
        rw [hwA]
        exact ((Keeps.setCell w3 (S := (· = zm)) (p := ⟨zm, 0, none⟩) rfl _).trans (Keeps.setCell _ (S := (· = zm)) (p := ⟨zm, 1, none⟩) rfl _)).trans (Keeps.setCell _ (S := (· = zm)) (p := ⟨zm, 2, none⟩) rfl _)
      have hXA : WrBox wA zw ⟨a, f, p, b, w⟩ (.slice q5 k c5) := (hKA.block zw hX3.lt hn2).trans hX3
      obtain ⟨wB, hwB⟩ : ∃ X : World, X = (((((wA.setCell ⟨zw, 0, none⟩ (.int .i64 a2)).setCell ⟨zw, 1, none⟩ (.int .i64 f2)).setCell ⟨zw, 2, none⟩ (.slice p3 k c3)).setCell ⟨zw, 3, none⟩ (.int .i64 p2)).setCell ⟨zw, 4, none⟩ (.int .u64 b2)).setCell ⟨zw, 5, none⟩ (.int .i64 w2) := ⟨_, rfl⟩
      have hXB : WrBox wB zw ⟨a2, f2, p2, b2, w2⟩ (.slice p3 k c3) := by rw [hwB]; exact hXA.put ⟨a2, f2, p2, b2, w2⟩ (.slice p3 k c3)
      have hKB : Keeps (fun k => k = zw) wA wB := by rw [hwB]; exact WrBox.putK wA zw ⟨a2, f2, p2, b2, w2⟩ (.slice p3 k c3)
      have hK2 : Keeps (fun k => k = zm ∨ k = zw) w3 wB := (hKA.sub fun k _ e => .inl e).trans (hKB.sub fun k _ e => .inr e)
      have hrow : ∀ {n : Nat} {v : Value} {xs : List Value}, w3.ownsRow wr.heap.size 27 1 v n xs → wB.ownsRow W.heap.size 27 1 v n xs := fun h => (hK2.row h (fun g hg e => by
        rcases e with e | e
        · exact hM3.row h (by decide) hg e.symm
        · exact hX3.row h (by decide) hg e.symm)).mono HB.out.size
      have hrow2 : ∀ {n : Nat} {v : Value} {xs : List Value}, w3.ownsRow W.heap.size 27 1 v n xs → wB.ownsRow W.heap.size 27 1 v n xs := fun h => hK2.row h (fun g hg e => by
        rcases e with e | e
        · exact hM3.row h (by decide) hg e.symm
        · exact hX3.row h (by decide) hg e.symm)
      have hrowb : ∀ {n : Nat} {v : Value} {xs : List Value}, w3.ownsRow wr.heap.size 4 1 v n xs → wB.ownsRow W.heap.size 4 1 v n xs := fun h => (hK2.row h (fun g hg e => by
        rcases e with e | e
        · exact hM3.row h (by decide) hg e.symm
        · exact hX3.row h (by decide) hg e.symm)).mono HB.out.size
      have HARB := Lib.hid (show AlRows W.heap.size wB gw2 cw2 gl2 cl2 us2 from ⟨hrow hAR2.1, hrowb hAR2.2⟩)
      have HMB := Lib.hid (show MBox wB zm (.slice (some ⟨gw2, 0, none⟩) 20 cw2) (.slice (some ⟨gl2, 0, none⟩) 20 cl2) false from hMA.keeps hKB hn1)
      have HXB := Lib.hid hXB
      have HBB := Lib.hid (show Below W.heap.size W wB from (below_then HB.out HB.out.size hb3).trans (hK2.below (Nat.le_trans HB.out.size hb3.size) (fun k e => by rcases e with rfl | rfl; exact HZM.out; exact HZW.out)))
      have HNX := Lib.hid (show AW xs (i + 1) us2 ⟨a2, f2, p2, b2, w2⟩ ∧ AlAt W.heap.size wB zm zw zr us2 ⟨a2, f2, p2, b2, w2⟩ xs k ⟨19, 1, k, 0, 0, 0⟩ [] 0 q2 c2 ∧ Below W.heap.size W wB from
        ⟨HA2.out, ⟨gw2, cw2, gl2, cl2, p3, c3, q7, c7, HMB.out, hXB, (hK2.block zr hY3.lt (by have := HN.out; omega)).trans hY3, HARB.out, hrow ho3, hrow2 (owns_below HX.out.2.2.2.1 hb3), hrow2 (owns_below HX.out.2.2.2.2 hb3)⟩, HBB.out⟩)
      obtain ⟨⟨m0, m1, m2⟩, m3, m4, m5⟩ := mbox_cells hM3
      obtain ⟨x0, x1, x2, x3, x4, x5⟩ := hX3.cells
      dsimp only at x0 x1 x3 x4 x5
      have v0 := hX3.marks 0
      have v1 := hX3.marks 1
      have v2 := hX3.marks 2
      have v3 := hX3.marks 3
      have v4 := hX3.marks 4
      have v5 := hX3.marks 5
      have HWA := Lib.hid hwA
      have HWB := Lib.hid hwB
      clear hM3 hX3 hY3 hwA hMA hKA hXA hwB hXB hKB hK2 hrow hrow2 hrowb hb3 hAR2 ho3 HX HB HA2
      go_upto_region 15 with fail
      rw [← HWA.out, ← HWB.out]
      clear m0 m1 m2 m3 m4 m5 x0 x1 x2 x3 x4 x5 v0 v1 v2 v3 v4 v5 HWA HWB hn1 hn2
      obtain ⟨⟨m0, m1, m2⟩, -⟩ := mbox_cells HMB.out
      obtain ⟨x0, x1, x2, x3, x4, x5⟩ := HXB.out.cells
      dsimp only at x0 x1 x3 x4 x5
      have hcn := HARB.out.cnt HPC.out.1
      obtain ⟨hp2, hc2⟩ := HPC.out.2
      clear HMB HXB HARB HPC HBB
      have hi0 : (0 : Int) ≤ (i : Int) := by omega
      have hik : (i : Int) ≤ (k : Int) + 2 := by omega
      by_cases h1 : i = k + 2
      · have e1 : p2 = 4 := hp2.2 (by omega)
        have e2 : us2.getD 19 0 = 2 := by rw [hc2, if_neg (by omega), if_neg (by omega)]
        rw [e2] at hcn
        subst e1
        have hq : ((i : Int) == (k : Int) + 2) = true := by rw [h1]; simp
        have hq2 : ¬ ((i : Int) < (k : Int) + 2) := by omega
        have hq3 : (1 : Int) ≤ (i : Int) := by omega
        clear hp2 hc2 e2 h1
        go_wp2
        go_roundw
        case rel => exact ⟨i + 1, _, _, rfl, by omega, by go_num, HNX⟩
        case measure => simp [pIntOf]; omega
      · have e1 : (p2 == 4) = false := by rw [beq_eq_false_iff_ne]; intro e; exact h1 (by have := hp2.1 e; omega)
        have hq : ((i : Int) == (k : Int) + 2) = false := by rw [beq_eq_false_iff_ne]; omega
        have hq2 : (i : Int) < (k : Int) + 2 := by omega
        by_cases h2 : i = 0
        · have e2 : us2.getD 19 0 = 0 ∨ us2.getD 19 0 = 1 := by rw [hc2, h2]; simp
          have e3 : us2.getD 19 0 = 0 := by rw [hc2, h2, if_pos (by omega)]
          rw [e3] at hcn
          have hq3 : ¬ ((1 : Int) ≤ (i : Int)) := by omega
          clear hp2 hc2 e2 e3 h1 h2
          go_wp2
          go_roundw
          case rel => exact ⟨i + 1, _, _, rfl, by omega, by go_num, HNX⟩
          case measure => simp [pIntOf]; omega
        · have e3 : us2.getD 19 0 = 1 := by rw [hc2, if_neg (by omega), if_pos (by omega)]
          rw [e3] at hcn
          have hq3 : (1 : Int) ≤ (i : Int) := by omega
          clear hp2 hc2 e3 h1 h2
          go_wp2
          go_roundw
          case rel => exact ⟨i + 1, _, _, rfl, by omega, by go_num, HNX⟩
          case measure => simp [pIntOf]; omega
    · have hik : i = k + 3 := by omega
      have HE := Lib.hid (show us = memA xs 2 k ∧ s = ⟨19, 1, 4, 0, k⟩ by
        obtain ⟨hA, -, -⟩ := HR.out
        have hl := HL0.out
        have hk9 := HKN.out
        rcases hA with ⟨h, -⟩ | ⟨h, -⟩ | ⟨j, hj, h, -⟩ | ⟨h, -⟩ | ⟨h, h2, h3⟩
        · omega
        · omega
        · omega
        · omega
        · rw [hl] at h2 h3; exact ⟨h2, h3⟩)
      obtain ⟨U, hU⟩ : ∃ U, U = memA xs 2 k := ⟨_, rfl⟩
      have HS1 := Lib.hid (show AR xs 0 ⟨19, 1, k, 0, 0, 0⟩ [] ∧ ([] : List Int).length = 0 ∧ AlAt W.heap.size wr zm zw zr U ⟨19, 1, 4, 0, k⟩ xs k ⟨19, 1, k, 0, 0, 0⟩ [] 0 q2 c2 ∧ Below W.heap.size W wr from by
        obtain ⟨-, hS, hB⟩ := HR.out
        rw [HE.out.1, HE.out.2, ← hU] at hS
        refine ⟨.inl ⟨rfl, by rw [HL0.out], rfl⟩, rfl, hS, hB⟩)
      have HUF := Lib.hid (show U.length = 20 ∧ WRange U ∧ U.getD 19 0 = 2 ∧ stepW (List.replicate 20 true) U false ⟨19, 1, 4, 0, k⟩ xs = ((U, false), ⟨19, 1, 4, 0, k⟩) ∧ rightWB ⟨19, 1, 4, 0, k⟩ k = true ∧ U = memA xs 2 xs.length from by
        obtain ⟨hA, -, -⟩ := HR.out
        obtain ⟨h1, h2, h3, -, -, -⟩ := aw_facts hA HKN.out HXR.out
        rw [HE.out.1, ← hU] at h1 h2
        rw [HE.out.2, HL0.out] at h3
        exact ⟨h1, h2, by rw [hU, memA_19], by unfold stepW; exact if_pos (show (4 : Int) ≤ 4 from Int.le_refl _), h3, by rw [HL0.out]; exact hU⟩)
      clear HE HR hU hik
      go_wp2
      go_loopw [6, 99] (fun ev iv wr => ∃ (i : Nat) (r : RdM) (rs : List Int) (n : Nat), ev = .int .i64 0 ∧ i ≤ k + 2 ∧ iv = .int .i64 (i : Int) ∧ Hid (AR xs i r rs ∧ rs.length = n ∧ AlAt W.heap.size wr zm zw zr U ⟨19, 1, 4, 0, k⟩ xs k r rs n q2 c2 ∧ Below W.heap.size W wr)) (fun _ iv _ => k + 2 - (pIntOf iv).toNat)
      case atStart => exact ⟨0, _, _, _, rfl, Nat.zero_le _, rfl, HS1⟩
      case round =>
        clear HS1
        obtain ⟨i, r, rs, n, rfl, hi, rfl, HR⟩ := hrel
        by_cases hlt : i < k + 2
        · obtain ⟨hA, hn, ⟨gw, cw, gl, cl, q5, c5, q7, c7, hM, hX, hY, hAR, ho5, ho7, ho2⟩, hB⟩ := HR.out
          obtain ⟨hRt, hb0, -, -, -⟩ := ar_facts hA HKN.out
          have hs := ar_step hA HKN.out (by rw [HL0.out]; omega)
          rw [← HUF.out.2.2.2.2.2] at hs
          obtain ⟨⟨⟨us2, u2⟩, r2, rs2⟩, hst⟩ : ∃ x, x = stepR (List.replicate 20 true) U false r rs := ⟨_, rfl⟩
          rw [← hst] at hs
          dsimp only at hs
          obtain ⟨he, hA2⟩ := hs
          injection he with he1 he2
          subst he1 he2
          obtain ⟨hRt2, -, hp2, hv2, -⟩ := ar_facts hA2 HKN.out
          obtain ⟨n2, hn2⟩ : ∃ n2, n2 = rs2.length := ⟨_, rfl⟩
          rw [HL0.out] at hp2 hv2
          rw [hn] at hRt
          have HST := Lib.hid (aread_c hn hn2.symm hst.symm HUF.out.1 HUF.out.2.1 hRt hb0 wr _ gw cw gl cl q7 c7 hAR ho7)
          have HA2 := Lib.hid (And.intro hA2 hn2.symm)
          have HPC := Lib.hid hp2
          obtain ⟨a, f, m, p, b, t⟩ := r
          obtain ⟨a2, f2, m2, p2, b2, t2⟩ := r2
          unfold rdV at HST
          dsimp only at HST HPC
          obtain ⟨⟨m0, m1, m2'⟩, -⟩ := mbox_cells hM
          obtain ⟨x0, x1, x2, x3, x4, x5, x6⟩ := hY.cells
          dsimp only at x0 x1 x2 x3 x4 x6
          have HX := Lib.hid (And.intro hM (And.intro hX (And.intro hY (And.intro ho5 ho2))))
          have HB := Lib.hid hB
          clear hA hM hX hY hAR ho5 ho7 ho2 hB hRt hb0 hst hA2 hn hRt2 hp2 hv2 HR hn2
          go_wp2_with fail
          refine HST.out.mono ?_
          rintro e w3 ⟨⟨gw2, cw2, gl2, cl2, p3, c3, rfl, hAR2, ho3⟩, hb3⟩
          clear m0 m1 m2' x0 x1 x2 x3 x4 x5 x6 HST
          have hM3 := HX.out.1.below hb3
          have hX3 := HX.out.2.1.below hb3
          have hY3 := HX.out.2.2.1.below hb3
          have hn1 : zm ≠ zr := mbox_rdbox hM3 hY3
          have hn2 : zr ≠ zm := fun e => hn1 e.symm
          have HN := Lib.hid (And.intro (show zw ≠ zm from fun e => mbox_wrbox hM3 hX3 e.symm) (show zw ≠ zr from fun e => rdbox_wrbox hY3 hX3 e.symm))
          obtain ⟨wA, hwA⟩ : ∃ X : World, X = ((w3.setCell ⟨zm, 0, none⟩ (.slice (some ⟨gw2, 0, none⟩) 20 cw2)).setCell ⟨zm, 1, none⟩ (.slice (some ⟨gl2, 0, none⟩) 20 cl2)).setCell ⟨zm, 2, none⟩ (.bool false) := ⟨_, rfl⟩
          have hMA : MBox wA zm (.slice (some ⟨gw2, 0, none⟩) 20 cw2) (.slice (some ⟨gl2, 0, none⟩) 20 cl2) false := by rw [hwA]; exact hM3.set _ _ _
          have hKA : Keeps (fun k => k = zm) w3 wA := by
            rw [hwA]
            exact ((Keeps.setCell w3 (S := (· = zm)) (p := ⟨zm, 0, none⟩) rfl _).trans (Keeps.setCell _ (S := (· = zm)) (p := ⟨zm, 1, none⟩) rfl _)).trans (Keeps.setCell _ (S := (· = zm)) (p := ⟨zm, 2, none⟩) rfl _)
          have hYA : RdBox wA zr ⟨a, f, m, p, b, t⟩ (.slice q7 n c7) := (hKA.block zr hY3.lt hn2).trans hY3
          obtain ⟨wB, hwB⟩ : ∃ X : World, X = ((((((wA.setCell ⟨zr, 0, none⟩ (.int .i64 a2)).setCell ⟨zr, 1, none⟩ (.int .i64 f2)).setCell ⟨zr, 2, none⟩ (.int .i64 m2)).setCell ⟨zr, 3, none⟩ (.int .i64 p2)).setCell ⟨zr, 4, none⟩ (.int .u64 b2)).setCell ⟨zr, 5, none⟩ (.slice p3 n2 c3)).setCell ⟨zr, 6, none⟩ (.int .i64 t2) := ⟨_, rfl⟩
          have hYB : RdBox wB zr ⟨a2, f2, m2, p2, b2, t2⟩ (.slice p3 n2 c3) := by rw [hwB]; exact hYA.put ⟨a2, f2, m2, p2, b2, t2⟩ (.slice p3 n2 c3)
          have hKB : Keeps (fun k => k = zr) wA wB := by rw [hwB]; exact RdBox.putK wA zr ⟨a2, f2, m2, p2, b2, t2⟩ (.slice p3 n2 c3)
          have hK2 : Keeps (fun k => k = zm ∨ k = zr) w3 wB := (hKA.sub fun k _ e => .inl e).trans (hKB.sub fun k _ e => .inr e)
          have hrow : ∀ {n : Nat} {v : Value} {xs : List Value}, w3.ownsRow wr.heap.size 27 1 v n xs → wB.ownsRow W.heap.size 27 1 v n xs := fun h => (hK2.row h (fun g hg e => by
            rcases e with e | e
            · exact hM3.row h (by decide) hg e.symm
            · exact hY3.row h (by decide) hg e.symm)).mono HB.out.size
          have hrow2 : ∀ {n : Nat} {v : Value} {xs : List Value}, w3.ownsRow W.heap.size 27 1 v n xs → wB.ownsRow W.heap.size 27 1 v n xs := fun h => hK2.row h (fun g hg e => by
            rcases e with e | e
            · exact hM3.row h (by decide) hg e.symm
            · exact hY3.row h (by decide) hg e.symm)
          have hrowb : ∀ {n : Nat} {v : Value} {xs : List Value}, w3.ownsRow wr.heap.size 4 1 v n xs → wB.ownsRow W.heap.size 4 1 v n xs := fun h => (hK2.row h (fun g hg e => by
            rcases e with e | e
            · exact hM3.row h (by decide) hg e.symm
            · exact hY3.row h (by decide) hg e.symm)).mono HB.out.size
          have HYB := Lib.hid hYB
          have HBB := Lib.hid (show Below W.heap.size W wB from (below_then HB.out HB.out.size hb3).trans (hK2.below (Nat.le_trans HB.out.size hb3.size) (fun k e => by rcases e with rfl | rfl; exact HZM.out; exact HZR.out)))
          have HNX := Lib.hid (show AR xs (i + 1) ⟨a2, f2, m2, p2, b2, t2⟩ rs2 ∧ rs2.length = n2 ∧ AlAt W.heap.size wB zm zw zr us2 ⟨19, 1, 4, 0, k⟩ xs k ⟨a2, f2, m2, p2, b2, t2⟩ rs2 n2 q2 c2 ∧ Below W.heap.size W wB from
            ⟨HA2.out.1, HA2.out.2, ⟨gw2, cw2, gl2, cl2, q5, c5, p3, c3, hMA.keeps hKB hn1, (hK2.block zw hX3.lt (by have := HN.out; omega)).trans hX3, hYB, ⟨hrow hAR2.1, hrowb hAR2.2⟩, hrow2 (owns_below HX.out.2.2.2.1 hb3), hrow ho3, hrow2 (owns_below HX.out.2.2.2.2 hb3)⟩, HBB.out⟩)
          obtain ⟨⟨m0, m1, m2'⟩, m3, m4, m5⟩ := mbox_cells hM3
          obtain ⟨x0, x1, x2, x3, x4, x5, x6⟩ := hY3.cells
          dsimp only at x0 x1 x2 x3 x4 x6
          have v0 := hY3.marks 0
          have v1 := hY3.marks 1
          have v2 := hY3.marks 2
          have v3 := hY3.marks 3
          have v4 := hY3.marks 4
          have v5 := hY3.marks 5
          have v6 := hY3.marks 6
          have HWA := Lib.hid hwA
          have HWB := Lib.hid hwB
          clear hM3 hX3 hY3 hwA hMA hKA hYA hwB hYB hKB hK2 hrow hrow2 hrowb hb3 hAR2 ho3 HX HB HA2
          go_upto_region 22 with fail
          rw [← HWA.out, ← HWB.out]
          clear m0 m1 m2' m3 m4 m5 x0 x1 x2 x3 x4 x5 x6 v0 v1 v2 v3 v4 v5 v6 HWA HWB hn1 hn2
          obtain ⟨x0, x1, x2, x3, x4, x5, x6⟩ := HYB.out.cells
          dsimp only at x0 x1 x2 x3 x4 x6
          have hp2 := HPC.out
          clear HYB HPC HBB
          have hi0 : (0 : Int) ≤ (i : Int) := by omega
          have hik : (i : Int) ≤ (k : Int) + 1 := by omega
          by_cases h1 : i = k + 1
          · have e1 : p2 = 4 := hp2.2 (by omega)
            subst e1
            have hq : ((i : Int) == (k : Int) + 1) = true := by rw [h1]; simp
            clear hp2 h1
            go_wp2
            go_roundw
            case rel =>
              exact ⟨i + 1, _, _, _, rfl, by omega, by go_num, HNX⟩
            case measure => simp [pIntOf]; omega
          · have e1 : (p2 == 4) = false := by rw [beq_eq_false_iff_ne]; intro e; exact h1 (by have := hp2.1 e; omega)
            have hq : ((i : Int) == (k : Int) + 1) = false := by rw [beq_eq_false_iff_ne]; omega
            clear hp2 h1
            go_wp2
            go_roundw
            case rel => exact ⟨i + 1, _, _, _, rfl, by omega, by go_num, HNX⟩
            case measure => simp [pIntOf]; omega
        · have hik2 : i = k + 2 := by omega
          obtain ⟨hA, hn, ⟨gw, cw, gl, cl, q5, c5, q7, c7, hM, hX, hY, hAR, ho5, ho7, ho2⟩, hB⟩ := HR.out
          have HE := Lib.hid (show r = ⟨19, 1, k, 4, 2, 0⟩ ∧ rs = xs ∧ n = k by
            have hl := HL0.out
            have hk9 := HKN.out
            rcases hA with ⟨h, -⟩ | ⟨j, hj, h, -⟩ | ⟨h, -⟩ | ⟨h, h2, h3⟩
            · omega
            · omega
            · omega
            · rw [hl] at h2; exact ⟨h2, h3, by rw [← hn, h3, hl]⟩)
          obtain ⟨hr, hrs, hnk⟩ := HE.out
          subst r
          subst rs
          subst n
          have HST := Lib.hid (awrite_c HL0.out HUF.out.2.2.2.1 HUF.out.1 HUF.out.2.1 HUF.out.2.2.2.2.1 rfl wr _ gw cw gl cl q5 c5 hAR ho5)
          unfold wrV at HST
          dsimp only at HST
          obtain ⟨⟨m0, m1, m2⟩, -⟩ := mbox_cells hM
          obtain ⟨x0, x1, x2, x3, x4, x5⟩ := hX.cells
          dsimp only at x0 x1 x3 x4 x5
          have HX := Lib.hid (And.intro hM (And.intro hX (And.intro hY (And.intro hAR (And.intro ho7 ho2)))))
          have HB := Lib.hid hB
          clear hA hM hX hY hAR ho5 ho7 ho2 hB hn HR HE hik2
          go_wp2_with fail
          refine HST.out.mono ?_
          rintro e w3 ⟨⟨gw2, cw2, gl2, cl2, p3, c3, rfl, hAR2, ho3⟩, hb3⟩
          clear m0 m1 m2 x0 x1 x2 x3 x4 x5 HST
          have hM3 := HX.out.1.below hb3
          have hX3 := HX.out.2.1.below hb3
          have hY3 := HX.out.2.2.1.below hb3
          have hB3 := below_then HB.out HB.out.size hb3
          obtain ⟨z9, hz9⟩ : ∃ z, z = w3.heap.size := ⟨_, rfl⟩
          obtain ⟨wA, hwA⟩ : ∃ X : World, X = w3.alloc (.cells #[.slice (some ⟨gw2, 0, none⟩) 20 cw2, .slice (some ⟨gl2, 0, none⟩) 20 cl2, .bool false] 44) := ⟨_, rfl⟩
          have hbA : Below w3.heap.size w3 wA := by rw [hwA]; exact below1 _ _
          have hM9 : MBox wA z9 (.slice (some ⟨gw2, 0, none⟩) 20 cw2) (.slice (some ⟨gl2, 0, none⟩) 20 cl2) false := by rw [hwA, hz9]; exact MBox.new _ _ _ _
          have hn2 : zw ≠ z9 := by have := hX3.lt; omega
          have hXA := hX3.below hbA
          have hMA := hM3.below hbA
          have hYA := hY3.below hbA
          have hn1 : zw ≠ zm := fun e => mbox_wrbox hMA hXA e.symm
          have hn3 : zw ≠ zr := fun e => rdbox_wrbox hYA hXA e.symm
          obtain ⟨wB, hwB⟩ : ∃ X : World, X = (((((wA.setCell ⟨zw, 0, none⟩ (.int .i64 19)).setCell ⟨zw, 1, none⟩ (.int .i64 1)).setCell ⟨zw, 2, none⟩ (.slice p3 k c3)).setCell ⟨zw, 3, none⟩ (.int .i64 4)).setCell ⟨zw, 4, none⟩ (.int .u64 0)).setCell ⟨zw, 5, none⟩ (.int .i64 (k : Int)) := ⟨_, rfl⟩
          have hXB : WrBox wB zw ⟨19, 1, 4, 0, k⟩ (.slice p3 k c3) := by rw [hwB]; exact hXA.put ⟨19, 1, 4, 0, k⟩ (.slice p3 k c3)
          have hKB : Keeps (fun k => k = zw) wA wB := by rw [hwB]; exact WrBox.putK wA zw ⟨19, 1, 4, 0, k⟩ (.slice p3 k c3)
          have hb3A : Below wr.heap.size wr wA := hb3.trans (hbA.mono hb3.size)
          have hrow : ∀ {B n : Nat} {v : Value} {xs : List Value}, wA.ownsRow B 27 1 v n xs → wB.ownsRow B 27 1 v n xs := fun h => hKB.row h (fun g hg e => hXA.row h (by decide) hg e.symm)
          have HBB := Lib.hid (show Below W.heap.size W wB from (below_then HB.out HB.out.size hb3A).trans (hKB.below (Nat.le_trans HB.out.size hb3A.size) (fun k e => by rw [e]; exact HZW.out)))
          have HF := Lib.hid (show MBox wB z9 (.slice (some ⟨gw2, 0, none⟩) 20 cw2) (.slice (some ⟨gl2, 0, none⟩) 20 cl2) false ∧ MBox wB zm (.slice (some ⟨gw, 0, none⟩) 20 cw) (.slice (some ⟨gl, 0, none⟩) 20 cl) false ∧ WrBox wB zw ⟨19, 1, 4, 0, k⟩ (.slice p3 k c3) ∧ RdBox wB zr ⟨19, 1, k, 4, 2, 0⟩ (.slice q7 k c7) from
            ⟨hM9.keeps hKB (fun e => hn2 e.symm), hMA.keeps hKB (fun e => hn1 e.symm), hXB, (hKB.block zr hYA.lt (fun e => hn3 e.symm)).trans hYA⟩)
          have HO := Lib.hid (And.intro (hrow (owns_below hAR2.1 hbA)) (And.intro (hrow (owns_below HX.out.2.2.2.1.1 hb3A)) (And.intro (hrow (owns_below HX.out.2.2.2.2.1 hb3A)) (hrow (owns_below HX.out.2.2.2.2.2 hb3A)))))
          obtain ⟨x0, x1, x2, x3, x4, x5⟩ := hXA.cells
          dsimp only at x0 x1 x3 x4 x5
          have v0 := hXA.marks 0
          have v1 := hXA.marks 1
          have v2 := hXA.marks 2
          have v3 := hXA.marks 3
          have v4 := hXA.marks 4
          have v5 := hXA.marks 5
          rw [hwA] at x0 x1 x2 x3 x4 x5 v0 v1 v2 v3 v4 v5
          have HWA := Lib.hid hwA
          have HWB := Lib.hid hwB
          have HZ9 := Lib.hid hz9
          clear hM3 hX3 hY3 hB3 hwA hbA hM9 hXA hMA hYA hwB hXB hKB hb3A hrow hAR2 ho3 hb3 HX HB hz9 hn1 hn2 hn3
          go_upto_region 26 with fail
          rw [← HWA.out, ← HWB.out, ← HZ9.out]
          clear x0 x1 x2 x3 x4 x5 v0 v1 v2 v3 v4 v5 HWA HWB HZ9
          obtain ⟨⟨n0, n1, n2⟩, -⟩ := mbox_cells HF.out.1
          obtain ⟨⟨m0, m1, m2⟩, -⟩ := mbox_cells HF.out.2.1
          go_wp2_with fail
          refine (equalW_same _ _ U wB (nums_of_owns HUF.out.1 HO.out.1) (nums_of_owns HUF.out.1 HO.out.2.1) (by rw [HUF.out.1]; decide)).mono ?_
          rintro e w5 ⟨rfl, hb5⟩
          have HF5 := Lib.hid (And.intro (HF.out.2.1.below hb5) (And.intro (HF.out.2.2.1.below hb5) (HF.out.2.2.2.below hb5)))
          have HO5 := Lib.hid (And.intro (owns_below HO.out.2.1 hb5) (And.intro (owns_below HO.out.2.2.1 hb5) (owns_below HO.out.2.2.2 hb5)))
          have HB5 := Lib.hid (below_then HBB.out HBB.out.size hb5)
          clear hb5 n0 n1 n2 m0 m1 m2 HF HO HBB
          obtain ⟨y0, y1, y2, y3, y4, y5, y6⟩ := HF5.out.2.2.cells
          dsimp only at y0 y1 y2 y3 y4 y6
          go_wp2_with fail
          refine (equalW_same _ _ xs w5 (nums_of_owns HL0.out HO5.out.2.1) (nums_of_owns HL0.out HO5.out.2.2) (by rw [HL0.out]; omega)).mono ?_
          rintro e w6 ⟨rfl, hb6⟩
          have hM6 := HF5.out.1.below hb6
          have hX6 := HF5.out.2.1.below hb6
          have hc6 : w6.cell? ⟨gw, 19, none⟩ = some (.int .u64 2) := by
            refine below_cell hb6 ?_
            rw [HO5.out.1.cellAt 19 (by decide), List.getElem?_map]
            have h := HUF.out.2.2.1
            rw [List.getD_eq_getElem?_getD] at h
            rw [List.getElem?_eq_getElem (by have := HUF.out.1; omega)] at h ⊢
            exact congrArg (fun x => some (Value.int .u64 x)) h
          have HB6 := Lib.hid (below_then HB5.out HB5.out.size hb6)
          clear y0 y1 y2 y3 y4 y5 y6 hb6
          obtain ⟨⟨m0, m1, m2⟩, -⟩ := mbox_cells hM6
          obtain ⟨x0, x1, x2, x3, x4, x5⟩ := hX6.cells
          dsimp only at x0 x1 x3 x4 x5
          clear hM6 hX6 HF5 HO5 HB5
          go_wp2
          go_ret
          exact ⟨rfl, HB6.out⟩
theorem alone_law (v : Value) (vs : List Int) (W : World) (hv : ArgR W v (vs.map (Value.int .u64))) (hvl : vs.length ≤ 9223372036854775807) (hwr : WRange vs) :
    Calls Try.prog 9 #[v] W fun e w' => e = .returned (.bool true) ∧ Below W.heap.size W w' := by
  by_cases h : 1 ≤ (vs.take 16).length
  · exact alone_some v vs W hv hvl hwr h
  · exact alone_none v vs W hv hvl hwr (by omega)
end Go.Proofs.Ytaljpggajpoalaa
namespace Go.Proofs.Ytaljpggajpoalaa
open Go.RowKit Go.Shelf
open Go.ChangeShapes Go.WideShapes Go.ChangeAt Go.Deep
open Go.ChangeMaps (open_string shut_string)

set_option maxRecDepth 100000 in
theorem seqAlone_lifted (os : Os) (started : os.Started) (H : Type) (enc : TypeId × Value → H) :
    ReturnsInHanded {} Try.checked os 9 .any (Rows.seqAloneSpec.pre6 enc Try.prog Try.f9 Rows.seqAloneRow.domain false) (Rows.seqAloneSpec.post enc Try.prog Try.f9 false true false false) := by
  refine returnsInHanded_of_change (C := Try.checked) own started (by kernel_rfl) Try.func9
    (ChangeSpec.witness6 (enc := enc) (C := Try.checked) false ⟨#[], #[.slice none 0 0], []⟩ 8 (by kernel_rfl) (by kernel_rfl) (by kernel_rfl) (by kernel_rfl)) ?_
  intro W base args ds gs before hval0 hW hcnd _
  have hval : ∀ (j : Nat) t v, Try.f9.params[j]? = some t → args[j]? = some v → Value.okWide Try.prog W .any base t v := hval0
  have hW' := hW
  obtain ⟨p, q, hA0, hV, rfl, hfz, hnd⟩ := hW
  have hA : DataW.TrodAll enc Try.prog W 0 (fun _ => true) true Try.f9.params.toList args.toList ds p := hA0
  rw [Try.params9] at hA hval
  have hA2 := hA
  obtain ⟨v0, vs0, d0, ds0, pp0, qq0, hargs, rfl, rfl, h0, r0⟩ := trodAll_cons hA
  obtain ⟨rfl, rfl, rfl⟩ := trodAll_nil r0
  obtain rfl : args = #[v0] := by cases args; simp_all
  obtain ⟨rfl, rfl⟩ := trodVars_none hV
  obtain ⟨k0, hf0⟩ := id h0
  obtain ⟨pv0, nv0, cv0, rfl⟩ := okWide_slice Try.underlying24 (hval 0 24 v0 rfl rfl)
  obtain ⟨x0, a0, g0, l0⟩ := words_argr (t := 24) Try.underlying24 Try.underlying27 (by kernel_rfl) hf0
  clear hA0 hval0
  simp only [List.append_nil] at hW'
  refine (alone_law (.slice pv0 nv0 cv0) x0 W a0 l0 g0).mono fun e W' ⟨he, hb⟩ => ?_
  subst he
  exact ⟨_, rfl, _, _, _, [], _, [], hW', trodAll_cons_mk (shut_bool Try.underlying4 _) trodAll_mk0, trodAll_stays laidOut hb (by kernel_rfl) hA2 (fun x hx => by simpa using hW'.lt x (by simpa using hx)), rfl, hb.frame _, fun h => by cases h⟩

theorem seqAlone_holds : Rows.SeqAloneSaid :=
  OpenClaim.holds_of_wide 9 Try.f9 rfl rfl rfl rfl rfl rfl rfl ⟨rfl, rfl, rfl, rfl, rfl⟩ rfl rfl rfl rfl rfl (by kernel_rfl) Try.func9 (by kernel_rfl)
    (of_decide_eq_true (by kernel_rfl)) (by unfold Func.isWrapper; first | (rw [if_pos (by decide +kernel)]; kernel_rfl) | (rw [if_neg (by decide +kernel)]; exact ⟨rfl, rfl⟩))
    (fun os started H enc _ => seqAlone_lifted os started H enc)

end Go.Proofs.Ytaljpggajpoalaa
