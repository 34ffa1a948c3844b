/-
  MemorySteps returns true; what was in memory stays.
  Conditions: the memory, and the row of accesses, are ones that came in.
-/
import Derived.Test.YtgpbhdoidhhhhaaMStepsLib
import Derived.Test.YtgpbhdoidhhhhaaMWakes
import Derived.Test.YtgpbhdoidhhhhaaHeld
namespace Go.Proofs.Ytgpbhdoidhhhhaa
open Go.RowKit Go.Shelf

theorem cell_set3 {w : World} {b z o : Nat} {x0 x1 x2 v : Value} (h : w.cell? ⟨z, o, none⟩ = some v) (hz : z ≠ b) : (((w.setCell ⟨b, 0, none⟩ x0).setCell ⟨b, 1, none⟩ x1).setCell ⟨b, 2, none⟩ x2).cell? ⟨z, o, none⟩ = some v :=
  (((Keeps.setCell w (S := fun q => q = b) (p := ⟨b, 0, none⟩) rfl _).trans (Keeps.setCell _ (S := fun q => q = b) (p := ⟨b, 1, none⟩) rfl _)).trans (Keeps.setCell _ (S := fun q => q = b) (p := ⟨b, 2, none⟩) rfl _)).cell h hz
theorem cell_set2 {w : World} {b z o : Nat} {x0 x1 v : Value} (h : w.cell? ⟨z, o, none⟩ = some v) (hz : z ≠ b) : ((w.setCell ⟨b, 0, none⟩ x0).setCell ⟨b, 1, none⟩ x1).cell? ⟨z, o, none⟩ = some v :=
  ((Keeps.setCell w (S := fun q => q = b) (p := ⟨b, 0, none⟩) rfl _).trans (Keeps.setCell _ (S := fun q => q = b) (p := ⟨b, 1, none⟩) rfl _)).cell h hz

theorem flatG_snoc (gs : List (Int × Bool)) (x : Int × Bool) : flatG (gs ++ [x]) = flatG gs ++ [.int .u64 x.1, .bool x.2] := by
  induction gs with
  | nil => rfl
  | cons y r ih => simp only [List.cons_append, flatG, ih]
theorem RunOk.rows {B : Nat} {ls : List Bool} {s : List Int × Bool × List (Int × Bool)} {us : List Int} {f : Bool} {gots : List (Int × Bool)} {e : Ending} {w' : World} (h : RunOk B ls s e w') (hs : s = (us, f, gots)) :
    ∃ gw cw gl cl q r, e = .returned (.tuple #[.agg #[.slice (some ⟨gw, 0, none⟩) us.length cw, .slice (some ⟨gl, 0, none⟩) ls.length cl, .bool f], .slice q gots.length r, .int .i64 0]) ∧
    w'.ownsRow B 42 1 (.slice (some ⟨gw, 0, none⟩) us.length cw) us.length (us.map (Value.int .u64)) ∧ w'.ownsRow B 4 1 (.slice (some ⟨gl, 0, none⟩) ls.length cl) ls.length (ls.map Value.bool) ∧
    w'.ownsRow B 47 2 (.slice q gots.length r) gots.length (flatG gots) := by
  subst hs
  obtain ⟨gw, cw, gl, cl, vg, rfl, h0, h1, h2⟩ := h
  obtain ⟨q, r, rfl⟩ := owns_slice h2
  exact ⟨_, _, _, _, _, _, rfl, h0, h1, h2⟩
theorem gbox_set {w : World} {z : Nat} {g0 : Int} {d0 : Bool} (h : GBox w z g0 d0) (g : Int) (d : Bool) : GBox ((w.setCell ⟨z, 0, none⟩ (.int .u64 g)).setCell ⟨z, 1, none⟩ (.bool d)) z g d := by
  have h1 := heap_setCell_same w z 0 _ _ (.int .u64 g) h
  have h2 := heap_setCell_same _ z 1 _ _ (.bool d) h1
  exact h2

set_option maxRecDepth 100000 in
set_option maxHeartbeats 8000000 in
theorem steps_c (v0 v1 v : Value) (f : Bool) (ws : List Int) (ls : List Bool) (l : List Acc) (W : World) (h0 : ArgR W v0 (ws.map (Value.int .u64))) (h1 : ArgR W v1 (ls.map Value.bool)) (hw : ws.length ≤ 9223372036854775807) (hl : ls.length ≤ 9223372036854775807)
    (ha : ArgA W v l) (hll : l.length ≤ 9223372036854775807) :
    Calls Try.prog 4 #[.agg #[v0, v1, .bool f], v] W fun e w' => e = .returned (.bool true) ∧ Below W.heap.size W w' := by
  have h0' := h0
  have h1' := h1
  obtain ⟨p0, n0, c0, rfl, -, -⟩ := h0'
  obtain ⟨p1, n1, c1, rfl, -, -⟩ := h1'
  have H0 := Lib.hid h0
  have H1 := Lib.hid h1
  obtain ⟨pa, na, ca, rfl, hna, hnc, hpa⟩ := ha
  have HPA := Lib.hid hpa
  have hna2 : na ≤ 9223372036854775807 := by omega
  have HNA := Lib.hid hna
  obtain ⟨k0, hk0⟩ : ∃ k, k = min na 16 := ⟨_, rfl⟩
  have hs0 : ∀ wx, (Instr.slice 40 (.slice pa na ca) none (some (.int .i64 (k0 : Int))) none).run Try.prog wx = .ok (.slice pa k0 ca) wx := run_cutS 4 Try.underlying40 (fun wx => by go_simp) pa na ca k0 (by omega)
  have hm0 : ∀ wx, (Builtin.min_ #[3, 3] 3 #[.int .i64 (na : Int), .int .i64 16]).run Try.prog wx = .ok (.int .i64 (k0 : Int)) wx := fun wx => by
    have : (if (16 : Int) < (na : Int) then (16 : Int) else na) = (k0 : Int) := by rw [hk0]; split <;> omega
    simp [Builtin.min_, Builtin.min2, this]
  have HK0 := Lib.hid hk0
  have HWL := Lib.hid hw
  have HLL := Lib.hid hl
  clear h0 h1 hpa hna hnc hk0 hw hl hll
  obtain ⟨wo, hwo⟩ : ∃ wo : World, wo = W.alloc (.cells #[.slice p0 n0 c0, .slice p1 n1 c1, .bool f] 25) := ⟨_, rfl⟩
  have hB : Below W.heap.size W wo := by rw [hwo]; exact (Below.refl _ _).alloc (Nat.le_refl _) _
  have HX := Lib.hid (show MBox wo W.heap.size (.slice p0 n0 c0) (.slice p1 n1 c1) f by rw [hwo]; exact MBox.new _ _ _ _)
  have hszo : wo.heap.size = W.heap.size + 1 := by rw [hwo]; simp
  have hszo' : W.heap.size < wo.heap.size := by omega
  clear hszo
  go_enter Try.func4, Try.ntmps4
  go_wp2_with fail
  rw [← hwo]
  clear hwo
  refine (wakes_c _).mono ?_
  rintro e w1 ⟨rfl, hb⟩
  have HX' := Lib.hid ((HX.out.below hb))
  clear HX
  have HX := HX'
  clear HX'
  have hBn := below_then hB hB.size hb
  have hsz1 := hb.size
  clear hb hB
  have hB := hBn
  clear hBn
  obtain ⟨hx0, hx1, hx2⟩ := HX.out.cells
  go_wp2_with fail
  clear hx0 hx1 hx2
  refine (own_c _ _ f ws ls _ (H0.out.below hB) (H1.out.below hB) HWL.out HLL.out).mono ?_
  rintro e w2 ⟨hg, hb⟩
  obtain ⟨q0, d0, q1, d1, rfl, w2p, hw2p, hM, hbp⟩ := own_putP hg hb.size
  have hul : (ws.take 64).length ≤ 64 := by simp; omega
  have hml : (ls.take 64).length ≤ 64 := by simp; omega
  have HM := Lib.hid hM
  have HX' := Lib.hid (((HX.out.below hb).below hbp))
  clear HX
  have HX := HX'
  clear HX'
  have hBn := below_then (below_then hB hB.size hb) (Nat.le_trans hB.size hb.size) hbp
  have hsz2 := Nat.le_trans hb.size hbp.size
  clear hg hM hb hbp hB
  have hB := hBn
  clear hBn
  obtain ⟨us, hus⟩ : ∃ u, u = ws.take 64 := ⟨_, rfl⟩
  obtain ⟨ms, hms⟩ : ∃ u, u = ls.take 64 := ⟨_, rfl⟩
  rw [← hus] at hul HM hw2p ⊢
  rw [← hms] at hml HM hw2p ⊢
  have HUS := Lib.hid hus
  have HMS := Lib.hid hms
  clear hus hms
  obtain ⟨z5, hz5⟩ : ∃ z, z = w2.heap.size := ⟨_, rfl⟩
  unfold putM at hw2p
  go_wp2_with fail
  rw [← hw2p, ← hz5]
  rw [← hz5] at HM
  clear hw2p hz5 hs0 hm0
  have HCL := cloneA_c (W := W) (w := w2p) (c := ca) HNA.out HPA.out hB
  rw [← HK0.out] at HCL
  refine HCL.mono ?_
  rintro e w3 ⟨⟨qa, da, rfl, hacc⟩, hb⟩
  obtain ⟨la, hla⟩ : ∃ x, x = l.take 16 := ⟨_, rfl⟩
  have hlal : la.length ≤ 16 := by rw [hla]; simp; omega
  rw [← hla] at hacc ⊢
  obtain ⟨nl, hnl⟩ : ∃ x, x = la.length := ⟨_, rfl⟩
  rw [← hnl] at hacc hlal ⊢
  have HNL := Lib.hid hnl
  have HACC := Lib.hid hacc
  clear hla hacc HCL hnl
  have HX' := Lib.hid ((HX.out.below hb))
  clear HX
  have HX := HX'
  clear HX'
  have HM' := Lib.hid ((HM.out.below hb))
  clear HM
  have HM := HM'
  clear HM'
  have hBn := below_then hB hB.size hb
  have hsz3 := hb.size
  clear hb hB HNA HPA HK0 hna2
  have hB := hBn
  clear hBn
  obtain ⟨hm0, hm1, hm2⟩ := HM.out.cells
  go_wp2_with fail
  clear hm0 hm1 hm2
  refine (refRight_c _ us ms f w3 HM.out.mem (by omega)).mono ?_
  rintro e w4 ⟨rfl, hb⟩
  have HACC' := Lib.hid (accs_below HACC.out hb)
  clear HACC
  have HACC := HACC'
  clear HACC'
  have HX' := Lib.hid ((HX.out.below hb))
  clear HX
  have HX := HX'
  clear HX'
  have HM' := Lib.hid ((HM.out.below hb))
  clear HM
  have HM := HM'
  clear HM'
  have hBn := below_then hB hB.size hb
  have hsz4 := hb.size
  clear hb hB
  have hB := hBn
  clear hBn
  obtain ⟨hx0, hx1, hx2⟩ := HX.out.cells
  go_wp2_with fail
  clear hx0 hx1 hx2
  refine (own_c _ _ f ws ls _ (H0.out.below hB) (H1.out.below hB) HWL.out HLL.out).mono ?_
  rintro e w5 ⟨hg, hb⟩
  rw [← HUS.out, ← HMS.out] at hg
  obtain ⟨q2, d2, q3, d3, rfl, w5p, hw5p, hM, hbp⟩ := own_putP hg hb.size
  have HAT := Lib.hid hM
  have HACC' := Lib.hid (accs_below (accs_below HACC.out hb) hbp)
  clear HACC
  have HACC := HACC'
  clear HACC'
  have HX' := Lib.hid (((HX.out.below hb).below hbp))
  clear HX
  have HX := HX'
  clear HX'
  have HM' := Lib.hid (((HM.out.below hb).below hbp))
  clear HM
  have HM := HM'
  clear HM'
  have hBn := below_then (below_then hB hB.size hb) (Nat.le_trans hB.size hb.size) hbp
  have hsz5 := Nat.le_trans hb.size hbp.size
  clear hg hM hb hbp hB
  have hB := hBn
  clear hBn
  obtain ⟨z7, hz7⟩ : ∃ z, z = w5.heap.size := ⟨_, rfl⟩
  unfold putM at hw5p
  go_wp2
  rw [← hw5p, ← hz7]
  rw [← hz7] at HAT
  clear hw5p hz7
  obtain ⟨pq, cq, eq0, hcq⟩ := HACC.out
  injection eq0 with eq1 eq3 eq2
  clear eq3
  subst eq1 eq2
  have HAC0 := Lib.hid hcq
  clear hcq HACC
  have HB0 := Lib.hid hB
  clear hB
  cases hr : rightB us ms with
  | false =>
    go_loopw [8, 38] (fun ev iv wr => ∃ i : Nat, i ≤ nl ∧ iv = .int .i64 i ∧ ((i = 0 ∧ ev = .int .i64 0) ∨ (0 < i ∧ ev = .int .i64 120)) ∧ Keeps (fun q => w5p.heap.size ≤ q) w5p wr) (fun _ iv _ => nl - (intOf iv).toNat)
    case atStart => exact ⟨0, Nat.zero_le _, rfl, .inl ⟨rfl, rfl⟩, Keeps.refl _ _⟩
    case round =>
      obtain ⟨i, hi, rfl, hev, hkw⟩ := hrel
      have HKW := Lib.hid hkw
      have hB : Below W.heap.size W wr := HB0.out.trans (hkw.below HB0.out.size (fun q hq => Nat.le_trans HB0.out.size hq))
      have hszr := hkw.size
      have HXr := Lib.hid (HX.out.keeps hkw (fun hq => by have hq : w5p.heap.size ≤ W.heap.size := hq; omega))
      have HMr := Lib.hid (HM.out.keeps hkw (fun q hq => .inr (Nat.le_trans (by omega) hq)))
      have HATr := Lib.hid (HAT.out.keeps hkw (fun q hq => .inr hq))
      clear hkw
      by_cases hlt : i < nl
      · obtain ⟨bg, og, rfl, hcs⟩ := HAC0.out (by intro e; have h9 := HNL.out; rw [e] at h9; simp at h9; omega)
        obtain ⟨k, a, o, nn, hx⟩ : ∃ k a o nn, la[i]'(by have := HNL.out; omega) = ⟨k, a, o, nn⟩ := ⟨_, _, _, _, rfl⟩
        obtain ⟨hg0, hg1, hg2, hg3⟩ := hcs i (by have := HNL.out; omega)
        rw [hx] at hg0 hg1 hg2 hg3
        simp only at hg0 hg1 hg2 hg3
        have hg0 := HKW.out.cell hg0 (by have := World.block_lt_of_cell? _ _ hg0; simpa using this)
        have hg1 := HKW.out.cell hg1 (by have := World.block_lt_of_cell? _ _ hg1; simpa using this)
        have hg2 := HKW.out.cell hg2 (by have := World.block_lt_of_cell? _ _ hg2; simpa using this)
        have hg3 := HKW.out.cell hg3 (by have := World.block_lt_of_cell? _ _ hg3; simpa using this)
        obtain ⟨wA, hwA⟩ : ∃ x : World, x = wr.alloc (.cells #[.int .i64 k, .int .i64 a, .int .u64 o, .int .u64 nn] 44) := ⟨_, rfl⟩
        obtain ⟨zA, hzA⟩ : ∃ x, x = wr.heap.size := ⟨_, rfl⟩
        have hb : Below wr.heap.size wr wA := by rw [hwA]; exact (Below.refl _ _).alloc (Nat.le_refl _) _
        have HAC := Lib.hid (show AcBox wA zA k a o nn by rw [hwA, hzA]; exact World.alloc_heap_new _ _)
        have HMa := Lib.hid (HMr.out.below hb)
        have hszA := hb.size
        have HKA := Lib.hid (HKW.out.trans (Keeps.of_below (S := fun q => w5p.heap.size ≤ q) hb))
        obtain ⟨hm0, hm1, hm2⟩ := HMa.out.cells
        rw [hwA] at hm0 hm1 hm2
        clear hx hcs hb HKW
        go_wp2_with fail
        rw [← hwA, ← hzA]
        clear hwA hm0 hm1 hm2 hg0 hg1 hg2 hg3
        refine (step_no _ k a o nn us ms f wA HMa.out.mem (by omega) 120 (.inl ⟨hr, rfl⟩)).mono ?_
        rintro e w6 ⟨rfl, hb⟩
        unfold memZ
        obtain ⟨w7, hw7⟩ : ∃ x : World, x = (((w6.alloc (.cells #[.slice none 0 0, .slice none 0 0, .bool false] 25)).alloc (.cells #[.int .u64 0, .bool false] 47)).alloc (.cells #[.slice none 0 0, .slice none 0 0, .bool false] 25)).alloc (.cells #[.int .u64 0, .bool false] 47) := ⟨_, rfl⟩
        have hb7 : Below w6.heap.size w6 w7 := by rw [hw7]; exact ((((Below.refl _ _).alloc (Nat.le_refl _) _).alloc (by simp) _).alloc (by simp; omega) _).alloc (by simp; omega) _
        have hbox : MBox w7 w6.heap.size (.slice none 0 0) (.slice none 0 0) false := by rw [hw7]; exact (((MBox.new _ _ _ _).alloc _).alloc _).alloc _
        have HN := Lib.hid (show PVar w7 wA.heap.size w7.heap.size w6.heap.size (.slice none 0 0) (.slice none 0 0) [] [] false from ⟨hbox, World.ownsRow_nil _ _ _ _, World.ownsRow_nil _ _ _ _, hb.size, hbox.lt, fun g hg => by simp [Value.ownBlock] at hg, fun g hg => by simp [Value.ownBlock] at hg⟩)
        have HK7 := Lib.hid ((HKA.out.trans (Keeps.of_below (S := fun q => w5p.heap.size ≤ q) hb)).trans (Keeps.of_below (S := fun q => w5p.heap.size ≤ q) hb7))
        have hsz7 := Nat.le_trans hb.size hb7.size
        clear hb hb7 hbox HKA HMa
        go_wp2_with fail
        rw [← hw7]
        clear hw7
        refine (refSame_t _ _ [] [] false w7 (nil_mem _) (nil_mem _) (by decide) (by decide)).mono ?_
        rintro e w8 ⟨rfl, hb⟩
        have HN' := Lib.hid (HN.out.below hb)
        have HK8 := Lib.hid (HK7.out.trans (Keeps.of_below (S := fun q => w5p.heap.size ≤ q) hb))
        have hsz8 := hb.size
        clear hb HN HK7
        have HN := HN'
        clear HN'
        obtain ⟨hn0, hn1, hn2⟩ := HN.out.cells
        go_wp2_with fail
        clear hn0 hn1 hn2
        refine (own_p HN.out (by decide) (by decide)).mono ?_
        rintro e w9 ⟨hg, hb⟩
        obtain ⟨q4, d4, q5, d5, rfl, w9p, hw9p, hNX, hbp⟩ := own_putP hg hb.size
        have HN' := Lib.hid ((HN.out.below hb).below hbp)
        have HK9 := Lib.hid ((HK8.out.trans (Keeps.of_below (S := fun q => w5p.heap.size ≤ q) hb)).trans (Keeps.of_below (S := fun q => w5p.heap.size ≤ q) hbp))
        have hsz9 := Nat.le_trans hb.size hbp.size
        clear hb hbp HN hg hNX HK8
        have HN := HN'
        clear HN'
        obtain ⟨hn0, hn1, hn2⟩ := HN.out.cells
        unfold putM at hw9p
        simp only [List.length_nil] at hw9p
        rw [hw9p] at hn0 hn1 hn2
        go_wp2_with fail
        rw [← hw9p]
        clear hw9p hn0 hn1 hn2
        refine (spoil_p HN.out (by decide) (by decide)).mono ?_
        rintro e w10 ⟨rfl, hk⟩
        have HKE := Lib.hid (HK9.out.trans (hk.sub (T := fun q => w5p.heap.size ≤ q) (fun q _ hq => by obtain ⟨hq1, hq2⟩ := hq; omega)))
        clear hk HK9 HN
        rcases hev with ⟨rfl, rfl⟩ | ⟨hpos, rfl⟩
        all_goals
          go_wp2
          go_roundw
          case rel => first | exact ⟨1, by omega, by go_num, .inr ⟨by omega, rfl⟩, HKE.out⟩ | exact ⟨i + 1, by omega, by go_num, .inr ⟨by omega, rfl⟩, HKE.out⟩
          case measure => simp [intOf]; omega
      · obtain ⟨hx0, hx1, hx2⟩ := (mbox_cells HXr.out).1
        obtain ⟨⟨ht0, ht1, ht2⟩, hf0, hf1, hf2⟩ := mbox_cells HATr.out.box
        obtain ⟨wE, hwE⟩ : ∃ x : World, x = ((wr.setCell ⟨z7, 0, none⟩ (.slice none 0 0)).setCell ⟨z7, 1, none⟩ (.slice none 0 0)).setCell ⟨z7, 2, none⟩ (.bool false) := ⟨_, rfl⟩
        have hk : Keeps (fun q => q = z7) wr wE := by rw [hwE]; exact ((Keeps.setCell wr (S := fun q => q = z7) (p := ⟨z7, 0, none⟩) rfl _).trans (Keeps.setCell _ (S := fun q => q = z7) (p := ⟨z7, 1, none⟩) rfl _)).trans (Keeps.setCell _ (S := fun q => q = z7) (p := ⟨z7, 2, none⟩) rfl _)
        have hz7 := HATr.out.from'
        have HXE := Lib.hid (HXr.out.keeps hk (fun hq => by have hq : W.heap.size = z7 := hq; omega))
        have HTE := Lib.hid (show MBox wE z7 (.slice none 0 0) (.slice none 0 0) false by rw [hwE]; exact HATr.out.box.set _ _ _)
        have hBE : Below W.heap.size W wE := hB.trans (hk.below hB.size (fun q hq => by have hq : q = z7 := hq; omega))
        have hszE := hk.size
        clear hk HATr HMr HKW hB
        obtain ⟨hx0', hx1', hx2'⟩ := (mbox_cells HXE.out).1
        rw [hwE] at hx0' hx1' hx2'
        rcases hev with ⟨rfl, rfl⟩ | ⟨hpos, rfl⟩
        · obtain rfl : nl = 0 := by omega
          go_wp2_with fail
          rw [← hwE]
          clear hwE hx0 hx1 hx2 hx0' hx1' hx2' ht0 ht1 ht2 hf0 hf1 hf2
          refine (own_c _ _ f ws ls _ (H0.out.below hBE) (H1.out.below hBE) HWL.out HLL.out).mono ?_
          rintro e w11 ⟨hg, hb⟩
          obtain ⟨p6, n6, c6, p7, n7, c7, rfl, hN0, hN1⟩ := hg.reads
          have HTE' := Lib.hid (HTE.out.below hb)
          have hBn := below_then hBE hBE.size hb
          clear hg hb hBE HTE
          go_wp2_with fail
          refine (run_bad _ _ us ms f w11 ⟨_, _, rfl, by rw [HUS.out]; exact hN0, by rw [HMS.out]; exact hN1⟩ (by omega) hr ⟨_, _, _, rfl⟩).mono ?_
          rintro e w12 ⟨rfl, hb⟩
          unfold memZ
          have HTF := Lib.hid (HTE'.out.below hb)
          have hBf := below_then hBn hBn.size hb
          clear hb hBn HTE' hN0 hN1
          obtain ⟨w13, hw13⟩ : ∃ x : World, x = w12.alloc (.cells #[.slice none 0 0, .slice none 0 0, .bool false] 25) := ⟨_, rfl⟩
          have hb : Below w12.heap.size w12 w13 := by rw [hw13]; exact (Below.refl _ _).alloc (Nat.le_refl _) _
          have HNF := Lib.hid (show MBox w13 w12.heap.size (.slice none 0 0) (.slice none 0 0) false by rw [hw13]; exact MBox.new _ _ _ _)
          have HTG := Lib.hid (HTF.out.below hb)
          have hBg := below_then hBf hBf.size hb
          clear hb HTF hBf
          go_wp2_with fail
          rw [← hw13]
          clear hw13
          refine (equalG_same _ _ [] w13 ⟨none, 0, rfl, fun h => absurd rfl h⟩ ⟨none, 0, rfl, fun h => absurd rfl h⟩ (by decide)).mono ?_
          rintro e w14 ⟨rfl, hb⟩
          obtain ⟨ha0, ha1, ha2⟩ := (HNF.out.below hb).cells
          obtain ⟨ht0, ht1, ht2⟩ := (HTG.out.below hb).cells
          have hBh := below_then hBg hBg.size hb
          clear hb hBg HNF HTG
          go_wp2_with fail
          refine (refSame_t _ _ [] [] false w14 (nil_mem _) (nil_mem _) (by decide) (by decide)).mono ?_
          rintro e w15 ⟨rfl, hb⟩
          have hBi := below_then hBh hBh.size hb
          clear hb hBh ha0 ha1 ha2 ht0 ht1 ht2
          go_wp2
          go_ret
          exact ⟨rfl, hBi⟩
        · have hla0 : ((nl : Int) == 0) = false := by simp; omega
          go_wp2_with fail
          rw [← hwE]
          clear hwE hx0 hx1 hx2 hx0' hx1' hx2' ht0 ht1 ht2 hf0 hf1 hf2
          refine (own_c _ _ f ws ls _ (H0.out.below hBE) (H1.out.below hBE) HWL.out HLL.out).mono ?_
          rintro e w11 ⟨hg, hb⟩
          obtain ⟨p6, n6, c6, p7, n7, c7, rfl, hN0, hN1⟩ := hg.reads
          have HTE' := Lib.hid (HTE.out.below hb)
          have hBn := below_then hBE hBE.size hb
          clear hg hb hBE HTE
          go_wp2_with fail
          refine (run_bad _ _ us ms f w11 ⟨_, _, rfl, by rw [HUS.out]; exact hN0, by rw [HMS.out]; exact hN1⟩ (by omega) hr ⟨_, _, _, rfl⟩).mono ?_
          rintro e w12 ⟨rfl, hb⟩
          unfold memZ
          have HTF := Lib.hid (HTE'.out.below hb)
          have hBf := below_then hBn hBn.size hb
          clear hb hBn HTE' hN0 hN1
          obtain ⟨w13, hw13⟩ : ∃ x : World, x = w12.alloc (.cells #[.slice none 0 0, .slice none 0 0, .bool false] 25) := ⟨_, rfl⟩
          have hb : Below w12.heap.size w12 w13 := by rw [hw13]; exact (Below.refl _ _).alloc (Nat.le_refl _) _
          have HNF := Lib.hid (show MBox w13 w12.heap.size (.slice none 0 0) (.slice none 0 0) false by rw [hw13]; exact MBox.new _ _ _ _)
          have HTG := Lib.hid (HTF.out.below hb)
          have hBg := below_then hBf hBf.size hb
          clear hb HTF hBf
          go_wp2_with fail
          rw [← hw13]
          clear hw13
          refine (equalG_same _ _ [] w13 ⟨none, 0, rfl, fun h => absurd rfl h⟩ ⟨none, 0, rfl, fun h => absurd rfl h⟩ (by decide)).mono ?_
          rintro e w14 ⟨rfl, hb⟩
          obtain ⟨ha0, ha1, ha2⟩ := (HNF.out.below hb).cells
          obtain ⟨ht0, ht1, ht2⟩ := (HTG.out.below hb).cells
          have hBh := below_then hBg hBg.size hb
          clear hb hBg HNF HTG
          go_wp2_with fail
          refine (refSame_t _ _ [] [] false w14 (nil_mem _) (nil_mem _) (by decide) (by decide)).mono ?_
          rintro e w15 ⟨rfl, hb⟩
          have hBi := below_then hBh hBh.size hb
          clear hb hBh ha0 ha1 ha2 ht0 ht1 ht2
          go_wp2
          go_ret
          exact ⟨rfl, hBi⟩
  | true =>
    have hz5 := HM.out.from'
    have hz5' := HM.out.to'
    have hz7 := HAT.out.from'
    have hz7' := HAT.out.to'
    have hszW : W.heap.size < w1.heap.size := by omega
    have HUL := Lib.hid hul
    have HRT := Lib.hid hr
    go_loopw [8, 9, 38] (fun ev av iv wr => ∃ (i : Nat) (pm : Option Addr) (cm : Nat) (qm : Option Addr) (dm : Nat) (u : List Int) (f1 : Bool), i ≤ nl ∧ iv = .int .i64 i ∧ PVar wr W.heap.size wr.heap.size z5 (.slice pm u.length cm) (.slice qm ms.length dm) u ms f1 ∧ u.length ≤ 64 ∧ rightB u ms = true ∧ Keeps (fun q => q = z5 ∨ q = z7 ∨ w5p.heap.size ≤ q) w5p wr ∧ ∃ ev0, ev = ev0 ∧ (GoodRel w5p.heap.size W.heap.size z7 ms us f (la.take i) u f1 ev0 av wr ∨ BadRel z7 (la.take i) ev0 wr) ∧ ∃ pv nv cv, av = .slice pv nv cv) (fun _ _ iv _ => nl - (intOf iv).toNat)
    case atStart => exact ⟨0, _, _, _, _, us, f, Nat.zero_le _, rfl, HM.out.wide (by omega) (by omega), HUL.out, hr, Keeps.refl _ _, _, rfl, .inl ⟨rfl, rfl, [], _, _, _, _, rfl, HAT.out.wide (by omega) (Nat.le_refl _), World.ownsRow_nil _ _ _ _⟩, _, _, _, rfl⟩
    case round =>
      obtain ⟨i, pm, cm, qm, dm, u, f1, hi, rfl, hmr, hu64, hru, hkw, ev, rfl, hst, pv, nv, cv, rfl⟩ := hrel
      clear hr
      have HST := Lib.hid hst
      have HKW := Lib.hid hkw
      have HMr := Lib.hid hmr
      have HRU := Lib.hid hru
      have hB : Below W.heap.size W wr := HB0.out.trans (hkw.below HB0.out.size (fun q hq => by rcases hq with rfl | rfl | hq <;> omega))
      have hszr := hkw.size
      have HXr := Lib.hid (HX.out.keeps hkw (fun hq => by rcases hq with hq | hq | hq <;> omega))
      clear hkw hmr hst hru
      by_cases hlt : i < nl
      · obtain ⟨bg, og, rfl, hcs⟩ := HAC0.out (by intro e; have h9 := HNL.out; rw [e] at h9; simp at h9; omega)
        have hlt9 : i < la.length := by have := HNL.out; omega
        obtain ⟨k, a, o, nn, hx⟩ : ∃ k a o nn, la[i] = ⟨k, a, o, nn⟩ := ⟨_, _, _, _, rfl⟩
        have htk : la.take (i + 1) = la.take i ++ [⟨k, a, o, nn⟩] := by rw [List.take_succ_eq_append_getElem hlt9, hx]
        have HTK := Lib.hid htk
        obtain ⟨hg0, hg1, hg2, hg3⟩ := hcs i hlt9
        rw [hx] at hg0 hg1 hg2 hg3
        simp only at hg0 hg1 hg2 hg3
        have hbs : ¬ (bg = z5 ∨ bg = z7 ∨ w5p.heap.size ≤ bg) := by
          have h1 := mbox_ne HM.out.box hg0
          have h2 := mbox_ne HAT.out.box hg0
          have h3 := World.block_lt_of_cell? _ _ hg0
          simp only at h3
          rintro (h | h | h)
          · exact h1 h
          · exact h2 h
          · omega
        have hg0 := HKW.out.cell hg0 hbs
        have hg1 := HKW.out.cell hg1 hbs
        have hg2 := HKW.out.cell hg2 hbs
        have hg3 := HKW.out.cell hg3 hbs
        obtain ⟨wA, hwA⟩ : ∃ x : World, x = wr.alloc (.cells #[.int .i64 k, .int .i64 a, .int .u64 o, .int .u64 nn] 44) := ⟨_, rfl⟩
        obtain ⟨zA, hzA⟩ : ∃ x, x = wr.heap.size := ⟨_, rfl⟩
        have hb : Below wr.heap.size wr wA := by rw [hwA]; exact (Below.refl _ _).alloc (Nat.le_refl _) _
        have HAC := Lib.hid (show AcBox wA zA k a o nn by rw [hwA, hzA]; exact World.alloc_heap_new _ _)
        have HMa := Lib.hid (HMr.out.below hb)
        rw [← hzA] at HMa
        have hszA := hb.size
        have hzAA : zA ≤ wA.heap.size := by omega
        have hzA1 : zA ≤ wr.heap.size := Nat.le_of_eq hzA
        have hzA2 : wr.heap.size ≤ zA := Nat.le_of_eq hzA.symm
        have HKA := Lib.hid (HKW.out.trans (Keeps.of_below (S := fun q => q = z5 ∨ q = z7 ∨ w5p.heap.size ≤ q) hb))
        have HBA := Lib.hid hb
        obtain ⟨hm0, hm1, hm2⟩ := HMa.out.cells
        rw [hwA] at hm0 hm1 hm2
        clear hx hcs hb HKW hbs htk HMr
        go_wp2_with fail
        rw [← hwA, ← hzA]
        clear hwA hzA hm0 hm1 hm2 hg0 hg1 hg2 hg3
        cases hkd : kindB k with
        | false =>
          have HEV := Lib.hid (show (u8 = .int .i64 0 ∨ u8 = .int .i64 121) ∧ ∃ pt nt ct qt mt dt ft, MBox wA z7 (.slice pt nt ct) (.slice qt mt dt) ft from by
            rcases HST.out with ⟨_, he, _, _, _, _, _, _, hp, _⟩ | ⟨_, he, _, _, _, _, _, _, _, hm⟩
            · exact ⟨.inl he, _, _, _, _, _, _, _, (hp.below HBA.out).box⟩
            · exact ⟨.inr he, _, _, _, _, _, _, _, hm.below HBA.out⟩)
          obtain ⟨hev, pt, nt, ct, qt, mt, dt, ft, hbt⟩ := HEV.out
          have HBT := Lib.hid hbt
          have HKF := Lib.hid (show kindAll (la.take (i + 1)) = false by rw [HTK.out, kindAll_snoc, hkd, Bool.and_false])
          clear HEV hbt HST
          refine (step_no _ k a o nn u ms f1 wA HMa.out.mem (by omega) 121 (.inr ⟨HRU.out, hkd, rfl⟩)).mono ?_
          rintro e w6 ⟨rfl, hb⟩
          unfold memZ
          obtain ⟨w7, hw7⟩ : ∃ x : World, x = (((w6.alloc (.cells #[.slice none 0 0, .slice none 0 0, .bool false] 25)).alloc (.cells #[.int .u64 0, .bool false] 47)).alloc (.cells #[.slice none 0 0, .slice none 0 0, .bool false] 25)).alloc (.cells #[.int .u64 0, .bool false] 47) := ⟨_, rfl⟩
          have hb7 : Below w6.heap.size w6 w7 := by rw [hw7]; exact ((((Below.refl _ _).alloc (Nat.le_refl _) _).alloc (by simp) _).alloc (by simp; omega) _).alloc (by simp; omega) _
          have hbox : MBox w7 w6.heap.size (.slice none 0 0) (.slice none 0 0) false := by rw [hw7]; exact (((MBox.new _ _ _ _).alloc _).alloc _).alloc _
          have HG := Lib.hid (show GBox w7 (w6.heap.size + 1) 0 false by
            have : GBox ((w6.alloc (.cells #[.slice none 0 0, .slice none 0 0, .bool false] 25)).alloc (.cells #[.int .u64 0, .bool false] 47)) _ 0 false := World.alloc_heap_new _ _
            rw [World.size_alloc] at this
            rw [hw7]; exact (this.alloc _).alloc _)
          have HWT := Lib.hid (show MBox w7 (w6.heap.size + 1 + 1) (.slice none 0 0) (.slice none 0 0) false by
            have := MBox.new ((w6.alloc (.cells #[.slice none 0 0, .slice none 0 0, .bool false] 25)).alloc (.cells #[.int .u64 0, .bool false] 47)) (.slice none 0 0) (.slice none 0 0) false
            rw [World.size_alloc, World.size_alloc] at this
            rw [hw7]; exact this.alloc _)
          have HGT := Lib.hid (show GBox w7 (w6.heap.size + 1 + 1 + 1) 0 false by
            have : GBox ((((w6.alloc (.cells #[.slice none 0 0, .slice none 0 0, .bool false] 25)).alloc (.cells #[.int .u64 0, .bool false] 47)).alloc (.cells #[.slice none 0 0, .slice none 0 0, .bool false] 25)).alloc (.cells #[.int .u64 0, .bool false] 47)) _ 0 false := World.alloc_heap_new _ _
            rw [World.size_alloc, World.size_alloc, World.size_alloc] at this
            rw [hw7]; exact this)
          have HN := Lib.hid (show PVar w7 wA.heap.size w7.heap.size w6.heap.size (.slice none 0 0) (.slice none 0 0) [] [] false from ⟨hbox, World.ownsRow_nil _ _ _ _, World.ownsRow_nil _ _ _ _, hb.size, hbox.lt, fun g hg => by simp [Value.ownBlock] at hg, fun g hg => by simp [Value.ownBlock] at hg⟩)
          have HK7 := Lib.hid ((HKA.out.trans (Keeps.of_below (S := fun q => q = z5 ∨ q = z7 ∨ w5p.heap.size ≤ q) hb)).trans (Keeps.of_below (S := fun q => q = z5 ∨ q = z7 ∨ w5p.heap.size ≤ q) hb7))
          have hsz7 := Nat.le_trans hb.size hb7.size
          have HAC7 := Lib.hid ((HAC.out.below hb).below hb7)
          have HM7 := Lib.hid ((HMa.out.below hb).below hb7)
          have HBT7 := Lib.hid ((HBT.out.below hb).below hb7)
          obtain ⟨hc0, hc1, hc2, hc3⟩ := HAC7.out.cells
          rw [hw7] at hc0 hc1 hc2 hc3
          clear hb hb7 hbox HKA HMa HAC HBT HBA
          go_wp2_with fail
          rw [← hw7]
          clear hw7 hc0 hc1 hc2 hc3
          have HCK := refKind_c k a o nn w7
          rw [hkd] at HCK
          refine HCK.mono ?_
          rintro e w8 ⟨rfl, hb⟩
          have HK8 := Lib.hid (HK7.out.trans (Keeps.of_below (S := fun q => q = z5 ∨ q = z7 ∨ w5p.heap.size ≤ q) hb))
          have hsz8 := hb.size
          have HN' := Lib.hid ((HN.out.below hb))
          clear HN
          have HN := HN'
          clear HN'
          have HG' := Lib.hid ((HG.out.below hb))
          clear HG
          have HG := HG'
          clear HG'
          have HWT' := Lib.hid ((HWT.out.below hb))
          clear HWT
          have HWT := HWT'
          clear HWT'
          have HGT' := Lib.hid ((HGT.out.below hb))
          clear HGT
          have HGT := HGT'
          clear HGT'
          have HM8 := Lib.hid (HM7.out.below hb)
          have HBT8 := Lib.hid (HBT7.out.below hb)
          clear hb HCK HK7 HM7 HBT7 HAC7
          obtain ⟨hn0, hn1, hn2⟩ := HN.out.cells
          obtain ⟨hq0, hq1⟩ := HG.out.cells
          obtain ⟨hw0, hw1, hw2⟩ := HWT.out.cells
          obtain ⟨hg0, hg1⟩ := HGT.out.cells
          go_wp2_with fail
          clear hn0 hn1 hn2 hq0 hq1 hw0 hw1 hw2 hg0 hg1
          refine (refSame_t _ _ [] [] false w8 (nil_mem _) (nil_mem _) (by decide) (by decide)).mono ?_
          rintro e w9 ⟨rfl, hb⟩
          have HN' := Lib.hid (HN.out.below hb)
          have HK9 := Lib.hid (HK8.out.trans (Keeps.of_below (S := fun q => q = z5 ∨ q = z7 ∨ w5p.heap.size ≤ q) hb))
          have HM9 := Lib.hid (HM8.out.below hb)
          have HBT9 := Lib.hid (HBT8.out.below hb)
          have hsz9 := hb.size
          clear hb HN HK8 HM8 HBT8 HG HWT HGT
          have HN := HN'
          clear HN'
          obtain ⟨hn0, hn1, hn2⟩ := HN.out.cells
          go_wp2_with fail
          clear hn0 hn1 hn2
          refine (own_p HN.out (by decide) (by decide)).mono ?_
          rintro e w10 ⟨hg, hb⟩
          obtain ⟨q4, d4, q5, d5, rfl, w10p, hw10p, hNX, hbp⟩ := own_putP hg hb.size
          have HN' := Lib.hid ((HN.out.below hb).below hbp)
          have HK10 := Lib.hid ((HK9.out.trans (Keeps.of_below (S := fun q => q = z5 ∨ q = z7 ∨ w5p.heap.size ≤ q) hb)).trans (Keeps.of_below (S := fun q => q = z5 ∨ q = z7 ∨ w5p.heap.size ≤ q) hbp))
          have HM10 := Lib.hid ((HM9.out.below hb).below hbp)
          have HBT10 := Lib.hid ((HBT9.out.below hb).below hbp)
          have hsz10 := Nat.le_trans hb.size hbp.size
          clear hb hbp HN hg hNX HK9 HM9 HBT9
          have HN := HN'
          clear HN'
          obtain ⟨hn0, hn1, hn2⟩ := HN.out.cells
          unfold putM at hw10p
          simp only [List.length_nil] at hw10p
          rw [hw10p] at hn0 hn1 hn2
          go_wp2_with fail
          rw [← hw10p]
          clear hw10p hn0 hn1 hn2
          refine (spoil_p HN.out (by decide) (by decide)).mono ?_
          rintro e w11 ⟨rfl, hk⟩
          have HKE := Lib.hid (HK10.out.trans (hk.sub (T := fun q => q = z5 ∨ q = z7 ∨ w5p.heap.size ≤ q) (fun q _ hq => by obtain ⟨hq1, hq2⟩ := hq; exact .inr (.inr (by omega)))))
          have hsz11 := hk.size
          have HME := Lib.hid ((HM10.out.keeps hk (fun q hq => by obtain ⟨hq1, hq2⟩ := hq; exact .inr (by omega))).wide (Nat.le_refl _) (show zA ≤ w11.heap.size by omega))
          have HBE := Lib.hid (show BadRel z7 (la.take (i + 1)) (.int .i64 121) w11 from ⟨HKF.out, rfl, _, _, _, _, _, _, _, HBT10.out.keeps hk (fun hq => by obtain ⟨hq1, hq2⟩ := hq; omega)⟩)
          clear hk HK10 HN HM10 HBT10
          rcases hev with rfl | rfl
          all_goals
            go_wp2
            go_roundw
            case rel => exact ⟨i + 1, _, _, _, _, u, f1, by omega, by go_num, HME.out, hu64, HRU.out, HKE.out, _, rfl, .inr HBE.out, _, _, _, rfl⟩
            case measure => simp [intOf]; omega
        | true =>
          obtain ⟨u2, f2, g, d, hr2⟩ : ∃ u2 f2 g d, accM u ms f1 k a o nn = (u2, f2, g, d) := ⟨_, _, _, _, rfl⟩
          have hu2 : u2.length = u.length := by have := accM_length u ms f1 k a o nn; rw [hr2] at this; exact this
          have hu264 : u2.length ≤ 64 := by omega
          have HR2 := Lib.hid (show rightB u2 ms = true by have := accM_right HRU.out f1 k a o nn; rw [hr2] at this; exact this)
          have HAM := Lib.hid hr2
          obtain ⟨hk1, hk3⟩ := kindB_iff.1 hkd
          clear hr2 hu2
          refine (step_yes _ k a o nn u ms f1 wA HMa.out.mem HRU.out hkd).mono ?_
          rintro e w6 ⟨hs, hb⟩
          obtain ⟨p8, c8, q8, d8, rfl, ho0, ho1⟩ := hs.rows HAM.out
          obtain ⟨w7, hw7⟩ : ∃ x : World, x = (((w6.alloc (.cells #[.slice p8 u2.length c8, .slice q8 ms.length d8, .bool f2] 25)).alloc (.cells #[.int .u64 g, .bool d] 47)).alloc (.cells #[.slice none 0 0, .slice none 0 0, .bool false] 25)).alloc (.cells #[.int .u64 0, .bool false] 47) := ⟨_, rfl⟩
          have hb7 : Below w6.heap.size w6 w7 := by rw [hw7]; exact ((((Below.refl _ _).alloc (Nat.le_refl _) _).alloc (by simp) _).alloc (by simp; omega) _).alloc (by simp; omega) _
          have hbox : MBox w7 w6.heap.size (.slice p8 u2.length c8) (.slice q8 ms.length d8) f2 := by rw [hw7]; exact (((MBox.new _ _ _ _).alloc _).alloc _).alloc _
          have HG := Lib.hid (show GBox w7 (w6.heap.size + 1) g d by
            have : GBox ((w6.alloc (.cells #[.slice p8 u2.length c8, .slice q8 ms.length d8, .bool f2] 25)).alloc (.cells #[.int .u64 g, .bool d] 47)) _ g d := World.alloc_heap_new _ _
            rw [World.size_alloc] at this
            rw [hw7]; exact (this.alloc _).alloc _)
          have HWT := Lib.hid (show MBox w7 (w6.heap.size + 1 + 1) (.slice none 0 0) (.slice none 0 0) false by
            have := MBox.new ((w6.alloc (.cells #[.slice p8 u2.length c8, .slice q8 ms.length d8, .bool f2] 25)).alloc (.cells #[.int .u64 g, .bool d] 47)) (.slice none 0 0) (.slice none 0 0) false
            rw [World.size_alloc, World.size_alloc] at this
            rw [hw7]; exact this.alloc _)
          have HGT := Lib.hid (show GBox w7 (w6.heap.size + 1 + 1 + 1) 0 false by
            have : GBox ((((w6.alloc (.cells #[.slice p8 u2.length c8, .slice q8 ms.length d8, .bool f2] 25)).alloc (.cells #[.int .u64 g, .bool d] 47)).alloc (.cells #[.slice none 0 0, .slice none 0 0, .bool false] 25)).alloc (.cells #[.int .u64 0, .bool false] 47)) _ 0 false := World.alloc_heap_new _ _
            rw [World.size_alloc, World.size_alloc, World.size_alloc] at this
            rw [hw7]; exact this)
          have hwl := owns_lt ho0
          have hll := owns_lt ho1
          have HN := Lib.hid (show PVar w7 wA.heap.size (w6.heap.size + 1) w6.heap.size (.slice p8 u2.length c8) (.slice q8 ms.length d8) u2 ms f2 from ⟨hbox, owns_below ho0 hb7, owns_below ho1 hb7, hb.size, Nat.lt_succ_self _, fun g hg => Nat.lt_succ_of_lt (hwl g hg), fun g hg => Nat.lt_succ_of_lt (hll g hg)⟩)
          have hwlt := hbox.lt
          have hsz6 := hb.size
          have hzAl := HAC.out.lt
          have hgtlt := HGT.out.lt
          have HK7 := Lib.hid ((HKA.out.trans (Keeps.of_below (S := fun q => q = z5 ∨ q = z7 ∨ w5p.heap.size ≤ q) hb)).trans (Keeps.of_below (S := fun q => q = z5 ∨ q = z7 ∨ w5p.heap.size ≤ q) hb7))
          have hsz7 := Nat.le_trans hb.size hb7.size
          have HB7 := Lib.hid (show Below wr.heap.size wr w7 from below_then (below_then HBA.out HBA.out.size hb) (Nat.le_trans HBA.out.size hb.size) hb7)
          have HAC7 := Lib.hid ((HAC.out.below hb).below hb7)
          have HM7 := Lib.hid ((HMa.out.below hb).below hb7)
          obtain ⟨hc0, hc1, hc2, hc3⟩ := HAC7.out.cells
          rw [hw7] at hc0 hc1 hc2 hc3
          clear hb hb7 hbox HKA HMa HAC HBA hs ho0 ho1 hwl hll
          go_wp2_with fail
          rw [← hw7]
          clear hw7 hc0 hc1 hc2 hc3
          obtain ⟨zg, hzg⟩ : ∃ z, z = w6.heap.size + 1 + 1 + 1 := ⟨_, rfl⟩
          obtain ⟨zw, hzw⟩ : ∃ z, z = w6.heap.size + 1 + 1 := ⟨_, rfl⟩
          rw [← hzg, ← hzw]
          rw [← hzg] at HGT
          rw [← hzw] at HWT
          have HCK := refKind_c k a o nn w7
          rw [hkd] at HCK
          refine HCK.mono ?_
          rintro e w8 ⟨rfl, hb⟩
          have HK8 := Lib.hid (HK7.out.trans (Keeps.of_below (S := fun q => q = z5 ∨ q = z7 ∨ w5p.heap.size ≤ q) hb))
          have hsz8 := hb.size
          have HB8 := Lib.hid (below_then HB7.out HB7.out.size hb)
          have HN' := Lib.hid ((HN.out.below hb))
          clear HN
          have HN := HN'
          clear HN'
          have HG' := Lib.hid ((HG.out.below hb))
          clear HG
          have HG := HG'
          clear HG'
          have HWT' := Lib.hid ((HWT.out.below hb))
          clear HWT
          have HWT := HWT'
          clear HWT'
          have HGT' := Lib.hid ((HGT.out.below hb))
          clear HGT
          have HGT := HGT'
          clear HGT'
          have HM8 := Lib.hid (HM7.out.below hb)
          have HAC8 := Lib.hid (HAC7.out.below hb)
          clear hb HCK HK7 HM7 HAC7 HB7
          have HMd := Lib.hid HM8.out.drew
          have HRSD : Hid (∀ (w : World) (B : Nat) (x y : Value), w.ownsRow B 42 1 x u.length (u.map (Value.int .u64)) → w.ownsRow B 4 1 y ms.length (ms.map Value.bool) → B ≤ w.heap.size → Calls Try.prog 22 #[.agg #[x, y, .bool f1], .agg #[.int .i64 k, .int .i64 a, .int .u64 o, .int .u64 nn]] w fun e w' => RefStep B ms (u2, f2, g, d) e w' ∧ Below w.heap.size w w') := Lib.hid (fun w B x y h0 h1 hB => by have := refStep_c B x y u ms f1 k a o nn w h0 h1 hB hk1 hk3 HRU.out; rw [HAM.out] at this; exact this)
          go_wp2_with fail
          have hsz56 : w2p.heap.size ≤ w6.heap.size := by omega
          have hzb0 : z5 ≠ zw := by omega
          have hzb1 : z5 ≠ zg := by omega
          have hzb2 : zA ≠ zw := by omega
          have hzb3 : zA ≠ zg := by omega
          have hzne : zg ≠ zw := by omega
          have HZG := Lib.hid hzg
          have HZW := Lib.hid hzw
          have hzgX : zg < w8.heap.size := by omega
          have hzwX : zw < w8.heap.size := by omega
          clear hzg hzw
          simp only [← HZW.out]
          simp only [show zw + 1 = zg by rw [HZW.out, HZG.out]]
          have HTX := Lib.hid (show MBox w8.drew z5 (.slice pm u.length cm) (.slice qm ms.length dm) f1 ∧ AcBox w8.drew zA k a o nn from ⟨HMd.out.box, HAC8.out.keeps (S := fun _ => False) ⟨rfl, rfl, rfl, Nat.le_refl _, fun _ _ _ => rfl⟩ (fun h => h)⟩)
          have hbX0 : Below w8.heap.size w8 w8.drew := (Below.refl _ _).drew
          refine wpTwo_begin (T := fun w' => MBox w' z5 (.slice pm u.length cm) (.slice qm ms.length dm) f1 ∧ AcBox w' zA k a o nn) (S := fun _ => True) (late := fun _ => false) (by kernel_rfl) ?_
          obtain ⟨X0, hX0⟩ : ∃ X : World, X = w8.drew := ⟨_, rfl⟩
          have hX0s : X0.heap.size = w8.heap.size := by rw [hX0]; rfl
          rw [← hX0] at HTX hbX0 HMd ⊢
          clear hX0
          refine wpTwo_takeT (i := 0) (v := .agg #[.slice pm u.length cm, .slice qm ms.length dm, .bool f1]) rfl (by kernel_rfl) (by kernel_rfl) (by kernel_rfl) (fun _ _ _ h => h) ⟨by rfl, ?_⟩ HTX.out ?_
          · intro w hTw
            obtain ⟨hl0, hl1, hl2⟩ := hTw.1.cells
            clear hTw
            go_simp
          (try simp only [Act.put, List.getElem_toArray, List.getElem_cons_zero, List.setIfInBounds_toArray, List.set_cons_succ, List.set_cons_zero])
          refine wpTwo_takeT (i := 2) (v := .agg #[.int .i64 k, .int .i64 a, .int .u64 o, .int .u64 nn]) rfl (by kernel_rfl) (by kernel_rfl) (by kernel_rfl) (fun _ _ _ h => h) ⟨by rfl, ?_⟩ HTX.out ?_
          · intro w hTw
            obtain ⟨hl0, hl1, hl2, hl3⟩ := hTw.2.cells
            clear hTw
            go_simp
          (try simp only [Act.put, List.getElem_toArray, List.getElem_cons_succ, List.getElem_cons_zero, List.setIfInBounds_toArray, List.set_cons_succ, List.set_cons_zero])
          refine wpTwo_ready (rs := [1]) (by kernel_rfl) (by simp) ?_
          refine (AllTwo.cons rfl (fun K hK => ?_) AllTwo.nil)
          go_simp
          refine (own_p HMd.out (by omega) (by omega)).mono ?_
          rintro e w9 ⟨⟨_, rfl, xo, yo, rfl, ho0, ho1⟩, hb3⟩
          have HT9 := Lib.hid (show MBox w9 z5 (.slice pm u.length cm) (.slice qm ms.length dm) f1 ∧ AcBox w9 zA k a o nn from ⟨HTX.out.1.below hb3, HTX.out.2.below hb3⟩)
          go_wp2_with fail
          refine hK.out _ _ ⟨HT9.out, fun _ _ => trivial⟩ ?_
          clear hK K HTX HMd
          (try simp only [Act.put, List.getElem_toArray, List.getElem_cons_succ, List.getElem_cons_zero, List.setIfInBounds_toArray, List.set_cons_succ, List.set_cons_zero])
          refine wpTwo_ready (rs := [3]) (by kernel_rfl) (by simp) ?_
          refine (AllTwo.cons rfl (fun K hK => ?_) AllTwo.nil)
          go_simp
          refine (HRSD.out _ _ xo yo ho0 ho1 hb3.size).mono ?_
          rintro e w10 ⟨hrs, hb4⟩
          obtain ⟨p9, c9, q9, d9, rfl, hs0, hs1⟩ := hrs.rows
          have HT10 := Lib.hid (show MBox w10 z5 (.slice pm u.length cm) (.slice qm ms.length dm) f1 ∧ AcBox w10 zA k a o nn from ⟨HT9.out.1.below hb4, HT9.out.2.below hb4⟩)
          go_wp2_with fail
          refine hK.out _ _ ⟨HT10.out, fun _ _ => trivial⟩ ?_
          clear hK K HT9 hrs
          (try simp only [Act.put, List.getElem_toArray, List.getElem_cons_succ, List.getElem_cons_zero, List.setIfInBounds_toArray, List.set_cons_succ, List.set_cons_zero])
          refine wpTwo_takeT (i := 4) (v := .tuple #[.agg #[.slice p9 u2.length c9, .slice q9 ms.length d9, .bool f2], .agg #[.int .u64 g, .bool d]]) rfl (by kernel_rfl) (by kernel_rfl) (by kernel_rfl) (fun _ _ _ h => h) ⟨by rfl, ?_⟩ HT10.out ?_
          · intro w _
            go_simp
          (try simp only [Act.put, List.getElem_toArray, List.getElem_cons_succ, List.getElem_cons_zero, List.setIfInBounds_toArray, List.set_cons_succ, List.set_cons_zero])
          refine wpTwo_takeT (i := 5) (v := .agg #[.slice p9 u2.length c9, .slice q9 ms.length d9, .bool f2]) rfl (by kernel_rfl) (by kernel_rfl) (by kernel_rfl) (fun _ _ _ h => h) ⟨by rfl, ?_⟩ HT10.out ?_
          · intro w _
            go_simp
          (try simp only [Act.put, List.getElem_toArray, List.getElem_cons_succ, List.getElem_cons_zero, List.setIfInBounds_toArray, List.set_cons_succ, List.set_cons_zero])
          refine wpTwo_takeT (i := 6) (v := .agg #[.int .u64 g, .bool d]) rfl (by kernel_rfl) (by kernel_rfl) (by kernel_rfl) (fun _ _ _ h => h) ⟨by rfl, ?_⟩ HT10.out ?_
          · intro w _
            go_simp
          (try simp only [Act.put, List.getElem_toArray, List.getElem_cons_succ, List.getElem_cons_zero, List.setIfInBounds_toArray, List.set_cons_succ, List.set_cons_zero])
          have hb10 : Below w8.heap.size w8 w10 := below_then (below_then hbX0 hbX0.size hb3) (Nat.le_trans hbX0.size hb3.size) hb4
          have HWTe := Lib.hid (HWT.out.below hb10)
          have HGTe := Lib.hid (HGT.out.below hb10)
          have HB10 := Lib.hid hb10
          have hsz10 := hb10.size
          have HS0 := Lib.hid hs0
          have HS1 := Lib.hid hs1
          clear hbX0 hb3 hb4 hb10 ho0 ho1 hs0 hs1 HWT HGT HRSD
          have hk7 : ∀ X : World, Keeps (fun q => q = zw ∨ q = zg) X (((X.setCell ⟨zw, 0, none⟩ (.slice p9 u2.length c9)).setCell ⟨zw, 1, none⟩ (.slice q9 ms.length d9)).setCell ⟨zw, 2, none⟩ (.bool f2)) := fun X => ((Keeps.setCell X (S := fun q => q = zw ∨ q = zg) (p := ⟨zw, 0, none⟩) (.inl rfl) _).trans (Keeps.setCell _ (S := fun q => q = zw ∨ q = zg) (p := ⟨zw, 1, none⟩) (.inl rfl) _)).trans (Keeps.setCell _ (S := fun q => q = zw ∨ q = zg) (p := ⟨zw, 2, none⟩) (.inl rfl) _)
          have hk8 : ∀ X : World, Keeps (fun q => q = zw ∨ q = zg) X ((X.setCell ⟨zg, 0, none⟩ (.int .u64 g)).setCell ⟨zg, 1, none⟩ (.bool d)) := fun X => (Keeps.setCell X (S := fun q => q = zw ∨ q = zg) (p := ⟨zg, 0, none⟩) (.inr rfl) _).trans (Keeps.setCell _ (S := fun q => q = zw ∨ q = zg) (p := ⟨zg, 1, none⟩) (.inr rfl) _)
          have hT5 : ¬ (z5 = zw ∨ z5 = zg) := by omega
          have hTA : ¬ (zA = zw ∨ zA = zg) := by omega
          have HK7 := Lib.hid hk7
          have HK8' := Lib.hid hk8
          clear hk7 hk8
          refine wpTwo_ready (rs := [7]) (by kernel_rfl) (by simp) ?_
          refine (AllTwo.cons rfl (fun K hK => ?_) AllTwo.nil)
          obtain ⟨⟨hw0, hw1, hw2⟩, hwf0, hwf1, hwf2⟩ := mbox_cells HWTe.out
          obtain ⟨Xa, hXa⟩ : ∃ Y : World, Y = ((w10.setCell ⟨zw, 0, none⟩ (.slice p9 u2.length c9)).setCell ⟨zw, 1, none⟩ (.slice q9 ms.length d9)).setCell ⟨zw, 2, none⟩ (.bool f2) := ⟨_, rfl⟩
          have hkXa : Keeps (fun q => q = zw ∨ q = zg) w10 Xa := by rw [hXa]; exact HK7.out w10
          have HWXa := Lib.hid (show MBox Xa zw (.slice p9 u2.length c9) (.slice q9 ms.length d9) f2 by rw [hXa]; exact HWTe.out.set _ _ _)
          have HGXa := Lib.hid (show GBox Xa zg _ _ by rw [hXa]; exact HGTe.out.keeps (((Keeps.setCell w10 (S := fun q => q = zw) (p := ⟨zw, 0, none⟩) rfl _).trans (Keeps.setCell _ (S := fun q => q = zw) (p := ⟨zw, 1, none⟩) rfl _)).trans (Keeps.setCell _ (S := fun q => q = zw) (p := ⟨zw, 2, none⟩) rfl _)) hzne)
          have HTXa := Lib.hid (show MBox Xa z5 (.slice pm u.length cm) (.slice qm ms.length dm) f1 ∧ AcBox Xa zA k a o nn from ⟨HT10.out.1.keeps hkXa hT5, HT10.out.2.keeps hkXa hTA⟩)
          go_simp
          rw [← hXa]
          clear hXa hw0 hw1 hw2 hwf0 hwf1 hwf2
          refine hK.out _ _ ⟨HTXa.out, fun _ _ => trivial⟩ ?_
          clear hK K
          (try simp only [Act.put, List.getElem_toArray, List.getElem_cons_succ, List.getElem_cons_zero, List.setIfInBounds_toArray, List.set_cons_succ, List.set_cons_zero])
          refine wpTwo_ready (rs := [8]) (by kernel_rfl) (by simp) ?_
          refine (AllTwo.cons rfl (fun K hK => ?_) AllTwo.nil)
          obtain ⟨⟨hg0, hg1⟩, hgf0, hgf1⟩ := gbox_cells HGXa.out
          obtain ⟨Xb, hXb⟩ : ∃ Y : World, Y = (Xa.setCell ⟨zg, 0, none⟩ (.int .u64 g)).setCell ⟨zg, 1, none⟩ (.bool d) := ⟨_, rfl⟩
          have hkXb : Keeps (fun q => q = zw ∨ q = zg) Xa Xb := by rw [hXb]; exact HK8'.out Xa
          have HGXb := Lib.hid (show GBox Xb zg g d by rw [hXb]; exact gbox_set HGXa.out g d)
          have HWXb := Lib.hid (show MBox Xb zw _ _ _ by rw [hXb]; exact HWXa.out.keeps ((Keeps.setCell Xa (S := fun q => q = zg) (p := ⟨zg, 0, none⟩) rfl _).trans (Keeps.setCell _ (S := fun q => q = zg) (p := ⟨zg, 1, none⟩) rfl _)) hzne.symm)
          have HTXb := Lib.hid (show MBox Xb z5 (.slice pm u.length cm) (.slice qm ms.length dm) f1 ∧ AcBox Xb zA k a o nn from ⟨HTXa.out.1.keeps hkXb hT5, HTXa.out.2.keeps hkXb hTA⟩)
          go_simp
          rw [← hXb]
          clear hXb hg0 hg1 hgf0 hgf1
          refine hK.out _ _ ⟨HTXb.out, fun _ _ => trivial⟩ ?_
          clear hK K
          (try simp only [Act.put, List.getElem_toArray, List.getElem_cons_succ, List.getElem_cons_zero, List.setIfInBounds_toArray, List.set_cons_succ, List.set_cons_zero])
          refine wpTwo_end (by kernel_rfl) ?_ _
          have HKX := Lib.hid (hkXa.trans hkXb)
          clear hkXa hkXb HWXa HGXa HTXa HTXb HT10 HWTe HGTe HK7 HK8'
          have hzw2 : w6.heap.size + 1 < zw := by have := HZW.out; omega
          have hzg2 : w6.heap.size + 1 < zg := by have := HZG.out; omega
          have hk10 := HKX.out.below (B := w6.heap.size + 1 + 1) (by omega) (fun q hq => by rcases hq with rfl | rfl <;> omega)
          have HB8X := Lib.hid (show Below (w6.heap.size + 1 + 1) w8 Xb from (HB10.out.mono (by omega)).trans hk10)
          have HBX := Lib.hid (show Below wr.heap.size wr Xb from HB8.out.trans (HB8X.out.mono (by omega)))
          have HKY := Lib.hid (show Keeps (fun q => q = z5 ∨ q = z7 ∨ w5p.heap.size ≤ q) w5p Xb from (HK8.out.trans (Keeps.of_below (S := fun q => q = z5 ∨ q = z7 ∨ w5p.heap.size ≤ q) HB10.out)).trans (HKX.out.sub (T := (fun q => q = z5 ∨ q = z7 ∨ w5p.heap.size ≤ q)) (fun q _ hq => by rcases hq with rfl | rfl <;> exact .inr (.inr (by omega)))))
          have HNX := Lib.hid (HN.out.keeps (Keeps.of_below (S := fun q => w6.heap.size + 1 ≤ q) HB10.out) (fun q hq => .inr hq) |>.keeps (HKX.out) (fun q hq => by rcases hq with rfl | rfl <;> exact .inr (by omega)))
          have HGX := Lib.hid ((HG.out.below HB10.out).keeps HKX.out (fun hq => by rcases hq with hq | hq <;> omega))
          have HMX := Lib.hid ((HM8.out.below HB10.out).keeps HKX.out (fun q hq => by rcases hq with rfl | rfl <;> exact .inr (by omega)))
          have HSX0 := Lib.hid (HKX.out.row' HS0.out (fun q hq => by rcases hq with rfl | rfl <;> omega))
          have HSX1 := Lib.hid (HKX.out.row' HS1.out (fun q hq => by rcases hq with rfl | rfl <;> omega))
          have hszX := HBX.out.size
          have hszX8 := HB8X.out.size
          clear hk10 HKX HS0 HS1 HB10 HN HG HM8 HAC8 HK8 HB8 HB8X hT5 hTA hzb0 hzb1 hzb2 hzb3 hzne hX0s HZG HZW
          obtain ⟨hn0, hn1, hn2⟩ := HNX.out.cells
          obtain ⟨hq0, hq1⟩ := HGX.out.cells
          obtain ⟨hw0, hw1, hw2⟩ := HWXb.out.cells
          obtain ⟨hg0, hg1⟩ := HGXb.out.cells
          go_wp2_with fail
          clear hn0 hn1 hn2 hq0 hq1 hw0 hw1 hw2 hg0 hg1
          refine (refSame_t _ _ u2 ms f2 Xb HNX.out.mem (MVar.mem ⟨HWXb.out, nums_of_owns rfl HSX0.out, bools_of_owns rfl HSX1.out⟩) (by omega) (by omega)).mono ?_
          rintro e w11 ⟨rfl, hb⟩
          have HNY := Lib.hid (HNX.out.below hb)
          have HGY := Lib.hid (HGX.out.below hb)
          have HMY := Lib.hid (HMX.out.below hb)
          have HKZ := Lib.hid (HKY.out.trans (Keeps.of_below (S := fun q => q = z5 ∨ q = z7 ∨ w5p.heap.size ≤ q) hb))
          have HBY := Lib.hid (below_then HBX.out HBX.out.size hb)
          have hszY := hb.size
          clear hb HNX HGX HMX HKY HBX HWXb HGXb HSX0 HSX1
          obtain ⟨hn0, hn1, hn2⟩ := HNY.out.cells
          go_wp2_with fail
          clear hn0 hn1 hn2
          refine (own_p HNY.out (by omega) (by omega)).mono ?_
          rintro e w12 ⟨hg, hb⟩
          obtain ⟨q4, d4, q5, d5, rfl, w12p, hw12p, hNX, hbp⟩ := own_putP hg hb.size
          have HNN := Lib.hid hNX
          have HNZ := Lib.hid ((HNY.out.below hb).below hbp)
          have HGZ := Lib.hid ((HGY.out.below hb).below hbp)
          have HMZ := Lib.hid ((HMY.out.below hb).below hbp)
          have HK12 := Lib.hid ((HKZ.out.trans (Keeps.of_below (S := fun q => q = z5 ∨ q = z7 ∨ w5p.heap.size ≤ q) hb)).trans (Keeps.of_below (S := fun q => q = z5 ∨ q = z7 ∨ w5p.heap.size ≤ q) hbp))
          have HB12 := Lib.hid (below_then (below_then HBY.out HBY.out.size hb) (Nat.le_trans HBY.out.size hb.size) hbp)
          have hsz12 := hb.size
          have hszN := hNX.to'
          clear hb hbp hg hNX HNY HGY HMY HKZ HBY
          obtain ⟨zn, hzn⟩ : ∃ z, z = w12.heap.size := ⟨_, rfl⟩
          obtain ⟨hn0, hn1, hn2⟩ := HNZ.out.cells
          unfold putM at hw12p
          rw [hw12p] at hn0 hn1 hn2
          go_wp2_with fail
          rw [← hw12p, ← hzn]
          rw [← hzn] at HNN hszN
          have hznl : w11.heap.size ≤ zn := by omega
          clear hw12p hn0 hn1 hn2 hzn
          refine (spoil_p HNZ.out (by omega) (by omega)).mono ?_
          rintro e w13 ⟨rfl, hk⟩
          have HK13 := Lib.hid (HK12.out.trans (hk.sub (T := (fun q => q = z5 ∨ q = z7 ∨ w5p.heap.size ≤ q)) (fun q _ hq => by obtain ⟨hq1, hq2⟩ := hq; exact .inr (.inr (by omega)))))
          have HB13 := Lib.hid (show Below wr.heap.size wr w13 from HB12.out.trans (hk.below (by omega) (fun q hq => by obtain ⟨hq1, hq2⟩ := hq; omega)))
          have HNE := Lib.hid (HNN.out.keeps hk (fun q hq => .inl (by obtain ⟨hq1, hq2⟩ := hq; omega)))
          have HGE := Lib.hid (HGZ.out.keeps hk (fun hq => by obtain ⟨hq1, hq2⟩ := hq; omega))
          have HME := Lib.hid (HMZ.out.keeps hk (fun q hq => .inr (by obtain ⟨hq1, hq2⟩ := hq; omega)))
          have hsz13 := hk.size
          clear hk HNN HGZ HMZ HNZ HK12 HB12
          rcases HST.out with hgood | hbad
          · obtain ⟨hka, hev, gots, pt, ct, qt, dt, hrun, hpt, hrow⟩ := hgood
            subst hev
            have hli : (la.take i).length = i := by rw [List.length_take]; omega
            rw [hli] at hrow
            have HKA2 := Lib.hid hka
            have HRUN := Lib.hid hrun
            have HZ7 := Lib.hid (hpt.box.below (HB13.out.mono hpt.box.lt |> fun h => HB13.out))
            have hrb : ∀ r, (Value.slice pv nv cv).ownBlock = some r → w5p.heap.size ≤ r ∧ r < wr.heap.size := fun r hr => hrow.lt r hr
            have HRB := Lib.hid hrb
            have HROW := Lib.hid (owns_below hrow HB13.out)
            clear hka hrun hpt hrow HST hrb hli
            obtain ⟨i0, hi0, hz00, hz01, hz02⟩ := info_parts got_info
            have HI0 := Lib.hid (And.intro hi0 (And.intro hz00 (And.intro hz01 hz02)))
            clear hi0 hz00 hz01 hz02
            go_upto_region 27 with (fail)
            refine wpTwo_begin (T := fun w' => MBox w' zn (.slice q4 u2.length d4) (.slice q5 ms.length d5) f2 ∧ GBox w' (w6.heap.size + 1) g d) (S := fun _ => True) (late := fun _ => false) (by kernel_rfl) ?_
            have hd13 : Below w13.heap.size w13 w13.drew := (Below.refl _ _).drew
            have HNd := Lib.hid HNE.out.drew
            have HTX := Lib.hid (show MBox w13.drew zn (.slice q4 u2.length d4) (.slice q5 ms.length d5) f2 ∧ GBox w13.drew (w6.heap.size + 1) g d from ⟨HNd.out.box, HGE.out.below hd13⟩)
            obtain ⟨Y0, hY0⟩ : ∃ X : World, X = w13.drew := ⟨_, rfl⟩
            have hY0s : w13.heap.size = Y0.heap.size := by rw [hY0]; rfl
            rw [← hY0] at HTX HNd hd13 ⊢
            clear hY0
            refine wpTwo_takeT (i := 0) (v := .agg #[.slice q4 u2.length d4, .slice q5 ms.length d5, .bool f2]) rfl (by kernel_rfl) (by kernel_rfl) (by kernel_rfl) (fun _ _ _ h => h) ⟨by rfl, ?_⟩ HTX.out ?_
            · intro w hTw
              obtain ⟨hl0, hl1, hl2⟩ := hTw.1.cells
              clear hTw
              go_simp
            (try simp only [Act.put, List.getElem_toArray, List.getElem_cons_zero, List.setIfInBounds_toArray, List.set_cons_succ, List.set_cons_zero])
            refine wpTwo_takeT (i := 2) (v := .slice pv nv cv) rfl (by kernel_rfl) (by kernel_rfl) (by kernel_rfl) (fun _ _ _ h => h) ⟨by rfl, ?_⟩ HTX.out ?_
            · intro w _
              go_simp
            (try simp only [Act.put, List.getElem_toArray, List.getElem_cons_succ, List.getElem_cons_zero, List.setIfInBounds_toArray, List.set_cons_succ, List.set_cons_zero])
            refine wpTwo_takeT (i := 3) (v := .agg #[.int .u64 g, .bool d]) rfl (by kernel_rfl) (by kernel_rfl) (by kernel_rfl) (fun _ _ _ h => h) ⟨by rfl, ?_⟩ HTX.out ?_
            · intro w hTw
              obtain ⟨hl0, hl1⟩ := hTw.2.cells
              clear hTw
              go_simp
            (try simp only [Act.put, List.getElem_toArray, List.getElem_cons_succ, List.getElem_cons_zero, List.setIfInBounds_toArray, List.set_cons_succ, List.set_cons_zero])
            refine wpTwo_ready (rs := [1, 4]) (by kernel_rfl) (by simp) ?_
            refine (AllTwo.cons rfl (fun K hK => ?_) (AllTwo.cons rfl (fun K hK => ?_) AllTwo.nil))
            · go_simp
              refine (own_p HNd.out (by omega) (by omega)).mono ?_
              rintro e Ya ⟨⟨_, rfl, xo, yo, rfl, ho0, ho1⟩, hb3⟩
              obtain ⟨p6, c6, rfl⟩ := owns_slice ho0
              obtain ⟨q6, d6, rfl⟩ := owns_slice ho1
              have HTYa := Lib.hid (show MBox Ya zn (.slice q4 u2.length d4) (.slice q5 ms.length d5) f2 ∧ GBox Ya (w6.heap.size + 1) g d from ⟨HTX.out.1.below hb3, HTX.out.2.below hb3⟩)
              have HNYa := Lib.hid (HNd.out.below hb3)
              have hbYa : Below w13.heap.size w13 Ya := below_then hd13 hd13.size hb3
              have HO0 := Lib.hid ho0
              have HO1 := Lib.hid ho1
              clear ho0 ho1 hb3
              go_wp2_with fail
              refine hK.out _ _ ⟨HTYa.out, fun _ _ => trivial⟩ ?_
              clear hK K
              (try simp only [Act.put, List.getElem_toArray, List.getElem_cons_succ, List.getElem_cons_zero, List.setIfInBounds_toArray, List.set_cons_succ, List.set_cons_zero])
              have hzYa := hbYa.size
              refine wpTwo_ready (rs := [4]) (by kernel_rfl) (by simp) ?_
              refine (AllTwo.cons rfl (fun K hK => ?_) AllTwo.nil)
              obtain ⟨Yb, hYb⟩ : ∃ Y : World, Y = Ya.alloc (.cells #[.int .u64 g, .bool d] 47) := ⟨_, rfl⟩
              have hbl : Below Ya.heap.size Ya Yb := by rw [hYb]; exact (Below.refl _ _).alloc (Nat.le_refl _) _
              have NEWYb := Lib.hid (show Yb.heap[Ya.heap.size]? = some (.cells #[.int .u64 g, .bool d] 47 (0, 0)) by rw [hYb]; exact World.alloc_heap_new _ _)
              have HTYb := Lib.hid (show MBox Yb zn (.slice q4 u2.length d4) (.slice q5 ms.length d5) f2 ∧ GBox Yb (w6.heap.size + 1) g d from ⟨HTYa.out.1.below hbl, HTYa.out.2.below hbl⟩)
              have HNYb := Lib.hid (HNYa.out.below hbl)
              have hbYb : Below w13.heap.size w13 Yb := below_then hbYa hbYa.size hbl
              have HO0' := Lib.hid (owns_below HO0.out hbl)
              have HO1' := Lib.hid (owns_below HO1.out hbl)
              go_simp
              rw [← hYb]
              refine hK.out _ _ ⟨HTYb.out, fun _ _ => trivial⟩ ?_
              clear hK K hbl hYb
              (try simp only [Act.put, List.getElem_toArray, List.getElem_cons_succ, List.getElem_cons_zero, List.setIfInBounds_toArray, List.set_cons_succ, List.set_cons_zero])
              refine wpTwo_ready (rs := [5]) (by kernel_rfl) (by simp) ?_
              refine (AllTwo.cons rfl (fun K hK => ?_) AllTwo.nil)
              refine step_append_lies _ (by rfl) _ _ _ (by rfl) w5p.heap.size 47 i0 (.agg #[.int .u64 0, .bool false]) 2 16 Try.underlying45 HI0.out.1 HI0.out.2.1 HI0.out.2.2.1 HI0.out.2.2.2 rfl (by decide) (.slice pv nv cv) i _ (by rfl) (owns_below HROW.out hbYb) ⟨Ya.heap.size, 0, none⟩ 1 1 [.int .u64 g, .bool d] (by rfl) (by rfl) (World.news_of_block NEWYb.out) (by simp [Value.oneCell']) (by decide) (by unfold maxLen; omega) (by omega) (by have := hbYb.size; omega) _ rfl ?_
              intro g7 cap7 Yc hown hgrow hat hlt7
              have hkc : Keeps (fun q => (Value.slice pv nv cv).ownBlock = some q) Yb Yc := by obtain ⟨h1, h2, h3, h4, h5⟩ := hgrow; exact ⟨h1, h2, h3, h4, fun q hq hn => h5 q hq (fun e => hn e.symm)⟩
              have hlow : ∀ q, (Value.slice pv nv cv).ownBlock = some q → w5p.heap.size ≤ q ∧ q < wr.heap.size := HRB.out
              have hzY := hbYb.size
              have HTc := Lib.hid (show MBox Yc zn (.slice q4 u2.length d4) (.slice q5 ms.length d5) f2 ∧ GBox Yc (w6.heap.size + 1) g d from ⟨HTYb.out.1.keeps hkc (fun hq => by have := hlow _ hq; omega), HTYb.out.2.keeps hkc (fun hq => by have := hlow _ hq; omega)⟩)
              have HNc := Lib.hid (HNYb.out.keeps hkc (fun q hq => .inl (by have := hlow _ hq; omega)))
              have HP0 := Lib.hid (hkc.row' HO0'.out (fun q hq => by have := hlow _ hq; omega))
              have HP1 := Lib.hid (hkc.row' HO1'.out (fun q hq => by have := hlow _ hq; omega))
              have HZ7c := Lib.hid ((HZ7.out.below hbYb).keeps hkc (fun hq => by have := hlow _ hq; omega))
              have HZ5c := Lib.hid ((HME.out.box.below hbYb).keeps hkc (fun hq => by have := hlow _ hq; omega))
              have HKc := Lib.hid (show Keeps (fun q => q = z5 ∨ q = z7 ∨ w5p.heap.size ≤ q) w5p Yc from (HK13.out.trans (Keeps.of_below (S := (fun q => q = z5 ∨ q = z7 ∨ w5p.heap.size ≤ q)) hbYb)).trans (hkc.sub (T := (fun q => q = z5 ∨ q = z7 ∨ w5p.heap.size ≤ q)) (fun q _ hq => .inr (.inr (hlow q hq).1))))
              have hszc := hkc.size
              have HOWN := Lib.hid hown
              refine hK.out _ _ ⟨HTc.out, fun _ _ => trivial⟩ ?_
              clear hK K hgrow hat hown hkc hlow
              (try simp only [Act.put, List.getElem_toArray, List.getElem_cons_succ, List.getElem_cons_zero, List.setIfInBounds_toArray, List.set_cons_succ, List.set_cons_zero])
              refine wpTwo_ready (rs := [6]) (by kernel_rfl) (by simp) ?_
              refine (AllTwo.cons rfl (fun K hK => ?_) AllTwo.nil)
              obtain ⟨⟨ht0, ht1, ht2⟩, hf0, hf1, hf2⟩ := mbox_cells HZ7c.out
              obtain ⟨Yd, hYd⟩ : ∃ Y : World, Y = ((Yc.setCell ⟨z7, 0, none⟩ (.slice p6 u2.length c6)).setCell ⟨z7, 1, none⟩ (.slice q6 ms.length d6)).setCell ⟨z7, 2, none⟩ (.bool f2) := ⟨_, rfl⟩
              have hkD : Keeps (fun q => q = z7) Yc Yd := by rw [hYd]; exact ((Keeps.setCell Yc (S := fun q => q = z7) (p := ⟨z7, 0, none⟩) rfl _).trans (Keeps.setCell _ (S := fun q => q = z7) (p := ⟨z7, 1, none⟩) rfl _)).trans (Keeps.setCell _ (S := fun q => q = z7) (p := ⟨z7, 2, none⟩) rfl _)
              have HZ7d := Lib.hid (show MBox Yd z7 (.slice p6 u2.length c6) (.slice q6 ms.length d6) f2 by rw [hYd]; exact HZ7c.out.set _ _ _)
              have HTd := Lib.hid (show MBox Yd zn (.slice q4 u2.length d4) (.slice q5 ms.length d5) f2 ∧ GBox Yd (w6.heap.size + 1) g d from ⟨HTc.out.1.keeps hkD (by omega), HTc.out.2.keeps hkD (by omega)⟩)
              have hszd := hkD.size
              go_simp
              rw [← hYd]
              clear hYd ht0 ht1 ht2 hf0 hf1 hf2
              refine hK.out _ _ ⟨HTd.out, fun _ _ => trivial⟩ ?_
              clear hK K
              (try simp only [Act.put, List.getElem_toArray, List.getElem_cons_succ, List.getElem_cons_zero, List.setIfInBounds_toArray, List.set_cons_succ, List.set_cons_zero])
              refine wpTwo_ready (rs := [7]) (by kernel_rfl) (by simp) ?_
              refine (AllTwo.cons rfl (fun K hK => ?_) AllTwo.nil)
              go_simp
              refine hK.out _ _ ⟨HTd.out, fun _ _ => trivial⟩ ?_
              clear hK K
              (try simp only [Act.put, List.getElem_toArray, List.getElem_cons_succ, List.getElem_cons_zero, List.setIfInBounds_toArray, List.set_cons_succ, List.set_cons_zero])
              refine wpTwo_end (by kernel_rfl) ?_ _
              obtain ⟨hn0, hn1, hn2⟩ := HTd.out.1.cells
              obtain ⟨⟨hm0, hm1, hm2⟩, hf0, hf1, hf2⟩ := mbox_cells (HZ5c.out.keeps hkD (by omega))
              obtain ⟨wF, hwF⟩ : ∃ x : World, x = ((Yd.setCell ⟨z5, 0, none⟩ (.slice q4 u2.length d4)).setCell ⟨z5, 1, none⟩ (.slice q5 ms.length d5)).setCell ⟨z5, 2, none⟩ (.bool f2) := ⟨_, rfl⟩
              have hkF : Keeps (fun q => q = z5) Yd wF := by rw [hwF]; exact ((Keeps.setCell Yd (S := fun q => q = z5) (p := ⟨z5, 0, none⟩) rfl _).trans (Keeps.setCell _ (S := fun q => q = z5) (p := ⟨z5, 1, none⟩) rfl _)).trans (Keeps.setCell _ (S := fun q => q = z5) (p := ⟨z5, 2, none⟩) rfl _)
              have HMF := Lib.hid (show PVar wF W.heap.size wF.heap.size z5 (.slice q4 u2.length d4) (.slice q5 ms.length d5) u2 ms f2 by rw [hwF]; exact put_back (HZ5c.out.keeps hkD (by omega)) (hkD.row' HNc.out.words (fun q hq => by subst hq; omega)) (hkD.row' HNc.out.lives (fun q hq => by subst hq; omega)) (by omega) (by omega))
              have HKF := Lib.hid ((HKc.out.trans (hkD.sub (T := (fun q => q = z5 ∨ q = z7 ∨ w5p.heap.size ≤ q)) (fun q _ hq => .inr (.inl hq)))).trans (hkF.sub (T := (fun q => q = z5 ∨ q = z7 ∨ w5p.heap.size ≤ q)) (fun q _ hq => .inl hq)))
              have hPF0 := hkF.row' (hkD.row' HP0.out (fun q hq => by subst hq; omega)) (fun q hq => by subst hq; omega)
              have hPF1 := hkF.row' (hkD.row' HP1.out (fun q hq => by subst hq; omega)) (fun q hq => by subst hq; omega)
              have hszF := hkF.size
              have HPF := Lib.hid (show PVar wF W.heap.size wF.heap.size z7 (.slice p6 u2.length c6) (.slice q6 ms.length d6) u2 ms f2 from ⟨HZ7d.out.keeps hkF (by omega), hPF0.mono (by omega), hPF1.mono (by omega), by omega, by omega, owns_lt hPF0, owns_lt hPF1⟩)
              have hRF := hkF.row' (hkD.row' HOWN.out (fun q hq => by subst hq; omega)) (fun q hq => by subst hq; omega)
              have HGF := Lib.hid (show GoodRel w5p.heap.size W.heap.size z7 ms us f (la.take (i + 1)) u2 f2 (.int .i64 0) (.slice (some ⟨g7, 0, none⟩) (i + 1) cap7) wF from ⟨by rw [HTK.out, kindAll_snoc, HKA2.out]; simpa using hkd, rfl, gots ++ [(g, d)], _, _, _, _, by rw [HTK.out, runS_snoc, HRUN.out]; simp only [HAM.out], HPF.out, by rw [List.length_take, Nat.min_eq_left (by omega), flatG_snoc]; exact hRF⟩)
              clear hkF hkD hPF0 hPF1 hRF
              go_wp2_with fail
              rw [← hwF]
              clear hwF hn0 hn1 hn2 hm0 hm1 hm2 hf0 hf1 hf2
              go_roundw
              case rel => exact ⟨i + 1, _, _, _, _, u2, f2, by omega, by go_num, HMF.out, hu264, HR2.out, HKF.out, _, rfl, .inl HGF.out, _, _, _, rfl⟩
              case measure => simp [intOf]; omega
            · obtain ⟨Ya, hYa⟩ : ∃ Y : World, Y = Y0.alloc (.cells #[.int .u64 g, .bool d] 47) := ⟨_, rfl⟩
              have hbl : Below Y0.heap.size Y0 Ya := by rw [hYa]; exact (Below.refl _ _).alloc (Nat.le_refl _) _
              have NEWYa := Lib.hid (show Ya.heap[Y0.heap.size]? = some (.cells #[.int .u64 g, .bool d] 47 (0, 0)) by rw [hYa]; exact World.alloc_heap_new _ _)
              have HTYa := Lib.hid (show MBox Ya zn (.slice q4 u2.length d4) (.slice q5 ms.length d5) f2 ∧ GBox Ya (w6.heap.size + 1) g d from ⟨HTX.out.1.below hbl, HTX.out.2.below hbl⟩)
              have HNYa := Lib.hid (HNd.out.below hbl)
              have hbYa : Below w13.heap.size w13 Ya := below_then hd13 hd13.size hbl
              go_simp
              rw [← hYa]
              refine hK.out _ _ ⟨HTYa.out, fun _ _ => trivial⟩ ?_
              clear hK K hbl hYa
              (try simp only [Act.put, List.getElem_toArray, List.getElem_cons_succ, List.getElem_cons_zero, List.setIfInBounds_toArray, List.set_cons_succ, List.set_cons_zero])
              have hzYa := hbYa.size
              refine wpTwo_ready (rs := [1]) (by kernel_rfl) (by simp) ?_
              refine (AllTwo.cons rfl (fun K hK => ?_) AllTwo.nil)
              go_simp
              refine (own_p HNYa.out (by omega) (by omega)).mono ?_
              rintro e Yb ⟨⟨_, rfl, xo, yo, rfl, ho0, ho1⟩, hb3⟩
              obtain ⟨p6, c6, rfl⟩ := owns_slice ho0
              obtain ⟨q6, d6, rfl⟩ := owns_slice ho1
              have HTYb := Lib.hid (show MBox Yb zn (.slice q4 u2.length d4) (.slice q5 ms.length d5) f2 ∧ GBox Yb (w6.heap.size + 1) g d from ⟨HTYa.out.1.below hb3, HTYa.out.2.below hb3⟩)
              have HNYb := Lib.hid (HNYa.out.below hb3)
              have hbYb : Below w13.heap.size w13 Yb := below_then hbYa hbYa.size hb3
              have NEWYb := Lib.hid ((hb3.block _ (Array.getElem?_eq_some_iff.1 NEWYa.out).1).trans NEWYa.out)
              have HO0 := Lib.hid ho0
              have HO1 := Lib.hid ho1
              clear ho0 ho1 hb3
              go_wp2_with fail
              refine hK.out _ _ ⟨HTYb.out, fun _ _ => trivial⟩ ?_
              clear hK K
              (try simp only [Act.put, List.getElem_toArray, List.getElem_cons_succ, List.getElem_cons_zero, List.setIfInBounds_toArray, List.set_cons_succ, List.set_cons_zero])
              refine wpTwo_ready (rs := [5]) (by kernel_rfl) (by simp) ?_
              refine (AllTwo.cons rfl (fun K hK => ?_) AllTwo.nil)
              refine step_append_lies _ (by rfl) _ _ _ (by rfl) w5p.heap.size 47 i0 (.agg #[.int .u64 0, .bool false]) 2 16 Try.underlying45 HI0.out.1 HI0.out.2.1 HI0.out.2.2.1 HI0.out.2.2.2 rfl (by decide) (.slice pv nv cv) i _ (by rfl) (owns_below HROW.out hbYb) ⟨Y0.heap.size, 0, none⟩ 1 1 [.int .u64 g, .bool d] (by rfl) (by rfl) (World.news_of_block NEWYb.out) (by simp [Value.oneCell']) (by decide) (by unfold maxLen; omega) (by omega) (by have := hbYb.size; omega) _ rfl ?_
              intro g7 cap7 Yc hown hgrow hat hlt7
              have hkc : Keeps (fun q => (Value.slice pv nv cv).ownBlock = some q) Yb Yc := by obtain ⟨h1, h2, h3, h4, h5⟩ := hgrow; exact ⟨h1, h2, h3, h4, fun q hq hn => h5 q hq (fun e => hn e.symm)⟩
              have hlow : ∀ q, (Value.slice pv nv cv).ownBlock = some q → w5p.heap.size ≤ q ∧ q < wr.heap.size := HRB.out
              have hzY := hbYb.size
              have HTc := Lib.hid (show MBox Yc zn (.slice q4 u2.length d4) (.slice q5 ms.length d5) f2 ∧ GBox Yc (w6.heap.size + 1) g d from ⟨HTYb.out.1.keeps hkc (fun hq => by have := hlow _ hq; omega), HTYb.out.2.keeps hkc (fun hq => by have := hlow _ hq; omega)⟩)
              have HNc := Lib.hid (HNYb.out.keeps hkc (fun q hq => .inl (by have := hlow _ hq; omega)))
              have HP0 := Lib.hid (hkc.row' HO0.out (fun q hq => by have := hlow _ hq; omega))
              have HP1 := Lib.hid (hkc.row' HO1.out (fun q hq => by have := hlow _ hq; omega))
              have HZ7c := Lib.hid ((HZ7.out.below hbYb).keeps hkc (fun hq => by have := hlow _ hq; omega))
              have HZ5c := Lib.hid ((HME.out.box.below hbYb).keeps hkc (fun hq => by have := hlow _ hq; omega))
              have HKc := Lib.hid (show Keeps (fun q => q = z5 ∨ q = z7 ∨ w5p.heap.size ≤ q) w5p Yc from (HK13.out.trans (Keeps.of_below (S := (fun q => q = z5 ∨ q = z7 ∨ w5p.heap.size ≤ q)) hbYb)).trans (hkc.sub (T := (fun q => q = z5 ∨ q = z7 ∨ w5p.heap.size ≤ q)) (fun q _ hq => .inr (.inr (hlow q hq).1))))
              have hszc := hkc.size
              have HOWN := Lib.hid hown
              refine hK.out _ _ ⟨HTc.out, fun _ _ => trivial⟩ ?_
              clear hK K hgrow hat hown hkc hlow
              (try simp only [Act.put, List.getElem_toArray, List.getElem_cons_succ, List.getElem_cons_zero, List.setIfInBounds_toArray, List.set_cons_succ, List.set_cons_zero])
              refine wpTwo_ready (rs := [6]) (by kernel_rfl) (by simp) ?_
              refine (AllTwo.cons rfl (fun K hK => ?_) AllTwo.nil)
              obtain ⟨⟨ht0, ht1, ht2⟩, hf0, hf1, hf2⟩ := mbox_cells HZ7c.out
              obtain ⟨Yd, hYd⟩ : ∃ Y : World, Y = ((Yc.setCell ⟨z7, 0, none⟩ (.slice p6 u2.length c6)).setCell ⟨z7, 1, none⟩ (.slice q6 ms.length d6)).setCell ⟨z7, 2, none⟩ (.bool f2) := ⟨_, rfl⟩
              have hkD : Keeps (fun q => q = z7) Yc Yd := by rw [hYd]; exact ((Keeps.setCell Yc (S := fun q => q = z7) (p := ⟨z7, 0, none⟩) rfl _).trans (Keeps.setCell _ (S := fun q => q = z7) (p := ⟨z7, 1, none⟩) rfl _)).trans (Keeps.setCell _ (S := fun q => q = z7) (p := ⟨z7, 2, none⟩) rfl _)
              have HZ7d := Lib.hid (show MBox Yd z7 (.slice p6 u2.length c6) (.slice q6 ms.length d6) f2 by rw [hYd]; exact HZ7c.out.set _ _ _)
              have HTd := Lib.hid (show MBox Yd zn (.slice q4 u2.length d4) (.slice q5 ms.length d5) f2 ∧ GBox Yd (w6.heap.size + 1) g d from ⟨HTc.out.1.keeps hkD (by omega), HTc.out.2.keeps hkD (by omega)⟩)
              have hszd := hkD.size
              go_simp
              rw [← hYd]
              clear hYd ht0 ht1 ht2 hf0 hf1 hf2
              refine hK.out _ _ ⟨HTd.out, fun _ _ => trivial⟩ ?_
              clear hK K
              (try simp only [Act.put, List.getElem_toArray, List.getElem_cons_succ, List.getElem_cons_zero, List.setIfInBounds_toArray, List.set_cons_succ, List.set_cons_zero])
              refine wpTwo_ready (rs := [7]) (by kernel_rfl) (by simp) ?_
              refine (AllTwo.cons rfl (fun K hK => ?_) AllTwo.nil)
              go_simp
              refine hK.out _ _ ⟨HTd.out, fun _ _ => trivial⟩ ?_
              clear hK K
              (try simp only [Act.put, List.getElem_toArray, List.getElem_cons_succ, List.getElem_cons_zero, List.setIfInBounds_toArray, List.set_cons_succ, List.set_cons_zero])
              refine wpTwo_end (by kernel_rfl) ?_ _
              obtain ⟨hn0, hn1, hn2⟩ := HTd.out.1.cells
              obtain ⟨⟨hm0, hm1, hm2⟩, hf0, hf1, hf2⟩ := mbox_cells (HZ5c.out.keeps hkD (by omega))
              obtain ⟨wF, hwF⟩ : ∃ x : World, x = ((Yd.setCell ⟨z5, 0, none⟩ (.slice q4 u2.length d4)).setCell ⟨z5, 1, none⟩ (.slice q5 ms.length d5)).setCell ⟨z5, 2, none⟩ (.bool f2) := ⟨_, rfl⟩
              have hkF : Keeps (fun q => q = z5) Yd wF := by rw [hwF]; exact ((Keeps.setCell Yd (S := fun q => q = z5) (p := ⟨z5, 0, none⟩) rfl _).trans (Keeps.setCell _ (S := fun q => q = z5) (p := ⟨z5, 1, none⟩) rfl _)).trans (Keeps.setCell _ (S := fun q => q = z5) (p := ⟨z5, 2, none⟩) rfl _)
              have HMF := Lib.hid (show PVar wF W.heap.size wF.heap.size z5 (.slice q4 u2.length d4) (.slice q5 ms.length d5) u2 ms f2 by rw [hwF]; exact put_back (HZ5c.out.keeps hkD (by omega)) (hkD.row' HNc.out.words (fun q hq => by subst hq; omega)) (hkD.row' HNc.out.lives (fun q hq => by subst hq; omega)) (by omega) (by omega))
              have HKF := Lib.hid ((HKc.out.trans (hkD.sub (T := (fun q => q = z5 ∨ q = z7 ∨ w5p.heap.size ≤ q)) (fun q _ hq => .inr (.inl hq)))).trans (hkF.sub (T := (fun q => q = z5 ∨ q = z7 ∨ w5p.heap.size ≤ q)) (fun q _ hq => .inl hq)))
              have hPF0 := hkF.row' (hkD.row' HP0.out (fun q hq => by subst hq; omega)) (fun q hq => by subst hq; omega)
              have hPF1 := hkF.row' (hkD.row' HP1.out (fun q hq => by subst hq; omega)) (fun q hq => by subst hq; omega)
              have hszF := hkF.size
              have HPF := Lib.hid (show PVar wF W.heap.size wF.heap.size z7 (.slice p6 u2.length c6) (.slice q6 ms.length d6) u2 ms f2 from ⟨HZ7d.out.keeps hkF (by omega), hPF0.mono (by omega), hPF1.mono (by omega), by omega, by omega, owns_lt hPF0, owns_lt hPF1⟩)
              have hRF := hkF.row' (hkD.row' HOWN.out (fun q hq => by subst hq; omega)) (fun q hq => by subst hq; omega)
              have HGF := Lib.hid (show GoodRel w5p.heap.size W.heap.size z7 ms us f (la.take (i + 1)) u2 f2 (.int .i64 0) (.slice (some ⟨g7, 0, none⟩) (i + 1) cap7) wF from ⟨by rw [HTK.out, kindAll_snoc, HKA2.out]; simpa using hkd, rfl, gots ++ [(g, d)], _, _, _, _, by rw [HTK.out, runS_snoc, HRUN.out]; simp only [HAM.out], HPF.out, by rw [List.length_take, Nat.min_eq_left (by omega), flatG_snoc]; exact hRF⟩)
              clear hkF hkD hPF0 hPF1 hRF
              go_wp2_with fail
              rw [← hwF]
              clear hwF hn0 hn1 hn2 hm0 hm1 hm2 hf0 hf1 hf2
              go_roundw
              case rel => exact ⟨i + 1, _, _, _, _, u2, f2, by omega, by go_num, HMF.out, hu264, HR2.out, HKF.out, _, rfl, .inl HGF.out, _, _, _, rfl⟩
              case measure => simp [intOf]; omega
          · have hev := hbad.2.1
            subst hev
            obtain ⟨hn0, hn1, hn2⟩ := HNE.out.cells
            obtain ⟨⟨hm0, hm1, hm2⟩, hf0, hf1, hf2⟩ := mbox_cells HME.out.box
            obtain ⟨wF, hwF⟩ : ∃ x : World, x = ((w13.setCell ⟨z5, 0, none⟩ (.slice q4 u2.length d4)).setCell ⟨z5, 1, none⟩ (.slice q5 ms.length d5)).setCell ⟨z5, 2, none⟩ (.bool f2) := ⟨_, rfl⟩
            have hkF : Keeps (fun q => q = z5) w13 wF := by rw [hwF]; exact ((Keeps.setCell w13 (S := fun q => q = z5) (p := ⟨z5, 0, none⟩) rfl _).trans (Keeps.setCell _ (S := fun q => q = z5) (p := ⟨z5, 1, none⟩) rfl _)).trans (Keeps.setCell _ (S := fun q => q = z5) (p := ⟨z5, 2, none⟩) rfl _)
            have HMF := Lib.hid (show PVar wF W.heap.size wF.heap.size z5 (.slice q4 u2.length d4) (.slice q5 ms.length d5) u2 ms f2 by rw [hwF]; exact put_back HME.out.box HNE.out.words HNE.out.lives (by omega) (by omega))
            have HKF := Lib.hid (HK13.out.trans (hkF.sub (T := (fun q => q = z5 ∨ q = z7 ∨ w5p.heap.size ≤ q)) (fun q _ hq => .inl hq)))
            have HBF := Lib.hid (show BadRel z7 (la.take (i + 1)) (.int .i64 121) wF by
              rw [HTK.out]
              exact ((hbad.keeps (Keeps.of_below (S := fun _ => False) HB13.out) (fun h => h)).more _).keeps hkF (by omega))
            clear hkF hbad
            go_wp2_with fail
            rw [← hwF]
            clear hwF hn0 hn1 hn2 hm0 hm1 hm2 hf0 hf1 hf2
            go_roundw
            case rel => exact ⟨i + 1, _, _, _, _, u2, f2, by omega, by go_num, HMF.out, hu264, HR2.out, HKF.out, _, rfl, .inr HBF.out, _, _, _, rfl⟩
            case measure => simp [intOf]; omega
      · obtain rfl : nl = i := by omega
        have htk : la.take nl = la := List.take_of_length_le (by have := HNL.out; omega)
        have hst := HST.out
        rw [htk] at hst
        have HACX : Hid (∀ w, Keeps (fun q => q = z5 ∨ q = z7 ∨ w5p.heap.size ≤ q) w5p w → AccsAt w (.slice qa nl da) la) := Lib.hid (fun w hk => ⟨_, _, by rw [← HNL.out], fun hne => by
          obtain ⟨b, off, he, hc⟩ := HAC0.out hne
          refine ⟨b, off, he, fun j hj => ?_⟩
          obtain ⟨y0, y1, y2, y3⟩ := hc j hj
          have hbs : ¬ (b = z5 ∨ b = z7 ∨ w5p.heap.size ≤ b) := by
            have h1 := mbox_ne HM.out.box y0
            have h2 := mbox_ne HAT.out.box y0
            have h3 := World.block_lt_of_cell? _ _ y0
            simp only at h3
            rintro (h | h | h)
            · exact h1 h
            · exact h2 h
            · omega
          exact ⟨hk.cell y0 hbs, hk.cell y1 hbs, hk.cell y2 hbs, hk.cell y3 hbs⟩⟩)
        clear htk HST HAC0 hi hlt
        rcases hst with hgood | hbad
        · obtain ⟨hka, hev, gots, pt, ct, qt, dt, hrun, hpt, hrow⟩ := hgood
          subst hev
          have hgl : gots.length = la.length := by have := (runS_length ms us f la).2; rw [hrun] at this; exact this
          have HGL := Lib.hid hgl
          have HKA := Lib.hid hka
          have HRUN := Lib.hid hrun
          have HPT := Lib.hid hpt
          have HROW := Lib.hid hrow
          clear hgl hka hrun hpt hrow
          obtain ⟨hx0, hx1, hx2⟩ := (mbox_cells HXr.out).1
          by_cases hn0 : nl = 0
          · have hla0 : ((nl : Int) == 0) = true := by simp [hn0]
            clear hn0
            go_wp2_with fail
            clear hx0 hx1 hx2
            refine (own_c _ _ f ws ls _ (H0.out.below hB) (H1.out.below hB) HWL.out HLL.out).mono ?_
            rintro e w11 ⟨hg, hb⟩
            obtain ⟨p6, n6, c6, p7, n7, c7, rfl, hN0, hN1⟩ := hg.reads
            have HP1 := Lib.hid (HPT.out.below hb)
            have HR1 := Lib.hid (owns_below HROW.out hb)
            have HA1 := Lib.hid (accs_below (HACX.out _ HKW.out) hb)
            have hBn := below_then hB hB.size hb
            clear hg hb hB HPT HROW HXr
            go_wp2_with fail
            refine (run_yes _ _ us ms f la w11 ⟨_, _, rfl, by rw [HUS.out]; exact hN0, by rw [HMS.out]; exact hN1⟩ HRT.out HA1.out (by have := HNL.out; omega) HKA.out).mono ?_
            rintro e w12 ⟨hro, hb⟩
            obtain ⟨gw, cw, gl, cl, qg, rg, rfl, ho0, ho1, hog⟩ := hro.rows HRUN.out
            have HP2 := Lib.hid (HP1.out.below hb)
            have HR2' := Lib.hid (owns_below HR1.out hb)
            have hBf := below_then hBn hBn.size hb
            have HO0 := Lib.hid ho0
            have HO1 := Lib.hid ho1
            have HOG := Lib.hid hog
            clear hb hBn hN0 hN1 hro ho0 ho1 hog HP1 HR1 HA1
            obtain ⟨w13, hw13⟩ : ∃ x : World, x = w12.alloc (.cells #[.slice (some ⟨gw, 0, none⟩) u.length cw, .slice (some ⟨gl, 0, none⟩) ms.length cl, .bool f1] 25) := ⟨_, rfl⟩
            have hb : Below w12.heap.size w12 w13 := by rw [hw13]; exact (Below.refl _ _).alloc (Nat.le_refl _) _
            have HNF := Lib.hid (show MBox w13 w12.heap.size (.slice (some ⟨gw, 0, none⟩) u.length cw) (.slice (some ⟨gl, 0, none⟩) ms.length cl) f1 by rw [hw13]; exact MBox.new _ _ _ _)
            have HP3 := Lib.hid (HP2.out.below hb)
            have HG0 := Lib.hid (gots_of_owns rfl (owns_below HOG.out hb))
            have HG1 := Lib.hid (gots_of_owns HGL.out (owns_below HR2'.out hb))
            have HN3 := Lib.hid (nums_of_owns rfl (owns_below HO0.out hb))
            have HN4 := Lib.hid (bools_of_owns rfl (owns_below HO1.out hb))
            have hBg := below_then hBf hBf.size hb
            clear hb hBf HP2 HR2' HO0 HO1 HOG
            go_wp2_with fail
            rw [← hw13]
            clear hw13
            refine (equalG_same _ _ gots w13 HG0.out HG1.out (by have h1 := HGL.out; have h2 := HNL.out; omega)).mono ?_
            rintro e w14 ⟨rfl, hb⟩
            have HP4 := Lib.hid (HP3.out.below hb)
            have HM4 := Lib.hid (MVar.mem (MVar.below ⟨HNF.out, HN3.out, HN4.out⟩ hb))
            obtain ⟨ha0, ha1, ha2⟩ := (HNF.out.below hb).cells
            obtain ⟨ht0, ht1, ht2⟩ := HP4.out.cells
            have hBh := below_then hBg hBg.size hb
            clear hb hBg HNF HP3 HG0 HG1 HN3 HN4
            go_wp2_with fail
            clear ha0 ha1 ha2 ht0 ht1 ht2
            refine (refSame_t _ _ u ms f1 w14 HM4.out HP4.out.mem (by omega) (by omega)).mono ?_
            rintro e w15 ⟨rfl, hb⟩
            have hBi := below_then hBh hBh.size hb
            clear hb hBh HP4 HM4
            go_wp2
            go_ret
            exact ⟨rfl, hBi⟩
          · have hla0 : ((nl : Int) == 0) = false := by simp [hn0]
            clear hn0
            go_wp2_with fail
            clear hx0 hx1 hx2
            refine (own_c _ _ f ws ls _ (H0.out.below hB) (H1.out.below hB) HWL.out HLL.out).mono ?_
            rintro e w11 ⟨hg, hb⟩
            obtain ⟨p6, n6, c6, p7, n7, c7, rfl, hN0, hN1⟩ := hg.reads
            have HP1 := Lib.hid (HPT.out.below hb)
            have HR1 := Lib.hid (owns_below HROW.out hb)
            have HA1 := Lib.hid (accs_below (HACX.out _ HKW.out) hb)
            have hBn := below_then hB hB.size hb
            clear hg hb hB HPT HROW HXr
            go_wp2_with fail
            refine (run_yes _ _ us ms f la w11 ⟨_, _, rfl, by rw [HUS.out]; exact hN0, by rw [HMS.out]; exact hN1⟩ HRT.out HA1.out (by have := HNL.out; omega) HKA.out).mono ?_
            rintro e w12 ⟨hro, hb⟩
            obtain ⟨gw, cw, gl, cl, qg, rg, rfl, ho0, ho1, hog⟩ := hro.rows HRUN.out
            have HP2 := Lib.hid (HP1.out.below hb)
            have HR2' := Lib.hid (owns_below HR1.out hb)
            have hBf := below_then hBn hBn.size hb
            have HO0 := Lib.hid ho0
            have HO1 := Lib.hid ho1
            have HOG := Lib.hid hog
            clear hb hBn hN0 hN1 hro ho0 ho1 hog HP1 HR1 HA1
            obtain ⟨w13, hw13⟩ : ∃ x : World, x = w12.alloc (.cells #[.slice (some ⟨gw, 0, none⟩) u.length cw, .slice (some ⟨gl, 0, none⟩) ms.length cl, .bool f1] 25) := ⟨_, rfl⟩
            have hb : Below w12.heap.size w12 w13 := by rw [hw13]; exact (Below.refl _ _).alloc (Nat.le_refl _) _
            have HNF := Lib.hid (show MBox w13 w12.heap.size (.slice (some ⟨gw, 0, none⟩) u.length cw) (.slice (some ⟨gl, 0, none⟩) ms.length cl) f1 by rw [hw13]; exact MBox.new _ _ _ _)
            have HP3 := Lib.hid (HP2.out.below hb)
            have HG0 := Lib.hid (gots_of_owns rfl (owns_below HOG.out hb))
            have HG1 := Lib.hid (gots_of_owns HGL.out (owns_below HR2'.out hb))
            have HN3 := Lib.hid (nums_of_owns rfl (owns_below HO0.out hb))
            have HN4 := Lib.hid (bools_of_owns rfl (owns_below HO1.out hb))
            have hBg := below_then hBf hBf.size hb
            clear hb hBf HP2 HR2' HO0 HO1 HOG
            go_wp2_with fail
            rw [← hw13]
            clear hw13
            refine (equalG_same _ _ gots w13 HG0.out HG1.out (by have h1 := HGL.out; have h2 := HNL.out; omega)).mono ?_
            rintro e w14 ⟨rfl, hb⟩
            have HP4 := Lib.hid (HP3.out.below hb)
            have HM4 := Lib.hid (MVar.mem (MVar.below ⟨HNF.out, HN3.out, HN4.out⟩ hb))
            obtain ⟨ha0, ha1, ha2⟩ := (HNF.out.below hb).cells
            obtain ⟨ht0, ht1, ht2⟩ := HP4.out.cells
            have hBh := below_then hBg hBg.size hb
            clear hb hBg HNF HP3 HG0 HG1 HN3 HN4
            go_wp2_with fail
            clear ha0 ha1 ha2 ht0 ht1 ht2
            refine (refSame_t _ _ u ms f1 w14 HM4.out HP4.out.mem (by omega) (by omega)).mono ?_
            rintro e w15 ⟨rfl, hb⟩
            have hBi := below_then hBh hBh.size hb
            clear hb hBh HP4 HM4
            go_wp2
            go_ret
            exact ⟨rfl, hBi⟩
        · obtain ⟨hka, hev, pt, nt, ct, qt, mt, dt, ft, hbt⟩ := hbad
          subst hev
          have HKA := Lib.hid hka
          obtain ⟨hx0, hx1, hx2⟩ := (mbox_cells HXr.out).1
          obtain ⟨⟨ht0, ht1, ht2⟩, hf0, hf1, hf2⟩ := mbox_cells hbt
          obtain ⟨wE, hwE⟩ : ∃ x : World, x = ((wr.setCell ⟨z7, 0, none⟩ (.slice none 0 0)).setCell ⟨z7, 1, none⟩ (.slice none 0 0)).setCell ⟨z7, 2, none⟩ (.bool false) := ⟨_, rfl⟩
          have hk : Keeps (fun q => q = z7) wr wE := by rw [hwE]; exact ((Keeps.setCell wr (S := fun q => q = z7) (p := ⟨z7, 0, none⟩) rfl _).trans (Keeps.setCell _ (S := fun q => q = z7) (p := ⟨z7, 1, none⟩) rfl _)).trans (Keeps.setCell _ (S := fun q => q = z7) (p := ⟨z7, 2, none⟩) rfl _)
          have HXE := Lib.hid (HXr.out.keeps hk (fun hq => by have hq : W.heap.size = z7 := hq; omega))
          have HTE := Lib.hid (show MBox wE z7 (.slice none 0 0) (.slice none 0 0) false by rw [hwE]; exact hbt.set _ _ _)
          have hBE : Below W.heap.size W wE := hB.trans (hk.below hB.size (fun q hq => by have hq : q = z7 := hq; omega))
          have hszE := hk.size
          have HAE := Lib.hid (HACX.out _ (HKW.out.trans (hk.sub (T := (fun q => q = z5 ∨ q = z7 ∨ w5p.heap.size ≤ q)) (fun q _ hq => .inr (.inl hq)))))
          clear hk hka hbt HKW hB HACX
          obtain ⟨hx0', hx1', hx2'⟩ := (mbox_cells HXE.out).1
          rw [hwE] at hx0' hx1' hx2'
          by_cases hn0 : nl = 0
          · have hla0 : ((nl : Int) == 0) = true := by simp [hn0]
            clear hn0
            go_wp2_with fail
            rw [← hwE]
            clear hwE hx0 hx1 hx2 hx0' hx1' hx2' ht0 ht1 ht2 hf0 hf1 hf2
            refine (own_c _ _ f ws ls _ (H0.out.below hBE) (H1.out.below hBE) HWL.out HLL.out).mono ?_
            rintro e w11 ⟨hg, hb⟩
            obtain ⟨p6, n6, c6, p7, n7, c7, rfl, hN0, hN1⟩ := hg.reads
            have HTE' := Lib.hid (HTE.out.below hb)
            have HAF := Lib.hid (accs_below HAE.out hb)
            have hBn := below_then hBE hBE.size hb
            clear hg hb hBE HTE
            go_wp2_with fail
            refine (run_kind _ _ us ms f la w11 ⟨_, _, rfl, by rw [HUS.out]; exact hN0, by rw [HMS.out]; exact hN1⟩ (by omega) HRT.out HAF.out (by have := HNL.out; omega) HKA.out).mono ?_
            rintro e w12 ⟨rfl, hb⟩
            unfold memZ
            have HTF := Lib.hid (HTE'.out.below hb)
            have hBf := below_then hBn hBn.size hb
            clear hb hBn HTE' hN0 hN1
            obtain ⟨w13, hw13⟩ : ∃ x : World, x = w12.alloc (.cells #[.slice none 0 0, .slice none 0 0, .bool false] 25) := ⟨_, rfl⟩
            have hb : Below w12.heap.size w12 w13 := by rw [hw13]; exact (Below.refl _ _).alloc (Nat.le_refl _) _
            have HNF := Lib.hid (show MBox w13 w12.heap.size (.slice none 0 0) (.slice none 0 0) false by rw [hw13]; exact MBox.new _ _ _ _)
            have HTG := Lib.hid (HTF.out.below hb)
            have hBg := below_then hBf hBf.size hb
            clear hb HTF hBf
            go_wp2_with fail
            rw [← hw13]
            clear hw13
            refine (equalG_same _ _ [] w13 ⟨none, 0, rfl, fun h => absurd rfl h⟩ ⟨none, 0, rfl, fun h => absurd rfl h⟩ (by decide)).mono ?_
            rintro e w14 ⟨rfl, hb⟩
            obtain ⟨ha0, ha1, ha2⟩ := (HNF.out.below hb).cells
            obtain ⟨ht0, ht1, ht2⟩ := (HTG.out.below hb).cells
            have hBh := below_then hBg hBg.size hb
            clear hb hBg HNF HTG
            go_wp2_with fail
            refine (refSame_t _ _ [] [] false w14 (nil_mem _) (nil_mem _) (by decide) (by decide)).mono ?_
            rintro e w15 ⟨rfl, hb⟩
            have hBi := below_then hBh hBh.size hb
            clear hb hBh ha0 ha1 ha2 ht0 ht1 ht2
            go_wp2
            go_ret
            exact ⟨rfl, hBi⟩
          · have hla0 : ((nl : Int) == 0) = false := by simp [hn0]
            clear hn0
            go_wp2_with fail
            rw [← hwE]
            clear hwE hx0 hx1 hx2 hx0' hx1' hx2' ht0 ht1 ht2 hf0 hf1 hf2
            refine (own_c _ _ f ws ls _ (H0.out.below hBE) (H1.out.below hBE) HWL.out HLL.out).mono ?_
            rintro e w11 ⟨hg, hb⟩
            obtain ⟨p6, n6, c6, p7, n7, c7, rfl, hN0, hN1⟩ := hg.reads
            have HTE' := Lib.hid (HTE.out.below hb)
            have HAF := Lib.hid (accs_below HAE.out hb)
            have hBn := below_then hBE hBE.size hb
            clear hg hb hBE HTE
            go_wp2_with fail
            refine (run_kind _ _ us ms f la w11 ⟨_, _, rfl, by rw [HUS.out]; exact hN0, by rw [HMS.out]; exact hN1⟩ (by omega) HRT.out HAF.out (by have := HNL.out; omega) HKA.out).mono ?_
            rintro e w12 ⟨rfl, hb⟩
            unfold memZ
            have HTF := Lib.hid (HTE'.out.below hb)
            have hBf := below_then hBn hBn.size hb
            clear hb hBn HTE' hN0 hN1
            obtain ⟨w13, hw13⟩ : ∃ x : World, x = w12.alloc (.cells #[.slice none 0 0, .slice none 0 0, .bool false] 25) := ⟨_, rfl⟩
            have hb : Below w12.heap.size w12 w13 := by rw [hw13]; exact (Below.refl _ _).alloc (Nat.le_refl _) _
            have HNF := Lib.hid (show MBox w13 w12.heap.size (.slice none 0 0) (.slice none 0 0) false by rw [hw13]; exact MBox.new _ _ _ _)
            have HTG := Lib.hid (HTF.out.below hb)
            have hBg := below_then hBf hBf.size hb
            clear hb HTF hBf
            go_wp2_with fail
            rw [← hw13]
            clear hw13
            refine (equalG_same _ _ [] w13 ⟨none, 0, rfl, fun h => absurd rfl h⟩ ⟨none, 0, rfl, fun h => absurd rfl h⟩ (by decide)).mono ?_
            rintro e w14 ⟨rfl, hb⟩
            obtain ⟨ha0, ha1, ha2⟩ := (HNF.out.below hb).cells
            obtain ⟨ht0, ht1, ht2⟩ := (HTG.out.below hb).cells
            have hBh := below_then hBg hBg.size hb
            clear hb hBg HNF HTG
            go_wp2_with fail
            refine (refSame_t _ _ [] [] false w14 (nil_mem _) (nil_mem _) (by decide) (by decide)).mono ?_
            rintro e w15 ⟨rfl, hb⟩
            have hBi := below_then hBh hBh.size hb
            clear hb hBh ha0 ha1 ha2 ht0 ht1 ht2
            go_wp2
            go_ret
            exact ⟨rfl, hBi⟩

end Go.Proofs.Ytgpbhdoidhhhhaa
