/-
  SizeParts returns true for every block, and class; what was in memory stays.
  Conditions: the package's table of sizes is as it was laid; the ranges of Go's types.
-/
import Derived.Test.YtklbbcaebdfjeaaDoorZWakes
import Derived.Test.YtklbbcaebdfjeaaDoorZApart
import Derived.Test.YtklbbcaebdfjeaaDoorZMath
namespace Go.Proofs.YtklbbcaebdfjeaaDoor
open Go.RowKit Go.Shelf
attribute [local go_sem] Oper.semAt_some

/-- The parts, as pairs of numbers. -/
def inI (a j n : Nat) : List (Int × Int) := (inL a j n).map fun p => ((p.1 : Int), (p.2 : Int))
theorem inI_length (a j n : Nat) : (inI a j n).length = n := by simp [inI, inL_length]
theorem inI_get {a j n i : Nat} (h : i < (inI a j n).length) : (inI a j n)[i] = (((a + i * szN j : Nat) : Int), (j : Int)) := by
  have h2 : i < n := by rw [inI_length] at h; exact h
  simp [inI, inL, inAt]
theorem flatB_get : ∀ (l : List (Nat × Nat)) (i : Nat) (h : i < l.length), (flatB l)[i * 2]? = some (.int .i64 (l[i].1 : Int)) ∧ (flatB l)[i * 2 + 1]? = some (.int .i64 (l[i].2 : Int))
  | p :: t, 0, _ => ⟨rfl, rfl⟩
  | p :: t, i + 1, h => by
    have := flatB_get t i (by simpa using h)
    rw [show (i + 1) * 2 = i * 2 + 1 + 1 by omega]
    simpa [flatB] using this
theorem blks_of_owns {B n : Nat} {l : List (Nat × Nat)} {w : World} {v : Value} (hl : l.length = n) (h : w.ownsRow B 33 2 v n (flatB l)) : BlksAt w v (l.map fun p => ((p.1 : Int), (p.2 : Int))) := by
  rcases h.2 with ⟨rfl, h0⟩ | ⟨g, cap, cur, rfl, _⟩
  · obtain rfl : l = [] := by rw [h0] at hl; exact List.eq_nil_of_length_eq_zero hl
    exact ⟨none, 0, rfl, fun h => absurd rfl h⟩
  · refine ⟨_, cap, by rw [List.length_map, hl], fun _ => ⟨g, 0, rfl, fun i hi => ?_⟩⟩
    have hi2 : i < l.length := by simpa using hi
    obtain ⟨f0, f1⟩ := flatB_get l i hi2
    have hL : (flatB l).length = n * 2 := h.1
    have c0 := h.cellAt (i * 2) (by omega)
    have c1 := h.cellAt (i * 2 + 1) (by omega)
    rw [f0] at c0
    rw [f1] at c1
    simpa using ⟨c0, c1⟩
/-- A part lies in its block. -/
theorem part_ok1 {n k j i : Nat} (hk : k < 4) (hj : j ≤ k) (hn : n + szN k ≤ 4096) (hm : n % szN k = 0) (hi : i < inN k j) :
    mayB ((n + i * szN j : Nat) : Int) (j : Int) = true ∧ aroundA ((n + i * szN j : Nat) : Int) (j : Int) (k : Int) = ((n : Int), (k : Int), 0) ∧ ovB ((n + i * szN j : Nat) : Int) (j : Int) (n : Int) (k : Int) = true ∧ i * szN j + szN j ≤ szN k := by
  have hj4 : j < 4 := by omega
  obtain ⟨e1, e2, e3⟩ := inN_mul hk hj
  have h1 := sz_ok hj4
  have h2 := sz_ok hk
  have hle : i * szN j + szN j ≤ szN k := by
    have := Nat.mul_le_mul_right (szN j) hi
    rw [Nat.succ_mul] at this
    omega
  have hdvd : szN k % szN j = 0 := by rw [← e1]; exact Nat.mul_mod_left _ _
  have hnm : n % szN j = 0 := by
    obtain ⟨q, hq⟩ := Nat.dvd_of_mod_eq_zero hm
    obtain ⟨p, hp⟩ := Nat.dvd_of_mod_eq_zero hdvd
    rw [hq, hp, Nat.mul_assoc]
    exact Nat.mul_mod_right _ _
  have hmay : mayB ((n + i * szN j : Nat) : Int) (j : Int) = true := by
    rw [mayB_nat hj4]
    refine decide_eq_true ⟨by omega, ?_⟩
    rw [Nat.add_mod, hnm, Nat.mul_mod_left]
    simp
  have hmayk : mayB (n : Int) (k : Int) = true := by rw [mayB_nat hk]; exact decide_eq_true ⟨hn, hm⟩
  have hmod : (n + i * szN j) % szN k = i * szN j := by
    rw [Nat.add_mod, hm, Nat.zero_add, Nat.mod_mod, Nat.mod_eq_of_lt (by omega)]
  refine ⟨hmay, ?_, ?_, hle⟩
  · unfold aroundA arA
    rw [if_pos hmay, Int.toNat_natCast, Int.toNat_natCast, if_pos (show ((j : Nat) : Int) ≤ (k : Int) ∧ (k : Int) < 4 by omega), Int.toNat_natCast, hmod, Nat.add_sub_cancel]
    rfl
  · unfold ovB
    rw [hmay, hmayk, Int.toNat_natCast, Int.toNat_natCast]
    simp
    omega
/-- Parts are apart. -/
theorem parts_apart {n k j : Nat} (hk : k < 4) (hj : j ≤ k) (hn : n + szN k ≤ 4096) (hm : n % szN k = 0) : apB (inI n j (inN k j)) = true := by
  refine (apB_iff _).2 ⟨fun b hb => ?_, ?_⟩
  · obtain ⟨i, hi, rfl⟩ := List.mem_iff_getElem.1 hb
    rw [inI_get hi]
    rw [inI_length] at hi
    exact (part_ok1 hk hj hn hm hi).1
  · refine List.pairwise_iff_getElem.2 fun i i' hi hi' hlt => ?_
    rw [inI_get hi, inI_get hi']
    rw [inI_length] at hi hi'
    have h1 := (part_ok1 hk hj hn hm hi).1
    have h2 := (part_ok1 hk hj hn hm hi').1
    unfold ovB
    rw [h1, h2]
    simp only [Int.toNat_natCast, Bool.true_and, decide_eq_false_iff_not]
    have := Nat.mul_le_mul_right (szN j) (show i + 1 ≤ i' from hlt)
    rw [Nat.succ_mul] at this
    omega

set_option maxRecDepth 100000 in
set_option maxHeartbeats 8000000 in
theorem partsL_1 (a c d : Int) (ha : I64 a) (h1 : ¬ mayB a c = true) (W : World) (hT : Tab W) : Calls Tryd.prog 7 #[blkV a c, .int .i64 d] W fun e w' => e = .returned (.bool true) ∧ Below W.heap.size W w' := by
  obtain ⟨w1, hw1⟩ : ∃ X : World, X = W.alloc (.cells #[.int .i64 a, .int .i64 c] 33) := ⟨_, rfl⟩
  have hB1 : Below W.heap.size W w1 := by rw [hw1]; exact (Below.refl _ _).alloc (Nat.le_refl _) _
  have hX1 : BBox w1 W.heap.size a c := by rw [hw1]; exact BBox.new _ _ _
  have HW := Lib.hid (wakes_c w1 (hT.below hB1))
  have HS := Lib.hid (And.intro hX1 (And.intro (hT.below hB1) hB1))
  clear hX1 hT hB1
  go_enter Tryd.func7, Tryd.ntmps7
  go_wp2_with fail
  rw [← hw1]
  clear hw1
  refine HW.out.mono ?_
  rintro e w2 ⟨rfl, hb⟩
  have HS := Lib.hid (And.intro (HS.out.1.below hb) (And.intro (HS.out.2.1.below hb) (below_then HS.out.2.2 HS.out.2.2.size hb)))
  clear HW hb
  obtain ⟨d0, d1⟩ := HS.out.1.cells
  have HP := Lib.hid (parts_c a c d ha w2 HS.out.2.1)
  go_wp2_with fail
  refine HP.out.mono ?_
  rintro e w3 ⟨hp, hb⟩
  have HS := Lib.hid (And.intro (HS.out.1.below hb) (And.intro (HS.out.2.1.below hb) (below_then HS.out.2.2 HS.out.2.2.size hb)))
  clear HP hb d0 d1
  unfold PartsPost at hp
  rw [if_neg h1] at hp
  subst hp
  have HBE := Lib.hid HS.out.2.2
  go_wp2
  go_ret
  exact ⟨rfl, HBE.out⟩

set_option maxRecDepth 100000 in
set_option maxHeartbeats 8000000 in
theorem partsL_2 (a c d : Int) (ha : I64 a) (h1 : mayB a c = true) (h2 : ¬ isB d = true) (W : World) (hT : Tab W) : Calls Tryd.prog 7 #[blkV a c, .int .i64 d] W fun e w' => e = .returned (.bool true) ∧ Below W.heap.size W w' := by
  obtain ⟨w1, hw1⟩ : ∃ X : World, X = W.alloc (.cells #[.int .i64 a, .int .i64 c] 33) := ⟨_, rfl⟩
  have hB1 : Below W.heap.size W w1 := by rw [hw1]; exact (Below.refl _ _).alloc (Nat.le_refl _) _
  have hX1 : BBox w1 W.heap.size a c := by rw [hw1]; exact BBox.new _ _ _
  have HW := Lib.hid (wakes_c w1 (hT.below hB1))
  have HS := Lib.hid (And.intro hX1 (And.intro (hT.below hB1) hB1))
  clear hX1 hT hB1
  go_enter Tryd.func7, Tryd.ntmps7
  go_wp2_with fail
  rw [← hw1]
  clear hw1
  refine HW.out.mono ?_
  rintro e w2 ⟨rfl, hb⟩
  have HS := Lib.hid (And.intro (HS.out.1.below hb) (And.intro (HS.out.2.1.below hb) (below_then HS.out.2.2 HS.out.2.2.size hb)))
  clear HW hb
  obtain ⟨d0, d1⟩ := HS.out.1.cells
  have HP := Lib.hid (parts_c a c d ha w2 HS.out.2.1)
  go_wp2_with fail
  refine HP.out.mono ?_
  rintro e w3 ⟨hp, hb⟩
  have HS := Lib.hid (And.intro (HS.out.1.below hb) (And.intro (HS.out.2.1.below hb) (below_then HS.out.2.2 HS.out.2.2.size hb)))
  clear HP hb d0 d1
  unfold PartsPost at hp
  rw [if_pos h1, if_neg h2] at hp
  subst hp
  have HBE := Lib.hid HS.out.2.2
  go_wp2
  go_ret
  exact ⟨rfl, HBE.out⟩

set_option maxRecDepth 100000 in
set_option maxHeartbeats 8000000 in
theorem partsL_3 (a c d : Int) (ha : I64 a) (h1 : mayB a c = true) (h2 : isB d = true) (h3 : ¬ d ≤ c) (W : World) (hT : Tab W) : Calls Tryd.prog 7 #[blkV a c, .int .i64 d] W fun e w' => e = .returned (.bool true) ∧ Below W.heap.size W w' := by
  obtain ⟨w1, hw1⟩ : ∃ X : World, X = W.alloc (.cells #[.int .i64 a, .int .i64 c] 33) := ⟨_, rfl⟩
  have hB1 : Below W.heap.size W w1 := by rw [hw1]; exact (Below.refl _ _).alloc (Nat.le_refl _) _
  have hX1 : BBox w1 W.heap.size a c := by rw [hw1]; exact BBox.new _ _ _
  have HW := Lib.hid (wakes_c w1 (hT.below hB1))
  have HS := Lib.hid (And.intro hX1 (And.intro (hT.below hB1) hB1))
  clear hX1 hT hB1
  go_enter Tryd.func7, Tryd.ntmps7
  go_wp2_with fail
  rw [← hw1]
  clear hw1
  refine HW.out.mono ?_
  rintro e w2 ⟨rfl, hb⟩
  have HS := Lib.hid (And.intro (HS.out.1.below hb) (And.intro (HS.out.2.1.below hb) (below_then HS.out.2.2 HS.out.2.2.size hb)))
  clear HW hb
  obtain ⟨d0, d1⟩ := HS.out.1.cells
  have HP := Lib.hid (parts_c a c d ha w2 HS.out.2.1)
  go_wp2_with fail
  refine HP.out.mono ?_
  rintro e w3 ⟨hp, hb⟩
  have HS := Lib.hid (And.intro (HS.out.1.below hb) (And.intro (HS.out.2.1.below hb) (below_then HS.out.2.2 HS.out.2.2.size hb)))
  clear HP hb d0 d1
  unfold PartsPost at hp
  rw [if_pos h1, if_pos h2, if_neg (by omega)] at hp
  subst hp
  have HBE := Lib.hid HS.out.2.2
  go_wp2
  go_ret
  exact ⟨rfl, HBE.out⟩

set_option maxRecDepth 100000 in
set_option maxHeartbeats 8000000 in
theorem partsL_ok (n k j : Nat) (hk : k < 4) (hjk : j ≤ k) (hn : n + szN k ≤ 4096) (hm : n % szN k = 0) (W : World) (hT : Tab W) : Calls Tryd.prog 7 #[blkV (n : Int) (k : Int), .int .i64 (j : Int)] W fun e w' => e = .returned (.bool true) ∧ Below W.heap.size W w' := by
  have hj : j < 4 := by omega
  obtain ⟨hm1, hm2, hm3⟩ := inN_mul hk hjk
  obtain ⟨hs1, hs2⟩ := sz_ok hj
  obtain ⟨hq1, hq2⟩ := sz_ok hk
  have HPI := Lib.hid (fun (i : Nat) (hi : i < inN k j) => part_ok1 hk hjk hn hm hi)
  have HAP := Lib.hid (parts_apart hk hjk hn hm)
  have hmayk : mayB (n : Int) (k : Int) = true := by rw [mayB_nat hk]; exact decide_eq_true ⟨hn, hm⟩
  have HWK := Lib.hid (fun (X : World) (hX : Tab X) => words_c (k : Int) X hX)
  have HWJ := Lib.hid (fun (X : World) (hX : Tab X) => words_c (j : Int) X hX)
  rw [isB_nat hk, if_pos rfl, if_pos rfl, Int.toNat_natCast] at HWK
  rw [isB_nat hj, if_pos rfl, if_pos rfl, Int.toNat_natCast] at HWJ
  obtain ⟨w1, hw1⟩ : ∃ X : World, X = W.alloc (.cells #[.int .i64 (n : Int), .int .i64 (k : Int)] 33) := ⟨_, rfl⟩
  have hB1 : Below W.heap.size W w1 := by rw [hw1]; exact (Below.refl _ _).alloc (Nat.le_refl _) _
  have hX1 : BBox w1 W.heap.size n k := by rw [hw1]; exact BBox.new _ _ _
  have HW := Lib.hid (wakes_c w1 (hT.below hB1))
  have HS := Lib.hid (And.intro hX1 (And.intro (hT.below hB1) hB1))
  clear hX1 hT hB1
  go_enter Tryd.func7, Tryd.ntmps7
  go_wp2_with fail
  rw [← hw1]
  clear hw1
  refine HW.out.mono ?_
  rintro e w2 ⟨rfl, hb⟩
  have HS := Lib.hid (And.intro (HS.out.1.below hb) (And.intro (HS.out.2.1.below hb) (below_then HS.out.2.2 HS.out.2.2.size hb)))
  clear HW hb
  obtain ⟨d0, d1⟩ := HS.out.1.cells
  have HP := Lib.hid (parts_c n k j (i64_lit (by omega)) w2 HS.out.2.1)
  go_wp2_with fail
  refine HP.out.mono ?_
  rintro e w3 ⟨hp, hb⟩
  have HS := Lib.hid (And.intro (HS.out.1.below hb) (And.intro (HS.out.2.1.below hb) (below_then HS.out.2.2 HS.out.2.2.size hb)))
  clear HP hb d0 d1
  unfold PartsPost at hp
  rw [if_pos hmayk, if_pos (isB_nat hj), if_pos (by omega), Int.toNat_natCast, Int.toNat_natCast, Int.toNat_natCast] at hp
  obtain ⟨v, rfl, ho⟩ := hp
  have hbl : BlksAt w3 v (inI n j (inN k j)) := blks_of_owns (inL_length _ _ _) ho
  have hil : (inI n j (inN k j)).length = inN k j := inI_length _ _ _
  obtain ⟨p, cap, rfl, -⟩ := id hbl
  rw [hil] at hbl ⊢
  have HG := Lib.hid (show ∀ i, i < inN k j → (inI n j (inN k j))[i]? = some (((n + i * szN j : Nat) : Int), (j : Int)) from fun i hi => by rw [List.getElem?_eq_getElem (by rw [inI_length]; exact hi), inI_get])
  have HRG := Lib.hid (show ∀ b ∈ inI n j (inN k j), I64 b.1 from fun b hb => by
    obtain ⟨i, hi, rfl⟩ := List.mem_iff_getElem.1 hb
    rw [inI_get hi]
    rw [inI_length] at hi
    have := (HPI.out i hi).2.2.2
    exact i64_lit (by simp only; omega))
  clear ho
  generalize hI : inI n j (inN k j) = I at *
  generalize hmm : inN k j = m at *
  generalize szN j = s at *
  generalize szN k = q at *
  have HS := Lib.hid (And.intro HS.out.1 (And.intro HS.out.2.1 (And.intro hbl HS.out.2.2)))
  have HIL := Lib.hid hil
  have hmul : (m : Int) * (s : Int) = (q : Int) := by rw [← hm1]; simp
  have HM1 := Lib.hid hm1
  clear hbl hI hmm hil hm1 hm hmayk
  dsimp only
  obtain ⟨d0, d1⟩ := HS.out.1.cells
  go_wp2_with fail
  refine (HWK.out _ HS.out.2.1).mono ?_
  rintro e w4 ⟨rfl, rfl⟩
  clear HWK
  dsimp only
  go_wp2_with fail
  refine (HWJ.out _ HS.out.2.1).mono ?_
  rintro e w5 ⟨rfl, rfl⟩
  clear HWJ
  dsimp only
  have HA := Lib.hid (apart_c _ I w5 HS.out.2.2.1 HRG.out (by rw [HIL.out]; omega) HS.out.2.1)
  rw [HAP.out] at HA
  go_wp2_with fail
  refine HA.out.mono ?_
  rintro e w6 ⟨rfl, hb⟩
  have HS := Lib.hid (And.intro (HS.out.1.below hb) (And.intro (HS.out.2.1.below hb) (And.intro (HS.out.2.2.1.below hb) (below_then HS.out.2.2.2 HS.out.2.2.2.size hb))))
  clear HA hb HAP HRG d0 d1
  go_wp2
  go_loopw [60] (fun iv wr => ∃ i : Nat, i ≤ m ∧ iv = .int .i64 (i : Int) ∧ Hid (BBox wr W.heap.size n k ∧ Tab wr ∧ BlksAt wr (.slice p m cap) I ∧ Below W.heap.size W wr)) (fun iv _ => m - (intOf iv).toNat)
  case atStart => exact ⟨0, Nat.zero_le _, rfl, HS⟩
  case round =>
    obtain ⟨i, hi, rfl, HR⟩ := hrel
    by_cases hlt : i < m
    · obtain ⟨hp1, hp2, hp3, hp4⟩ := HPI.out i hlt
      obtain ⟨hil, hIe⟩ := List.getElem?_eq_some_iff.1 (HG.out i hlt)
      obtain ⟨p', cap', hv, hcs⟩ := HR.out.2.2.1
      rw [HIL.out] at hv
      injection hv with hv1 hv2 hv3
      subst hv1 hv3
      obtain ⟨b, off, rfl, hcs2⟩ := hcs (by intro e; rw [e] at hil; cases hil)
      obtain ⟨hx, hy⟩ := hcs2 i hil
      rw [hIe] at hx hy
      simp only at hx hy
      obtain ⟨t, ht⟩ : ∃ t, t = i * s := ⟨_, rfl⟩
      have hmul2 : (i : Int) * (s : Int) = (t : Int) := by rw [ht]; simp
      rw [← ht] at hp1 hp2 hp3 hp4 hx
      obtain ⟨x, hxe⟩ : ∃ x, x = n + t := ⟨_, rfl⟩
      have hadd : (n : Int) + (t : Int) = (x : Int) := by omega
      rw [← hxe] at hp1 hp2 hp3 hx
      have hx4 : x ≤ 4096 := by omega
      have HP2 := Lib.hid (And.intro hp2 hp3)
      clear hcs hcs2 hIe ht hxe hp1 hp2 hp3 hv2
      obtain ⟨w7, hw7⟩ : ∃ X : World, X = wr.alloc (.cells #[.int .i64 (x : Int), .int .i64 (j : Int)] 33) := ⟨_, rfl⟩
      have hb7 : Below wr.heap.size wr w7 := by rw [hw7]; exact (Below.refl _ _).alloc (Nat.le_refl _) _
      have hN7 : BBox w7 wr.heap.size x j := by rw [hw7]; exact BBox.new _ _ _
      have HS7 := Lib.hid (And.intro (HR.out.1.below hb7) (And.intro (HR.out.2.1.below hb7) (And.intro (HR.out.2.2.1.below hb7) (below_then HR.out.2.2.2 HR.out.2.2.2.size hb7))))
      have HN7 := Lib.hid hN7
      obtain ⟨y, hy7⟩ : ∃ y, y = wr.heap.size := ⟨_, rfl⟩
      have HY := Lib.hid hy7
      obtain ⟨d0, d1⟩ := HS7.out.1.cells
      obtain ⟨g0, g1⟩ := hN7.cells
      rw [hw7] at d0 d1 g0 g1
      rw [← hy7] at HN7
      have HAR := Lib.hid (aroundF_c x j k (i64_lit (by omega)) w7 HS7.out.2.1)
      rw [HP2.out.1] at HAR
      clear hb7 hN7 HR hy7
      go_wp2_with fail
      rw [← hw7, ← HY.out]
      clear hw7 HY d0 d1 g0 g1 hx hy
      refine HAR.out.mono ?_
      rintro e w8 ⟨rfl, hb⟩
      have HS8 := Lib.hid (And.intro (HS7.out.1.below hb) (And.intro (HS7.out.2.1.below hb) (And.intro (HS7.out.2.2.1.below hb) (below_then HS7.out.2.2.2 HS7.out.2.2.2.size hb))))
      have HN8 := Lib.hid (HN7.out.below hb)
      clear hb HS7 HN7 HAR
      dsimp only
      obtain ⟨w9, hw9⟩ : ∃ X : World, X = w8.alloc (.cells #[.int .i64 (n : Int), .int .i64 (k : Int)] 33) := ⟨_, rfl⟩
      have hb9 : Below w8.heap.size w8 w9 := by rw [hw9]; exact (Below.refl _ _).alloc (Nat.le_refl _) _
      have hM9 : BBox w9 w8.heap.size n k := by rw [hw9]; exact BBox.new _ _ _
      have HS9 := Lib.hid (And.intro (HS8.out.1.below hb9) (And.intro (HS8.out.2.1.below hb9) (And.intro (HS8.out.2.2.1.below hb9) (below_then HS8.out.2.2.2 HS8.out.2.2.2.size hb9))))
      have HN9 := Lib.hid (HN8.out.below hb9)
      obtain ⟨d0, d1⟩ := HS9.out.1.cells
      obtain ⟨g0, g1⟩ := HN9.out.cells
      obtain ⟨m0, m1⟩ := hM9.cells
      have HO := Lib.hid (over_c x j n k (i64_lit (by omega)) (i64_lit (by omega)) w9 HS9.out.2.1)
      rw [HP2.out.2] at HO
      have hne := run_neq_blk (n : Int) k n k
      rw [show (!decide ((n : Int) = n ∧ (k : Int) = k)) = false by simp] at hne
      have hne2 : ((x : Int) != (x : Int)) = false := by rw [bne_eq_false_iff_eq]
      rw [hw9] at d0 d1 g0 g1 m0 m1
      clear hb9 hM9 HS8 HN8
      go_wp2_with fail
      rw [← hw9]
      clear hw9 d0 d1 g0 g1 m0 m1
      refine HO.out.mono ?_
      rintro e wa ⟨rfl, hb⟩
      have HSa := Lib.hid (And.intro (HS9.out.1.below hb) (And.intro (HS9.out.2.1.below hb) (And.intro (HS9.out.2.2.1.below hb) (below_then HS9.out.2.2.2 HS9.out.2.2.2.size hb))))
      clear hb HS9 HN9 HO
      go_wp2
      go_roundw
      case rel => exact ⟨i + 1, by omega, by go_num, HSa⟩
      case measure => simp [intOf]; omega
    · have HBE := Lib.hid HR.out.2.2.2
      go_wp2
      go_ret
      exact ⟨rfl, HBE.out⟩

theorem partsL_walk (a c d : Int) (ha : I64 a) (_ : I64 c) (_ : I64 d) (W : World) (hT : Tab W) : Calls Tryd.prog 7 #[blkV a c, .int .i64 d] W fun e w' => e = .returned (.bool true) ∧ Below W.heap.size W w' := by
  by_cases h1 : mayB a c = true
  · by_cases h2 : isB d = true
    · by_cases h3 : d ≤ c
      · obtain ⟨k, n, rfl, hk, rfl, hn, hm⟩ := mayB_yes h1
        obtain ⟨j, rfl, hj⟩ := isB_yes h2
        exact partsL_ok n k j hk (by omega) (by have := (sz_ok hk).2; omega) hm W hT
      · exact partsL_3 a c d ha h1 h2 h3 W hT
    · exact partsL_2 a c d ha h1 h2 W hT
  · exact partsL_1 a c d ha h1 W hT

end Go.Proofs.YtklbbcaebdfjeaaDoor
