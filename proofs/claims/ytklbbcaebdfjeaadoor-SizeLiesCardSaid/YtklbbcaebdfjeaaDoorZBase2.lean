/-
  Package size: Words, Many, Check, Place, Find.
  Conditions: the package's table of sizes is as it was laid; the ranges of Go's types.
-/
import Derived.Test.YtklbbcaebdfjeaaDoorZBase
namespace Go.Proofs.YtklbbcaebdfjeaaDoor
open Go.RowKit Go.Shelf
attribute [local go_sem] Oper.semAt_some

set_option maxHeartbeats 1000000 in
theorem many_c (k : Nat) (hk : k < 4) (W : World) (hT : Tab W) : Calls Tryd.prog 35 #[.int .i64 (k : Int)] W fun e w' => e = .returned (.int .i64 ((16 / szN k : Nat) : Int)) ∧ w' = W := by
  have hc := hT k hk
  obtain ⟨hs1, hs2⟩ := sz_ok hk
  obtain ⟨s, hs⟩ : ∃ s, s = szN k := ⟨_, rfl⟩
  rw [← hs] at hs1 hs2 hc ⊢
  have HQ := Lib.hid (show (16 : Int).tdiv (s : Int) = ((16 / s : Nat) : Int) by rfl)
  clear hs hT
  go_enter Tryd.func35, Tryd.ntmps35
  go_wp2
  go_ret
  exact ⟨ret_int (by first | exact HQ.out | (rw [← HQ.out]; done) | rfl), rfl⟩

set_option maxHeartbeats 1000000 in
theorem words_c (c : Int) (W : World) (hT : Tab W) : Calls Tryd.prog 13 #[.int .i64 c] W fun e w' => e = .returned (.tuple #[.int .i64 (if isB c = true then (szN c.toNat : Int) else 0), .int .i64 (if isB c = true then 0 else 2)]) ∧ w' = W := by
  cases hI : isB c with
  | false =>
    clear hT
    go_enter Tryd.func13, Tryd.ntmps13
    go_wp2_with fail
    refine (is_c c _).mono ?_
    rintro e w1 ⟨rfl, rfl⟩
    rw [hI]
    go_wp2
    go_ret2
    exact ⟨rfl, rfl⟩
  | true =>
    obtain ⟨k, rfl, hk⟩ := isB_yes hI
    have hc := hT k hk
    obtain ⟨hs1, hs2⟩ := sz_ok hk
    rw [if_pos rfl, if_pos rfl, Int.toNat_natCast]
    obtain ⟨s, hs⟩ : ∃ s, s = szN k := ⟨_, rfl⟩
    rw [← hs] at hs1 hs2 hc ⊢
    clear hs hT
    go_enter Tryd.func13, Tryd.ntmps13
    go_wp2_with fail
    refine (is_c k _).mono ?_
    rintro e w1 ⟨rfl, rfl⟩
    rw [hI]
    go_wp2
    go_ret2
    exact ⟨rfl, rfl⟩

set_option maxHeartbeats 1000000 in
theorem manyF_c (c : Int) (W : World) (hT : Tab W) : Calls Tryd.prog 14 #[.int .i64 c] W fun e w' => e = .returned (.tuple #[.int .i64 (if isB c = true then ((16 / szN c.toNat : Nat) : Int) else 0), .int .i64 (if isB c = true then 0 else 2)]) ∧ w' = W := by
  cases hI : isB c with
  | false =>
    clear hT
    go_enter Tryd.func14, Tryd.ntmps14
    go_wp2_with fail
    refine (is_c c _).mono ?_
    rintro e w1 ⟨rfl, rfl⟩
    rw [hI]
    go_wp2
    go_ret2
    exact ⟨rfl, rfl⟩
  | true =>
    obtain ⟨k, rfl, hk⟩ := isB_yes hI
    have HM := many_c k hk W hT
    rw [if_pos rfl, if_pos rfl, Int.toNat_natCast]
    obtain ⟨s, hs⟩ : ∃ s, s = 16 / szN k := ⟨_, rfl⟩
    rw [← hs] at HM ⊢
    have HMM := Lib.hid HM
    clear hs hT HM
    go_enter Tryd.func14, Tryd.ntmps14
    go_wp2_with fail
    refine (is_c k _).mono ?_
    rintro e w1 ⟨rfl, rfl⟩
    rw [hI]
    go_wp2_with fail
    refine HMM.out.mono ?_
    rintro e w1 ⟨rfl, rfl⟩
    go_wp2
    go_ret2
    exact ⟨rfl, rfl⟩

set_option maxHeartbeats 1000000 in
theorem check_c (a c : Int) (ha : I64 a) (W : World) (hT : Tab W) : Calls Tryd.prog 19 #[blkV a c] W fun e w' => e = .returned (.int .i64 (if mayB a c = true then 0 else 180)) ∧ Below W.heap.size W w' := by
  have hb : Below W.heap.size W (W.alloc (.cells #[.int .i64 a, .int .i64 c] 33)) := (Below.refl _ _).alloc (Nat.le_refl _) _
  have HC := Lib.hid (may_c a c ha _ (hT.below hb))
  clear hT ha
  cases hI : mayB a c with
  | false =>
    rw [hI] at HC
    go_enter Tryd.func19, Tryd.ntmps19
    go_wp2_with fail
    refine HC.out.mono ?_
    rintro e w1 ⟨rfl, hb1⟩
    have HB := Lib.hid (below_then hb hb.size hb1)
    clear hb hb1 HC
    go_wp2
    go_ret
    exact ⟨rfl, HB.out⟩
  | true =>
    rw [hI] at HC
    go_enter Tryd.func19, Tryd.ntmps19
    go_wp2_with fail
    refine HC.out.mono ?_
    rintro e w1 ⟨rfl, hb1⟩
    have HB := Lib.hid (below_then hb hb.size hb1)
    clear hb hb1 HC
    go_wp2
    go_ret
    exact ⟨rfl, HB.out⟩

/-- A block that may be. -/
theorem mayB_yes {a c : Int} (h : mayB a c = true) : ∃ k n : Nat, c = k ∧ k < 4 ∧ a = (n : Int) ∧ n ≤ 4096 - szN k ∧ n % szN k = 0 := by
  unfold mayB at h
  rw [Bool.and_eq_true] at h
  obtain ⟨k, rfl, hk⟩ := isB_yes h.1
  have h2 := of_decide_eq_true h.2
  rw [Int.toNat_natCast] at h2
  obtain ⟨hs1, hs2⟩ := sz_ok hk
  refine ⟨k, a.toNat, rfl, hk, by omega, by omega, ?_⟩
  have h3 := h2.2.2
  rw [show a = ((a.toNat : Nat) : Int) by omega] at h3
  exact_mod_cast h3
theorem mayB_nat {k n : Nat} (hk : k < 4) : mayB (n : Int) (k : Int) = decide (n + szN k ≤ 4096 ∧ n % szN k = 0) := by
  unfold mayB
  rw [isB_nat hk, Bool.true_and, Int.toNat_natCast]
  obtain ⟨hs1, hs2⟩ := sz_ok hk
  rw [Bool.eq_iff_iff]
  simp only [decide_eq_true_eq]
  constructor
  · rintro ⟨h1, h2, h3⟩; exact ⟨by omega, by exact_mod_cast h3⟩
  · rintro ⟨h1, h2⟩; exact ⟨by omega, by omega, by exact_mod_cast h2⟩

/-- What Find answers. -/
def findV (a c : Int) : Value := if mayB a c = true then .tuple #[.int .i64 ((a.toNat / 16 : Nat) : Int), .int .i64 ((a.toNat % 16 / szN c.toNat : Nat) : Int), .int .i64 0] else .tuple #[.int .i64 0, .int .i64 0, .int .i64 180]
set_option maxRecDepth 100000 in
set_option maxHeartbeats 1000000 in
theorem find_c (a c : Int) (ha : I64 a) (W : World) (hT : Tab W) : Calls Tryd.prog 18 #[blkV a c] W fun e w' => e = .returned (findV a c) ∧ Below W.heap.size W w' := by
  have hb : Below W.heap.size W (W.alloc (.cells #[.int .i64 a, .int .i64 c] 33)) := (Below.refl _ _).alloc (Nat.le_refl _) _
  have HC := Lib.hid (may_c a c ha _ (hT.below hb))
  unfold findV
  cases hI : mayB a c with
  | false =>
    rw [hI] at HC
    clear hT ha
    go_enter Tryd.func18, Tryd.ntmps18
    go_wp2_with fail
    refine HC.out.mono ?_
    rintro e w1 ⟨rfl, hb1⟩
    have HB := Lib.hid (below_then hb hb.size hb1)
    clear hb hb1 HC
    go_wp2
    go_ret3
    exact ⟨rfl, HB.out⟩
  | true =>
    rw [hI] at HC
    obtain ⟨k, n, rfl, hk, rfl, hn, -⟩ := mayB_yes hI
    obtain ⟨hs1, hs2⟩ := sz_ok hk
    rw [if_pos rfl, Int.toNat_natCast, Int.toNat_natCast]
    have HS := Lib.hid (fun (X : World) (hX : Tab X) => hX k hk)
    obtain ⟨s, hs⟩ : ∃ s, s = szN k := ⟨_, rfl⟩
    rw [← hs] at hs1 hs2 HS hn ⊢
    have HQ := Lib.hid (show ((n : Int).tmod 16).tdiv (s : Int) = ((n % 16 / s : Nat) : Int) by rfl)
    have HQ0 := Lib.hid (show (n : Int).tdiv 16 = ((n / 16 : Nat) : Int) by rfl)
    have hlt : n % 16 / s ≤ 16 := Nat.le_trans (Nat.div_le_self _ _) (by omega)
    clear hs
    go_enter Tryd.func18, Tryd.ntmps18
    go_wp2_with fail
    refine HC.out.mono ?_
    rintro e w1 ⟨rfl, hb1⟩
    have HB := Lib.hid (below_then hb hb.size hb1)
    have hc := HS.out _ ((hT.below hb).below hb1)
    have hd0 := below_cell (p := ⟨W.heap.size, 0, none⟩) (v := .int .i64 n) hb1 (by simp)
    have hd1 := below_cell (p := ⟨W.heap.size, 1, none⟩) (v := .int .i64 k) hb1 (by simp)
    clear hb hb1 HC HS hT
    go_wp2_with fail
    trace_state
    go_region
    go_wp2
    trace_state
    go_ret3
    exact ⟨rfl, HB.out.drew⟩

end Go.Proofs.YtklbbcaebdfjeaaDoor
