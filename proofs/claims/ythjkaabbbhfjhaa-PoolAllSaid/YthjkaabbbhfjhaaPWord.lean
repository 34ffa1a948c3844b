/-
  Package pool: Word, and Page.
  Conditions: a row has at most 2 to the power 62 numbers.
-/
import Derived.Test.YthjkaabbbhfjhaaPTell
namespace Go.Proofs.Ythjkaabbbhfjhaa
open Go.RowKit Go.Shelf
attribute [local go_sem] Oper.semAt_some

theorem fits_parts {b p : Int} (h : fitsB b p = true) : 0 ≤ b ∧ b ≤ 4096 ∧ b % 16 = 0 ∧ 0 ≤ p ∧ p ≤ 64 ∧ b + 16 * p ≤ 4096 := by
  unfold fitsB at h; simp only [Bool.and_eq_true, decide_eq_true_eq, and_assoc] at h; exact h
theorem has_parts {p n : Int} (h : hasB p n = true) : 0 ≤ n ∧ n < p := by
  unfold hasB at h; simp only [Bool.and_eq_true, decide_eq_true_eq] at h; exact h
def wordM (b pg : Int) (fs : List Int) (n : Int) : Int × Int := if rightP b pg fs = true then (if hasB pg n = true then (b + 16 * n, 0) else (0, 2)) else (0, 170)
def pageM (b pg : Int) (fs : List Int) (w : Int) : Int × Int × Int := if rightP b pg fs = true then (if b ≤ w ∧ w < b + 16 * pg then ((w - b) / 16, (w - b) % 16, 0) else (0, 0, 2)) else (0, 0, 170)

set_option maxRecDepth 100000 in
set_option maxHeartbeats 4000000 in
theorem word_c (b pg n : Int) (p : Option Addr) (c : Nat) (fs : List Int) (W : World) (hmax : fs.length ≤ 4611686018427387904) (hl : NumsAt W .i64 (.slice p fs.length c) fs) :
    Calls Try.prog 14 #[.agg #[.int .i64 b, .int .i64 pg, .slice p fs.length c], .int .i64 n] W fun e w' => e = .returned (.tuple #[.int .i64 (wordM b pg fs n).1, .int .i64 (wordM b pg fs n).2]) ∧ Below W.heap.size W w' := by
  obtain ⟨w0, hw0⟩ : ∃ X : World, X = W.alloc (.cells #[.int .i64 b, .int .i64 pg, .slice p fs.length c] 24) := ⟨_, rfl⟩
  have hb0 : Below W.heap.size W w0 := by rw [hw0]; exact below1 _ _
  have HC := Lib.hid (check_c b pg p c fs w0 hmax (nums_below hl hb0))
  have HH := Lib.hid (fun Z : World => has_c b pg n (.slice p fs.length c) Z)
  have HPX := Lib.hid (show PBox w0 W.heap.size b pg (.slice p fs.length c) by rw [hw0]; exact PBox.new _ _ _ _)
  obtain ⟨c0, c1, c2⟩ := HPX.out.cells
  have HB0 := Lib.hid hb0
  clear hb0 hl
  unfold wordM
  cases hr : rightP b pg fs with
  | false =>
    rw [hr] at HC
    rw [if_neg (by simp)] at HC ⊢
    clear hr
    go_enter Try.func14, Try.ntmps14
    go_wp2_with fail
    rw [← hw0]
    clear hw0
    refine HC.out.mono ?_
    rintro e w1 ⟨rfl, hb1⟩
    have HB1 := Lib.hid (below_then HB0.out HB0.out.size hb1)
    clear hb1 c0 c1 c2 HC
    go_wp2
    go_ret2
    exact ⟨rfl, HB1.out⟩
  | true =>
    obtain ⟨hf0, hf1, -, hf2, hf3, -⟩ := fits_parts (rightP_iff.1 hr).1
    rw [hr] at HC
    rw [if_pos rfl] at HC ⊢
    clear hr
    cases hn : hasB pg n with
    | false =>
      rw [hn] at HH
      rw [if_neg (by simp)]
      clear hn
      go_enter Try.func14, Try.ntmps14
      go_wp2_with fail
      rw [← hw0]
      clear hw0
      refine HC.out.mono ?_
      rintro e w1 ⟨rfl, hb1⟩
      have HB1 := Lib.hid (below_then HB0.out HB0.out.size hb1)
      have HP1 := Lib.hid (HPX.out.below hb1)
      clear hb1 c0 c1 c2 HC
      obtain ⟨c0, c1, c2⟩ := HP1.out.cells
      go_wp2_with fail
      refine (HH.out w1).mono ?_
      rintro e w2 ⟨rfl, hb2⟩
      have HB2 := Lib.hid (below_then HB1.out HB1.out.size hb2)
      clear hb2 c0 c1 c2
      go_wp2
      go_ret2
      exact ⟨rfl, HB2.out⟩
    | true =>
      obtain ⟨hn0, hn1⟩ := has_parts hn
      rw [hn] at HH
      rw [if_pos rfl]
      clear hn
      go_enter Try.func14, Try.ntmps14
      go_wp2_with fail
      rw [← hw0]
      clear hw0
      refine HC.out.mono ?_
      rintro e w1 ⟨rfl, hb1⟩
      have HB1 := Lib.hid (below_then HB0.out HB0.out.size hb1)
      have HP1 := Lib.hid (HPX.out.below hb1)
      clear hb1 c0 c1 c2 HC
      obtain ⟨c0, c1, c2⟩ := HP1.out.cells
      go_wp2_with fail
      refine (HH.out w1).mono ?_
      rintro e w2 ⟨rfl, hb2⟩
      have HB2 := Lib.hid (below_then HB1.out HB1.out.size hb2)
      have HP2 := Lib.hid (HP1.out.below hb2)
      clear hb2 c0 c1 c2
      obtain ⟨c0, c1, c2⟩ := HP2.out.cells
      go_wp2
      go_ret2
      exact ⟨by rw [show b + n * 16 = b + 16 * n by omega]; rfl, HB2.out⟩

/-- The question is made. -/
def wO (W : World) (b pg : Int) (v : Value) : World := (W.alloc (.cells #[.int .i64 b, .int .i64 pg, v] 24)).alloc (.cells #[.int .i64 (b + pg * 16)] 3)
theorem wO_facts (W : World) (b pg : Int) (v : Value) : PBox (wO W b pg v) W.heap.size b pg v ∧ (wO W b pg v).cell? ⟨W.heap.size + 1, 0, none⟩ = some (.int .i64 (b + pg * 16)) ∧ Below W.heap.size W (wO W b pg v) := by
  refine ⟨(PBox.new W b pg v).below (below1 _ _), ?_, below2 _ _ _⟩
  have := (Boxed.new (W.alloc (.cells #[.int .i64 b, .int .i64 pg, v] 24)) 3 (.int .i64 (b + pg * 16))).cell
  rw [World.size_alloc] at this
  exact this
set_option maxRecDepth 100000 in
set_option maxHeartbeats 4000000 in
theorem owner_c (b pg : Int) (v : Value) (hb : 0 ≤ b ∧ b ≤ 4096) (hp : 0 ≤ pg ∧ pg ≤ 64) (W : World) :
    Calls Try.prog 33 #[.agg #[.int .i64 b, .int .i64 pg, v]] W fun e w' => e = .returned (.func (.func 42) #[] #[.pointer (some ⟨W.heap.size, 0, none⟩), .pointer (some ⟨W.heap.size + 1, 0, none⟩)]) ∧ w' = wO W b pg v := by
  obtain ⟨h0, h1⟩ := hb
  obtain ⟨h2, h3⟩ := hp
  unfold wO
  go_enter Try.func33, Try.ntmps33
  go_wp2
  go_ret
  exact ⟨rfl, rfl⟩
set_option maxRecDepth 100000 in
set_option maxHeartbeats 4000000 in
theorem owner1_c (b pg w : Int) (v : Value) (z y : Nat) (hb : 0 ≤ b ∧ b ≤ 4096) (hp : 0 ≤ pg ∧ pg ≤ 64) (W : World) (hP : PBox W z b pg v) (hE : W.cell? ⟨y, 0, none⟩ = some (.int .i64 (b + pg * 16))) :
    Calls Try.prog 42 #[.int .i64 w, .pointer (some ⟨z, 0, none⟩), .pointer (some ⟨y, 0, none⟩)] W fun e w' => e = .returned (if b ≤ w ∧ w < b + 16 * pg then .tuple #[.int .i64 ((w - b) / 16), .int .i64 ((w - b) % 16), .bool true] else .tuple #[.int .i64 0, .int .i64 0, .bool false]) ∧ w' = W := by
  obtain ⟨h0, h1⟩ := hb
  obtain ⟨h2, h3⟩ := hp
  obtain ⟨c0, c1, c2⟩ := hP.cells
  clear hP
  by_cases ha : b ≤ w
  · by_cases hc : w < b + pg * 16
    · rw [if_pos ⟨ha, by omega⟩]
      have hd0 : 0 ≤ w - b := by omega
      go_enter Try.func42, Try.ntmps42
      go_wp2
      go_ret3
      exact ⟨rfl, rfl⟩
    · rw [if_neg (by omega)]
      go_enter Try.func42, Try.ntmps42
      go_wp2
      go_ret3
      exact ⟨rfl, rfl⟩
  · rw [if_neg (by omega)]
    go_enter Try.func42, Try.ntmps42
    go_wp2
    go_ret3
    exact ⟨rfl, rfl⟩
set_option maxRecDepth 100000 in
set_option maxHeartbeats 4000000 in
theorem page_c (b pg w : Int) (p : Option Addr) (c : Nat) (fs : List Int) (W : World) (hmax : fs.length ≤ 4611686018427387904) (hl : NumsAt W .i64 (.slice p fs.length c) fs) :
    Calls Try.prog 15 #[.agg #[.int .i64 b, .int .i64 pg, .slice p fs.length c], .int .i64 w] W fun e w' => e = .returned (.tuple #[.int .i64 (pageM b pg fs w).1, .int .i64 (pageM b pg fs w).2.1, .int .i64 (pageM b pg fs w).2.2]) ∧ Below W.heap.size W w' := by
  obtain ⟨w0, hw0⟩ : ∃ X : World, X = W.alloc (.cells #[.int .i64 b, .int .i64 pg, .slice p fs.length c] 24) := ⟨_, rfl⟩
  have hb0 : Below W.heap.size W w0 := by rw [hw0]; exact below1 _ _
  have HC := Lib.hid (check_c b pg p c fs w0 hmax (nums_below hl hb0))
  have HPX := Lib.hid (show PBox w0 W.heap.size b pg (.slice p fs.length c) by rw [hw0]; exact PBox.new _ _ _ _)
  obtain ⟨c0, c1, c2⟩ := HPX.out.cells
  have HB0 := Lib.hid hb0
  clear hb0 hl
  unfold pageM
  cases hr : rightP b pg fs with
  | false =>
    rw [hr] at HC
    rw [if_neg (by simp)] at HC ⊢
    clear hr
    go_enter Try.func15, Try.ntmps15
    go_wp2_with fail
    rw [← hw0]
    clear hw0
    refine HC.out.mono ?_
    rintro e w1 ⟨rfl, hb1⟩
    have HB1 := Lib.hid (below_then HB0.out HB0.out.size hb1)
    clear hb1 c0 c1 c2 HC
    go_wp2
    go_ret3
    exact ⟨rfl, HB1.out⟩
  | true =>
    obtain ⟨hf0, hf1, -, hf2, hf3, -⟩ := fits_parts (rightP_iff.1 hr).1
    rw [hr] at HC
    rw [if_pos rfl] at HC ⊢
    clear hr
    by_cases hin : b ≤ w ∧ w < b + 16 * pg
    all_goals
      first | rw [if_pos hin] | rw [if_neg hin]
      have HIN := Lib.hid hin
      clear hin
      go_enter Try.func15, Try.ntmps15
      go_wp2_with fail
      rw [← hw0]
      clear hw0
      refine HC.out.mono ?_
      rintro e w1 ⟨rfl, hb1⟩
      have HB1 := Lib.hid (below_then HB0.out HB0.out.size hb1)
      have HP1 := Lib.hid (HPX.out.below hb1)
      clear hb1 c0 c1 c2 HC
      obtain ⟨c0, c1, c2⟩ := HP1.out.cells
      go_wp2_with fail
      refine (owner_c b pg _ ⟨hf0, hf1⟩ ⟨hf2, hf3⟩ w1).mono ?_
      rintro e w2 ⟨rfl, rfl⟩
      have HO := Lib.hid (wO_facts w1 b pg (.slice p fs.length c))
      have HQ := Lib.hid (owner1_c b pg w (.slice p fs.length c) _ _ ⟨hf0, hf1⟩ ⟨hf2, hf3⟩ _ HO.out.1 HO.out.2.1)
      first | rw [if_pos HIN.out] at HQ | rw [if_neg HIN.out] at HQ
      obtain ⟨w3, hw3⟩ : ∃ X, X = wO w1 b pg (.slice p fs.length c) := ⟨_, rfl⟩
      rw [← hw3] at HQ HO ⊢
      have HB3 := Lib.hid (below_then HB1.out HB1.out.size HO.out.2.2)
      clear hw3 c0 c1 c2
      go_wp2_with fail
      refine HQ.out.mono ?_
      rintro e w4 ⟨rfl, rfl⟩
      clear HQ
      go_wp2
      go_ret3
      exact ⟨rfl, HB3.out⟩
end Go.Proofs.Ythjkaabbbhfjhaa
