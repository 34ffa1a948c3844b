/-
  Log and Turn of package bits, for every word and number; what was in memory stays.
  Conditions: none but the ranges of Go's types.
-/
import Derived.Test.YtejendpkkdmjhaaCheck
namespace Go.Proofs.Ytejendpkkdmjhaa
open Go.RowKit Go.Shelf
attribute [local go_sem] Oper.semAt_some

/-- The last of these places at which the word has 1; -1, if none is. -/
def lastBit (w : Nat) (l : List Nat) : Int := l.foldl (fun k x => if w.testBit x then (x : Int) else k) (-1)
theorem lastBit_nil (w : Nat) : lastBit w [] = -1 := rfl
theorem lastBit_snoc (w : Nat) (l : List Nat) (x : Nat) : lastBit w (l ++ [x]) = if w.testBit x then (x : Int) else lastBit w l := by simp [lastBit]
theorem lastBit_upto (w k : Nat) : lastBit w (upto 0 k) = (lenN (w % 2 ^ k) : Int) - 1 := by
  induction k with
  | zero => simp [upto_zero, lastBit_nil, Nat.mod_one, lenN_zero]
  | succ k ih =>
    rw [upto_succ, lastBit_snoc, ih, lenN_step, Nat.zero_add, Nat.testBit_eq_decide_div_mod_eq]
    unfold bitN
    by_cases h : w / 2 ^ k % 2 = 1
    · simp [h]
    · simp [h]

set_option maxRecDepth 100000 in
set_option maxHeartbeats 4000000 in
theorem log_c (w : Nat) (hw : w < 18446744073709551616) (W : World) :
    Calls Try.prog 23 #[.int .u64 w] W fun e w' => e = .returned (.int .i64 ((lenN w : Int) - 1)) ∧ Below W.heap.size W w' := by
  refine (callsIn_wide (n := 9)).1 ?_
  refine callsIn_of_wp_marks Try.func23 rfl trivial ?_ rfl
  simp only [Try.ntmps23, List.size_toArray, List.length_cons, List.length_nil, Nat.reduceAdd, Nat.reduceSub, Array.replicate_succ, Array.replicate_zero, List.push_toArray, List.append_toArray, List.nil_append, List.cons_append]
  gi_wp2_with (refine ⟨trivial, ?_⟩; gi_at_call 48; refine (callsIn_wide.2 (low_c _ _)).mono ?_; rintro e w1 ⟨rfl, hb1⟩)
  have hbw := boxed_below ((Boxed.new W 23 (.int .u64 w)).alloc _) hb1
  have hbk := boxed_below (B := W.heap.size + 1) (t := 3) (v := .int .i64 (-1)) (by simpa using Boxed.new (W.alloc (Obj.cells #[Value.int IntKind.u64 w] 23)) 3 (.int .i64 (-1))) hb1
  have hB1 := below_then (((Below.refl _ W).alloc (Nat.le_refl _) _).alloc (by simp) _) (by simp; omega) hb1
  clear hb1
  refine wpIn_rangeBound rfl (by omega) (gf := 42) (bd := #[partV 0 64]) (lb := #[]) rfl trivial (enters_of Try.func42 (by kernel_rfl) rfl)
    (places_stops Fence.wide 8 trivial rfl (by omega) w1.heap.size 0 64 (by omega) w1 (Nat.le_refl _)) (fun h k => h.trans k) (fun W l o o' hl => KeepsNew.turn _ W l o o' hl) (Below.refl _ _) (fun _ => rfl)
    (fun pre X => (Boxed X W.heap.size 23 (.int .u64 w) ∧ Boxed X (W.heap.size + 1) 3 (.int .i64 (lastBit w pre))) ∧ Below W.heap.size W X) (fun _ _ _ => False)
    (OwnFrom.and (OwnFrom.and ((boxed_own _ _ _).from _) ((boxed_own _ _ _).from _)) (ownFrom_below (Nat.le_refl _) hB1.size))
    (fun _ _ _ _ _ hs _ _ => hs)
    ⟨⟨hbw, hbk⟩, hB1⟩
    (fun x a' _ => a' = { tmps := #[.int .u64 w, .pointer (some ⟨W.heap.size, 0, none⟩), .int .i64 0, .pointer (some ⟨W.heap.size + 1, 0, none⟩), .int .i64 x, partV 0 64, .func (.func 42) #[partV 0 64] #[], .int .i64 x, undef, undef, undef, undef, undef, undef, undef], defers := [] })
    (fun _ _ => ownFrom_pure _ _) ?assign ?body ?done ?stop
  case assign =>
    intro l pre x X K hi hK
    gi_wp2
    exact hK _ _ (KeepsFrom.refl _ _) (KeepsNew.refl _ _) hi rfl
  case body =>
    rintro l pre x a' X hl _ ⟨⟨hv, hk⟩, hB⟩ rfl hlt
    have hc := hv.cell
    have hf := hk.frozen
    have hck := hk.cell
    by_cases hbit : w.testBit x = true
    · have hbv := (bit_val w x hw).trans hbit
      gi_wp2
      refine ⟨(KeepsOthers.setCell _ _ _).from _, KeepsNew.setCell _ _ _ _ hbk.lt, ⟨hv.other (by omega) _, ?_⟩, hB.setCell (p := ⟨W.heap.size + 1, 0, none⟩) (Nat.le_succ _) _⟩
      rw [lastBit_snoc, if_pos hbit]
      exact hk.set _
    · have hbv := (bit_val w x hw).trans (by simpa using hbit)
      gi_wp2
      refine ⟨KeepsFrom.refl _ _, KeepsNew.refl _ _, ⟨hv, ?_⟩, hB⟩
      rw [lastBit_snoc, if_neg hbit]
      exact hk
  case done =>
    rintro D xs X hD rfl ⟨⟨hv, hk⟩, hB⟩ hK
    have hck := hk.cell
    gi_wp2
    refine leaves_marks (B := W.heap.size) [D] _ ((Marks.nil _ _).cons (Nat.le_trans hB1.size hD) (by simp) hK) fun W' hW' => ⟨_, results_tmp rfl _ _ _, ?_, hB.trans hW'⟩
    exact ret_int (by rw [lastBit_upto, Nat.mod_eq_of_lt (show w < 2 ^ 64 from hw)])
  case stop =>
    rintro D c pre X _ _ h _
    exact h.elim

/-- The bits of the word at these places, the first one highest. -/
def turnL (w : Nat) (l : List Nat) : Nat := l.foldl (fun t x => 2 * t % 18446744073709551616 ||| (if w.testBit x then 1 else 0)) 0
theorem turnL_snoc (w : Nat) (l : List Nat) (x : Nat) : turnL w (l ++ [x]) = 2 * turnL w l % 18446744073709551616 ||| (if w.testBit x then 1 else 0) := by simp [turnL]
theorem turnL_lt (w : Nat) (l : List Nat) : turnL w l < 18446744073709551616 := by
  suffices h : ∀ (l : List Nat) (t : Nat), t < 2 ^ 64 → l.foldl (fun t x => 2 * t % 18446744073709551616 ||| (if w.testBit x then 1 else 0)) t < 2 ^ 64 from h l 0 (by decide)
  intro l
  induction l with
  | nil => intro t h; exact h
  | cons x l ih => intro t h; exact ih _ (Nat.or_lt_two_pow (Nat.mod_lt _ (by decide)) (by split <;> decide))
theorem turnL_upto (w k : Nat) (hk : k ≤ 64) : turnL w (upto 0 k) = turnN w k := by
  induction k with
  | zero => rfl
  | succ k ih =>
    have hlt := turnN_lt w k
    have h63 : 2 ^ k ≤ 2 ^ 63 := Nat.pow_le_pow_right (by decide) (by omega)
    rw [upto_succ, turnL_snoc, ih (by omega), Nat.zero_add, Nat.mod_eq_of_lt (by omega)]
    have hb : (if w.testBit k = true then 1 else 0) = bitN w k := by
      rw [Nat.testBit_eq_decide_div_mod_eq]
      have := bitN_le w k
      unfold bitN at *
      split <;> simp_all <;> omega
    rw [hb, nat_join 1 _ _ (by omega) (by have := bitN_le w k; omega)]
    rfl
theorem bit_num (m x : Nat) (hm : m < 18446744073709551616) : bits .and .u64 ((m : Int) / 2 ^ min x 64) 1 = ((if m.testBit x then 1 else 0 : Nat) : Int) := by
  have hd : m / 2 ^ x < 18446744073709551616 := Nat.lt_of_le_of_lt (Nat.div_le_self _ _) hm
  rw [div_min m x hm, show (1 : Int) = ((1 : Nat) : Int) from rfl, u64_and_nat _ _ hd (by decide), nat_mask1, Nat.testBit_eq_decide_div_mod_eq]
  rcases Nat.mod_two_eq_zero_or_one (m / 2 ^ x) with e | e <;> rw [e] <;> simp

set_option maxHeartbeats 1000000 in
theorem turn_no (w : Nat) (n : Int) (h : ¬ (0 ≤ n ∧ n ≤ 64)) (W : World) :
    Calls Try.prog 27 #[.int .u64 w, .int .i64 n] W fun e w' => e = .returned (.tuple #[.int .u64 0, .int .i64 2]) ∧ Below W.heap.size W w' := by
  refine (callsIn_wide (n := 9)).1 ?_
  refine callsIn_of_wp_marks Try.func27 rfl trivial ?_ rfl
  simp only [Try.ntmps27, List.size_toArray, List.length_cons, List.length_nil, Nat.reduceAdd, Nat.reduceSub, Array.replicate_succ, Array.replicate_zero, List.push_toArray, List.append_toArray, List.nil_append, List.cons_append]
  by_cases h1 : n < 0
  · gi_wp2
    exact ⟨_, results_tmp2 rfl _ _ _, rfl, (Below.refl _ _).alloc (Nat.le_refl _) _⟩
  · have h2 : 64 < n := by omega
    gi_wp2
    exact ⟨_, results_tmp2 rfl _ _ _, rfl, (Below.refl _ _).alloc (Nat.le_refl _) _⟩

set_option maxHeartbeats 1000000 in
theorem turn_over (w n : Nat) (hw : w < 18446744073709551616) (hn : n ≤ 64) (hf : fitsB w n = false) (W : World) :
    Calls Try.prog 27 #[.int .u64 w, .int .i64 n] W fun e w' => e = .returned (.tuple #[.int .u64 0, .int .i64 111]) ∧ Below W.heap.size W w' := by
  refine (callsIn_wide (n := 9)).1 ?_
  refine callsIn_of_wp_marks Try.func27 rfl trivial ?_ rfl
  simp only [Try.ntmps27, List.size_toArray, List.length_cons, List.length_nil, Nat.reduceAdd, Nat.reduceSub, Array.replicate_succ, Array.replicate_zero, List.push_toArray, List.append_toArray, List.nil_append, List.cons_append]
  have h1 : ¬ (n : Int) < 0 := by omega
  have h2 : ¬ (64 : Int) < n := by omega
  gi_wp2_with fail
  refine ⟨trivial, (callsIn_wide.2 (fits_c w n hw hn _)).mono ?_⟩
  rintro e w1 ⟨rfl, hb1⟩
  gi_wp2
  exact ⟨_, results_tmp2 rfl _ _ _, rfl, below_then ((Below.refl _ _).alloc (Nat.le_refl _) _) (by simp) hb1⟩

theorem turn_val (t m x : Nat) (hm : m < 18446744073709551616) :
    bits .or .u64 (IntKind.u64.wrap ((t : Int) * 2)) (bits .and .u64 ((m : Int) / 2 ^ min x 64) 1) = ((2 * t % 18446744073709551616 ||| (if m.testBit x then 1 else 0) : Nat) : Int) := by
  rw [bit_num m x hm, wrap_u64, ← u64_or_nat _ _ (Nat.mod_lt _ (by decide)) (by split <;> decide)]
  congr 1
  omega

set_option maxRecDepth 100000 in
set_option maxHeartbeats 4000000 in
theorem turn_yes (w n : Nat) (hw : w < 18446744073709551616) (hn : n ≤ 64) (hf : fitsB w n = true) (W : World) :
    Calls Try.prog 27 #[.int .u64 w, .int .i64 n] W fun e w' => e = .returned (.tuple #[.int .u64 (turnN w n), .int .i64 0]) ∧ Below W.heap.size W w' := by
  refine (callsIn_wide (n := 9)).1 ?_
  refine callsIn_of_wp_marks Try.func27 rfl trivial ?_ rfl
  simp only [Try.ntmps27, List.size_toArray, List.length_cons, List.length_nil, Nat.reduceAdd, Nat.reduceSub, Array.replicate_succ, Array.replicate_zero, List.push_toArray, List.append_toArray, List.nil_append, List.cons_append]
  have h1 : ¬ (n : Int) < 0 := by omega
  have h2 : ¬ (64 : Int) < n := by omega
  gi_wp2_with fail
  refine ⟨trivial, (callsIn_wide.2 (fits_c w n hw hn _)).mono ?_⟩
  rintro e w1 ⟨rfl, hb1⟩
  have hbw := boxed_below (Boxed.new W 23 (.int .u64 w)) hb1
  have hB1 := below_then ((Below.refl _ W).alloc (Nat.le_refl _) _) (by simp) hb1
  have hne : W.heap.size < w1.heap.size := hbw.lt
  clear hb1
  gi_wp2_with fail
  refine ⟨trivial, (callsIn_wide.2 (low_c _ _)).mono ?_⟩
  rintro e w2 ⟨rfl, hb2⟩
  have hbw := boxed_below (hbw.alloc _) hb2
  have hbt := boxed_below (Boxed.new w1 23 (.int .u64 0)) hb2
  have hB2 := below_then (hB1.alloc hB1.size _) (by have := hB1.size; simp; omega) hb2
  clear hb2
  gi_wp2
  refine wpIn_rangeBound rfl (by omega) (gf := 42) (bd := #[partV 0 n]) (lb := #[]) rfl trivial (enters_of Try.func42 (by kernel_rfl) rfl)
    (places_stops Fence.wide 8 trivial rfl (by omega) w2.heap.size 0 n (by omega) w2 (Nat.le_refl _)) (fun h k => h.trans k) (fun W l o o' hl => KeepsNew.turn _ W l o o' hl) (Below.refl _ _) (fun _ => rfl)
    (fun pre X => (Boxed X W.heap.size 23 (.int .u64 w) ∧ Boxed X w1.heap.size 23 (.int .u64 (turnL w pre))) ∧ Below W.heap.size W X) (fun _ _ _ => False)
    (OwnFrom.and (OwnFrom.and ((boxed_own _ _ _).from _) ((boxed_own _ _ _).from _)) (ownFrom_below (Nat.le_refl _) hB2.size))
    (fun _ _ _ _ _ hs _ _ => hs)
    ⟨⟨hbw, hbt⟩, hB2⟩
    (fun x a' _ => a' = { tmps := #[.int .u64 w, .int .i64 n, .pointer (some ⟨W.heap.size, 0, none⟩), undef, .int .u64 0, .int .i64 0, .pointer (some ⟨w1.heap.size, 0, none⟩), .int .i64 x, .int .i64 n, .bool false, .bool false, .int .i64 n, .bool false, .bool false, .int .u64 w, .int .i64 n, .bool true, .bool false, .int .i64 n, partV 0 n, .func (.func 42) #[partV 0 n] #[], .int .i64 x, undef, undef, undef, undef, undef, undef, undef, undef], defers := [] })
    (fun _ _ => ownFrom_pure _ _) ?assign ?body ?done ?stop
  case assign =>
    intro l pre x X K hi hK
    gi_wp2
    exact hK _ _ (KeepsFrom.refl _ _) (KeepsNew.refl _ _) hi rfl
  case body =>
    rintro l pre x a' X hl _ ⟨⟨hv, hk⟩, hB⟩ rfl hlt
    have hc := hv.cell
    have hf := hk.frozen
    have hck := hk.cell
    have hmx : Try.prog.follows .mixedOrders = true := by kernel_rfl
    gi_wp2
    gi_region_o
    all_goals gi_wp2
    all_goals (try go_bits)
    all_goals
      rw [turn_val _ _ _ hw, ← turnL_snoc]
      exact ⟨((KeepsOthers.setCell _ _ _).trans (KeepsOthers.drew _)).from _, (KeepsNew.setCell _ _ _ _ hbt.lt).trans (KeepsNew.drew _ _), ⟨hv.other (by omega) _, hk.set _⟩, (hB.setCell (p := ⟨w1.heap.size, 0, none⟩) hB1.size _).drew⟩
  case done =>
    rintro D xs X hD rfl ⟨⟨hv, hk⟩, hB⟩ hK
    have hck := hk.cell
    gi_wp2
    refine leaves_marks (B := W.heap.size) [D] _ ((Marks.nil _ _).cons (Nat.le_trans hB2.size hD) (by simp) hK) fun W' hW' => ⟨_, results_tmp2 rfl _ _ _, ?_, hB.trans hW'⟩
    exact ret_two (val_int (by rw [turnL_upto w n hn])) rfl
  case stop =>
    rintro D c pre X _ _ h _
    exact h.elim

end Go.Proofs.Ytejendpkkdmjhaa
