/-
  Words that are passed over, put between records: what has been put together; what lies where.
  Conditions: as each has them.
-/
import Derived.Test.YtjgdkfgcfningaaDoorSBack0
namespace Go.Proofs.YtjgdkfgcfningaaDoor
open Go.RowKit Go.Shelf
attribute [local go_sem] Oper.semAt_some

theorem and_four (w : Nat) (h : w < 18446744073709551616) : w &&& 18446744073709551612 = w / 4 * 4 := by
  have e : 18446744073709551612 = (2 ^ 62 - 1) <<< 2 := by decide
  have e2 : w / 4 * 4 = (w >>> 2) <<< 2 := by rw [Nat.shiftLeft_eq, Nat.shiftRight_eq_div_pow]
  rw [e, e2]
  apply Nat.eq_of_testBit_eq
  intro i
  rw [Nat.testBit_and, Nat.testBit_shiftLeft, Nat.testBit_shiftLeft, Nat.testBit_two_pow_sub_one, Nat.testBit_shiftRight]
  by_cases hi : 2 ≤ i
  · rw [show 2 + (i - 2) = i by omega]
    by_cases h64 : i - 2 < 62
    · simp [hi, h64]
    · have : w.testBit i = false := Nat.testBit_lt_two_pow (Nat.lt_of_lt_of_le h (Nat.pow_le_pow_right (n := 2) (by decide) (show 64 ≤ i by omega)))
      simp [this]
  · simp [hi]
theorem andNot_three (w : Nat) (h : w < 18446744073709551616) : bits .andNot .u64 (w : Int) 3 = ((w / 4 * 4 : Nat) : Int) := by
  have e : bits .andNot .u64 (w : Int) ((3 : Nat) : Int) = ((w &&& (18446744073709551615 - 3) : Nat) : Int) := u64_andNot_nat _ _ h (by decide)
  rw [show (18446744073709551615 - 3 : Nat) = 18446744073709551612 from rfl, and_four w h] at e
  exact e
theorem or_zero (w : Nat) (h : w < 18446744073709551616) : bits .or .u64 ((w / 4 * 4 : Nat) : Int) 0 = ((w / 4 * 4 : Nat) : Int) := by
  have e : bits .or .u64 ((w / 4 * 4 : Nat) : Int) ((0 : Nat) : Int) = ((w / 4 * 4 ||| 0 : Nat) : Int) := u64_or_nat _ _ (by omega) (by decide)
  rw [Nat.or_zero] at e
  exact e
theorem or_three (w : Nat) (h : w < 18446744073709551616) : bits .or .u64 ((w / 4 * 4 : Nat) : Int) 3 = ((w / 4 * 4 + 3 : Nat) : Int) := by
  have e : bits .or .u64 ((w / 4 * 4 : Nat) : Int) ((3 : Nat) : Int) = ((w / 4 * 4 ||| 3 : Nat) : Int) := u64_or_nat _ _ (by omega) (by decide)
  have e2 : w / 4 * 4 ||| 3 = w / 4 * 4 + 3 := by
    have := Nat.two_pow_add_eq_or_of_lt (i := 2) (b := 3) (by decide) (w / 4)
    rw [show 2 ^ 2 * (w / 4) = w / 4 * 4 by omega] at this
    exact this.symm
  rw [e2] at e
  exact e
/-- Where a record begins. -/
def atR (R : List (List Nat)) (i : Nat) : Nat := 1 + (R.take i).flatten.length
theorem atR_zero (R : List (List Nat)) : atR R 0 = 1 := rfl
theorem atR_succ (R : List (List Nat)) (i : Nat) (h : i < R.length) : atR R (i + 1) = atR R i + R[i].length := by
  unfold atR
  rw [List.take_succ_eq_append_getElem h, List.flatten_append, List.length_append]
  simp; omega
theorem flat_cut (R : List (List Nat)) (i : Nat) (h : i < R.length) : R.flatten = (R.take i).flatten ++ (R[i] ++ (R.drop (i + 1)).flatten) := by
  rw [← List.flatten_cons, ← List.drop_eq_getElem_cons h, ← List.flatten_append, List.take_append_drop]
theorem atR_fit (R : List (List Nat)) (i : Nat) (h : i < R.length) : atR R i + R[i].length ≤ 1 + R.flatten.length := by
  have := congrArg List.length (flat_cut R i h)
  simp only [List.length_append] at this
  unfold atR; omega
theorem atR_all (R : List (List Nat)) : atR R R.length = 1 + R.flatten.length := by unfold atR; rw [List.take_length]
theorem word_at (F : Nat) (R : List (List Nat)) (i : Nat) (h : i < R.length) (j : Nat) (hj : j < R[i].length) : (F :: R.flatten)[atR R i + j]? = some R[i][j] := by
  rw [flat_cut R i h]
  unfold atR
  rw [show 1 + (R.take i).flatten.length + j = ((R.take i).flatten.length + j) + 1 by omega, List.getElem?_cons_succ, List.getElem?_append_right (by omega), show (R.take i).flatten.length + j - (R.take i).flatten.length = j by omega, List.getElem?_append_left hj]
  exact List.getElem?_eq_getElem hj
theorem runs_few : ∀ {rs : List (Int × Nat)}, OkR rs → rs.length ≤ (flatR rs).length
  | [], _ => Nat.le_refl _
  | x :: r, h => by
    have h1 := h.head.1
    have h2 := runs_few h.tail
    simp only [flatR, List.length_append, List.length_replicate, List.length_cons]
    omega
theorem tot_cut : ∀ (ls : List (List CallM)) (i : Nat) (h : i < ls.length), tot (ls.take (i + 1)) = tot (ls.take i) + ls[i].length
  | l :: r, 0, _ => by simp [tot]
  | l :: r, i + 1, h => by
    simp only [List.take_succ_cons, tot, List.getElem_cons_succ]
    rw [tot_cut r i (by simpa using h)]; omega
theorem tot_le : ∀ (ls : List (List CallM)) (i : Nat), tot (ls.take i) ≤ tot ls
  | [], i => by simp [tot]
  | l :: r, 0 => by simp [tot]
  | l :: r, i + 1 => by
    have := tot_le r i
    simp only [List.take_succ_cons, tot]; omega
theorem runRecs_len : ∀ rs : List (Int × Nat), (runRecs rs).length = rs.length
  | [] => rfl
  | r :: rs => by simp [runRecs, runRecs_len rs]
theorem recs_few {s : SM} (h : okS s) : (recsL s).length ≤ 4160 := by
  obtain ⟨_, _, _, h4, h5, _⟩ := h
  have h1 : (runRecs (runsR s.ps)).length = (runsR s.ps).length := runRecs_len _
  have h2 := runs_few (runs_ok s.ps)
  rw [runs_flat] at h2
  simp only [recsL, List.length_append, callRecs_length, h1]
  omega
theorem words_form (s : SM) : wordsL s = firstN s :: (recsL s).flatten := by rw [recs_flat]; rfl
set_option maxRecDepth 100000 in
theorem run_midW (b off n c l m : Nat) (h : l < n) (h2 : l + m ≤ n) (h3 : n ≤ c) (w : World) : (Instr.slice 32 (.slice (some ⟨b, off, none⟩) n c) (some (.int .i64 (l : Int))) (some (.int .i64 ((l + m : Nat) : Int))) none).run Tryd.prog w = .ok (.slice (some ⟨b, off + l, none⟩) m (c - l)) w := by
  rw [run_slice_lh w 32 (some ⟨b, off, none⟩) n c Tryd.underlying32 .i64 .i64 (l : Int) ((l + m : Nat) : Int) (by omega) (by omega) (by omega), words_size]
  have e : (if c = l then some (⟨b, off, none⟩ : Addr) else some ((⟨b, off, none⟩ : Addr).add l)) = some ⟨b, off + l, none⟩ := by
    rw [if_neg (by omega), addr_add_off]
  have e3 : ((l : Int) + (m : Int)).toNat - l = m := by omega
  simp [sliced, Result.andThen, e, e3]

theorem WAt.cell {w : World} {p : Option Addr} {n d : Nat} {ws : List Nat} (h : WAt w p n d ws) (hn : 0 < n) : ∃ b off, p = some ⟨b, off, none⟩ ∧ ∀ i (hi : i < ws.length), w.cell? ⟨b, off + i, none⟩ = some (.int .u64 (ws[i] : Int)) := by
  obtain ⟨q, cap, e, hc⟩ := h.nums
  injection e with e1 e2 e3
  subst e1
  have hl := h.len
  obtain ⟨b, off, hq, hcs⟩ := hc (by intro e; have := congrArg List.length e; rw [List.length_map] at this; simp at this; rw [this] at hl; simp at hl; omega)
  refine ⟨b, off, hq, fun i hi => ?_⟩
  have := hcs i (by rw [List.length_map]; exact hi)
  rw [List.getElem_map] at this
  exact this
/-- What holds while words are put together. -/
structure PassIn (w4 : World) (F c : Nat) (R : List (List Nat)) (q8 : Option Addr) (c8 i : Nat) (o : List Nat) (X : World) : Prop where
  own : X.ownsRow w4.heap.size 37 1 (.slice q8 (o.length + 1) c8) (o.length + 1) ((F :: o).map nv)
  mix : Mixed c R i o
  lt : ∀ x ∈ o, x < 18446744073709551616
  b : Below w4.heap.size w4 X
theorem PassIn.on {w4 : World} {F c : Nat} {R : List (List Nat)} {q8 : Option Addr} {c8 i : Nat} {o : List Nat} {X Y : World} (h : PassIn w4 F c R q8 c8 i o X) (hb : Below X.heap.size X Y) : PassIn w4 F c R q8 c8 i o Y :=
  ⟨owns_below h.own hb, h.mix, h.lt, below_then h.b h.b.size hb⟩
theorem PassIn.app {w4 : World} {F c : Nat} {R : List (List Nat)} {q8 q9 : Option Addr} {c8 c9 i i' m : Nat} {o zs : List Nat} {X Y : World} (h : PassIn w4 F c R q8 c8 i o X) (hg : X.grownBy Y (Value.slice q8 (o.length + 1) c8).ownBlock)
    (ho : Y.ownsRow w4.heap.size 37 1 (.slice q9 (o.length + 1 + m) c9) (o.length + 1 + m) ((F :: o).map nv ++ zs.map nv)) (hl : zs.length = m) (hm : Mixed c R i' (o ++ zs)) (hz : ∀ x ∈ zs, x < 18446744073709551616) : PassIn w4 F c R q9 c9 i' (o ++ zs) Y := by
  subst hl
  have e : (o ++ zs).length + 1 = o.length + 1 + zs.length := by rw [List.length_append]; omega
  refine ⟨by rw [e, ← List.cons_append, List.map_append]; exact ho, hm, fun x hx => ?_, h.b.grown hg h.b.size (fun q e => (h.own.lt q e).1)⟩
  rcases List.mem_append.1 hx with hx | hx
  · exact h.lt x hx
  · exact hz x hx

end Go.Proofs.YtjgdkfgcfningaaDoor
