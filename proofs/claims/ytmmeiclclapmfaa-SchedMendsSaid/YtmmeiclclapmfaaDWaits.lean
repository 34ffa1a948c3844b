/-
  behind, greatest and longest of package sched: waits as an array.
  Conditions: the waits are those behind a row of picks.
-/
import Derived.Test.YtmmeiclclapmfaaDCheck
import Derived.Laws.Rows
import Derived.Deep.Cut
namespace Go.Proofs.Ytmmeiclclapmfaa
open Go.RowKit Go.Shelf

/-- The array of waits. -/
def arr (c : Nat) (l : List Int) : List Int := wv c l ++ List.replicate (8 - c) 0
theorem arr_length {c : Nat} (h : c ≤ 8) (l : List Int) : (arr c l).length = 8 := by simp [arr, wv_length]; omega
def aggI (l : List Int) : Value := .agg (l.map (Value.int .i64)).toArray
/-- The first j are one more. -/
def incd (a : List Int) (j : Nat) : List Int := (a.take j).map (· + 1) ++ a.drop j
theorem incd_zero (a : List Int) : incd a 0 = a := by simp [incd]
theorem incd_length (a : List Int) (j : Nat) : (incd a j).length = a.length := by simp [incd]; omega
theorem incd_get (a : List Int) (j : Nat) (h : j < (incd a j).length) : (incd a j)[j] = a[j]'(by rwa [incd_length] at h) := by
  rw [incd_length] at h
  simp only [incd]
  rw [List.getElem_append_right (by simp; omega)]
  simp [show min j a.length = j by omega]
theorem incd_succ (a : List Int) (j : Nat) (h : j < a.length) : incd a (j + 1) = (incd a j).set j (a[j] + 1) := by
  apply List.ext_getElem
  · simp [incd_length]
  · intro i h1 h2
    rw [incd_length] at h1
    rw [List.getElem_set]
    simp only [incd]
    by_cases e : j = i
    · subst e
      rw [if_pos rfl, List.getElem_append_left (by simp; omega)]
      simp
    · rw [if_neg e]
      by_cases hlt : i < j
      · rw [List.getElem_append_left (by simp; omega), List.getElem_append_left (by simp; omega)]
        simp
      · rw [List.getElem_append_right (by simp; omega), List.getElem_append_right (by simp; omega)]
        simp [show min (j + 1) a.length = j + 1 by omega, show min j a.length = j by omega, show j + 1 + (i - (j + 1)) = i by omega, show j + (i - j) = i by omega]
theorem incd_arr {c : Nat} (l : List Int) (p : Nat) (hp : p < c) : (incd (arr c l) c).set p 0 = arr c (l ++ [(p : Int)]) := by
  have e : incd (arr c l) c = (wv c l).map (· + 1) ++ List.replicate (8 - c) 0 := by
    simp only [incd, arr]
    rw [List.take_append_of_le_length (by rw [wv_length]; omega), List.take_of_length_le (by rw [wv_length]; omega), List.drop_append_of_le_length (by rw [wv_length]; omega), List.drop_of_length_le (by rw [wv_length]; omega), List.nil_append]
  rw [e, List.set_append_left _ _ (by simpa [wv_length] using hp), arr, wv_snoc]
theorem arr_bd {c : Nat} (l : List Int) (hl : l.length ≤ 1099511627776) (j : Nat) (h : j < (arr c l).length) : 0 ≤ (arr c l)[j] ∧ (arr c l)[j] ≤ 1099511627776 := by
  simp only [arr] at h ⊢
  by_cases hj : j < (wv c l).length
  · rw [List.getElem_append_left hj, wv_get]
    have := waitL_le l (j : Int)
    omega
  · rw [List.getElem_append_right (by omega)]
    simp
theorem list8 {l : List Int} (h : l.length = 8) : ∃ a b c d e f g i, l = [a, b, c, d, e, f, g, i] := by
  match l, h with
  | [a, b, c, d, e, f, g, i], _ => exact ⟨a, b, c, d, e, f, g, i, rfl⟩
/-- Block b is a variable that holds waits. -/
def WBox (w : World) (b : Nat) (xs : List Int) : Prop := w.heap[b]? = some (.cells (xs.map (Value.int .i64)).toArray 46 (0, 0))
theorem WBox.lt {w : World} {b : Nat} {xs : List Int} (h : WBox w b xs) : b < w.heap.size := (Array.getElem?_eq_some_iff.1 h).1
theorem WBox.below {w w' : World} {b : Nat} {xs : List Int} (h : WBox w b xs) (hb : Below w.heap.size w w') : WBox w' b xs := (hb.block b h.lt).trans h
theorem WBox.keeps {S : Nat → Prop} {w w' : World} {b : Nat} {xs : List Int} (h : WBox w b xs) (hk : Keeps S w w') (hz : ¬ S b) : WBox w' b xs := (hk.block b h.lt hz).trans h
theorem WBox.other {w : World} {b : Nat} {xs : List Int} (h : WBox w b xs) {p : Addr} (hp : b ≠ p.block) (v : Value) : WBox (w.setCell p v) b xs := (heap_setCell_other _ _ _ _ hp).trans h
theorem WBox.set {w : World} {b : Nat} {xs : List Int} (h : WBox w b xs) (i : Nat) (x : Int) : WBox (w.setCell ⟨b, i, none⟩ (.int .i64 x)) b (xs.set i x) := block_set h i x
theorem WBox.cell {w : World} {b : Nat} {xs : List Int} (h : WBox w b xs) (i : Nat) (hi : i < xs.length) : w.cell? ⟨b, i, none⟩ = some (.int .i64 xs[i]) := block_cell h i hi
theorem WBox.free {w : World} {b : Nat} {xs : List Int} (h : WBox w b xs) (i : Nat) : w.frozen? ⟨b, i, none⟩ = false := block_free h i
theorem WBox.cells {w : World} {b : Nat} {x0 x1 x2 x3 x4 x5 x6 x7 : Int} (h : WBox w b [x0, x1, x2, x3, x4, x5, x6, x7]) :
    w.cell? ⟨b, 0, none⟩ = some (.int .i64 x0) ∧ w.cell? ⟨b, 1, none⟩ = some (.int .i64 x1) ∧ w.cell? ⟨b, 2, none⟩ = some (.int .i64 x2) ∧ w.cell? ⟨b, 3, none⟩ = some (.int .i64 x3) ∧
    w.cell? ⟨b, 4, none⟩ = some (.int .i64 x4) ∧ w.cell? ⟨b, 5, none⟩ = some (.int .i64 x5) ∧ w.cell? ⟨b, 6, none⟩ = some (.int .i64 x6) ∧ w.cell? ⟨b, 7, none⟩ = some (.int .i64 x7) :=
  ⟨h.cell 0 (by simp), h.cell 1 (by simp), h.cell 2 (by simp), h.cell 3 (by simp), h.cell 4 (by simp), h.cell 5 (by simp), h.cell 6 (by simp), h.cell 7 (by simp)⟩
theorem WBox.nums {w : World} {b : Nat} {xs : List Int} (h : WBox w b xs) (n c : Nat) (hn : n ≤ xs.length) : NumsAt w .i64 (.slice (some ⟨b, 0, none⟩) n c) (xs.take n) := nums_block h hn
/-- Eight stores write it whole. -/
def putW (w : World) (b : Nat) (xs : List Int) : World := (((((((w.setCell ⟨b, 0, none⟩ (.int .i64 (xs.getD 0 0))).setCell ⟨b, 1, none⟩ (.int .i64 (xs.getD 1 0))).setCell ⟨b, 2, none⟩ (.int .i64 (xs.getD 2 0))).setCell ⟨b, 3, none⟩ (.int .i64 (xs.getD 3 0))).setCell ⟨b, 4, none⟩ (.int .i64 (xs.getD 4 0))).setCell ⟨b, 5, none⟩ (.int .i64 (xs.getD 5 0))).setCell ⟨b, 6, none⟩ (.int .i64 (xs.getD 6 0))).setCell ⟨b, 7, none⟩ (.int .i64 (xs.getD 7 0))
theorem putW_eq (w : World) (b : Nat) (x0 x1 x2 x3 x4 x5 x6 x7 : Int) : putW w b [x0, x1, x2, x3, x4, x5, x6, x7] = (((((((w.setCell ⟨b, 0, none⟩ (.int .i64 x0)).setCell ⟨b, 1, none⟩ (.int .i64 x1)).setCell ⟨b, 2, none⟩ (.int .i64 x2)).setCell ⟨b, 3, none⟩ (.int .i64 x3)).setCell ⟨b, 4, none⟩ (.int .i64 x4)).setCell ⟨b, 5, none⟩ (.int .i64 x5)).setCell ⟨b, 6, none⟩ (.int .i64 x6)).setCell ⟨b, 7, none⟩ (.int .i64 x7) := rfl
theorem WBox.put {w : World} {b : Nat} {xs ys : List Int} (h : WBox w b xs) (hx : xs.length = 8) (hy : ys.length = 8) : WBox (putW w b ys) b ys := by
  obtain ⟨x0, x1, x2, x3, x4, x5, x6, x7, rfl⟩ := list8 hx
  obtain ⟨y0, y1, y2, y3, y4, y5, y6, y7, rfl⟩ := list8 hy
  exact (((((((h.set 0 y0).set 1 y1).set 2 y2).set 3 y3).set 4 y4).set 5 y5).set 6 y6).set 7 y7
theorem putW_keeps (w : World) (b : Nat) (xs : List Int) : Keeps (fun q => q = b) w (putW w b xs) := by
  unfold putW
  exact ((((((((Keeps.refl _ w).trans (Keeps.setCell _ (S := fun q => q = b) (p := ⟨b, 0, none⟩) rfl _)).trans (Keeps.setCell _ (S := fun q => q = b) (p := ⟨b, 1, none⟩) rfl _)).trans (Keeps.setCell _ (S := fun q => q = b) (p := ⟨b, 2, none⟩) rfl _)).trans (Keeps.setCell _ (S := fun q => q = b) (p := ⟨b, 3, none⟩) rfl _)).trans (Keeps.setCell _ (S := fun q => q = b) (p := ⟨b, 4, none⟩) rfl _)).trans (Keeps.setCell _ (S := fun q => q = b) (p := ⟨b, 5, none⟩) rfl _)).trans (Keeps.setCell _ (S := fun q => q = b) (p := ⟨b, 6, none⟩) rfl _)).trans (Keeps.setCell _ (S := fun q => q = b) (p := ⟨b, 7, none⟩) rfl _)
/-- What a function answers that makes an array. -/
def GivesI (l : List Int) (e : Ending) : Prop := e = .returned (aggI l)

set_option maxRecDepth 100000 in
set_option maxHeartbeats 4000000 in
theorem behind_c (c : Nat) (hc : 1 ≤ c ∧ c ≤ 8) (l : List Int) (hl : l.length ≤ 1099511627776) (p : Nat) (hp : p < c) (W : World) :
    Calls Try.prog 28 #[aggI (arr c l), .int .i64 (c : Int), .int .i64 (p : Int)] W fun e w' => GivesI (arr c (l ++ [(p : Int)])) e ∧ Below W.heap.size W w' := by
  have HA8 := arr_length hc.2 l
  have HSET := Lib.hid (incd_arr l p hp)
  have HBD := Lib.hid (arr_bd (c := c) l hl)
  generalize arr c l = A at *
  have HL8 := Lib.hid HA8
  obtain ⟨a0, a1, a2, a3, a4, a5, a6, a7, hA⟩ := list8 HA8
  have HA := Lib.hid hA
  have hagg : aggI A = .agg #[.int .i64 a0, .int .i64 a1, .int .i64 a2, .int .i64 a3, .int .i64 a4, .int .i64 a5, .int .i64 a6, .int .i64 a7] := by rw [hA]; rfl
  rw [hagg]
  obtain ⟨hc1, hc8⟩ := hc
  clear HA8 hA hagg
  go_enter Try.func28, Try.ntmps28
  go_wp2
  obtain ⟨wo, hwo⟩ : ∃ wo : World, wo = (W.alloc (.cells #[.int .i64 a0, .int .i64 a1, .int .i64 a2, .int .i64 a3, .int .i64 a4, .int .i64 a5, .int .i64 a6, .int .i64 a7] 46)).alloc (.cells #[.int .i64 0, .int .i64 0, .int .i64 0, .int .i64 0, .int .i64 0, .int .i64 0, .int .i64 0, .int .i64 0] 46) := ⟨_, rfl⟩
  rw [← hwo]
  have hB0 : Below W.heap.size W wo := by rw [hwo]; exact ((Below.refl _ _).alloc (Nat.le_refl _) _).alloc (by simp) _
  have hsz : W.heap.size + 1 < wo.heap.size := by rw [hwo]; simp
  have HBL : WBox wo W.heap.size A := by
    unfold WBox
    rw [hwo, Below.heap_alloc _ _ _ (by simp), World.alloc_heap_new, HA.out]; rfl
  have HBR : WBox wo (W.heap.size + 1) (List.replicate 8 0) := by
    have := World.alloc_heap_new (W.alloc (.cells #[.int .i64 a0, .int .i64 a1, .int .i64 a2, .int .i64 a3, .int .i64 a4, .int .i64 a5, .int .i64 a6, .int .i64 a7] 46)) (.cells #[.int .i64 0, .int .i64 0, .int .i64 0, .int .i64 0, .int .i64 0, .int .i64 0, .int .i64 0, .int .i64 0] 46)
    rw [World.size_alloc] at this
    unfold WBox
    rw [hwo, this]; rfl
  clear hwo
  go_loopw [9] (fun iv wr => ∃ i : Nat, i ≤ c ∧ iv = .int .i64 i ∧ WBox wr W.heap.size (incd A i) ∧ WBox wr (W.heap.size + 1) (List.replicate 8 0) ∧ Below W.heap.size W wr ∧ W.heap.size + 1 < wr.heap.size) (fun iv _ => c - (intOf iv).toNat)
  case atStart => exact ⟨0, Nat.zero_le _, rfl, by rw [incd_zero]; exact HBL, HBR, hB0, hsz⟩
  case round =>
    clear HBL HBR hB0 hsz
    obtain ⟨i, hi, rfl, HBL, HBR, hB, hsz⟩ := hrel
    by_cases hlt : i < c
    · have hia : i < A.length := by have := HL8.out; omega
      have hil : i < (incd A i).length := by rw [incd_length]; exact hia
      have hx := HBL.cell i hil
      rw [incd_get] at hx
      have hf := HBL.free i
      obtain ⟨hb0, hb1⟩ := HBD.out i hia
      have HS := HBL.set i (A[i] + 1)
      rw [← incd_succ A i hia] at HS
      obtain ⟨x, hxe⟩ : ∃ x, x = A[i] := ⟨_, rfl⟩
      rw [← hxe] at hx hb0 hb1 HS
      clear hxe hil
      go_wp2
      go_roundw
      case rel => exact ⟨i + 1, by omega, by go_num, HS, HBR.other (by simp) _, hB.setCell (Nat.le_refl _) _, by simpa using hsz⟩
      case measure => simp [intOf]; omega
    · obtain rfl : i = c := by omega
      have hpl : p < (incd A i).length := by rw [incd_length]; have := HL8.out; omega
      have hx := HBL.cell p hpl
      have hf := HBL.free p
      have HS := HBL.set p 0
      rw [HSET.out] at HS
      obtain ⟨y, hy⟩ : ∃ y, y = (incd A i)[p] := ⟨_, rfl⟩
      rw [← hy] at hx
      clear hpl hy
      go_upto_region 7 with (fail)
      obtain ⟨w2, hw2⟩ : ∃ w2 : World, w2 = wr.setCell ⟨W.heap.size, p, none⟩ (.int .i64 0) := ⟨_, rfl⟩
      rw [← hw2] at HS ⊢
      have hB2 : Below W.heap.size W w2 := by rw [hw2]; exact hB.setCell (Nat.le_refl _) _
      have HR : WBox w2 (W.heap.size + 1) (List.replicate 8 0) := by rw [hw2]; exact HBR.other (by simp) _
      have hC8 := arr_length hc8 (l ++ [(p : Int)])
      clear hw2 hx hf hB HBL HBR HSET
      obtain ⟨C, hC⟩ : ∃ C, C = arr i (l ++ [(p : Int)]) := ⟨_, rfl⟩
      rw [← hC] at HS hC8
      have HC := Lib.hid hC
      clear hC
      obtain ⟨x0, x1, x2, x3, x4, x5, x6, x7, rfl⟩ := list8 hC8
      obtain ⟨h0, h1, h2, h3, h4, h5, h6, h7⟩ := HS.cells
      obtain ⟨r0, r1, r2, r3, r4, r5, r6, r7⟩ := WBox.cells HR
      have f0 := HR.free 0
      have f1 := HR.free 1
      have f2 := HR.free 2
      have f3 := HR.free 3
      have f4 := HR.free 4
      have f5 := HR.free 5
      have f6 := HR.free 6
      have f7 := HR.free 7
      have HP := HR.put (ys := [x0, x1, x2, x3, x4, x5, x6, x7]) (by simp) rfl
      have hBP : Below W.heap.size W (putW w2 (W.heap.size + 1) [x0, x1, x2, x3, x4, x5, x6, x7]) := hB2.trans ((putW_keeps w2 (W.heap.size + 1) _).below hB2.size (fun q hq => by have hq : q = W.heap.size + 1 := hq; omega))
      clear hC8
      go_wp2
      obtain ⟨q0, q1, q2, q3, q4, q5, q6, q7⟩ := WBox.cells HP
      rw [putW_eq] at q0 q1 q2 q3 q4 q5 q6 q7
      exact bodyPost_ret (v := .agg #[.int .i64 x0, .int .i64 x1, .int .i64 x2, .int .i64 x3, .int .i64 x4, .int .i64 x5, .int .i64 x6, .int .i64 x7]) (by simp [results, Try.results28, go_sem, q0, q1, q2, q3, q4, q5, q6, q7]) rfl ⟨(by unfold GivesI; rw [← HC.out]; rfl), hBP⟩

set_option maxHeartbeats 4000000 in
theorem greatest_c (v : Value) (l : List Int) (W : World) (hv : NumsAt W .i64 v l) (hl : l.length ≤ 9223372036854775807) :
    Calls Try.prog 38 #[v] W fun e w' => e = .returned (.int .i64 (amax l l.length : Int)) ∧ Below W.heap.size W w' := by
  obtain ⟨p, cap, rfl, hc⟩ := hv
  obtain ⟨n, hn0⟩ : ∃ n, n = l.length := ⟨_, rfl⟩
  rw [← hn0] at hl ⊢
  have HN := Lib.hid hn0
  clear hn0
  go_enter Try.func38, Try.ntmps38
  go_wp2
  go_loopw [3, 8] (fun av iv wr => ∃ i a : Nat, i ≤ n ∧ iv = .int .i64 i ∧ av = .int .i64 a ∧ Hid (a = amax l i) ∧ a ≤ i ∧ (0 < i → a < i) ∧ Below W.heap.size W wr) (fun _ iv _ => n - (intOf iv).toNat)
  case atStart => exact ⟨0, 0, Nat.zero_le _, rfl, rfl, rfl, Nat.le_refl _, fun h => absurd h (Nat.lt_irrefl 0), Below.refl _ _⟩
  case round =>
    obtain ⟨i, a, hi, rfl, rfl, HAM, hai, hai2, hB⟩ := hrel
    by_cases hlt : i < n
    · have hil : i < l.length := by have := HN.out; omega
      obtain ⟨b, off, rfl, hcs⟩ := hc (by intro e; rw [e] at hil; cases hil)
      have han : a < n := by by_cases h : 0 < i <;> omega
      have hal : a < l.length := by omega
      have hx := below_cell hB (hcs i hil)
      have hy := below_cell hB (hcs a hal)
      have hstep : amax l (i + 1) = if l[a] < l[i] then i else a := by
        simp only [amax]
        rw [← HAM.out]
        simp [List.getD_eq_getElem?_getD, hil, hal]
      obtain ⟨x, hxe⟩ : ∃ x, x = l[i] := ⟨_, rfl⟩
      obtain ⟨y, hye⟩ : ∃ y, y = l[a] := ⟨_, rfl⟩
      rw [← hxe, ← hye] at hstep
      rw [← hxe] at hx
      rw [← hye] at hy
      have HS := Lib.hid hstep
      clear hstep hxe hye hcs hai2
      by_cases hxy : y < x
      · rw [if_pos hxy] at HS
        go_wp2
        go_roundw
        case rel => exact ⟨i + 1, i, by omega, by go_num, rfl, Lib.hid HS.out.symm, by omega, fun _ => by omega, hB⟩
        case measure => simp [intOf]; omega
      · rw [if_neg hxy] at HS
        go_wp2
        go_roundw
        case rel => exact ⟨i + 1, a, by omega, by go_num, rfl, Lib.hid HS.out.symm, by omega, fun _ => by omega, hB⟩
        case measure => simp [intOf]; omega
    · obtain rfl : i = n := by omega
      clear hai2
      go_wp2
      go_ret
      exact ⟨ret_int (by rw [HAM.out]), hB⟩

end Go.Proofs.Ytmmeiclclapmfaa
