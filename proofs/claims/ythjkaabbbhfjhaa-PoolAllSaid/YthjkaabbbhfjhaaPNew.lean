/-
  Package pool: New.
  Conditions: none.
-/
import Derived.Test.YthjkaabbbhfjhaaPGive
namespace Go.Proofs.Ythjkaabbbhfjhaa
open Go.RowKit Go.Shelf
attribute [local go_sem] Oper.semAt_some

/-- The pages of a new pool, from the last one down. -/
def newD (k q : Nat) : List Int := (((List.range k).drop q).reverse).map fun (i : Nat) => (i : Int)
def newL (k : Nat) : List Int := newD k 0
theorem newD_self (k : Nat) : newD k k = [] := by unfold newD; rw [List.drop_of_length_le (by simp)]; rfl
theorem newD_pred (k q : Nat) (h : q < k) : newD k q = newD k (q + 1) ++ [(q : Int)] := by
  unfold newD
  rw [List.drop_eq_getElem_cons (by simpa using h), List.reverse_cons, List.map_append]
  simp
theorem newD_len (k q : Nat) : (newD k q).length = k - q := by unfold newD; simp
def NI (W : World) (z k : Nat) (b : Int) (q : Nat) (p' : Option Addr) (n c' : Nat) (wr : World) : Prop :=
  n + q = k ∧ PBox wr (z + 1) b (k : Int) (.slice p' n c') ∧ wr.ownsRow (z + 2) 3 1 (.slice p' n c') n ((newD k q).map (Value.int .i64)) ∧ PBox wr z 0 0 (.slice none 0 0) ∧ Below z W wr

set_option maxRecDepth 100000 in
set_option maxHeartbeats 4000000 in
theorem new_no (b pg : Int) (W : World) (hf : fitsB b pg = false) :
    Calls Try.prog 23 #[.int .i64 b, .int .i64 pg] W fun e w' => e = .returned (.tuple #[zeroP, .int .i64 2]) ∧ Below W.heap.size W w' := by
  obtain ⟨w0, hw0⟩ : ∃ X : World, X = W.alloc (.cells #[.int .i64 0, .int .i64 0, .slice none 0 0] 24) := ⟨_, rfl⟩
  have HR := Lib.hid (show PBox w0 W.heap.size 0 0 (.slice none 0 0) by rw [hw0]; exact PBox.new _ _ _ _)
  have HB := Lib.hid (show Below W.heap.size W w0 by rw [hw0]; exact below1 _ _)
  have HC := Lib.hid (fits_c b pg w0)
  rw [hf] at HC
  clear hf
  go_enter Try.func23, Try.ntmps23
  go_wp2_with fail
  rw [← hw0]
  clear hw0
  refine HC.out.mono ?_
  rintro e w1 ⟨rfl, rfl⟩
  obtain ⟨d0, d1, d2⟩ := HR.out.cells
  have m0 := HR.out.marks 0
  have m1 := HR.out.marks 1
  have m2 := HR.out.marks 2
  have HP := Lib.hid (HR.out.put 0 0 (.slice none 0 0))
  have HK := Lib.hid (PBox.putK w1 W.heap.size 0 0 (.slice none 0 0))
  obtain ⟨w3, hw3⟩ : ∃ X : World, X = (((w1.setCell ⟨W.heap.size, 0, none⟩ (.int .i64 0)).setCell ⟨W.heap.size, 1, none⟩ (.int .i64 0)).setCell ⟨W.heap.size, 2, none⟩ (.slice none 0 0)) := ⟨_, rfl⟩
  rw [← hw3] at HP HK
  have HW3 := Lib.hid hw3
  clear hw3 HC
  go_wp2
  rw [← HW3.out]
  exact bodyPost_ret (v := .tuple #[zeroP, .int .i64 2]) (HP.out.result rfl _ rfl rfl) rfl ⟨rfl, HB.out.trans (HK.out.below HB.out.size (fun k e => by omega))⟩

set_option maxRecDepth 100000 in
set_option maxHeartbeats 4000000 in
theorem new_yes (b pg : Int) (W : World) (hf : fitsB b pg = true) :
    Calls Try.prog 23 #[.int .i64 b, .int .i64 pg] W fun e w' => (∃ p' c', e = .returned (.tuple #[.agg #[.int .i64 b, .int .i64 pg, .slice p' pg.toNat c'], .int .i64 0]) ∧ w'.ownsRow W.heap.size 3 1 (.slice p' pg.toNat c') pg.toNat ((newL pg.toNat).map (Value.int .i64))) ∧ Below W.heap.size W w' := by
  obtain ⟨h0, h1, -, h2, h3, -⟩ := fits_parts hf
  obtain ⟨k, rfl⟩ := Int.eq_ofNat_of_zero_le h2
  rw [Int.toNat_natCast]
  have hk64 : k ≤ 64 := by omega
  obtain ⟨w0, hw0⟩ : ∃ X : World, X = W.alloc (.cells #[.int .i64 0, .int .i64 0, .slice none 0 0] 24) := ⟨_, rfl⟩
  have HR := Lib.hid (show PBox w0 W.heap.size 0 0 (.slice none 0 0) by rw [hw0]; exact PBox.new _ _ _ _)
  have HB := Lib.hid (show Below W.heap.size W w0 ∧ w0.heap.size = W.heap.size + 1 by rw [hw0]; exact ⟨below1 _ _, by simp⟩)
  have HC := Lib.hid (fits_c b k w0)
  rw [hf] at HC
  clear hf h2 h3
  go_enter Try.func23, Try.ntmps23
  go_wp2_with fail
  rw [← hw0]
  clear hw0
  refine HC.out.mono ?_
  rintro e w1 ⟨rfl, rfl⟩
  clear HC
  obtain ⟨w2, hw2⟩ : ∃ X : World, X = w1.alloc (.cells #[.int .i64 b, .int .i64 (k : Int), .slice none 0 0] 24) := ⟨_, rfl⟩
  have hb12 : Below w1.heap.size w1 w2 := by rw [hw2]; exact below1 _ _
  have HN0 := Lib.hid (show NI W W.heap.size k b k none 0 0 w2 from ⟨by omega, by rw [hw2, ← HB.out.2]; exact PBox.new _ _ _ _, by rw [newD_self]; exact World.ownsRow_nil _ _ _ _, HR.out.below hb12, below_then HB.out.1 HB.out.1.size hb12⟩)
  have HW2 := Lib.hid hw2
  have HZ1 := Lib.hid HB.out.2
  clear hw2 hb12
  go_wp2
  rw [← HW2.out, HZ1.out]
  obtain ⟨i0, hi1, hz0, hz1, hz2⟩ := info_parts int_info
  have HI0 := Lib.hid (And.intro hi1 (And.intro hz0 (And.intro hz1 hz2)))
  clear hi1 hz0 hz1 hz2 HR HB HW2 HZ1
  go_loopw [7] (fun iv wr => ∃ (q : Nat) (p' : Option Addr) (n c' : Nat), q ≤ k ∧ iv = .int .i64 ((q : Int) - 1) ∧ Hid (NI W W.heap.size k b q p' n c' wr)) (fun iv _ => (pIntOf iv + 1).toNat)
  case atStart => exact ⟨k, none, 0, 0, Nat.le_refl _, rfl, HN0⟩
  case round =>
    clear HN0
    obtain ⟨q, p', n, c', hq, rfl, HN⟩ := hrel
    cases q with
    | zero =>
      rw [show ((0 : Nat) : Int) - 1 = -1 from rfl]
      obtain ⟨hn, hP, hO, hR, hB⟩ := HN.out
      obtain rfl : n = k := by omega
      obtain ⟨d0, d1, d2⟩ := hP.cells
      obtain ⟨f0, f1, f2⟩ := hR.cells
      have m0 := hR.marks 0
      have m1 := hR.marks 1
      have m2 := hR.marks 2
      have HP := Lib.hid (hR.put b n (.slice p' n c'))
      have hK := PBox.putK wr W.heap.size b n (.slice p' n c')
      obtain ⟨w3, hw3⟩ : ∃ X : World, X = (((wr.setCell ⟨W.heap.size, 0, none⟩ (.int .i64 b)).setCell ⟨W.heap.size, 1, none⟩ (.int .i64 n)).setCell ⟨W.heap.size, 2, none⟩ (.slice p' n c')) := ⟨_, rfl⟩
      rw [← hw3] at HP hK
      have HFIN := Lib.hid (show w3.ownsRow W.heap.size 3 1 (.slice p' n c') n ((newL n).map (Value.int .i64)) ∧ Below W.heap.size W w3 from ⟨(hK.row hO (fun g hg e => by have := (hO.lt g hg).1; omega)).mono (by omega), hB.trans (hK.below hB.size (fun k e => by omega))⟩)
      have HW3 := Lib.hid hw3
      clear hw3 hn hP hO hR hB hK HN
      go_wp2
      rw [← HW3.out]
      exact bodyPost_ret (v := .tuple #[.agg #[.int .i64 b, .int .i64 n, .slice p' n c'], .int .i64 0]) (HP.out.result rfl _ rfl rfl) rfl ⟨⟨p', c', rfl, HFIN.out.1⟩, HFIN.out.2⟩
    | succ j =>
      rw [show ((j + 1 : Nat) : Int) - 1 = (j : Int) by omega]
      obtain ⟨hn, hP, hO, hR, hB⟩ := HN.out
      have hj0 : (0 : Int) ≤ (j : Int) := by omega
      have hj64 : (j : Int) ≤ 64 := by omega
      obtain ⟨d0, d1, d2⟩ := hP.cells
      have HP := Lib.hid hP
      have HO := Lib.hid hO
      have HRB := Lib.hid (And.intro hR hB)
      have hn64 : n ≤ 64 := by omega
      have HNQ := Lib.hid hn
      have hzl : W.heap.size + 2 ≤ wr.heap.size := by have := hP.lt; omega
      clear hn hP hO hR hB HN
      go_wp2_with (at_builtin; go_loud (refine wpList_append_own_at _ rfl _ _ 22 rfl (W.heap.size + 2) 3 i0 (.int .i64 0) 1 8 Try.underlying22 HI0.out.1 HI0.out.2.1 HI0.out.2.2.1 HI0.out.2.2.2 rfl (by decide) (.slice p' n c') n _ rfl (HO.out.alloc _) ⟨wr.heap.size, 0, none⟩ 1 1 [.int .i64 (j : Int)] rfl rfl (cell_one_new _ _ _) (fun y hy => by rw [List.mem_singleton.1 hy]; rfl) (by unfold maxLen; omega) (by omega) (by simp; omega) ?_; intro v' w5 hown' hgrow _ hat; obtain ⟨pv, cv, rfl⟩ := owns_slice hown'; have X := Lib.hid (And.intro hown' (And.intro hgrow hat)); have hk5 : Keeps (fun k => some k = (Value.slice p' n c').ownBlock) wr w5 := ((Keeps.alloc _ wr _).trans (Keeps.of_grown hgrow)); have hx5 := HP.out.keeps hk5 (fun e => by have := (HO.out.lt _ e.symm).1; omega); have HX5 := Lib.hid hx5; have HK5 := Lib.hid hk5; obtain ⟨e0, e1, e2⟩ := hx5.cells; have l2 := hx5.marks 2; clear hown' hgrow hat hk5 hx5 d0 d1 d2))
      have hk6 : Keeps (fun k => k = W.heap.size + 1) w5 (w5.setCell ⟨W.heap.size + 1, 2, none⟩ (.slice pv (n + 1) cv)) := Keeps.setCell w5 (S := (· = W.heap.size + 1)) (p := ⟨W.heap.size + 1, 2, none⟩) rfl _
      have HN6 := Lib.hid (show NI W W.heap.size k b j pv (n + 1) cv (w5.setCell ⟨W.heap.size + 1, 2, none⟩ (.slice pv (n + 1) cv)) from ⟨by have := HNQ.out; omega, by
          unfold PBox; rw [heap_setCell_same w5 (W.heap.size + 1) 2 _ _ _ HX5.out]; rfl, by
          rw [newD_pred k j (by omega), List.map_append]; exact hk6.row X.out.1 (fun g hg e => by have := (X.out.1.lt g hg).1; omega),
        (HRB.out.1.keeps HK5.out (fun e => by have := (HO.out.lt _ e.symm).1; omega)).keeps hk6 (by omega),
        (HRB.out.2.trans (HK5.out.below HRB.out.2.size (fun k e => by have := (HO.out.lt _ e.symm).1; omega))).trans (hk6.below (Nat.le_trans HRB.out.2.size HK5.out.size) (fun k e => by omega))⟩)
      clear hk6 e0 e1 e2 l2
      go_roundw
      case rel => exact ⟨j, pv, n + 1, cv, by omega, rfl, HN6⟩
      case measure => simp [pIntOf]

end Go.Proofs.Ythjkaabbbhfjhaa
