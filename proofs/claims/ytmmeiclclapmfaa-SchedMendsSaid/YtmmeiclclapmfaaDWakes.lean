/-
  wakes, the first test of the statements of layer 4, returns true; what was in memory stays.
  Conditions: none.
-/
import Derived.Test.YtmmeiclclapmfaaDFew
namespace Go.Proofs.Ytmmeiclclapmfaa
open Go.RowKit Go.Shelf

theorem RI.lit (w : World) (xs : List Int) {cs : Array Value} (h : cs = (xs.map (Value.int .i64)).toArray) : RI (w.alloc (.cells cs 3)) (some ⟨w.heap.size, 0, none⟩) xs.length xs.length xs := by
  subst h
  exact RI.of_block (World.alloc_heap_new w _)
theorem fairW (c : Int) (p : Option Addr) (n d : Nat) (xs : List Int) (k : Int) (W : World) (h : RI W p n d xs) (hl : n ≤ 1099511627776) (b : Bool) (hb : (okB c xs && decide ((leastL c.toNat xs : Int) ≤ k)) = b) :
    Calls Try.prog 14 #[.int .i64 c, .slice p n d, .int .i64 k] W fun e w' => e = .returned (.bool b) ∧ Below W.heap.size W w' := by
  have := fair_c c _ xs k W h.nums (by rw [← h.len]; exact hl)
  rwa [hb] at this
theorem leastW (c : Int) (p : Option Addr) (n d : Nat) (xs : List Int) (W : World) (h : RI W p n d xs) (hl : n ≤ 1099511627776) (m : Nat) (ho : okB c xs = true) (hm : leastL c.toNat xs = m) :
    Calls Try.prog 15 #[.int .i64 c, .slice p n d] W fun e w' => e = .returned (.int .i64 (m : Int)) ∧ Below W.heap.size W w' := by
  have := least_c c _ xs W h.nums (by rw [← h.len]; exact hl)
  rwa [if_pos ho, hm] at this
theorem roundsW (c : Int) (p : Option Addr) (n d : Nat) (xs : List Int) (W : World) (h : RI W p n d xs) (hl : n ≤ 1099511627776) (m : Nat) (ho : okB c xs = true) (hm : roundsL c.toNat xs = m) :
    Calls Try.prog 16 #[.int .i64 c, .slice p n d] W fun e w' => e = .returned (.int .i64 (m : Int)) ∧ Below W.heap.size W w' := by
  have := rounds_c c _ xs W h.nums (by rw [← h.len]; exact hl) (fun p' n' c' e => by injection e with e1 e2 e3; rw [← e2, ← e3]; exact h.room)
  rwa [if_pos ho, hm] at this
theorem waitsW (c : Int) (p : Option Addr) (n d : Nat) (xs : List Int) (W : World) (h : RI W p n d xs) (hl : n ≤ 1099511627776) (ys : List Int) (ho : okB c xs = true) (hm : wv c.toNat xs = ys) :
    Calls Try.prog 12 #[.int .i64 c, .slice p n d] W fun e w' => GivesRow W.heap.size ys e w' ∧ Below W.heap.size W w' := by
  have := waits_c c _ xs W h.nums (by rw [← h.len]; exact hl)
  simp only [ho, if_true, hm] at this
  exact this.mono fun e w' hh => ⟨gives_of_new (by rw [← hm, wv_length]) hh.1, hh.2⟩
theorem splitW (c : Int) (p : Option Addr) (n d : Nat) (xs : List Int) (W : World) (h : RI W p n d xs) (hl : n ≤ 1099511627776) (ho : okB c xs = true) :
    Calls Try.prog 13 #[.int .i64 c, .slice p n d] W fun e w' => (∃ z vs, W.heap.size ≤ z ∧ e = .returned (.slice (some ⟨z, 0, none⟩) c.toNat c.toNat) ∧ Rows' w' z vs c.toNat xs) ∧ Below W.heap.size W w' := by
  have := split_c c _ xs W h.nums (by rw [← h.len]; exact hl)
  rw [ho] at this
  exact this.mono fun e w' hh => ⟨by have := hh.1; unfold SplitPost at this; simpa using this, hh.2⟩
theorem equalW' (p q : Option Addr) (n m c d : Nat) (xs ys : List Int) (W : World) (h : RI W p n c xs) (h' : RI W q m d ys) (hn : n ≤ 9223372036854775807) (hm : m ≤ 9223372036854775807) (b : Bool) (hb : decide (xs = ys) = b) :
    Calls Try.prog 18 #[.slice p n c, .slice q m d] W fun e w' => e = .returned (.bool b) ∧ Below W.heap.size W w' := by
  have := equalI_c _ _ xs ys W h.nums h'.nums (by rw [← h.len]; exact hn) (by rw [← h'.len]; exact hm)
  rwa [hb] at this

set_option maxRecDepth 100000 in
set_option maxHeartbeats 4000000 in
theorem wakes_c (W : World) : Calls Try.prog 8 #[] W fun e w' => e = .returned (.bool true) ∧ Below W.heap.size W w' := by
  go_enter Try.func8, Try.ntmps8
  go_wp2_with fail
  have hr1 : RI (W.alloc (.cells #[.int .i64 2, .int .i64 2, .int .i64 2] 3)) (some ⟨W.heap.size, 0, none⟩) 3 3 [2, 2, 2] := RI.lit W [2, 2, 2] rfl
  refine (mend_yes 3 3 _ _ _ _ _ hr1 (by decide) (by decide) (by decide) (by decide) (by decide)).mono ?_
  rintro e w1 ⟨⟨q1, d1, rfl, R1⟩, hb1⟩
  rw [show (3 : Int).toNat = 3 from rfl, wake_mend] at R1
  have hB := below_then ((Below.refl _ W).alloc (Nat.le_refl _) _) (by simp) hb1
  clear hb1 hr1
  go_wp2_with fail
  have hr2 : RI (w1.alloc (.cells #[.int .i64 1] 3)) (some ⟨w1.heap.size, 0, none⟩) 1 1 [1] := RI.lit w1 [1] rfl
  have hba : Below w1.heap.size w1 (w1.alloc (.cells #[.int .i64 1] 3)) := (Below.refl _ _).alloc (Nat.le_refl _) _
  have R1a := R1.below hba
  have hBa := below_then hB hB.size hba
  refine (mend_few 3 2 _ _ _ _ _ hr2 (by decide) (by decide) (by decide) (by decide) (by decide)).mono ?_
  rintro e w2 ⟨rfl, hb2⟩
  have R2 := R1a.below hb2
  have hB2 := below_then hBa hBa.size hb2
  clear hb2 hr2 hba R1a hBa R1 hB
  have hb3 : Below w2.heap.size w2 (w2.alloc (.cells #[.int .i64 0, .int .i64 0, .int .i64 1, .int .i64 0] 3)) := (Below.refl _ _).alloc (Nat.le_refl _) _
  have hP := RI.lit w2 [0, 0, 1, 0] (cs := #[.int .i64 0, .int .i64 0, .int .i64 1, .int .i64 0]) rfl
  have R3 := R2.below hb3
  have hB3 := below_then hB2 hB2.size hb3
  obtain ⟨w3, hw3⟩ : ∃ w3 : World, w3 = w2.alloc (.cells #[.int .i64 0, .int .i64 0, .int .i64 1, .int .i64 0] 3) := ⟨_, rfl⟩
  obtain ⟨z, hz⟩ : ∃ z, z = w2.heap.size := ⟨_, rfl⟩
  rw [← hw3] at hP R3 hB3
  rw [← hz] at hP
  have hz3 : w3.heap.size = z + 1 := by rw [hw3, hz]; simp
  go_wp2_with fail
  rw [← hw3, ← hz, ← hz3]
  clear hb3 hw3 R2 hB2 hz hz3
  have hP : RI w3 (some ⟨z, 0, none⟩) 4 4 [0, 0, 1, 0] := hP
  have hb4 : Below w3.heap.size w3 (w3.alloc (.cells #[.int .i64 2, .int .i64 0, .int .i64 1] 3)) := (Below.refl _ _).alloc (Nat.le_refl _) _
  have hE : RI (w3.alloc (.cells #[.int .i64 2, .int .i64 0, .int .i64 1] 3)) (some ⟨w3.heap.size, 0, none⟩) 3 3 [2, 0, 1] := RI.lit w3 [2, 0, 1] rfl
  refine (equalW' _ _ _ _ _ _ _ _ _ (R3.below hb4) hE (by decide) (by decide) true (by decide)).mono ?_
  rintro e w5 ⟨rfl, hb5⟩
  have P5 := (hP.below hb4).below hb5
  have hB5 := below_then (below_then hB3 hB3.size hb4) (Nat.le_trans hB3.size hb4.size) hb5
  clear hb5 hb4 hE hP R3 hB3
  go_wp2_with fail
  refine (fairW 2 _ _ _ _ 2 _ P5 (by decide) false (by decide +kernel)).mono ?_
  rintro e w6 ⟨rfl, hb6⟩
  have P6 := P5.below hb6
  have hB6 := below_then hB5 hB5.size hb6
  clear hb6 P5 hB5
  go_wp2_with fail
  refine (fairW 2 _ _ _ _ 3 _ P6 (by decide) true (by decide +kernel)).mono ?_
  rintro e w7 ⟨rfl, hb7⟩
  have P7 := P6.below hb7
  have hB7 := below_then hB6 hB6.size hb7
  clear hb7 P6 hB6
  go_wp2_with fail
  refine (leastW 2 _ _ _ _ _ P7 (by decide) 3 wake_ok.1 wake_least).mono ?_
  rintro e w8 ⟨rfl, hb8⟩
  have P8 := P7.below hb8
  have hB8 := below_then hB7 hB7.size hb8
  clear hb8 P7 hB7
  go_wp2_with fail
  have hb9 : Below w8.heap.size w8 (w8.alloc (.cells #[.int .i64 0, .int .i64 0, .int .i64 1, .int .i64 1, .int .i64 0] 3)) := (Below.refl _ _).alloc (Nat.le_refl _) _
  have hR : RI (w8.alloc (.cells #[.int .i64 0, .int .i64 0, .int .i64 1, .int .i64 1, .int .i64 0] 3)) (some ⟨w8.heap.size, 0, none⟩) 5 5 [0, 0, 1, 1, 0] := RI.lit w8 [0, 0, 1, 1, 0] rfl
  refine (roundsW 2 _ _ _ _ _ hR (by decide) 2 wake_ok.2.1 wake_rounds).mono ?_
  rintro e w9 ⟨rfl, hb10⟩
  have P9 := (P8.below hb9).below hb10
  have hB9 := below_then (below_then hB8 hB8.size hb9) (Nat.le_trans hB8.size hb9.size) hb10
  clear hb9 hb10 hR P8 hB8
  go_wp2_with fail
  have hb11 : Below w9.heap.size w9 (w9.alloc (.cells #[.int .i64 0, .int .i64 1, .int .i64 0] 3)) := (Below.refl _ _).alloc (Nat.le_refl _) _
  have hW : RI (w9.alloc (.cells #[.int .i64 0, .int .i64 1, .int .i64 0] 3)) (some ⟨w9.heap.size, 0, none⟩) 3 3 [0, 1, 0] := RI.lit w9 [0, 1, 0] rfl
  refine (waitsW 3 _ _ _ _ _ hW (by decide) [0, 1, 3] wake_ok.2.2 wake_waits).mono ?_
  rintro e w10 ⟨⟨q, d, rfl, ho⟩, hb12⟩
  have RW : RI w10 q 3 d [0, 1, 3] := RI.of_owns ho
  have P10 := (P9.below hb11).below hb12
  have hB10 := below_then (below_then hB9 hB9.size hb11) (Nat.le_trans hB9.size hb11.size) hb12
  clear hb11 hb12 hW P9 hB9 ho
  rw [show [(0 : Int), 1, 3].length = 3 from rfl]
  go_wp2_with fail
  have hb13 : Below w10.heap.size w10 (w10.alloc (.cells #[.int .i64 0, .int .i64 1, .int .i64 3] 3)) := (Below.refl _ _).alloc (Nat.le_refl _) _
  have hV : RI (w10.alloc (.cells #[.int .i64 0, .int .i64 1, .int .i64 3] 3)) (some ⟨w10.heap.size, 0, none⟩) 3 3 [0, 1, 3] := RI.lit w10 [0, 1, 3] rfl
  refine (equalW' _ _ _ _ _ _ _ _ _ (RW.below hb13) hV (by decide) (by decide) true (by decide)).mono ?_
  rintro e w11 ⟨rfl, hb14⟩
  have P11 := (P10.below hb13).below hb14
  have hB11 := below_then (below_then hB10 hB10.size hb13) (Nat.le_trans hB10.size hb13.size) hb14
  clear hb13 hb14 hV P10 hB10 RW
  go_wp2_with fail
  refine (splitW 2 _ _ _ _ _ P11 (by decide) wake_ok.1).mono ?_
  rintro e w12 ⟨⟨zs, vs, _, rfl, _⟩, hb15⟩
  have hB12 := below_then hB11 hB11.size hb15
  clear hb15 P11 hB11
  go_wp2
  go_ret
  exact ⟨rfl, hB12⟩

end Go.Proofs.Ytmmeiclclapmfaa
