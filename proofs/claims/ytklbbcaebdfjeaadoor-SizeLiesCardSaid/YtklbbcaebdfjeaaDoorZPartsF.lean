/-
  Package size: Parts.
  Conditions: the package's table of sizes is as it was laid; the ranges of Go's types.
-/
import Derived.Test.YtklbbcaebdfjeaaDoorZParts
namespace Go.Proofs.YtklbbcaebdfjeaaDoor
open Go.RowKit Go.Shelf
attribute [local go_sem] Oper.semAt_some

/-- What Parts answers, and how memory is behind it. -/
def PartsPost (B : Nat) (a c d : Int) (e : Ending) (w' : World) : Prop :=
  if mayB a c = true then (if isB d = true then (if d ≤ c then ∃ v, e = .returned (.tuple #[v, .int .i64 0]) ∧ w'.ownsRow B 33 2 v (inN c.toNat d.toNat) (flatB (inL a.toNat d.toNat (inN c.toNat d.toNat))) else e = .returned (.tuple #[.slice none 0 0, .int .i64 3])) else e = .returned (.tuple #[.slice none 0 0, .int .i64 2])) else e = .returned (.tuple #[.slice none 0 0, .int .i64 180])

set_option maxRecDepth 100000 in
set_option maxHeartbeats 4000000 in
theorem parts_c (a c d : Int) (ha : I64 a) (W : World) (hT : Tab W) : Calls Tryd.prog 26 #[blkV a c, .int .i64 d] W fun e w' => PartsPost W.heap.size a c d e w' ∧ Below W.heap.size W w' := by
  obtain ⟨w1, hw1⟩ : ∃ X : World, X = W.alloc (.cells #[.int .i64 a, .int .i64 c] 33) := ⟨_, rfl⟩
  have hb : Below W.heap.size W w1 := by rw [hw1]; exact (Below.refl _ _).alloc (Nat.le_refl _) _
  have hX : BBox w1 W.heap.size a c := by rw [hw1]; exact BBox.new _ _ _
  have HM := Lib.hid (may_c a c ha w1 (hT.below hb))
  have HT := Lib.hid (hT.below hb)
  have HB := Lib.hid hb
  have HX := Lib.hid hX
  obtain ⟨c0, c1⟩ := hX.cells
  rw [hw1] at c0 c1
  clear hb hX hT
  cases hI : mayB a c with
  | false =>
    rw [hI] at HM
    have HP := Lib.hid (fun (e : Ending) (w' : World) (h : e = .returned (.tuple #[.slice none 0 0, .int .i64 180])) => show PartsPost W.heap.size a c d e w' by unfold PartsPost; rw [hI]; exact h)
    go_enter Tryd.func26, Tryd.ntmps26
    go_wp2_with fail
    rw [← hw1]
    clear hw1 c0 c1
    refine HM.out.mono ?_
    rintro e w2 ⟨rfl, hb2⟩
    have HB2 := Lib.hid (below_then HB.out HB.out.size hb2)
    clear hb2 HM
    go_wp2
    go_ret2
    exact ⟨HP.out _ _ rfl, HB2.out⟩
  | true =>
    rw [hI] at HM
    obtain ⟨k, n, rfl, hk, rfl, hn, -⟩ := mayB_yes hI
    cases hD : isB d with
    | false =>
      have HP := Lib.hid (fun (e : Ending) (w' : World) (h : e = .returned (.tuple #[.slice none 0 0, .int .i64 2])) => show PartsPost W.heap.size n k d e w' by unfold PartsPost; rw [hI, hD]; exact h)
      go_enter Tryd.func26, Tryd.ntmps26
      go_wp2_with fail
      rw [← hw1]
      clear hw1 c0 c1
      refine HM.out.mono ?_
      rintro e w2 ⟨rfl, hb2⟩
      have HB2 := Lib.hid (below_then HB.out HB.out.size hb2)
      clear hb2 HM
      go_wp2_with fail
      refine (is_c d _).mono ?_
      rintro e w3 ⟨rfl, rfl⟩
      rw [hD]
      go_wp2
      go_ret2
      exact ⟨HP.out _ _ rfl, HB2.out⟩
    | true =>
      obtain ⟨j, rfl, hj⟩ := isB_yes hD
      by_cases hjk : (j : Int) ≤ k
      · have HP := Lib.hid (fun (v : Value) (w' : World) (h : w'.ownsRow W.heap.size 33 2 v (inN k j) (flatB (inL n j (inN k j)))) => show PartsPost W.heap.size n k j (.returned (.tuple #[v, .int .i64 0])) w' by unfold PartsPost; rw [if_pos hI, if_pos hD, if_pos hjk, Int.toNat_natCast, Int.toNat_natCast, Int.toNat_natCast]; exact ⟨v, rfl, h⟩)
        have hn4 : n + szN k ≤ 4096 := by have := (sz_ok hk).2; omega
        have hjk2 : j ≤ k := by omega
        clear hn
        go_enter Tryd.func26, Tryd.ntmps26
        go_wp2_with fail
        rw [← hw1]
        clear hw1 c0 c1
        refine HM.out.mono ?_
        rintro e w2 ⟨rfl, hb2⟩
        have HB2 := Lib.hid (below_then HB.out HB.out.size hb2)
        have HT2 := Lib.hid (HT.out.below hb2)
        obtain ⟨c0, c1⟩ := (HX.out.below hb2).cells
        clear hb2 HM HX
        go_wp2_with fail
        refine (is_c j _).mono ?_
        rintro e w3 ⟨rfl, rfl⟩
        rw [hD]
        go_wp2_with fail
        refine (inside_c n k j w3).mono ?_
        rintro e w4 ⟨rfl, hw4⟩
        have hb4 : Below w3.heap.size w3 w4 := by rw [hw4]; exact ((Below.refl _ _).alloc (Nat.le_refl _) _).alloc (by simp) _
        have hX4 : BBox w4 w3.heap.size n k := by rw [hw4]; exact (BBox.new _ _ _).alloc _
        have hY4 : Boxed w4 (w3.heap.size + 1) 3 (.int .i64 (j : Int)) := by rw [hw4]; have := Boxed.new (w3.alloc (.cells #[.int .i64 (n : Int), .int .i64 (k : Int)] 33)) 3 (.int .i64 (j : Int)); simpa using this
        have HL := Lib.hid (collect_c w3.heap.size (w3.heap.size + 1) n k j hk hjk2 hn4 w4 (HT2.out.below hb4) hX4 hY4)
        have HB4 := Lib.hid (below_then HB2.out HB2.out.size hb4)
        clear hw4 hb4 hX4 hY4 HT2 HB2 c0 c1 hn4
        go_wp2_with fail
        refine HL.out.mono ?_
        rintro e w5 ⟨⟨v, rfl, ho⟩, hb5⟩
        have HF := Lib.hid (HP.out v w5 (ho.mono HB4.out.size))
        have HB5 := Lib.hid (below_then HB4.out HB4.out.size hb5)
        clear ho hb5 HL HB4 HP
        go_wp2
        go_ret2
        exact ⟨HF.out, HB5.out⟩
      · have HP := Lib.hid (fun (e : Ending) (w' : World) (h : e = .returned (.tuple #[.slice none 0 0, .int .i64 3])) => show PartsPost W.heap.size n k j e w' by unfold PartsPost; rw [if_pos hI, if_pos hD, if_neg hjk]; exact h)
        go_enter Tryd.func26, Tryd.ntmps26
        go_wp2_with fail
        rw [← hw1]
        clear hw1 c0 c1
        refine HM.out.mono ?_
        rintro e w2 ⟨rfl, hb2⟩
        have HB2 := Lib.hid (below_then HB.out HB.out.size hb2)
        obtain ⟨c0, c1⟩ := (HX.out.below hb2).cells
        clear hb2 HM
        go_wp2_with fail
        refine (is_c j _).mono ?_
        rintro e w3 ⟨rfl, rfl⟩
        rw [hD]
        go_wp2
        go_ret2
        exact ⟨HP.out _ _ rfl, HB2.out⟩

end Go.Proofs.YtklbbcaebdfjeaaDoor
