/-
  The reference of layer 11: same, Same, and Right.
  Conditions: the ranges of Go's types.
-/
import Derived.Test.YtjfphhemhaphbabYStays
namespace Go.Proofs.Ytjfphhemhaphbab
set_option maxRecDepth 100000
open Go.RowKit Go.Shelf
attribute [local go_sem] Oper.semAt_some

set_option maxHeartbeats 4000000 in
theorem rsame_c (u v : Value) (xs ys : List Int) (W : World) (hu : NumsAt W .i64 u xs) (hv : NumsAt W .i64 v ys) (h1 : xs.length ≤ 9223372036854775807) (h2 : ys.length ≤ 9223372036854775807) :
    Calls Try.prog 26 #[u, v] W fun e w' => e = .returned (.bool (decide (xs = ys))) ∧ w' = W := by
  have HU := Lib.hid hu
  have HV := Lib.hid hv
  obtain ⟨p, c, rfl, -⟩ := hu
  obtain ⟨q, d, rfl, -⟩ := hv
  by_cases hl : xs.length = ys.length
  · have hq : ((xs.length : Int) != (ys.length : Int)) = false := by rw [hl]; simp
    have HL := Lib.hid hl
    clear hl
    obtain ⟨R, hR⟩ : ∃ R, R = decide (xs = ys) := ⟨_, rfl⟩
    rw [← hR]
    have HR := Lib.hid hR
    clear hR
    go_enter Try.func26, Try.ntmps26
    go_wp2
    go_loop [14] (fun iv => ∃ k : Nat, k ≤ xs.length ∧ iv = .int .i64 (k : Int) ∧ Hid (xs.take k = ys.take k)) (fun iv => xs.length - (intOf iv).toNat)
    case atStart => exact ⟨0, Nat.zero_le _, rfl, Lib.hid (by simp)⟩
    case round =>
      obtain ⟨k, hk, rfl, HE⟩ := hrel
      by_cases hlt : k < xs.length
      · have hlt2 : k < ys.length := by have := HL.out; omega
        obtain ⟨b, off, rfl, a1⟩ := nums_at HU.out hlt
        obtain ⟨b2, off2, rfl, a2⟩ := nums_at HV.out hlt2
        obtain ⟨x, hx⟩ : ∃ x, x = xs.getD k 0 := ⟨_, rfl⟩
        obtain ⟨y, hy⟩ : ∃ y, y = ys.getD k 0 := ⟨_, rfl⟩
        rw [← hx] at a1
        rw [← hy] at a2
        have HX := Lib.hid (show x = xs[k] ∧ y = ys[k] by rw [hx, hy, getD_lt hlt, getD_lt hlt2]; exact ⟨rfl, rfl⟩)
        have hk0 : (0 : Int) ≤ (k : Int) := by omega
        have hkx : (k : Int) < (xs.length : Int) := by omega
        have hky : (k : Int) < (ys.length : Int) := by omega
        clear hx hy
        by_cases he : x = y
        · have hq2 : (x != y) = false := by rw [he]; simp
          have HE2 := Lib.hid (show xs.take (k + 1) = ys.take (k + 1) by rw [List.take_succ_eq_append_getElem hlt, List.take_succ_eq_append_getElem hlt2, HE.out, ← HX.out.1, ← HX.out.2, he])
          clear he
          go_wp2
          go_round
          case rel => exact ⟨k + 1, by omega, rfl, HE2⟩
          case measure => first | omega | (simp [intOf]; omega)
        · have hq2 : (x != y) = true := by rw [bne_iff_ne]; exact he
          have hne : decide (xs = ys) = false := decide_eq_false (fun e => he (by rw [HX.out.1, HX.out.2]; subst e; rfl))
          have HN := Lib.hid hne
          clear he hne
          go_wp2
          go_ret
          exact ⟨ret_b (HN.out.symm.trans HR.out.symm), rfl⟩
      · have hye : decide (xs = ys) = true := decide_eq_true (by
          have h := HE.out
          rwa [List.take_of_length_le (by omega), List.take_of_length_le (by have := HL.out; omega)] at h)
        have HN := Lib.hid hye
        clear hye
        go_wp2
        go_ret
        exact ⟨ret_b (HN.out.symm.trans HR.out.symm), rfl⟩
  · have hq : ((xs.length : Int) != (ys.length : Int)) = true := by rw [bne_iff_ne]; omega
    rw [decide_eq_false (fun e => hl (by rw [e]))]
    clear hl
    go_enter Try.func26, Try.ntmps26
    go_wp2
    go_ret
    exact ⟨rfl, rfl⟩
theorem rsame_b (u v : Value) (xs ys : List Int) (W : World) (hu : NumsAt W .i64 u xs) (hv : NumsAt W .i64 v ys) (h1 : xs.length ≤ 9223372036854775807) (h2 : ys.length ≤ 9223372036854775807) :
    Calls Try.prog 26 #[u, v] W fun e w' => e = .returned (.bool (decide (xs = ys))) ∧ Below W.heap.size W w' := (rsame_c u v xs ys W hu hv h1 h2).mono fun e w' ⟨h, h'⟩ => ⟨h, by rw [h']; exact Below.refl _ _⟩

set_option maxHeartbeats 4000000 in
theorem rSame_c (s t : RdS) (u v u' v' : Value) (W : World) (hn : NumsAt W .i64 u s.ns) (ho : NumsAt W .i64 v s.os) (hn' : NumsAt W .i64 u' t.ns) (ho' : NumsAt W .i64 v' t.os)
    (l1 : s.ns.length ≤ 9223372036854775807) (l2 : s.os.length ≤ 9223372036854775807) (l3 : t.ns.length ≤ 9223372036854775807) (l4 : t.os.length ≤ 9223372036854775807) :
    Calls Try.prog 13 #[.agg #[.int .i64 s.now, u, v], .agg #[.int .i64 t.now, u', v']] W fun e w' => e = .returned (.bool (sameB s t)) ∧ Below W.heap.size W w' := by
  have HE1 := Lib.hid (fun (Z : World) (hb : Below W.heap.size W Z) => rsame_b u u' s.ns t.ns Z (nums_below hn hb) (nums_below hn' hb) l1 l3)
  have HE2 := Lib.hid (fun (Z : World) (hb : Below W.heap.size W Z) => rsame_b v v' s.os t.os Z (nums_below ho hb) (nums_below ho' hb) l2 l4)
  have HF := Lib.hid (wS_facts W s.now u v t.now u' v')
  obtain ⟨w0, hw0⟩ : ∃ X, X = wS W s.now u v t.now u' v' := ⟨_, rfl⟩
  rw [← hw0] at HF
  unfold wS at hw0
  obtain ⟨p, c, rfl, -⟩ := hn
  obtain ⟨p2, c2, rfl, -⟩ := ho
  obtain ⟨p', c', rfl, -⟩ := hn'
  obtain ⟨p2', c2', rfl, -⟩ := ho'
  obtain ⟨d0, d1, d2⟩ := HF.out.1.cells
  obtain ⟨e0, e1, e2⟩ := HF.out.2.1.cells
  have HB := Lib.hid HF.out.2.2
  clear l1 l2 l3 l4
  unfold sameB
  by_cases h1 : s.now = t.now
  · have q1 : (s.now == t.now) = true := by rw [beq_iff_eq]; exact h1
    rw [decide_eq_true h1, Bool.true_and]
    clear h1
    by_cases h2 : s.ns = t.ns
    · have HE := Lib.hid (HE1.out w0 HB.out)
      rw [decide_eq_true h2] at HE
      rw [decide_eq_true h2, Bool.true_and]
      clear h2 HE1
      go_enter Try.func13, Try.ntmps13
      go_wp2_with fail
      rw [← hw0]
      clear hw0
      (with_reducible refine HE.out.mono ?_)
      rintro e w1 ⟨rfl, hb1⟩
      have HB1 := Lib.hid (below_then HB.out HB.out.size hb1)
      obtain ⟨d0, d1, d2⟩ := (HF.out.1.below hb1).cells
      obtain ⟨e0, e1, e2⟩ := (HF.out.2.1.below hb1).cells
      have HEE := Lib.hid (HE2.out w1 HB1.out)
      clear hb1 HE HE2
      go_wp2_with fail
      (with_reducible refine HEE.out.mono ?_)
      rintro e w2 ⟨rfl, hb2⟩
      have HB2 := Lib.hid (below_then HB1.out HB1.out.size hb2)
      clear hb2
      go_wp2
      go_ret
      exact ⟨rfl, HB2.out⟩
    · have HE := Lib.hid (HE1.out w0 HB.out)
      rw [decide_eq_false h2] at HE
      rw [decide_eq_false h2, Bool.false_and]
      clear h2 HE1 HE2
      go_enter Try.func13, Try.ntmps13
      go_wp2_with fail
      rw [← hw0]
      clear hw0
      (with_reducible refine HE.out.mono ?_)
      rintro e w1 ⟨rfl, hb1⟩
      have HB1 := Lib.hid (below_then HB.out HB.out.size hb1)
      clear hb1 HE
      go_wp2
      go_ret
      exact ⟨rfl, HB1.out⟩
  · have q1 : (s.now == t.now) = false := by rw [beq_eq_false_iff_ne]; exact h1
    rw [decide_eq_false h1, Bool.false_and]
    clear h1 HE1 HE2
    go_enter Try.func13, Try.ntmps13
    go_wp2
    go_ret
    exact ⟨rfl, by first | exact HB.out | (rw [hw0] at HB; exact HB.out) | exact below2 _ _ _⟩


end Go.Proofs.Ytjfphhemhaphbab
