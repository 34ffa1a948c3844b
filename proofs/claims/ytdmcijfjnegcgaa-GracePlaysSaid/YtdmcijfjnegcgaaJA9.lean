/-
  The reference of layer 11: Right.
  Conditions: the ranges of Go's types.
-/
import Derived.Test.YtdmcijfjnegcgaaJA8
/-
  The reference of layer 11: same, Same, and Right.
  Conditions: the ranges of Go's types.
-/
namespace Go.Proofs.Ytdmcijfjnegcgaa
set_option maxRecDepth 100000
open Go.RowKit Go.Shelf
attribute [local go_sem] Oper.semAt_some

set_option maxHeartbeats 4000000 in
theorem rsame_c (u v : Value) (xs ys : List Int) (W : World) (hu : NumsAt W .i64 u xs) (hv : NumsAt W .i64 v ys) (h1 : xs.length ≤ 9223372036854775807) (h2 : ys.length ≤ 9223372036854775807) :
    Calls Try.prog 55 #[u, v] W fun e w' => e = .returned (.bool (decide (xs = ys))) ∧ w' = W := by
  have HU := Lib.hid hu
  have HV := Lib.hid hv
  obtain ⟨p, c, rfl, -⟩ := hu
  obtain ⟨q, d, rfl, -⟩ := hv
  by_cases hl : xs.length = ys.length
  · have hq : ((xs.length : Int) != (ys.length : Int)) = false := by rw [hl]; simp
    have HL := Lib.hid hl
    clear hl
    obtain ⟨R, hR⟩ : ∃ R, R = decide (xs = ys) := ⟨_, rfl⟩
    rw [← hR]
    have HR := Lib.hid hR
    clear hR
    go_enter Try.func55, Try.ntmps55
    go_wp2
    go_loop [14] (fun iv => ∃ k : Nat, k ≤ xs.length ∧ iv = .int .i64 (k : Int) ∧ Hid (xs.take k = ys.take k)) (fun iv => xs.length - (intOf iv).toNat)
    case atStart => exact ⟨0, Nat.zero_le _, rfl, Lib.hid (by simp)⟩
    case round =>
      obtain ⟨k, hk, rfl, HE⟩ := hrel
      by_cases hlt : k < xs.length
      · have hlt2 : k < ys.length := by have := HL.out; omega
        obtain ⟨b, off, rfl, a1⟩ := nums_at HU.out hlt
        obtain ⟨b2, off2, rfl, a2⟩ := nums_at HV.out hlt2
        obtain ⟨x, hx⟩ : ∃ x, x = xs.getD k 0 := ⟨_, rfl⟩
        obtain ⟨y, hy⟩ : ∃ y, y = ys.getD k 0 := ⟨_, rfl⟩
        rw [← hx] at a1
        rw [← hy] at a2
        have HX := Lib.hid (show x = xs[k] ∧ y = ys[k] by rw [hx, hy, getD_lt hlt, getD_lt hlt2]; exact ⟨rfl, rfl⟩)
        have hk0 : (0 : Int) ≤ (k : Int) := by omega
        have hkx : (k : Int) < (xs.length : Int) := by omega
        have hky : (k : Int) < (ys.length : Int) := by omega
        clear hx hy
        by_cases he : x = y
        · have hq2 : (x != y) = false := by rw [he]; simp
          have HE2 := Lib.hid (show xs.take (k + 1) = ys.take (k + 1) by rw [List.take_succ_eq_append_getElem hlt, List.take_succ_eq_append_getElem hlt2, HE.out, ← HX.out.1, ← HX.out.2, he])
          clear he
          go_wp2
          go_round
          case rel => exact ⟨k + 1, by omega, rfl, HE2⟩
          case measure => first | omega | (simp [intOf]; omega)
        · have hq2 : (x != y) = true := by rw [bne_iff_ne]; exact he
          have hne : decide (xs = ys) = false := decide_eq_false (fun e => he (by rw [HX.out.1, HX.out.2]; subst e; rfl))
          have HN := Lib.hid hne
          clear he hne
          go_wp2
          go_ret
          exact ⟨ret_b (HN.out.symm.trans HR.out.symm), rfl⟩
      · have hye : decide (xs = ys) = true := decide_eq_true (by
          have h := HE.out
          rwa [List.take_of_length_le (by omega), List.take_of_length_le (by have := HL.out; omega)] at h)
        have HN := Lib.hid hye
        clear hye
        go_wp2
        go_ret
        exact ⟨ret_b (HN.out.symm.trans HR.out.symm), rfl⟩
  · have hq : ((xs.length : Int) != (ys.length : Int)) = true := by rw [bne_iff_ne]; omega
    rw [decide_eq_false (fun e => hl (by rw [e]))]
    clear hl
    go_enter Try.func55, Try.ntmps55
    go_wp2
    go_ret
    exact ⟨rfl, rfl⟩
theorem rsame_b (u v : Value) (xs ys : List Int) (W : World) (hu : NumsAt W .i64 u xs) (hv : NumsAt W .i64 v ys) (h1 : xs.length ≤ 9223372036854775807) (h2 : ys.length ≤ 9223372036854775807) :
    Calls Try.prog 55 #[u, v] W fun e w' => e = .returned (.bool (decide (xs = ys))) ∧ Below W.heap.size W w' := (rsame_c u v xs ys W hu hv h1 h2).mono fun e w' ⟨h, h'⟩ => ⟨h, by rw [h']; exact Below.refl _ _⟩

set_option maxHeartbeats 4000000 in
theorem rSame_c (s t : RdS) (u v u' v' : Value) (W : World) (hn : NumsAt W .i64 u s.ns) (ho : NumsAt W .i64 v s.os) (hn' : NumsAt W .i64 u' t.ns) (ho' : NumsAt W .i64 v' t.os)
    (l1 : s.ns.length ≤ 9223372036854775807) (l2 : s.os.length ≤ 9223372036854775807) (l3 : t.ns.length ≤ 9223372036854775807) (l4 : t.os.length ≤ 9223372036854775807) :
    Calls Try.prog 27 #[.agg #[.int .i64 s.now, u, v], .agg #[.int .i64 t.now, u', v']] W fun e w' => e = .returned (.bool (sameB s t)) ∧ Below W.heap.size W w' := by
  have HE1 := Lib.hid (fun (Z : World) (hb : Below W.heap.size W Z) => rsame_b u u' s.ns t.ns Z (nums_below hn hb) (nums_below hn' hb) l1 l3)
  have HE2 := Lib.hid (fun (Z : World) (hb : Below W.heap.size W Z) => rsame_b v v' s.os t.os Z (nums_below ho hb) (nums_below ho' hb) l2 l4)
  have HF := Lib.hid (wS_facts W s.now u v t.now u' v')
  obtain ⟨w0, hw0⟩ : ∃ X, X = wS W s.now u v t.now u' v' := ⟨_, rfl⟩
  rw [← hw0] at HF
  unfold wS at hw0
  obtain ⟨p, c, rfl, -⟩ := hn
  obtain ⟨p2, c2, rfl, -⟩ := ho
  obtain ⟨p', c', rfl, -⟩ := hn'
  obtain ⟨p2', c2', rfl, -⟩ := ho'
  obtain ⟨d0, d1, d2⟩ := HF.out.1.cells
  obtain ⟨e0, e1, e2⟩ := HF.out.2.1.cells
  have HB := Lib.hid HF.out.2.2
  clear l1 l2 l3 l4
  unfold sameB
  by_cases h1 : s.now = t.now
  · have q1 : (s.now == t.now) = true := by rw [beq_iff_eq]; exact h1
    rw [decide_eq_true h1, Bool.true_and]
    clear h1
    by_cases h2 : s.ns = t.ns
    · have HE := Lib.hid (HE1.out w0 HB.out)
      rw [decide_eq_true h2] at HE
      rw [decide_eq_true h2, Bool.true_and]
      clear h2 HE1
      go_enter Try.func27, Try.ntmps27
      go_wp2_with fail
      rw [← hw0]
      clear hw0
      (with_reducible refine HE.out.mono ?_)
      rintro e w1 ⟨rfl, hb1⟩
      have HB1 := Lib.hid (below_then HB.out HB.out.size hb1)
      obtain ⟨d0, d1, d2⟩ := (HF.out.1.below hb1).cells
      obtain ⟨e0, e1, e2⟩ := (HF.out.2.1.below hb1).cells
      have HEE := Lib.hid (HE2.out w1 HB1.out)
      clear hb1 HE HE2
      go_wp2_with fail
      (with_reducible refine HEE.out.mono ?_)
      rintro e w2 ⟨rfl, hb2⟩
      have HB2 := Lib.hid (below_then HB1.out HB1.out.size hb2)
      clear hb2
      go_wp2
      go_ret
      exact ⟨rfl, HB2.out⟩
    · have HE := Lib.hid (HE1.out w0 HB.out)
      rw [decide_eq_false h2] at HE
      rw [decide_eq_false h2, Bool.false_and]
      clear h2 HE1 HE2
      go_enter Try.func27, Try.ntmps27
      go_wp2_with fail
      rw [← hw0]
      clear hw0
      (with_reducible refine HE.out.mono ?_)
      rintro e w1 ⟨rfl, hb1⟩
      have HB1 := Lib.hid (below_then HB.out HB.out.size hb1)
      clear hb1 HE
      go_wp2
      go_ret
      exact ⟨rfl, HB1.out⟩
  · have q1 : (s.now == t.now) = false := by rw [beq_eq_false_iff_ne]; exact h1
    rw [decide_eq_false h1, Bool.false_and]
    clear h1 HE1 HE2
    go_enter Try.func27, Try.ntmps27
    go_wp2
    go_ret
    exact ⟨rfl, by first | exact HB.out | (rw [hw0] at HB; exact HB.out) | exact below2 _ _ _⟩


end Go.Proofs.Ytdmcijfjnegcgaa
namespace Go.Proofs.Ytdmcijfjnegcgaa
set_option maxRecDepth 100000
open Go.RowKit Go.Shelf
attribute [local go_sem] Oper.semAt_some

def eachB (s : RdS) (i : Nat) : Prop := (nN s i = 0 ∧ oO s i = 0) ∨ (1 ≤ nN s i ∧ nN s i ≤ 8 ∧ 1 ≤ oO s i ∧ oO s i ≤ s.now)
/-- The first so many CPUs may be. -/
def GoodTo (s : RdS) (k : Nat) : Prop := (∀ i, i < k → eachB s i) ∧ ∀ i j, i < j → j < k → oO s i ≠ 0 → oO s i ≠ oO s j
theorem not_good {s : RdS} (h : ¬ Good s) : mayB s.now s.ns s.os = false := by
  cases hm : mayB s.now s.ns s.os with
  | false => rfl
  | true => exact absurd ((good_iff s).1 hm) h
theorem NumsAt.keep {W W' : World} {v : Value} {ns : List Int} (h : NumsAt W .i64 v ns) (hb : Below W.heap.size W W') : NumsAt W' .i64 v ns := nums_below h hb

set_option maxHeartbeats 4000000 in
theorem right_no (s : RdS) (p q : Option Addr) (c d : Nat) (W : World) (l1 : s.ns.length ≤ 9223372036854775807) (_ : s.os.length ≤ 9223372036854775807) (h : s.ns.length < 1 ∨ 8 < s.ns.length ∨ s.os.length ≠ s.ns.length ∨ s.now < 0 ∨ 2147483647 < s.now) :
    Calls Try.prog 25 #[.agg #[.int .i64 s.now, .slice p s.ns.length c, .slice q s.os.length d]] W fun e w' => e = .returned (.bool false) ∧ Below W.heap.size W w' := by
  have hc : (s.ns.length < 1) ∨ (1 ≤ s.ns.length ∧ 8 < s.ns.length) ∨ (1 ≤ s.ns.length ∧ s.ns.length ≤ 8 ∧ ((s.os.length : Int) != (s.ns.length : Int)) = true) ∨ (1 ≤ s.ns.length ∧ s.ns.length ≤ 8 ∧ ((s.os.length : Int) != (s.ns.length : Int)) = false ∧ s.now < 0) ∨ (1 ≤ s.ns.length ∧ s.ns.length ≤ 8 ∧ ((s.os.length : Int) != (s.ns.length : Int)) = false ∧ 0 ≤ s.now ∧ 2147483647 < s.now) := by
    by_cases a1 : s.ns.length < 1
    · exact .inl a1
    by_cases a2 : 8 < s.ns.length
    · exact .inr (.inl ⟨by omega, a2⟩)
    by_cases e : s.os.length = s.ns.length
    · have hf : ((s.os.length : Int) != (s.ns.length : Int)) = false := by rw [e]; simp
      by_cases a3 : s.now < 0
      · exact .inr (.inr (.inr (.inl ⟨by omega, by omega, hf, a3⟩)))
      · exact .inr (.inr (.inr (.inr ⟨by omega, by omega, hf, by omega, by omega⟩)))
    · have ht : ((s.os.length : Int) != (s.ns.length : Int)) = true := by rw [bne_iff_ne]; omega
      exact .inr (.inr (.inl ⟨by omega, by omega, ht⟩))
  obtain ⟨n, hn⟩ : ∃ n, n = s.ns.length := ⟨_, rfl⟩
  obtain ⟨m, hm⟩ : ∃ m, m = s.os.length := ⟨_, rfl⟩
  obtain ⟨nw, hw⟩ : ∃ x, x = s.now := ⟨_, rfl⟩
  rw [← hn, ← hm, ← hw] at hc
  rw [← hn, ← hm, ← hw]
  rw [← hn] at l1
  clear h hn hm hw
  rcases hc with hc | ⟨h1, h2⟩ | ⟨h1, h2, h3⟩ | ⟨h1, h2, h3, h4⟩ | ⟨h1, h2, h3, h4, h5⟩
  all_goals
    go_enter Try.func25, Try.ntmps25
    go_wp2
    go_ret
    exact ⟨rfl, below1 _ _⟩

set_option maxHeartbeats 16000000 in
theorem right_yes (s : RdS) (u v : Value) (W : World) (hu : NumsAt W .i64 u s.ns) (hv : NumsAt W .i64 v s.os) (h1 : 1 ≤ s.ns.length) (h8 : s.ns.length ≤ 8) (hl : s.os.length = s.ns.length) (n0 : 0 ≤ s.now) (n1 : s.now ≤ 2147483647) :
    Calls Try.prog 25 #[.agg #[.int .i64 s.now, u, v]] W fun e w' => e = .returned (.bool (mayB s.now s.ns s.os)) ∧ Below W.heap.size W w' := by
  obtain ⟨w0, hw0⟩ : ∃ X : World, X = W.alloc (.cells #[.int .i64 s.now, u, v] 45) := ⟨_, rfl⟩
  have hb0 : Below W.heap.size W w0 := by rw [hw0]; exact below1 _ _
  have HX := Lib.hid (show BoxS W.heap.size s u v w0 ∧ Below W.heap.size W w0 from ⟨⟨by rw [hw0]; exact RBox.new _ _ _ _, nums_below hu hb0, nums_below hv hb0⟩, hb0⟩)
  obtain ⟨p, c, rfl, -⟩ := hu
  obtain ⟨q, d, rfl, -⟩ := hv
  obtain ⟨m, hm⟩ : ∃ m, m = s.os.length := ⟨_, rfl⟩
  have hq : ((m : Int) != (s.ns.length : Int)) = false := by rw [hm, hl]; simp
  have hm8 : m ≤ 8 := by omega
  have HL := Lib.hid (And.intro hl hm)
  rw [← hm] at HX hw0 ⊢
  obtain ⟨R, hR⟩ : ∃ R, R = mayB s.now s.ns s.os := ⟨_, rfl⟩
  rw [← hR]
  have HR := Lib.hid hR
  have HNG := Lib.hid (show ¬ Good s → R = false from fun h => by rw [hR]; exact not_good h)
  have HYG := Lib.hid (show GoodTo s s.ns.length → R = true from fun h => by
    rw [hR, good_iff]
    exact ⟨h1, h8, hl, n0, n1, h.1, h.2⟩)
  clear hb0 hl hm hR
  obtain ⟨d0, d1, d2⟩ := HX.out.1.1.cells
  go_enter Try.func25, Try.ntmps25
  go_upto_region 3 with fail
  rw [← hw0]
  clear hw0 hq
  go_wp2
  go_loop [39] (fun iv => ∃ k : Nat, k ≤ s.ns.length ∧ iv = .int .i64 (k : Int) ∧ Hid (GoodTo s k)) (fun iv => s.ns.length - (intOf iv).toNat)
  case atStart => exact ⟨0, Nat.zero_le _, rfl, Lib.hid ⟨fun i hi => absurd hi (Nat.not_lt_zero i), fun i j _ hj => absurd hj (Nat.not_lt_zero j)⟩⟩
  case round =>
    obtain ⟨k, hk, rfl, HK⟩ := hrel
    by_cases hlt : k < s.ns.length
    · obtain ⟨b1, o1, rfl, a1⟩ := nums_at HX.out.1.2.1 hlt
      obtain ⟨b2, o2, rfl, a2⟩ := nums_at HX.out.1.2.2 (j := k) (by have := HL.out; omega)
      obtain ⟨n, hn⟩ : ∃ n, n = nN s k := ⟨_, rfl⟩
      obtain ⟨t, ht⟩ : ∃ t, t = oO s k := ⟨_, rfl⟩
      rw [show s.ns.getD k 0 = n from hn.symm] at a1
      rw [show s.os.getD k 0 = t from ht.symm] at a2
      have hk0 : (0 : Int) ≤ (k : Int) := by omega
      have hks : (k : Int) < (s.ns.length : Int) := by omega
      have hkm : (k : Int) < (m : Int) := by have := HL.out; omega
      have HNT := Lib.hid (And.intro hn ht)
      have HBAD := Lib.hid (show ¬ ((n = 0 ∧ t = 0) ∨ (1 ≤ n ∧ n ≤ 8 ∧ 1 ≤ t ∧ t ≤ s.now)) → R = false from fun h => HNG.out (fun g => h (by rw [hn, ht]; exact g.each k hlt)))
      clear hn ht
      by_cases c1 : n < 0
      · have HRF := Lib.hid (HBAD.out (by omega))
        clear HBAD HK
        go_wp2
        go_ret
        exact ⟨ret_b HRF.out.symm, HX.out.2⟩
      · by_cases c2 : 8 < n
        · have HRF := Lib.hid (HBAD.out (by omega))
          clear HBAD HK
          go_wp2
          go_ret
          exact ⟨ret_b HRF.out.symm, HX.out.2⟩
        · by_cases hz : n = 0
          · by_cases ht : t = 0
            · have HE := Lib.hid (show eachB s k by unfold eachB; rw [← HNT.out.1, ← HNT.out.2]; omega)
              have hq1 : (n == 0) = true := by rw [hz]; rfl
              have hq2 : (t != 0) = false := by rw [ht]; rfl
              have hn0 : ¬ n < 0 := by omega
              have hn8 : ¬ 8 < n := by omega
              have hnp : ¬ 0 < n := by omega
              clear HBAD hz
              have HTZ := Lib.hid ht
              clear ht
              go_wp2
              go_loop [78] (fun jv => ∃ j : Nat, j ≤ k ∧ jv = .int .i64 (j : Int) ∧ Hid (∀ i, i < j → oO s i ≠ 0 → oO s i ≠ t)) (fun jv => k - (intOf jv).toNat)
              case atStart => exact ⟨0, Nat.zero_le _, rfl, Lib.hid fun i hi => absurd hi (Nat.not_lt_zero i)⟩
              case round =>
                obtain ⟨j, hj, rfl, HJ⟩ := hrel
                by_cases hjl : j < k
                · have hj0 : (0 : Int) ≤ (j : Int) := by omega
                  have hjs : (j : Int) < (k : Int) := by omega
                  have hjm : (j : Int) < (m : Int) := by omega
                  have HJ2 := Lib.hid (show ∀ i, i < j + 1 → oO s i ≠ 0 → oO s i ≠ t from fun i _ h e => h (e.trans HTZ.out))
                  go_wp2
                  go_round
                  case rel => exact ⟨j + 1, by omega, rfl, HJ2⟩
                  case measure => first | omega | (simp [intOf]; omega)
                · obtain rfl : j = k := by omega
                  have HK2 := Lib.hid (show GoodTo s (j + 1) from ⟨fun i hi => by
                      by_cases e : i = j
                      · rw [e]; exact HE.out
                      · exact HK.out.1 i (by omega), fun i i2 h1 h2 h3 => by
                      by_cases e : i2 = j
                      · rw [e, ← HNT.out.2]; exact HJ.out i (by omega) h3
                      · exact HK.out.2 i i2 h1 (by omega) h3⟩)
                  clear HJ HK HE
                  go_wp2
                  go_round
                  case rel => exact ⟨j + 1, by omega, rfl, HK2⟩
                  case measure => first | omega | (simp [intOf]; omega)
            · have HRF := Lib.hid (HBAD.out (by omega))
              have hq1 : (n == 0) = true := by rw [hz]; rfl
              have hq2 : (t != 0) = true := by rw [bne_iff_ne]; exact ht
              clear hz ht
              clear HBAD HK
              go_wp2
              go_ret
              exact ⟨ret_b HRF.out.symm, HX.out.2⟩
          · by_cases c3 : t < 1
            · have HRF := Lib.hid (HBAD.out (by omega))
              have hq1 : (n == 0) = false := by rw [beq_eq_false_iff_ne]; exact hz
              have hnp : 0 < n := by omega
              clear hz
              clear HBAD HK
              go_wp2
              go_ret
              exact ⟨ret_b HRF.out.symm, HX.out.2⟩
            · by_cases c4 : s.now < t
              · have HRF := Lib.hid (HBAD.out (by omega))
                have hq1 : (n == 0) = false := by rw [beq_eq_false_iff_ne]; exact hz
                have hnp : 0 < n := by omega
                clear hz
                clear HBAD HK
                go_wp2
                go_ret
                exact ⟨ret_b HRF.out.symm, HX.out.2⟩
              · have hnp : 0 < n := by omega
                have HE := Lib.hid (show eachB s k by unfold eachB; rw [← HNT.out.1, ← HNT.out.2]; omega)
                have hq1 : (n == 0) = false := by rw [beq_eq_false_iff_ne]; exact hz
                have hq2 : (t != 0) = true := by rw [bne_iff_ne]; omega
                clear HBAD hz
                go_wp2
                go_loop [78] (fun jv => ∃ j : Nat, j ≤ k ∧ jv = .int .i64 (j : Int) ∧ Hid (∀ i, i < j → oO s i ≠ 0 → oO s i ≠ t)) (fun jv => k - (intOf jv).toNat)
                case atStart => exact ⟨0, Nat.zero_le _, rfl, Lib.hid fun i hi => absurd hi (Nat.not_lt_zero i)⟩
                case round =>
                  obtain ⟨j, hj, rfl, HJ⟩ := hrel
                  by_cases hjl : j < k
                  · have hj0 : (0 : Int) ≤ (j : Int) := by omega
                    have hjs : (j : Int) < (k : Int) := by omega
                    have hjm : (j : Int) < (m : Int) := by omega
                    obtain ⟨b3, o3, e3, a3⟩ := nums_at HX.out.1.2.2 (j := j) (by have := HL.out; omega)
                    injection e3 with e3
                    injection e3 with e3 e4
                    subst e3
                    subst e4
                    obtain ⟨x, hx⟩ : ∃ x, x = oO s j := ⟨_, rfl⟩
                    rw [show s.os.getD j 0 = x from hx.symm] at a3
                    by_cases hxt : x = t
                    · have hq3 : (x == t) = true := by rw [beq_iff_eq]; exact hxt
                      have HRF := Lib.hid (HNG.out (fun g => g.apart j k hjl (by omega) (by rw [← hx, hxt]; omega) (by rw [← hx, hxt, HNT.out.2])))
                      clear hxt hx HK HJ
                      go_wp2
                      go_ret
                      exact ⟨ret_b HRF.out.symm, HX.out.2⟩
                    · have hq3 : (x == t) = false := by rw [beq_eq_false_iff_ne]; exact hxt
                      have HJ2 := Lib.hid (show ∀ i, i < j + 1 → oO s i ≠ 0 → oO s i ≠ t from fun i hi h => by
                        by_cases e : i = j
                        · rw [e, ← hx]; exact hxt
                        · exact HJ.out i (by omega) h)
                      clear hxt hx
                      go_wp2
                      go_round
                      case rel => exact ⟨j + 1, by omega, rfl, HJ2⟩
                      case measure => first | omega | (simp [intOf]; omega)
                  · obtain rfl : j = k := by omega
                    have HK2 := Lib.hid (show GoodTo s (j + 1) from ⟨fun i hi => by
                        by_cases e : i = j
                        · rw [e]; exact HE.out
                        · exact HK.out.1 i (by omega), fun i i2 h1 h2 h3 => by
                        by_cases e : i2 = j
                        · rw [e, ← HNT.out.2]; exact HJ.out i (by omega) h3
                        · exact HK.out.2 i i2 h1 (by omega) h3⟩)
                    clear HJ HK HE
                    go_wp2
                    go_round
                    case rel => exact ⟨j + 1, by omega, rfl, HK2⟩
                    case measure => first | omega | (simp [intOf]; omega)
    · obtain rfl : k = s.ns.length := by omega
      have HRT := Lib.hid (HYG.out HK.out)
      clear HK hlt hk
      go_wp2
      go_ret
      exact ⟨ret_b HRT.out.symm, HX.out.2⟩

/-- Which readers may be, by the document's words. -/
theorem right_c (s : RdS) (u v : Value) (W : World) (hu : NumsAt W .i64 u s.ns) (hv : NumsAt W .i64 v s.os) (l1 : s.ns.length ≤ 9223372036854775807) (l2 : s.os.length ≤ 9223372036854775807) :
    Calls Try.prog 25 #[.agg #[.int .i64 s.now, u, v]] W fun e w' => e = .returned (.bool (mayB s.now s.ns s.os)) ∧ Below W.heap.size W w' := by
  by_cases h : 1 ≤ s.ns.length ∧ s.ns.length ≤ 8 ∧ s.os.length = s.ns.length ∧ 0 ≤ s.now ∧ s.now ≤ 2147483647
  · exact right_yes s u v W hu hv h.1 h.2.1 h.2.2.1 h.2.2.2.1 h.2.2.2.2
  · rw [not_good (fun g => h ⟨g.l1, g.l8, g.lo, g.n0, g.n1⟩)]
    obtain ⟨p, c, rfl, -⟩ := hu
    obtain ⟨q, d, rfl, -⟩ := hv
    exact right_no s p q c d W l1 l2 (by omega)

end Go.Proofs.Ytdmcijfjnegcgaa
