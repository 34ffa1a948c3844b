/-
  SchedParts returns true for every number of CPUs, row of picks, and two ends; what was in memory stays.
  Conditions: the row reads as ints of 64 bits.
-/
import Derived.Test.YtmmeiclclapmfaaDWaitS
import Derived.Test.YtmmeiclclapmfaaDPartMath
import Derived.Laws.AppendOwnNone
namespace Go.Proofs.Ytmmeiclclapmfaa
open Go.RowKit Go.Shelf

theorem leastNo (c : Int) (p : Option Addr) (n d : Nat) (xs : List Int) (W : World) (h : RI W p n d xs) (hl : n ≤ 1099511627776) (ho : okB c xs = false) :
    Calls Try.prog 15 #[.int .i64 c, .slice p n d] W fun e w' => e = .returned (.int .i64 0) ∧ Below W.heap.size W w' := by
  have := least_c c _ xs W h.nums (by rw [← h.len]; exact hl)
  simpa [ho] using this
/-- A part of a row, as it is cut out. -/
theorem run_part (p : Option Addr) (n c a b : Nat) (h1 : a ≤ b) (h2 : b ≤ c) (w : World) : (Instr.slice 22 (.slice p n c) (some (.int .i64 (a : Int))) (some (.int .i64 (b : Int))) none).run Try.prog w = .ok (.slice (if c = a then p else p.map (·.add a)) (b - a) (c - a)) w := by
  rw [run_slice_lh w 22 p n c Try.underlying22 .i64 .i64 (a : Int) (b : Int) (by omega) (by omega) (by omega), seq_size]
  simp [sliced, Result.andThen]
theorem RI.part {w : World} {p : Option Addr} {n c : Nat} {xs : List Int} (h : RI w p n c xs) (a g : Nat) (hag : a + g ≤ n) : RI w (if c = a then p else p.map (·.add a)) (a + g - a) (c - a) ((xs.drop a).take g) := by
  obtain ⟨q, d, e, hc⟩ := h.nums
  injection e with e1 e2 e3
  have hl : ((xs.drop a).take g).length = a + g - a := by simp; have := h.len; omega
  have hr := h.room
  refine ⟨⟨_, _, by rw [hl], fun hne => ?_⟩, hl.symm, by omega, ?_⟩
  · have hne' : xs ≠ [] := by rintro rfl; simp at hne
    have hg : 0 < g := by
      rcases Nat.eq_zero_or_pos g with h0 | h0
      · subst h0; simp at hne
      · exact h0
    obtain ⟨b, off, hq, hcs⟩ := hc hne'
    rw [e1, hq, if_neg (by omega)]
    refine ⟨b, off + a, by simp [addr_add_off], fun i hi => ?_⟩
    rw [List.getElem_take, List.getElem_drop, Nat.add_assoc]
    exact hcs (a + i) (by simp at hi; omega)
  · intro hp
    by_cases hca : c = a
    · omega
    · rw [if_neg hca] at hp
      cases p with
      | none => have := h.nil rfl; omega
      | some y => cases hp
/-- A remainder of a word. -/
theorem word_rem (x : Int) (m : Nat) (hm : 0 < m) (hm2 : m ≤ 1000) : ∃ r : Nat, r < m ∧ (IntKind.u64.wrap x).tmod (m : Int) = (r : Int) ∧ wrap64 (r : Int) = (r : Int) := by
  have hU0 : 0 ≤ IntKind.u64.wrap x := by simp [IntKind.wrap, IntKind.signed, IntKind.bits]; omega
  obtain ⟨P, hP⟩ := Int.eq_ofNat_of_zero_le (Int.emod_nonneg (IntKind.u64.wrap x) (show (m : Int) ≠ 0 by omega))
  have hPk : P < m := by have := Int.emod_lt_of_pos (IntKind.u64.wrap x) (show (0 : Int) < m by omega); omega
  exact ⟨P, hPk, (Int.tmod_eq_emod_of_nonneg hU0).trans hP, by unfold wrap64; omega⟩

/-- slices.Sort of a row of the call's own. -/
theorem sort_row {w : World} {B : Nat} {q : Option Addr} {a ca : Nat} {zs : List Int} (h : w.ownsRow B 3 1 (.slice q a ca) a (zs.map (Value.int .i64))) (hB : B ≤ w.heap.size) (ha : a ≤ 1099511627776) :
    Calls Try.prog 25 #[.slice q a ca] w fun e w' => e = .returned (.tuple #[]) ∧ RI w' q a ca (rise zs) ∧ Below B w w' := by
  have hl : zs.length = a := by have := h.1; simpa using this
  rcases h.2 with ⟨e, h0⟩ | ⟨g, cap, cur, e, hg, hb, h1, h2, h3, h4⟩
  · injection e with e1 e2 e3
    subst e1 e2 e3
    obtain rfl : zs = [] := List.eq_nil_of_length_eq_zero hl
    refine (Try.slices_Sort_int_none none 0 w).mono fun e w' ⟨he, hw⟩ => ⟨he, ?_, ?_⟩
    · subst hw
      exact ⟨⟨none, 0, by simp [rise], fun h => absurd (by simp [rise]) h⟩, by simp [rise], Nat.le_refl _, fun _ => rfl⟩
    · subst hw; exact Below.refl _ _
  · injection e with e1 e2 e3
    subst e1 e3
    rw [Nat.mul_one] at h4 h3
    refine (sort_c g a ca cur 3 zs w hl hb h4 (by omega)).mono fun e w' ⟨he, hk, cur', hs', hb', ht'⟩ => ⟨he, ?_, ?_⟩
    · have ho : w'.ownsRow B 3 1 (.slice (some ⟨g, 0, none⟩) a ca) a ((rise zs).map (Value.int .i64)) := ⟨by rw [List.length_map, rise_length, hl]; simp, .inr ⟨g, ca, cur', rfl, hg, hb', h1, h2, by rw [hs', h3]; simp, by rw [Nat.mul_one]; exact ht'⟩⟩
      exact RI.of_owns ho
    · exact hk.below hB (fun q hq => by have hq : q = g := hq; omega)
theorem u64_small (x : Int) (h0 : 0 ≤ x) (h1 : x ≤ 1000) : IntKind.u64.wrap x = x := by simp [IntKind.wrap, IntKind.signed, IntKind.bits]; omega

set_option maxRecDepth 100000 in
set_option maxHeartbeats 4000000 in
theorem schedParts_walk (c : Int) (p : Option Addr) (n d : Nat) (xs : List Int) (e0 e1 : Int) (W : World) (h : RI W p n d xs) (hn : n ≤ 9223372036854775807) :
    Calls Try.prog 6 #[.int .i64 c, .slice p n d, .agg #[.int .i64 e0, .int .i64 e1]] W fun e w' => e = .returned (.bool true) ∧ Below W.heap.size W w' := by
  obtain ⟨wo, hwo⟩ : ∃ wo : World, wo = W.alloc (.cells #[.int .i64 e0, .int .i64 e1] 40) := ⟨_, rfl⟩
  have hb0 : Below W.heap.size W wo := by rw [hwo]; exact (Below.refl _ _).alloc (Nat.le_refl _) _
  have hq0 : wo.cell? ⟨W.heap.size, 0, none⟩ = some (.int .i64 e0) := by rw [hwo]; simp
  have hq1 : wo.cell? ⟨W.heap.size, 1, none⟩ = some (.int .i64 e1) := by rw [hwo]; simp
  have HQ := Lib.hid (And.intro hq0 hq1)
  clear hq0 hq1
  go_enter Try.func6, Try.ntmps6
  go_wp2_with fail
  rw [← hwo]
  clear hwo
  refine (wakes_c _).mono ?_
  rintro e w1 ⟨rfl, hb1⟩
  have hB1 := below_then hb0 hb0.size hb1
  have HQ1 := Lib.hid (And.intro (below_cell hb1 HQ.out.1) (below_cell hb1 HQ.out.2))
  clear hb1 hb0 HQ
  go_wp2_with fail
  refine (few_c p n d xs w1 (h.below hB1) hn).mono ?_
  rintro e w2 ⟨⟨p1, d1, rfl, ho⟩, hb2⟩
  have R := RI.of_owns ho
  have hL60 : (xs.take 60).length ≤ 60 := by rw [List.length_take]; omega
  have hB := below_then hB1 hB1.size hb2
  have HQ2 := Lib.hid (And.intro (below_cell hb2 HQ1.out.1) (below_cell hb2 HQ1.out.2))
  clear hB1 hb2 ho h HQ1
  generalize xs.take 60 = L at *
  obtain ⟨m, hm⟩ : ∃ m, m = L.length := ⟨_, rfl⟩
  rw [← hm] at R hL60 ⊢
  have HM := Lib.hid hm
  clear hm
  have hm40 : m ≤ 1099511627776 := by omega
  cases hok : okB c L with
  | false =>
    go_wp2_with fail
    refine (checkW c _ _ _ _ _ R hm40 140 (by rw [hok]; rfl)).mono ?_
    rintro e w3 ⟨rfl, hb3⟩
    have R3 := R.below hb3
    have hB3 := below_then hB hB.size hb3
    clear hb3 hB R
    go_wp2_with fail
    refine (leastNo c _ _ _ _ _ R3 hm40 hok).mono ?_
    rintro e w4 ⟨rfl, hb4⟩
    have hB4 := below_then hB3 hB3.size hb4
    clear hb4 hB3 R3 hok
    go_wp2
    go_ret
    exact ⟨rfl, hB4⟩
  | true =>
    obtain ⟨⟨hc1, hc8⟩, hall⟩ := okB_iff.1 hok
    obtain ⟨k, rfl⟩ := Int.eq_ofNat_of_zero_le (show 0 ≤ c by omega)
    have hkk : (k : Int).toNat = k := by omega
    obtain ⟨K, hK⟩ : ∃ K, K = leastL k L := ⟨_, rfl⟩
    have hK1 : 1 ≤ K := by rw [hK]; exact least_pos k L
    have hK61 : K ≤ 61 := by have h1 := least_le k (by omega) L; have h2 := HM.out; omega
    have HKD := Lib.hid hK
    have HOK := Lib.hid hok
    have HALL := Lib.hid hall
    have HKK := Lib.hid hkk
    clear hok hall hK hkk
    go_wp2_with fail
    refine (checkW k _ _ _ _ _ R hm40 0 (by rw [HOK.out]; rfl)).mono ?_
    rintro e w3 ⟨rfl, hb3⟩
    have R3 := R.below hb3
    have hB3 := below_then hB hB.size hb3
    have HQ3 := Lib.hid (And.intro (below_cell hb3 HQ2.out.1) (below_cell hb3 HQ2.out.2))
    clear hb3 hB R HQ2
    go_wp2_with fail
    refine (leastW k _ _ _ _ _ R3 hm40 K HOK.out (by rw [HKK.out, HKD.out])).mono ?_
    rintro e w4 ⟨rfl, hb4⟩
    have R4 := R3.below hb4
    have hB4 := below_then hB3 hB3.size hb4
    obtain ⟨hq0, hq1⟩ := And.intro (below_cell hb4 HQ3.out.1) (below_cell hb4 HQ3.out.2)
    clear hb4 hB3 R3 HQ3
    obtain ⟨F, hF, hF1, hF2⟩ := word_rem e0 (m + 1) (by omega) (by omega)
    obtain ⟨G, hG, hG1, hG2⟩ := word_rem e1 (m - F + 1) (by omega) (by omega)
    have hGi : ((m - F + 1 : Nat) : Int) = (m : Int) - (F : Int) + 1 := by omega
    have hFi : ((m + 1 : Nat) : Int) = (m : Int) + 1 := by omega
    rw [hFi] at hF1
    rw [hGi] at hG1
    have HF := Lib.hid (And.intro hF1 hF2)
    have HG := Lib.hid (And.intro hG1 hG2)
    have hu1 : IntKind.u64.wrap ((m : Int) + 1) = (m : Int) + 1 := u64_small _ (by omega) (by omega)
    have hu2 : IntKind.u64.wrap ((m : Int) - (F : Int) + 1) = (m : Int) - (F : Int) + 1 := u64_small _ (by omega) (by omega)
    have hz1 : ((m : Int) + 1 == 0) = false := by rw [beq_eq_false_iff_ne]; omega
    have hz2 : ((m : Int) - (F : Int) + 1 == 0) = false := by rw [beq_eq_false_iff_ne]; omega
    have hz3 : ¬ ((m : Int) + 1 = 0) := by omega
    have hz4 : ¬ ((m : Int) - (F : Int) + 1 = 0) := by omega
    clear hF1 hF2 hG1 hG2 hGi hFi
    go_upto_region 8 with (fail)
    rw [HF.out.1, HF.out.2]
    clear hu1 hz1 hz3 hq0
    have hcut := run_part p1 m d1 F (F + G) (by omega) (by have := R4.room; omega)
    have hsum : ((F + G : Nat) : Int) = (F : Int) + (G : Int) := by omega
    rw [hsum, Nat.add_sub_cancel_left] at hcut
    have RP := R4.part F G (by omega)
    rw [Nat.add_sub_cancel_left] at RP
    obtain ⟨pp, hpp⟩ : ∃ pp, pp = (if d1 = F then p1 else p1.map (·.add F)) := ⟨_, rfl⟩
    obtain ⟨dp, hdp⟩ : ∃ dp, dp = d1 - F := ⟨_, rfl⟩
    rw [← hpp, ← hdp] at hcut RP
    clear hpp hdp hsum
    have hG1 := HG.out.1
    go_upto_region 9 with (fail)
    clear hG1 hcut hu2 hz2 hz4 hq1 HF HG
    obtain ⟨Q, hQ⟩ : ∃ Q, Q = (L.drop F).take G := ⟨_, rfl⟩
    rw [← hQ] at RP
    have hQok : okB (k : Int) Q = true := okB_iff.2 ⟨⟨hc1, hc8⟩, fun x hx => HALL.out x (by rw [hQ] at hx; exact List.mem_of_mem_drop (List.mem_of_mem_take hx))⟩
    have hQf : leastL k Q ≤ K := by rw [hQ]; exact fair_part (by omega) (by rw [HKD.out]; exact Nat.le_refl _) F G
    have hQr : roundsL k Q ≤ roundsL k L := by rw [hQ]; exact rounds_part k L F G
    have HQOK := Lib.hid hQok
    have HQF := Lib.hid hQf
    have HQR := Lib.hid hQr
    have hG40 : G ≤ 1099511627776 := by omega
    clear hQ hQok hQf hQr hF hG
    have HFT := Lib.hid (show (okB (k : Int) L && decide ((leastL (k : Int).toNat L : Int) ≤ (K : Int))) = true by rw [HOK.out, HKK.out, ← HKD.out]; simp)
    have HFN := Lib.hid (show (okB (k : Int) L && decide ((leastL (k : Int).toNat L : Int) ≤ (K : Int) - 1)) = false by rw [HOK.out, HKK.out, ← HKD.out]; simp; omega)
    have HFQ := Lib.hid (show (okB (k : Int) Q && decide ((leastL (k : Int).toNat Q : Int) ≤ (K : Int))) = true by rw [HQOK.out, HKK.out]; simpa using HQF.out)
    obtain ⟨KP, hKP⟩ : ∃ KP, KP = leastL k Q := ⟨_, rfl⟩
    have hKPK : KP ≤ K := by rw [hKP]; exact HQF.out
    have HKP := Lib.hid (show leastL (k : Int).toNat Q = KP by rw [HKK.out, hKP])
    clear hKP
    go_wp2_with fail
    refine (fairW k _ _ _ _ K _ R4 hm40 true HFT.out).mono ?_
    rintro e w5 ⟨rfl, hb5⟩
    have R5 := R4.below hb5
    have RP5 := RP.below hb5
    have hB5 := below_then hB4 hB4.size hb5
    clear hb5 R4 RP hB4
    have hstep : ∃ wz : World, wz = w5 := ⟨_, rfl⟩
    by_cases h1K : 1 < K
    · go_wp2_with fail
      refine (fairW k _ _ _ _ ((K : Int) - 1) _ R5 hm40 false HFN.out).mono ?_
      rintro e w6 ⟨rfl, hb6⟩
      have R6 := R5.below hb6
      have RP6 := RP5.below hb6
      have hB6 := below_then hB5 hB5.size hb6
      clear hb6 R5 RP5 hB5 hstep
      go_wp2_with fail
      refine (fairW k _ _ _ _ K _ RP6 hG40 true HFQ.out).mono ?_
      rintro e w7 ⟨rfl, hb7⟩
      have R7 := R6.below hb7
      have RP7 := RP6.below hb7
      have hB7 := below_then hB6 hB6.size hb7
      clear hb7 R6 RP6 hB6
      go_wp2_with fail
      refine (leastW k _ _ _ _ _ RP7 hG40 KP HQOK.out HKP.out).mono ?_
      rintro e w8 ⟨rfl, hb8⟩
      have R8 := R7.below hb8
      have RP8 := RP7.below hb8
      have hB8 := below_then hB7 hB7.size hb8
      clear hb8 R7 RP7 hB7 h1K
      go_upto_region 12 with (fail)
      go_wp2_with fail
      refine (splitW k _ _ _ _ _ R8 hm40 HOK.out).mono ?_
      rintro e w9 ⟨⟨zs, vs, hzs, rfl, RS⟩, hb9⟩
      rw [HKK.out] at RS ⊢
      have R9 := R8.below hb9
      have RP9 := RP8.below hb9
      have hB9 := below_then hB8 hB8.size hb9
      clear hb9 R8 RP8 hB8
      have hk8 : k ≤ 8 := by omega
      go_wp2
      go_loopw [11, 96] (fun av iv wr => ∃ (i a : Nat) (pa : Option Addr) (ca : Nat), i ≤ k ∧ iv = .int .i64 i ∧ av = .slice pa a ca ∧ Hid (a = (catP L i).length) ∧ Hid (wr.ownsRow w9.heap.size 3 1 (.slice pa a ca) a ((catP L i).map (Value.int .i64))) ∧ Below w9.heap.size w9 wr) (fun _ iv _ => k - (intOf iv).toNat)
      case atStart => exact ⟨0, 0, none, 0, Nat.zero_le _, rfl, rfl, rfl, World.ownsRow_nil _ _ _ _, Below.refl _ _⟩
      case round =>
        obtain ⟨i, a, pa, ca, hi, rfl, rfl, HA, HO, hbr⟩ := hrel
        by_cases hlt : i < k
        · have hiv : i < vs.length := by rw [RS.len]; exact hlt
          have hcv := below_cell hbr (RS.box.cell i hiv)
          have hown := RS.own i hiv
          obtain ⟨v, hv⟩ : ∃ v, v = vs[i] := ⟨_, rfl⟩
          rw [← hv] at hcv hown
          clear hv hiv
          obtain ⟨nv, hnv⟩ : ∃ nv, nv = (plc L (i : Int)).length := ⟨_, rfl⟩
          rw [← hnv] at hown
          obtain ⟨pv, cv, rfl⟩ := owns_slice hown
          have RV := (RI.of_owns hown).below hbr
          have hnvl := plc_len L (i : Int)
          rw [← hnv] at hnvl
          have hnv60 : nv ≤ 60 := by have := HM.out; omega
          have HNV := Lib.hid hnv
          clear hown hnvl hnv
          go_wp2
          go_loop [103] (fun jv => ∃ j : Nat, j ≤ nv ∧ jv = .int .i64 j) (fun jv => nv - (intOf jv).toNat)
          case atStart => exact ⟨0, Nat.zero_le _, rfl⟩
          case round =>
            obtain ⟨j, hj, rfl⟩ := hrel
            by_cases hjn : j < nv
            · have hjp : j < (plc L (i : Int)).length := by rw [← HNV.out]; exact hjn
              obtain ⟨q, hq, hqe, hql⟩ := plc_mem (List.getElem_mem hjp)
              obtain ⟨bv, ov, rfl, hcx⟩ := RV.cells (by omega)
              obtain ⟨bl, ol, rfl, hcl⟩ := R9.cells (by have := HM.out; omega)
              have hx := hcx j hjp
              have hy := below_cell hbr (hcl q hq)
              rw [hqe] at hx
              rw [hql] at hy
              have hqm : q < m := by have := HM.out; omega
              clear hcx hcl hqe hql hjp hq
              go_wp2
              go_round
              case rel => exact ⟨j + 1, by omega, by go_num⟩
              case measure => simp [intOf]; omega
            · obtain rfl : nv = j := by omega
              clear hjn
              have hsz9 := hbr.size
              have haL : a ≤ 60 := by have h1 := HA.out; have h2 := catP_mono L (i := i) (j := k) (by omega); have h3 := catP_length HALL.out; have h4 := HM.out; omega
              cases pv with
              | none =>
                have hpl : plc L (i : Int) = [] := by
                  obtain ⟨q', d', e', hc'⟩ := RV.nums
                  injection e' with e1' _ _
                  cases hq' : plc L (i : Int) with
                  | nil => rfl
                  | cons y r => obtain ⟨_, _, hh, _⟩ := hc' (by rw [hq']; simp); rw [← e1'] at hh; cases hh
                obtain rfl : nv = 0 := by rw [HNV.out, hpl]; rfl
                obtain rfl : cv = 0 := RV.nil rfl
                have HC := Lib.hid (show catP L (i + 1) = catP L i by rw [catP_succ, hpl, List.append_nil])
                obtain ⟨i0, hi0, hz0, hz1, hz2⟩ := info_parts int_info
                have HI0 := Lib.hid hi0
                clear hpl hi0 hz0 hz1 hz2 RV hcv
                go_wp2_with (at_builtin; refine wpList_append_own_none rfl _ _ 22 rfl w9.heap.size 3 i0 1 Try.underlying22 HI0.out (.slice pa a ca) a _ rfl HO.out rfl ?_)
                go_roundw
                case rel => exact ⟨i + 1, a, pa, ca, by omega, by go_num, rfl, by rw [HC.out]; exact HA, by rw [HC.out]; exact HO, hbr⟩
                case measure => simp [intOf]; omega
              | some av =>
                obtain ⟨i0, hi0, hz0, hz1, hz2⟩ := info_parts int_info
                have HI0 := Lib.hid (And.intro hi0 (And.intro hz0 (And.intro hz1 hz2)))
                have hvals := RV.vals
                obtain ⟨hvl, _, _, _, hvc⟩ := hvals
                have hnews : ∀ j u, ((plc L (i : Int)).map (Value.int .i64))[j]? = some u → wr.cell? (av.add j) = some u := by
                  obtain ⟨hvl', p', c', e', hvc'⟩ := RV.vals
                  injection e' with e1' _ _
                  rcases hvc' with ⟨h0, _⟩ | ⟨ad, had, hh⟩
                  · rw [← e1'] at h0; cases h0
                  · rw [← e1'] at had; injection had with had; subst had; exact hh
                have HNW := Lib.hid hnews
                have HVL := Lib.hid hvl
                have HC := Lib.hid (show (catP L (i + 1)).length = a + nv by rw [catP_succ, List.length_append, ← HA.out, ← HNV.out])
                clear hi0 hz0 hz1 hz2 hvl hvc hnews RV hcv
                go_wp2_with (at_builtin; refine wpList_append_own _ rfl _ _ 22 rfl w9.heap.size 3 i0 (.int .i64 0) 1 8 Try.underlying22 HI0.out.1 HI0.out.2.1 HI0.out.2.2.1 HI0.out.2.2.2 rfl (by decide) (.slice pa a ca) a _ rfl HO.out av nv cv _ rfl HVL.out HNW.out (fun u hu => by obtain ⟨x, _, rfl⟩ := List.mem_map.1 hu; rfl) (by unfold maxLen; omega) (by omega) hsz9 ?_; intro v' w10 hown' hgrow _; obtain ⟨q6, d6, rfl⟩ := owns_slice hown')
                have hbr2 : Below w9.heap.size w9 w10 := hbr.grown hgrow hsz9 (fun r hr => (HO.out.lt r hr).1)
                have HO2 := Lib.hid (show w10.ownsRow w9.heap.size 3 1 (.slice q6 (a + nv) d6) (a + nv) ((catP L (i + 1)).map (Value.int .i64)) by rw [catP_succ, List.map_append]; exact hown')
                clear hown' hgrow HO hbr
                go_roundw
                case rel => exact ⟨i + 1, a + nv, q6, d6, by omega, by go_num, rfl, Lib.hid HC.out.symm, HO2, hbr2⟩
                case measure => simp [intOf]; omega
        · obtain rfl : i = k := by omega
          have ham : a = m := by rw [HA.out, catP_length HALL.out, HM.out]
          subst ham
          have hsz9 := hbr.size
          have HS := Lib.hid (sort_row HO.out hsz9 hm40)
          rw [rise_catP HALL.out, ← HM.out] at HS
          have R10 := R9.below hbr
          have RP10 := RP9.below hbr
          have hB10 := below_then hB9 hB9.size hbr
          clear HO HA RS hlt
          go_wp2_with fail
          refine HS.out.mono ?_
          rintro e w11 ⟨rfl, RA, hb11⟩
          have R11 := R9.below (hbr.trans hb11)
          have RP11 := RP9.below (hbr.trans hb11)
          have hB11 := below_then hB9 hB9.size (hbr.trans hb11)
          clear hbr hb11 R10 RP10 hB10 R9 RP9 hB9 HS
          go_wp2
          go_loop [122] (fun jv => ∃ j : Nat, j ≤ a ∧ jv = .int .i64 j) (fun jv => a - (intOf jv).toNat)
          case atStart => exact ⟨0, Nat.zero_le _, rfl⟩
          case round =>
            obtain ⟨j, hj, rfl⟩ := hrel
            by_cases hjn : j < a
            · obtain ⟨ba, oa, rfl, hca⟩ := RA.cells (by omega)
              have hx := hca j (by rw [uptoI_length]; exact hjn)
              rw [uptoI_get] at hx
              clear hca
              go_wp2
              go_round
              case rel => exact ⟨j + 1, by omega, by go_num⟩
              case measure => simp [intOf]; omega
            · obtain rfl : a = j := by omega
              clear hjn
              obtain ⟨rq, hrq⟩ : ∃ r, r = roundsL i Q := ⟨_, rfl⟩
              obtain ⟨rl, hrl⟩ : ∃ r, r = roundsL i L := ⟨_, rfl⟩
              have hle : rq ≤ rl := by rw [hrq, hrl]; exact HQR.out
              have HRQ := Lib.hid (show roundsL (i : Int).toNat Q = rq by rw [HKK.out, hrq])
              have HRL := Lib.hid (show roundsL (i : Int).toNat L = rl by rw [HKK.out, hrl])
              clear hrq hrl
              go_wp2_with fail
              refine (roundsW i _ _ _ _ _ RP11 hG40 rq HQOK.out HRQ.out).mono ?_
              rintro e w12 ⟨rfl, hb12⟩
              have R12 := R11.below hb12
              have hB12 := below_then hB11 hB11.size hb12
              clear hb12 R11 RP11 hB11 RA
              go_wp2_with fail
              refine (roundsW i _ _ _ _ _ R12 hm40 rl HOK.out HRL.out).mono ?_
              rintro e w13 ⟨rfl, hb13⟩
              have hB13 := below_then hB12 hB12.size hb13
              clear hb13 R12 hB12
              go_wp2
              go_ret
              exact ⟨rfl, hB13⟩
    · obtain rfl : K = 1 := by omega
      go_wp2_with fail
      refine (fairW k _ _ _ _ ((1 : Nat) : Int) _ RP5 hG40 true HFQ.out).mono ?_
      rintro e w7 ⟨rfl, hb7⟩
      have R7 := R5.below hb7
      have RP7 := RP5.below hb7
      have hB7 := below_then hB5 hB5.size hb7
      clear hb7 R5 RP5 hB5 hstep
      go_wp2_with fail
      refine (leastW k _ _ _ _ _ RP7 hG40 KP HQOK.out HKP.out).mono ?_
      rintro e w8 ⟨rfl, hb8⟩
      have R8 := R7.below hb8
      have RP8 := RP7.below hb8
      have hB8 := below_then hB7 hB7.size hb8
      clear hb8 R7 RP7 hB7 h1K
      go_upto_region 12 with (fail)
      go_wp2_with fail
      refine (splitW k _ _ _ _ _ R8 hm40 HOK.out).mono ?_
      rintro e w9 ⟨⟨zs, vs, hzs, rfl, RS⟩, hb9⟩
      rw [HKK.out] at RS ⊢
      have R9 := R8.below hb9
      have RP9 := RP8.below hb9
      have hB9 := below_then hB8 hB8.size hb9
      clear hb9 R8 RP8 hB8
      have hk8 : k ≤ 8 := by omega
      go_wp2
      go_loopw [11, 96] (fun av iv wr => ∃ (i a : Nat) (pa : Option Addr) (ca : Nat), i ≤ k ∧ iv = .int .i64 i ∧ av = .slice pa a ca ∧ Hid (a = (catP L i).length) ∧ Hid (wr.ownsRow w9.heap.size 3 1 (.slice pa a ca) a ((catP L i).map (Value.int .i64))) ∧ Below w9.heap.size w9 wr) (fun _ iv _ => k - (intOf iv).toNat)
      case atStart => exact ⟨0, 0, none, 0, Nat.zero_le _, rfl, rfl, rfl, World.ownsRow_nil _ _ _ _, Below.refl _ _⟩
      case round =>
        obtain ⟨i, a, pa, ca, hi, rfl, rfl, HA, HO, hbr⟩ := hrel
        by_cases hlt : i < k
        · have hiv : i < vs.length := by rw [RS.len]; exact hlt
          have hcv := below_cell hbr (RS.box.cell i hiv)
          have hown := RS.own i hiv
          obtain ⟨v, hv⟩ : ∃ v, v = vs[i] := ⟨_, rfl⟩
          rw [← hv] at hcv hown
          clear hv hiv
          obtain ⟨nv, hnv⟩ : ∃ nv, nv = (plc L (i : Int)).length := ⟨_, rfl⟩
          rw [← hnv] at hown
          obtain ⟨pv, cv, rfl⟩ := owns_slice hown
          have RV := (RI.of_owns hown).below hbr
          have hnvl := plc_len L (i : Int)
          rw [← hnv] at hnvl
          have hnv60 : nv ≤ 60 := by have := HM.out; omega
          have HNV := Lib.hid hnv
          clear hown hnvl hnv
          go_wp2
          go_loop [103] (fun jv => ∃ j : Nat, j ≤ nv ∧ jv = .int .i64 j) (fun jv => nv - (intOf jv).toNat)
          case atStart => exact ⟨0, Nat.zero_le _, rfl⟩
          case round =>
            obtain ⟨j, hj, rfl⟩ := hrel
            by_cases hjn : j < nv
            · have hjp : j < (plc L (i : Int)).length := by rw [← HNV.out]; exact hjn
              obtain ⟨q, hq, hqe, hql⟩ := plc_mem (List.getElem_mem hjp)
              obtain ⟨bv, ov, rfl, hcx⟩ := RV.cells (by omega)
              obtain ⟨bl, ol, rfl, hcl⟩ := R9.cells (by have := HM.out; omega)
              have hx := hcx j hjp
              have hy := below_cell hbr (hcl q hq)
              rw [hqe] at hx
              rw [hql] at hy
              have hqm : q < m := by have := HM.out; omega
              clear hcx hcl hqe hql hjp hq
              go_wp2
              go_round
              case rel => exact ⟨j + 1, by omega, by go_num⟩
              case measure => simp [intOf]; omega
            · obtain rfl : nv = j := by omega
              clear hjn
              have hsz9 := hbr.size
              have haL : a ≤ 60 := by have h1 := HA.out; have h2 := catP_mono L (i := i) (j := k) (by omega); have h3 := catP_length HALL.out; have h4 := HM.out; omega
              cases pv with
              | none =>
                have hpl : plc L (i : Int) = [] := by
                  obtain ⟨q', d', e', hc'⟩ := RV.nums
                  injection e' with e1' _ _
                  cases hq' : plc L (i : Int) with
                  | nil => rfl
                  | cons y r => obtain ⟨_, _, hh, _⟩ := hc' (by rw [hq']; simp); rw [← e1'] at hh; cases hh
                obtain rfl : nv = 0 := by rw [HNV.out, hpl]; rfl
                obtain rfl : cv = 0 := RV.nil rfl
                have HC := Lib.hid (show catP L (i + 1) = catP L i by rw [catP_succ, hpl, List.append_nil])
                obtain ⟨i0, hi0, hz0, hz1, hz2⟩ := info_parts int_info
                have HI0 := Lib.hid hi0
                clear hpl hi0 hz0 hz1 hz2 RV hcv
                go_wp2_with (at_builtin; refine wpList_append_own_none rfl _ _ 22 rfl w9.heap.size 3 i0 1 Try.underlying22 HI0.out (.slice pa a ca) a _ rfl HO.out rfl ?_)
                go_roundw
                case rel => exact ⟨i + 1, a, pa, ca, by omega, by go_num, rfl, by rw [HC.out]; exact HA, by rw [HC.out]; exact HO, hbr⟩
                case measure => simp [intOf]; omega
              | some av =>
                obtain ⟨i0, hi0, hz0, hz1, hz2⟩ := info_parts int_info
                have HI0 := Lib.hid (And.intro hi0 (And.intro hz0 (And.intro hz1 hz2)))
                have hvals := RV.vals
                obtain ⟨hvl, _, _, _, hvc⟩ := hvals
                have hnews : ∀ j u, ((plc L (i : Int)).map (Value.int .i64))[j]? = some u → wr.cell? (av.add j) = some u := by
                  obtain ⟨hvl', p', c', e', hvc'⟩ := RV.vals
                  injection e' with e1' _ _
                  rcases hvc' with ⟨h0, _⟩ | ⟨ad, had, hh⟩
                  · rw [← e1'] at h0; cases h0
                  · rw [← e1'] at had; injection had with had; subst had; exact hh
                have HNW := Lib.hid hnews
                have HVL := Lib.hid hvl
                have HC := Lib.hid (show (catP L (i + 1)).length = a + nv by rw [catP_succ, List.length_append, ← HA.out, ← HNV.out])
                clear hi0 hz0 hz1 hz2 hvl hvc hnews RV hcv
                go_wp2_with (at_builtin; refine wpList_append_own _ rfl _ _ 22 rfl w9.heap.size 3 i0 (.int .i64 0) 1 8 Try.underlying22 HI0.out.1 HI0.out.2.1 HI0.out.2.2.1 HI0.out.2.2.2 rfl (by decide) (.slice pa a ca) a _ rfl HO.out av nv cv _ rfl HVL.out HNW.out (fun u hu => by obtain ⟨x, _, rfl⟩ := List.mem_map.1 hu; rfl) (by unfold maxLen; omega) (by omega) hsz9 ?_; intro v' w10 hown' hgrow _; obtain ⟨q6, d6, rfl⟩ := owns_slice hown')
                have hbr2 : Below w9.heap.size w9 w10 := hbr.grown hgrow hsz9 (fun r hr => (HO.out.lt r hr).1)
                have HO2 := Lib.hid (show w10.ownsRow w9.heap.size 3 1 (.slice q6 (a + nv) d6) (a + nv) ((catP L (i + 1)).map (Value.int .i64)) by rw [catP_succ, List.map_append]; exact hown')
                clear hown' hgrow HO hbr
                go_roundw
                case rel => exact ⟨i + 1, a + nv, q6, d6, by omega, by go_num, rfl, Lib.hid HC.out.symm, HO2, hbr2⟩
                case measure => simp [intOf]; omega
        · obtain rfl : i = k := by omega
          have ham : a = m := by rw [HA.out, catP_length HALL.out, HM.out]
          subst ham
          have hsz9 := hbr.size
          have HS := Lib.hid (sort_row HO.out hsz9 hm40)
          rw [rise_catP HALL.out, ← HM.out] at HS
          have R10 := R9.below hbr
          have RP10 := RP9.below hbr
          have hB10 := below_then hB9 hB9.size hbr
          clear HO HA RS hlt
          go_wp2_with fail
          refine HS.out.mono ?_
          rintro e w11 ⟨rfl, RA, hb11⟩
          have R11 := R9.below (hbr.trans hb11)
          have RP11 := RP9.below (hbr.trans hb11)
          have hB11 := below_then hB9 hB9.size (hbr.trans hb11)
          clear hbr hb11 R10 RP10 hB10 R9 RP9 hB9 HS
          go_wp2
          go_loop [122] (fun jv => ∃ j : Nat, j ≤ a ∧ jv = .int .i64 j) (fun jv => a - (intOf jv).toNat)
          case atStart => exact ⟨0, Nat.zero_le _, rfl⟩
          case round =>
            obtain ⟨j, hj, rfl⟩ := hrel
            by_cases hjn : j < a
            · obtain ⟨ba, oa, rfl, hca⟩ := RA.cells (by omega)
              have hx := hca j (by rw [uptoI_length]; exact hjn)
              rw [uptoI_get] at hx
              clear hca
              go_wp2
              go_round
              case rel => exact ⟨j + 1, by omega, by go_num⟩
              case measure => simp [intOf]; omega
            · obtain rfl : a = j := by omega
              clear hjn
              obtain ⟨rq, hrq⟩ : ∃ r, r = roundsL i Q := ⟨_, rfl⟩
              obtain ⟨rl, hrl⟩ : ∃ r, r = roundsL i L := ⟨_, rfl⟩
              have hle : rq ≤ rl := by rw [hrq, hrl]; exact HQR.out
              have HRQ := Lib.hid (show roundsL (i : Int).toNat Q = rq by rw [HKK.out, hrq])
              have HRL := Lib.hid (show roundsL (i : Int).toNat L = rl by rw [HKK.out, hrl])
              clear hrq hrl
              go_wp2_with fail
              refine (roundsW i _ _ _ _ _ RP11 hG40 rq HQOK.out HRQ.out).mono ?_
              rintro e w12 ⟨rfl, hb12⟩
              have R12 := R11.below hb12
              have hB12 := below_then hB11 hB11.size hb12
              clear hb12 R11 RP11 hB11 RA
              go_wp2_with fail
              refine (roundsW i _ _ _ _ _ R12 hm40 rl HOK.out HRL.out).mono ?_
              rintro e w13 ⟨rfl, hb13⟩
              have hB13 := below_then hB12 hB12.size hb13
              clear hb13 R12 hB12
              go_wp2
              go_ret
              exact ⟨rfl, hB13⟩

end Go.Proofs.Ytmmeiclclapmfaa
