/-
  The document's answer for Apart: true where Check says so.
  Conditions: none but the ranges of Go's types.
-/
import Derived.Test.YtejendpkkdmjhaaRefFields
namespace Go.Proofs.Ytejendpkkdmjhaa
open Go.RowKit Go.Shelf

theorem chk_step {fs : List (Int × Int)} {T : Nat} (i : Nat) (hi : i < fs.length) (h : chkTo (fs.take i) = some T) (hf : isF fs[i].1 fs[i].2 = true) :
    (∀ j (hj : j < i), apartF fs[j] fs[i]) ↔ (chkTo (fs.take (i + 1))).isSome = true := by
  obtain ⟨f1, f2, f3⟩ := isF_iff.1 hf
  have hbit := (chk_inv fs i (by omega) T h).1
  rw [take_snoc fs i hi, chkTo_snoc, h]
  simp only [Option.bind_some, chk1, hf, if_true]
  rw [foldC_upto _ _ _ (by omega)]
  have hiff : (∀ j (hj : j < i), apartF fs[j] fs[i]) ↔ T &&& maskN (fA fs[i]) (fK fs[i]) = 0 := by
    constructor
    · intro hap
      refine Nat.eq_of_testBit_eq fun x => ?_
      rw [Nat.testBit_and, maskN_bit, Nat.zero_testBit]
      by_cases hx : fA fs[i] ≤ x ∧ x < fA fs[i] + fK fs[i]
      · rcases Bool.eq_false_or_eq_true (T.testBit x) with ht | ht
        · obtain ⟨j, hj, hji, h1, h2⟩ := (hbit x).1 ht
          rcases hap j hji with e | e <;> omega
        · simp [ht]
      · rw [decide_eq_false hx, Bool.and_false]
    · intro h0 j hj
      have hfj : isF fs[j].1 fs[j].2 = true := chk_field h _ (List.mem_take_iff_getElem.2 ⟨j, by omega, rfl⟩)
      obtain ⟨g1, g2, g3⟩ := isF_iff.1 hfj
      unfold apartF
      by_cases hc : fA fs[j] + fK fs[j] ≤ fA fs[i] ∨ fA fs[i] + fK fs[i] ≤ fA fs[j]
      · exact hc
      · exfalso
        have hkj : 1 ≤ fK fs[j] := by unfold fK; omega
        have hki : 1 ≤ fK fs[i] := by unfold fK; omega
        obtain ⟨x, hx⟩ : ∃ x, x = max (fA fs[j]) (fA fs[i]) := ⟨_, rfl⟩
        have ht : T.testBit x = true := (hbit x).2 ⟨j, by omega, hj, by omega, by omega⟩
        have := congrArg (fun y => y.testBit x) h0
        simp only [Nat.testBit_and, maskN_bit, Nat.zero_testBit, ht, Bool.true_and, decide_eq_false_iff_not] at this
        omega
  rw [hiff]
  unfold fA fK
  by_cases h0 : T &&& maskN fs[i].1.toNat fs[i].2.toNat = 0 <;> simp [h0]

set_option maxHeartbeats 4000000 in
theorem rapart_c (v : Value) (fs : List (Int × Int)) (W : World) (hv : FieldsAt W v fs) (hcap0 : ∀ p n c, v = .slice p n c → n ≤ c) (hl : fs.length ≤ 4611686018427387904) :
    Calls Try.prog 12 #[v] W fun e w' => e = .returned (.bool (chkTo fs).isSome) ∧ Below W.heap.size W w' := by
  obtain ⟨p, cap, rfl, hrange, hcells⟩ := hv
  have hcap := hcap0 _ _ _ rfl
  clear hcap0
  go_enter Try.func12, Try.ntmps12
  go_wp2_with fail
  go_loopw [9] (fun iv wr => ∃ i T : Nat, i ≤ fs.length ∧ iv = .int .i64 i ∧ chkTo (fs.take i) = some T ∧ Below W.heap.size W wr) (fun iv _ => fs.length - (intOf iv).toNat)
  case atStart => exact ⟨0, 0, Nat.zero_le _, rfl, rfl, Below.refl _ _⟩
  case round =>
    obtain ⟨i, T, hi, rfl, hT, hB⟩ := hrel
    by_cases hlt : i < fs.length
    · obtain ⟨b, off, rfl, hcs⟩ := hcells (by intro e; rw [e] at hlt; cases hlt)
      obtain ⟨hx, hy⟩ := hcs i hlt
      have hfr := hrange _ (List.getElem_mem hlt)
      have hstep := chk_step i hlt hT
      obtain ⟨⟨a, k⟩, hak⟩ : ∃ f, f = fs[i] := ⟨_, rfl⟩
      rw [← hak] at hx hy hfr hstep
      simp only at hx hy hfr hstep
      have hx' := below_cell hB hx
      have hy' := below_cell hB hy
      have HAK := Lib.hid hak
      have HSTEP := Lib.hid hstep
      have HT := Lib.hid hT
      clear hx hy hak hstep hT
      go_wp2_with fail
      refine (rfield_c a k hfr.1 hfr.2 _).mono ?_
      rintro e w3 ⟨rfl, hb3⟩
      have hB3 := below_then (hB.alloc hB.size _) (by have := hB.size; simp; omega) hb3
      have hc0 : w3.cell? ⟨wr.heap.size, 0, none⟩ = some (.int .i64 a) := below_cell hb3 (by simp)
      have hc1 : w3.cell? ⟨wr.heap.size, 1, none⟩ = some (.int .i64 k) := below_cell hb3 (by simp)
      have hg : W.heap.size ≤ wr.heap.size := hB.size
      clear hb3
      rcases Bool.eq_false_or_eq_true (isF a k) with hf | hf
      · obtain ⟨f1, f2, f3⟩ := isF_iff.1 hf
        rw [hf]
        have hic : i ≤ cap := by omega
        have hall := chk_field HT.out
        have HALL := Lib.hid hall
        clear hall
        go_wp2_with fail
        obtain ⟨wo, rfl⟩ : ∃ wo : World, wo = w3 := ⟨_, rfl⟩
        go_loopw [21] (fun jv wr2 => ∃ j : Nat, j ≤ i ∧ jv = .int .i64 j ∧ RowKit.Hid (∀ j' (h : j' < i), j' < j → apartF (fs[j']'(Nat.lt_trans h hlt)) (a, k)) ∧ Below wo.heap.size wo wr2) (fun jv _ => i - (intOf jv).toNat)
        case atStart => exact ⟨0, Nat.zero_le _, rfl, Lib.hid (fun j' _ h => absurd h (Nat.not_lt_zero _)), Below.refl _ _⟩
        case round =>
          obtain ⟨j, hj, rfl, hap, hB4⟩ := hrel
          obtain ⟨wr2, rfl⟩ : ∃ w0 : World, w0 = wr := ⟨_, rfl⟩
          by_cases hlt2 : j < i
          · have hltf : j < fs.length := by omega
            obtain ⟨hx, hy⟩ := hcs j hltf
            obtain ⟨⟨a2, k2⟩, hak2⟩ : ∃ f, f = fs[j] := ⟨_, rfl⟩
            have hf2 : isF a2 k2 = true := by
              have := HALL.out fs[j] (List.mem_take_iff_getElem.2 ⟨j, by omega, rfl⟩)
              rw [← hak2] at this
              exact this
            rw [← hak2] at hx hy
            simp only at hx hy
            obtain ⟨g1, g2, g3⟩ := isF_iff.1 hf2
            have hB34 := below_then hB3 hB3.size hB4
            have hx2 := below_cell hB34 hx
            have hy2 := below_cell hB34 hy
            have hd0 := below_cell hB4 hc0
            have hd1 := below_cell hB4 hc1
            have hq0 := fun o => (World.cell?_alloc_lt wr2 o _ (World.block_lt_of_cell? _ _ hd0)).trans hd0
            have hq1 := fun o => (World.cell?_alloc_lt wr2 o _ (World.block_lt_of_cell? _ _ hd1)).trans hd1
            have hr0 := hq0 (.cells #[.int .i64 a2, .int .i64 k2] 28)
            have hr1 := hq1 (.cells #[.int .i64 a2, .int .i64 k2] 28)
            clear hq0 hq1
            have HAK2 := Lib.hid hak2
            clear hx hy hak2 hf2 hB34
            by_cases c1 : a < a2 + k2
            · by_cases c2 : a2 < a + k
              · have hnone : chkTo fs = none := by
                  refine chkTo_none (l := fs.take (i + 1)) ?_ (List.take_prefix _ _)
                  rw [← Option.not_isSome_iff_eq_none]
                  intro hs
                  have h1 := (HSTEP.out hf).2 hs j hlt2
                  rw [← HAK2.out] at h1
                  rcases h1 with e | e <;> simp only [fA, fK] at e <;> omega
                have HN := Lib.hid hnone
                clear hnone
                go_wp2
                go_ret
                exact ⟨ret_bool (by simp [HN.out]), below_then hB3 hB3.size (hB4.alloc hB4.size _)⟩
              · have hap2 : ∀ j' (h : j' < i), j' < j + 1 → apartF (fs[j']'(Nat.lt_trans h hlt)) (a, k) := by
                  intro j' h h'
                  by_cases e : j' = j
                  · subst e; rw [← HAK2.out]; right; simp only [fA, fK]; omega
                  · exact hap.out j' h (by omega)
                have HAP := Lib.hid hap2
                clear hap2
                go_wp2
                go_roundw
                case rel => exact ⟨j + 1, by omega, by go_num, HAP, hB4.alloc hB4.size _⟩
                case measure => simp [intOf]; omega
            · have hap2 : ∀ j' (h : j' < i), j' < j + 1 → apartF (fs[j']'(Nat.lt_trans h hlt)) (a, k) := by
                intro j' h h'
                by_cases e : j' = j
                · subst e; rw [← HAK2.out]; left; simp only [fA, fK]; omega
                · exact hap.out j' h (by omega)
              have HAP := Lib.hid hap2
              clear hap2
              go_wp2
              go_roundw
              case rel => exact ⟨j + 1, by omega, by go_num, HAP, hB4.alloc hB4.size _⟩
              case measure => simp [intOf]; omega
          · obtain rfl : j = i := by omega
            have hsome := (HSTEP.out hf).1 (fun j' h => hap.out j' h h)
            obtain ⟨T2, hT2⟩ := Option.isSome_iff_exists.1 hsome
            have HT2 := Lib.hid hT2
            clear hsome hT2
            go_wp2
            go_roundw
            case rel => exact ⟨j + 1, T2, by omega, by go_num, HT2.out, below_then hB3 hB3.size hB4⟩
            case measure => simp [intOf]; omega
      · have hnone : chkTo fs = none := by
          refine chkTo_none (l := fs.take (i + 1)) ?_ (List.take_prefix _ _)
          rw [take_snoc fs i hlt, chkTo_snoc, HT.out, ← HAK.out]
          simp [chk1, hf]
        rw [hf]
        have HN := Lib.hid hnone
        clear hnone
        go_wp2
        go_ret
        exact ⟨ret_bool (by simp [HN.out]), hB3⟩
    · obtain rfl : i = fs.length := by omega
      rw [List.take_of_length_le (Nat.le_refl _)] at hT
      have HT := Lib.hid hT
      clear hT
      go_wp2
      go_ret
      exact ⟨ret_bool (by simp [HT.out]), hB⟩

end Go.Proofs.Ytejendpkkdmjhaa
