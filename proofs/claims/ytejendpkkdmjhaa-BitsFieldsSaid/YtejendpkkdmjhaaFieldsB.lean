/-
  A case of the walk of BitsFields: the fields lie apart, and there are not as many numbers.
  Conditions: the arguments are in the ranges of Go's types.
-/
import Derived.Test.YtejendpkkdmjhaaFieldsLib
namespace Go.Proofs.Ytejendpkkdmjhaa
open Go.RowKit Go.Shelf

set_option maxRecDepth 100000 in
set_option maxHeartbeats 8000000 in
theorem fieldsWalkB (v0 v2 : Value) (fs : List (Int × Int)) (vs : List Int) (w : Nat) (hw : w < 18446744073709551616) (W : World) (hv0 : ArgF W v0 fs) (hv2 : ArgW W v2 vs) (hfr : FRange fs)
    (hvr : ∀ x ∈ vs, 0 ≤ x ∧ x ≤ 18446744073709551615) (hcase : ∃ T, chkTo (fs.take 8) = some T ∧ (fs.take 8).length ≠ (vs.take 10).length) (hl0 : fs.length ≤ 9223372036854775807) (hl2 : vs.length ≤ 9223372036854775807) :
    Calls Try.prog 3 #[v0, .int .u64 w, v2] W fun e w' => e = .returned (.bool true) ∧ Below W.heap.size W w' := by
  have HC := Lib.hid hcase
  clear hcase
  obtain ⟨gs, hgs⟩ : ∃ gs, gs = fs.take 8 := ⟨_, rfl⟩
  obtain ⟨us, hus⟩ : ∃ us, us = vs.take 10 := ⟨_, rfl⟩
  have hgr : FRange gs := fun f hf => hfr f (List.mem_of_mem_take (hgs ▸ hf))
  have hur : ∀ x ∈ us, 0 ≤ x ∧ x ≤ 18446744073709551615 := fun x hx => hvr x (List.mem_of_mem_take (hus ▸ hx))
  have hgl : gs.length ≤ 8 := by rw [hgs, List.length_take]; omega
  have hul : us.length ≤ 10 := by rw [hus, List.length_take]; omega
  have HGS := Lib.hid hgs
  have HUS := Lib.hid hus
  clear hgs hus hfr hvr
  obtain ⟨p0, n0, cap0, rfl, hn0, hcase0⟩ := hv0
  obtain ⟨p2, n2, cap2, rfl, hn2, hcase2⟩ := hv2
  rw [← hn0] at hl0
  rw [← hn2] at hl2
  have HN0 := Lib.hid hn0
  have HN2 := Lib.hid hn2
  clear hn0 hn2
  go_enter Try.func3, Try.ntmps3
  go_upto_region 3 with (go_at_call 9; refine (wakes_c _).mono ?_; rintro e w1 ⟨rfl, hB1⟩)
  go_cut [7] (fun s7 wc => wc.ownsRow W.heap.size 28 2 s7 gs.length (flatF gs) ∧ Below W.heap.size W wc)
  case first => as_aux_lemma =>
    have hB1' := hB1
    rcases hcase0 with ⟨rfl, rfl, rfl⟩ | ⟨a, rfl, hcap, hcells⟩
    · have hg0 : gs = [] := by rw [HGS.out, List.eq_nil_of_length_eq_zero HN0.out.symm]; rfl
      have HG := Lib.hid hg0
      clear hg0
      go_wp2_with fail
      refine (cloneF _ 0 [] _ ⟨rfl, none, 0, rfl, .inl ⟨rfl, rfl, rfl⟩⟩ (fun u h => by cases h) (by omega)).mono ?_
      rintro e w2 ⟨⟨v', rfl, hown⟩, hb2⟩
      go_wp2
      go_meet
      exact ⟨by rw [HG.out]; exact hown.mono hB1.size, below_then hB1 hB1.size hb2⟩
    · have hl := hl0
      by_cases h8 : n0 ≤ 8
      · have hg0 : gs = fs := by rw [HGS.out]; exact List.take_of_length_le (by rw [← HN0.out]; exact h8)
        have HG := Lib.hid hg0
        clear hg0
        rcases Nat.lt_or_eq_of_le h8 with h8 | rfl
        · go_wp2_with fail
          refine (cloneF _ n0 (flatF fs) _ ⟨by rw [flatF_length, HN0.out], some a, cap0, rfl, .inr ⟨a, rfl, fun j u hj => cellB hB1' (hcells j u hj)⟩⟩ (flatF_cell fs) (by omega)).mono ?_
          rintro e w9 ⟨⟨v', rfl, hown⟩, hb9⟩
          go_wp2
          go_meet
          exact ⟨by rw [HG.out, ← HN0.out]; exact hown.mono hB1.size, below_then hB1 hB1.size hb9⟩
        · go_wp2_with fail
          refine (cloneF _ 8 (flatF fs) _ ⟨by rw [flatF_length, ← HN0.out], some a, cap0, rfl, .inr ⟨a, rfl, fun j u hj => cellB hB1' (hcells j u hj)⟩⟩ (flatF_cell fs) (by omega)).mono ?_
          rintro e w9 ⟨⟨v', rfl, hown⟩, hb9⟩
          go_wp2
          go_meet
          exact ⟨by rw [HG.out, ← HN0.out]; exact hown.mono hB1.size, below_then hB1 hB1.size hb9⟩
      · have hlen8 : gs.length = 8 := by rw [HGS.out, List.length_take, ← HN0.out]; omega
        have HL := Lib.hid hlen8
        have hs2 : flatF gs = (flatF fs).take 16 := by rw [HGS.out, flatF_take]
        have HS2 := Lib.hid hs2
        have h8' : 8 < n0 := by omega
        clear hlen8 hs2 h8
        go_wp2_with fail
        refine (cloneF _ 8 (flatF gs) _ ⟨by rw [flatF_length, HL.out], some a, cap0, rfl, .inr ⟨a, rfl, fun j u hj => cellB hB1' (hcells j u (by rw [HS2.out] at hj; exact take_get hj))⟩⟩ (flatF_cell gs) (by omega)).mono ?_
        rintro e w9 ⟨⟨v', rfl, hown⟩, hb9⟩
        go_wp2
        go_meet
        exact ⟨by rw [HL.out]; exact hown.mono hB1.size, below_then hB1 hB1.size hb9⟩
  case rest => as_aux_lemma =>
  obtain ⟨hownG, hB2⟩ := hcut
  clear hB1
  go_upto_region 4 with fail
  go_cut [2] (fun s2 wc => (wc.ownsRow W.heap.size 23 1 s2 us.length (us.map (Value.int .u64)) ∧ wc.ownsRow W.heap.size 28 2 u7 gs.length (flatF gs)) ∧ Below W.heap.size W wc)
  case first => as_aux_lemma =>
    have hB2' := hB2
    rcases hcase2 with ⟨rfl, rfl, rfl⟩ | ⟨a, rfl, hcap, hcells⟩
    · have hg0 : us = [] := by rw [HUS.out, List.eq_nil_of_length_eq_zero HN2.out.symm]; rfl
      have HG := Lib.hid hg0
      clear hg0
      go_wp2_with fail
      refine (cloneW _ 0 [] _ ⟨rfl, none, 0, rfl, .inl ⟨rfl, rfl, rfl⟩⟩ (fun u h => by cases h) (by omega)).mono ?_
      rintro e w2 ⟨⟨v', rfl, hown⟩, hb2⟩
      go_wp2
      go_meet
      exact ⟨⟨by rw [HG.out]; exact hown.mono hB2.size, owns_below hownG hb2⟩, below_then hB2 hB2.size hb2⟩
    · have hl := hl2
      by_cases h8 : n2 ≤ 10
      · have hg0 : us = vs := by rw [HUS.out]; exact List.take_of_length_le (by rw [← HN2.out]; exact h8)
        have HG := Lib.hid hg0
        clear hg0
        rcases Nat.lt_or_eq_of_le h8 with h8 | rfl
        · go_wp2_with fail
          refine (cloneW _ n2 (vs.map (Value.int .u64)) _ ⟨by rw [List.length_map, Nat.mul_one, HN2.out], some a, cap2, rfl, .inr ⟨a, rfl, fun j u hj => cellB hB2' (hcells j u hj)⟩⟩ (fun u hu => by obtain ⟨x, _, rfl⟩ := List.mem_map.1 hu; rfl) (by omega)).mono ?_
          rintro e w9 ⟨⟨v', rfl, hown⟩, hb9⟩
          go_wp2
          go_meet
          exact ⟨⟨by rw [HG.out, ← HN2.out]; exact hown.mono hB2.size, owns_below hownG hb9⟩, below_then hB2 hB2.size hb9⟩
        · go_wp2_with fail
          refine (cloneW _ 10 (vs.map (Value.int .u64)) _ ⟨by rw [List.length_map, Nat.mul_one, ← HN2.out], some a, cap2, rfl, .inr ⟨a, rfl, fun j u hj => cellB hB2' (hcells j u hj)⟩⟩ (fun u hu => by obtain ⟨x, _, rfl⟩ := List.mem_map.1 hu; rfl) (by omega)).mono ?_
          rintro e w9 ⟨⟨v', rfl, hown⟩, hb9⟩
          go_wp2
          go_meet
          exact ⟨⟨by rw [HG.out, ← HN2.out]; exact hown.mono hB2.size, owns_below hownG hb9⟩, below_then hB2 hB2.size hb9⟩
      · have hlen8 : us.length = 10 := by rw [HUS.out, List.length_take, ← HN2.out]; omega
        have HL := Lib.hid hlen8
        have hs2 : us.map (Value.int .u64) = (vs.map (Value.int .u64)).take 10 := by rw [HUS.out, List.map_take]
        have HS2 := Lib.hid hs2
        have h8' : 10 < n2 := by omega
        clear hlen8 hs2 h8
        go_wp2_with fail
        refine (cloneW _ 10 (us.map (Value.int .u64)) _ ⟨by rw [List.length_map, HL.out], some a, cap2, rfl, .inr ⟨a, rfl, fun j u hj => cellB hB2' (hcells j u (by rw [HS2.out] at hj; exact take_get hj))⟩⟩ (fun u hu => by obtain ⟨x, _, rfl⟩ := List.mem_map.1 hu; rfl) (by omega)).mono ?_
        rintro e w9 ⟨⟨v', rfl, hown⟩, hb9⟩
        go_wp2
        go_meet
        exact ⟨⟨by rw [HL.out]; exact hown.mono hB2.size, owns_below hownG hb9⟩, below_then hB2 hB2.size hb9⟩
  case rest => as_aux_lemma =>
  obtain ⟨⟨hownU, hownG2⟩, hB3⟩ := hcut
  have hF := fields_of_owns hgr hownG2
  obtain ⟨T, hc, hlen⟩ : ∃ T, chkTo gs = some T ∧ gs.length ≠ us.length := by rw [HGS.out, HUS.out]; exact HC.out
  have hN := nums_of_owns hownU
  have hcp := owns_cap hownG2
  obtain ⟨hgcap, hX⟩ := argF_take HN0.out hcase0 HGS.out hgr
  clear hB2 hownG hownU hownG2 hcase2 hcase0
  have hE : chkE gs = 0 := by simp [chkE, hc]
  have hfsF := chk_field hc
  have HA : ∀ W' : World, FieldsAt W' u7 gs → Calls Try.prog 12 #[u7] W' fun e w' => e = .returned (.bool true) ∧ Below W'.heap.size W' w' := fun W' h => by
    have := rapart_c u7 gs W' h hcp (by omega); rwa [hc] at this
  have HLEN := Lib.hid hlen
  clear hlen
  go_wp2_with fail
  refine (HA _ hF).mono ?_
  rintro e w4 ⟨rfl, hb4⟩
  have hF4 := fields_below hF hb4
  have hN4 := nums_below hN hb4
  have hB4 := below_then hB3 hB3.size hb4
  clear hb4 hF hN hB3
  go_wp2_with fail
  refine (check_c _ gs _ hF4 (by omega)).mono ?_
  rintro e w5 ⟨rfl, hb5⟩
  rw [hE]
  have hF5 := fields_below hF4 hb5
  have hN5 := nums_below hN4 hb5
  have hB5 := below_then hB4 hB4.size hb5
  clear hb5 hF4 hN4 hB4
  go_wp2_with fail
  refine (split_yes w hw _ gs _ hF5 (by omega) T hc).mono ?_
  rintro e w6 ⟨⟨vp, rfl, hown⟩, hb6⟩
  have hF6 := fields_below hF5 hb6
  have hN6 := nums_below hN5 hb6
  have hB6 := below_then hB5 hB5.size hb6
  rw [splitV_map] at hown
  have hP6 := nums_of_owns2 (splitI_length w gs) hown
  clear hb6 hF5 hN5 hB5 hown
  go_wp2_with fail
  refine (pack_len _ _ gs us _ hF6 hN6 (by omega) T hc HLEN.out).mono ?_
  rintro e w7 ⟨rfl, hb7⟩
  have hF7 := fields_below hF6 hb7
  have hN7 := nums_below hN6 hb7
  have hP7 := nums_below hP6 hb7
  have hB7 := below_then hB6 hB6.size hb7
  clear hb7 hF6 hN6 hB6 hP6
  have hF8 := hF7
  obtain ⟨q0, cp0, rfl, _, hcF⟩ := hF7
  obtain ⟨q2, cp2, rfl, hcN⟩ := hN7
  obtain ⟨qp, cpp, rfl, hcP⟩ := parts_open hP7
  clear hP7
  have hl1 : ((us.length : Int) == (gs.length : Int)) = false := by rw [beq_eq_false_iff_ne]; have := HLEN.out; omega
  go_wp2_with fail
  obtain ⟨wo, rfl⟩ : ∃ wo : World, wo = w7 := ⟨_, rfl⟩
  go_loopw [14, 15, 98] (fun pv fv iv wr => ∃ i : Nat, i ≤ gs.length ∧ iv = .int .i64 i ∧ pv = .int .u64 0 ∧ fv = .bool true ∧ Below wo.heap.size wo wr) (fun _ _ iv _ => gs.length - (intOf iv).toNat)
  case atStart => exact ⟨0, Nat.zero_le _, rfl, rfl, rfl, Below.refl _ _⟩
  case round =>
    obtain ⟨i, hi, rfl, rfl, rfl, hB⟩ := hrel
    by_cases hlt : i < gs.length
    · obtain ⟨b, off, rfl, hcs⟩ := hcF (by intro e; rw [e] at hlt; cases hlt)
      obtain ⟨bp, offp, rfl, hcp⟩ := hcP (by intro e; rw [e] at hlt; cases hlt)
      obtain ⟨hx, hy⟩ := hcs i hlt
      have hpz := hcp i hlt
      have hf := hfsF _ (List.getElem_mem hlt)
      have hfr := hgr _ (List.getElem_mem hlt)
      obtain ⟨⟨a, k⟩, hak⟩ : ∃ f, f = gs[i] := ⟨_, rfl⟩
      rw [← hak] at hx hy hf hpz hfr
      simp only at hx hy hf hpz hfr
      obtain ⟨f1, f2, f3⟩ := isF_iff.1 hf
      obtain ⟨a, rfl⟩ := Int.eq_ofNat_of_zero_le f2
      obtain ⟨k, rfl⟩ := Int.eq_ofNat_of_zero_le (show 0 ≤ k by omega)
      have hk1 : 1 ≤ k := by omega
      have hakn : a + k ≤ 64 := by omega
      simp only [Int.toNat_natCast] at hpz
      obtain ⟨gv, hgv⟩ : ∃ gv, gv = getN w a k := ⟨_, rfl⟩
      rw [← hgv] at hpz
      have HGY : ∀ W : World, Calls Try.prog 17 #[.int .u64 w, .agg #[.int .i64 a, .int .i64 k]] W fun e w' => e = .returned (.tuple #[.int .u64 gv, .int .i64 0]) ∧ Below W.heap.size W w' := by
        rw [hgv]; exact get_yes w hw a k hk1 hakn
      have HGET : ∀ W : World, Calls Try.prog 18 #[.int .u64 w, .agg #[.int .i64 a, .int .i64 k]] W fun e w' => e = .returned (.int .u64 gv) ∧ Below W.heap.size W w' := by
        rw [hgv]; exact rget_c w hw a k hk1 hakn
      have hx' := below_cell hB hx
      have hy' := below_cell hB hy
      have hpz' := below_cell hB hpz
      clear hx hy hcs hak hpz hcp hgv f1 f2 f3
      go_wp2_with fail
      refine (rfield_c a k hfr.1 hfr.2 _).mono ?_
      rintro e w8 ⟨rfl, hb8⟩
      have hB8 := below_then (hB.alloc hB.size _) (by have := hB.size; simp; omega) hb8
      have hc0 : w8.cell? ⟨wr.heap.size, 0, none⟩ = some (.int .i64 a) := below_cell hb8 (by simp)
      have hc1 : w8.cell? ⟨wr.heap.size, 1, none⟩ = some (.int .i64 k) := below_cell hb8 (by simp)
      have hpz8 : w8.cell? ⟨bp, offp + i, none⟩ = some (.int .u64 gv) := below_cell hb8 (by rw [World.cell?_alloc_lt _ _ _ (World.block_lt_of_cell? wr _ hpz')]; exact hpz')
      clear hfr hb8 hpz'
      rw [hf]
      clear hf
      go_wp2_with fail
      refine (HGY _).mono ?_
      rintro e w9 ⟨rfl, hb9⟩
      have hB9 := below_then hB8 hB8.size hb9
      have hd0 := below_cell hb9 hc0
      have hd1 := below_cell hb9 hc1
      have hpz9 := below_cell hb9 hpz8
      clear hb9 hc0 hc1 hpz8
      go_wp2_with fail
      refine (HGET _).mono ?_
      rintro e w10 ⟨rfl, hb10⟩
      have hB10 := below_then hB9 hB9.size hb10
      have hp0 := below_cell hb10 hd0
      have hp1 := below_cell hb10 hd1
      have hpz10 := below_cell hb10 hpz9
      clear hb10 hd0 hd1 hpz9
      by_cases hlt2 : i < us.length
      · obtain ⟨b2, off2, rfl, hcs2⟩ := hcN (by intro e; rw [e] at hlt2; cases hlt2)
        have hz := hcs2 i hlt2
        have hzr := hur _ (List.getElem_mem hlt2)
        obtain ⟨v, hve⟩ : ∃ v, v = us[i] := ⟨_, rfl⟩
        rw [← hve] at hz hzr
        obtain ⟨v, rfl⟩ := Int.eq_ofNat_of_zero_le hzr.1
        have hv64 : v < 18446744073709551616 := by omega
        have hz' := below_cell hB10 hz
        clear hz hcs2 hve hzr
        go_wp2_with fail
        clear hpz10
        rcases Bool.eq_false_or_eq_true (fitsB v k) with hfb | hfb
        · have hvk := of_decide_eq_true (show decide (v < 2 ^ k) = true from hfb)
          obtain ⟨sv, hsv⟩ : ∃ sv, sv = setN w a k v := ⟨_, rfl⟩
          have HSET : ∀ W : World, Calls Try.prog 19 #[.int .u64 w, .agg #[.int .i64 a, .int .i64 k], .int .u64 v] W fun e w' => e = .returned (.tuple #[.int .u64 sv, .int .i64 0]) ∧ Below W.heap.size W w' := by
            rw [hsv]; exact set_yes w v hw hv64 a k hk1 hakn hfb
          have HRS : ∀ W : World, Calls Try.prog 21 #[.int .u64 w, .agg #[.int .i64 a, .int .i64 k], .int .u64 v] W fun e w' => e = .returned (.int .u64 sv) ∧ Below W.heap.size W w' := by
            rw [hsv]; exact rset_c w v hw hv64 a k hk1 hakn hvk
          have HFT : ∀ W : World, Calls Try.prog 20 #[.int .u64 v, .int .i64 k] W fun e w' => e = .returned (.bool true) ∧ w' = W := fun W => by
            have h := rfits_c v k hv64 (by omega) W; rwa [hfb] at h
          clear hsv hvk
          go_region_held3 (fun w' => w'.cell? ⟨b2, off2 + i, none⟩ = some (.int .u64 v) ∧ w'.cell? ⟨wr.heap.size, 0, none⟩ = some (.int .i64 a) ∧ w'.cell? ⟨wr.heap.size, 1, none⟩ = some (.int .i64 k) ∧ Below wo.heap.size wo w')
            (first
              | exact ⟨hz', hp0, hp1, hB10.drew⟩
              | go_keep
              | (go_split_ands; exact ⟨below_cell hb3 (by assumption), below_cell hb3 (by assumption), below_cell hb3 (by assumption), below_then (by assumption) (Below.size (by assumption)) hb3⟩))
            (first | (go_at_call 19; refine (HSET _).mono ?_; rintro e w3 ⟨rfl, hb3⟩))
          all_goals go_split_ands
          all_goals rename_i hc1' hc2' hc3' hB11
          all_goals go_wp2_with fail
          all_goals go_quiet (first | (go_at_call 20; exact Calls.quiet_of_same (HFT _)))
          all_goals go_wp2_with fail
          all_goals
            have hB11q := (below_drewN hB11 nq).drew
            go_region_held3 (fun w' => w'.cell? ⟨b2, off2 + i, none⟩ = some (.int .u64 v) ∧ w'.cell? ⟨wr.heap.size, 0, none⟩ = some (.int .i64 a) ∧ w'.cell? ⟨wr.heap.size, 1, none⟩ = some (.int .i64 k) ∧ Below wo.heap.size wo w')
              (first
                | exact ⟨hc1', hc2', hc3', hB11q⟩
                | go_keep
                | (go_split_ands; exact ⟨below_cell hb3 (by assumption), below_cell hb3 (by assumption), below_cell hb3 (by assumption), below_then (by assumption) (Below.size (by assumption)) hb3⟩))
              (first | (go_at_call 21; refine (HRS _).mono ?_; rintro e w3 ⟨rfl, hb3⟩))
          all_goals go_split_ands
          all_goals rename_i hB12
          all_goals go_wp2
          all_goals
            go_roundw
            case rel => exact ⟨i + 1, by omega, by go_num, rfl, rfl, hB12⟩
            case measure => simp [intOf]; omega
        · have HFT : ∀ W : World, Calls Try.prog 20 #[.int .u64 v, .int .i64 k] W fun e w' => e = .returned (.bool false) ∧ w' = W := fun W => by
            have h := rfits_c v k hv64 (by omega) W; rwa [hfb] at h
          go_region_held3 (fun w' => w'.cell? ⟨b2, off2 + i, none⟩ = some (.int .u64 v) ∧ w'.cell? ⟨wr.heap.size, 0, none⟩ = some (.int .i64 a) ∧ w'.cell? ⟨wr.heap.size, 1, none⟩ = some (.int .i64 k) ∧ Below wo.heap.size wo w')
            (first
              | exact ⟨hz', hp0, hp1, hB10.drew⟩
              | go_keep
              | (go_split_ands; exact ⟨below_cell hb3 (by assumption), below_cell hb3 (by assumption), below_cell hb3 (by assumption), below_then (by assumption) (Below.size (by assumption)) hb3⟩))
            (first | (go_at_call 19; refine (set_over w v hv64 a k hk1 hakn hfb _).mono ?_; rintro e w3 ⟨rfl, hb3⟩))
          all_goals go_split_ands
          all_goals rename_i hc1' hc2' hc3' hB11
          all_goals go_wp2_with fail
          all_goals go_quiet (first | (go_at_call 20; exact Calls.quiet_of_same (HFT _)))
          all_goals go_wp2
          all_goals
            go_roundw
            case rel => exact ⟨i + 1, by omega, by go_num, rfl, rfl, below_drewN hB11 _⟩
            case measure => simp [intOf]; omega
      · go_wp2
        go_roundw
        case rel => exact ⟨i + 1, by omega, by go_num, rfl, rfl, hB10⟩
        case measure => simp [intOf]; omega
    · obtain rfl : i = gs.length := by omega
      go_wp2_with fail
      refine (equalF_same _ _ gs _ (fields_below hF8 hB) (fields_below hX (below_then hB7 hB7.size hB)) (by omega)).mono ?_
      rintro e w12 ⟨rfl, hb12⟩
      go_wp2
      go_ret
      exact ⟨rfl, below_then hB7 hB7.size (below_then hB hB.size hb12)⟩

end Go.Proofs.Ytejendpkkdmjhaa
