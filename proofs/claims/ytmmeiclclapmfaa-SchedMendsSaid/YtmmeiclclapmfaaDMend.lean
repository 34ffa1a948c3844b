/-
  Mend of package sched.
  Conditions: the row of wishes reads as a list of ints, of at most 2 to the power 40.
-/
import Derived.Test.YtmmeiclclapmfaaDCan
namespace Go.Proofs.Ytmmeiclclapmfaa
open Go.RowKit Go.Shelf

/-- Block b holds a row of ints. -/
def IBox (w : World) (b : Nat) (xs : List Int) : Prop := w.heap[b]? = some (.cells (xs.map (Value.int .i64)).toArray 3 (0, 0))
theorem IBox.lt {w : World} {b : Nat} {xs : List Int} (h : IBox w b xs) : b < w.heap.size := (Array.getElem?_eq_some_iff.1 h).1
theorem IBox.below {w w' : World} {b : Nat} {xs : List Int} (h : IBox w b xs) (hb : Below w.heap.size w w') : IBox w' b xs := (hb.block b h.lt).trans h
theorem IBox.keeps {S : Nat → Prop} {w w' : World} {b : Nat} {xs : List Int} (h : IBox w b xs) (hk : Keeps S w w') (hz : ¬ S b) : IBox w' b xs := (hk.block b h.lt hz).trans h
theorem IBox.set {w : World} {b : Nat} {xs : List Int} (h : IBox w b xs) (i : Nat) (x : Int) : IBox (w.setCell ⟨b, i, none⟩ (.int .i64 x)) b (xs.set i x) := block_set h i x
theorem IBox.cell {w : World} {b : Nat} {xs : List Int} (h : IBox w b xs) (i : Nat) (hi : i < xs.length) : w.cell? ⟨b, i, none⟩ = some (.int .i64 xs[i]) := block_cell h i hi
theorem IBox.free {w : World} {b : Nat} {xs : List Int} (h : IBox w b xs) (i : Nat) : w.frozen? ⟨b, i, none⟩ = false := block_free h i
theorem IBox.owns {w : World} {b : Nat} {xs : List Int} (h : IBox w b xs) {B : Nat} (hB : B ≤ b) (hn : xs.length ≤ maxLen) : w.ownsRow B 3 1 (.slice (some ⟨b, 0, none⟩) xs.length xs.length) xs.length (xs.map (Value.int .i64)) :=
  ⟨by simp, .inr ⟨b, xs.length, _, rfl, hB, h, Nat.le_refl _, hn, by simp, by simp [List.take_of_length_le]⟩⟩
theorem int_info : (Try.prog.info? 3).map (fun i => (i.zero, i.size, i.bytes)) = some (some (.int .i64 0), 1, 8) := by kernel_rfl
theorem run_makeI (n : Nat) (hn : n ≤ 1099511627776) (w : World) : (Instr.makeSlice 22 (.int .i64 (n : Int)) (.int .i64 (n : Int))).run Try.prog w = .ok (.slice (some ⟨w.heap.size, 0, none⟩) n n) (w.alloc (.cells ((List.replicate n (0 : Int)).map (Value.int .i64)).toArray 3)) := by
  obtain ⟨i0, hi, hz0, hz1, hz2⟩ := info_parts int_info
  have := run_make (P := Try.prog) w 22 3 i0 (.int .i64 0) Try.underlying22 hi hz0 .i64 .i64 (n : Int) (n : Int) (by omega) (by omega) (by rw [hz2]; omega) (by omega)
  rw [this, hz1]
  have e : madeCells (Value.int .i64 0).cells ((n : Int).toNat * 1) = ((List.replicate n (0 : Int)).map (Value.int .i64)).toArray := by
    apply Array.toList_inj.1
    rw [List.toList_toArray, List.map_replicate, Nat.mul_one, Int.toNat_natCast]
    exact toList_madeCells_one _ n
  rw [e]
  simp
theorem row_set (M : List Int) (n : Nat) (x : Int) (h : M.length < n) : (M ++ List.replicate (n - M.length) 0).set M.length x = (M ++ [x]) ++ List.replicate (n - (M ++ [x]).length) 0 := by
  have e : List.replicate (n - M.length) (0 : Int) = 0 :: List.replicate (n - (M.length + 1)) 0 := by
    rw [← List.replicate_succ]; congr 1; omega
  rw [e]
  simp
/-- What Mend answers. -/
def MendPost (B : Nat) (c k : Int) (l : List Int) (e : Ending) (w' : World) : Prop :=
  if mayI c = false then e = .returned (.tuple #[.slice none 0 0, .int .i64 140])
  else if k < c then e = .returned (.tuple #[.slice none 0 0, .int .i64 2])
  else ∃ v', e = .returned (.tuple #[v', .int .i64 0]) ∧ w'.ownsRow B 3 1 v' l.length ((mendL c.toNat k [] l).map (Value.int .i64))

set_option maxRecDepth 100000 in
set_option maxHeartbeats 4000000 in
theorem mend_c (c k : Int) (v : Value) (l : List Int) (W : World) (hv : NumsAt W .i64 v l) (hl : l.length ≤ 1099511627776) (hk2 : k ≤ 9223372036854775807) (hr : ∀ x ∈ l, -9223372036854775808 ≤ x ∧ x ≤ 9223372036854775807) :
    Calls Try.prog 23 #[.int .i64 c, .int .i64 k, v] W fun e w' => MendPost W.heap.size c k l e w' ∧ Below W.heap.size W w' := by
  obtain ⟨p, cap, rfl, hc⟩ := hv
  obtain ⟨n, hn0⟩ : ∃ n, n = l.length := ⟨_, rfl⟩
  rw [← hn0] at hl ⊢
  have HN := Lib.hid hn0
  clear hn0
  have HR := Lib.hid hr
  have HMY := fun w => may_c c w
  clear hr
  cases hm : mayI c with
  | false =>
    rw [hm] at HMY
    have HP : ∀ e w', e = .returned (.tuple #[.slice none 0 0, .int .i64 140]) → MendPost W.heap.size c k l e w' := fun e w' he => by unfold MendPost; rw [if_pos hm]; exact he
    clear hm
    go_enter Try.func23, Try.ntmps23
    go_wp2_with fail
    refine (HMY _).mono ?_
    rintro e w1 ⟨rfl, rfl⟩
    go_wp2
    go_ret2
    exact ⟨HP _ _ rfl, ((Below.refl _ _).alloc (Nat.le_refl _) _).alloc (by simp) _⟩
  | true =>
    rw [hm] at HMY
    by_cases hkc : k < c
    · have HP : ∀ e w', e = .returned (.tuple #[.slice none 0 0, .int .i64 2]) → MendPost W.heap.size c k l e w' := fun e w' he => by unfold MendPost; rw [if_neg (by simp [hm]), if_pos hkc]; exact he
      clear hm
      go_enter Try.func23, Try.ntmps23
      go_wp2_with fail
      refine (HMY _).mono ?_
      rintro e w1 ⟨rfl, rfl⟩
      go_wp2
      go_ret2
      exact ⟨HP _ _ rfl, ((Below.refl _ _).alloc (Nat.le_refl _) _).alloc (by simp) _⟩
    · have HP : ∀ e w', (∃ v', e = .returned (.tuple #[v', .int .i64 0]) ∧ w'.ownsRow W.heap.size 3 1 v' l.length ((mendL c.toNat k [] l).map (Value.int .i64))) → MendPost W.heap.size c k l e w' := fun e w' he => by unfold MendPost; rw [if_neg (by simp [hm]), if_neg hkc]; exact he
      have HPH := Lib.hid HP
      obtain ⟨hc1, hc8⟩ := mayI_iff.1 hm
      obtain ⟨m, rfl⟩ := Int.eq_ofNat_of_zero_le (show 0 ≤ c by omega)
      have hkm : (m : Int) ≤ k := by omega
      clear hm HP hkc
      have hmk := run_makeI n hl
      obtain ⟨cn, hcn⟩ : ∃ cn : Array Value, cn = ((List.replicate n (0 : Int)).map (Value.int .i64)).toArray := ⟨_, rfl⟩
      rw [← hcn] at hmk
      have HCN := Lib.hid hcn
      clear hcn
      go_enter Try.func23, Try.ntmps23
      go_wp2_with fail
      refine (HMY _).mono ?_
      rintro e w1 ⟨rfl, rfl⟩
      clear HMY
      go_wp2
      obtain ⟨wo, hwo⟩ : ∃ wo : World, wo = (((W.alloc (.cells #[.int .i64 (m : Int)] 3)).alloc (.cells #[.int .i64 k] 3)).alloc (.cells #[.int .i64 0, .int .i64 0, .int .i64 0, .int .i64 0, .int .i64 0, .int .i64 0, .int .i64 0, .int .i64 0] 46)).alloc (.cells cn 3) := ⟨_, rfl⟩
      rw [← hwo]
      have hB : Below W.heap.size W wo := by rw [hwo]; exact (((((Below.refl _ _).alloc (Nat.le_refl _) _).alloc (by simp) _).alloc (by simp; omega) _).alloc (by simp; omega) _)
      have hsz : W.heap.size + 1 + 1 + 1 < wo.heap.size := by rw [hwo]; simp
      have HCB := Lib.hid (show wo.cell? ⟨W.heap.size, 0, none⟩ = some (.int .i64 (m : Int)) by rw [hwo]; exact ((((Boxed.new W 3 (.int .i64 (m : Int))).alloc _).alloc _).alloc _).cell)
      have HKB := Lib.hid (show wo.cell? ⟨W.heap.size + 1, 0, none⟩ = some (.int .i64 k) by
        have := (((Boxed.new (W.alloc (.cells #[.int .i64 (m : Int)] 3)) 3 (.int .i64 k)).alloc (.cells #[.int .i64 0, .int .i64 0, .int .i64 0, .int .i64 0, .int .i64 0, .int .i64 0, .int .i64 0, .int .i64 0] 46)).alloc (.cells cn 3)).cell
        rw [World.size_alloc] at this
        rw [hwo]; exact this)
      have HWB : WBox wo (W.heap.size + 1 + 1) (arr m (mendL m k [] (l.take 0))) := by
        have := (WBox.new (w := (W.alloc (.cells #[.int .i64 (m : Int)] 3)).alloc (.cells #[.int .i64 k] 3)) (xs := arr m []) (by rw [arr_nil (by omega)]; rfl)).keeps (Keeps.alloc (fun _ => False) _ (.cells cn 3)) (fun h => h)
        rw [hwo, List.take_zero]
        simpa [mendL] using this
      have HIB : IBox wo (W.heap.size + 1 + 1 + 1) (mendL m k [] (l.take 0) ++ List.replicate (n - (mendL m k [] (l.take 0)).length) 0) := by
        have := World.alloc_heap_new (((W.alloc (.cells #[.int .i64 (m : Int)] 3)).alloc (.cells #[.int .i64 k] 3)).alloc (.cells #[.int .i64 0, .int .i64 0, .int .i64 0, .int .i64 0, .int .i64 0, .int .i64 0, .int .i64 0, .int .i64 0] 46)) (.cells cn 3)
        rw [hwo, List.take_zero]
        unfold IBox
        rw [HCN.out] at this ⊢
        simpa [mendL] using this
      clear hwo hmk
      have hm8 : m ≤ 8 := by omega
      have hc1' : 1 ≤ m := by omega
      go_loopw [26] (fun iv wr => ∃ i : Nat, i ≤ n ∧ iv = .int .i64 i ∧ Hid (wr.cell? ⟨W.heap.size, 0, none⟩ = some (.int .i64 (m : Int))) ∧ Hid (wr.cell? ⟨W.heap.size + 1, 0, none⟩ = some (.int .i64 k)) ∧ WBox wr (W.heap.size + 1 + 1) (arr m (mendL m k [] (l.take i))) ∧ IBox wr (W.heap.size + 1 + 1 + 1) (mendL m k [] (l.take i) ++ List.replicate (n - (mendL m k [] (l.take i)).length) 0) ∧ Below W.heap.size W wr ∧ W.heap.size + 1 + 1 + 1 < wr.heap.size) (fun iv _ => n - (intOf iv).toNat)
      case atStart => exact ⟨0, Nat.zero_le _, rfl, HCB, HKB, HWB, HIB, hB, hsz⟩
      case round =>
        clear HCB HKB HWB HIB hB hsz
        obtain ⟨i, hi, rfl, HCB, HKB, HWB, HIB, hB, hsz⟩ := hrel
        by_cases hlt : i < n
        · have hil : i < l.length := by have := HN.out; omega
          obtain ⟨b, off, rfl, hcs⟩ := hc (by intro e; rw [e] at hil; cases hil)
          have hx := below_cell hB (hcs i hil)
          obtain ⟨hr0, hr1⟩ := HR.out _ (List.getElem_mem hil)
          have htk := List.take_succ_eq_append_getElem hil
          have hML : (mendL m k [] (l.take i)).length = i := by rw [mendL_length, List.length_take]; simp; omega
          have hMS := mendL_snoc m k (l.take i) [] l[i]
          rw [← htk] at hMS
          obtain ⟨x, hxe⟩ : ∃ x, x = l[i] := ⟨_, rfl⟩
          rw [← hxe] at hx hr0 hr1 hMS
          obtain ⟨M, hM⟩ : ∃ M, M = mendL m k [] (l.take i) := ⟨_, rfl⟩
          rw [← hM] at hML hMS HWB HIB
          have HML := Lib.hid hML
          have HMS := Lib.hid hMS
          obtain ⟨q, hq⟩ := Int.eq_ofNat_of_zero_le (Int.emod_nonneg x (show (m : Int) ≠ 0 by omega))
          have hqm : q < m := by have := Int.emod_lt_of_pos x (show (0 : Int) < m by omega); omega
          have HQ := Lib.hid hq
          obtain ⟨a0, a1, a2, a3, a4, a5, a6, a7, HA, _⟩ := arr8 hm8 M
          have HWB1 : WBox wr (W.heap.size + 1 + 1) [a0, a1, a2, a3, a4, a5, a6, a7] := by rw [← HA.out]; exact HWB
          have h1 := HCB.out
          have hMl : M.length ≤ 1099511627776 := by rw [hML]; omega
          have HCAN := Lib.hid (canBe_c m ⟨hc1', hm8⟩ M hMl k hkm hk2 q hqm (W.heap.size + 1 + 1) (W.heap.size) (W.heap.size + 1) wr HWB HCB.out HKB.out)
          clear hcs hxe htk hML hMS hM hq hMl
          go_wp2_with fail
          refine (wished_c x m ⟨hc1', hm8⟩ ⟨hr0, hr1⟩ wr).mono ?_
          rintro e w2 ⟨rfl, rfl⟩
          rw [HQ.out]
          go_wp2_with fail
          refine HCAN.out.mono ?_
          rintro e w3 ⟨rfl, hb3⟩
          cases hcan : canB k (wv m (M ++ [(q : Int)])) with
          | true =>
            have HPK := Lib.hid (show pickOf m k M x = (q : Int) by unfold pickOf; rw [HQ.out, if_pos hcan])
            clear hcan h1
            have HC1 := Lib.hid (below_cell hb3 HCB.out)
            have HK1 := Lib.hid (below_cell hb3 HKB.out)
            have HW1 := HWB1.below hb3
            have HI1 := HIB.below hb3
            have hB1 := below_then hB hB.size hb3
            have hs1 := Nat.lt_of_lt_of_le hsz hb3.size
            clear hb3 HCB HKB HWB HWB1 HIB hB hsz HCAN
            have h1 := HC1.out
            obtain ⟨g0, g1, g2, g3, g4, g5, g6, g7⟩ := HW1.cells
            go_wp2_with fail
            clear h1 g0 g1 g2 g3 g4 g5 g6 g7
            refine (behind_o hc1' hm8 HA (by rw [HML.out]; omega) q hqm w3).mono ?_
            rintro e w5 ⟨⟨y0, y1, y2, y3, y4, y5, y6, y7, rfl, HY⟩, hb5⟩
            rw [← HPK.out, ← HMS.out] at HY
            have HC1b := Lib.hid (below_cell hb5 HC1.out)
            have HK1b := Lib.hid (below_cell hb5 HK1.out)
            have HW1b := HW1.below hb5
            have HI1b := HI1.below hb5
            have hB1b := below_then hB1 hB1.size hb5
            have hs1b := Nat.lt_of_lt_of_le hs1 hb5.size
            have hil5 : i < (M ++ List.replicate (n - M.length) 0).length := by simp; have := HML.out; omega
            have hpc := HI1b.cell i hil5
            have hpf := HI1b.free i
            obtain ⟨pv, hpv⟩ : ∃ pv, pv = (M ++ List.replicate (n - M.length) 0)[i]'hil5 := ⟨_, rfl⟩
            rw [← hpv] at hpc
            have HIS := HI1b.set i (q : Int)
            have hrow : (M ++ List.replicate (n - M.length) 0).set i (q : Int) = mendL m k [] (l.take (i + 1)) ++ List.replicate (n - (mendL m k [] (l.take (i + 1))).length) 0 := by
              have := row_set M n (q : Int) (by rw [HML.out]; exact hlt)
              rw [HMS.out, HPK.out]
              rw [HML.out] at this ⊢
              exact this
            have HRW := Lib.hid hrow
            clear hrow hpv hil5 hb5
            obtain ⟨w6, hw6⟩ : ∃ w6 : World, w6 = w5.setCell ⟨W.heap.size + 1 + 1 + 1, i, none⟩ (.int .i64 (q : Int)) := ⟨_, rfl⟩
            have hk6 : Keeps (fun q => q = W.heap.size + 1 + 1 + 1) w5 w6 := by rw [hw6]; exact Keeps.setCell _ (S := fun q => q = W.heap.size + 1 + 1 + 1) (p := ⟨W.heap.size + 1 + 1 + 1, i, none⟩) rfl _
            rw [← hw6] at HIS
            have HW6 := HW1b.keeps hk6 (by omega)
            have HC6 := Lib.hid (hk6.cell HC1b.out (by first | (simp; done) | (simp; omega)))
            have HK6 := Lib.hid (hk6.cell HK1b.out (by first | (simp; done) | (simp; omega)))
            have hs6 := Nat.lt_of_lt_of_le hs1b hk6.size
            have hB6 : Below W.heap.size W w6 := hB1b.trans (hk6.below hB1b.size (fun q hq => by have hq : q = W.heap.size + 1 + 1 + 1 := hq; omega))
            obtain ⟨w7, hw7⟩ : ∃ w7 : World, w7 = putW w6 (W.heap.size + 1 + 1) [y0, y1, y2, y3, y4, y5, y6, y7] := ⟨_, rfl⟩
            have hk7 : Keeps (fun q => q = W.heap.size + 1 + 1) w6 w7 := by rw [hw7]; exact putW_keeps _ _ _
            have HW7 : WBox w7 (W.heap.size + 1 + 1) (arr m (mendL m k [] (l.take (i + 1)))) := by rw [hw7, HY.out]; exact HW6.put rfl rfl
            have HI7 := HIS.keeps hk7 (by omega)
            have HC7 := Lib.hid (hk7.cell HC6.out (by first | (simp; done) | (simp; omega)))
            have HK7 := Lib.hid (hk7.cell HK6.out (by first | (simp; done) | (simp; omega)))
            have hs7 := Nat.lt_of_lt_of_le hs6 hk7.size
            have hB7 : Below W.heap.size W w7 := hB6.trans (hk7.below hB6.size (fun q hq => by have hq : q = W.heap.size + 1 + 1 := hq; omega))
            obtain ⟨g0, g1, g2, g3, g4, g5, g6, g7⟩ := HW6.cells
            have f0 := HW6.free 0
            have f1 := HW6.free 1
            have f2 := HW6.free 2
            have f3 := HW6.free 3
            have f4 := HW6.free 4
            have f5 := HW6.free 5
            have f6 := HW6.free 6
            have f7 := HW6.free 7
            rw [hw6] at g0 g1 g2 g3 g4 g5 g6 g7 f0 f1 f2 f3 f4 f5 f6 f7
            clear hk6 hk7 HIS
            go_wp2
            rw [← hw6, ← putW_eq, ← hw7]
            clear hw6 hw7 g0 g1 g2 g3 g4 g5 g6 g7 f0 f1 f2 f3 f4 f5 f6 f7 hpc hpf
            go_roundw
            case rel => exact ⟨i + 1, by omega, by go_num, HC7, HK7, HW7, by rw [← HRW.out]; exact HI7, hB7, hs7⟩
            case measure => simp [intOf]; omega
          | false =>
            have HPK := Lib.hid (show pickOf m k M x = ((amax (wv m M) m : Nat) : Int) by unfold pickOf; rw [HQ.out, if_neg (by rw [hcan]; decide)])
            clear hcan h1
            have HC1 := Lib.hid (below_cell hb3 HCB.out)
            have HK1 := Lib.hid (below_cell hb3 HKB.out)
            have HW1 := HWB1.below hb3
            have HI1 := HIB.below hb3
            have hB1 := below_then hB hB.size hb3
            have hs1 := Nat.lt_of_lt_of_le hsz hb3.size
            clear hb3 HCB HKB HWB HWB1 HIB hB hsz HCAN
            have h1 := HC1.out
            obtain ⟨g0, g1, g2, g3, g4, g5, g6, g7⟩ := HW1.cells
            go_wp2_with fail
            clear h1 g0 g1 g2 g3 g4 g5 g6 g7
            refine (longest_o hc1' hm8 HA w3).mono ?_
            rintro e w4 ⟨⟨j, rfl, hj, HJ⟩, hb4⟩
            rw [← HJ.out] at HPK
            have HC2 := Lib.hid (below_cell hb4 HC1.out)
            have HK2 := Lib.hid (below_cell hb4 HK1.out)
            have HW2 := HW1.below hb4
            have HI2 := HI1.below hb4
            have hB2 := below_then hB1 hB1.size hb4
            have hs2 := Nat.lt_of_lt_of_le hs1 hb4.size
            clear hb4 HC1 HK1 HW1 HI1 hB1 hs1
            have h1 := HC2.out
            obtain ⟨g0, g1, g2, g3, g4, g5, g6, g7⟩ := HW2.cells
            go_wp2_with fail
            clear h1 g0 g1 g2 g3 g4 g5 g6 g7
            refine (behind_o hc1' hm8 HA (by rw [HML.out]; omega) j hj w4).mono ?_
            rintro e w5 ⟨⟨y0, y1, y2, y3, y4, y5, y6, y7, rfl, HY⟩, hb5⟩
            rw [← HPK.out, ← HMS.out] at HY
            have HC2b := Lib.hid (below_cell hb5 HC2.out)
            have HK2b := Lib.hid (below_cell hb5 HK2.out)
            have HW2b := HW2.below hb5
            have HI2b := HI2.below hb5
            have hB2b := below_then hB2 hB2.size hb5
            have hs2b := Nat.lt_of_lt_of_le hs2 hb5.size
            have hil5 : i < (M ++ List.replicate (n - M.length) 0).length := by simp; have := HML.out; omega
            have hpc := HI2b.cell i hil5
            have hpf := HI2b.free i
            obtain ⟨pv, hpv⟩ : ∃ pv, pv = (M ++ List.replicate (n - M.length) 0)[i]'hil5 := ⟨_, rfl⟩
            rw [← hpv] at hpc
            have HIS := HI2b.set i (j : Int)
            have hrow : (M ++ List.replicate (n - M.length) 0).set i (j : Int) = mendL m k [] (l.take (i + 1)) ++ List.replicate (n - (mendL m k [] (l.take (i + 1))).length) 0 := by
              have := row_set M n (j : Int) (by rw [HML.out]; exact hlt)
              rw [HMS.out, HPK.out]
              rw [HML.out] at this ⊢
              exact this
            have HRW := Lib.hid hrow
            clear hrow hpv hil5 hb5
            obtain ⟨w6, hw6⟩ : ∃ w6 : World, w6 = w5.setCell ⟨W.heap.size + 1 + 1 + 1, i, none⟩ (.int .i64 (j : Int)) := ⟨_, rfl⟩
            have hk6 : Keeps (fun q => q = W.heap.size + 1 + 1 + 1) w5 w6 := by rw [hw6]; exact Keeps.setCell _ (S := fun q => q = W.heap.size + 1 + 1 + 1) (p := ⟨W.heap.size + 1 + 1 + 1, i, none⟩) rfl _
            rw [← hw6] at HIS
            have HW6 := HW2b.keeps hk6 (by omega)
            have HC6 := Lib.hid (hk6.cell HC2b.out (by first | (simp; done) | (simp; omega)))
            have HK6 := Lib.hid (hk6.cell HK2b.out (by first | (simp; done) | (simp; omega)))
            have hs6 := Nat.lt_of_lt_of_le hs2b hk6.size
            have hB6 : Below W.heap.size W w6 := hB2b.trans (hk6.below hB2b.size (fun q hq => by have hq : q = W.heap.size + 1 + 1 + 1 := hq; omega))
            obtain ⟨w7, hw7⟩ : ∃ w7 : World, w7 = putW w6 (W.heap.size + 1 + 1) [y0, y1, y2, y3, y4, y5, y6, y7] := ⟨_, rfl⟩
            have hk7 : Keeps (fun q => q = W.heap.size + 1 + 1) w6 w7 := by rw [hw7]; exact putW_keeps _ _ _
            have HW7 : WBox w7 (W.heap.size + 1 + 1) (arr m (mendL m k [] (l.take (i + 1)))) := by rw [hw7, HY.out]; exact HW6.put rfl rfl
            have HI7 := HIS.keeps hk7 (by omega)
            have HC7 := Lib.hid (hk7.cell HC6.out (by first | (simp; done) | (simp; omega)))
            have HK7 := Lib.hid (hk7.cell HK6.out (by first | (simp; done) | (simp; omega)))
            have hs7 := Nat.lt_of_lt_of_le hs6 hk7.size
            have hB7 : Below W.heap.size W w7 := hB6.trans (hk7.below hB6.size (fun q hq => by have hq : q = W.heap.size + 1 + 1 := hq; omega))
            obtain ⟨g0, g1, g2, g3, g4, g5, g6, g7⟩ := HW6.cells
            have f0 := HW6.free 0
            have f1 := HW6.free 1
            have f2 := HW6.free 2
            have f3 := HW6.free 3
            have f4 := HW6.free 4
            have f5 := HW6.free 5
            have f6 := HW6.free 6
            have f7 := HW6.free 7
            rw [hw6] at g0 g1 g2 g3 g4 g5 g6 g7 f0 f1 f2 f3 f4 f5 f6 f7
            clear hk6 hk7 HIS
            go_wp2
            rw [← hw6, ← putW_eq, ← hw7]
            clear hw6 hw7 g0 g1 g2 g3 g4 g5 g6 g7 f0 f1 f2 f3 f4 f5 f6 f7 hpc hpf
            go_roundw
            case rel => exact ⟨i + 1, by omega, by go_num, HC7, HK7, HW7, by rw [← HRW.out]; exact HI7, hB7, hs7⟩
            case measure => simp [intOf]; omega
        · obtain rfl : i = n := by omega
          rw [List.take_of_length_le (by have := HN.out; omega)] at HIB
          have hlen : (mendL m k [] l).length = i := by rw [mendL_length, HN.out]; simp
          rw [hlen, Nat.sub_self, List.replicate_zero, List.append_nil] at HIB
          have ho := HIB.owns (B := W.heap.size) (by omega) (by rw [hlen]; unfold maxLen; omega)
          rw [hlen] at ho
          have HO := Lib.hid ho
          clear ho hlen HIB HWB HCB HKB
          go_wp2
          go_ret2
          exact ⟨HPH.out _ _ ⟨_, rfl, by rw [← HN.out]; exact HO.out⟩, hB⟩

end Go.Proofs.Ytmmeiclclapmfaa
