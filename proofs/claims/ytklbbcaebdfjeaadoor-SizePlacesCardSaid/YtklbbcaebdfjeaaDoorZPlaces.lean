/-
  SizePlaces returns true for every row of blocks, and of places; what was in memory stays.
  Conditions: the package's table of sizes is as it was laid; the ranges of Go's types.
-/
import Derived.Test.YtklbbcaebdfjeaaDoorZWakes
import Derived.Test.YtklbbcaebdfjeaaDoorZRef
import Derived.Test.YtklbbcaebdfjeaaDoorZBack
import Derived.Test.YtklbbcaebdfjeaaDoorZOpen2
import Derived.Deep.CutBlock
namespace Go.Proofs.YtklbbcaebdfjeaaDoor
open Go.RowKit Go.Shelf
attribute [local go_sem] Oper.semAt_some

set_option maxRecDepth 100000 in
set_option maxHeartbeats 64000000 in
theorem places_walk (v : Value) (bs : List (Int × Int)) (v2 : Value) (ps : List (Int × Int × Int)) (W : World) (hv : BlksAt W v bs) (hr : ∀ b ∈ bs, I64 b.1 ∧ I64 b.2) (hv2 : PlcsAt W v2 ps) (hr2 : ∀ b ∈ ps, I64 b.1 ∧ I64 b.2.1 ∧ I64 b.2.2) (hT : Tab W) :
    Calls Tryd.prog 4 #[v, v2] W fun e w' => e = .returned (.bool true) ∧ Below W.heap.size W w' := by
  have HW := Lib.hid (wakes_c W hT)
  obtain ⟨p, cap, rfl, hcs⟩ := hv
  obtain ⟨p2, cap2, rfl, hcs2⟩ := hv2
  have HR := Lib.hid hr
  have HR2 := Lib.hid hr2
  have HCS := Lib.hid hcs
  have HCS2 := Lib.hid hcs2
  have HT := Lib.hid hT
  clear hr hr2 hcs hcs2 hT
  go_enter Tryd.func4, Tryd.ntmps4
  go_wp2_with fail
  refine HW.out.mono ?_
  rintro e w1 ⟨rfl, hb⟩
  have HB := Lib.hid hb
  clear HW hb
  go_upto_block 0 with fail
  go_cut [] from 137 (fun wc => Hid (Below W.heap.size W wc))
  case first =>
    go_wp2
    go_loopw [24] (fun iv wr => ∃ i : Nat, i ≤ bs.length ∧ i ≤ 20 ∧ iv = .int .i64 (i : Int) ∧ Hid (Below W.heap.size W wr)) (fun iv _ => bs.length - (intOf iv).toNat)
    case atStart => exact ⟨0, Nat.zero_le _, Nat.zero_le _, rfl, HB⟩
    case round =>
      obtain ⟨i, hi, hi20, rfl, HBR⟩ := hrel
      by_cases hlt : i < bs.length
      · by_cases h20 : i = 20
        · subst h20
          obtain ⟨b, off, rfl, hcs⟩ := HCS.out (by intro e; rw [e] at hlt; cases hlt)
          obtain ⟨hx, hy⟩ := hcs 20 hlt
          have hx := below_cell HBR.out hx
          have hy := below_cell HBR.out hy
          generalize bs[20].1 = a at *
          generalize bs[20].2 = c at *
          clear hcs
          have HBE := Lib.hid (HBR.out.alloc HBR.out.size (.cells #[.int .i64 a, .int .i64 c] 33))
          go_wp2
          go_meet
          exact HBE
        · obtain ⟨b, off, rfl, hcs⟩ := HCS.out (by intro e; rw [e] at hlt; cases hlt)
          obtain ⟨hx, hy⟩ := hcs i hlt
          have hx := below_cell HBR.out hx
          have hy := below_cell HBR.out hy
          have HI := Lib.hid (HR.out bs[i] (List.getElem_mem hlt)).1
          obtain ⟨⟨a, c⟩, hak⟩ : ∃ f, f = bs[i] := ⟨_, rfl⟩
          rw [← hak] at hx hy HI
          clear hcs hak
          simp only at hx hy HI
          have h20b : ((i : Int) == 20) = false := by simp; omega
          obtain ⟨w2, hw2⟩ : ∃ X : World, X = wr.alloc (.cells #[.int .i64 a, .int .i64 c] 33) := ⟨_, rfl⟩
          have hB2 : Below W.heap.size W w2 := by rw [hw2]; exact HBR.out.alloc HBR.out.size _
          have hN2 : BBox w2 wr.heap.size a c := by rw [hw2]; exact BBox.new _ _ _
          obtain ⟨z, hz⟩ : ∃ z, z = wr.heap.size := ⟨_, rfl⟩
          have HZ := Lib.hid hz
          obtain ⟨d0, d1⟩ := hN2.cells
          rw [← hz] at hN2
          have HN2 := Lib.hid hN2
          have HB2 := Lib.hid hB2
          rw [hw2] at d0 d1
          clear hz hB2 hN2 HBR
          go_wp2_with fail
          rw [← hw2, ← HZ.out]
          clear hw2 HZ d0 d1 hx hy
          refine (rRight_c a c w2).mono ?_
          rintro e w3 ⟨rfl, hb⟩
          have HN3 := Lib.hid (HN2.out.below hb)
          have HB3 := Lib.hid (below_then HB2.out HB2.out.size hb)
          clear hb HN2 HB2
          obtain ⟨d0, d1⟩ := HN3.out.cells
          have HF := Lib.hid (find_c a c HI.out w3 (HT.out.below HB3.out))
          cases hM : mayB a c with
          | false =>
            rw [show findV a c = .tuple #[.int .i64 0, .int .i64 0, .int .i64 180] by unfold findV; rw [hM]; rfl] at HF
            go_wp2_with fail
            refine HF.out.mono ?_
            rintro e w4 ⟨rfl, hb⟩
            have HN4 := Lib.hid (HN3.out.below hb)
            have HB4 := Lib.hid (below_then HB3.out HB3.out.size hb)
            clear hb HN3 HB3 HF d0 d1
            obtain ⟨d0, d1⟩ := HN4.out.cells
            have HC := Lib.hid (check_c a c HI.out w4 (HT.out.below HB4.out))
            rw [hM, if_neg (by decide)] at HC
            dsimp only
            go_wp2_with fail
            refine HC.out.mono ?_
            rintro e w5 ⟨rfl, hb⟩
            have HB5 := Lib.hid (below_then HB4.out HB4.out.size hb)
            clear hb HN4 HB4 HC d0 d1
            go_wp2
            go_roundw
            case rel => exact ⟨i + 1, by omega, by omega, by go_num, HB5⟩
            case measure => simp [intOf]; omega
          | true =>
            obtain ⟨k, n, rfl, hk, rfl, hn, hnm⟩ := mayB_yes hM
            rw [show findV n k = .tuple #[.int .i64 ((n : Int) / 16), .int .i64 ((n : Int) % 16 / (szN k : Int)), .int .i64 0] by unfold findV; rw [if_pos hM, Int.toNat_natCast, Int.toNat_natCast]; rfl] at HF
            obtain ⟨hs1, hs2⟩ := sz_ok hk
            obtain ⟨s, hs⟩ : ∃ s, s = szN k := ⟨_, rfl⟩
            have HS := Lib.hid hs
            rw [← hs] at HF hs1 hs2
            have hn4 : n ≤ 4096 := by omega
            obtain ⟨Q, hQ⟩ : ∃ Q, Q = (n : Int) % 16 / (s : Int) := ⟨_, rfl⟩
            have HQ := Lib.hid (show IntKind.i64.wrap (((n : Int) % 16).tdiv (s : Int)) = Q by
              have h9 : n % 16 / s ≤ 16 := Nat.le_trans (Nat.div_le_self _ _) (by omega)
              rw [hQ]
              show IntKind.i64.wrap ((n % 16 / s : Nat) : Int) = ((n % 16 / s : Nat) : Int)
              generalize n % 16 / s = g at h9 ⊢
              exact IntWalk.i64_in _ (by omega))
            rw [← hQ] at HF
            obtain ⟨R, hRR⟩ : ∃ R, R = (n : Int) / 16 := ⟨_, rfl⟩
            have HRR := Lib.hid hRR
            rw [← hRR] at HF
            have hneQ : (Q != Q) = false := by rw [bne_eq_false_iff_eq]
            have hneR : (R != R) = false := by rw [bne_eq_false_iff_eq]
            clear hs hn hnm hQ hRR
            go_wp2_with fail
            refine HF.out.mono ?_
            rintro e w4 ⟨rfl, hb⟩
            have hN4 := HN3.out.below hb
            have hB4 := below_then HB3.out HB3.out.size hb
            clear hb HN3 HB3 HF d0 d1
            obtain ⟨F, hFE⟩ : ∃ F : World → Prop, F = fun w => BBox w z n k ∧ Below W.heap.size W w := ⟨_, rfl⟩
            have HFE := Lib.hid (show ∀ w, F w → BBox w z n k ∧ Below W.heap.size W w from fun w h => by rw [hFE] at h; exact h)
            have HFB := Lib.hid (show ∀ w w', F w → Below w.heap.size w w' → F w' from fun w w' h hb => by
              rw [hFE] at h ⊢
              exact ⟨h.1.below hb, below_then h.2 h.2.size hb⟩)
            have hF : F w4 := by rw [hFE]; exact ⟨hN4, hB4⟩
            clear hFE
            clear hN4 hB4
            dsimp only
            go_wp2_with fail
            refine wpTwo_begin (T := F) (S := fun _ => True) (late := fun _ => false) (by kernel_rfl) ?_
            obtain ⟨X0, hX0⟩ : ∃ X : World, X = w4.drew := ⟨_, rfl⟩
            rw [← hX0]
            have hF := HFB.out _ X0 hF (by rw [hX0]; exact (Below.refl _ _).drew)
            clear hX0
            refine wpTwo_takeT (i := 0) (v := .pointer (some ⟨z, 0, none⟩)) rfl (by kernel_rfl) (by kernel_rfl) (by kernel_rfl) (fun _ _ _ h => h) ⟨by rfl, ?_⟩ hF ?_
            · rintro w hTw
              go_simp
            (try simp only [Act.put, List.getElem_toArray, List.getElem_cons_zero, List.setIfInBounds_toArray, List.set_cons_succ, List.set_cons_zero])
            refine wpTwo_takeT (i := 1) (v := .int .i64 (n : Int)) rfl (by kernel_rfl) (by kernel_rfl) (by kernel_rfl) (fun _ _ _ h => h) ⟨by rfl, ?_⟩ hF ?_
            · rintro w hTw
              obtain ⟨t0, t1⟩ := (HFE.out _ hTw).1.cells
              go_simp
            (try simp only [Act.put, List.getElem_toArray, List.getElem_cons_succ, List.getElem_cons_zero, List.setIfInBounds_toArray, List.set_cons_succ, List.set_cons_zero])
            refine wpTwo_takeT (i := 2) (v := .int .i64 R) rfl (by kernel_rfl) (by kernel_rfl) (by kernel_rfl) (fun _ _ _ h => h) ⟨by rfl, ?_⟩ hF ?_
            · rintro w hTw
              go_simp
              rw [HRR.out]
              exact IntWalk.i64_in _ (by omega)
            (try simp only [Act.put, List.getElem_toArray, List.getElem_cons_succ, List.getElem_cons_zero, List.setIfInBounds_toArray, List.set_cons_succ, List.set_cons_zero])
            refine wpTwo_takeT (i := 3) (v := .pointer (some ⟨z, 0, none⟩)) rfl (by kernel_rfl) (by kernel_rfl) (by kernel_rfl) (fun _ _ _ h => h) ⟨by rfl, ?_⟩ hF ?_
            · rintro w hTw
              go_simp
            (try simp only [Act.put, List.getElem_toArray, List.getElem_cons_succ, List.getElem_cons_zero, List.setIfInBounds_toArray, List.set_cons_succ, List.set_cons_zero])
            refine wpTwo_takeT (i := 4) (v := .int .i64 (n : Int)) rfl (by kernel_rfl) (by kernel_rfl) (by kernel_rfl) (fun _ _ _ h => h) ⟨by rfl, ?_⟩ hF ?_
            · rintro w hTw
              obtain ⟨t0, t1⟩ := (HFE.out _ hTw).1.cells
              go_simp
            (try simp only [Act.put, List.getElem_toArray, List.getElem_cons_succ, List.getElem_cons_zero, List.setIfInBounds_toArray, List.set_cons_succ, List.set_cons_zero])
            refine wpTwo_takeT (i := 5) (v := .int .i64 ((n : Int) % 16)) rfl (by kernel_rfl) (by kernel_rfl) (by kernel_rfl) (fun _ _ _ h => h) ⟨by rfl, ?_⟩ hF ?_
            · rintro w hTw
              go_simp
              rfl
            (try simp only [Act.put, List.getElem_toArray, List.getElem_cons_succ, List.getElem_cons_zero, List.setIfInBounds_toArray, List.set_cons_succ, List.set_cons_zero])
            refine wpTwo_takeT (i := 6) (v := .pointer (some ⟨z, 1, none⟩)) rfl (by kernel_rfl) (by kernel_rfl) (by kernel_rfl) (fun _ _ _ h => h) ⟨by rfl, ?_⟩ hF ?_
            · rintro w hTw
              go_simp
            (try simp only [Act.put, List.getElem_toArray, List.getElem_cons_succ, List.getElem_cons_zero, List.setIfInBounds_toArray, List.set_cons_succ, List.set_cons_zero])
            refine wpTwo_takeT (i := 7) (v := .int .i64 (k : Int)) rfl (by kernel_rfl) (by kernel_rfl) (by kernel_rfl) (fun _ _ _ h => h) ⟨by rfl, ?_⟩ hF ?_
            · rintro w hTw
              obtain ⟨t0, t1⟩ := (HFE.out _ hTw).1.cells
              go_simp
            (try simp only [Act.put, List.getElem_toArray, List.getElem_cons_succ, List.getElem_cons_zero, List.setIfInBounds_toArray, List.set_cons_succ, List.set_cons_zero])
            refine wpTwo_ready (rs := [8]) (by kernel_rfl) (by simp) ?_
            refine (AllTwo.cons rfl (fun K hK => ?_) AllTwo.nil)
            go_simp
            refine (rWords_c k hk _).mono ?_
            rintro e Y ⟨rfl, rfl⟩
            rw [← HS.out]
            go_wp2_with fail
            refine hK.out _ _ ⟨hF, fun _ _ => trivial⟩ ?_
            clear hK K
            (try simp only [Act.put, List.getElem_toArray, List.getElem_cons_succ, List.getElem_cons_zero, List.setIfInBounds_toArray, List.set_cons_succ, List.set_cons_zero])
            refine wpTwo_takeT (i := 9) (v := .int .i64 Q) rfl (by kernel_rfl) (by kernel_rfl) (by kernel_rfl) (fun _ _ _ h => h) ⟨by rfl, ?_⟩ hF ?_
            · rintro w hTw
              go_simp
              rw [if_neg (show ¬ s = 0 by omega), HQ.out]
            (try simp only [Act.put, List.getElem_toArray, List.getElem_cons_succ, List.getElem_cons_zero, List.setIfInBounds_toArray, List.set_cons_succ, List.set_cons_zero])
            refine wpTwo_takeT (i := 10) (v := .int .i64 R) rfl (by kernel_rfl) (by kernel_rfl) (by kernel_rfl) (fun _ _ _ h => h) ⟨by rfl, ?_⟩ hF ?_
            · rintro w hTw
              go_simp
            (try simp only [Act.put, List.getElem_toArray, List.getElem_cons_succ, List.getElem_cons_zero, List.setIfInBounds_toArray, List.set_cons_succ, List.set_cons_zero])
            refine wpTwo_takeT (i := 11) (v := .int .i64 Q) rfl (by kernel_rfl) (by kernel_rfl) (by kernel_rfl) (fun _ _ _ h => h) ⟨by rfl, ?_⟩ hF ?_
            · rintro w hTw
              go_simp
            (try simp only [Act.put, List.getElem_toArray, List.getElem_cons_succ, List.getElem_cons_zero, List.setIfInBounds_toArray, List.set_cons_succ, List.set_cons_zero])
            refine wpTwo_takeT (i := 12) (v := .int .i64 0) rfl (by kernel_rfl) (by kernel_rfl) (by kernel_rfl) (fun _ _ _ h => h) ⟨by rfl, ?_⟩ hF ?_
            · rintro w hTw
              go_simp
            (try simp only [Act.put, List.getElem_toArray, List.getElem_cons_succ, List.getElem_cons_zero, List.setIfInBounds_toArray, List.set_cons_succ, List.set_cons_zero])
            refine wpTwo_end (by kernel_rfl) ?_ _
            have HN5 := Lib.hid (HFE.out _ hF).1
            have HB5 := Lib.hid (HFE.out _ hF).2
            clear hF
            obtain ⟨d0, d1⟩ := HN5.out.cells
            have HC := Lib.hid (check_c n k HI.out _ (HT.out.below HB5.out))
            rw [hM, if_pos rfl] at HC
            go_wp2_with fail
            refine HC.out.mono ?_
            rintro e w5 ⟨rfl, hb⟩
            have HB6 := Lib.hid (below_then HB5.out HB5.out.size hb)
            clear hb HN5 HB5 HC d0 d1
            go_wp2
            go_roundw
            case rel => exact ⟨i + 1, by omega, by omega, by go_num, HB6⟩
            case measure => simp [intOf]; omega
      · go_wp2
        go_meet
        exact HBR
  case rest =>
    go_wp2
    go_loopw [72] (fun iv wr => ∃ i : Nat, i ≤ ps.length ∧ i ≤ 20 ∧ iv = .int .i64 (i : Int) ∧ Hid (Below W.heap.size W wr)) (fun iv _ => ps.length - (intOf iv).toNat)
    case atStart => exact ⟨0, Nat.zero_le _, Nat.zero_le _, rfl, hcut⟩
    case round =>
      obtain ⟨i, hi, hi20, rfl, HBR⟩ := hrel
      by_cases hlt : i < ps.length
      · by_cases h20 : i = 20
        · subst h20
          obtain ⟨b, off, rfl, hcs⟩ := HCS2.out (by intro e; rw [e] at hlt; cases hlt)
          obtain ⟨hx, hy, ht⟩ := hcs 20 hlt
          have hx := below_cell HBR.out hx
          have hy := below_cell HBR.out hy
          have ht := below_cell HBR.out ht
          generalize ps[20].1 = a at *
          generalize ps[20].2.1 = c at *
          generalize ps[20].2.2 = d at *
          clear hcs
          have HBE := Lib.hid (HBR.out.alloc HBR.out.size (.cells #[.int .i64 a, .int .i64 c, .int .i64 d] 38))
          go_wp2
          go_ret
          exact ⟨rfl, HBE.out⟩
        · obtain ⟨b, off, rfl, hcs⟩ := HCS2.out (by intro e; rw [e] at hlt; cases hlt)
          obtain ⟨hx, hy, ht⟩ := hcs i hlt
          have hx := below_cell HBR.out hx
          have hy := below_cell HBR.out hy
          have ht := below_cell HBR.out ht
          have HI := Lib.hid (HR2.out ps[i] (List.getElem_mem hlt))
          obtain ⟨⟨x, y, t⟩, hak⟩ : ∃ f, f = ps[i] := ⟨_, rfl⟩
          rw [← hak] at hx hy ht HI
          clear hcs hak
          simp only at hx hy ht HI
          have h20b : ((i : Int) == 20) = false := by simp; omega
          obtain ⟨w2, hw2⟩ : ∃ X : World, X = wr.alloc (.cells #[.int .i64 x, .int .i64 y, .int .i64 t] 38) := ⟨_, rfl⟩
          have hB2 : Below W.heap.size W w2 := by rw [hw2]; exact HBR.out.alloc HBR.out.size _
          have hN2 : TBox w2 wr.heap.size x y t := by rw [hw2]; exact World.alloc_heap_new _ _
          obtain ⟨z, hz⟩ : ∃ z, z = wr.heap.size := ⟨_, rfl⟩
          have HZ := Lib.hid hz
          obtain ⟨d0, d1, d2⟩ := hN2.cells
          rw [← hz] at hN2
          have HN2 := Lib.hid hN2
          have HB2 := Lib.hid hB2
          have HP := Lib.hid (place_c x y t HI.out.2.1 HI.out.2.2 w2 (HT.out.below HB2.out))
          rw [hw2] at d0 d1 d2
          clear hz hB2 hN2 HBR
          obtain ⟨A, hA⟩ : ∃ A, A = placeA x y t := ⟨_, rfl⟩
          rw [← hA] at HP
          have HA := Lib.hid hA
          clear hA
          go_wp2_with fail
          rw [← hw2, ← HZ.out]
          clear hw2 HZ d0 d1 d2 hx hy ht
          refine HP.out.mono ?_
          rintro e w3 ⟨rfl, hb⟩
          have hN3 := HN2.out.below hb
          have hB3 := below_then HB2.out HB2.out.size hb
          clear hb HN2 HB2 HP
          dsimp only
          obtain ⟨w4, hw4⟩ : ∃ X : World, X = (w3.alloc (.cells #[.int .i64 A.1, .int .i64 A.2.1] 33)).alloc (.cells #[.int .i64 0, .int .i64 0] 33) := ⟨_, rfl⟩
          have hb4 : Below w3.heap.size w3 w4 := by rw [hw4]; exact ((Below.refl _ _).alloc (Nat.le_refl _) _).alloc (by simp) _
          have hP4 : BBox w4 w3.heap.size A.1 A.2.1 := by rw [hw4]; exact (BBox.new _ _ _).alloc _
          have hQ4 : BBox w4 (w3.heap.size + 1) 0 0 := by rw [hw4]; have := BBox.new (w3.alloc (.cells #[.int .i64 A.1, .int .i64 A.2.1] 33)) 0 0; simpa using this
          have hN4 := hN3.below hb4
          have hB4 := below_then hB3 hB3.size hb4
          obtain ⟨y1, hy1⟩ : ∃ q, q = w3.heap.size := ⟨_, rfl⟩
          have HY1 := Lib.hid hy1
          have hWy : W.heap.size ≤ y1 := by rw [hy1]; exact hB3.size
          rw [← hy1] at hP4 hQ4
          have HZY := Lib.hid (show z < y1 by rw [hy1]; exact (Array.getElem?_eq_some_iff.1 hN3).1)
          clear hy1 hb4 hN3 hB3
          obtain ⟨F, hFE⟩ : ∃ F : World → Prop, F = fun w => TBox w z x y t ∧ BBox w y1 A.1 A.2.1 ∧ BBox w (y1 + 1) 0 0 ∧ Below W.heap.size W w := ⟨_, rfl⟩
          have HFE := Lib.hid (show ∀ w, F w → TBox w z x y t ∧ BBox w y1 A.1 A.2.1 ∧ BBox w (y1 + 1) 0 0 ∧ Below W.heap.size W w from fun w h => by rw [hFE] at h; exact h)
          have HFB := Lib.hid (show ∀ w w', F w → Below w.heap.size w w' → F w' from fun w w' h hb => by
            rw [hFE] at h ⊢
            exact ⟨h.1.below hb, h.2.1.below hb, h.2.2.1.below hb, below_then h.2.2.2 h.2.2.2.size hb⟩)
          have hF : F w4 := by rw [hFE]; exact ⟨hN4, hP4, hQ4, hB4⟩
          clear hFE
          clear hN4 hP4 hQ4 hB4
          have hcase : isB x = false ∨ (isB x = true ∧ y < 0) ∨ (isB x = true ∧ 0 ≤ y ∧ t < 0) ∨ (isB x = true ∧ 0 ≤ y ∧ 0 ≤ t ∧ ((16 / szN x.toNat : Nat) : Int) ≤ t) ∨ (isB x = true ∧ 0 ≤ y ∧ 0 ≤ t ∧ t < ((16 / szN x.toNat : Nat) : Int) ∧ 256 ≤ y) ∨ (isB x = true ∧ 0 ≤ y ∧ 0 ≤ t ∧ t < ((16 / szN x.toNat : Nat) : Int) ∧ y < 256) := by
            cases isB x with
            | false => exact .inl rfl
            | true =>
              rcases Int.lt_or_le y 0 with h1 | h1
              · exact .inr (.inl ⟨rfl, h1⟩)
              · rcases Int.lt_or_le t 0 with h2 | h2
                · exact .inr (.inr (.inl ⟨rfl, h1, h2⟩))
                · rcases Int.lt_or_le t ((16 / szN x.toNat : Nat) : Int) with h3 | h3
                  · rcases Int.lt_or_le y 256 with h4 | h4
                    · exact .inr (.inr (.inr (.inr (.inr ⟨rfl, h1, h2, h3, h4⟩))))
                    · exact .inr (.inr (.inr (.inr (.inl ⟨rfl, h1, h2, h3, h4⟩))))
                  · exact .inr (.inr (.inr (.inl ⟨rfl, h1, h2, h3⟩)))
          rcases hcase with h1 | ⟨h1, h2⟩ | ⟨h1, h2, h3⟩ | ⟨h1, h2, h3, h4⟩ | ⟨h1, h2, h3, h4, h5⟩ | ⟨h1, h2, h3, h4, h5⟩
          · have hA := HA.out
            obtain rfl : A = (0, 0, 2) := by rw [hA]; unfold placeA placeB; rw [h1]; rfl
            clear hA HA
            go_wp2_with fail
            rw [← hw4, ← HY1.out]
            clear hw4 HY1
            refine wpTwo_begin (T := F) (S := fun _ => True) (late := fun _ => false) (by kernel_rfl) ?_
            obtain ⟨X0, hX0⟩ : ∃ X : World, X = w4.drew := ⟨_, rfl⟩
            rw [← hX0]
            have hF := HFB.out _ X0 hF (by rw [hX0]; exact (Below.refl _ _).drew)
            clear hX0
            refine wpTwo_takeT (i := 0) (v := .pointer (some ⟨z, 0, none⟩)) rfl (by kernel_rfl) (by kernel_rfl) (by kernel_rfl) (fun _ _ _ h => h) ⟨by rfl, ?_⟩ hF ?_
            · rintro w hTw
              go_simp
            (try simp only [Act.put, List.getElem_toArray, List.getElem_cons_zero, List.setIfInBounds_toArray, List.set_cons_succ, List.set_cons_zero])
            refine wpTwo_takeT (i := 1) (v := .int .i64 x) rfl (by kernel_rfl) (by kernel_rfl) (by kernel_rfl) (fun _ _ _ h => h) ⟨by rfl, ?_⟩ hF ?_
            · rintro w hTw
              obtain ⟨t0, t1, t2⟩ := (HFE.out _ hTw).1.cells
              go_simp
            (try simp only [Act.put, List.getElem_toArray, List.getElem_cons_succ, List.getElem_cons_zero, List.setIfInBounds_toArray, List.set_cons_succ, List.set_cons_zero])
            refine wpTwo_ready (rs := [2]) (by kernel_rfl) (by simp) ?_
            refine (AllTwo.cons rfl (fun K hK => ?_) AllTwo.nil)
            go_simp
            refine (rIs_c x _).mono ?_
            rintro e Y1 ⟨rfl, rfl⟩
            rw [h1]
            go_wp2_with fail
            refine hK.out _ _ ⟨hF, fun _ _ => trivial⟩ ?_
            clear hK K
            (try simp only [Act.put, List.getElem_toArray, List.getElem_cons_succ, List.getElem_cons_zero, List.setIfInBounds_toArray, List.set_cons_succ, List.set_cons_zero])
            refine wpTwo_takeT (i := 3) (v := .bool false) rfl (by kernel_rfl) (by kernel_rfl) (by kernel_rfl) (fun _ _ _ h => h) ⟨by rfl, ?_⟩ hF ?_
            · rintro w hTw
              go_simp
            (try simp only [Act.put, List.getElem_toArray, List.getElem_cons_succ, List.getElem_cons_zero, List.setIfInBounds_toArray, List.set_cons_succ, List.set_cons_zero])
            refine wpTwo_skipT (i := 4) rfl (by kernel_rfl) (by kernel_rfl) (by kernel_rfl) (fun _ _ _ h => h) (by rfl) hF ?_
            (try simp only [Act.put, List.getElem_toArray, List.getElem_cons_succ, List.getElem_cons_zero, List.setIfInBounds_toArray, List.set_cons_succ, List.set_cons_zero])
            refine wpTwo_skipT (i := 5) rfl (by kernel_rfl) (by kernel_rfl) (by kernel_rfl) (fun _ _ _ h => h) (by rfl) hF ?_
            (try simp only [Act.put, List.getElem_toArray, List.getElem_cons_succ, List.getElem_cons_zero, List.setIfInBounds_toArray, List.set_cons_succ, List.set_cons_zero])
            refine wpTwo_skipT (i := 6) rfl (by kernel_rfl) (by kernel_rfl) (by kernel_rfl) (fun _ _ _ h => h) (by rfl) hF ?_
            (try simp only [Act.put, List.getElem_toArray, List.getElem_cons_succ, List.getElem_cons_zero, List.setIfInBounds_toArray, List.set_cons_succ, List.set_cons_zero])
            refine wpTwo_takeT (i := 7) (v := .bool false) rfl (by kernel_rfl) (by kernel_rfl) (by kernel_rfl) (fun _ _ _ h => h) ⟨by rfl, ?_⟩ hF ?_
            · rintro w hTw
              go_simp
            (try simp only [Act.put, List.getElem_toArray, List.getElem_cons_succ, List.getElem_cons_zero, List.setIfInBounds_toArray, List.set_cons_succ, List.set_cons_zero])
            refine wpTwo_takeT (i := 8) (v := .bool false) rfl (by kernel_rfl) (by kernel_rfl) (by kernel_rfl) (fun _ _ _ h => h) ⟨by rfl, ?_⟩ hF ?_
            · rintro w hTw
              go_simp
            (try simp only [Act.put, List.getElem_toArray, List.getElem_cons_succ, List.getElem_cons_zero, List.setIfInBounds_toArray, List.set_cons_succ, List.set_cons_zero])
            refine wpTwo_skipT (i := 9) rfl (by kernel_rfl) (by kernel_rfl) (by kernel_rfl) (fun _ _ _ h => h) (by rfl) hF ?_
            (try simp only [Act.put, List.getElem_toArray, List.getElem_cons_succ, List.getElem_cons_zero, List.setIfInBounds_toArray, List.set_cons_succ, List.set_cons_zero])
            refine wpTwo_skipT (i := 10) rfl (by kernel_rfl) (by kernel_rfl) (by kernel_rfl) (fun _ _ _ h => h) (by rfl) hF ?_
            (try simp only [Act.put, List.getElem_toArray, List.getElem_cons_succ, List.getElem_cons_zero, List.setIfInBounds_toArray, List.set_cons_succ, List.set_cons_zero])
            refine wpTwo_skipT (i := 11) rfl (by kernel_rfl) (by kernel_rfl) (by kernel_rfl) (fun _ _ _ h => h) (by rfl) hF ?_
            (try simp only [Act.put, List.getElem_toArray, List.getElem_cons_succ, List.getElem_cons_zero, List.setIfInBounds_toArray, List.set_cons_succ, List.set_cons_zero])
            refine wpTwo_takeT (i := 12) (v := .bool false) rfl (by kernel_rfl) (by kernel_rfl) (by kernel_rfl) (fun _ _ _ h => h) ⟨by rfl, ?_⟩ hF ?_
            · rintro w hTw
              go_simp
            (try simp only [Act.put, List.getElem_toArray, List.getElem_cons_succ, List.getElem_cons_zero, List.setIfInBounds_toArray, List.set_cons_succ, List.set_cons_zero])
            refine wpTwo_takeT (i := 13) (v := .bool false) rfl (by kernel_rfl) (by kernel_rfl) (by kernel_rfl) (fun _ _ _ h => h) ⟨by rfl, ?_⟩ hF ?_
            · rintro w hTw
              go_simp
            (try simp only [Act.put, List.getElem_toArray, List.getElem_cons_succ, List.getElem_cons_zero, List.setIfInBounds_toArray, List.set_cons_succ, List.set_cons_zero])
            refine wpTwo_skipT (i := 14) rfl (by kernel_rfl) (by kernel_rfl) (by kernel_rfl) (fun _ _ _ h => h) (by rfl) hF ?_
            (try simp only [Act.put, List.getElem_toArray, List.getElem_cons_succ, List.getElem_cons_zero, List.setIfInBounds_toArray, List.set_cons_succ, List.set_cons_zero])
            refine wpTwo_skipT (i := 15) rfl (by kernel_rfl) (by kernel_rfl) (by kernel_rfl) (fun _ _ _ h => h) (by rfl) hF ?_
            (try simp only [Act.put, List.getElem_toArray, List.getElem_cons_succ, List.getElem_cons_zero, List.setIfInBounds_toArray, List.set_cons_succ, List.set_cons_zero])
            refine wpTwo_skipT (i := 16) rfl (by kernel_rfl) (by kernel_rfl) (by kernel_rfl) (fun _ _ _ h => h) (by rfl) hF ?_
            (try simp only [Act.put, List.getElem_toArray, List.getElem_cons_succ, List.getElem_cons_zero, List.setIfInBounds_toArray, List.set_cons_succ, List.set_cons_zero])
            refine wpTwo_skipT (i := 17) rfl (by kernel_rfl) (by kernel_rfl) (by kernel_rfl) (fun _ _ _ h => h) (by rfl) hF ?_
            (try simp only [Act.put, List.getElem_toArray, List.getElem_cons_succ, List.getElem_cons_zero, List.setIfInBounds_toArray, List.set_cons_succ, List.set_cons_zero])
            refine wpTwo_skipT (i := 18) rfl (by kernel_rfl) (by kernel_rfl) (by kernel_rfl) (fun _ _ _ h => h) (by rfl) hF ?_
            (try simp only [Act.put, List.getElem_toArray, List.getElem_cons_succ, List.getElem_cons_zero, List.setIfInBounds_toArray, List.set_cons_succ, List.set_cons_zero])
            refine wpTwo_skipT (i := 19) rfl (by kernel_rfl) (by kernel_rfl) (by kernel_rfl) (fun _ _ _ h => h) (by rfl) hF ?_
            (try simp only [Act.put, List.getElem_toArray, List.getElem_cons_succ, List.getElem_cons_zero, List.setIfInBounds_toArray, List.set_cons_succ, List.set_cons_zero])
            refine wpTwo_skipT (i := 20) rfl (by kernel_rfl) (by kernel_rfl) (by kernel_rfl) (fun _ _ _ h => h) (by rfl) hF ?_
            (try simp only [Act.put, List.getElem_toArray, List.getElem_cons_succ, List.getElem_cons_zero, List.setIfInBounds_toArray, List.set_cons_succ, List.set_cons_zero])
            refine wpTwo_takeT (i := 21) (v := .bool false) rfl (by kernel_rfl) (by kernel_rfl) (by kernel_rfl) (fun _ _ _ h => h) ⟨by rfl, ?_⟩ hF ?_
            · rintro w hTw
              go_simp
            (try simp only [Act.put, List.getElem_toArray, List.getElem_cons_succ, List.getElem_cons_zero, List.setIfInBounds_toArray, List.set_cons_succ, List.set_cons_zero])
            refine wpTwo_end (by kernel_rfl) ?_ _
            obtain ⟨p0, p1⟩ := (HFE.out _ hF).2.1.cells
            obtain ⟨q0, q1⟩ := (HFE.out _ hF).2.2.1.cells
            have hne := run_neq_blk (0) (0) (0) (0)
            rw [show (!decide (((0) : Int) = (0) ∧ ((0) : Int) = (0))) = false by simp] at hne
            have HBE := Lib.hid (HFE.out _ hF).2.2.2
            clear hF
            go_wp2
            go_roundw
            case rel => exact ⟨i + 1, by omega, by omega, by go_num, HBE⟩
            case measure => simp [intOf]; omega
          · obtain ⟨k, rfl, hk⟩ := isB_yes h1
            obtain ⟨hs1, hs2⟩ := sz_ok hk
            obtain ⟨s, hs⟩ : ∃ s, s = szN k := ⟨_, rfl⟩
            have HS := Lib.hid hs
            rw [← hs] at hs1 hs2
            obtain ⟨q, hq⟩ : ∃ q, q = 16 / szN k := ⟨_, rfl⟩
            have hq8 : q ≤ 8 ∧ q * s ≤ 16 := by
              obtain ⟨m1, m2, m3⟩ := many_small hk
              rw [hq, hs]
              omega
            have HQ := Lib.hid (show IntKind.i64.wrap ((16 : Int).tdiv (s : Int)) = (q : Int) by
              rw [hq, hs]
              have h9 : 16 / szN k ≤ 16 := Nat.div_le_self _ _
              show IntKind.i64.wrap ((16 / szN k : Nat) : Int) = ((16 / szN k : Nat) : Int)
              generalize 16 / szN k = g at h9 ⊢
              exact IntWalk.i64_in _ (by omega))
            have HPB := Lib.hid (show placeB (k : Int) y t = (decide (0 ≤ y ∧ 0 ≤ t ∧ t < (q : Int))) by unfold placeB; rw [h1, Bool.true_and, Int.toNat_natCast, hq])
            have hA := HA.out
            obtain rfl : A = (0, 0, 2) := by rw [hA]; unfold placeA; rw [HPB.out, if_neg (by simp; omega)]
            clear hA HA HPB hq hs
            go_wp2_with fail
            rw [← hw4, ← HY1.out]
            clear hw4 HY1
            refine wpTwo_begin (T := F) (S := fun _ => True) (late := fun _ => false) (by kernel_rfl) ?_
            obtain ⟨X0, hX0⟩ : ∃ X : World, X = w4.drew := ⟨_, rfl⟩
            rw [← hX0]
            have hF := HFB.out _ X0 hF (by rw [hX0]; exact (Below.refl _ _).drew)
            clear hX0
            refine wpTwo_takeT (i := 0) (v := .pointer (some ⟨z, 0, none⟩)) rfl (by kernel_rfl) (by kernel_rfl) (by kernel_rfl) (fun _ _ _ h => h) ⟨by rfl, ?_⟩ hF ?_
            · rintro w hTw
              go_simp
            (try simp only [Act.put, List.getElem_toArray, List.getElem_cons_zero, List.setIfInBounds_toArray, List.set_cons_succ, List.set_cons_zero])
            refine wpTwo_takeT (i := 1) (v := .int .i64 (k : Int)) rfl (by kernel_rfl) (by kernel_rfl) (by kernel_rfl) (fun _ _ _ h => h) ⟨by rfl, ?_⟩ hF ?_
            · rintro w hTw
              obtain ⟨t0, t1, t2⟩ := (HFE.out _ hTw).1.cells
              go_simp
            (try simp only [Act.put, List.getElem_toArray, List.getElem_cons_succ, List.getElem_cons_zero, List.setIfInBounds_toArray, List.set_cons_succ, List.set_cons_zero])
            refine wpTwo_ready (rs := [2]) (by kernel_rfl) (by simp) ?_
            refine (AllTwo.cons rfl (fun K hK => ?_) AllTwo.nil)
            go_simp
            refine (rIs_c k _).mono ?_
            rintro e Y1 ⟨rfl, rfl⟩
            rw [h1]
            go_wp2_with fail
            refine hK.out _ _ ⟨hF, fun _ _ => trivial⟩ ?_
            clear hK K
            (try simp only [Act.put, List.getElem_toArray, List.getElem_cons_succ, List.getElem_cons_zero, List.setIfInBounds_toArray, List.set_cons_succ, List.set_cons_zero])
            refine wpTwo_takeT (i := 3) (v := .bool true) rfl (by kernel_rfl) (by kernel_rfl) (by kernel_rfl) (fun _ _ _ h => h) ⟨by rfl, ?_⟩ hF ?_
            · rintro w hTw
              go_simp
            (try simp only [Act.put, List.getElem_toArray, List.getElem_cons_succ, List.getElem_cons_zero, List.setIfInBounds_toArray, List.set_cons_succ, List.set_cons_zero])
            refine wpTwo_takeT (i := 4) (v := .pointer (some ⟨z, 1, none⟩)) rfl (by kernel_rfl) (by kernel_rfl) (by kernel_rfl) (fun _ _ _ h => h) ⟨by rfl, ?_⟩ hF ?_
            · rintro w hTw
              go_simp
            (try simp only [Act.put, List.getElem_toArray, List.getElem_cons_succ, List.getElem_cons_zero, List.setIfInBounds_toArray, List.set_cons_succ, List.set_cons_zero])
            refine wpTwo_takeT (i := 5) (v := .int .i64 y) rfl (by kernel_rfl) (by kernel_rfl) (by kernel_rfl) (fun _ _ _ h => h) ⟨by rfl, ?_⟩ hF ?_
            · rintro w hTw
              obtain ⟨t0, t1, t2⟩ := (HFE.out _ hTw).1.cells
              go_simp
            (try simp only [Act.put, List.getElem_toArray, List.getElem_cons_succ, List.getElem_cons_zero, List.setIfInBounds_toArray, List.set_cons_succ, List.set_cons_zero])
            refine wpTwo_takeT (i := 6) (v := .bool false) rfl (by kernel_rfl) (by kernel_rfl) (by kernel_rfl) (fun _ _ _ h => h) ⟨by rfl, ?_⟩ hF ?_
            · rintro w hTw
              go_simp
            (try simp only [Act.put, List.getElem_toArray, List.getElem_cons_succ, List.getElem_cons_zero, List.setIfInBounds_toArray, List.set_cons_succ, List.set_cons_zero])
            refine wpTwo_takeT (i := 7) (v := .bool false) rfl (by kernel_rfl) (by kernel_rfl) (by kernel_rfl) (fun _ _ _ h => h) ⟨by rfl, ?_⟩ hF ?_
            · rintro w hTw
              go_simp
            (try simp only [Act.put, List.getElem_toArray, List.getElem_cons_succ, List.getElem_cons_zero, List.setIfInBounds_toArray, List.set_cons_succ, List.set_cons_zero])
            refine wpTwo_takeT (i := 8) (v := .bool false) rfl (by kernel_rfl) (by kernel_rfl) (by kernel_rfl) (fun _ _ _ h => h) ⟨by rfl, ?_⟩ hF ?_
            · rintro w hTw
              go_simp
            (try simp only [Act.put, List.getElem_toArray, List.getElem_cons_succ, List.getElem_cons_zero, List.setIfInBounds_toArray, List.set_cons_succ, List.set_cons_zero])
            refine wpTwo_skipT (i := 9) rfl (by kernel_rfl) (by kernel_rfl) (by kernel_rfl) (fun _ _ _ h => h) (by rfl) hF ?_
            (try simp only [Act.put, List.getElem_toArray, List.getElem_cons_succ, List.getElem_cons_zero, List.setIfInBounds_toArray, List.set_cons_succ, List.set_cons_zero])
            refine wpTwo_skipT (i := 10) rfl (by kernel_rfl) (by kernel_rfl) (by kernel_rfl) (fun _ _ _ h => h) (by rfl) hF ?_
            (try simp only [Act.put, List.getElem_toArray, List.getElem_cons_succ, List.getElem_cons_zero, List.setIfInBounds_toArray, List.set_cons_succ, List.set_cons_zero])
            refine wpTwo_skipT (i := 11) rfl (by kernel_rfl) (by kernel_rfl) (by kernel_rfl) (fun _ _ _ h => h) (by rfl) hF ?_
            (try simp only [Act.put, List.getElem_toArray, List.getElem_cons_succ, List.getElem_cons_zero, List.setIfInBounds_toArray, List.set_cons_succ, List.set_cons_zero])
            refine wpTwo_takeT (i := 12) (v := .bool false) rfl (by kernel_rfl) (by kernel_rfl) (by kernel_rfl) (fun _ _ _ h => h) ⟨by rfl, ?_⟩ hF ?_
            · rintro w hTw
              go_simp
            (try simp only [Act.put, List.getElem_toArray, List.getElem_cons_succ, List.getElem_cons_zero, List.setIfInBounds_toArray, List.set_cons_succ, List.set_cons_zero])
            refine wpTwo_takeT (i := 13) (v := .bool false) rfl (by kernel_rfl) (by kernel_rfl) (by kernel_rfl) (fun _ _ _ h => h) ⟨by rfl, ?_⟩ hF ?_
            · rintro w hTw
              go_simp
            (try simp only [Act.put, List.getElem_toArray, List.getElem_cons_succ, List.getElem_cons_zero, List.setIfInBounds_toArray, List.set_cons_succ, List.set_cons_zero])
            refine wpTwo_skipT (i := 14) rfl (by kernel_rfl) (by kernel_rfl) (by kernel_rfl) (fun _ _ _ h => h) (by rfl) hF ?_
            (try simp only [Act.put, List.getElem_toArray, List.getElem_cons_succ, List.getElem_cons_zero, List.setIfInBounds_toArray, List.set_cons_succ, List.set_cons_zero])
            refine wpTwo_skipT (i := 15) rfl (by kernel_rfl) (by kernel_rfl) (by kernel_rfl) (fun _ _ _ h => h) (by rfl) hF ?_
            (try simp only [Act.put, List.getElem_toArray, List.getElem_cons_succ, List.getElem_cons_zero, List.setIfInBounds_toArray, List.set_cons_succ, List.set_cons_zero])
            refine wpTwo_skipT (i := 16) rfl (by kernel_rfl) (by kernel_rfl) (by kernel_rfl) (fun _ _ _ h => h) (by rfl) hF ?_
            (try simp only [Act.put, List.getElem_toArray, List.getElem_cons_succ, List.getElem_cons_zero, List.setIfInBounds_toArray, List.set_cons_succ, List.set_cons_zero])
            refine wpTwo_skipT (i := 17) rfl (by kernel_rfl) (by kernel_rfl) (by kernel_rfl) (fun _ _ _ h => h) (by rfl) hF ?_
            (try simp only [Act.put, List.getElem_toArray, List.getElem_cons_succ, List.getElem_cons_zero, List.setIfInBounds_toArray, List.set_cons_succ, List.set_cons_zero])
            refine wpTwo_skipT (i := 18) rfl (by kernel_rfl) (by kernel_rfl) (by kernel_rfl) (fun _ _ _ h => h) (by rfl) hF ?_
            (try simp only [Act.put, List.getElem_toArray, List.getElem_cons_succ, List.getElem_cons_zero, List.setIfInBounds_toArray, List.set_cons_succ, List.set_cons_zero])
            refine wpTwo_skipT (i := 19) rfl (by kernel_rfl) (by kernel_rfl) (by kernel_rfl) (fun _ _ _ h => h) (by rfl) hF ?_
            (try simp only [Act.put, List.getElem_toArray, List.getElem_cons_succ, List.getElem_cons_zero, List.setIfInBounds_toArray, List.set_cons_succ, List.set_cons_zero])
            refine wpTwo_skipT (i := 20) rfl (by kernel_rfl) (by kernel_rfl) (by kernel_rfl) (fun _ _ _ h => h) (by rfl) hF ?_
            (try simp only [Act.put, List.getElem_toArray, List.getElem_cons_succ, List.getElem_cons_zero, List.setIfInBounds_toArray, List.set_cons_succ, List.set_cons_zero])
            refine wpTwo_takeT (i := 21) (v := .bool false) rfl (by kernel_rfl) (by kernel_rfl) (by kernel_rfl) (fun _ _ _ h => h) ⟨by rfl, ?_⟩ hF ?_
            · rintro w hTw
              go_simp
            (try simp only [Act.put, List.getElem_toArray, List.getElem_cons_succ, List.getElem_cons_zero, List.setIfInBounds_toArray, List.set_cons_succ, List.set_cons_zero])
            refine wpTwo_end (by kernel_rfl) ?_ _
            obtain ⟨p0, p1⟩ := (HFE.out _ hF).2.1.cells
            obtain ⟨q0, q1⟩ := (HFE.out _ hF).2.2.1.cells
            have hne := run_neq_blk (0) (0) (0) (0)
            rw [show (!decide (((0) : Int) = (0) ∧ ((0) : Int) = (0))) = false by simp] at hne
            have HBE := Lib.hid (HFE.out _ hF).2.2.2
            clear hF
            go_wp2
            go_roundw
            case rel => exact ⟨i + 1, by omega, by omega, by go_num, HBE⟩
            case measure => simp [intOf]; omega
          · obtain ⟨k, rfl, hk⟩ := isB_yes h1
            obtain ⟨hs1, hs2⟩ := sz_ok hk
            obtain ⟨s, hs⟩ : ∃ s, s = szN k := ⟨_, rfl⟩
            have HS := Lib.hid hs
            rw [← hs] at hs1 hs2
            obtain ⟨q, hq⟩ : ∃ q, q = 16 / szN k := ⟨_, rfl⟩
            have hq8 : q ≤ 8 ∧ q * s ≤ 16 := by
              obtain ⟨m1, m2, m3⟩ := many_small hk
              rw [hq, hs]
              omega
            have HQ := Lib.hid (show IntKind.i64.wrap ((16 : Int).tdiv (s : Int)) = (q : Int) by
              rw [hq, hs]
              have h9 : 16 / szN k ≤ 16 := Nat.div_le_self _ _
              show IntKind.i64.wrap ((16 / szN k : Nat) : Int) = ((16 / szN k : Nat) : Int)
              generalize 16 / szN k = g at h9 ⊢
              exact IntWalk.i64_in _ (by omega))
            have HPB := Lib.hid (show placeB (k : Int) y t = (decide (0 ≤ y ∧ 0 ≤ t ∧ t < (q : Int))) by unfold placeB; rw [h1, Bool.true_and, Int.toNat_natCast, hq])
            have hA := HA.out
            obtain rfl : A = (0, 0, 2) := by rw [hA]; unfold placeA; rw [HPB.out, if_neg (by simp; omega)]
            clear hA HA HPB hq hs
            go_wp2_with fail
            rw [← hw4, ← HY1.out]
            clear hw4 HY1
            refine wpTwo_begin (T := F) (S := fun _ => True) (late := fun _ => false) (by kernel_rfl) ?_
            obtain ⟨X0, hX0⟩ : ∃ X : World, X = w4.drew := ⟨_, rfl⟩
            rw [← hX0]
            have hF := HFB.out _ X0 hF (by rw [hX0]; exact (Below.refl _ _).drew)
            clear hX0
            refine wpTwo_takeT (i := 0) (v := .pointer (some ⟨z, 0, none⟩)) rfl (by kernel_rfl) (by kernel_rfl) (by kernel_rfl) (fun _ _ _ h => h) ⟨by rfl, ?_⟩ hF ?_
            · rintro w hTw
              go_simp
            (try simp only [Act.put, List.getElem_toArray, List.getElem_cons_zero, List.setIfInBounds_toArray, List.set_cons_succ, List.set_cons_zero])
            refine wpTwo_takeT (i := 1) (v := .int .i64 (k : Int)) rfl (by kernel_rfl) (by kernel_rfl) (by kernel_rfl) (fun _ _ _ h => h) ⟨by rfl, ?_⟩ hF ?_
            · rintro w hTw
              obtain ⟨t0, t1, t2⟩ := (HFE.out _ hTw).1.cells
              go_simp
            (try simp only [Act.put, List.getElem_toArray, List.getElem_cons_succ, List.getElem_cons_zero, List.setIfInBounds_toArray, List.set_cons_succ, List.set_cons_zero])
            refine wpTwo_ready (rs := [2]) (by kernel_rfl) (by simp) ?_
            refine (AllTwo.cons rfl (fun K hK => ?_) AllTwo.nil)
            go_simp
            refine (rIs_c k _).mono ?_
            rintro e Y1 ⟨rfl, rfl⟩
            rw [h1]
            go_wp2_with fail
            refine hK.out _ _ ⟨hF, fun _ _ => trivial⟩ ?_
            clear hK K
            (try simp only [Act.put, List.getElem_toArray, List.getElem_cons_succ, List.getElem_cons_zero, List.setIfInBounds_toArray, List.set_cons_succ, List.set_cons_zero])
            refine wpTwo_takeT (i := 3) (v := .bool true) rfl (by kernel_rfl) (by kernel_rfl) (by kernel_rfl) (fun _ _ _ h => h) ⟨by rfl, ?_⟩ hF ?_
            · rintro w hTw
              go_simp
            (try simp only [Act.put, List.getElem_toArray, List.getElem_cons_succ, List.getElem_cons_zero, List.setIfInBounds_toArray, List.set_cons_succ, List.set_cons_zero])
            refine wpTwo_takeT (i := 4) (v := .pointer (some ⟨z, 1, none⟩)) rfl (by kernel_rfl) (by kernel_rfl) (by kernel_rfl) (fun _ _ _ h => h) ⟨by rfl, ?_⟩ hF ?_
            · rintro w hTw
              go_simp
            (try simp only [Act.put, List.getElem_toArray, List.getElem_cons_succ, List.getElem_cons_zero, List.setIfInBounds_toArray, List.set_cons_succ, List.set_cons_zero])
            refine wpTwo_takeT (i := 5) (v := .int .i64 y) rfl (by kernel_rfl) (by kernel_rfl) (by kernel_rfl) (fun _ _ _ h => h) ⟨by rfl, ?_⟩ hF ?_
            · rintro w hTw
              obtain ⟨t0, t1, t2⟩ := (HFE.out _ hTw).1.cells
              go_simp
            (try simp only [Act.put, List.getElem_toArray, List.getElem_cons_succ, List.getElem_cons_zero, List.setIfInBounds_toArray, List.set_cons_succ, List.set_cons_zero])
            refine wpTwo_takeT (i := 6) (v := .bool true) rfl (by kernel_rfl) (by kernel_rfl) (by kernel_rfl) (fun _ _ _ h => h) ⟨by rfl, ?_⟩ hF ?_
            · rintro w hTw
              go_simp
            (try simp only [Act.put, List.getElem_toArray, List.getElem_cons_succ, List.getElem_cons_zero, List.setIfInBounds_toArray, List.set_cons_succ, List.set_cons_zero])
            refine wpTwo_takeT (i := 7) (v := .bool true) rfl (by kernel_rfl) (by kernel_rfl) (by kernel_rfl) (fun _ _ _ h => h) ⟨by rfl, ?_⟩ hF ?_
            · rintro w hTw
              go_simp
            (try simp only [Act.put, List.getElem_toArray, List.getElem_cons_succ, List.getElem_cons_zero, List.setIfInBounds_toArray, List.set_cons_succ, List.set_cons_zero])
            refine wpTwo_takeT (i := 8) (v := .bool true) rfl (by kernel_rfl) (by kernel_rfl) (by kernel_rfl) (fun _ _ _ h => h) ⟨by rfl, ?_⟩ hF ?_
            · rintro w hTw
              go_simp
            (try simp only [Act.put, List.getElem_toArray, List.getElem_cons_succ, List.getElem_cons_zero, List.setIfInBounds_toArray, List.set_cons_succ, List.set_cons_zero])
            refine wpTwo_takeT (i := 9) (v := .pointer (some ⟨z, 2, none⟩)) rfl (by kernel_rfl) (by kernel_rfl) (by kernel_rfl) (fun _ _ _ h => h) ⟨by rfl, ?_⟩ hF ?_
            · rintro w hTw
              go_simp
            (try simp only [Act.put, List.getElem_toArray, List.getElem_cons_succ, List.getElem_cons_zero, List.setIfInBounds_toArray, List.set_cons_succ, List.set_cons_zero])
            refine wpTwo_takeT (i := 10) (v := .int .i64 t) rfl (by kernel_rfl) (by kernel_rfl) (by kernel_rfl) (fun _ _ _ h => h) ⟨by rfl, ?_⟩ hF ?_
            · rintro w hTw
              obtain ⟨t0, t1, t2⟩ := (HFE.out _ hTw).1.cells
              go_simp
            (try simp only [Act.put, List.getElem_toArray, List.getElem_cons_succ, List.getElem_cons_zero, List.setIfInBounds_toArray, List.set_cons_succ, List.set_cons_zero])
            refine wpTwo_takeT (i := 11) (v := .bool false) rfl (by kernel_rfl) (by kernel_rfl) (by kernel_rfl) (fun _ _ _ h => h) ⟨by rfl, ?_⟩ hF ?_
            · rintro w hTw
              go_simp
            (try simp only [Act.put, List.getElem_toArray, List.getElem_cons_succ, List.getElem_cons_zero, List.setIfInBounds_toArray, List.set_cons_succ, List.set_cons_zero])
            refine wpTwo_takeT (i := 12) (v := .bool false) rfl (by kernel_rfl) (by kernel_rfl) (by kernel_rfl) (fun _ _ _ h => h) ⟨by rfl, ?_⟩ hF ?_
            · rintro w hTw
              go_simp
            (try simp only [Act.put, List.getElem_toArray, List.getElem_cons_succ, List.getElem_cons_zero, List.setIfInBounds_toArray, List.set_cons_succ, List.set_cons_zero])
            refine wpTwo_takeT (i := 13) (v := .bool false) rfl (by kernel_rfl) (by kernel_rfl) (by kernel_rfl) (fun _ _ _ h => h) ⟨by rfl, ?_⟩ hF ?_
            · rintro w hTw
              go_simp
            (try simp only [Act.put, List.getElem_toArray, List.getElem_cons_succ, List.getElem_cons_zero, List.setIfInBounds_toArray, List.set_cons_succ, List.set_cons_zero])
            refine wpTwo_skipT (i := 14) rfl (by kernel_rfl) (by kernel_rfl) (by kernel_rfl) (fun _ _ _ h => h) (by rfl) hF ?_
            (try simp only [Act.put, List.getElem_toArray, List.getElem_cons_succ, List.getElem_cons_zero, List.setIfInBounds_toArray, List.set_cons_succ, List.set_cons_zero])
            refine wpTwo_skipT (i := 15) rfl (by kernel_rfl) (by kernel_rfl) (by kernel_rfl) (fun _ _ _ h => h) (by rfl) hF ?_
            (try simp only [Act.put, List.getElem_toArray, List.getElem_cons_succ, List.getElem_cons_zero, List.setIfInBounds_toArray, List.set_cons_succ, List.set_cons_zero])
            refine wpTwo_skipT (i := 16) rfl (by kernel_rfl) (by kernel_rfl) (by kernel_rfl) (fun _ _ _ h => h) (by rfl) hF ?_
            (try simp only [Act.put, List.getElem_toArray, List.getElem_cons_succ, List.getElem_cons_zero, List.setIfInBounds_toArray, List.set_cons_succ, List.set_cons_zero])
            refine wpTwo_skipT (i := 17) rfl (by kernel_rfl) (by kernel_rfl) (by kernel_rfl) (fun _ _ _ h => h) (by rfl) hF ?_
            (try simp only [Act.put, List.getElem_toArray, List.getElem_cons_succ, List.getElem_cons_zero, List.setIfInBounds_toArray, List.set_cons_succ, List.set_cons_zero])
            refine wpTwo_skipT (i := 18) rfl (by kernel_rfl) (by kernel_rfl) (by kernel_rfl) (fun _ _ _ h => h) (by rfl) hF ?_
            (try simp only [Act.put, List.getElem_toArray, List.getElem_cons_succ, List.getElem_cons_zero, List.setIfInBounds_toArray, List.set_cons_succ, List.set_cons_zero])
            refine wpTwo_skipT (i := 19) rfl (by kernel_rfl) (by kernel_rfl) (by kernel_rfl) (fun _ _ _ h => h) (by rfl) hF ?_
            (try simp only [Act.put, List.getElem_toArray, List.getElem_cons_succ, List.getElem_cons_zero, List.setIfInBounds_toArray, List.set_cons_succ, List.set_cons_zero])
            refine wpTwo_skipT (i := 20) rfl (by kernel_rfl) (by kernel_rfl) (by kernel_rfl) (fun _ _ _ h => h) (by rfl) hF ?_
            (try simp only [Act.put, List.getElem_toArray, List.getElem_cons_succ, List.getElem_cons_zero, List.setIfInBounds_toArray, List.set_cons_succ, List.set_cons_zero])
            refine wpTwo_takeT (i := 21) (v := .bool false) rfl (by kernel_rfl) (by kernel_rfl) (by kernel_rfl) (fun _ _ _ h => h) ⟨by rfl, ?_⟩ hF ?_
            · rintro w hTw
              go_simp
            (try simp only [Act.put, List.getElem_toArray, List.getElem_cons_succ, List.getElem_cons_zero, List.setIfInBounds_toArray, List.set_cons_succ, List.set_cons_zero])
            refine wpTwo_end (by kernel_rfl) ?_ _
            obtain ⟨p0, p1⟩ := (HFE.out _ hF).2.1.cells
            obtain ⟨q0, q1⟩ := (HFE.out _ hF).2.2.1.cells
            have hne := run_neq_blk (0) (0) (0) (0)
            rw [show (!decide (((0) : Int) = (0) ∧ ((0) : Int) = (0))) = false by simp] at hne
            have HBE := Lib.hid (HFE.out _ hF).2.2.2
            clear hF
            go_wp2
            go_roundw
            case rel => exact ⟨i + 1, by omega, by omega, by go_num, HBE⟩
            case measure => simp [intOf]; omega
          · obtain ⟨k, rfl, hk⟩ := isB_yes h1
            obtain ⟨hs1, hs2⟩ := sz_ok hk
            obtain ⟨s, hs⟩ : ∃ s, s = szN k := ⟨_, rfl⟩
            have HS := Lib.hid hs
            rw [← hs] at hs1 hs2
            obtain ⟨q, hq⟩ : ∃ q, q = 16 / szN k := ⟨_, rfl⟩
            have hq8 : q ≤ 8 ∧ q * s ≤ 16 := by
              obtain ⟨m1, m2, m3⟩ := many_small hk
              rw [hq, hs]
              omega
            have HQ := Lib.hid (show IntKind.i64.wrap ((16 : Int).tdiv (s : Int)) = (q : Int) by
              rw [hq, hs]
              have h9 : 16 / szN k ≤ 16 := Nat.div_le_self _ _
              show IntKind.i64.wrap ((16 / szN k : Nat) : Int) = ((16 / szN k : Nat) : Int)
              generalize 16 / szN k = g at h9 ⊢
              exact IntWalk.i64_in _ (by omega))
            have HPB := Lib.hid (show placeB (k : Int) y t = (decide (0 ≤ y ∧ 0 ≤ t ∧ t < (q : Int))) by unfold placeB; rw [h1, Bool.true_and, Int.toNat_natCast, hq])
            rw [Int.toNat_natCast, ← hq] at h4
            have hA := HA.out
            obtain rfl : A = (0, 0, 2) := by rw [hA]; unfold placeA; rw [HPB.out, if_neg (by simp; omega)]
            clear hA HA HPB hq hs
            go_wp2_with fail
            rw [← hw4, ← HY1.out]
            clear hw4 HY1
            refine wpTwo_begin (T := F) (S := fun _ => True) (late := fun _ => false) (by kernel_rfl) ?_
            obtain ⟨X0, hX0⟩ : ∃ X : World, X = w4.drew := ⟨_, rfl⟩
            rw [← hX0]
            have hF := HFB.out _ X0 hF (by rw [hX0]; exact (Below.refl _ _).drew)
            clear hX0
            refine wpTwo_takeT (i := 0) (v := .pointer (some ⟨z, 0, none⟩)) rfl (by kernel_rfl) (by kernel_rfl) (by kernel_rfl) (fun _ _ _ h => h) ⟨by rfl, ?_⟩ hF ?_
            · rintro w hTw
              go_simp
            (try simp only [Act.put, List.getElem_toArray, List.getElem_cons_zero, List.setIfInBounds_toArray, List.set_cons_succ, List.set_cons_zero])
            refine wpTwo_takeT (i := 1) (v := .int .i64 (k : Int)) rfl (by kernel_rfl) (by kernel_rfl) (by kernel_rfl) (fun _ _ _ h => h) ⟨by rfl, ?_⟩ hF ?_
            · rintro w hTw
              obtain ⟨t0, t1, t2⟩ := (HFE.out _ hTw).1.cells
              go_simp
            (try simp only [Act.put, List.getElem_toArray, List.getElem_cons_succ, List.getElem_cons_zero, List.setIfInBounds_toArray, List.set_cons_succ, List.set_cons_zero])
            refine wpTwo_ready (rs := [2]) (by kernel_rfl) (by simp) ?_
            refine (AllTwo.cons rfl (fun K hK => ?_) AllTwo.nil)
            go_simp
            refine (rIs_c k _).mono ?_
            rintro e Y1 ⟨rfl, rfl⟩
            rw [h1]
            go_wp2_with fail
            refine hK.out _ _ ⟨hF, fun _ _ => trivial⟩ ?_
            clear hK K
            (try simp only [Act.put, List.getElem_toArray, List.getElem_cons_succ, List.getElem_cons_zero, List.setIfInBounds_toArray, List.set_cons_succ, List.set_cons_zero])
            refine wpTwo_takeT (i := 3) (v := .bool true) rfl (by kernel_rfl) (by kernel_rfl) (by kernel_rfl) (fun _ _ _ h => h) ⟨by rfl, ?_⟩ hF ?_
            · rintro w hTw
              go_simp
            (try simp only [Act.put, List.getElem_toArray, List.getElem_cons_succ, List.getElem_cons_zero, List.setIfInBounds_toArray, List.set_cons_succ, List.set_cons_zero])
            refine wpTwo_takeT (i := 4) (v := .pointer (some ⟨z, 1, none⟩)) rfl (by kernel_rfl) (by kernel_rfl) (by kernel_rfl) (fun _ _ _ h => h) ⟨by rfl, ?_⟩ hF ?_
            · rintro w hTw
              go_simp
            (try simp only [Act.put, List.getElem_toArray, List.getElem_cons_succ, List.getElem_cons_zero, List.setIfInBounds_toArray, List.set_cons_succ, List.set_cons_zero])
            refine wpTwo_takeT (i := 5) (v := .int .i64 y) rfl (by kernel_rfl) (by kernel_rfl) (by kernel_rfl) (fun _ _ _ h => h) ⟨by rfl, ?_⟩ hF ?_
            · rintro w hTw
              obtain ⟨t0, t1, t2⟩ := (HFE.out _ hTw).1.cells
              go_simp
            (try simp only [Act.put, List.getElem_toArray, List.getElem_cons_succ, List.getElem_cons_zero, List.setIfInBounds_toArray, List.set_cons_succ, List.set_cons_zero])
            refine wpTwo_takeT (i := 6) (v := .bool true) rfl (by kernel_rfl) (by kernel_rfl) (by kernel_rfl) (fun _ _ _ h => h) ⟨by rfl, ?_⟩ hF ?_
            · rintro w hTw
              go_simp
            (try simp only [Act.put, List.getElem_toArray, List.getElem_cons_succ, List.getElem_cons_zero, List.setIfInBounds_toArray, List.set_cons_succ, List.set_cons_zero])
            refine wpTwo_takeT (i := 7) (v := .bool true) rfl (by kernel_rfl) (by kernel_rfl) (by kernel_rfl) (fun _ _ _ h => h) ⟨by rfl, ?_⟩ hF ?_
            · rintro w hTw
              go_simp
            (try simp only [Act.put, List.getElem_toArray, List.getElem_cons_succ, List.getElem_cons_zero, List.setIfInBounds_toArray, List.set_cons_succ, List.set_cons_zero])
            refine wpTwo_takeT (i := 8) (v := .bool true) rfl (by kernel_rfl) (by kernel_rfl) (by kernel_rfl) (fun _ _ _ h => h) ⟨by rfl, ?_⟩ hF ?_
            · rintro w hTw
              go_simp
            (try simp only [Act.put, List.getElem_toArray, List.getElem_cons_succ, List.getElem_cons_zero, List.setIfInBounds_toArray, List.set_cons_succ, List.set_cons_zero])
            refine wpTwo_takeT (i := 9) (v := .pointer (some ⟨z, 2, none⟩)) rfl (by kernel_rfl) (by kernel_rfl) (by kernel_rfl) (fun _ _ _ h => h) ⟨by rfl, ?_⟩ hF ?_
            · rintro w hTw
              go_simp
            (try simp only [Act.put, List.getElem_toArray, List.getElem_cons_succ, List.getElem_cons_zero, List.setIfInBounds_toArray, List.set_cons_succ, List.set_cons_zero])
            refine wpTwo_takeT (i := 10) (v := .int .i64 t) rfl (by kernel_rfl) (by kernel_rfl) (by kernel_rfl) (fun _ _ _ h => h) ⟨by rfl, ?_⟩ hF ?_
            · rintro w hTw
              obtain ⟨t0, t1, t2⟩ := (HFE.out _ hTw).1.cells
              go_simp
            (try simp only [Act.put, List.getElem_toArray, List.getElem_cons_succ, List.getElem_cons_zero, List.setIfInBounds_toArray, List.set_cons_succ, List.set_cons_zero])
            refine wpTwo_takeT (i := 11) (v := .bool true) rfl (by kernel_rfl) (by kernel_rfl) (by kernel_rfl) (fun _ _ _ h => h) ⟨by rfl, ?_⟩ hF ?_
            · rintro w hTw
              go_simp
            (try simp only [Act.put, List.getElem_toArray, List.getElem_cons_succ, List.getElem_cons_zero, List.setIfInBounds_toArray, List.set_cons_succ, List.set_cons_zero])
            refine wpTwo_takeT (i := 12) (v := .bool true) rfl (by kernel_rfl) (by kernel_rfl) (by kernel_rfl) (fun _ _ _ h => h) ⟨by rfl, ?_⟩ hF ?_
            · rintro w hTw
              go_simp
            (try simp only [Act.put, List.getElem_toArray, List.getElem_cons_succ, List.getElem_cons_zero, List.setIfInBounds_toArray, List.set_cons_succ, List.set_cons_zero])
            refine wpTwo_takeT (i := 13) (v := .bool true) rfl (by kernel_rfl) (by kernel_rfl) (by kernel_rfl) (fun _ _ _ h => h) ⟨by rfl, ?_⟩ hF ?_
            · rintro w hTw
              go_simp
            (try simp only [Act.put, List.getElem_toArray, List.getElem_cons_succ, List.getElem_cons_zero, List.setIfInBounds_toArray, List.set_cons_succ, List.set_cons_zero])
            refine wpTwo_takeT (i := 14) (v := .pointer (some ⟨z, 2, none⟩)) rfl (by kernel_rfl) (by kernel_rfl) (by kernel_rfl) (fun _ _ _ h => h) ⟨by rfl, ?_⟩ hF ?_
            · rintro w hTw
              go_simp
            (try simp only [Act.put, List.getElem_toArray, List.getElem_cons_succ, List.getElem_cons_zero, List.setIfInBounds_toArray, List.set_cons_succ, List.set_cons_zero])
            refine wpTwo_takeT (i := 15) (v := .int .i64 t) rfl (by kernel_rfl) (by kernel_rfl) (by kernel_rfl) (fun _ _ _ h => h) ⟨by rfl, ?_⟩ hF ?_
            · rintro w hTw
              obtain ⟨t0, t1, t2⟩ := (HFE.out _ hTw).1.cells
              go_simp
            (try simp only [Act.put, List.getElem_toArray, List.getElem_cons_succ, List.getElem_cons_zero, List.setIfInBounds_toArray, List.set_cons_succ, List.set_cons_zero])
            refine wpTwo_takeT (i := 16) (v := .pointer (some ⟨z, 0, none⟩)) rfl (by kernel_rfl) (by kernel_rfl) (by kernel_rfl) (fun _ _ _ h => h) ⟨by rfl, ?_⟩ hF ?_
            · rintro w hTw
              go_simp
            (try simp only [Act.put, List.getElem_toArray, List.getElem_cons_succ, List.getElem_cons_zero, List.setIfInBounds_toArray, List.set_cons_succ, List.set_cons_zero])
            refine wpTwo_takeT (i := 17) (v := .int .i64 (k : Int)) rfl (by kernel_rfl) (by kernel_rfl) (by kernel_rfl) (fun _ _ _ h => h) ⟨by rfl, ?_⟩ hF ?_
            · rintro w hTw
              obtain ⟨t0, t1, t2⟩ := (HFE.out _ hTw).1.cells
              go_simp
            (try simp only [Act.put, List.getElem_toArray, List.getElem_cons_succ, List.getElem_cons_zero, List.setIfInBounds_toArray, List.set_cons_succ, List.set_cons_zero])
            refine wpTwo_ready (rs := [18]) (by kernel_rfl) (by simp) ?_
            refine (AllTwo.cons rfl (fun K hK => ?_) AllTwo.nil)
            go_simp
            refine (rWords_c k hk _).mono ?_
            rintro e Y18 ⟨rfl, rfl⟩
            rw [← HS.out]
            go_wp2_with fail
            refine hK.out _ _ ⟨hF, fun _ _ => trivial⟩ ?_
            clear hK K
            (try simp only [Act.put, List.getElem_toArray, List.getElem_cons_succ, List.getElem_cons_zero, List.setIfInBounds_toArray, List.set_cons_succ, List.set_cons_zero])
            refine wpTwo_takeT (i := 19) (v := .int .i64 (q : Int)) rfl (by kernel_rfl) (by kernel_rfl) (by kernel_rfl) (fun _ _ _ h => h) ⟨by rfl, ?_⟩ hF ?_
            · rintro w hTw
              go_simp
              rw [if_neg (show ¬ s = 0 by omega), HQ.out]
            (try simp only [Act.put, List.getElem_toArray, List.getElem_cons_succ, List.getElem_cons_zero, List.setIfInBounds_toArray, List.set_cons_succ, List.set_cons_zero])
            refine wpTwo_takeT (i := 20) (v := .bool false) rfl (by kernel_rfl) (by kernel_rfl) (by kernel_rfl) (fun _ _ _ h => h) ⟨by rfl, ?_⟩ hF ?_
            · rintro w hTw
              go_simp
            (try simp only [Act.put, List.getElem_toArray, List.getElem_cons_succ, List.getElem_cons_zero, List.setIfInBounds_toArray, List.set_cons_succ, List.set_cons_zero])
            refine wpTwo_takeT (i := 21) (v := .bool false) rfl (by kernel_rfl) (by kernel_rfl) (by kernel_rfl) (fun _ _ _ h => h) ⟨by rfl, ?_⟩ hF ?_
            · rintro w hTw
              go_simp
            (try simp only [Act.put, List.getElem_toArray, List.getElem_cons_succ, List.getElem_cons_zero, List.setIfInBounds_toArray, List.set_cons_succ, List.set_cons_zero])
            refine wpTwo_end (by kernel_rfl) ?_ _
            obtain ⟨p0, p1⟩ := (HFE.out _ hF).2.1.cells
            obtain ⟨q0, q1⟩ := (HFE.out _ hF).2.2.1.cells
            have hne := run_neq_blk (0) (0) (0) (0)
            rw [show (!decide (((0) : Int) = (0) ∧ ((0) : Int) = (0))) = false by simp] at hne
            have HBE := Lib.hid (HFE.out _ hF).2.2.2
            clear hF
            go_wp2
            go_roundw
            case rel => exact ⟨i + 1, by omega, by omega, by go_num, HBE⟩
            case measure => simp [intOf]; omega
          · obtain ⟨k, rfl, hk⟩ := isB_yes h1
            obtain ⟨hs1, hs2⟩ := sz_ok hk
            obtain ⟨s, hs⟩ : ∃ s, s = szN k := ⟨_, rfl⟩
            have HS := Lib.hid hs
            rw [← hs] at hs1 hs2
            obtain ⟨q, hq⟩ : ∃ q, q = 16 / szN k := ⟨_, rfl⟩
            have hq8 : q ≤ 8 ∧ q * s ≤ 16 := by
              obtain ⟨m1, m2, m3⟩ := many_small hk
              rw [hq, hs]
              omega
            have HQ := Lib.hid (show IntKind.i64.wrap ((16 : Int).tdiv (s : Int)) = (q : Int) by
              rw [hq, hs]
              have h9 : 16 / szN k ≤ 16 := Nat.div_le_self _ _
              show IntKind.i64.wrap ((16 / szN k : Nat) : Int) = ((16 / szN k : Nat) : Int)
              generalize 16 / szN k = g at h9 ⊢
              exact IntWalk.i64_in _ (by omega))
            have HPB := Lib.hid (show placeB (k : Int) y t = (decide (0 ≤ y ∧ 0 ≤ t ∧ t < (q : Int))) by unfold placeB; rw [h1, Bool.true_and, Int.toNat_natCast, hq])
            rw [Int.toNat_natCast, ← hq] at h4
            have hA := HA.out
            obtain rfl : A = (0, 0, 3) := by rw [hA]; unfold placeA; rw [HPB.out, if_pos (by simp; omega), if_neg (by omega)]
            clear hA HA HPB hq hs
            go_wp2_with fail
            rw [← hw4, ← HY1.out]
            clear hw4 HY1
            refine wpTwo_begin (T := F) (S := fun _ => True) (late := fun _ => false) (by kernel_rfl) ?_
            obtain ⟨X0, hX0⟩ : ∃ X : World, X = w4.drew := ⟨_, rfl⟩
            rw [← hX0]
            have hF := HFB.out _ X0 hF (by rw [hX0]; exact (Below.refl _ _).drew)
            clear hX0
            refine wpTwo_takeT (i := 0) (v := .pointer (some ⟨z, 0, none⟩)) rfl (by kernel_rfl) (by kernel_rfl) (by kernel_rfl) (fun _ _ _ h => h) ⟨by rfl, ?_⟩ hF ?_
            · rintro w hTw
              go_simp
            (try simp only [Act.put, List.getElem_toArray, List.getElem_cons_zero, List.setIfInBounds_toArray, List.set_cons_succ, List.set_cons_zero])
            refine wpTwo_takeT (i := 1) (v := .int .i64 (k : Int)) rfl (by kernel_rfl) (by kernel_rfl) (by kernel_rfl) (fun _ _ _ h => h) ⟨by rfl, ?_⟩ hF ?_
            · rintro w hTw
              obtain ⟨t0, t1, t2⟩ := (HFE.out _ hTw).1.cells
              go_simp
            (try simp only [Act.put, List.getElem_toArray, List.getElem_cons_succ, List.getElem_cons_zero, List.setIfInBounds_toArray, List.set_cons_succ, List.set_cons_zero])
            refine wpTwo_ready (rs := [2]) (by kernel_rfl) (by simp) ?_
            refine (AllTwo.cons rfl (fun K hK => ?_) AllTwo.nil)
            go_simp
            refine (rIs_c k _).mono ?_
            rintro e Y1 ⟨rfl, rfl⟩
            rw [h1]
            go_wp2_with fail
            refine hK.out _ _ ⟨hF, fun _ _ => trivial⟩ ?_
            clear hK K
            (try simp only [Act.put, List.getElem_toArray, List.getElem_cons_succ, List.getElem_cons_zero, List.setIfInBounds_toArray, List.set_cons_succ, List.set_cons_zero])
            refine wpTwo_takeT (i := 3) (v := .bool true) rfl (by kernel_rfl) (by kernel_rfl) (by kernel_rfl) (fun _ _ _ h => h) ⟨by rfl, ?_⟩ hF ?_
            · rintro w hTw
              go_simp
            (try simp only [Act.put, List.getElem_toArray, List.getElem_cons_succ, List.getElem_cons_zero, List.setIfInBounds_toArray, List.set_cons_succ, List.set_cons_zero])
            refine wpTwo_takeT (i := 4) (v := .pointer (some ⟨z, 1, none⟩)) rfl (by kernel_rfl) (by kernel_rfl) (by kernel_rfl) (fun _ _ _ h => h) ⟨by rfl, ?_⟩ hF ?_
            · rintro w hTw
              go_simp
            (try simp only [Act.put, List.getElem_toArray, List.getElem_cons_succ, List.getElem_cons_zero, List.setIfInBounds_toArray, List.set_cons_succ, List.set_cons_zero])
            refine wpTwo_takeT (i := 5) (v := .int .i64 y) rfl (by kernel_rfl) (by kernel_rfl) (by kernel_rfl) (fun _ _ _ h => h) ⟨by rfl, ?_⟩ hF ?_
            · rintro w hTw
              obtain ⟨t0, t1, t2⟩ := (HFE.out _ hTw).1.cells
              go_simp
            (try simp only [Act.put, List.getElem_toArray, List.getElem_cons_succ, List.getElem_cons_zero, List.setIfInBounds_toArray, List.set_cons_succ, List.set_cons_zero])
            refine wpTwo_takeT (i := 6) (v := .bool true) rfl (by kernel_rfl) (by kernel_rfl) (by kernel_rfl) (fun _ _ _ h => h) ⟨by rfl, ?_⟩ hF ?_
            · rintro w hTw
              go_simp
            (try simp only [Act.put, List.getElem_toArray, List.getElem_cons_succ, List.getElem_cons_zero, List.setIfInBounds_toArray, List.set_cons_succ, List.set_cons_zero])
            refine wpTwo_takeT (i := 7) (v := .bool true) rfl (by kernel_rfl) (by kernel_rfl) (by kernel_rfl) (fun _ _ _ h => h) ⟨by rfl, ?_⟩ hF ?_
            · rintro w hTw
              go_simp
            (try simp only [Act.put, List.getElem_toArray, List.getElem_cons_succ, List.getElem_cons_zero, List.setIfInBounds_toArray, List.set_cons_succ, List.set_cons_zero])
            refine wpTwo_takeT (i := 8) (v := .bool true) rfl (by kernel_rfl) (by kernel_rfl) (by kernel_rfl) (fun _ _ _ h => h) ⟨by rfl, ?_⟩ hF ?_
            · rintro w hTw
              go_simp
            (try simp only [Act.put, List.getElem_toArray, List.getElem_cons_succ, List.getElem_cons_zero, List.setIfInBounds_toArray, List.set_cons_succ, List.set_cons_zero])
            refine wpTwo_takeT (i := 9) (v := .pointer (some ⟨z, 2, none⟩)) rfl (by kernel_rfl) (by kernel_rfl) (by kernel_rfl) (fun _ _ _ h => h) ⟨by rfl, ?_⟩ hF ?_
            · rintro w hTw
              go_simp
            (try simp only [Act.put, List.getElem_toArray, List.getElem_cons_succ, List.getElem_cons_zero, List.setIfInBounds_toArray, List.set_cons_succ, List.set_cons_zero])
            refine wpTwo_takeT (i := 10) (v := .int .i64 t) rfl (by kernel_rfl) (by kernel_rfl) (by kernel_rfl) (fun _ _ _ h => h) ⟨by rfl, ?_⟩ hF ?_
            · rintro w hTw
              obtain ⟨t0, t1, t2⟩ := (HFE.out _ hTw).1.cells
              go_simp
            (try simp only [Act.put, List.getElem_toArray, List.getElem_cons_succ, List.getElem_cons_zero, List.setIfInBounds_toArray, List.set_cons_succ, List.set_cons_zero])
            refine wpTwo_takeT (i := 11) (v := .bool true) rfl (by kernel_rfl) (by kernel_rfl) (by kernel_rfl) (fun _ _ _ h => h) ⟨by rfl, ?_⟩ hF ?_
            · rintro w hTw
              go_simp
            (try simp only [Act.put, List.getElem_toArray, List.getElem_cons_succ, List.getElem_cons_zero, List.setIfInBounds_toArray, List.set_cons_succ, List.set_cons_zero])
            refine wpTwo_takeT (i := 12) (v := .bool true) rfl (by kernel_rfl) (by kernel_rfl) (by kernel_rfl) (fun _ _ _ h => h) ⟨by rfl, ?_⟩ hF ?_
            · rintro w hTw
              go_simp
            (try simp only [Act.put, List.getElem_toArray, List.getElem_cons_succ, List.getElem_cons_zero, List.setIfInBounds_toArray, List.set_cons_succ, List.set_cons_zero])
            refine wpTwo_takeT (i := 13) (v := .bool true) rfl (by kernel_rfl) (by kernel_rfl) (by kernel_rfl) (fun _ _ _ h => h) ⟨by rfl, ?_⟩ hF ?_
            · rintro w hTw
              go_simp
            (try simp only [Act.put, List.getElem_toArray, List.getElem_cons_succ, List.getElem_cons_zero, List.setIfInBounds_toArray, List.set_cons_succ, List.set_cons_zero])
            refine wpTwo_takeT (i := 14) (v := .pointer (some ⟨z, 2, none⟩)) rfl (by kernel_rfl) (by kernel_rfl) (by kernel_rfl) (fun _ _ _ h => h) ⟨by rfl, ?_⟩ hF ?_
            · rintro w hTw
              go_simp
            (try simp only [Act.put, List.getElem_toArray, List.getElem_cons_succ, List.getElem_cons_zero, List.setIfInBounds_toArray, List.set_cons_succ, List.set_cons_zero])
            refine wpTwo_takeT (i := 15) (v := .int .i64 t) rfl (by kernel_rfl) (by kernel_rfl) (by kernel_rfl) (fun _ _ _ h => h) ⟨by rfl, ?_⟩ hF ?_
            · rintro w hTw
              obtain ⟨t0, t1, t2⟩ := (HFE.out _ hTw).1.cells
              go_simp
            (try simp only [Act.put, List.getElem_toArray, List.getElem_cons_succ, List.getElem_cons_zero, List.setIfInBounds_toArray, List.set_cons_succ, List.set_cons_zero])
            refine wpTwo_takeT (i := 16) (v := .pointer (some ⟨z, 0, none⟩)) rfl (by kernel_rfl) (by kernel_rfl) (by kernel_rfl) (fun _ _ _ h => h) ⟨by rfl, ?_⟩ hF ?_
            · rintro w hTw
              go_simp
            (try simp only [Act.put, List.getElem_toArray, List.getElem_cons_succ, List.getElem_cons_zero, List.setIfInBounds_toArray, List.set_cons_succ, List.set_cons_zero])
            refine wpTwo_takeT (i := 17) (v := .int .i64 (k : Int)) rfl (by kernel_rfl) (by kernel_rfl) (by kernel_rfl) (fun _ _ _ h => h) ⟨by rfl, ?_⟩ hF ?_
            · rintro w hTw
              obtain ⟨t0, t1, t2⟩ := (HFE.out _ hTw).1.cells
              go_simp
            (try simp only [Act.put, List.getElem_toArray, List.getElem_cons_succ, List.getElem_cons_zero, List.setIfInBounds_toArray, List.set_cons_succ, List.set_cons_zero])
            refine wpTwo_ready (rs := [18]) (by kernel_rfl) (by simp) ?_
            refine (AllTwo.cons rfl (fun K hK => ?_) AllTwo.nil)
            go_simp
            refine (rWords_c k hk _).mono ?_
            rintro e Y18 ⟨rfl, rfl⟩
            rw [← HS.out]
            go_wp2_with fail
            refine hK.out _ _ ⟨hF, fun _ _ => trivial⟩ ?_
            clear hK K
            (try simp only [Act.put, List.getElem_toArray, List.getElem_cons_succ, List.getElem_cons_zero, List.setIfInBounds_toArray, List.set_cons_succ, List.set_cons_zero])
            refine wpTwo_takeT (i := 19) (v := .int .i64 (q : Int)) rfl (by kernel_rfl) (by kernel_rfl) (by kernel_rfl) (fun _ _ _ h => h) ⟨by rfl, ?_⟩ hF ?_
            · rintro w hTw
              go_simp
              rw [if_neg (show ¬ s = 0 by omega), HQ.out]
            (try simp only [Act.put, List.getElem_toArray, List.getElem_cons_succ, List.getElem_cons_zero, List.setIfInBounds_toArray, List.set_cons_succ, List.set_cons_zero])
            refine wpTwo_takeT (i := 20) (v := .bool true) rfl (by kernel_rfl) (by kernel_rfl) (by kernel_rfl) (fun _ _ _ h => h) ⟨by rfl, ?_⟩ hF ?_
            · rintro w hTw
              go_simp
            (try simp only [Act.put, List.getElem_toArray, List.getElem_cons_succ, List.getElem_cons_zero, List.setIfInBounds_toArray, List.set_cons_succ, List.set_cons_zero])
            refine wpTwo_takeT (i := 21) (v := .bool true) rfl (by kernel_rfl) (by kernel_rfl) (by kernel_rfl) (fun _ _ _ h => h) ⟨by rfl, ?_⟩ hF ?_
            · rintro w hTw
              go_simp
            (try simp only [Act.put, List.getElem_toArray, List.getElem_cons_succ, List.getElem_cons_zero, List.setIfInBounds_toArray, List.set_cons_succ, List.set_cons_zero])
            refine wpTwo_end (by kernel_rfl) ?_ _
            obtain ⟨g0, g1, g2⟩ := (HFE.out _ hF).1.cells
            obtain ⟨p0, p1⟩ := (HFE.out _ hF).2.1.cells
            obtain ⟨q0, q1⟩ := (HFE.out _ hF).2.2.1.cells
            have hne := run_neq_blk (0) (0) (0) (0)
            rw [show (!decide (((0) : Int) = (0) ∧ ((0) : Int) = (0))) = false by simp] at hne
            have HBE := Lib.hid (HFE.out _ hF).2.2.2
            clear hF
            go_wp2
            go_roundw
            case rel => exact ⟨i + 1, by omega, by omega, by go_num, HBE⟩
            case measure => simp [intOf]; omega
          · obtain ⟨k, rfl, hk⟩ := isB_yes h1
            obtain ⟨hs1, hs2⟩ := sz_ok hk
            obtain ⟨s, hs⟩ : ∃ s, s = szN k := ⟨_, rfl⟩
            have HS := Lib.hid hs
            rw [← hs] at hs1 hs2
            obtain ⟨q, hq⟩ : ∃ q, q = 16 / szN k := ⟨_, rfl⟩
            have hq8 : q ≤ 8 ∧ q * s ≤ 16 := by
              obtain ⟨m1, m2, m3⟩ := many_small hk
              rw [hq, hs]
              omega
            have HQ := Lib.hid (show IntKind.i64.wrap ((16 : Int).tdiv (s : Int)) = (q : Int) by
              rw [hq, hs]
              have h9 : 16 / szN k ≤ 16 := Nat.div_le_self _ _
              show IntKind.i64.wrap ((16 / szN k : Nat) : Int) = ((16 / szN k : Nat) : Int)
              generalize 16 / szN k = g at h9 ⊢
              exact IntWalk.i64_in _ (by omega))
            have HPB := Lib.hid (show placeB (k : Int) y t = (decide (0 ≤ y ∧ 0 ≤ t ∧ t < (q : Int))) by unfold placeB; rw [h1, Bool.true_and, Int.toNat_natCast, hq])
            rw [Int.toNat_natCast, ← hq] at h4
            have hu : 0 ≤ t * (s : Int) ∧ t * (s : Int) ≤ 128 := ⟨Int.mul_nonneg h3 (by omega), by
              have : t * (s : Int) ≤ 8 * 16 := Int.mul_le_mul (by omega) (by omega) (by omega) (by omega)
              omega⟩
            obtain ⟨u, hue⟩ : ∃ u, u = t * (s : Int) := ⟨_, rfl⟩
            have HU := Lib.hid hue
            rw [← hue] at hu
            obtain ⟨M, hMe⟩ : ∃ M, M = y * 16 + u := ⟨_, rfl⟩
            have HM := Lib.hid hMe
            have hA := HA.out
            obtain rfl : A = (M, (k : Int), 0) := by
              rw [hA]
              unfold placeA
              rw [HPB.out, if_pos (by simp; omega), if_pos (by omega), Int.toNat_natCast, ← hs, ← hue, ← hMe]
            clear hA HA HPB hq hs hue hMe
            go_wp2_with fail
            rw [← hw4, ← HY1.out]
            clear hw4 HY1
            refine wpTwo_begin (T := F) (S := fun _ => True) (late := fun _ => false) (by kernel_rfl) ?_
            obtain ⟨X0, hX0⟩ : ∃ X : World, X = w4.drew := ⟨_, rfl⟩
            rw [← hX0]
            have hF := HFB.out _ X0 hF (by rw [hX0]; exact (Below.refl _ _).drew)
            clear hX0
            refine wpTwo_takeT (i := 0) (v := .pointer (some ⟨z, 0, none⟩)) rfl (by kernel_rfl) (by kernel_rfl) (by kernel_rfl) (fun _ _ _ h => h) ⟨by rfl, ?_⟩ hF ?_
            · rintro w hTw
              go_simp
            (try simp only [Act.put, List.getElem_toArray, List.getElem_cons_zero, List.setIfInBounds_toArray, List.set_cons_succ, List.set_cons_zero])
            refine wpTwo_takeT (i := 1) (v := .int .i64 (k : Int)) rfl (by kernel_rfl) (by kernel_rfl) (by kernel_rfl) (fun _ _ _ h => h) ⟨by rfl, ?_⟩ hF ?_
            · rintro w hTw
              obtain ⟨t0, t1, t2⟩ := (HFE.out _ hTw).1.cells
              go_simp
            (try simp only [Act.put, List.getElem_toArray, List.getElem_cons_succ, List.getElem_cons_zero, List.setIfInBounds_toArray, List.set_cons_succ, List.set_cons_zero])
            refine wpTwo_ready (rs := [2]) (by kernel_rfl) (by simp) ?_
            refine (AllTwo.cons rfl (fun K hK => ?_) AllTwo.nil)
            go_simp
            refine (rIs_c k _).mono ?_
            rintro e Y1 ⟨rfl, rfl⟩
            rw [h1]
            go_wp2_with fail
            refine hK.out _ _ ⟨hF, fun _ _ => trivial⟩ ?_
            clear hK K
            (try simp only [Act.put, List.getElem_toArray, List.getElem_cons_succ, List.getElem_cons_zero, List.setIfInBounds_toArray, List.set_cons_succ, List.set_cons_zero])
            refine wpTwo_takeT (i := 3) (v := .bool true) rfl (by kernel_rfl) (by kernel_rfl) (by kernel_rfl) (fun _ _ _ h => h) ⟨by rfl, ?_⟩ hF ?_
            · rintro w hTw
              go_simp
            (try simp only [Act.put, List.getElem_toArray, List.getElem_cons_succ, List.getElem_cons_zero, List.setIfInBounds_toArray, List.set_cons_succ, List.set_cons_zero])
            refine wpTwo_takeT (i := 4) (v := .pointer (some ⟨z, 1, none⟩)) rfl (by kernel_rfl) (by kernel_rfl) (by kernel_rfl) (fun _ _ _ h => h) ⟨by rfl, ?_⟩ hF ?_
            · rintro w hTw
              go_simp
            (try simp only [Act.put, List.getElem_toArray, List.getElem_cons_succ, List.getElem_cons_zero, List.setIfInBounds_toArray, List.set_cons_succ, List.set_cons_zero])
            refine wpTwo_takeT (i := 5) (v := .int .i64 y) rfl (by kernel_rfl) (by kernel_rfl) (by kernel_rfl) (fun _ _ _ h => h) ⟨by rfl, ?_⟩ hF ?_
            · rintro w hTw
              obtain ⟨t0, t1, t2⟩ := (HFE.out _ hTw).1.cells
              go_simp
            (try simp only [Act.put, List.getElem_toArray, List.getElem_cons_succ, List.getElem_cons_zero, List.setIfInBounds_toArray, List.set_cons_succ, List.set_cons_zero])
            refine wpTwo_takeT (i := 6) (v := .bool true) rfl (by kernel_rfl) (by kernel_rfl) (by kernel_rfl) (fun _ _ _ h => h) ⟨by rfl, ?_⟩ hF ?_
            · rintro w hTw
              go_simp
            (try simp only [Act.put, List.getElem_toArray, List.getElem_cons_succ, List.getElem_cons_zero, List.setIfInBounds_toArray, List.set_cons_succ, List.set_cons_zero])
            refine wpTwo_takeT (i := 7) (v := .bool true) rfl (by kernel_rfl) (by kernel_rfl) (by kernel_rfl) (fun _ _ _ h => h) ⟨by rfl, ?_⟩ hF ?_
            · rintro w hTw
              go_simp
            (try simp only [Act.put, List.getElem_toArray, List.getElem_cons_succ, List.getElem_cons_zero, List.setIfInBounds_toArray, List.set_cons_succ, List.set_cons_zero])
            refine wpTwo_takeT (i := 8) (v := .bool true) rfl (by kernel_rfl) (by kernel_rfl) (by kernel_rfl) (fun _ _ _ h => h) ⟨by rfl, ?_⟩ hF ?_
            · rintro w hTw
              go_simp
            (try simp only [Act.put, List.getElem_toArray, List.getElem_cons_succ, List.getElem_cons_zero, List.setIfInBounds_toArray, List.set_cons_succ, List.set_cons_zero])
            refine wpTwo_takeT (i := 9) (v := .pointer (some ⟨z, 2, none⟩)) rfl (by kernel_rfl) (by kernel_rfl) (by kernel_rfl) (fun _ _ _ h => h) ⟨by rfl, ?_⟩ hF ?_
            · rintro w hTw
              go_simp
            (try simp only [Act.put, List.getElem_toArray, List.getElem_cons_succ, List.getElem_cons_zero, List.setIfInBounds_toArray, List.set_cons_succ, List.set_cons_zero])
            refine wpTwo_takeT (i := 10) (v := .int .i64 t) rfl (by kernel_rfl) (by kernel_rfl) (by kernel_rfl) (fun _ _ _ h => h) ⟨by rfl, ?_⟩ hF ?_
            · rintro w hTw
              obtain ⟨t0, t1, t2⟩ := (HFE.out _ hTw).1.cells
              go_simp
            (try simp only [Act.put, List.getElem_toArray, List.getElem_cons_succ, List.getElem_cons_zero, List.setIfInBounds_toArray, List.set_cons_succ, List.set_cons_zero])
            refine wpTwo_takeT (i := 11) (v := .bool true) rfl (by kernel_rfl) (by kernel_rfl) (by kernel_rfl) (fun _ _ _ h => h) ⟨by rfl, ?_⟩ hF ?_
            · rintro w hTw
              go_simp
            (try simp only [Act.put, List.getElem_toArray, List.getElem_cons_succ, List.getElem_cons_zero, List.setIfInBounds_toArray, List.set_cons_succ, List.set_cons_zero])
            refine wpTwo_takeT (i := 12) (v := .bool true) rfl (by kernel_rfl) (by kernel_rfl) (by kernel_rfl) (fun _ _ _ h => h) ⟨by rfl, ?_⟩ hF ?_
            · rintro w hTw
              go_simp
            (try simp only [Act.put, List.getElem_toArray, List.getElem_cons_succ, List.getElem_cons_zero, List.setIfInBounds_toArray, List.set_cons_succ, List.set_cons_zero])
            refine wpTwo_takeT (i := 13) (v := .bool true) rfl (by kernel_rfl) (by kernel_rfl) (by kernel_rfl) (fun _ _ _ h => h) ⟨by rfl, ?_⟩ hF ?_
            · rintro w hTw
              go_simp
            (try simp only [Act.put, List.getElem_toArray, List.getElem_cons_succ, List.getElem_cons_zero, List.setIfInBounds_toArray, List.set_cons_succ, List.set_cons_zero])
            refine wpTwo_takeT (i := 14) (v := .pointer (some ⟨z, 2, none⟩)) rfl (by kernel_rfl) (by kernel_rfl) (by kernel_rfl) (fun _ _ _ h => h) ⟨by rfl, ?_⟩ hF ?_
            · rintro w hTw
              go_simp
            (try simp only [Act.put, List.getElem_toArray, List.getElem_cons_succ, List.getElem_cons_zero, List.setIfInBounds_toArray, List.set_cons_succ, List.set_cons_zero])
            refine wpTwo_takeT (i := 15) (v := .int .i64 t) rfl (by kernel_rfl) (by kernel_rfl) (by kernel_rfl) (fun _ _ _ h => h) ⟨by rfl, ?_⟩ hF ?_
            · rintro w hTw
              obtain ⟨t0, t1, t2⟩ := (HFE.out _ hTw).1.cells
              go_simp
            (try simp only [Act.put, List.getElem_toArray, List.getElem_cons_succ, List.getElem_cons_zero, List.setIfInBounds_toArray, List.set_cons_succ, List.set_cons_zero])
            refine wpTwo_takeT (i := 16) (v := .pointer (some ⟨z, 0, none⟩)) rfl (by kernel_rfl) (by kernel_rfl) (by kernel_rfl) (fun _ _ _ h => h) ⟨by rfl, ?_⟩ hF ?_
            · rintro w hTw
              go_simp
            (try simp only [Act.put, List.getElem_toArray, List.getElem_cons_succ, List.getElem_cons_zero, List.setIfInBounds_toArray, List.set_cons_succ, List.set_cons_zero])
            refine wpTwo_takeT (i := 17) (v := .int .i64 (k : Int)) rfl (by kernel_rfl) (by kernel_rfl) (by kernel_rfl) (fun _ _ _ h => h) ⟨by rfl, ?_⟩ hF ?_
            · rintro w hTw
              obtain ⟨t0, t1, t2⟩ := (HFE.out _ hTw).1.cells
              go_simp
            (try simp only [Act.put, List.getElem_toArray, List.getElem_cons_succ, List.getElem_cons_zero, List.setIfInBounds_toArray, List.set_cons_succ, List.set_cons_zero])
            refine wpTwo_ready (rs := [18]) (by kernel_rfl) (by simp) ?_
            refine (AllTwo.cons rfl (fun K hK => ?_) AllTwo.nil)
            go_simp
            refine (rWords_c k hk _).mono ?_
            rintro e Y18 ⟨rfl, rfl⟩
            rw [← HS.out]
            go_wp2_with fail
            refine hK.out _ _ ⟨hF, fun _ _ => trivial⟩ ?_
            clear hK K
            (try simp only [Act.put, List.getElem_toArray, List.getElem_cons_succ, List.getElem_cons_zero, List.setIfInBounds_toArray, List.set_cons_succ, List.set_cons_zero])
            refine wpTwo_takeT (i := 19) (v := .int .i64 (q : Int)) rfl (by kernel_rfl) (by kernel_rfl) (by kernel_rfl) (fun _ _ _ h => h) ⟨by rfl, ?_⟩ hF ?_
            · rintro w hTw
              go_simp
              rw [if_neg (show ¬ s = 0 by omega), HQ.out]
            (try simp only [Act.put, List.getElem_toArray, List.getElem_cons_succ, List.getElem_cons_zero, List.setIfInBounds_toArray, List.set_cons_succ, List.set_cons_zero])
            refine wpTwo_takeT (i := 20) (v := .bool true) rfl (by kernel_rfl) (by kernel_rfl) (by kernel_rfl) (fun _ _ _ h => h) ⟨by rfl, ?_⟩ hF ?_
            · rintro w hTw
              go_simp
            (try simp only [Act.put, List.getElem_toArray, List.getElem_cons_succ, List.getElem_cons_zero, List.setIfInBounds_toArray, List.set_cons_succ, List.set_cons_zero])
            refine wpTwo_takeT (i := 21) (v := .bool true) rfl (by kernel_rfl) (by kernel_rfl) (by kernel_rfl) (fun _ _ _ h => h) ⟨by rfl, ?_⟩ hF ?_
            · rintro w hTw
              go_simp
            (try simp only [Act.put, List.getElem_toArray, List.getElem_cons_succ, List.getElem_cons_zero, List.setIfInBounds_toArray, List.set_cons_succ, List.set_cons_zero])
            refine wpTwo_end (by kernel_rfl) ?_ _
            have hF1 := HFE.out _ hF
            obtain ⟨g0, g1, g2⟩ := hF1.1.cells
            go_wp2_with fail
            clear g0 g1 g2
            obtain ⟨G, hGE⟩ : ∃ G : World → Prop, G = fun w => TBox w z (k : Int) y t ∧ BBox w y1 M (k : Int) ∧ (∃ g h, BBox w (y1 + 1) g h) ∧ Below W.heap.size W w := ⟨_, rfl⟩
            have HGE := Lib.hid (show ∀ w, G w → TBox w z (k : Int) y t ∧ BBox w y1 M (k : Int) ∧ (∃ g h, BBox w (y1 + 1) g h) ∧ Below W.heap.size W w from fun w h => by rw [hGE] at h; exact h)
            have HGB := Lib.hid (show ∀ w w', G w → Below w.heap.size w w' → G w' from fun w w' h hb => by
              rw [hGE] at h ⊢
              exact ⟨h.1.below hb, h.2.1.below hb, h.2.2.1.imp fun g hg => hg.imp fun q hq => hq.below hb, below_then h.2.2.2 h.2.2.2.size hb⟩)
            have hG : G Y18 := by rw [hGE]; exact ⟨hF1.1, hF1.2.1, ⟨_, _, hF1.2.2.1⟩, hF1.2.2.2⟩
            have hGE' := hGE
            clear hF1 hF
            refine wpTwo_begin (T := G) (S := fun _ => True) (late := fun _ => false) (by kernel_rfl) ?_
            obtain ⟨X1, hX1⟩ : ∃ X : World, X = Y18.drew := ⟨_, rfl⟩
            rw [← hX1]
            have hF := HGB.out _ X1 hG (by rw [hX1]; exact (Below.refl _ _).drew)
            clear hX1 hG
            refine wpTwo_takeT (i := 0) (v := .pointer (some ⟨z, 1, none⟩)) rfl (by kernel_rfl) (by kernel_rfl) (by kernel_rfl) (fun _ _ _ h => h) ⟨by rfl, ?_⟩ hF ?_
            · rintro w hTw
              go_simp
            (try simp only [Act.put, List.getElem_toArray, List.getElem_cons_zero, List.setIfInBounds_toArray, List.set_cons_succ, List.set_cons_zero])
            refine wpTwo_takeT (i := 1) (v := .int .i64 y) rfl (by kernel_rfl) (by kernel_rfl) (by kernel_rfl) (fun _ _ _ h => h) ⟨by rfl, ?_⟩ hF ?_
            · rintro w hTw
              obtain ⟨t0, t1, t2⟩ := (HGE.out _ hTw).1.cells
              go_simp
            (try simp only [Act.put, List.getElem_toArray, List.getElem_cons_succ, List.getElem_cons_zero, List.setIfInBounds_toArray, List.set_cons_succ, List.set_cons_zero])
            refine wpTwo_takeT (i := 2) (v := .int .i64 (16 * y)) rfl (by kernel_rfl) (by kernel_rfl) (by kernel_rfl) (fun _ _ _ h => h) ⟨by rfl, ?_⟩ hF ?_
            · rintro w hTw
              go_simp
              try exact IntWalk.i64_in _ (by omega)
            (try simp only [Act.put, List.getElem_toArray, List.getElem_cons_succ, List.getElem_cons_zero, List.setIfInBounds_toArray, List.set_cons_succ, List.set_cons_zero])
            refine wpTwo_takeT (i := 3) (v := .pointer (some ⟨z, 2, none⟩)) rfl (by kernel_rfl) (by kernel_rfl) (by kernel_rfl) (fun _ _ _ h => h) ⟨by rfl, ?_⟩ hF ?_
            · rintro w hTw
              go_simp
            (try simp only [Act.put, List.getElem_toArray, List.getElem_cons_succ, List.getElem_cons_zero, List.setIfInBounds_toArray, List.set_cons_succ, List.set_cons_zero])
            refine wpTwo_takeT (i := 4) (v := .int .i64 t) rfl (by kernel_rfl) (by kernel_rfl) (by kernel_rfl) (fun _ _ _ h => h) ⟨by rfl, ?_⟩ hF ?_
            · rintro w hTw
              obtain ⟨t0, t1, t2⟩ := (HGE.out _ hTw).1.cells
              go_simp
            (try simp only [Act.put, List.getElem_toArray, List.getElem_cons_succ, List.getElem_cons_zero, List.setIfInBounds_toArray, List.set_cons_succ, List.set_cons_zero])
            refine wpTwo_takeT (i := 5) (v := .pointer (some ⟨z, 0, none⟩)) rfl (by kernel_rfl) (by kernel_rfl) (by kernel_rfl) (fun _ _ _ h => h) ⟨by rfl, ?_⟩ hF ?_
            · rintro w hTw
              go_simp
            (try simp only [Act.put, List.getElem_toArray, List.getElem_cons_succ, List.getElem_cons_zero, List.setIfInBounds_toArray, List.set_cons_succ, List.set_cons_zero])
            refine wpTwo_takeT (i := 6) (v := .int .i64 (k : Int)) rfl (by kernel_rfl) (by kernel_rfl) (by kernel_rfl) (fun _ _ _ h => h) ⟨by rfl, ?_⟩ hF ?_
            · rintro w hTw
              obtain ⟨t0, t1, t2⟩ := (HGE.out _ hTw).1.cells
              go_simp
            (try simp only [Act.put, List.getElem_toArray, List.getElem_cons_succ, List.getElem_cons_zero, List.setIfInBounds_toArray, List.set_cons_succ, List.set_cons_zero])
            refine wpTwo_takeT (i := 10) (v := .pointer (some ⟨z, 0, none⟩)) rfl (by kernel_rfl) (by kernel_rfl) (by kernel_rfl) (fun _ _ _ h => h) ⟨by rfl, ?_⟩ hF ?_
            · rintro w hTw
              go_simp
            (try simp only [Act.put, List.getElem_toArray, List.getElem_cons_succ, List.getElem_cons_zero, List.setIfInBounds_toArray, List.set_cons_succ, List.set_cons_zero])
            refine wpTwo_takeT (i := 11) (v := .int .i64 (k : Int)) rfl (by kernel_rfl) (by kernel_rfl) (by kernel_rfl) (fun _ _ _ h => h) ⟨by rfl, ?_⟩ hF ?_
            · rintro w hTw
              obtain ⟨t0, t1, t2⟩ := (HGE.out _ hTw).1.cells
              go_simp
            (try simp only [Act.put, List.getElem_toArray, List.getElem_cons_succ, List.getElem_cons_zero, List.setIfInBounds_toArray, List.set_cons_succ, List.set_cons_zero])
            refine wpTwo_ready (rs := [7]) (by kernel_rfl) (by simp) ?_
            refine (AllTwo.cons rfl (fun K hK => ?_) AllTwo.nil)
            go_simp
            refine (rWords_c k hk _).mono ?_
            rintro e Y7 ⟨rfl, rfl⟩
            rw [← HS.out]
            go_wp2_with fail
            refine hK.out _ _ ⟨hF, fun _ _ => trivial⟩ ?_
            clear hK K
            (try simp only [Act.put, List.getElem_toArray, List.getElem_cons_succ, List.getElem_cons_zero, List.setIfInBounds_toArray, List.set_cons_succ, List.set_cons_zero])
            refine wpTwo_takeT (i := 8) (v := .int .i64 u) rfl (by kernel_rfl) (by kernel_rfl) (by kernel_rfl) (fun _ _ _ h => h) ⟨by rfl, ?_⟩ hF ?_
            · rintro w hTw
              go_simp
              first | exact HU.out.symm | (rw [← HU.out]; exact IntWalk.i64_in _ (by omega)) | (rw [← HU.out]; done)
            (try simp only [Act.put, List.getElem_toArray, List.getElem_cons_succ, List.getElem_cons_zero, List.setIfInBounds_toArray, List.set_cons_succ, List.set_cons_zero])
            refine wpTwo_takeT (i := 9) (v := .int .i64 M) rfl (by kernel_rfl) (by kernel_rfl) (by kernel_rfl) (fun _ _ _ h => h) ⟨by rfl, ?_⟩ hF ?_
            · rintro w hTw
              go_simp
              first | (rw [HM.out, IntWalk.i64_in _ (by omega)]; omega) | (rw [HM.out]; omega)
            (try simp only [Act.put, List.getElem_toArray, List.getElem_cons_succ, List.getElem_cons_zero, List.setIfInBounds_toArray, List.set_cons_succ, List.set_cons_zero])
            refine wpTwo_takeT (i := 12) (v := blkV M (k : Int)) rfl (by kernel_rfl) (by kernel_rfl) (by kernel_rfl) (fun _ _ _ h => h) ⟨by rfl, ?_⟩ hF ?_
            · rintro w hTw
              go_simp
            (try simp only [Act.put, List.getElem_toArray, List.getElem_cons_succ, List.getElem_cons_zero, List.setIfInBounds_toArray, List.set_cons_succ, List.set_cons_zero])
            obtain ⟨ga, gb, gq⟩ := (HGE.out _ hF).2.2.1
            obtain ⟨r0, r1⟩ := gq.cells
            obtain ⟨m0, m1⟩ := gq.free
            refine wpTwo_ready (rs := [13]) (by kernel_rfl) (by simp) ?_
            refine (AllTwo.cons rfl (fun K hK => ?_) AllTwo.nil)
            go_simp
            obtain ⟨Xa, hXa⟩ : ∃ X : World, X = (Y7.setCell ⟨y1 + 1, 0, none⟩ (.int .i64 M)).setCell ⟨y1 + 1, 1, none⟩ (.int .i64 (k : Int)) := ⟨_, rfl⟩
            have HQD := Lib.hid (show BBox Xa (y1 + 1) M (k : Int) by rw [hXa]; exact gq.put M (k : Int))
            have hF1 := HGE.out _ hF
            have hzy := HZY.out
            have HGa := Lib.hid (show TBox Xa z (k : Int) y t ∧ BBox Xa y1 M (k : Int) ∧ Below W.heap.size W Xa by
              rw [hXa]
              exact ⟨(Below.heap_setCell _ _ _ _ (by show z ≠ y1 + 1; omega)).trans ((Below.heap_setCell _ _ _ _ (by show z ≠ y1 + 1; omega)).trans hF1.1), (hF1.2.1.other (by omega) _).other (by omega) _, hF1.2.2.2.trans (below_put2 Y7 (y1 + 1) (by omega) _ _)⟩)
            have hF : G Xa := by rw [hGE']; exact ⟨HGa.out.1, HGa.out.2.1, ⟨_, _, HQD.out⟩, HGa.out.2.2⟩
            rw [← hXa]
            clear hXa r0 r1 m0 m1 gq hF1
            refine hK.out _ _ ⟨hF, fun _ _ => trivial⟩ ?_
            clear hK K
            (try simp only [Act.put, List.getElem_toArray, List.getElem_cons_succ, List.getElem_cons_zero, List.setIfInBounds_toArray, List.set_cons_succ, List.set_cons_zero])
            refine wpTwo_takeT (i := 14) (v := .int .i64 0) rfl (by kernel_rfl) (by kernel_rfl) (by kernel_rfl) (fun _ _ _ h => h) ⟨by rfl, ?_⟩ hF ?_
            · rintro w hTw
              go_simp
            (try simp only [Act.put, List.getElem_toArray, List.getElem_cons_succ, List.getElem_cons_zero, List.setIfInBounds_toArray, List.set_cons_succ, List.set_cons_zero])
            refine wpTwo_end (by kernel_rfl) ?_ _
            obtain ⟨p0, p1⟩ := HGa.out.2.1.cells
            obtain ⟨q0, q1⟩ := HQD.out.cells
            have hne := run_neq_blk M (k : Int) M (k : Int)
            rw [show (!decide ((M : Int) = M ∧ ((k : Int) : Int) = (k : Int))) = false by simp] at hne
            have HBE := Lib.hid HGa.out.2.2
            clear hF hGE hGE'
            go_wp2
            go_roundw
            case rel => exact ⟨i + 1, by omega, by omega, by go_num, HBE⟩
            case measure => simp [intOf]; omega
      · go_wp2
        go_ret
        exact ⟨rfl, HBR.out⟩

end Go.Proofs.YtklbbcaebdfjeaaDoor
