/-
  Words, of the document's answers of layer 3: the words of a script that may be; what was in memory stays.
  Conditions: the script lies so, and may be.
-/
import Derived.Test.YtjgdkfgcfningaaDoorSBack0
import Derived.Test.YtjgdkfgcfningaaDoorSRuns3
namespace Go.Proofs.YtjgdkfgcfningaaDoor
open Go.RowKit Go.Shelf
attribute [local go_sem] Oper.semAt_some

theorem runsW_map : ∀ rs : List (Int × Nat), runsW rs = rs.reverse.map runW
  | [] => rfl
  | r :: rs => by simp only [runsW, runsW_map rs, List.reverse_cons, List.map_append, List.map_cons, List.map_nil]
theorem runs_few' : ∀ {rs : List (Int × Nat)}, OkR rs → rs.length ≤ (flatR rs).length
  | [], _ => Nat.le_refl _
  | x :: r, h => by
    have h1 := h.head.1
    have h2 := runs_few' h.tail
    simp only [flatR, List.length_append, List.length_replicate, List.length_cons]
    omega
theorem okR_rng : ∀ {rs : List (Int × Nat)}, OkR rs → ∀ r ∈ rs, 1 ≤ r.2 ∧ r.2 ≤ 256
  | x :: rs, h, r, hr => by
    rcases List.mem_cons.1 hr with rfl | hr
    · exact h.head
    · exact okR_rng h.tail r hr
theorem RI.below' {w w' : World} {p : Option Addr} {n c : Nat} {xs : List Int} (h : RI w p n c xs) (hb : Below w.heap.size w w') : RI w' p n c xs := h.below hb
/-- What holds while words are put together. -/
structure PW (W : World) (q : Option Addr) (N c : Nat) (o : List Nat) (X : World) : Prop where
  len : N = o.length
  own : X.ownsRow W.heap.size 37 1 (.slice q N c) N (o.map nv)
  b : Below W.heap.size W X
theorem PW.on {W : World} {q : Option Addr} {N c : Nat} {o : List Nat} {X Y : World} (h : PW W q N c o X) (hb : Below X.heap.size X Y) : PW W q N c o Y :=
  ⟨h.len, owns_below h.own hb, below_then h.b h.b.size hb⟩
theorem PW.app {W : World} {q q9 : Option Addr} {N c c9 m : Nat} {o zs : List Nat} {X Y : World} (h : PW W q N c o X) (hg : X.grownBy Y (Value.slice q N c).ownBlock)
    (ho : Y.ownsRow W.heap.size 37 1 (.slice q9 (N + m) c9) (N + m) (o.map nv ++ zs.map nv)) (hl : zs.length = m) : PW W q9 (N + m) c9 (o ++ zs) Y := by
  subst hl
  exact ⟨by rw [List.length_append, h.len], by rw [List.map_append]; exact ho, h.b.grown hg h.b.size (fun q e => (h.own.lt q e).1)⟩

set_option maxRecDepth 100000 in
set_option maxHeartbeats 8000000 in
theorem refWords_c (v : Value) (s : SM) (W : World) (hs : SAt W v s) (hok : okS s) :
    Calls Tryd.prog 15 #[v] W fun e w' => (∃ p c, e = .returned (.slice p (wordsL s).length c) ∧ w'.ownsRow W.heap.size 37 1 (.slice p (wordsL s).length c) (wordsL s).length ((wordsL s).map nv)) ∧ Below W.heap.size W w' := by
  have HOK := Lib.hid hok
  obtain ⟨⟨hc1, hc8⟩, ⟨hg1, hg64⟩, hlc, htot, hpl, hall⟩ := hok
  obtain ⟨c, g, ls, ps⟩ := s
  simp only at hc1 hc8 hg1 hg64 hlc htot hpl hall
  obtain ⟨p, n, cp, q, m, d, rfl, h1, h2⟩ := hs
  simp only at h1 h2
  obtain ⟨i0, hi0, hz0, hz1, hz2⟩ := info_parts u64_info
  have HI9 := Lib.hid (And.intro hi0 (And.intro hz0 (And.intro hz1 hz2)))
  obtain ⟨y, hy⟩ : ∃ y, y = W.heap.size := ⟨_, rfl⟩
  obtain ⟨w0, hw0⟩ : ∃ w : World, w = W.alloc (.cells #[.int .i64 c, .int .i64 g, .slice p n cp, .slice q m d] 25) := ⟨_, rfl⟩
  have hB0 : Below W.heap.size W w0 := by rw [hw0]; exact (Below.refl _ _).alloc (Nat.le_refl _) _
  have hx0 : SBlk w0 y c g p n cp q m d := by rw [hw0, hy]; exact SBlk.new _ _ _ _ _ _ _ _ _
  obtain ⟨f, hf⟩ : ∃ f, f = firstN ⟨c, g, ls, ps⟩ := ⟨_, rfl⟩
  have hfi : c - 1 + 256 * (g - 1) = (f : Int) := by rw [hf]; unfold firstN; simp only; omega
  have HX := Lib.hid hx0
  have HL := Lib.hid (h1.below hB0)
  have HP := Lib.hid (h2.below hB0)
  have HE := Lib.hid (And.intro hw0 hy)
  have HF := Lib.hid (And.intro hf hfi)
  have HB0 := Lib.hid hB0
  have HN := Lib.hid h1.len
  have HM := Lib.hid h2.len
  have HALL := Lib.hid hall
  have hn8 : n ≤ 8 := by have := h1.len; omega
  have hm : m ≤ 4096 := by have := h2.len; omega
  have HTOT := Lib.hid (And.intro htot hpl)
  obtain ⟨h00, h01, h02, h03⟩ := hx0.cells
  have hs0 := hB0.size
  clear hall hi0 hz0 hz1 hz2 hB0 hx0 h1 h2 hw0 hy hf hfi hlc htot hpl
  go_enter Tryd.func15, Tryd.ntmps15
  go_upto_region 1 with (fail)
  rw [← HE.out.1, ← HE.out.2]
  go_upto_region 2 with (fail)
  rw [HF.out.2]
  obtain ⟨w1, hw1⟩ : ∃ w : World, w = w0.alloc (.cells #[.int .u64 (f : Int)] 37) := ⟨_, rfl⟩
  have hb1 : Below w0.heap.size w0 w1 := by rw [hw1]; exact (Below.refl _ _).alloc (Nat.le_refl _) _
  have HPW := Lib.hid (show PW w0 (some ⟨w0.heap.size, 0, none⟩) 1 1 (f :: listsW 0 (ls.take 0)) w1 from ⟨rfl, by
    rw [hw1]
    exact World.ownsRow_lit (base := w0.heap.size) (e := 37) (size := 1) w0 #[.int .u64 (f : Int)] 1 (Nat.le_refl _) (by decide) rfl, hb1⟩)
  have hX2 : w1.cell? ⟨y, 2, none⟩ = some (.slice p n cp) := below_cell hb1 h02
  have H03 := Lib.hid h03
  rw [← hw1]
  clear h00 h01 h02 h03 hb1 hw1
  go_wp2
  go_loopw [3, 24] (fun ov iv wr => ∃ (i : Nat) (q8 : Option Addr) (N c8 : Nat), i ≤ n ∧ iv = .int .i64 i ∧ ov = .slice q8 N c8 ∧ N ≤ 385 ∧ Hid (PW w0 q8 N c8 (f :: listsW 0 (ls.take i)) wr)) (fun _ iv _ => n - (intOf iv).toNat)
  case atStart => exact ⟨0, _, _, _, Nat.zero_le _, rfl, rfl, by omega, HPW⟩
  case round =>
    clear HPW hX2
    obtain ⟨i, q8, N, c8, hi, rfl, rfl, hN, HW⟩ := hrel
    by_cases hlt : i < n
    · have hil : i < ls.length := by have := HN.out; omega
      obtain ⟨b, off, rfl, hcs⟩ := HL.out.cells (by intro e; rw [e] at hil; cases hil)
      obtain ⟨q2, d2, hx1, hV1⟩ := hcs i hil
      have hx := below_cell HW.out.b hx1
      obtain ⟨L, hLe⟩ : ∃ L, L = ls[i] := ⟨_, rfl⟩
      rw [← hLe] at hx hV1
      have HLE := Lib.hid hLe
      have hLt : L.length + tot (ls.take i) ≤ 64 := by
        have h1 := tot_append (ls.take i) (ls.drop i)
        rw [List.take_append_drop, List.drop_eq_getElem_cons hil, ← hLe] at h1
        simp only [tot] at h1
        have := HTOT.out.1; omega
      obtain ⟨M, hM⟩ : ∃ M, M = L.length := ⟨_, rfl⟩
      rw [← hM] at hx hV1 hLt
      have HM := Lib.hid hM
      have HV1 := Lib.hid hV1
      have HLEN := Lib.hid (show (listsW 0 (ls.take i)).length + 6 * M ≤ 384 by rw [listsW_length]; omega)
      have HLT := Lib.hid hLt
      have hi8 : i < 8 := by omega
      have hM64 : M ≤ 64 := by omega
      have HW0 := Lib.hid (show PW w0 q8 N c8 (f :: (listsW 0 (ls.take i) ++ rowW i (L.take 0))) wr by simpa [rowW] using HW.out)
      clear hcs hx1 hLe hM hV1 hLt HW
      go_upto_region 5 with (fail)
      go_wp2_with (fail)
      go_loopw [3, 31] (fun ov kv wr => ∃ (k : Nat) (q8 : Option Addr) (N c8 : Nat), k ≤ M ∧ kv = .int .i64 k ∧ ov = .slice q8 N c8 ∧ N ≤ 385 ∧ Hid (PW w0 q8 N c8 (f :: (listsW 0 (ls.take i) ++ rowW i (L.take k))) wr)) (fun _ kv _ => M - (intOf kv).toNat)
      case atStart => exact ⟨0, _, _, _, Nat.zero_le _, rfl, rfl, hN, HW0⟩
      case round =>
        clear HW0 hx hN
        obtain ⟨k, q8, N, c8, hk, rfl, rfl, hN, HW⟩ := hrel
        by_cases hkt : k < M
        · have hkl : k < L.length := by have := HM.out; omega
          obtain ⟨b2, off2, rfl, hc2⟩ := HV1.out.cells (by intro e; have := cellsC_length L; rw [e] at this; simp at this; omega)
          obtain ⟨x, hxe⟩ : ∃ x, x = L[k] := ⟨_, rfl⟩
          have hcell : ∀ j, j < 5 → ∀ u, (cells5 x)[j]? = some u → wr.cell? ⟨b2, off2 + k * 5 + j, none⟩ = some u := fun j hj u hu => by
            have h1 := cellsC_get L k hkl j hj
            rw [← hxe, hu] at h1
            obtain ⟨h2, h3⟩ := List.getElem?_eq_some_iff.1 h1
            have h4 := below_cell HW.out.b (hc2 (k * 5 + j) h2)
            rw [h3] at h4
            rw [Nat.add_assoc]; exact h4
          have hv0 : wr.cell? ⟨b2, off2 + k * 5, none⟩ = some (.int .u64 (x.k : Int)) := hcell 0 (by decide) _ rfl
          have hv1 : wr.cell? ⟨b2, off2 + k * 5 + 1, none⟩ = some (.int .u64 (x.a0 : Int)) := hcell 1 (by decide) _ rfl
          have hv2 : wr.cell? ⟨b2, off2 + k * 5 + 2, none⟩ = some (.int .u64 (x.a1 : Int)) := hcell 2 (by decide) _ rfl
          have hv3 : wr.cell? ⟨b2, off2 + k * 5 + 3, none⟩ = some (.int .u64 (x.a2 : Int)) := hcell 3 (by decide) _ rfl
          have hv4 : wr.cell? ⟨b2, off2 + k * 5 + 4, none⟩ = some (.int .u64 (x.a3 : Int)) := hcell 4 (by decide) _ rfl
          have HX := Lib.hid hxe
          have hNe : N + 6 ≤ 385 := by
            have h0 := HW.out.len
            have h1 := HLEN.out
            have h2 := rowW_length i (L.take k)
            rw [List.length_take] at h2
            have h3 := HM.out
            rw [h0]
            simp only [List.length_cons, List.length_append]; omega
          clear hcell hc2 hxe
          go_upto_region 8 with (fail)
          obtain ⟨wA, hwA⟩ : ∃ w : World, w = wr.alloc (.cells #[.int .u64 (x.k : Int), .int .u64 (x.a0 : Int), .int .u64 (x.a1 : Int), .int .u64 (x.a2 : Int), .int .u64 (x.a3 : Int)] 53) := ⟨_, rfl⟩
          rw [← hwA]
          have hbA : Below wr.heap.size wr wA := by rw [hwA]; exact (Below.refl _ _).alloc (Nat.le_refl _) _
          have hyA : CallBox wA wr.heap.size x := by rw [hwA]; exact World.alloc_heap_new _ _
          obtain ⟨hA0, hA1, hA2, hA3, hA4⟩ := hyA.all
          have hbB : Below wA.heap.size wA (wA.alloc (.cells #[.int .u64 (1 + 256 * (i : Int)), .int .u64 (x.k : Int), .int .u64 (x.a0 : Int), .int .u64 (x.a1 : Int), .int .u64 (x.a2 : Int), .int .u64 (x.a3 : Int)] 37)) := (Below.refl _ _).alloc (Nat.le_refl _) _
          have HPB := Lib.hid ((HW.out.on hbA).on hbB)
          have HNB : Hid (∀ j u, ([.int .u64 (1 + 256 * (i : Int)), .int .u64 (x.k : Int), .int .u64 (x.a0 : Int), .int .u64 (x.a1 : Int), .int .u64 (x.a2 : Int), .int .u64 (x.a3 : Int)] : List Value)[j]? = some u → (wA.alloc (.cells #[.int .u64 (1 + 256 * (i : Int)), .int .u64 (x.k : Int), .int .u64 (x.a0 : Int), .int .u64 (x.a1 : Int), .int .u64 (x.a2 : Int), .int .u64 (x.a3 : Int)] 37)).cell? ((⟨wA.heap.size, 0, none⟩ : Addr).add j) = some u) := Lib.hid (World.news_of_block (World.alloc_heap_new _ _))
          have HOB : Hid (∀ u ∈ ([.int .u64 (1 + 256 * (i : Int)), .int .u64 (x.k : Int), .int .u64 (x.a0 : Int), .int .u64 (x.a1 : Int), .int .u64 (x.a2 : Int), .int .u64 (x.a3 : Int)] : List Value), u.oneCell' = true) := Lib.hid (by simp [Value.oneCell'])
          have HZ : Hid ((callW i x).map nv = [.int .u64 (1 + 256 * (i : Int)), .int .u64 (x.k : Int), .int .u64 (x.a0 : Int), .int .u64 (x.a1 : Int), .int .u64 (x.a2 : Int), .int .u64 (x.a3 : Int)]) := Lib.hid (by simp [callW, nv])
          clear hwA hbA hbB hyA hv0 hv1 hv2 hv3 hv4 HW
          go_upto_region 9 with (at_builtin; refine wpList_append_own _ rfl _ _ 32 rfl w0.heap.size 37 i0 (.int .u64 0) 1 8 Tryd.underlying32 HI9.out.1 HI9.out.2.1 HI9.out.2.2.1 HI9.out.2.2.2 rfl (by decide) _ _ _ rfl HPB.out.own ⟨wA.heap.size, 0, none⟩ 6 6 [.int .u64 (1 + 256 * (i : Int)), .int .u64 (x.k : Int), .int .u64 (x.a0 : Int), .int .u64 (x.a1 : Int), .int .u64 (x.a2 : Int), .int .u64 (x.a3 : Int)] rfl rfl HNB.out HOB.out (by unfold maxLen; omega) (by omega) HPB.out.b.size ?_; intro v5 w5 hown' hgrow _; obtain ⟨q9, c9, rfl⟩ := owns_slice hown'; have XX := Lib.hid (And.intro hown' hgrow); clear hown' hgrow)
          have HQ := Lib.hid (HPB.out.app (m := 6) (zs := callW i x) XX.out.2 (by rw [HZ.out]; exact XX.out.1) rfl)
          have HTK := Lib.hid (List.take_succ_eq_append_getElem hkl)
          have HW5 := Lib.hid (show PW w0 q9 (N + 6) c9 (f :: (listsW 0 (ls.take i) ++ rowW i (L.take (k + 1)))) w5 from by
            rw [HTK.out, rowW_snoc, ← HX.out, ← List.append_assoc, ← List.cons_append]
            exact HQ.out)
          clear XX HQ hA0 hA1 hA2 hA3 hA4
          go_wp2
          go_roundw
          case rel => exact ⟨k + 1, q9, N + 6, c9, by omega, by go_num, rfl, hNe, HW5⟩
          case measure => simp [intOf]; omega
        · obtain rfl : k = M := by omega
          have HTI := Lib.hid (List.take_succ_eq_append_getElem hil)
          have HW6 := Lib.hid (show PW w0 q8 N c8 (f :: listsW 0 (ls.take (i + 1))) wr from by
            have h1 := HW.out
            rw [List.take_of_length_le (l := L) (by have := HM.out; omega)] at h1
            have h2 : (ls.take i).length = i := by rw [List.length_take]; omega
            rw [HTI.out, listsW_snoc, Nat.zero_add, h2, ← HLE.out]
            exact h1)
          go_wp2
          go_roundw
          case rel => exact ⟨i + 1, q8, N, c8, by omega, by go_num, rfl, hN, HW6⟩
          case measure => simp [intOf]; omega
    · obtain rfl : n = i := by omega
      have HWL := Lib.hid (show PW w0 q8 N c8 (f :: listsW 0 ls) wr from by
        have := HW.out
        rwa [List.take_of_length_le (by have := HN.out; omega)] at this)
      have hq3 := below_cell HWL.out.b H03.out
      have HRR := Lib.hid (rruns_c (.slice q m d) ps wr (HP.out.below' HWL.out.b).nums (by have := HTOT.out.2; omega))
      have hwr0 := HWL.out.b.size
      clear HW
      go_wp2_with fail
      refine HRR.out.mono ?_
      rintro e w7 ⟨⟨lv, rfl, hlo⟩, hb7⟩
      obtain ⟨rs, hrs⟩ : ∃ rs, rs = runsR ps := ⟨_, rfl⟩
      rw [← hrs] at hlo
      obtain ⟨K, hK⟩ : ∃ K, K = rs.length := ⟨_, rfl⟩
      have hKb : K ≤ 4096 := by
        have h1 := runs_few' (runs_ok ps)
        rw [runs_flat, ← hrs, ← hK] at h1
        have := HTOT.out.2; omega
      rw [← hK] at hlo
      obtain ⟨ql, cl, rfl⟩ := owns_slice hlo
      have HRB := Lib.hid (show ∀ r ∈ rs.reverse, (0 ≤ r.1 ∧ r.1 < 8) ∧ 1 ≤ r.2 ∧ r.2 ≤ 256 from fun r hr => by
        rw [List.mem_reverse, hrs] at hr
        have h1 := HALL.out _ (runs_mem ps r hr)
        have h2 := okR_rng (runs_ok ps) r hr
        exact ⟨⟨h1.1, by omega⟩, h2⟩)
      have HKL := Lib.hid (show K = rs.reverse.length by rw [List.length_reverse]; exact hK)
      have HRS := Lib.hid (And.intro hrs hK)
      have HI0 := Lib.hid (show PW w0 q8 N c8 ((f :: listsW 0 ls) ++ (rs.reverse.take 0).map runW) w7 ∧ w7.ownsRow w0.heap.size 40 2 (.slice ql K cl) K (cellsR rs) from ⟨by
        simp only [List.take_zero, List.map_nil, List.append_nil]; exact HWL.out.on hb7, hlo.mono hwr0⟩)
      clear hrs hK hlo hb7 HRR hq3
      go_wp2
      go_loopw [3, 62] (fun ov kv wr => ∃ (k : Nat) (q8 : Option Addr) (N c8 : Nat), k ≤ K ∧ kv = .int .i64 k ∧ ov = .slice q8 N c8 ∧ N ≤ 385 + k ∧ Hid (PW w0 q8 N c8 ((f :: listsW 0 ls) ++ (rs.reverse.take k).map runW) wr ∧ wr.ownsRow w0.heap.size 40 2 (.slice ql K cl) K (cellsR rs))) (fun _ kv _ => K - (intOf kv).toNat)
      case atStart => exact ⟨0, _, _, _, Nat.zero_le _, rfl, rfl, hN, HI0⟩
      case round =>
        clear HI0 hN
        obtain ⟨k, q8, N, c8, hk, rfl, rfl, hN, HW⟩ := hrel
        by_cases hkt : k < K
        · have hkl : k < rs.reverse.length := by have := HKL.out; omega
          obtain ⟨b2, off2, rfl, hc2⟩ := (VRow.of_owns HW.out.2).pairs (by have := HRS.out.2; omega)
          obtain ⟨hv0, hv1⟩ := hc2 k hkl
          obtain ⟨⟨hr0, hr8⟩, hm1, hm2⟩ := HRB.out _ (List.getElem_mem hkl)
          obtain ⟨x, hxe⟩ : ∃ x, x = rs.reverse[k] := ⟨_, rfl⟩
          rw [← hxe] at hv0 hv1 hr0 hr8 hm1 hm2
          obtain ⟨x1, x2⟩ := x
          simp only at hv0 hv1 hr0 hr8 hm1 hm2
          obtain ⟨r, rfl⟩ := Int.eq_ofNat_of_zero_le hr0
          obtain ⟨mp, hmp⟩ : ∃ mp : Int, mp = (x2 : Int) := ⟨_, rfl⟩
          rw [← hmp] at hv1
          have hmb : 1 ≤ mp ∧ mp ≤ 256 := by omega
          obtain ⟨hmb1, hmb2⟩ := hmb
          have hr8' : (r : Int) < 8 := hr8
          have HX := Lib.hid (And.intro hxe hmp)
          clear hc2 hxe hmp hr8 hm1 hm2
          go_upto_region 14 with (fail)
          obtain ⟨wA, hwA⟩ : ∃ w : World, w = wr.alloc (.cells #[.int .i64 (r : Int), .int .i64 mp] 40) := ⟨_, rfl⟩
          rw [← hwA]
          have hbA : Below wr.heap.size wr wA := by rw [hwA]; exact (Below.refl _ _).alloc (Nat.le_refl _) _
          obtain ⟨hA0, hA1⟩ : wA.cell? ⟨wr.heap.size, 0, none⟩ = some (.int .i64 (r : Int)) ∧ wA.cell? ⟨wr.heap.size, 1, none⟩ = some (.int .i64 mp) := by rw [hwA]; exact pair_new _ _ _
          have hbB : Below wA.heap.size wA (wA.alloc (.cells #[.int .u64 (2 + 256 * (r : Int) + 65536 * (mp - 1))] 37)) := (Below.refl _ _).alloc (Nat.le_refl _) _
          have HPB := Lib.hid (And.intro ((HW.out.1.on hbA).on hbB) (owns_below (owns_below HW.out.2 hbA) hbB))
          have HNB : Hid (∀ j u, ([.int .u64 (2 + 256 * (r : Int) + 65536 * (mp - 1))] : List Value)[j]? = some u → (wA.alloc (.cells #[.int .u64 (2 + 256 * (r : Int) + 65536 * (mp - 1))] 37)).cell? ((⟨wA.heap.size, 0, none⟩ : Addr).add j) = some u) := Lib.hid (World.news_of_block (World.alloc_heap_new _ _))
          have HOB : Hid (∀ u ∈ ([.int .u64 (2 + 256 * (r : Int) + 65536 * (mp - 1))] : List Value), u.oneCell' = true) := Lib.hid (by simp [Value.oneCell'])
          have HZ : Hid ([runW rs.reverse[k]].map nv = [.int .u64 (2 + 256 * (r : Int) + 65536 * (mp - 1))]) := Lib.hid (by
            rw [← HX.out.1, HX.out.2]
            simp only [runW, nv, List.map_cons, List.map_nil, Int.toNat_natCast]
            congr 2
            have := HX.out.2
            omega)
          clear hwA hbA hbB hv0 hv1 HW
          go_upto_region 15 with (at_builtin; refine wpList_append_own _ rfl _ _ 32 rfl w0.heap.size 37 i0 (.int .u64 0) 1 8 Tryd.underlying32 HI9.out.1 HI9.out.2.1 HI9.out.2.2.1 HI9.out.2.2.2 rfl (by decide) _ _ _ rfl HPB.out.1.own ⟨wA.heap.size, 0, none⟩ 1 1 [.int .u64 (2 + 256 * (r : Int) + 65536 * (mp - 1))] rfl rfl HNB.out HOB.out (by unfold maxLen; omega) (by omega) HPB.out.1.b.size ?_; intro v5 w5 hown' hgrow _; obtain ⟨q9, c9, rfl⟩ := owns_slice hown'; have XX := Lib.hid (And.intro hown' hgrow); clear hown' hgrow)
          have HQ := Lib.hid (HPB.out.1.app (m := 1) (zs := [runW rs.reverse[k]]) XX.out.2 (by rw [HZ.out]; exact XX.out.1) rfl)
          have HTK := Lib.hid (List.take_succ_eq_append_getElem hkl)
          have HW5 := Lib.hid (show PW w0 q9 (N + 1) c9 ((f :: listsW 0 ls) ++ (rs.reverse.take (k + 1)).map runW) w5 ∧ w5.ownsRow w0.heap.size 40 2 (.slice (some ⟨b2, off2, none⟩) K cl) K (cellsR rs) from ⟨by
            rw [HTK.out, List.map_append, ← List.append_assoc]
            exact HQ.out, HPB.out.2.kept XX.out.2 (.inr fun e => owns_ne HPB.out.2 HPB.out.1.own (by decide) rfl e.symm rfl)⟩)
          clear XX HQ hA0 hA1
          go_wp2
          go_roundw
          case rel => exact ⟨k + 1, q9, N + 1, c9, by omega, by go_num, rfl, by omega, HW5⟩
          case measure => simp [intOf]; omega
        · obtain rfl : k = K := by omega
          have HFW := Lib.hid (show (f :: listsW 0 ls) ++ (rs.reverse.take k).map runW = wordsL ⟨c, g, ls, ps⟩ by
            rw [List.take_of_length_le (by have := HKL.out; omega), ← runsW_map, HRS.out.1, HF.out.1]; rfl)
          have HLW := Lib.hid (show N = (wordsL ⟨c, g, ls, ps⟩).length by rw [← HFW.out]; exact HW.out.1.len)
          go_wp2
          go_ret
          refine ⟨⟨q8, c8, by rw [← HLW.out]; rfl, ?_⟩, below_then HB0.out hs0 HW.out.1.b⟩
          have := HW.out.1.own
          rw [HFW.out] at this
          rw [← HLW.out]
          exact this.mono hs0

end Go.Proofs.YtjgdkfgcfningaaDoor
