/-
  Rows of blocks: copied, held against each other; the document's answers which rows are apart, and what the parts of a block are.
  Conditions: the ranges of Go's types.
-/
import Derived.Test.YtklbbcaebdfjeaaDoorZRef2
import Derived.Test.YtklbbcaebdfjeaaDoorZApart
import Derived.Test.YtklbbcaebdfjeaaDoorZWakes
import Derived.Test.YtklbbcaebdfjeaaDoorZPartsL
import Derived.Deep.QuietTactic
namespace Go.Proofs.YtklbbcaebdfjeaaDoor
open Go.RowKit Go.Shelf
attribute [local go_sem] Oper.semAt_some

theorem owns_slice {W : World} {B s n : Nat} {E : TypeId} {v : Value} {xs : List Value} (h : W.ownsRow B E s v n xs) : ∃ q c, v = .slice q n c := by
  rcases h.2 with ⟨rfl, rfl⟩ | ⟨g, c, cur, rfl, _⟩
  · exact ⟨none, 0, rfl⟩
  · exact ⟨_, _, rfl⟩
set_option maxHeartbeats 2000000 in
theorem cloneB (v : Value) (n : Nat) (xs : List Value) (W : World) (hv : ValsAt W v 2 n xs) (h1 : ∀ u ∈ xs, u.oneCell' = true) (hn : n ≤ 1099511627776) :
    Calls Tryd.prog 21 #[v] W fun e w' => OwnsNew W.heap.size 33 2 n xs e w' ∧ Below W.heap.size W w' := by
  obtain ⟨hlen, p, cap, rfl, ⟨rfl, rfl, rfl⟩ | ⟨ad, rfl, hcells⟩⟩ := hv
  · obtain rfl : xs = [] := List.eq_nil_of_length_eq_zero (by omega)
    have hcmp := fun w => Lib.run_eql_slice_nil (P := Tryd.prog) w 30 33 none 0 0 0 0 Tryd.underlying30
    go_enter Tryd.func21, Tryd.ntmps21
    go_wp2
    go_ret
    exact ⟨⟨_, rfl, World.ownsRow_nil _ _ _ _⟩, Below.refl _ _⟩
  · have hcmp := fun w => Lib.run_eql_slice_nil (P := Tryd.prog) w 30 33 (some ad) n cap 0 0 Tryd.underlying30
    obtain ⟨i0, hi, hz0, hz1, hz2⟩ := info_parts blk_info
    have hown := World.ownsRow_lit (base := W.heap.size) (e := 33) (size := 2) W #[] 0 (Nat.le_refl _) (by decide) rfl
    have hnews : ∀ j u, xs[j]? = some u → (W.alloc (Obj.cells #[] 33)).cell? (ad.add j) = some u := fun j u hj => by
      have h0 := hcells j u hj
      rw [World.cell?_alloc_lt _ _ _ (World.block_lt_of_cell? W _ h0)]
      exact h0
    have HN := Lib.hid hnews
    have H1 := Lib.hid h1
    have HO := Lib.hid hown
    clear hnews h1 hown hcells
    go_enter Tryd.func21, Tryd.ntmps21
    go_wp2_with (at_builtin; refine wpList_append_own _ rfl _ _ 30 rfl W.heap.size 33 i0 (.agg #[.int .i64 0, .int .i64 0]) 2 16 Tryd.underlying30 hi hz0 hz1 hz2 rfl (by decide) _ _ _ rfl HO.out ad n cap xs rfl hlen HN.out H1.out (by unfold maxLen; omega) (by omega) (by simp) ?_; intro v' w1 hown' hgrow _)
    go_ret
    rw [Nat.zero_add, List.nil_append] at hown'
    exact ⟨⟨v', rfl, hown'⟩, below_grown ((Below.refl _ _).alloc (Nat.le_refl _) _) hgrow (fun k e => by cases e; exact Nat.le_refl _)⟩

set_option maxRecDepth 100000 in
set_option maxHeartbeats 4000000 in
theorem equalB_same (v0 v1 : Value) (fs : List (Int × Int)) (W : World) (hv0 : BlksAt W v0 fs) (hv1 : BlksAt W v1 fs) (hl : fs.length ≤ 9223372036854775807) :
    Calls Tryd.prog 30 #[v0, v1] W fun e w' => e = .returned (.bool true) ∧ Below W.heap.size W w' := by
  obtain ⟨p0, cap0, rfl, hc0⟩ := hv0
  obtain ⟨p1, cap1, rfl, hc1⟩ := hv1
  have H0 := Lib.hid hc0
  have H1 := Lib.hid hc1
  clear hc0 hc1
  go_enter Tryd.func30, Tryd.ntmps30
  have hne : ((fs.length : Int) != (fs.length : Int)) = false := by rw [bne_eq_false_iff_eq]
  go_wp2
  go_loopw [13] (fun iv wr => ∃ i : Nat, i ≤ fs.length ∧ iv = .int .i64 i ∧ Below W.heap.size W wr) (fun iv _ => fs.length - (intOf iv).toNat)
  case atStart => exact ⟨0, Nat.zero_le _, rfl, Below.refl _ _⟩
  case round =>
    obtain ⟨i, hi, rfl, hB⟩ := hrel
    by_cases hlt : i < fs.length
    · obtain ⟨b0, off0, rfl, hcs0⟩ := H0.out (by intro e; rw [e] at hlt; cases hlt)
      obtain ⟨b1, off1, rfl, hcs1⟩ := H1.out (by intro e; rw [e] at hlt; cases hlt)
      obtain ⟨f0, f1⟩ := hcs0 i hlt
      obtain ⟨g0, g1⟩ := hcs1 i hlt
      obtain ⟨⟨a, c⟩, hak⟩ : ∃ f, f = fs[i] := ⟨_, rfl⟩
      rw [← hak] at f0 f1 g0 g1
      have x0 := below_cell hB f0
      have x1 := below_cell hB f1
      have y0 := below_cell hB g0
      have y1 := below_cell hB g1
      simp only at x0 x1 y0 y1
      have hcmp : ∀ w : World, (binOp .neq 33 (.agg #[.int .i64 a, .int .i64 c]) (.agg #[.int .i64 a, .int .i64 c])).run Tryd.prog w = .ok (.bool false) w := fun w => by rw [run_neq_blk]; simp
      clear f0 f1 g0 g1 hcs0 hcs1 hak hne
      go_wp2
      go_quiet (fail)
      go_wp2
      all_goals
        go_roundw
        case rel => exact ⟨i + 1, by omega, by go_num, below_drewN hB _⟩
        case measure => simp [intOf]; omega
    · go_wp2
      go_ret
      exact ⟨rfl, hB⟩

/-- The i-th part is told. -/
theorem inAt_eq (n j i : Nat) : inAt n j i = (n + i * szN j, j) := rfl
set_option maxRecDepth 100000 in
set_option maxHeartbeats 8000000 in
theorem rParts_c (n k j : Nat) (hk : k < 4) (hjk : j ≤ k) (hn : n + szN k ≤ 4096) (W : World) : Calls Tryd.prog 28 #[blkV (n : Int) (k : Int), .int .i64 (j : Int)] W fun e w' => OwnsNew W.heap.size 33 2 (inN k j) (flatB (inL n j (inN k j))) e w' ∧ Below W.heap.size W w' := by
  have hj4 : j < 4 := by omega
  obtain ⟨hm1, hm2, hm3⟩ := inN_mul hk hjk
  obtain ⟨hs1, hs2⟩ := sz_ok hj4
  obtain ⟨hq1, hq2⟩ := sz_ok hk
  have HWK := Lib.hid (fun X : World => rWords_c k hk X)
  have HWJ := Lib.hid (fun X : World => rWords_c j hj4 X)
  have HIA := Lib.hid (fun i : Nat => inAt_eq n j i)
  have HDV := Lib.hid (show wrap64 ((szN k : Int) / (szN j : Int)) = (inN k j : Int) by
    have h9 : inN k j ≤ 8 := hm2
    show wrap64 ((szN k / szN j : Nat) : Int) = _
    show wrap64 (inN k j : Int) = _
    generalize inN k j = g at h9 ⊢
    exact IntWalk.wrap64_in _ (by omega))
  generalize hmm : inN k j = m at *
  obtain ⟨s, hs⟩ : ∃ s, s = szN j := ⟨_, rfl⟩
  obtain ⟨q, hq⟩ : ∃ q, q = szN k := ⟨_, rfl⟩
  have HS := Lib.hid hs
  rw [← hs] at HWJ hm1 hs1 hs2 HIA HDV
  rw [← hq] at HWK hm1 hq1 hq2 hn HDV
  have HM := Lib.hid hm1
  clear hmm hs hq hm1
  obtain ⟨w1, hw1⟩ : ∃ X : World, X = W.alloc (.cells #[.int .i64 (n : Int), .int .i64 (k : Int)] 33) := ⟨_, rfl⟩
  have hB1 : Below W.heap.size W w1 := by rw [hw1]; exact (Below.refl _ _).alloc (Nat.le_refl _) _
  have hX0 : BBox w1 W.heap.size n k := by rw [hw1]; exact BBox.new _ _ _
  have HX := Lib.hid (And.intro hX0 hB1)
  obtain ⟨c0, c1⟩ := hX0.cells
  rw [hw1] at c0 c1
  clear hX0 hB1
  go_enter Tryd.func28, Tryd.ntmps28
  go_wp2_with fail
  rw [← hw1]
  clear hw1 c0 c1
  refine (HWK.out w1).mono ?_
  rintro e w2 ⟨rfl, rfl⟩
  clear HWK
  go_wp2_with fail
  refine (HWJ.out _).mono ?_
  rintro e w3 ⟨rfl, rfl⟩
  clear HWJ
  have hs0 : ¬ s = 0 := by omega
  go_wp2
  rw [show wrap64 ((q : Int) / (s : Int)) = (m : Int) from HDV.out]
  go_loopw [5, 13] (fun ov iv wr => ∃ i : Nat, i ≤ m ∧ iv = .int .i64 (i : Int) ∧ Hid (BBox wr W.heap.size n k ∧ wr.ownsRow (W.heap.size + 1) 33 2 ov i (flatB (inL n j i)) ∧ Below W.heap.size W wr)) (fun _ iv _ => m - (intOf iv).toNat)
  case atStart => exact ⟨0, Nat.zero_le _, rfl, HX.out.1, World.ownsRow_nil _ _ _ _, HX.out.2⟩
  case round =>
    obtain ⟨i, hi, rfl, HR⟩ := hrel
    by_cases hlt : i < m
    · have him : i * s + s ≤ q := by
        have h1 := Nat.mul_le_mul_right s hlt
        rw [Nat.succ_mul] at h1
        have h2 := HM.out
        omega
      obtain ⟨t, ht⟩ : ∃ t, t = i * s := ⟨_, rfl⟩
      have HMU := Lib.hid (show IntKind.i64.wrap ((i : Int) * (s : Int)) = (t : Int) by
        have h3 : (i : Int) * (s : Int) = (t : Int) := by rw [ht]; simp
        rw [h3]
        exact IntWalk.i64_in _ (by omega))
      obtain ⟨x, hx⟩ : ∃ x, x = n + t := ⟨_, rfl⟩
      have HAD := Lib.hid (show IntKind.i64.wrap ((n : Int) + (t : Int)) = (x : Int) by rw [IntWalk.i64_in _ (by omega)]; omega)
      have HAT := Lib.hid (show inAt n j i = (x, j) by rw [HIA.out, hx, ht])
      clear ht hx him
      obtain ⟨F, hFE⟩ : ∃ F : World → Prop, F = fun w => BBox w W.heap.size n k ∧ Below W.heap.size W w := ⟨_, rfl⟩
      have HFE := Lib.hid (show ∀ w, F w → BBox w W.heap.size n k ∧ Below W.heap.size W w from fun w h => by rw [hFE] at h; exact h)
      have HFB := Lib.hid (show ∀ w w', F w → Below w.heap.size w w' → F w' from fun w w' h hb => by
        rw [hFE] at h ⊢
        exact ⟨h.1.below hb, below_then h.2 h.2.size hb⟩)
      have hF : F wr := by rw [hFE]; exact ⟨HR.out.1, HR.out.2.2⟩
      go_wp2_with fail
      refine wpTwo_begin (T := F) (S := fun _ => True) (late := fun _ => false) (by kernel_rfl) ?_
      obtain ⟨X0, hX0⟩ : ∃ X : World, X = wr.drew := ⟨_, rfl⟩
      rw [← hX0]
      have hF := HFB.out _ X0 hF (by rw [hX0]; exact (Below.refl _ _).drew)
      have HOW := Lib.hid (show X0.ownsRow (W.heap.size + 1) 33 2 u5 i (flatB (inL n j i)) by rw [hX0]; exact owns_below HR.out.2.1 (Below.refl _ _).drew)
      clear hX0 HR
      refine wpTwo_takeT (i := 0) (v := u5) rfl (by kernel_rfl) (by kernel_rfl) (by kernel_rfl) (fun _ _ _ h => h) ⟨by rfl, ?_⟩ hF ?_
      · rintro w hTw
        go_simp
      (try simp only [Act.put, List.getElem_toArray, List.getElem_cons_zero, List.setIfInBounds_toArray, List.set_cons_succ, List.set_cons_zero])
      refine wpTwo_takeT (i := 1) (v := .pointer (some ⟨W.heap.size, 0, none⟩)) rfl (by kernel_rfl) (by kernel_rfl) (by kernel_rfl) (fun _ _ _ h => h) ⟨by rfl, ?_⟩ hF ?_
      · rintro w hTw
        go_simp
      (try simp only [Act.put, List.getElem_toArray, List.getElem_cons_succ, List.getElem_cons_zero, List.setIfInBounds_toArray, List.set_cons_succ, List.set_cons_zero])
      refine wpTwo_takeT (i := 2) (v := .int .i64 (n : Int)) rfl (by kernel_rfl) (by kernel_rfl) (by kernel_rfl) (fun _ _ _ h => h) ⟨by rfl, ?_⟩ hF ?_
      · rintro w hTw
        obtain ⟨t0, t1⟩ := (HFE.out _ hTw).1.cells
        go_simp
      (try simp only [Act.put, List.getElem_toArray, List.getElem_cons_succ, List.getElem_cons_zero, List.setIfInBounds_toArray, List.set_cons_succ, List.set_cons_zero])
      refine wpTwo_takeT (i := 3) (v := .int .i64 (i : Int)) rfl (by kernel_rfl) (by kernel_rfl) (by kernel_rfl) (fun _ _ _ h => h) ⟨by rfl, ?_⟩ hF ?_
      · rintro w hTw
        go_simp
      (try simp only [Act.put, List.getElem_toArray, List.getElem_cons_succ, List.getElem_cons_zero, List.setIfInBounds_toArray, List.set_cons_succ, List.set_cons_zero])
      refine wpTwo_takeT (i := 4) (v := .int .i64 (j : Int)) rfl (by kernel_rfl) (by kernel_rfl) (by kernel_rfl) (fun _ _ _ h => h) ⟨by rfl, ?_⟩ hF ?_
      · rintro w hTw
        go_simp
      (try simp only [Act.put, List.getElem_toArray, List.getElem_cons_succ, List.getElem_cons_zero, List.setIfInBounds_toArray, List.set_cons_succ, List.set_cons_zero])
      refine wpTwo_takeT (i := 8) (v := .int .i64 (j : Int)) rfl (by kernel_rfl) (by kernel_rfl) (by kernel_rfl) (fun _ _ _ h => h) ⟨by rfl, ?_⟩ hF ?_
      · rintro w hTw
        go_simp
      (try simp only [Act.put, List.getElem_toArray, List.getElem_cons_succ, List.getElem_cons_zero, List.setIfInBounds_toArray, List.set_cons_succ, List.set_cons_zero])
      refine wpTwo_ready (rs := [5]) (by kernel_rfl) (by simp) ?_
      refine (AllTwo.cons rfl (fun K hK => ?_) AllTwo.nil)
      go_simp
      refine (rWords_c j hj4 _).mono ?_
      rintro e Y5 ⟨rfl, rfl⟩
      rw [← HS.out]
      go_wp2_with fail
      refine hK.out _ _ ⟨hF, fun _ _ => trivial⟩ ?_
      clear hK K
      (try simp only [Act.put, List.getElem_toArray, List.getElem_cons_succ, List.getElem_cons_zero, List.setIfInBounds_toArray, List.set_cons_succ, List.set_cons_zero])
      refine wpTwo_takeT (i := 6) (v := .int .i64 (t : Int)) rfl (by kernel_rfl) (by kernel_rfl) (by kernel_rfl) (fun _ _ _ h => h) ⟨by rfl, ?_⟩ hF ?_
      · rintro w hTw
        go_simp
        rw [HMU.out]
      (try simp only [Act.put, List.getElem_toArray, List.getElem_cons_succ, List.getElem_cons_zero, List.setIfInBounds_toArray, List.set_cons_succ, List.set_cons_zero])
      refine wpTwo_takeT (i := 7) (v := .int .i64 (x : Int)) rfl (by kernel_rfl) (by kernel_rfl) (by kernel_rfl) (fun _ _ _ h => h) ⟨by rfl, ?_⟩ hF ?_
      · rintro w hTw
        go_simp
        rw [HAD.out]
      (try simp only [Act.put, List.getElem_toArray, List.getElem_cons_succ, List.getElem_cons_zero, List.setIfInBounds_toArray, List.set_cons_succ, List.set_cons_zero])
      refine wpTwo_takeT (i := 9) (v := blkV (x : Int) (j : Int)) rfl (by kernel_rfl) (by kernel_rfl) (by kernel_rfl) (fun _ _ _ h => h) ⟨by rfl, ?_⟩ hF ?_
      · rintro w hTw
        go_simp
      (try simp only [Act.put, List.getElem_toArray, List.getElem_cons_succ, List.getElem_cons_zero, List.setIfInBounds_toArray, List.set_cons_succ, List.set_cons_zero])
      refine wpTwo_ready (rs := [10]) (by kernel_rfl) (by simp) ?_
      refine (AllTwo.cons rfl (fun K hK => ?_) AllTwo.nil)
      go_simp
      obtain ⟨Y6, hY6⟩ : ∃ X : World, X = Y5.alloc (.cells #[.int .i64 (x : Int), .int .i64 (j : Int)] 33) := ⟨_, rfl⟩
      have hb6 : Below Y5.heap.size Y5 Y6 := by rw [hY6]; exact (Below.refl _ _).alloc (Nat.le_refl _) _
      have hnews : ∀ (q : Nat) (u : Value), [Value.int .i64 (x : Int), Value.int .i64 (j : Int)][q]? = some u → Y6.cell? ((⟨Y5.heap.size, 0, none⟩ : Addr).add q) = some u := by rw [hY6]; exact World.news_of_block (World.alloc_heap_new _ _)
      have HNW := Lib.hid hnews
      have hF := HFB.out _ Y6 hF hb6
      have HO6 := Lib.hid (owns_below HOW.out hb6)
      rw [← hY6]
      clear hY6 hb6 hnews
      refine hK.out _ _ ⟨hF, fun _ _ => trivial⟩ ?_
      clear hK K
      (try simp only [Act.put, List.getElem_toArray, List.getElem_cons_succ, List.getElem_cons_zero, List.setIfInBounds_toArray, List.set_cons_succ, List.set_cons_zero])
      refine wpTwo_ready (rs := [11]) (by kernel_rfl) (by simp) ?_
      refine (AllTwo.cons rfl (fun K hK => ?_) AllTwo.nil)
      obtain ⟨i0, hi0, hz0, hz1, hz2⟩ := info_parts blk_info
      have hF6 := HFE.out _ hF
      refine step_append_at (by rfl) _ _ 30 rfl (W.heap.size + 1) 33 i0 (.agg #[.int .i64 0, .int .i64 0]) 2 16 Tryd.underlying30 hi0 hz0 hz1 hz2 rfl (by decide) u5 i _ rfl HO6.out ⟨Y5.heap.size, 0, none⟩ 1 1 [.int .i64 (x : Int), .int .i64 (j : Int)] rfl rfl HNW.out (by intro u hu; simp at hu; rcases hu with rfl | rfl <;> rfl) (by unfold maxLen; omega) (by omega) hF6.1.lt ?_
      intro v' Y7 hown hg hat
      obtain ⟨pv, cv, rfl⟩ := owns_slice hown
      have hub : ∀ gg, u5.ownBlock = some gg → W.heap.size + 1 ≤ gg := fun gg hgg => (HO6.out.lt gg hgg).1
      have HF7 := Lib.hid (show BBox Y7 W.heap.size n k ∧ Y7.ownsRow (W.heap.size + 1) 33 2 (.slice pv (i + 1) cv) (i + 1) (flatB (inL n j (i + 1))) ∧ Below W.heap.size W Y7 from ⟨(hg.block _ hF6.1.lt (fun e => by have := hub _ e.symm; omega)).trans hF6.1, by rw [inL_succ, flatB_snoc, HAT.out]; exact hown, hF6.2.grown hg hF6.2.size (fun gg e => by have := hub gg e; omega)⟩)
      have hF : F Y7 := by rw [hFE]; exact ⟨HF7.out.1, HF7.out.2.2⟩
      refine hK.out _ _ ⟨hF, fun _ _ => trivial⟩ ?_
      clear hK K
      (try simp only [Act.put, List.getElem_toArray, List.getElem_cons_succ, List.getElem_cons_zero, List.setIfInBounds_toArray, List.set_cons_succ, List.set_cons_zero])
      refine wpTwo_takeT (i := 12) (v := .slice pv (i + 1) cv) rfl (by kernel_rfl) (by kernel_rfl) (by kernel_rfl) (fun _ _ _ h => h) ⟨by rfl, ?_⟩ hF ?_
      · rintro w hTw
        go_simp
      (try simp only [Act.put, List.getElem_toArray, List.getElem_cons_succ, List.getElem_cons_zero, List.setIfInBounds_toArray, List.set_cons_succ, List.set_cons_zero])
      refine wpTwo_end (by kernel_rfl) ?_ _
      clear hFE hF
      go_wp2
      go_roundw
      case rel => exact ⟨i + 1, by omega, by go_num, HF7⟩
      case measure => simp [intOf]; omega
    · obtain rfl : i = m := by omega
      have HBE := Lib.hid (And.intro HR.out.2.1 HR.out.2.2)
      clear HR
      obtain ⟨pv, cv, rfl⟩ := owns_slice HBE.out.1
      go_wp2
      go_ret
      exact ⟨⟨_, rfl, HBE.out.1.mono (Nat.le_succ _)⟩, HBE.out.2⟩

end Go.Proofs.YtklbbcaebdfjeaaDoor
