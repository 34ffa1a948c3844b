/-
  Rounds of package sched.
  Conditions: the row of picks reads as a list of at most 2 to the power 40, no longer than its room.
-/
import Derived.Test.YtmmeiclclapmfaaDSeq
import Derived.IntWalk
namespace Go.Proofs.Ytmmeiclclapmfaa
open Go.RowKit Go.Shelf
attribute [local go_sem] Oper.semAt_some

set_option maxRecDepth 100000 in
theorem roundsIt_c (c : Int) (v : Value) (hv : ∃ p n c, v = .slice p n c) (W : World) : Calls Try.prog 30 #[.int .i64 c, v] W fun e w' => e = .returned (.func (.func 39) #[] #[.pointer (some ⟨W.heap.size + 1, 0, none⟩), .pointer (some ⟨W.heap.size, 0, none⟩)]) ∧ w' = (W.alloc (.cells #[.int .i64 c] 3)).alloc (.cells #[v] 22) := by
  obtain ⟨p, n, cp, rfl⟩ := hv
  go_enter Try.func30, Try.ntmps30
  go_wp2
  go_ret
  exact ⟨rfl, rfl⟩

set_option maxRecDepth 100000 in
set_option maxHeartbeats 4000000 in
theorem rounds_c (c : Int) (v : Value) (l : List Int) (w : World) (hv : NumsAt w .i64 v l) (hl : l.length ≤ 1099511627776) (hcp : ∀ p n c, v = .slice p n c → n ≤ c) :
    Calls Try.prog 16 #[.int .i64 c, v] w fun e w' => e = .returned (.int .i64 (if okB c l then (roundsL c.toNat l : Int) else 0)) ∧ Below w.heap.size w w' := by
  obtain ⟨p, cap, rfl, hc⟩ := hv
  have hcap := hcp _ _ _ rfl
  have HV := Lib.hid (show NumsAt w .i64 (.slice p l.length cap) l from ⟨p, cap, rfl, hc⟩)
  obtain ⟨n, hn0⟩ : ∃ n, n = l.length := ⟨_, rfl⟩
  have HCK := check_c c _ l w HV.out (by omega)
  rw [← hn0] at hl HV HCK hcap ⊢
  have HN := Lib.hid hn0
  clear hn0 hcp
  cases hok : okB c l with
  | false =>
    rw [hok] at HCK
    clear hok
    go_enter Try.func16, Try.ntmps16
    go_wp2_with fail
    refine HCK.mono ?_
    rintro e w1 ⟨rfl, hb⟩
    simp only [errS, Bool.false_eq_true, if_false]
    go_wp2
    go_ret
    exact ⟨rfl, hb⟩
  | true =>
    rw [hok] at HCK
    obtain ⟨⟨hc1, hc8⟩, hall⟩ := okB_iff.1 hok
    obtain ⟨k, rfl⟩ := Int.eq_ofNat_of_zero_le (show 0 ≤ c by omega)
    clear hok hall
    refine (callsIn_wide (n := 9)).1 ?_
    refine callsIn_of_wp_marks Try.func16 rfl trivial ?_ rfl
    simp only [Try.ntmps16, List.size_toArray, List.length_cons, List.length_nil, Nat.reduceAdd, Nat.reduceSub, Array.replicate_succ, Array.replicate_zero, List.push_toArray, List.append_toArray, List.nil_append, List.cons_append]
    gi_wp2_with fail
    refine ⟨trivial, (callsIn_wide.2 HCK).mono ?_⟩
    rintro e w1 ⟨rfl, hb⟩
    simp only [errS]
    clear HCK
    gi_wp2_with fail
    obtain ⟨z, hz⟩ : ∃ z, z = w1.heap.size := ⟨_, rfl⟩
    refine ⟨trivial, (callsIn_wide.2 (roundsIt_c _ _ ⟨_, _, _, rfl⟩ _)).mono ?_⟩
    rintro e w3 ⟨rfl, hw3⟩
    have hz1 : w3.heap.size = z + 1 + 1 + 1 := by rw [hw3, hz]; simp
    have hB : Below w.heap.size w w3 := by rw [hw3]; exact ((hb.alloc hb.size _).alloc (by have := hb.size; simp; omega) _).alloc (by have := hb.size; simp; omega) _
    have hn1 : Boxed w3 z 3 (.int .i64 0) := by
      rw [hw3, hz]
      exact Boxed.alloc (Boxed.alloc (Boxed.new w1 3 (.int .i64 0)) _) _
    have hc3 : w3.cell? ⟨z + 1, 0, none⟩ = some (.int .i64 (k : Int)) := by
      have := (Boxed.alloc (Boxed.new (w1.alloc (.cells #[.int .i64 0] 3)) 3 (.int .i64 (k : Int))) (.cells #[.slice p n cap] 22)).cell
      rw [hw3, hz]
      simpa using this
    have hs3 : w3.cell? ⟨z + 1 + 1, 0, none⟩ = some (.slice p n cap) := by
      have := (Boxed.new ((w1.alloc (.cells #[.int .i64 0] 3)).alloc (.cells #[.int .i64 (k : Int)] 3)) 22 (.slice p n cap)).cell
      rw [hw3, hz]
      simpa using this
    have hbo : ∃ b off, b ≠ z ∧ (0 < l.length → p = some ⟨b, off, none⟩) ∧ ∀ i (h : i < l.length), w3.cell? ⟨b, off + i, none⟩ = some (.int .i64 l[i]) := by
      by_cases hne : l = []
      · exact ⟨z + 1, 0, by omega, (fun h => by rw [hne] at h; cases h), (fun i h => by simp [hne] at h)⟩
      · obtain ⟨b, off, rfl, hcs⟩ := hc hne
        have h0 := World.block_lt_of_cell? w _ (hcs 0 (List.length_pos_iff.2 hne))
        exact ⟨b, off, by have := hb.size; simp at h0; omega, fun _ => rfl, fun i h => below_cell hB (hcs i h)⟩
    obtain ⟨b, off, hbz, hpo, hcs⟩ := hbo
    have HST := Lib.hid (rounds_stops 8 (by omega) (fun q => q = z) (z + 1 + 1) (z + 1) b off cap k (by omega) (by omega) p l w3 (fun h => by have h : z + 1 = z := h; omega) hbz (by rw [← HN.out]; exact hl) (by rw [← HN.out]; exact hcap) hpo (by rw [← HN.out]; exact hs3) hc3 hcs)
    have hwz : w.heap.size ≤ z := by rw [hz]; exact hb.size
    clear hw3 hb hc3 hs3 hcs hpo hc
    have HR := Lib.hid (rounds_le k l)
    gi_wp2
    rw [← hz]
    clear hz
    refine wpIn_rangeBound rfl (by omega) (gf := 39) (bd := #[]) (lb := #[.pointer (some ⟨z + 1 + 1, 0, none⟩), .pointer (some ⟨z + 1, 0, none⟩)]) rfl trivial (enters_of Try.func39 (by kernel_rfl) rfl)
      HST.out (fun h k => h.trans k) (fun W l o o' _ => KeepsCells.turn _ W l o o') (Below.refl _ _) (fun _ => rfl)
      (fun pre W => Boxed W z 3 (.int .i64 (pre.length : Int)) ∧ Below w.heap.size w W)
      (fun _ _ _ => False)
      ?hI ?hIx ?h0
      (fun s a' W => ∃ u, a' = { tmps := #[.int .i64 (k : Int), .slice p n cap, undef, undef, .int .i64 0, .pointer (some ⟨z, 0, none⟩), .int .i64 (k : Int), .slice p n cap, .int .i64 0, .bool false, .int .i64 (k : Int), .slice p n cap, .func (.func 39) #[] #[.pointer (some ⟨z + 1 + 1, 0, none⟩), .pointer (some ⟨z + 1, 0, none⟩)], u, undef, undef, undef], defers := [] })
      ?hAx ?assign ?body ?done ?stop
    case hI => exact OwnFrom.and (Own.from (boxed_own _ _ (fun pre : List Value => Value.int .i64 (pre.length : Int))) _) (ownFrom_below (Nat.le_refl _) (by omega))
    case hIx => exact fun c => ownFrom_pure _ _
    case h0 => exact ⟨hn1, hB⟩
    case hAx => exact fun _ _ => ownFrom_pure _ _
    case assign =>
      intro lq pre x X K hi hK
      gi_wp2
      exact hK _ _ (KeepsFrom.refl _ _) (KeepsCells.refl _ _) hi ⟨x, by simp⟩
    case body =>
      rintro lq pre x a' X hl2 _ ⟨hv, hB2⟩ ⟨u, rfl⟩ hlt
      have hcv := hv.cell
      have hfv := hv.frozen
      have hbd : pre.length ≤ 1099511627776 := by have := HR.out; have := HN.out; omega
      gi_wp2
      refine ⟨(KeepsOthers.setCell _ _ _).from _, KeepsCells.keeps (Keeps.setCell X (S := fun q => q = z) (p := ⟨z, 0, none⟩) rfl _), ?_, hB2.setCell (p := ⟨z, 0, none⟩) hwz _⟩
      have := hv.set (.int .i64 ((pre.length : Int) + 1))
      simpa using this
    case done =>
      rintro D xs X hD hxs ⟨hv, hB2⟩ hK
      have hcv := hv.cell
      have HXS := Lib.hid hxs
      clear hxs
      gi_wp2
      show bodyPostM Fence.wide 9 Try.prog Try.f16 _ Exit.ret _ _
      refine leaves_marks (B := w.heap.size) [D] _ ((Marks.nil _ _).cons (by omega) (by simp) hK) fun W' hW' => ⟨_, results_tmp rfl _ _ _, ?_, hB2.trans hW'⟩
      exact ret_int (by rw [HXS.out])
    case stop =>
      rintro D c pre X _ _ h _
      exact h.elim

end Go.Proofs.Ytmmeiclclapmfaa
