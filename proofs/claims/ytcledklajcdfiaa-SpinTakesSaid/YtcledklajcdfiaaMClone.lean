/-
  slices.Clone at rows of words and of truth values: a slice of new memory that reads as it; what was in memory stays.
  Conditions: the slice has at most 2 to the power 40 elements.
-/
import Derived.Test.YtcledklajcdfiaaMBase
import Derived.Lib.Hide
namespace Go.Proofs.Ytcledklajcdfiaa
open Go.RowKit Go.Shelf

theorem cloneW_info : (Try.prog.info? 22).map (fun i => (i.zero, i.size, i.bytes)) = some (some (.int .u64 0), 1, 8) := by kernel_rfl

set_option maxHeartbeats 2000000 in
theorem cloneW (v : Value) (n : Nat) (xs : List Value) (W : World) (hv : ValsAt W v 1 n xs) (h1 : ∀ u ∈ xs, u.oneCell' = true) (hn : n ≤ 1099511627776) :
    Calls Try.prog 36 #[v] W fun e w' => OwnsNew W.heap.size 22 1 n xs e w' ∧ Below W.heap.size W w' := by
  obtain ⟨hlen, p, cap, rfl, ⟨rfl, rfl, rfl⟩ | ⟨ad, rfl, hcells⟩⟩ := hv
  · obtain rfl : xs = [] := List.eq_nil_of_length_eq_zero (by omega)
    have hcmp := fun w => Lib.run_eql_slice_nil (P := Try.prog) w 43 22 none 0 0 0 0 Try.underlying43
    go_enter Try.func36, Try.ntmps36
    go_wp2
    go_ret
    exact ⟨⟨_, rfl, World.ownsRow_nil _ _ _ _⟩, Below.refl _ _⟩
  · have hcmp := fun w => Lib.run_eql_slice_nil (P := Try.prog) w 43 22 (some ad) n cap 0 0 Try.underlying43
    obtain ⟨i0, hi, hz0, hz1, hz2⟩ := info_parts cloneW_info
    have hown := World.ownsRow_lit (base := W.heap.size) (e := 22) (size := 1) W #[] 0 (Nat.le_refl _) (by decide) rfl
    have hnews : ∀ j u, xs[j]? = some u → (W.alloc (Obj.cells #[] 22)).cell? (ad.add j) = some u := fun j u hj => by
      have h0 := hcells j u hj
      rw [World.cell?_alloc_lt _ _ _ (World.block_lt_of_cell? W _ h0)]
      exact h0
    have HN := Lib.hid hnews
    have H1 := Lib.hid h1
    have HO := Lib.hid hown
    clear hnews h1 hown hcells
    go_enter Try.func36, Try.ntmps36
    go_wp2_with (at_builtin; refine wpList_append_own _ rfl _ _ 43 rfl W.heap.size 22 i0 (.int .u64 0) 1 8 Try.underlying43 hi hz0 hz1 hz2 rfl (by decide) _ _ _ rfl HO.out ad n cap xs rfl hlen HN.out H1.out (by unfold maxLen; omega) (by omega) (by simp) ?_; intro v' w1 hown' hgrow _)
    go_ret
    rw [Nat.zero_add, List.nil_append] at hown'
    exact ⟨⟨v', rfl, hown'⟩, below_grown ((Below.refl _ _).alloc (Nat.le_refl _) _) hgrow (fun k e => by cases e; exact Nat.le_refl _)⟩

theorem cloneB_info : (Try.prog.info? 4).map (fun i => (i.zero, i.size, i.bytes)) = some (some (.bool false), 1, 1) := by kernel_rfl

set_option maxHeartbeats 2000000 in
theorem cloneB (v : Value) (n : Nat) (xs : List Value) (W : World) (hv : ValsAt W v 1 n xs) (h1 : ∀ u ∈ xs, u.oneCell' = true) (hn : n ≤ 1099511627776) :
    Calls Try.prog 37 #[v] W fun e w' => OwnsNew W.heap.size 4 1 n xs e w' ∧ Below W.heap.size W w' := by
  obtain ⟨hlen, p, cap, rfl, ⟨rfl, rfl, rfl⟩ | ⟨ad, rfl, hcells⟩⟩ := hv
  · obtain rfl : xs = [] := List.eq_nil_of_length_eq_zero (by omega)
    have hcmp := fun w => Lib.run_eql_slice_nil (P := Try.prog) w 44 4 none 0 0 0 0 Try.underlying44
    go_enter Try.func37, Try.ntmps37
    go_wp2
    go_ret
    exact ⟨⟨_, rfl, World.ownsRow_nil _ _ _ _⟩, Below.refl _ _⟩
  · have hcmp := fun w => Lib.run_eql_slice_nil (P := Try.prog) w 44 4 (some ad) n cap 0 0 Try.underlying44
    obtain ⟨i0, hi, hz0, hz1, hz2⟩ := info_parts cloneB_info
    have hown := World.ownsRow_lit (base := W.heap.size) (e := 4) (size := 1) W #[] 0 (Nat.le_refl _) (by decide) rfl
    have hnews : ∀ j u, xs[j]? = some u → (W.alloc (Obj.cells #[] 4)).cell? (ad.add j) = some u := fun j u hj => by
      have h0 := hcells j u hj
      rw [World.cell?_alloc_lt _ _ _ (World.block_lt_of_cell? W _ h0)]
      exact h0
    have HN := Lib.hid hnews
    have H1 := Lib.hid h1
    have HO := Lib.hid hown
    clear hnews h1 hown hcells
    go_enter Try.func37, Try.ntmps37
    go_wp2_with (at_builtin; refine wpList_append_own _ rfl _ _ 44 rfl W.heap.size 4 i0 (.bool false) 1 1 Try.underlying44 hi hz0 hz1 hz2 rfl (by decide) _ _ _ rfl HO.out ad n cap xs rfl hlen HN.out H1.out (by unfold maxLen; omega) (by omega) (by simp) ?_; intro v' w1 hown' hgrow _)
    go_ret
    rw [Nat.zero_add, List.nil_append] at hown'
    exact ⟨⟨v', rfl, hown'⟩, below_grown ((Below.refl _ _).alloc (Nat.le_refl _) _) hgrow (fun k e => by cases e; exact Nat.le_refl _)⟩

end Go.Proofs.Ytcledklajcdfiaa
