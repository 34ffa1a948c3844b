/-
  slices.Sort at a row of ints that lies in a block of its own, and within of package sched.
  Conditions: the block is not frozen.
-/
import Derived.Test.YtmmeiclclapmfaaDFairC
import Derived.Test.YtmmeiclclapmfaaDShelf
import Derived.Sort.OwnSortedInts
namespace Go.Proofs.Ytmmeiclclapmfaa
open Go.RowKit Go.Shelf Go.Sort

/-- The row, rising. -/
def rise (l : List Int) : List Int := l.mergeSort fun x y => decide (x ≤ y)
theorem rise_perm (l : List Int) : (rise l).Perm l := List.mergeSort_perm _ _
theorem rise_length (l : List Int) : (rise l).length = l.length := (rise_perm l).length_eq
theorem rise_sorted (l : List Int) : (rise l).Pairwise (· ≤ ·) := by
  have := List.pairwise_mergeSort (le := fun x y : Int => decide (x ≤ y)) (fun a b c h1 h2 => by simp at *; omega) (fun a b => by simp; omega) l
  exact this.imp fun h => by simpa using h
theorem grown_keeps {w w' : World} {g : Nat} (h : w.grownBy w' (some g)) : Keeps (fun q => q = g) w w' := by
  obtain ⟨h1, h2, h3, h4, h5⟩ := h
  exact ⟨h1, h2, h3, h4, fun k hk hne => h5 k hk fun e => hne (by cases e; rfl)⟩
theorem sort_c (b n cap : Nat) (cur : Array Value) (E : TypeId) (zs : List Int) (w : World) (hn : zs.length = n) (hb : w.heap[b]? = some (.cells cur E (0, 0))) (ht : cur.toList.take n = zs.map (Value.int .i64)) (hlen : n < 4611686018427387904) :
    Calls Try.prog 25 #[.slice (some ⟨b, 0, none⟩) n cap] w fun e w' => e = .returned (.tuple #[]) ∧ Keeps (fun q => q = b) w w' ∧ ∃ cur', cur'.size = cur.size ∧ w'.heap[b]? = some (.cells cur' E (0, 0)) ∧ cur'.toList.take n = (rise zs).map (Value.int .i64) := by
  subst hn
  have hblk : b < w.heap.size := (Array.getElem?_eq_some_iff.1 hb).1
  refine (Try.slices_Sort_int b 0 cap zs w (holds_of_blockI hb ht) hblk hlen).mono fun e w' ⟨he, q, os, hw⟩ => ⟨he, ?_, ?_⟩
  · rw [hw]; exact grown_keeps (grownBy_sortedI _)
  · refine ⟨putCells (Value.int .i64) 0 (rise zs).toArray cur, by simp [putCells], by rw [hw]; exact heap_sortedI _ hb, ?_⟩
    have h1 : (rise zs).length ≤ cur.size := by
      have := congrArg List.length ht
      simp at this
      rw [rise_length]; omega
    have := take_putCellsI cur (rise zs) h1
    rwa [rise_length] at this

end Go.Proofs.Ytmmeiclclapmfaa
