/-
  slices.Sort of a row of ints of one's own (none, too).
  Conditions: the row has less than 2 to the power 62 elements.
-/
import Derived.Test.YthjkaabbbhfjhaaPConcat
import Derived.Test.YthjkaabbbhfjhaaDShelf
import Derived.Sort.OwnSortedInts
namespace Go.Proofs.Ythjkaabbbhfjhaa
open Go.RowKit Go.Shelf Go.Sort

/-- The row, rising. -/
def rise (l : List Int) : List Int := l.mergeSort fun x y => decide (x ≤ y)
theorem rise_perm (l : List Int) : (rise l).Perm l := List.mergeSort_perm _ _
theorem rise_length (l : List Int) : (rise l).length = l.length := (rise_perm l).length_eq
theorem rise_sorted (l : List Int) : (rise l).Pairwise (· ≤ ·) := by
  have := List.pairwise_mergeSort (le := fun x y : Int => decide (x ≤ y)) (fun a b c h1 h2 => by simp at *; omega) (fun a b => by simp; omega) l
  exact this.imp fun h => by simpa using h
theorem grown_keeps {w w' : World} {g : Nat} (h : w.grownBy w' (some g)) : Keeps (fun q => q = g) w w' := by
  obtain ⟨h1, h2, h3, h4, h5⟩ := h
  exact ⟨h1, h2, h3, h4, fun k hk hne => h5 k hk fun e => hne (by cases e; rfl)⟩
theorem sort_c (b n cap : Nat) (cur : Array Value) (E : TypeId) (zs : List Int) (w : World) (hn : zs.length = n) (hb : w.heap[b]? = some (.cells cur E (0, 0))) (ht : cur.toList.take n = zs.map (Value.int .i64)) (hlen : n < 4611686018427387904) :
    Calls Try.prog 22 #[.slice (some ⟨b, 0, none⟩) n cap] w fun e w' => e = .returned (.tuple #[]) ∧ Keeps (fun q => q = b) w w' ∧ ∃ cur', cur'.size = cur.size ∧ w'.heap[b]? = some (.cells cur' E (0, 0)) ∧ cur'.toList.take n = (rise zs).map (Value.int .i64) := by
  subst hn
  have hblk : b < w.heap.size := (Array.getElem?_eq_some_iff.1 hb).1
  refine (Try.slices_Sort_int b 0 cap zs w (holds_of_blockI hb ht) hblk hlen).mono fun e w' ⟨he, q, os, hw⟩ => ⟨he, ?_, ?_⟩
  · rw [hw]; exact grown_keeps (grownBy_sortedI _)
  · refine ⟨putCells (Value.int .i64) 0 (rise zs).toArray cur, by simp [putCells], by rw [hw]; exact heap_sortedI _ hb, ?_⟩
    have h1 : (rise zs).length ≤ cur.size := by
      have := congrArg List.length ht
      simp at this
      rw [rise_length]; omega
    have := take_putCellsI cur (rise zs) h1
    rwa [rise_length] at this
theorem sortO_c (B n : Nat) (v : Value) (zs : List Int) (w : World) (hn : zs.length = n) (ho : w.ownsRow B 3 1 v n (zs.map (Value.int .i64))) (hlen : n < 4611686018427387904) :
    Calls Try.prog 22 #[v] w fun e w' => e = .returned (.tuple #[]) ∧ w'.ownsRow B 3 1 v n ((rise zs).map (Value.int .i64)) ∧ Keeps (fun q => some q = v.ownBlock) w w' := by
  have hl := ho.1
  rcases id ho.2 with ⟨rfl, h0⟩ | ⟨g, cap, cur, rfl, h1, h2, h3, h4, h5, h6⟩
  · subst h0
    obtain rfl : zs = [] := List.eq_nil_of_length_eq_zero hn
    refine (Try.slices_Sort_int_none none 0 w).mono fun e w' ⟨he, hw⟩ => ⟨he, ?_, by rw [hw]; exact Keeps.refl _ _⟩
    rw [hw, show rise [] = [] from List.eq_nil_of_length_eq_zero (rise_length [])]
    exact World.ownsRow_nil _ _ _ _
  · rw [Nat.mul_one] at h6
    refine (sort_c g n cap cur 3 zs w hn h2 h6 hlen).mono fun e w' ⟨he, hk, cur', c1, c2, c3⟩ => ⟨he, ⟨?_, .inr ⟨g, cap, cur', rfl, h1, c2, h3, h4, by rw [c1]; exact h5, by rw [Nat.mul_one]; exact c3⟩⟩, ?_⟩
    · rw [List.length_map, rise_length]; omega
    · obtain ⟨k1, k2, k3, k4, k5⟩ := hk
      exact ⟨k1, k2, k3, k4, fun q hq hne => k5 q hq fun e => hne (by rw [e]; rfl)⟩
theorem rise_all {k : Nat} {fs : List Int} (h : okP (k : Int) fs) : rise (fs ++ takenT k fs) = upto k := by
  refine List.Perm.eq_of_pairwise (le := fun a b : Int => a ≤ b) (fun a b _ _ h1 h2 => Int.le_antisymm h1 h2) (rise_sorted _) ?_ ((rise_perm _).trans (all_perm h))
  unfold upto
  exact List.Pairwise.map _ (fun a b hab => by omega) (List.pairwise_lt_range (n := k))
end Go.Proofs.Ythjkaabbbhfjhaa
