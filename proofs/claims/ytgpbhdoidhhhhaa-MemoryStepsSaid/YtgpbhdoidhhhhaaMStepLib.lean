/-
  slices.Clone at a row of accesses; and Step, of the document's answers of layer 2: the memory behind an access, and what it comes to.
  Conditions: as each has them.
-/
import Derived.Test.YtgpbhdoidhhhhaaMTagsLib
import Derived.Test.YtgpbhdoidhhhhaaMEvery
namespace Go.Proofs.Ytgpbhdoidhhhhaa
open Go.RowKit Go.Shelf

theorem cloneA_info : (Try.prog.info? 44).map (fun i => (i.zero, i.size, i.bytes)) = some (some (.agg #[.int .i64 0, .int .i64 0, .int .u64 0, .int .u64 0]), 4, 32) := by kernel_rfl

set_option maxHeartbeats 2000000 in
theorem cloneA (v : Value) (n : Nat) (xs : List Value) (W : World) (hv : ValsAt W v 4 n xs) (h1 : ∀ u ∈ xs, u.oneCell' = true) (hn : n ≤ 1099511627776) :
    Calls Try.prog 19 #[v] W fun e w' => OwnsNew W.heap.size 44 4 n xs e w' ∧ Below W.heap.size W w' := by
  obtain ⟨hlen, p, cap, rfl, ⟨rfl, rfl, rfl⟩ | ⟨ad, rfl, hcells⟩⟩ := hv
  · obtain rfl : xs = [] := List.eq_nil_of_length_eq_zero (by omega)
    have hcmp := fun w => Lib.run_eql_slice_nil (P := Try.prog) w 40 44 none 0 0 0 0 Try.underlying40
    go_enter Try.func19, Try.ntmps19
    go_wp2
    go_ret
    exact ⟨⟨_, rfl, World.ownsRow_nil _ _ _ _⟩, Below.refl _ _⟩
  · have hcmp := fun w => Lib.run_eql_slice_nil (P := Try.prog) w 40 44 (some ad) n cap 0 0 Try.underlying40
    obtain ⟨i0, hi, hz0, hz1, hz2⟩ := info_parts cloneA_info
    have hown := World.ownsRow_lit (base := W.heap.size) (e := 44) (size := 4) W #[] 0 (Nat.le_refl _) (by decide) rfl
    have hnews : ∀ j u, xs[j]? = some u → (W.alloc (Obj.cells #[] 44)).cell? (ad.add j) = some u := fun j u hj => by
      have h0 := hcells j u hj
      rw [World.cell?_alloc_lt _ _ _ (World.block_lt_of_cell? W _ h0)]
      exact h0
    have HN := Lib.hid hnews
    have H1 := Lib.hid h1
    have HO := Lib.hid hown
    clear hnews h1 hown hcells
    go_enter Try.func19, Try.ntmps19
    go_wp2_with (at_builtin; refine wpList_append_own _ rfl _ _ 40 rfl W.heap.size 44 i0 (.agg #[.int .i64 0, .int .i64 0, .int .u64 0, .int .u64 0]) 4 32 Try.underlying40 hi hz0 hz1 hz2 rfl (by decide) _ _ _ rfl HO.out ad n cap xs rfl hlen HN.out H1.out (by unfold maxLen; omega) (by omega) (by simp) ?_; intro v' w1 hown' hgrow _)
    go_ret
    rw [Nat.zero_add, List.nil_append] at hown'
    exact ⟨⟨v', rfl, hown'⟩, below_grown ((Below.refl _ _).alloc (Nat.le_refl _) _) hgrow (fun k e => by cases e; exact Nat.le_refl _)⟩

/-- What Step hands over. -/
def RefStep (B : Nat) (ms : List Bool) (r : List Int × Bool × (Int × Bool)) (e : Ending) (w' : World) : Prop := ∃ v', e = .returned (.tuple #[v', .agg #[.int .u64 r.2.2.1, .bool r.2.2.2]]) ∧ OwnsMem w' B v' r.1 ms r.2.1
/-- The variables for the results are given them. -/
def putR (w : World) (z : Nat) (x y : Value) (f : Bool) (g : Int) (d : Bool) : World := ((((w.setCell ⟨z, 0, none⟩ x).setCell ⟨z, 1, none⟩ y).setCell ⟨z, 2, none⟩ (.bool f)).setCell ⟨z + 1, 0, none⟩ (.int .u64 g)).setCell ⟨z + 1, 1, none⟩ (.bool d)
theorem putR_keeps (w : World) (z : Nat) (x y : Value) (f : Bool) (g : Int) (d : Bool) : Keeps (fun q => q = z ∨ q = z + 1) w (putR w z x y f g d) :=
  ((((Keeps.setCell w (S := fun q => q = z ∨ q = z + 1) (p := ⟨z, 0, none⟩) (.inl rfl) _).trans (Keeps.setCell _ (S := fun q => q = z ∨ q = z + 1) (p := ⟨z, 1, none⟩) (.inl rfl) _)).trans (Keeps.setCell _ (S := fun q => q = z ∨ q = z + 1) (p := ⟨z, 2, none⟩) (.inl rfl) _)).trans (Keeps.setCell _ (S := fun q => q = z ∨ q = z + 1) (p := ⟨z + 1, 0, none⟩) (.inr rfl) _)).trans (Keeps.setCell _ (S := fun q => q = z ∨ q = z + 1) (p := ⟨z + 1, 1, none⟩) (.inr rfl) _)
theorem putR_owns {w : World} {z B : Nat} {x y : Value} {f f0 : Bool} {g g0 : Int} {d d0 : Bool} {a b : Value} {us : List Int} {ms : List Bool} (hz : MBox w z a b f0) (hg : GBox w (z + 1) g0 d0) (h0 : w.ownsRow B 42 1 x us.length (us.map (Value.int .u64))) (h1 : w.ownsRow B 4 1 y ms.length (ms.map Value.bool)) :
    OwnsMem (putR w z x y f g d) B (.agg #[x, y, .bool f]) us ms f := by
  have hne : ∀ {E : TypeId} {n : Nat} {v : Value} {xs : List Value}, w.ownsRow B E 1 v n xs → E ≠ 25 → E ≠ 47 → ∀ q, v.ownBlock = some q → ¬ (q = z ∨ q = z + 1) := by
    intro E n v xs h hE hE2 q hq hs
    obtain ⟨c, fz, h1⟩ := Lib.ownsRow_kind h q hq
    rcases hs with rfl | rfl
    · rw [show w.heap[q]? = _ from hz] at h1
      simp at h1
      exact hE h1.2.1.symm
    · rw [show w.heap[z + 1]? = _ from hg] at h1
      simp at h1
      exact hE2 h1.2.1.symm
  exact ⟨_, _, rfl, (putR_keeps w z x y f g d).row h0 (hne h0 (by decide) (by decide)), (putR_keeps w z x y f g d).row h1 (hne h1 (by decide) (by decide))⟩

end Go.Proofs.Ytgpbhdoidhhhhaa
