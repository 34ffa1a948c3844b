/-
  SeqStays, its words: a memory and a read in variables.
  Conditions: none.
-/
import Derived.Test.YtaljpggajpoalaaSBH
namespace Go.Proofs.Ytaljpggajpoalaa
open Go.RowKit Go.Shelf

theorem own_slice {X : World} {B : Nat} {E : TypeId} {s n : Nat} {v : Value} {xs : List Value} (h : X.ownsRow B E s v n xs) : ∃ p c, v = .slice p n c := by
  rcases h.2 with ⟨rfl, rfl⟩ | ⟨g, cap, cur, rfl, _⟩
  · exact ⟨_, _, rfl⟩
  · exact ⟨_, _, rfl⟩
theorem stepR_over (ms : List Bool) (us : List Int) (f : Bool) (s : RdM) (vs : List Int) (h : 4 ≤ s.p) : stepR ms us f s vs = ((us, f), s, vs) := by unfold stepR; rw [if_pos h]
theorem stepR_shape (ms : List Bool) (us : List Int) (f : Bool) (s : RdM) (vs : List Int) (h4 : ¬ 4 ≤ s.p) (hr : rightRB s vs.length = true) (hw : WRange us) (hb : 0 ≤ s.b ∧ s.b ≤ 18446744073709551615) :
    (((stepR ms us f s vs).1.2 = true ∧ (stepR ms us f s vs).2.1.p = 5) ∨ ((stepR ms us f s vs).1.2 = f ∧ (stepR ms us f s vs).2.1.p ≠ 5)) ∧ (s.t ≤ (stepR ms us f s vs).2.1.t ∧ (stepR ms us f s vs).2.1.t ≤ s.t + 1) ∧ (0 ≤ (stepR ms us f s vs).2.1.b ∧ (stepR ms us f s vs).2.1.b ≤ 18446744073709551615) := by
  obtain ⟨⟨hm0, hm1⟩, -, ht, hF⟩ := rightRB_parts hr
  obtain ⟨-, -, -, hp⟩ := fits_le hm0 hF
  obtain ⟨⟨us', u', h, d⟩, hq⟩ : ∃ x, x = accM us ms f 1 (if s.p = 2 then s.f + (vs.length : Int) else s.a) 0 0 := ⟨_, rfl⟩
  have hrg := acc_range hw hq.symm
  have hd : (d = false ∧ u' = true) ∨ (d = true ∧ u' = f) := by
    have e : (accM us ms f 1 (if s.p = 2 then s.f + (vs.length : Int) else s.a) 0 0) = (us', u', h, d) := hq.symm
    cases hl : liveAt us ms (if s.p = 2 then s.f + (vs.length : Int) else s.a) with
    | true => rw [accM_load hl] at e; injection e with _ e; injection e with e1 e; injection e with _ e2; exact .inr ⟨e2.symm, e1.symm⟩
    | false => rw [accM_out hl] at e; injection e with _ e; injection e with e1 e; injection e with _ e2; exact .inl ⟨e2.symm, e1.symm⟩
  unfold stepR
  rw [if_neg h4, ← hq]
  dsimp only
  have hph : ∀ (m : Int) (n : Nat), phR m n ≠ 5 := by intro m n; unfold phR; split <;> decide
  rcases hd with ⟨rfl, rfl⟩ | ⟨rfl, rfl⟩
  · rw [if_pos rfl]
    exact ⟨.inl ⟨rfl, rfl⟩, ⟨Int.le_refl _, by dsimp only; omega⟩, hb⟩
  · rw [if_neg (by decide)]
    split
    · split
      · exact ⟨.inr ⟨rfl, hph _ _⟩, ⟨Int.le_refl _, by dsimp only; omega⟩, hrg⟩
      · exact ⟨.inr ⟨rfl, by dsimp only; omega⟩, ⟨Int.le_refl _, by dsimp only; omega⟩, hb⟩
    · split
      · exact ⟨.inr ⟨rfl, hph _ _⟩, ⟨Int.le_refl _, by dsimp only; omega⟩, hb⟩
      · split
        · exact ⟨.inr ⟨rfl, by dsimp only; omega⟩, ⟨Int.le_refl _, by dsimp only; omega⟩, hb⟩
        · refine ⟨.inr ⟨rfl, by dsimp only; omega⟩, ⟨?_, ?_⟩, hb⟩ <;> dsimp only <;> split <;> omega

theorem rem20 (steps : Int) : ∃ N : Nat, wrap64 ((IntKind.u64.wrap steps).tmod 20) = (N : Int) ∧ N ≤ 19 := by
  have h := u64wrap_range steps
  obtain ⟨x, hx⟩ := Int.eq_ofNat_of_zero_le h.1
  refine ⟨x % 20, ?_, by omega⟩
  rw [hx]
  have e : ((x : Int)).tmod 20 = ((x % 20 : Nat) : Int) := rfl
  rw [e]
  unfold wrap64
  omega
/-- A memory and a read in two variables. -/
def StV (B : Nat) (w : World) (zm zr : Nat) (us : List Int) (ms : List Bool) (f : Bool) (s : RdM) (vs : List Int) : Prop :=
  ∃ px cx py cy pv cv, MBox w zm (.slice px us.length cx) (.slice py ms.length cy) f ∧ RdBox w zr s (.slice pv vs.length cv) ∧ w.ownsRow B 27 1 (.slice px us.length cx) us.length (us.map (Value.int .u64)) ∧ w.ownsRow B 4 1 (.slice py ms.length cy) ms.length (ms.map Value.bool) ∧ w.ownsRow B 27 1 (.slice pv vs.length cv) vs.length (vs.map (Value.int .u64))
theorem StV.below {B : Nat} {w w' : World} {zm zr : Nat} {us : List Int} {ms : List Bool} {f : Bool} {s : RdM} {vs : List Int} (h : StV B w zm zr us ms f s vs) (hb : Below w.heap.size w w') : StV B w' zm zr us ms f s vs := by
  obtain ⟨px, cx, py, cy, pv, cv, h1, h2, h3, h4, h5⟩ := h
  exact ⟨px, cx, py, cy, pv, cv, h1.below hb, h2.below hb, owns_below h3 hb, owns_below h4 hb, owns_below h5 hb⟩
theorem StV.mono {B B' : Nat} {w : World} {zm zr : Nat} {us : List Int} {ms : List Bool} {f : Bool} {s : RdM} {vs : List Int} (h : StV B w zm zr us ms f s vs) (hB : B' ≤ B) : StV B' w zm zr us ms f s vs := by
  obtain ⟨px, cx, py, cy, pv, cv, h1, h2, h3, h4, h5⟩ := h
  exact ⟨px, cx, py, cy, pv, cv, h1, h2, h3.mono hB, h4.mono hB, h5.mono hB⟩

end Go.Proofs.Ytaljpggajpoalaa
