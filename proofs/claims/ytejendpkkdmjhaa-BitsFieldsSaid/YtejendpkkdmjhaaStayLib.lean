/-
  Rows of memory that read as fields, and as words: what the calls of BitsStay and BitsFields hand on.
  Conditions: as each lemma has them.
-/
import Derived.Test.YtejendpkkdmjhaaApart
import Derived.Test.YtejendpkkdmjhaaClone
import Derived.Test.YtejendpkkdmjhaaEqual
namespace Go.Proofs.Ytejendpkkdmjhaa
open Go.RowKit Go.Shelf

/-- Fields as cells. -/
def flatF : List (Int × Int) → List Value
  | [] => []
  | f :: r => .int .i64 f.1 :: .int .i64 f.2 :: flatF r
theorem flatF_length (fs : List (Int × Int)) : (flatF fs).length = fs.length * 2 := by
  induction fs with
  | nil => rfl
  | cons f r ih => simp only [flatF, List.length_cons, ih]; omega
theorem flatF_get : ∀ (fs : List (Int × Int)) (i : Nat) (h : i < fs.length), (flatF fs)[i * 2]? = some (.int .i64 fs[i].1) ∧ (flatF fs)[i * 2 + 1]? = some (.int .i64 fs[i].2)
  | f :: r, 0, _ => ⟨rfl, rfl⟩
  | f :: r, i + 1, h => by
    have := flatF_get r i (by simpa using h)
    rw [show (i + 1) * 2 = i * 2 + 1 + 1 by omega]
    exact this
theorem flatF_cell (fs : List (Int × Int)) : ∀ u ∈ flatF fs, u.oneCell' = true := by
  induction fs with
  | nil => intro u h; cases h
  | cons f r ih =>
    intro u h
    simp only [flatF, List.mem_cons] at h
    rcases h with rfl | rfl | h
    · rfl
    · rfl
    · exact ih u h
def FRange (fs : List (Int × Int)) : Prop := ∀ f ∈ fs, (-9223372036854775808 ≤ f.1 ∧ f.1 ≤ 9223372036854775807) ∧ -9223372036854775808 ≤ f.2 ∧ f.2 ≤ 9223372036854775807

theorem fields_of_owns {B : Nat} {E : TypeId} {W : World} {v : Value} {fs : List (Int × Int)} (hr : FRange fs) (h : W.ownsRow B E 2 v fs.length (flatF fs)) : FieldsAt W v fs := by
  rcases h.2 with ⟨rfl, h0⟩ | ⟨g, cap, cur, rfl, _⟩
  · obtain rfl : fs = [] := List.eq_nil_of_length_eq_zero h0
    exact ⟨none, 0, rfl, hr, fun h => absurd rfl h⟩
  · refine ⟨_, _, rfl, hr, fun _ => ⟨g, 0, rfl, fun i hi => ?_⟩⟩
    have h1 := h.cellAt (i * 2) (by omega)
    have h2 := h.cellAt (i * 2 + 1) (by omega)
    rw [(flatF_get fs i hi).1] at h1
    rw [(flatF_get fs i hi).2] at h2
    simpa using ⟨h1, h2⟩
theorem nums_of_owns {B : Nat} {E : TypeId} {W : World} {v : Value} {k : IntKind} {ns : List Int} (h : W.ownsRow B E 1 v ns.length (ns.map (Value.int k))) : NumsAt W k v ns := by
  rcases h.2 with ⟨rfl, h0⟩ | ⟨g, cap, cur, rfl, _⟩
  · obtain rfl : ns = [] := List.eq_nil_of_length_eq_zero h0
    exact ⟨none, 0, rfl, fun h => absurd rfl h⟩
  · refine ⟨_, _, rfl, fun _ => ⟨g, 0, rfl, fun i hi => ?_⟩⟩
    have h1 := h.cellAt i (by omega)
    rw [List.getElem?_eq_getElem (by simpa using hi)] at h1
    simpa using h1
theorem fields_below {W W' : World} {v : Value} {fs : List (Int × Int)} (h : FieldsAt W v fs) (hb : Below W.heap.size W W') : FieldsAt W' v fs := by
  obtain ⟨p, cap, rfl, hr, hc⟩ := h
  refine ⟨p, cap, rfl, hr, fun hne => ?_⟩
  obtain ⟨b, off, rfl, hcs⟩ := hc hne
  exact ⟨b, off, rfl, fun i hi => ⟨below_cell hb (hcs i hi).1, below_cell hb (hcs i hi).2⟩⟩
theorem nums_below {W W' : World} {k : IntKind} {v : Value} {ns : List Int} (h : NumsAt W k v ns) (hb : Below W.heap.size W W') : NumsAt W' k v ns := by
  obtain ⟨p, cap, rfl, hc⟩ := h
  refine ⟨p, cap, rfl, fun hne => ?_⟩
  obtain ⟨b, off, rfl, hcs⟩ := hc hne
  exact ⟨b, off, rfl, fun i hi => below_cell hb (hcs i hi)⟩
/-- What a word has in each field, as numbers. -/
def splitI (w : Nat) (fs : List (Int × Int)) : List Int := fs.map fun f => (getN w f.1.toNat f.2.toNat : Nat)
theorem splitV_map (w : Nat) (fs : List (Int × Int)) : splitV w fs = (splitI w fs).map (Value.int .u64) := by simp [splitV, splitI]
theorem splitI_length (w : Nat) (fs : List (Int × Int)) : (splitI w fs).length = fs.length := by simp [splitI]

/-- An argument that is a slice of fields, or of words: nil, or at an address. -/
def ArgF (W : World) (v : Value) (fs : List (Int × Int)) : Prop := ∃ p n cap, v = .slice p n cap ∧ n = fs.length ∧ ((p = none ∧ n = 0 ∧ cap = 0) ∨ ∃ a : Addr, p = some a ∧ n ≤ cap ∧ ∀ j u, (flatF fs)[j]? = some u → W.cell? (a.add j) = some u)
def ArgW (W : World) (v : Value) (vs : List Int) : Prop := ∃ p n cap, v = .slice p n cap ∧ n = vs.length ∧ ((p = none ∧ n = 0 ∧ cap = 0) ∨ ∃ a : Addr, p = some a ∧ n ≤ cap ∧ ∀ j u, (vs.map (Value.int .u64))[j]? = some u → W.cell? (a.add j) = some u)
theorem flatF_take (fs : List (Int × Int)) (n : Nat) : flatF (fs.take n) = (flatF fs).take (n * 2) := by
  induction fs generalizing n with
  | nil => simp [flatF]
  | cons f r ih =>
    cases n with
    | zero => simp [flatF]
    | succ n => rw [show (n + 1) * 2 = n * 2 + 1 + 1 by omega]; simp only [List.take_succ_cons, flatF, ih]

end Go.Proofs.Ytejendpkkdmjhaa
