/-
  slices.Equal at rows that read the same: true; what was in memory stays. And what rows of pairs read.
  Conditions: both slices read as the same list.
-/
import Derived.Test.YtcledklajcdfiaaMBase
import Derived.Lib.Hide
namespace Go.Proofs.Ytcledklajcdfiaa
open Go.RowKit Go.Shelf

/-- A slice that reads as these answers of accesses. -/
def GotsAt (W : World) (v : Value) (gs : List (Int × Bool)) : Prop := ∃ p cap, v = .slice p gs.length cap ∧
  (gs ≠ [] → ∃ b off, p = some ⟨b, off, none⟩ ∧ ∀ i (h : i < gs.length), W.cell? ⟨b, off + i * 2, none⟩ = some (.int .u64 gs[i].1) ∧ W.cell? ⟨b, off + i * 2 + 1, none⟩ = some (.bool gs[i].2))
/-- A slice that reads as these pairs. -/
def PairsAt (W : World) (v : Value) (gs : List (Int × Int)) : Prop := ∃ p cap, v = .slice p gs.length cap ∧
  (gs ≠ [] → ∃ b off, p = some ⟨b, off, none⟩ ∧ ∀ i (h : i < gs.length), W.cell? ⟨b, off + i * 2, none⟩ = some (.int .i64 gs[i].1) ∧ W.cell? ⟨b, off + i * 2 + 1, none⟩ = some (.int .i64 gs[i].2))
theorem gots_below {W W' : World} {v : Value} {fs : List (Int × Bool)} (h : GotsAt W v fs) (hb : Below W.heap.size W W') : GotsAt W' v fs := by
  obtain ⟨p, cap, rfl, hc⟩ := h
  refine ⟨p, cap, rfl, fun hne => ?_⟩
  obtain ⟨b, off, rfl, hcs⟩ := hc hne
  exact ⟨b, off, rfl, fun i hi => ⟨below_cell hb (hcs i hi).1, below_cell hb (hcs i hi).2⟩⟩
theorem pairs_below {W W' : World} {v : Value} {fs : List (Int × Int)} (h : PairsAt W v fs) (hb : Below W.heap.size W W') : PairsAt W' v fs := by
  obtain ⟨p, cap, rfl, hc⟩ := h
  refine ⟨p, cap, rfl, fun hne => ?_⟩
  obtain ⟨b, off, rfl, hcs⟩ := hc hne
  exact ⟨b, off, rfl, fun i hi => ⟨below_cell hb (hcs i hi).1, below_cell hb (hcs i hi).2⟩⟩
/-- The answers, and the pairs, as cells. -/
def flatG : List (Int × Bool) → List Value
  | [] => []
  | f :: r => .int .u64 f.1 :: .bool f.2 :: flatG r
def flatP : List (Int × Int) → List Value
  | [] => []
  | f :: r => .int .i64 f.1 :: .int .i64 f.2 :: flatP r
theorem flatG_length (fs : List (Int × Bool)) : (flatG fs).length = fs.length * 2 := by
  induction fs with
  | nil => rfl
  | cons f r ih => simp only [flatG, List.length_cons, ih]; omega
theorem flatP_length (fs : List (Int × Int)) : (flatP fs).length = fs.length * 2 := by
  induction fs with
  | nil => rfl
  | cons f r ih => simp only [flatP, List.length_cons, ih]; omega
theorem flatG_get : ∀ (fs : List (Int × Bool)) (i : Nat) (h : i < fs.length), (flatG fs)[i * 2]? = some (.int .u64 fs[i].1) ∧ (flatG fs)[i * 2 + 1]? = some (.bool fs[i].2)
  | f :: r, 0, _ => ⟨rfl, rfl⟩
  | f :: r, i + 1, h => by
    have := flatG_get r i (by simpa using h)
    rw [show (i + 1) * 2 = i * 2 + 1 + 1 by omega]
    exact this
theorem flatP_get : ∀ (fs : List (Int × Int)) (i : Nat) (h : i < fs.length), (flatP fs)[i * 2]? = some (.int .i64 fs[i].1) ∧ (flatP fs)[i * 2 + 1]? = some (.int .i64 fs[i].2)
  | f :: r, 0, _ => ⟨rfl, rfl⟩
  | f :: r, i + 1, h => by
    have := flatP_get r i (by simpa using h)
    rw [show (i + 1) * 2 = i * 2 + 1 + 1 by omega]
    exact this
theorem gots_of_owns {B : Nat} {E : TypeId} {W : World} {v : Value} {fs : List (Int × Bool)} {n : Nat} (hl : fs.length = n) (h : W.ownsRow B E 2 v n (flatG fs)) : GotsAt W v fs := by
  subst hl
  rcases h.2 with ⟨rfl, h0⟩ | ⟨g, cap, cur, rfl, _⟩
  · obtain rfl : fs = [] := List.eq_nil_of_length_eq_zero h0
    exact ⟨none, 0, rfl, fun h => absurd rfl h⟩
  · refine ⟨_, _, rfl, fun _ => ⟨g, 0, rfl, fun i hi => ?_⟩⟩
    have h1 := h.cellAt (i * 2) (by omega)
    have h2 := h.cellAt (i * 2 + 1) (by omega)
    rw [(flatG_get fs i hi).1] at h1
    rw [(flatG_get fs i hi).2] at h2
    simpa using ⟨h1, h2⟩
theorem pairs_of_owns {B : Nat} {E : TypeId} {W : World} {v : Value} {fs : List (Int × Int)} {n : Nat} (hl : fs.length = n) (h : W.ownsRow B E 2 v n (flatP fs)) : PairsAt W v fs := by
  subst hl
  rcases h.2 with ⟨rfl, h0⟩ | ⟨g, cap, cur, rfl, _⟩
  · obtain rfl : fs = [] := List.eq_nil_of_length_eq_zero h0
    exact ⟨none, 0, rfl, fun h => absurd rfl h⟩
  · refine ⟨_, _, rfl, fun _ => ⟨g, 0, rfl, fun i hi => ?_⟩⟩
    have h1 := h.cellAt (i * 2) (by omega)
    have h2 := h.cellAt (i * 2 + 1) (by omega)
    rw [(flatP_get fs i hi).1] at h1
    rw [(flatP_get fs i hi).2] at h2
    simpa using ⟨h1, h2⟩

theorem part_int {P : Program} {e : TypeId} {k : IntKind} (he : P.underlying e = some (.int k)) (xs : Array Value) (i : Nat) (v : Value) (hv : xs[i]? = some v) (w : World) : (part e xs i).run P w = .ok v w := by
  simp [part, isAgg, run_underlying he, hv]
theorem run_neq_pair {P : Program} {t e : TypeId} (ht : P.underlying t = some (.array 2 e)) (he : P.underlying e = some (.int .i64)) (hsz : ∀ w, (sizeOf e).run P w = .ok 1 w) (a b : Int) (w : World) :
    (binOp .neq t (.agg #[.int .i64 a, .int .i64 b]) (.agg #[.int .i64 a, .int .i64 b])).run P w = .ok (.bool false) w := by
  have p0 : ∀ w, (part e #[.int .i64 a, .int .i64 b] (0 * 1)).run P w = .ok (.int .i64 a) w := part_int he _ _ _ rfl
  have p1 : ∀ w, (part e #[.int .i64 a, .int .i64 b] (1 * 1)).run P w = .ok (.int .i64 b) w := part_int he _ _ _ rfl
  have e0 : ∀ x w, (Op.equalIn 9999 e (.int .i64 x) (.int .i64 x)).run P w = .ok true w := fun x w => by rw [run_equalIn_int w 9998 e .i64 .i64 x x he]; simp
  rw [run_neq_struct, Op.equalIn]
  simp only [Sem.run_bind, run_underlying ht, Result.andThen_ok, hsz, Std.Legacy.Range.forIn_eq_forIn_range', Std.Legacy.Range.size, Nat.sub_zero, Nat.add_sub_cancel, Nat.div_one]
  simp only [show List.range' 0 2 1 = [0, 1] from rfl, List.forIn_cons, List.forIn_nil, Sem.run_bind, p0, p1, Result.andThen_ok, e0, Bool.not_true, Bool.false_eq_true, if_false, Sem.run_pure]

theorem int_info : (Try.prog.info? 3).map (fun i => (i.zero, i.size, i.bytes)) = some (some (.int .i64 0), 1, 8) := by kernel_rfl

end Go.Proofs.Ytcledklajcdfiaa
