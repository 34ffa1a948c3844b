/-
  Who wants a lock: where it is, what it asks for, and where it is then; plain mathematics.
  Conditions: none.
-/
import Derived.WalkKit
namespace Go.Proofs.Ytcledklajcdfiaa
open Go.RowKit

/-- One who wants a lock: the lock's place, the phase, the ticket. -/
structure SpM where
  a : Int
  p : Int
  t : Int
def spV (s : SpM) : Value := .agg #[.int .i64 s.a, .int .i64 s.p, .int .u64 s.t]
def rightS (s : SpM) : Bool := decide (0 ≤ s.a) && decide (0 ≤ s.p) && decide (s.p ≤ 5) && (!decide (s.p = 0) || decide (s.t = 0))
def hasS (s : SpM) : Bool := !decide (s.p = 3) && !decide (s.p = 5)
/-- One more, of a word. -/
def incU (t : Int) : Int := IntKind.u64.wrap (t + 1)
/-- One more, of an int. -/
def incI (t : Int) : Int := wrap64 (t + 1)
/-- An access: its kind, its word, what is expected, what it will hold. -/
structure NdM where
  k : Int
  a : Int
  o : Int
  n : Int
def ndV (x : NdM) : Value := .agg #[.int .i64 x.k, .int .i64 x.a, .int .u64 x.o, .int .u64 x.n]
def needS (s : SpM) : NdM :=
  if s.p = 0 then ⟨1, s.a, 0, 0⟩ else if s.p = 1 then ⟨3, s.a, s.t, incU s.t⟩ else if s.p = 2 then ⟨1, incI s.a, 0, 0⟩ else ⟨2, incI s.a, 0, incU s.t⟩
def takeS (s : SpM) (v : Int) (d : Bool) : SpM :=
  if s.p = 1 then (if d = true then ⟨s.a, 2, s.t⟩ else ⟨s.a, 0, 0⟩)
  else if d = false then s
  else if s.p = 0 then ⟨s.a, 1, v⟩
  else if s.p = 2 then (if v = s.t then ⟨s.a, 3, s.t⟩ else s)
  else if s.p = 4 then ⟨s.a, 5, s.t⟩ else s
/-- In the range of Go's words, and ints. -/
structure SpR (s : SpM) : Prop where
  a0 : -9223372036854775808 ≤ s.a
  a1 : s.a ≤ 9223372036854775807
  p0 : -9223372036854775808 ≤ s.p
  p1 : s.p ≤ 9223372036854775807
  t0 : 0 ≤ s.t
  t1 : s.t ≤ 18446744073709551615
theorem rightS_iff {s : SpM} : rightS s = true ↔ 0 ≤ s.a ∧ (s.p = 0 ∧ s.t = 0 ∨ s.p = 1 ∨ s.p = 2 ∨ s.p = 3 ∨ s.p = 4 ∨ s.p = 5) := by
  simp only [rightS, Bool.and_eq_true, Bool.or_eq_true, Bool.not_eq_true', decide_eq_true_eq, decide_eq_false_iff_not]
  omega
theorem incU_rng (t : Int) : 0 ≤ incU t ∧ incU t ≤ 18446744073709551615 := by
  unfold incU
  simp only [IntKind.wrap, IntKind.signed, IntKind.bits]
  simp
  omega
theorem takeS_rng {s : SpM} (h : SpR s) {v : Int} (hv0 : 0 ≤ v) (hv1 : v ≤ 18446744073709551615) (d : Bool) : SpR (takeS s v d) := by
  obtain ⟨h1, h2, h3, h4, h5, h6⟩ := h
  unfold takeS
  repeat' split
  all_goals exact ⟨by first | assumption | omega, by first | assumption | omega, by first | assumption | (simp; done) | omega, by first | assumption | (simp; done) | omega, by first | assumption | (simp; done) | omega, by first | assumption | (simp; done) | omega⟩
theorem takeS_right {s : SpM} (h : rightS s = true) (v : Int) (d : Bool) : rightS (takeS s v d) = true := by
  obtain ⟨ha, hp⟩ := rightS_iff.1 h
  rw [rightS_iff]
  unfold takeS
  repeat' split
  all_goals simp_all
theorem takeS_a (s : SpM) (v : Int) (d : Bool) : (takeS s v d).a = s.a := by
  unfold takeS
  repeat' split
  all_goals rfl

end Go.Proofs.Ytcledklajcdfiaa
