/-
  Calls are held against each other: whether both are the same.
  Conditions: none but the ranges of Go's types.
-/
import Derived.Test.YtjgdkfgcfningaaDoorSRead2
namespace Go.Proofs.YtjgdkfgcfningaaDoor
open Go.RowKit Go.Shelf

instance callDec : DecidableEq CallM := fun a b =>
  if h : a.k = b.k ∧ a.a0 = b.a0 ∧ a.a1 = b.a1 ∧ a.a2 = b.a2 ∧ a.a3 = b.a3 then isTrue (by cases a; cases b; simp_all) else isFalse (by rintro rfl; exact h ⟨rfl, rfl, rfl, rfl, rfl⟩)
/-- A call, as a value. -/
def callV (x : CallM) : Value := .agg #[nv x.k, nv x.a0, nv x.a1, nv x.a2, nv x.a3]
theorem part_int {P : Program} {e : TypeId} {k : IntKind} (he : P.underlying e = some (.int k)) (xs : Array Value) (i : Nat) (v : Value) (hv : xs[i]? = some v) (w : World) : (part e xs i).run P w = .ok v w := by
  simp [part, isAgg, run_underlying he, hv]
theorem run_equal_four {P : Program} {t e : TypeId} (ht : P.underlying t = some (.array 4 e)) (he : P.underlying e = some (.int .u64)) (hsz : ∀ w, (sizeOf e).run P w = .ok 1 w) (a b c d a' b' c' d' : Int) (n : Nat) (w : World) :
    (Op.equalIn (n + 2) t (.agg #[.int .u64 a, .int .u64 b, .int .u64 c, .int .u64 d]) (.agg #[.int .u64 a', .int .u64 b', .int .u64 c', .int .u64 d'])).run P w = .ok (decide (a = a' ∧ b = b' ∧ c = c' ∧ d = d')) w := by
  have p0 : ∀ w, (part e #[.int .u64 a, .int .u64 b, .int .u64 c, .int .u64 d] 0).run P w = .ok (.int .u64 a) w := part_int he _ _ _ rfl
  have p1 : ∀ w, (part e #[.int .u64 a, .int .u64 b, .int .u64 c, .int .u64 d] 1).run P w = .ok (.int .u64 b) w := part_int he _ _ _ rfl
  have p2 : ∀ w, (part e #[.int .u64 a, .int .u64 b, .int .u64 c, .int .u64 d] 2).run P w = .ok (.int .u64 c) w := part_int he _ _ _ rfl
  have p3 : ∀ w, (part e #[.int .u64 a, .int .u64 b, .int .u64 c, .int .u64 d] 3).run P w = .ok (.int .u64 d) w := part_int he _ _ _ rfl
  have q0 : ∀ w, (part e #[.int .u64 a', .int .u64 b', .int .u64 c', .int .u64 d'] 0).run P w = .ok (.int .u64 a') w := part_int he _ _ _ rfl
  have q1 : ∀ w, (part e #[.int .u64 a', .int .u64 b', .int .u64 c', .int .u64 d'] 1).run P w = .ok (.int .u64 b') w := part_int he _ _ _ rfl
  have q2 : ∀ w, (part e #[.int .u64 a', .int .u64 b', .int .u64 c', .int .u64 d'] 2).run P w = .ok (.int .u64 c') w := part_int he _ _ _ rfl
  have q3 : ∀ w, (part e #[.int .u64 a', .int .u64 b', .int .u64 c', .int .u64 d'] 3).run P w = .ok (.int .u64 d') w := part_int he _ _ _ rfl
  have e0 : ∀ x y w, (Op.equalIn (n + 1) e (.int .u64 x) (.int .u64 y)).run P w = .ok (x == y) w := fun x y w => by rw [run_equalIn_int w n e .u64 .u64 x y he]
  rw [Op.equalIn]
  simp only [Sem.run_bind, run_underlying ht, Result.andThen_ok, hsz, Std.Legacy.Range.forIn_eq_forIn_range', Std.Legacy.Range.size, Nat.sub_zero, Nat.add_sub_cancel, Nat.div_one]
  have hr : List.range' 0 4 1 = [0, 1, 2, 3] := rfl
  simp [hr, Sem.run_bind, Result.andThen_ok, p0, p1, p2, p3, q0, q1, q2, q3, e0]
  clear p0 p1 p2 p3 q0 q1 q2 q3 e0
  by_cases h0 : a = a' <;> by_cases h1 : b = b' <;> by_cases h2 : c = c' <;> by_cases h3 : d = d' <;> simp [*]

theorem run_neq_call (x y : CallM) (w : World) : (binOp .neq 53 (callV x) (callV y)).run Tryd.prog w = .ok (.bool (!decide (x = y))) w := by
  unfold callV nv
  rw [run_neq_struct, Op.equalIn]
  have hst : Tryd.prog.stoodInHeld 53 = false := by kernel_rfl
  have hpr : ∀ w, Sem.run Tryd.prog program w = .ok Tryd.prog w := fun _ => rfl
  simp only [Sem.run_bind, run_underlying Tryd.underlying53, Result.andThen_ok, hpr, hst, Bool.false_eq_true, if_false]
  have pk : ∀ (z : CallM) w, (part 37 #[.int .u64 (z.k : Int), .int .u64 (z.a0 : Int), .int .u64 (z.a1 : Int), .int .u64 (z.a2 : Int), .int .u64 (z.a3 : Int)] 0).run Tryd.prog w = .ok (.int .u64 (z.k : Int)) w := fun z w => part_int Tryd.underlying37 _ _ _ rfl w
  have pa : ∀ (z : CallM) w, (part 51 #[.int .u64 (z.k : Int), .int .u64 (z.a0 : Int), .int .u64 (z.a1 : Int), .int .u64 (z.a2 : Int), .int .u64 (z.a3 : Int)] 1).run Tryd.prog w = .ok (.agg #[.int .u64 (z.a0 : Int), .int .u64 (z.a1 : Int), .int .u64 (z.a2 : Int), .int .u64 (z.a3 : Int)]) w := fun z w => by kernel_rfl
  have ek : ∀ (p q : Int) w, (Op.equalIn 9999 37 (.int .u64 p) (.int .u64 q)).run Tryd.prog w = .ok (p == q) w := fun p q w => by rw [run_equalIn_int w 9998 37 .u64 .u64 p q Tryd.underlying37]
  have ea : ∀ (a b c d a' b' c' d' : Int) w, (Op.equalIn 9999 51 (.agg #[.int .u64 a, .int .u64 b, .int .u64 c, .int .u64 d]) (.agg #[.int .u64 a', .int .u64 b', .int .u64 c', .int .u64 d'])).run Tryd.prog w = .ok (decide (a = a' ∧ b = b' ∧ c = c' ∧ d = d')) w := fun a b c d a' b' c' d' w => run_equal_four Tryd.underlying51 Tryd.underlying37 (fun _ => by kernel_rfl) a b c d a' b' c' d' 9997 w
  have hxy : decide (x = y) = (((x.k : Int) == (y.k : Int)) && decide ((x.a0 : Int) = y.a0 ∧ (x.a1 : Int) = y.a1 ∧ (x.a2 : Int) = y.a2 ∧ (x.a3 : Int) = y.a3)) := by
    rw [Bool.eq_iff_iff]
    simp only [decide_eq_true_eq, Bool.and_eq_true, beq_iff_eq]
    constructor
    · rintro rfl; exact ⟨rfl, rfl, rfl, rfl, rfl⟩
    · rintro ⟨h0, h1, h2, h3, h4⟩
      cases x; cases y
      simp only at h0 h1 h2 h3 h4
      simp only [CallM.mk.injEq]
      omega
  rw [hxy]
  clear hxy
  simp [Sem.run_bind, Result.andThen_ok, pk, pa, ek, ea]
  clear pk pa ek ea hst hpr
  by_cases h0 : (x.k : Int) = y.k <;> by_cases h1 : (x.a0 : Int) = y.a0 <;> by_cases h2 : (x.a1 : Int) = y.a1 <;> by_cases h3 : (x.a2 : Int) = y.a2 <;> by_cases h4 : (x.a3 : Int) = y.a3 <;> simp [*]

end Go.Proofs.YtjgdkfgcfningaaDoor
