/-
  slices.Equal at rows of runs that read the same; a guarded operation that is passed over.
  Conditions: none but the ranges of Go's types.
-/
import Derived.Test.YtjgdkfgcfningaaDoorSRuns3
import Derived.Test.YtjgdkfgcfningaaDoorSRd3
import Derived.Test.YtjgdkfgcfningaaDoorHeld
namespace Go.Proofs.YtjgdkfgcfningaaDoor
open Go.RowKit Go.Shelf

theorem run_neq_pair {P : Program} {t e : TypeId} (ht : P.underlying t = some (.array 2 e)) (he : P.underlying e = some (.int .i64)) (hsz : ∀ w, (sizeOf e).run P w = .ok 1 w) (a b : Int) (w : World) :
    (binOp .neq t (.agg #[.int .i64 a, .int .i64 b]) (.agg #[.int .i64 a, .int .i64 b])).run P w = .ok (.bool false) w := by
  have p0 : ∀ w, (part e #[.int .i64 a, .int .i64 b] (0 * 1)).run P w = .ok (.int .i64 a) w := part_int he _ _ _ rfl
  have p1 : ∀ w, (part e #[.int .i64 a, .int .i64 b] (1 * 1)).run P w = .ok (.int .i64 b) w := part_int he _ _ _ rfl
  have e0 : ∀ x w, (Op.equalIn 9999 e (.int .i64 x) (.int .i64 x)).run P w = .ok true w := fun x w => by rw [run_equalIn_int w 9998 e .i64 .i64 x x he]; simp
  rw [run_neq_struct, Op.equalIn]
  simp only [Sem.run_bind, run_underlying ht, Result.andThen_ok, hsz, Std.Legacy.Range.forIn_eq_forIn_range', Std.Legacy.Range.size, Nat.sub_zero, Nat.add_sub_cancel, Nat.div_one]
  simp only [show List.range' 0 2 1 = [0, 1] from rfl, List.forIn_cons, List.forIn_nil, Sem.run_bind, p0, p1, Result.andThen_ok, e0, Bool.not_true, Bool.false_eq_true, if_false, Sem.run_pure]

set_option maxHeartbeats 4000000 in
theorem equalR_same (p0 p1 : Option Addr) (n c0 c1 : Nat) (rs : List (Int × Nat)) (W : World) (hn : n = rs.length) (h0 : VRow W p0 n c0 2 (cellsR rs)) (h1 : VRow W p1 n c1 2 (cellsR rs)) (hl : n ≤ 9223372036854775807) :
    Calls Tryd.prog 17 #[.slice p0 n c0, .slice p1 n c1] W fun e w' => e = .returned (.bool true) ∧ Below W.heap.size W w' := by
  have HN := Lib.hid hn
  have H0 := Lib.hid h0
  have H1 := Lib.hid h1
  clear h0 h1 hn
  go_enter Tryd.func17, Tryd.ntmps17
  have hne : ((n : Int) != (n : Int)) = false := by rw [bne_eq_false_iff_eq]
  go_wp2
  go_loopw [13] (fun iv wr => ∃ i : Nat, i ≤ n ∧ iv = .int .i64 i ∧ Below W.heap.size W wr) (fun iv _ => n - (intOf iv).toNat)
  case atStart => exact ⟨0, Nat.zero_le _, rfl, Below.refl _ _⟩
  case round =>
    obtain ⟨i, hi, rfl, hB⟩ := hrel
    by_cases hlt : i < n
    · obtain ⟨b0, off0, rfl, hcs0⟩ := H0.out.pairs (by have := HN.out; omega)
      obtain ⟨b1, off1, rfl, hcs1⟩ := H1.out.pairs (by have := HN.out; omega)
      have hir : i < rs.reverse.length := by rw [List.length_reverse]; have := HN.out; omega
      obtain ⟨hx, hy⟩ := hcs0 i hir
      obtain ⟨hz, hu⟩ := hcs1 i hir
      obtain ⟨⟨a, k⟩, hak⟩ : ∃ f, f = rs.reverse[i] := ⟨_, rfl⟩
      rw [← hak] at hx hy hz hu
      simp only at hx hy hz hu
      obtain ⟨kk, hkk⟩ : ∃ kk : Int, kk = (k : Int) := ⟨_, rfl⟩
      rw [← hkk] at hy hu
      have hx' := below_cell hB hx
      have hy' := below_cell hB hy
      have hz' := below_cell hB hz
      have hu' := below_cell hB hu
      obtain ⟨i0, hi0, _, hz1, _⟩ := info_parts int_info
      have hcmp := fun w => run_neq_pair (P := Tryd.prog) (t := 40) (e := 3) Tryd.underlying40 Tryd.underlying3 (fun w => by simp [sizeOf, typeInfo, hi0, hz1]) a kk w
      clear hx hy hz hu hcs0 hcs1 hak hne hkk hir
      go_wp2
      go_quiet (fail)
      go_wp2
      all_goals
        go_roundw
        case rel => exact ⟨i + 1, by omega, by go_num, below_drewN hB _⟩
        case measure => simp [intOf]; omega
    · go_wp2
      go_ret
      exact ⟨rfl, hB⟩

section
variable {P : Program} {ops : Array Oper} {Q : Exit → Act → World → Prop} {md : Region.Mode} {T S : World → Prop} {late : Nat → Bool}
/-- Passed over: its guard is not met. -/
theorem wpTwo_skip {i : Nat} {oi : Oper} {n : Nat} {did : Array Bool} {a : Act} {w : World} (hi : ops[i]? = some oi) (hs : Region.noSelect ops = true) (hf : Region.free md ops did i = true)
    (hr : (Region.ready md ops did).contains i = true) (hQ : ∀ c a w, Q (.panic c) (a.put oi.dst undef) w → Q (.panic c) a w)
    (hy : Region.wanted oi (yielded ops a.tmps) = false) (hw : T w)
    (h : wpTwo P md ops Q T S late n (did.setIfInBounds i true) (a.put oi.dst undef) w) : wpTwo P md ops Q T S late (n + 1) did a w :=
  wpTwo_next (R := T) hi hs hQ (fun _ h => h) (fun _ _ _ _ _ _ _ hk => hk.1) n did a w (Region.free_spec hi hf) (by simpa using hr) (.inr ⟨hy, rfl⟩) hw h
end

end Go.Proofs.YtjgdkfgcfningaaDoor
