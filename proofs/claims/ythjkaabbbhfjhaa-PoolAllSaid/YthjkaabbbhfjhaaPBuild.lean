/-
  Package pool: a change is built of a pool and a row of flags.
  Conditions: none.
-/
import Derived.Test.YthjkaabbbhfjhaaPMid
namespace Go.Proofs.Ythjkaabbbhfjhaa
open Go.RowKit Go.Shelf

theorem fold_set : ∀ (l pre mid post : List Value) (off k : Nat), off + k = pre.length → mid.length = l.length →
    (l.zipIdx k).foldl (fun (cs : Array Value) (x : Value × Nat) => cs.setIfInBounds (off + x.2) x.1) (pre ++ (mid ++ post)).toArray = (pre ++ (l ++ post)).toArray
  | [], pre, mid, post, off, k, _, hl => by
    obtain rfl : mid = [] := List.eq_nil_of_length_eq_zero hl
    rfl
  | v :: r, pre, [], post, off, k, _, hl => by simp at hl
  | v :: r, pre, m :: mr, post, off, k, hk, hl => by
    have ih := fold_set r (pre ++ [v]) mr post off (k + 1) (by simp; omega) (by simpa using hl)
    simp only [List.zipIdx_cons, List.foldl_cons]
    rw [hk]
    simp only [List.append_assoc, List.singleton_append] at ih
    rw [show (pre ++ (m :: mr ++ post)).toArray.setIfInBounds pre.length v = (pre ++ v :: (mr ++ post)).toArray by simp, ih]
    rfl
theorem change_info : (Try.prog.info? 62).map (·.zero) = some (some (.agg (.int .i64 0 :: .int .i64 0 :: .slice none 0 0 :: List.replicate 64 (.bool false)).toArray)) := by kernel_rfl
theorem pool_size : (Try.prog.info? 24).map (·.size) = some 3 := by kernel_rfl

theorem build_change (b pg : Int) (p : Option Addr) (n c : Nat) (bs : List Bool) (hb : bs.length = 64) (w : World) :
    (Instr.build 62 #[(0, .agg #[.int .i64 b, .int .i64 pg, .slice p n c]), (1, .agg (bs.map Value.bool).toArray)]).run Try.prog w = .ok (.agg (.int .i64 b :: .int .i64 pg :: .slice p n c :: bs.map Value.bool).toArray) w := by
  have h0 := change_info
  have h1 := pool_size
  have h2 := flag_info
  cases e0 : Try.prog.info? 62 with
  | none => rw [e0] at h0; cases h0
  | some i0 =>
  cases e1 : Try.prog.info? 24 with
  | none => rw [e1] at h1; cases h1
  | some i1 =>
  cases e2 : Try.prog.info? 60 with
  | none => rw [e2] at h2; cases h2
  | some i2 =>
  rw [e0] at h0
  rw [e1] at h1
  rw [e2] at h2
  simp only [Option.map_some, Option.some.injEq] at h0 h1 h2
  have hf := fold_set (bs.map Value.bool) [.int .i64 b, .int .i64 pg, .slice p n c] (List.replicate 64 (.bool false)) [] 3 0 (by rfl) (by simp [hb])
  simp only [List.append_nil, List.cons_append, List.nil_append] at hf
  have hu := fun w => run_underlying (w := w) Try.underlying62
  simp [go_sem, Instr.build, zeroValue, typeInfo, sizeOf, hu, e0, e1, e2, h0, h1, h2, Instr.fill, hb]
  exact hf

theorem wpList_build2 {P : Program} {ops : Array Oper} {rest : List Oper} {op : Oper} {a : Act} {w : World} {Q : Exit → Act → World → Prop} (hgd : op.guard = none) (ty : TypeId) (x y : Operand) (ho : op.op = .build ty #[(0, x), (1, y)])
    (u v r : Value) (hx : a.eval x = u) (hy : a.eval y = v) (hr : (Instr.build ty #[(0, u), (1, v)]).run P w = .ok r w)
    (h : wpList P ops Q rest (a.put op.dst r) w) : wpList P ops Q (op :: rest) a w :=
  wpList_plain hgd fun K hK => by
    unfold Oper.wp execOp
    simp only [ho, List.map_toArray, List.map_cons, List.map_nil, hx, hy, Sem.run_bind, hr, Result.andThen_ok, Sem.run_pure]
    exact hK _ _ h
end Go.Proofs.Ythjkaabbbhfjhaa
