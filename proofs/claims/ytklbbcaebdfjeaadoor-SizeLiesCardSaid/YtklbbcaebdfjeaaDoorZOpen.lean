/-
  Opening arguments of layer 8: a number, a block, an array of three numbers.
  Conditions: none.
-/
import Derived.Test.YtklbbcaebdfjeaaDoorClose
import Derived.Test.YtklbbcaebdfjeaaDoorZBase
import Derived.Lib.SmallJoins
namespace Go.Proofs.YtklbbcaebdfjeaaDoor
open Go.ChangeShapes Go.WideShapes Go.ChangeAt Go.RowKit Go.Joins

theorem i64_of {a : Int} (wa : (Lit.int .i64 a).wf = true) : I64 a := by simpa [I64, Lit.wf, IntKind.min, IntKind.max, IntKind.signed, IntKind.bits] using wa
theorem int_arg {H : Type} {enc : TypeId × Value → H} {W : World} {base : Nat} {v : Value} {d : DataW H} {ps : List MemPlace}
    (hval : Value.okWide Tryd.prog W .any base 3 v) (h : DataW.Trod enc Tryd.prog W 0 (fun _ => true) true 3 v d ps) :
    ∃ n : Int, v = .int .i64 n ∧ I64 n := by
  obtain ⟨a0, rfl, _, _, w0⟩ := open_int Tryd.underlying3 hval h
  exact ⟨a0, rfl, i64_of w0⟩
set_option maxRecDepth 100000 in
theorem blk_arg {H : Type} {enc : TypeId × Value → H} {W : World} {base : Nat} {v : Value} {d : DataW H} {ps : List MemPlace}
    (hval : Value.okWide Tryd.prog W .any base 33 v) (h : DataW.Trod enc Tryd.prog W 0 (fun _ => true) true 33 v d ps) :
    ∃ a c : Int, v = blkV a c ∧ I64 a ∧ I64 c := by
  obtain ⟨v0, v1, y0, y1, n, rfl, _, _, h0, h1⟩ := open_agg2 Tryd.underlying33 (by kernel_rfl) (by kernel_rfl) hval h
  obtain ⟨a, ha, _, wa⟩ := DataW.trod_int (t := 3) Tryd.underlying3 h0
  obtain ⟨c, hc, _, wc⟩ := DataW.trod_int (t := 3) Tryd.underlying3 h1
  simp only [List.cons.injEq, and_true] at ha hc
  subst ha hc
  exact ⟨a, c, rfl, i64_of wa, i64_of wc⟩
theorem array3 {cs : Array Value} (h : cs.size = 3) : ∃ a b c, cs = #[a, b, c] := by
  obtain ⟨l⟩ := cs
  match l, h with
  | [a, b, c], _ => exact ⟨a, b, c, rfl⟩
theorem trod_array3 {H : Type} {enc : TypeId × Value → H} {P : Program} {w : World} {base : Nat} {spare : Nat → Bool} {held : Bool} {t e : TypeId} {fuel : Nat} {c0 c1 c2 : Value} {x : DataW H × List MemPlace} (ht : P.underlying t = some (.array 3 e)) (hce : P.cellsOf e = 1)
    (h : DataW.trod enc P w base spare held fuel t [c0, c1, c2] = some x) :
    ∃ y0 y1 y2 n, DataW.trod enc P w base spare held n e [c0] = some y0 ∧ DataW.trod enc P w base spare held n e [c1] = some y1 ∧ DataW.trod enc P w base spare held n e [c2] = some y2 := by
  cases fuel with
  | zero => simp [DataW.trod] at h
  | succ n =>
    unfold DataW.trod at h
    rw [ht] at h
    have r3 : List.range 3 = [0, 1, 2] := rfl
    simp [r3, hce] at h
    obtain ⟨_, h⟩ := h
    cases h0 : DataW.trod enc P w base spare held n e [c0] with
    | none => simp [h0] at h
    | some y0 =>
      cases h1 : DataW.trod enc P w base spare held n e [c1] with
      | none => simp [h0, h1] at h
      | some y1 =>
        cases h2 : DataW.trod enc P w base spare held n e [c2] with
        | none => simp [h0, h1, h2] at h
        | some y2 => exact ⟨y0, y1, y2, n, h0, h1, h2⟩
theorem arr3_arg {H : Type} {enc : TypeId × Value → H} {W : World} {base : Nat} {v : Value} {d : DataW H} {ps : List MemPlace}
    (hval : Value.okWide Tryd.prog W .any base 38 v) (h : DataW.Trod enc Tryd.prog W 0 (fun _ => true) true 38 v d ps) :
    ∃ x y z, v = .agg #[.int .i64 x, .int .i64 y, .int .i64 z] ∧ I64 x ∧ I64 y ∧ I64 z := by
  have hval2 := hval
  unfold Value.okWide at hval2
  rw [Tryd.underlying38] at hval2
  obtain ⟨cs, rfl, hsz, _⟩ := hval2
  obtain ⟨c0, c1, c2, rfl⟩ := array3 (hsz.trans (by kernel_rfl))
  obtain ⟨fuel, hf⟩ := h
  obtain ⟨y0, y1, y2, n, h0, h1, h2⟩ := trod_array3 Tryd.underlying38 (by kernel_rfl) hf
  obtain ⟨x, hx, _, wx⟩ := DataW.trod_int (t := 3) Tryd.underlying3 h0
  obtain ⟨y, hy, _, wy⟩ := DataW.trod_int (t := 3) Tryd.underlying3 h1
  obtain ⟨z, hz, _, wz⟩ := DataW.trod_int (t := 3) Tryd.underlying3 h2
  simp only [List.cons.injEq, and_true] at hx hy hz
  subst hx hy hz
  exact ⟨x, y, z, rfl, i64_of wx, i64_of wy, i64_of wz⟩

end Go.Proofs.YtklbbcaebdfjeaaDoor
