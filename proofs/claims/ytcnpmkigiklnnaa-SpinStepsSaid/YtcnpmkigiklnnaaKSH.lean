/-
  SpinSteps returns true for every memory, word, and one who wants a lock, and its arguments read behind the call as they read before.
  Conditions: none.
-/
import Derived.Test.YtcnpmkigiklnnaaKS1
import Derived.Test.YtcnpmkigiklnnaaKS3
import Derived.Test.YtcnpmkigiklnnaaKS18
import Derived.Test.YtcnpmkigiklnnaaKS19
import Derived.Test.YtcnpmkigiklnnaaKS20
import Derived.Test.YtcnpmkigiklnnaaKS21
namespace Go.Proofs.Ytcnpmkigiklnnaa
open Go.RowKit Go.Shelf
open Go.ChangeShapes Go.WideShapes Go.ChangeAt Go.Deep
open Go.ChangeMaps (open_string shut_string)

theorem steps_law (v0 v1 : Value) (f : Bool) (ws : List Int) (ls : List Bool) (q a p t : Int) (W : World) (h0 : ArgR W v0 (ws.map (Value.int .u64))) (h1 : ArgR W v1 (ls.map Value.bool)) (hw : ws.length ≤ 9223372036854775807) (hl : ls.length ≤ 9223372036854775807)
    (hq : -9223372036854775808 ≤ q ∧ q ≤ 9223372036854775807) (hsr : SpR ⟨a, p, t⟩) (hrg : WRange ws) :
    Calls Try.prog 4 #[.agg #[v0, v1, .bool f], .int .i64 q, .agg #[.int .i64 a, .int .i64 p, .int .u64 t]] W fun e w' => e = .returned (.bool true) ∧ Below W.heap.size W w' := by
  cases hr : rightB (ws.take 16) (ls.take 16) with
  | false => exact steps_A v0 v1 f ws ls q a p t W h0 h1 hw hl hq hsr hrg hr
  | true =>
    have hlen := (rightB_iff.1 hr).2.2.1
    have hc := lay_cases (ws.take 16) (ls.take 16) q (by simp; omega) hlen
    have hs : ∀ b, rightS ⟨a, p, t⟩ = b → (LayNo (ws.take 16) (ls.take 16) q ∨ ∃ k : Nat, q = (k : Int) ∧ k ≤ 100 ∧ k + 1 < (ws.take 16).length ∧ (ls.take 16)[k]? = some true ∧ (ls.take 16)[k + 1]? = some true) := fun _ _ => by
      rcases hc with h | h | h | h | h
      · exact .inl (.inl h)
      · exact .inl (.inr (.inl h))
      · exact .inl (.inr (.inr (.inl h)))
      · exact .inl (.inr (.inr (.inr h)))
      · exact .inr h
    cases hs' : rightS ⟨a, p, t⟩ with
    | false =>
      rcases hs _ hs' with h | h
      · exact steps_B v0 v1 f ws ls q a p t W h0 h1 hw hl hq hsr hrg hr hs' h
      · exact steps_D v0 v1 f ws ls q a p t W h0 h1 hw hl hq hsr hrg hr hs' h
    | true =>
      rcases hs _ hs' with h | h
      · exact steps_C v0 v1 f ws ls q a p t W h0 h1 hw hl hq hsr hrg hr hs' h
      · exact steps_E v0 v1 f ws ls q a p t W h0 h1 hw hl hq hsr hrg hr hs' h

set_option maxRecDepth 100000 in
theorem spinSteps_lifted (os : Os) (started : os.Started) (H : Type) (enc : TypeId × Value → H) :
    ReturnsInHanded {} Try.checked os 4 .any (Rows.spinStepsSpec.pre6 enc Try.prog Try.f4 Rows.spinStepsRow.domain false) (Rows.spinStepsSpec.post enc Try.prog Try.f4 false true false false) := by
  refine returnsInHanded_of_change (C := Try.checked) own started (by kernel_rfl) Try.func4
    (ChangeSpec.witness6 (enc := enc) (C := Try.checked) false ⟨#[], #[.agg #[.slice none 0 0, .slice none 0 0, .bool false], .int .i64 0, .agg #[.int .i64 0, .int .i64 0, .int .u64 0]], []⟩ 8 (by kernel_rfl) (by kernel_rfl) (by kernel_rfl) (by kernel_rfl)) ?_
  intro W base args ds gs before hval0 hW hcnd _
  have hval : ∀ (j : Nat) t v, Try.f4.params[j]? = some t → args[j]? = some v → Value.okWide Try.prog W .any base t v := hval0
  have hW' := hW
  obtain ⟨p, q, hA0, hV, rfl, hfz, hnd⟩ := hW
  have hA : DataW.TrodAll enc Try.prog W 0 (fun _ => true) true Try.f4.params.toList args.toList ds p := hA0
  rw [Try.params4] at hA hval
  have hA2 := hA
  obtain ⟨v0, vs0, d0, ds0, p0, q0, hargs, rfl, rfl, h0, r0⟩ := trodAll_cons hA
  obtain ⟨v1, vs1, d1, ds1, p1, q1, rfl, rfl, rfl, h1, r1⟩ := trodAll_cons r0
  obtain ⟨v2, vs2, d2, ds2, p2, q2, rfl, rfl, rfl, h2, r2⟩ := trodAll_cons r1
  obtain ⟨rfl, rfl, rfl⟩ := trodAll_nil r2
  obtain rfl : args = #[v0, v1, v2] := by cases args; simp_all
  obtain ⟨rfl, rfl⟩ := trodVars_none hV
  obtain ⟨x0, x1, f, ws, ls, rfl, hw, hl, hr, hwl, hll⟩ := mem_open (hval 0 46 v0 rfl rfl) h0
  obtain ⟨a1, rfl, rfl, rfl, w1⟩ := open_int Try.underlying3 (hval 1 3 v1 rfl rfl) h1
  obtain ⟨s, rfl, hsr⟩ := spin_open (hval 2 24 v2 rfl rfl) h2
  clear hA0 hval0
  simp only [List.append_nil] at hW'
  refine (steps_law x0 x1 f ws ls a1 s.a s.p s.t W hw hl hwl hll (by simpa [Lit.wf, IntKind.min, IntKind.max, IntKind.signed, IntKind.bits] using w1 : -9223372036854775808 ≤ a1 ∧ a1 ≤ 9223372036854775807) hsr hr).mono fun e W' ⟨he, hb⟩ => ?_
  subst he
  exact ⟨_, rfl, _, _, _, [], _, [], hW', trodAll_cons_mk (shut_bool Try.underlying4 _) trodAll_mk0, trodAll_stays laidOut hb (by kernel_rfl) hA2 (fun x hx => by simpa using hW'.lt x (by simpa using hx)), rfl, hb.frame _, fun h => by cases h⟩

theorem spinSteps_holds : Rows.SpinStepsSaid :=
  OpenClaim.holds_of_wide 4 Try.f4 rfl rfl rfl rfl rfl rfl rfl ⟨rfl, rfl, rfl, rfl, rfl⟩ rfl rfl rfl rfl rfl (by kernel_rfl) Try.func4 (by kernel_rfl)
    (of_decide_eq_true (by kernel_rfl)) (by unfold Func.isWrapper; first | (rw [if_pos (by decide +kernel)]; kernel_rfl) | (rw [if_neg (by decide +kernel)]; exact ⟨rfl, rfl⟩))
    (fun os started H enc _ => spinSteps_lifted os started H enc)

end Go.Proofs.Ytcnpmkigiklnnaa
