/-
  BitsFields returns true for every row of fields, word and row of words, and its arguments read behind the call as they read before.
  Conditions: none.
-/
import Derived.Test.YtejendpkkdmjhaaClose
import Derived.Test.YtejendpkkdmjhaaOpenF
import Derived.Test.YtejendpkkdmjhaaFieldsA
import Derived.Test.YtejendpkkdmjhaaFieldsB
import Derived.Test.YtejendpkkdmjhaaFieldsC
namespace Go.Proofs.Ytejendpkkdmjhaa
open Go.RowKit Go.Shelf
open Go.ChangeShapes Go.WideShapes Go.ChangeAt
open Go.ChangeMaps (open_string shut_string)

theorem bitsFields_walk (v0 v2 : Value) (fs : List (Int × Int)) (vs : List Int) (w : Nat) (hw : w < 18446744073709551616) (W : World) (hv0 : ArgF W v0 fs) (hv2 : ArgW W v2 vs) (hfr : FRange fs)
    (hvr : ∀ x ∈ vs, 0 ≤ x ∧ x ≤ 18446744073709551615) (hl0 : fs.length ≤ 9223372036854775807) (hl2 : vs.length ≤ 9223372036854775807) :
    Calls Try.prog 3 #[v0, .int .u64 w, v2] W fun e w' => e = .returned (.bool true) ∧ Below W.heap.size W w' := by
  cases hc : chkTo (fs.take 8) with
  | none => exact fieldsWalkA v0 v2 fs vs w hw W hv0 hv2 hfr hvr hc hl0 hl2
  | some T =>
    by_cases hl : (fs.take 8).length = (vs.take 10).length
    · exact fieldsWalkC v0 v2 fs vs w hw W hv0 hv2 hfr hvr ⟨T, hc, hl⟩ hl0 hl2
    · exact fieldsWalkB v0 v2 fs vs w hw W hv0 hv2 hfr hvr ⟨T, hc, hl⟩ hl0 hl2

set_option maxRecDepth 100000 in
theorem bitsFields_lifted (os : Os) (started : os.Started) (H : Type) (enc : TypeId × Value → H) :
    ReturnsInHanded {} Try.checked os 3 .any (Rows.bitsFieldsSpec.pre6 enc Try.prog Try.f3 Rows.bitsFieldsRow.domain false) (Rows.bitsFieldsSpec.post enc Try.prog Try.f3 false true false false) := by
  refine returnsInHanded_of_change (C := Try.checked) own started (by kernel_rfl) Try.func3
    (ChangeSpec.witness6 (enc := enc) (C := Try.checked) false ⟨#[], #[.slice none 0 0, .int .u64 0, .slice none 0 0], []⟩ 8 (by kernel_rfl) (by kernel_rfl) (by kernel_rfl) (by kernel_rfl)) ?_
  intro W base args ds gs before hval0 hW hcnd _
  have hval : ∀ (j : Nat) t v, Try.f3.params[j]? = some t → args[j]? = some v → Value.okWide Try.prog W .any base t v := hval0
  have hW' := hW
  obtain ⟨p, q, hA0, hV, rfl, hfz, hnd⟩ := hW
  have hA : DataW.TrodAll enc Try.prog W 0 (fun _ => true) true Try.f3.params.toList args.toList ds p := hA0
  rw [Try.params3] at hA hval
  have hA2 := hA
  obtain ⟨v0, vs0, d0, ds0, p0, q0, hargs, rfl, rfl, h0, r0⟩ := trodAll_cons hA
  obtain ⟨v1, vs1, d1, ds1, p1, q1, rfl, rfl, rfl, h1, r1⟩ := trodAll_cons r0
  obtain ⟨v2, vs2, d2, ds2, p2, q2, rfl, rfl, rfl, h2, r2⟩ := trodAll_cons r1
  obtain ⟨rfl, rfl, rfl⟩ := trodAll_nil r2
  obtain rfl : args = #[v0, v1, v2] := by cases args; simp_all
  obtain ⟨rfl, rfl⟩ := trodVars_none hV
  obtain ⟨a1, rfl, rfl, rfl, w1⟩ := open_int Try.underlying23 (hval 1 23 v1 rfl rfl) h1
  obtain ⟨fs, hf0, hfr, hl0⟩ := fields_open Try.underlying22 Try.underlying28 (by kernel_rfl) rfl rfl (by kernel_rfl) (by kernel_rfl) Try.underlying3 Try.underlying3 (hval 0 22 v0 rfl rfl) h0
  obtain ⟨n2, hn2, hw2, hl2⟩ := words_open Try.underlying24 Try.underlying23 (by kernel_rfl) (hval 2 24 v2 rfl rfl) h2
  clear hA0 hval0
  simp only [List.append_nil] at hW'
  have hu : 0 ≤ a1 ∧ a1 ≤ 18446744073709551615 := by simpa [Lit.wf, IntKind.min, IntKind.max, IntKind.signed, IntKind.bits] using w1
  obtain ⟨w, rfl⟩ := Int.eq_ofNat_of_zero_le hu.1
  refine (bitsFields_walk v0 v2 fs n2 w (by omega) W hf0 hn2 hfr (fun x hx => by simpa [Lit.wf, IntKind.min, IntKind.max, IntKind.signed, IntKind.bits] using hw2 x hx) hl0 hl2).mono fun e W' ⟨he, hb⟩ => ?_
  subst he
  exact ⟨_, rfl, _, _, _, [], _, [], hW', trodAll_cons_mk (shut_bool Try.underlying4 _) trodAll_mk0, trodAll_stays laidOut hb (by kernel_rfl) hA2 (fun x hx => by simpa using hW'.lt x (by simpa using hx)), rfl, hb.frame _, fun h => by cases h⟩

theorem bitsFields_holds : Rows.BitsFieldsSaid :=
  OpenClaim.holds_of_wide 3 Try.f3 rfl rfl rfl rfl rfl rfl rfl ⟨rfl, rfl, rfl, rfl, rfl⟩ rfl rfl rfl rfl rfl (by kernel_rfl) Try.func3 (by kernel_rfl)
    (of_decide_eq_true (by kernel_rfl)) (by unfold Func.isWrapper; first | (rw [if_pos (by decide +kernel)]; kernel_rfl) | (rw [if_neg (by decide +kernel)]; exact ⟨rfl, rfl⟩))
    (fun os started H enc _ => bitsFields_lifted os started H enc)

end Go.Proofs.Ytejendpkkdmjhaa
