/-
  SeqWhole returns true for all rows, picks, and numbers, and its arguments read behind the call as they read before.
  Conditions: none.
-/
import Derived.Test.YtaljpggajpoalaaSB1
import Derived.Test.YtaljpggajpoalaaSB2
import Derived.Test.YtaljpggajpoalaaSW2
namespace Go.Proofs.Ytaljpggajpoalaa
open Go.RowKit Go.Shelf
open Go.ChangeShapes Go.WideShapes Go.ChangeAt Go.Deep
open Go.ChangeMaps (open_string shut_string)

theorem spot_none {W : World} {a : Addr} {v : Value} (h : W.cell? a = some v) : ∃ b off, a = ⟨b, off, none⟩ := by
  obtain ⟨b, off, sp⟩ := a
  cases sp with
  | none => exact ⟨b, off, rfl⟩
  | some x =>
    simp only [World.cell?] at h
    split at h <;> simp at h
theorem list_of {α : Type} (P : Nat → α → Prop) : ∀ n : Nat, (∀ j, j < n → ∃ x, P j x) → ∃ xs : List α, xs.length = n ∧ ∀ j (h : j < xs.length), P j xs[j]
  | 0, _ => ⟨[], rfl, fun j h => by cases h⟩
  | n + 1, h => by
    obtain ⟨xs, hl, hx⟩ := list_of P n (fun j hj => h j (by omega))
    obtain ⟨x, hP⟩ := h n (by omega)
    refine ⟨xs ++ [x], by simp [hl], fun j hj => ?_⟩
    by_cases hjn : j < xs.length
    · rw [List.getElem_append_left hjn]; exact hx j hjn
    · have : j = n := by simp at hj; omega
      subst this
      rw [List.getElem_append_right (by omega)]
      simpa [hl] using hP
theorem array3 {cs : Array Value} (h : cs.size = 3) : ∃ a b c, cs = #[a, b, c] := by
  obtain ⟨l⟩ := cs
  match l, h with
  | [a, b, c], _ => exact ⟨a, b, c, rfl⟩
theorem trod_array3 {H : Type} {enc : TypeId × Value → H} {P : Program} {w : World} {base : Nat} {spare : Nat → Bool} {held : Bool} {t e : TypeId} {fuel : Nat} {c0 c1 c2 : Value} {x : DataW H × List MemPlace} (ht : P.underlying t = some (.array 3 e)) (hce : P.cellsOf e = 1)
    (h : DataW.trod enc P w base spare held fuel t [c0, c1, c2] = some x) :
    ∃ y0 y1 y2 n, DataW.trod enc P w base spare held n e [c0] = some y0 ∧ DataW.trod enc P w base spare held n e [c1] = some y1 ∧ DataW.trod enc P w base spare held n e [c2] = some y2 := by
  cases fuel with
  | zero => simp [DataW.trod] at h
  | succ n =>
    unfold DataW.trod at h
    rw [ht] at h
    have r3 : List.range 3 = [0, 1, 2] := rfl
    simp [r3, hce] at h
    obtain ⟨_, h⟩ := h
    cases h0 : DataW.trod enc P w base spare held n e [c0] with
    | none => simp [h0] at h
    | some y0 =>
      cases h1 : DataW.trod enc P w base spare held n e [c1] with
      | none => simp [h0, h1] at h
      | some y1 =>
        cases h2 : DataW.trod enc P w base spare held n e [c2] with
        | none => simp [h0, h1, h2] at h
        | some y2 => exact ⟨y0, y1, y2, n, h0, h1, h2⟩
theorem cells3 {w : World} {a : Addr} {cs : List Value} (h : w.cells? 0 a 3 = some cs) : ∃ x y z, cs = [x, y, z] ∧ w.cell? a = some x ∧ w.cell? (a.add 1) = some y ∧ w.cell? (a.add 2) = some z := by
  unfold World.cells? at h
  rw [if_pos (Nat.zero_le _)] at h
  have r3 : List.range 3 = [0, 1, 2] := rfl
  have a0 : a.add 0 = a := rfl
  cases h0 : w.cell? a with
  | none => simp [r3, a0, h0] at h
  | some x =>
    cases h1 : w.cell? (a.add 1) with
    | none => simp [r3, a0, h0, h1] at h
    | some y =>
      cases h2 : w.cell? (a.add 2) with
      | none => simp [r3, a0, h0, h1, h2] at h
      | some z =>
        simp [r3, a0, h0, h1, h2] at h
        exact ⟨x, y, z, h.symm, rfl, rfl, rfl⟩
set_option maxRecDepth 100000 in
theorem rows3_open {H : Type} {enc : TypeId × Value → H} {W : World} {n : Nat} {v : Value} {y : DataW H × List MemPlace} (h : DataW.trod enc Try.prog W 0 (fun _ => true) true n 71 [v] = some y) :
    ∃ rs : List (Int × Int × Int), Rows3At W v rs ∧ ∀ x ∈ rs, (0 ≤ x.1 ∧ x.1 ≤ 18446744073709551615) ∧ (0 ≤ x.2.1 ∧ x.2.1 ≤ 18446744073709551615) ∧ (0 ≤ x.2.2 ∧ x.2.2 ≤ 18446744073709551615) := by
  have hce : Try.prog.cellsOf 76 = 3 := by kernel_rfl
  rcases DataW.trod_slice Try.underlying71 h with ⟨hcs, -⟩ | ⟨a, len, cap, elems, rest, m, -, hcs, -, -, -, -, hlen, hel, -, -⟩
  · simp only [List.cons.injEq, and_true] at hcs
    subst hcs
    exact ⟨[], ⟨none, 0, rfl, fun h => absurd rfl h⟩, fun x hx => by cases hx⟩
  · simp only [List.cons.injEq, and_true] at hcs
    subst hcs
    obtain ⟨rs, hrl, hrs⟩ := list_of (fun i (x : Int × Int × Int) => (W.cell? (a.add (i * 3)) = some (.int .u64 x.1) ∧ W.cell? ((a.add (i * 3)).add 1) = some (.int .u64 x.2.1) ∧ W.cell? ((a.add (i * 3)).add 2) = some (.int .u64 x.2.2)) ∧ (0 ≤ x.1 ∧ x.1 ≤ 18446744073709551615) ∧ (0 ≤ x.2.1 ∧ x.2.1 ≤ 18446744073709551615) ∧ (0 ≤ x.2.2 ∧ x.2.2 ≤ 18446744073709551615)) len (fun i hi => by
      have h1 := hel i hi
      rw [hce, List.getElem?_eq_getElem (by omega)] at h1
      obtain ⟨cs, hcs, htr⟩ := Option.bind_eq_some_iff.1 h1
      obtain ⟨x, y, z, rfl, c0, c1, c2⟩ := cells3 hcs
      obtain ⟨y0, y1, y2, n', h0, h1', h2⟩ := trod_array3 Try.underlying76 (by kernel_rfl) htr
      obtain ⟨x0, e0, _, w0⟩ := DataW.trod_int (t := 27) Try.underlying27 h0
      obtain ⟨x1, e1, _, w1⟩ := DataW.trod_int (t := 27) Try.underlying27 h1'
      obtain ⟨x2, e2, _, w2⟩ := DataW.trod_int (t := 27) Try.underlying27 h2
      simp only [List.cons.injEq, and_true] at e0 e1 e2
      subst e0 e1 e2
      exact ⟨(x0, x1, x2), ⟨c0, c1, c2⟩, by simpa [Lit.wf, IntKind.min, IntKind.max, IntKind.signed, IntKind.bits] using w0, by simpa [Lit.wf, IntKind.min, IntKind.max, IntKind.signed, IntKind.bits] using w1, by simpa [Lit.wf, IntKind.min, IntKind.max, IntKind.signed, IntKind.bits] using w2⟩)
    refine ⟨rs, ⟨some a, cap, by rw [hrl], fun hne => ?_⟩, fun x hx => ?_⟩
    · have hpos := List.length_pos_iff.2 hne
      have h0 := (hrs 0 hpos).1.1
      have ea : a.add (0 * 3) = a := rfl
      rw [ea] at h0
      obtain ⟨b, off, rfl⟩ := spot_none h0
      refine ⟨b, off, rfl, fun i hi => ?_⟩
      obtain ⟨⟨c0, c1, c2⟩, -⟩ := hrs i hi
      simp only [addr_add_off] at c0 c1 c2
      exact ⟨c0, c1, c2⟩
    · obtain ⟨i, hi, rfl⟩ := List.getElem_of_mem hx
      exact (hrs i hi).2

set_option maxRecDepth 100000 in
theorem seqWhole_lifted (os : Os) (started : os.Started) (H : Type) (enc : TypeId × Value → H) :
    ReturnsInHanded {} Try.checked os 7 .any (Rows.seqWholeSpec.pre6 enc Try.prog Try.f7 Rows.seqWholeRow.domain false) (Rows.seqWholeSpec.post enc Try.prog Try.f7 false true false false) := by
  refine returnsInHanded_of_change (C := Try.checked) own started (by kernel_rfl) Try.func7
    (ChangeSpec.witness6 (enc := enc) (C := Try.checked) false ⟨#[], #[.slice none 0 0, .slice none 0 0, .int .i64 0], []⟩ 8 (by kernel_rfl) (by kernel_rfl) (by kernel_rfl) (by kernel_rfl)) ?_
  intro W base args ds gs before hval0 hW hcnd _
  have hval : ∀ (j : Nat) t v, Try.f7.params[j]? = some t → args[j]? = some v → Value.okWide Try.prog W .any base t v := hval0
  have hW' := hW
  obtain ⟨p, q, hA0, hV, rfl, hfz, hnd⟩ := hW
  have hA : DataW.TrodAll enc Try.prog W 0 (fun _ => true) true Try.f7.params.toList args.toList ds p := hA0
  rw [Try.params7] at hA hval
  have hA2 := hA
  obtain ⟨v0, vs0, d0, ds0, pp0, qq0, hargs, rfl, rfl, h0, r0⟩ := trodAll_cons hA
  obtain ⟨v1, vs1, d1, ds1, pp1, qq1, rfl, rfl, rfl, h1, r1⟩ := trodAll_cons r0
  obtain ⟨v2, vs2, d2, ds2, pp2, qq2, rfl, rfl, rfl, h2, r2⟩ := trodAll_cons r1
  obtain ⟨rfl, rfl, rfl⟩ := trodAll_nil r2
  obtain rfl : args = #[v0, v1, v2] := by cases args; simp_all
  obtain ⟨rfl, rfl⟩ := trodVars_none hV
  obtain ⟨k0, hf0⟩ := id h0
  obtain ⟨pv0, nv0, cv0, rfl⟩ := okWide_slice Try.underlying71 (hval 0 71 v0 rfl rfl)
  obtain ⟨rs, a0, g0⟩ := rows3_open hf0
  obtain ⟨k1, hf1⟩ := id h1
  obtain ⟨pv1, nv1, cv1, rfl⟩ := okWide_slice Try.underlying42 (hval 1 42 v1 rfl rfl)
  obtain ⟨x1, a1, l1⟩ := bools_argr (t := 42) Try.underlying42 Try.underlying4 (by kernel_rfl) hf1
  have hcap1 : ∀ p n c, Value.slice pv1 nv1 cv1 = .slice p n c → n ≤ c ∧ c ≤ 9223372036854775807 := by
    rcases open_bools Try.underlying42 Try.underlying4 (by kernel_rfl) hf1 with ⟨hcs, -⟩ | ⟨b, len, cap, B, hcs, -, hl, hm, -⟩
    · simp [Value.cells] at hcs
      obtain ⟨rfl, rfl, rfl⟩ := hcs
      intro p n c e
      injection e with _ e1 e2
      omega
    · simp [Value.cells] at hcs
      obtain ⟨rfl, rfl, rfl⟩ := hcs
      intro p n c e
      injection e with _ e1 e2
      unfold maxLen at hm
      omega
  obtain ⟨a2, rfl, rfl, rfl, w2⟩ := open_int Try.underlying3 (hval 2 3 v2 rfl rfl) h2
  clear hA0 hval0
  simp only [List.append_nil] at hW'
  refine (whole_law (.slice pv0 nv0 cv0) (.slice pv1 nv1 cv1) rs x1 a2 W a0 a1 l1 g0 (hcap1) (by simpa [Lit.wf, IntKind.min, IntKind.max, IntKind.signed, IntKind.bits] using w2)).mono fun e W' ⟨he, hb⟩ => ?_
  subst he
  exact ⟨_, rfl, _, _, _, [], _, [], hW', trodAll_cons_mk (shut_bool Try.underlying4 _) trodAll_mk0, trodAll_stays laidOut hb (by kernel_rfl) hA2 (fun x hx => by simpa using hW'.lt x (by simpa using hx)), rfl, hb.frame _, fun h => by cases h⟩

theorem seqWhole_holds : Rows.SeqWholeSaid :=
  OpenClaim.holds_of_wide 7 Try.f7 rfl rfl rfl rfl rfl rfl rfl ⟨rfl, rfl, rfl, rfl, rfl⟩ rfl rfl rfl rfl rfl (by kernel_rfl) Try.func7 (by kernel_rfl)
    (of_decide_eq_true (by kernel_rfl)) (by unfold Func.isWrapper; first | (rw [if_pos (by decide +kernel)]; kernel_rfl) | (rw [if_neg (by decide +kernel)]; exact ⟨rfl, rfl⟩))
    (fun os started H enc _ => seqWhole_lifted os started H enc)

end Go.Proofs.Ytaljpggajpoalaa
