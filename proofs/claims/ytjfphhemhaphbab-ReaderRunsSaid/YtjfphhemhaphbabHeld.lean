/-
  A region that draws its order, loads cells, and at its end writes over them: what holds throughout (T), and what holds till the first of its last operations (S).
  Conditions: each of the last operations waits for each load of a cell that they write over.
-/
import Derived.WalkKit
import Derived.StillTail
import Derived.Deep.RegionHeld3
import Derived.Deep.AppendLies
namespace Go.Proofs.Ytjfphhemhaphbab
open Go

section
variable {P : Program} {ops : Array Oper} {Q : Exit → Act → World → Prop} {md : Region.Mode} {T S : World → Prop} {late : Nat → Bool}

/-- Behind operation i, which was carried out in the world w. -/
def Kept (T S : World → Prop) (late : Nat → Bool) (i : Nat) (w w' : World) : Prop := T w' ∧ (late i = false → S w → S w')
/-- Whatever is picked from here on; behind each operation its word is kept. -/
def wpTwo (P : Program) (md : Region.Mode) (ops : Array Oper) (Q : Exit → Act → World → Prop) (T S : World → Prop) (late : Nat → Bool) : Nat → Array Bool → Act → World → Prop
  | 0, did, a, w => Region.ready md ops did = [] ∧ Q .normal a w
  | n + 1, did, a, w => (Region.ready md ops did = [] → Q .normal a w) ∧
      ∀ i ∈ Region.ready md ops did, wpOp P ops Q i (fun a' w' => Kept T S late i w w' ∧ wpTwo P md ops Q T S late n (did.setIfInBounds i true) a' w') a w
theorem wpTwo_any : ∀ (n : Nat) (did : Array Bool) (a : Act) (w : World), wpTwo P md ops Q T S late n did a w → wpAny P md ops Q n did a w
  | 0, _, _, _, h => h
  | n + 1, _, _, _, h => ⟨h.1, fun i hi => wpOp_mono (fun _ _ hx => wpTwo_any n _ _ _ hx.2) (h.2 i hi)⟩
theorem wpTwo_begin {id : Nat} {a : Act} {w : World} (hm : P.follows .mixedOrders = true) (h : wpTwo P .any ops Q T S late ops.size (Array.replicate ops.size false) a w.drew) : (Code.region id ops true).wp P Q a w :=
  wp_region_any hm (wpTwo_any _ _ _ _ h)
theorem wpTwo_end {did : Array Bool} {a : Act} {w : World} (hr : Region.ready md ops did = []) (h : Q .normal a w) : ∀ n, wpTwo P md ops Q T S late n did a w
  | 0 => ⟨hr, h⟩
  | _ + 1 => ⟨fun _ => h, fun i hi => by rw [hr] at hi; cases hi⟩

/-- An operation that is ready, and yields v in each world that meets R, may be the next: if R is kept by each one that does not wait for it. -/
theorem wpTwo_next {R : World → Prop} {i : Nat} {oi : Oper} {v : Value} (hi : ops[i]? = some oi) (hs : Region.noSelect ops = true)
    (hQ : ∀ c a w, Q (.panic c) (a.put oi.dst v) w → Q (.panic c) a w) (hT : ∀ w, R w → T w)
    (hR : ∀ j oj, ops[j]? = some oj → (∀ e ∈ oj.after, Region.binds md e = true → e.on ≠ i) → ∀ w w', R w → Kept T S late j w w' → R w') (n : Nat) :
    ∀ (did : Array Bool) (a : Act) (w : World), (∀ j oj, ops[j]? = some oj → j ≠ i → did.getD j true = false → (∀ e ∈ oj.after, Region.binds md e = true → e.on ≠ i) → oi.apart ops oj = true) →
      i ∈ Region.ready md ops did → YieldsIf P ops R oi v a → R w → wpTwo P md ops Q T S late n (did.setIfInBounds i true) (a.put oi.dst v) w → wpTwo P md ops Q T S late (n + 1) did a w := by
  have hsel := Region.noSelect_spec hs
  -- the operation itself, where it is picked
  have self : ∀ (n : Nat) (did : Array Bool) (a : Act) (w : World), YieldsIf P ops R oi v a → R w → wpTwo P md ops Q T S late n (did.setIfInBounds i true) (a.put oi.dst v) w →
      wpOp P ops Q i (fun a' w' => Kept T S late i w w' ∧ wpTwo P md ops Q T S late n (did.setIfInBounds i true) a' w') a w :=
    fun _ _ _ w hy hw h => hy.wpOp hi hw ⟨⟨hT w hw, fun _ => id⟩, h⟩
  induction n with
  | zero =>
    intro did a w _ hr hy hw h
    refine ⟨fun e => (List.ne_nil_of_mem hr e).elim, fun j hj => ?_⟩
    by_cases e : j = i
    · subst e; exact self _ _ _ _ hy hw h
    · have := ready_mono hj e
      rw [h.1] at this
      cases this
  | succ n ih =>
    intro did a w hfree hr hy hw h
    refine ⟨fun e => (List.ne_nil_of_mem hr e).elim, fun j hj => ?_⟩
    by_cases e : j = i
    · subst e; exact self _ _ _ _ hy hw h
    · obtain ⟨hun, oj, hoj, hall⟩ := mem_ready.1 hj
      have hiun := (mem_ready.1 hr).1
      have hno : ∀ x ∈ oj.after, Region.binds md x = true → x.on ≠ i := fun x hx hb hxi => by
        have h1 := hall x hx hb
        rw [hxi, getD_both hiun] at h1
        cases h1
      refine wpOp_mono (fun a' w' hx => ⟨hx.2.1, ih (did.setIfInBounds j true) a' w' (fun k ok hk hki hkun hkno => hfree k ok hk hki (by
        by_cases hjk : j = k
        · subst hjk; exact hun
        · rwa [getD_set_ne true hjk] at hkun) hkno) (ready_mono hr (Ne.symm e)) hx.1 (hR j oj hoj hno w w' hw hx.2.1) ?_⟩) (wpOp_putIf hoj (hfree j oj hoj e hun hno) (fun cs b => hsel i oi cs b hi) (fun cs b => hsel j oj cs b hoj) hQ hy (h.2 j (ready_mono hj e)))
      rw [Array.setIfInBounds_comm _ _ e]
      exact hx.2.2

/-- Taken by what holds throughout. -/
theorem wpTwo_takeT {i : Nat} {oi : Oper} {v : Value} {n : Nat} {did : Array Bool} {a : Act} {w : World} (hi : ops[i]? = some oi) (hs : Region.noSelect ops = true) (hf : Region.free md ops did i = true)
    (hr : (Region.ready md ops did).contains i = true) (hQ : ∀ c a w, Q (.panic c) (a.put oi.dst v) w → Q (.panic c) a w)
    (hy : Region.wanted oi (yielded ops a.tmps) = true ∧ ∀ w, T w → (execOp a.eval oi).run P w = .ok (.value v) w) (hw : T w)
    (h : wpTwo P md ops Q T S late n (did.setIfInBounds i true) (a.put oi.dst v) w) : wpTwo P md ops Q T S late (n + 1) did a w :=
  wpTwo_next (R := T) hi hs hQ (fun _ h => h) (fun _ _ _ _ _ _ _ hk => hk.1) n did a w (Region.free_spec hi hf) (by simpa using hr) (.inl hy) hw h
/-- Taken by what holds till the last ones begin: they wait for it. -/
theorem wpTwo_takeS {i : Nat} {oi : Oper} {v : Value} {n : Nat} {did : Array Bool} {a : Act} {w : World} (hl : ∀ j, late j = true → Region.waitsFor md ops j i = true) (hi : ops[i]? = some oi) (hs : Region.noSelect ops = true) (hf : Region.free md ops did i = true)
    (hr : (Region.ready md ops did).contains i = true) (hQ : ∀ c a w, Q (.panic c) (a.put oi.dst v) w → Q (.panic c) a w)
    (hy : Region.wanted oi (yielded ops a.tmps) = true ∧ ∀ w, T w ∧ S w → (execOp a.eval oi).run P w = .ok (.value v) w) (hw : T w ∧ S w)
    (h : wpTwo P md ops Q T S late n (did.setIfInBounds i true) (a.put oi.dst v) w) : wpTwo P md ops Q T S late (n + 1) did a w :=
  wpTwo_next (R := fun w => T w ∧ S w) hi hs hQ (fun _ h => h.1) (fun j oj hoj hno w w' hR hk => ⟨hk.1, hk.2 (by
    cases hlj : late j with
    | false => rfl
    | true =>
      obtain ⟨o', ho', e, he, hb, hei⟩ := Region.waitsFor_spec (hl j hlj)
      rw [hoj] at ho'
      cases ho'
      exact (hno e he hb hei).elim) hR.2⟩) n did a w (Region.free_spec hi hf) (by simpa using hr) (.inl hy) hw h

theorem waits_all {l : List Nat} {i : Nat} (h : (l.all fun j => Region.waitsFor md ops j i) = true) : ∀ j, (l.contains j) = true → Region.waitsFor md ops j i = true := fun j hj =>
  List.all_eq_true.1 h j (by simpa using hj)
/-- Each of the operations rs comes up next. -/
def AllTwo (P : Program) (md : Region.Mode) (ops : Array Oper) (Q : Exit → Act → World → Prop) (T S : World → Prop) (late : Nat → Bool) (n : Nat) (did : Array Bool) (a : Act) (w : World) (rs : List Nat) : Prop :=
  ∀ i ∈ rs, wpOp P ops Q i (fun a' w' => Kept T S late i w w' ∧ wpTwo P md ops Q T S late n (did.setIfInBounds i true) a' w') a w
theorem wpTwo_ready {rs : List Nat} {n : Nat} {did : Array Bool} {a : Act} {w : World} (hr : Region.ready md ops did = rs) (hne : rs ≠ []) (h : AllTwo P md ops Q T S late n did a w rs) : wpTwo P md ops Q T S late (n + 1) did a w :=
  ⟨fun e => (hne (hr ▸ e)).elim, hr ▸ h⟩
theorem AllTwo.nil {n : Nat} {did : Array Bool} {a : Act} {w : World} : AllTwo P md ops Q T S late n did a w [] := fun _ h => by cases h
theorem AllTwo.cons {n : Nat} {did : Array Bool} {a : Act} {w : World} {i : Nat} {o : Oper} {rs : List Nat} (ho : ops[i]? = some o)
    (h : ∀ K : Act → World → Prop, Shut (∀ a' w', Kept T S late i w w' → wpTwo P md ops Q T S late n (did.setIfInBounds i true) a' w' → K a' w') → if Region.wanted o (yielded ops a.tmps) = true then Oper.wp P o a w K Q else K (a.put o.dst undef) w)
    (hs : AllTwo P md ops Q T S late n did a w rs) : AllTwo P md ops Q T S late n did a w (i :: rs) := fun j hj => by
  rcases List.mem_cons.1 hj with rfl | hj
  · exact wpOp_step ho fun K hK => h K fun a' w' h1 h2 => hK a' w' ⟨h1, h2⟩
  · exact hs j hj
end

end Go.Proofs.Ytjfphhemhaphbab
