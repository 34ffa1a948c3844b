/-
  A region whose operations call nothing may be walked inside a fence as it is outside of one.
  Conditions: each operation copies, loads, reckons an address or a number, or asks for a length, the lesser or the greater.
-/
import Derived.Test.YtcledklajcdfiaaRange
import Derived.OrdersHeld
import Derived.OrdersIn
import Derived.Deep.RegionHeld
namespace Go.Proofs.Ytcledklajcdfiaa
open Go.RowKit

/-- Such an operation. -/
def plainOp : Op → Bool
  | .move _ | .assign _ | .load .. | .indexAddr .. | .fieldAddr .. | .binOp .. => true
  | .call c => match c.callee with
    | .builtin .max | .builtin .min | .builtin .len => true
    | _ => false
  | _ => false

theorem run_value {P : Program} {s : Sem Value} {n : Next} {w w' : World} (h : Sem.run P (do let a ← s; pure (Next.value a)) w = .ok n w') : ∃ v, n = .value v := by
  rw [Sem.run_bind] at h
  cases hs : Sem.run P s w with
  | ok a w1 =>
    rw [hs] at h
    simp [Result.andThen] at h
    exact ⟨a, h.1.symm⟩
  | halt x w1 =>
    rw [hs] at h
    simp [Result.andThen] at h

theorem plain_run {P : Program} {ρ : Operand → Value} {o : Oper} {n : Next} {w w' : World} (hp : plainOp o.op = true) (h : (execOp ρ o).run P w = .ok n w') : ∃ v, n = .value v := by
  unfold execOp at h
  cases ho : o.op <;> rw [ho] at hp <;> try (simp [plainOp] at hp; done)
  case move x => rw [ho] at h; simp at h; exact ⟨_, h.1.symm⟩
  case assign x => rw [ho] at h; simp at h; exact ⟨_, h.1.symm⟩
  case load t a => rw [ho] at h; exact run_value h
  case fieldAddr t a f => rw [ho] at h; exact run_value h
  case indexAddr t a i => rw [ho] at h; exact run_value h
  case binOp op t x y u => rw [ho] at h; exact run_value h
  case call c =>
    rw [ho] at h
    simp only [plainOp] at hp
    cases hc : c.callee with
    | builtin b =>
      simp only [resolve, hc, Sem.run_bind, Sem.run_pure, Result.andThen_ok, invoke, builtin] at h
      rw [hc] at hp
      cases b <;> simp at hp
      · exact run_value h
      · exact run_value h
      · exact run_value h
    | _ => rw [hc] at hp; simp at hp

theorem plain_about {P : Program} {ρ : Operand → Value} {o : Oper} {w : World} (hp : plainOp o.op = true) : o.about P w ρ = none := by
  unfold Oper.about
  cases ho : o.op <;> simp only
  case call c =>
    rw [ho] at hp
    simp only [plainOp] at hp
    cases hc : c.callee with
    | builtin b => simp [resolve, hc, Sem.run_pure, Target.leads]
    | _ => rw [hc] at hp; simp at hp

theorem anyIn_of_any {F : Fence} {n : Nat} {P : Program} {md : Region.Mode} {ops : Array Oper} {Q Q' : Exit → Act → World → Prop} (hp : ∀ (i : Nat) (o : Oper), ops[i]? = some o → plainOp o.op = true)
    (hQp : ∀ c a w, ¬ Q (.panic c) a w) (hQo : ∀ a w, ¬ Q .outgrown a w) (hQn : ∀ a w, Q .normal a w → Q' .normal a w) :
    ∀ (fuel : Nat) (listed : Array Bool) (a : Act) (w : World), wpAny P md ops Q fuel listed a w → wpAnyIn F n P md ops Q' fuel listed a w
  | 0, _, _, _, h => ⟨h.1, hQn _ _ h.2⟩
  | fuel + 1, listed, a, w, h => by
    refine ⟨fun h0 => hQn _ _ (h.1 h0), fun i hi => ?_⟩
    have h1 := h.2 i hi
    unfold wpOp at h1
    unfold wpOpIn
    cases ho : ops[i]? with
    | none =>
      rw [ho] at h1
      exact anyIn_of_any hp hQp hQo hQn fuel _ a w h1
    | some o =>
      rw [ho] at h1
      have hpo := hp i o ho
      simp only at h1 ⊢
      split at h1
      · rename_i hw
        rw [if_pos hw]
        rcases h1 with h1 | ⟨_, a', w', h1⟩
        · unfold Oper.wp at h1
          refine ⟨fun f hf => (by rw [plain_about hpo] at hf; cases hf), ?_⟩
          have hs : o.semAt F.round a.eval = execOp a.eval o := by
            unfold Oper.semAt
            split
            · rename_i l c hc1 hc2
              rw [hc2] at hpo
              cases hpo
            · rfl
          rw [hs]
          cases hr : (execOp a.eval o).run P w with
          | ok nx w2 =>
            obtain ⟨v, rfl⟩ := plain_run hpo hr
            rw [hr] at h1
            exact anyIn_of_any hp hQp hQo hQn fuel _ _ _ h1
          | halt x w2 =>
            rw [hr] at h1
            cases x with
            | panic u => exact absurd h1 (hQp _ _ _)
            | _ => exact h1.elim
        · exact absurd h1 (hQo _ _)
      · rename_i hw
        rw [if_neg hw]
        exact ⟨fun f hf => (by rw [plain_about hpo] at hf; cases hf), anyIn_of_any hp hQp hQo hQn fuel _ _ _ h1⟩

/-- Such a region, by a walk that holds S. -/
theorem wpIn_region_held {F : Fence} {n id : Nat} {P : Program} {l : List Oper} {Q : Exit → Act → World → Prop} {S : World → Prop} {a : Act} {w : World} (hm : P.follows .mixedOrders = true) (hp : l.all (fun o => plainOp o.op) = true) (hS : S w.drew)
    (h : S w.drew → wpAnyH P .any l.toArray (fun e a w => e = .normal ∧ Q .normal a w) S l.toArray.size (Array.replicate l.toArray.size false) a w.drew) : (Code.region id l.toArray true).wpIn F n P Q a w := by
  refine wpIn_region_any hm (anyIn_of_any (Q := fun e a w => e = .normal ∧ Q .normal a w) (fun i o ho => ?_) (fun _ _ _ h => by cases h.1) (fun _ _ h => by cases h.1) (fun _ _ h => h.2) _ _ _ _ (wpAny_of_held _ _ _ _ (h hS)))
  have h1 : l[i]? = some o := by simpa using ho
  obtain ⟨hi, rfl⟩ := List.getElem?_eq_some_iff.1 h1
  exact List.all_eq_true.1 hp _ (List.getElem_mem hi)

end Go.Proofs.Ytcledklajcdfiaa
