/-
  append of a row of ints to a row of the call's own, whether or not anything is appended.
  Conditions: as each has them.
-/
import Derived.Test.YtmmeiclclapmfaaDTells
import Derived.Test.YtmmeiclclapmfaaHeld
namespace Go.Proofs.Ytmmeiclclapmfaa
open Go.RowKit Go.Shelf

theorem app_run {w : World} {B : Nat} {v : Value} {n : Nat} {xs ys : List Int} {pp : Option Addr} {m c : Nat} (ty : TypeId) (hown : w.ownsRow B 3 1 v n (xs.map (Value.int .i64))) (hR : RI w pp m c ys) (hB : B ≤ w.heap.size) (h63 : n + m ≤ 1099511627776) :
    ∃ q r w', (Builtin.append_ #[22, 22] ty #[v, .slice pp m c]).run Try.prog w = .ok (.slice q (n + m) r) w' ∧ w'.ownsRow B 3 1 (.slice q (n + m) r) (n + m) ((xs ++ ys).map (Value.int .i64)) ∧ Below B w w' ∧ w.grownBy w' v.ownBlock := by
  obtain ⟨i0, hi, hz0, hz1, hz2⟩ := info_parts int_info
  cases pp with
  | none =>
    have hc := hR.nil rfl
    have hys : ys = [] := by
      obtain ⟨q', d', e', hc'⟩ := hR.nums
      injection e' with e1' _ _
      cases hq' : ys with
      | nil => rfl
      | cons y r => obtain ⟨_, _, hh, _⟩ := hc' (by rw [hq']; simp); rw [← e1'] at hh; cases hh
    have hm : m = 0 := by rw [hR.len, hys]; rfl
    subst hc hm hys
    obtain ⟨q, r, rfl⟩ := owns_slice hown
    have := run_append_owned_none (P := Try.prog) (w := w) B 22 ty 3 i0 1 Try.underlying22 hi _ n _ hown
    exact ⟨q, r, w, this, by rw [List.append_nil]; exact hown, Below.refl _ _, ⟨rfl, rfl, rfl, Nat.le_refl _, fun _ _ _ => rfl⟩⟩
  | some av =>
    obtain ⟨hvl, p', c', e', hvc⟩ := hR.vals
    injection e' with e1' _ _
    have hnews : ∀ j u, (ys.map (Value.int .i64))[j]? = some u → w.cell? (av.add j) = some u := by
      rcases hvc with ⟨h0, _⟩ | ⟨ad, had, hh⟩
      · rw [← e1'] at h0; cases h0
      · rw [← e1'] at had; injection had with had; subst had; exact hh
    obtain ⟨v', w', hrun, ho, hg, _, hat⟩ := run_append_own_at (P := Try.prog) (w := w) B 22 ty 3 i0 (.int .i64 0) 1 8 Try.underlying22 hi hz0 hz1 hz2 rfl (by decide) v n _ hown av m c _ hvl hnews (fun u hu => by obtain ⟨x, _, rfl⟩ := List.mem_map.1 hu; rfl) (by unfold maxLen; omega) (by omega) hB
    obtain ⟨q, r, rfl⟩ := owns_slice ho
    exact ⟨q, r, w', hrun, by rw [List.map_append]; exact ho, (Below.refl B w).grown hg hB (fun k hk => (hown.lt k hk).1), hg⟩

/-- At the list of a plain region's operations. -/
theorem wpList_appI {w : World} {ops : Array Oper} {rest : List Oper} {o : Oper} {a : Act} {Q : Exit → Act → World → Prop} (hgd : o.guard = none) (s x : Operand)
    (ho : o.op = .call { callee := .builtin .append, args := #[s, x], argTypes := #[22, 22] })
    {B : Nat} {v : Value} {n : Nat} {xs ys : List Int} {pp : Option Addr} {m c : Nat} (hs : a.eval s = v) (hown : w.ownsRow B 3 1 v n (xs.map (Value.int .i64))) (hx : a.eval x = .slice pp m c) (hR : RI w pp m c ys) (hB : B ≤ w.heap.size) (h63 : n + m ≤ 1099511627776) (N : Nat) (hN : N = n + m)
    (h : ∀ q r w', w'.ownsRow B 3 1 (.slice q N r) N ((xs ++ ys).map (Value.int .i64)) → Below B w w' → w.grownBy w' v.ownBlock → wpList Try.prog ops Q rest (a.put o.dst (.slice q N r)) w') : wpList Try.prog ops Q (o :: rest) a w := by
  subst hN
  refine wpList_plain hgd fun K hK => ?_
  obtain ⟨q, r, w', hrun, h1, h2, h3⟩ := app_run o.type hown hR hB h63
  unfold Oper.wp
  simp [execOp, ho, resolve, invoke, builtin, hs, hx, hrun, Result.andThen]
  exact hK _ _ (h q r w' h1 h2 h3)
/-- At a step of a region that draws its order. -/
theorem step_appI {w : World} {ops : Array Oper} {o : Oper} {a : Act} {K : Act → World → Prop} {Q : Exit → Act → World → Prop} {E : Prop} (hgd : o.guard = none) (s x : Operand)
    (ho : o.op = .call { callee := .builtin .append, args := #[s, x], argTypes := #[22, 22] })
    {B : Nat} {v : Value} {n : Nat} {xs ys : List Int} {pp : Option Addr} {m c : Nat} (hs : a.eval s = v) (hown : w.ownsRow B 3 1 v n (xs.map (Value.int .i64))) (hx : a.eval x = .slice pp m c) (hR : RI w pp m c ys) (hB : B ≤ w.heap.size) (h63 : n + m ≤ 1099511627776) (N : Nat) (hN : N = n + m)
    (h : ∀ q r w', w'.ownsRow B 3 1 (.slice q N r) N ((xs ++ ys).map (Value.int .i64)) → Below B w w' → w.grownBy w' v.ownBlock → K (a.put o.dst (.slice q N r)) w') :
    if Region.wanted o (yielded ops a.tmps) = true then Oper.wp Try.prog o a w K Q else E := by
  subst hN
  have hw : Region.wanted o (yielded ops a.tmps) = true := by simp [Region.wanted, hgd]
  rw [if_pos hw]
  obtain ⟨q, r, w', hrun, h1, h2, h3⟩ := app_run o.type hown hR hB h63
  unfold Oper.wp
  simp [execOp, ho, resolve, invoke, builtin, hs, hx, hrun, Result.andThen]
  exact h q r w' h1 h2 h3
theorem RI.grown {w w' : World} {z n c : Nat} {xs : List Int} {row : Option Nat} (h : RI w (some ⟨z, 0, none⟩) n c xs) (hg : w.grownBy w' row) (hne : row ≠ some z) : RI w' (some ⟨z, 0, none⟩) n c xs := by
  have hk : Keeps (fun q => row = some q) w w' := by
    obtain ⟨h1, h2, h3, h4, h5⟩ := hg
    exact ⟨h1, h2, h3, h4, fun q hq hn => h5 q hq (fun e => hn e.symm)⟩
  exact ⟨nums_keeps h.nums hk (fun a ha => by injection ha with ha; subst ha; exact hne), h.len, h.room, h.nil⟩
theorem own_lit {w : World} {B : Nat} (hB : B ≤ w.heap.size) : (w.alloc (.cells #[] 3)).ownsRow B 3 1 (.slice (some ⟨w.heap.size, 0, none⟩) 0 0) 0 (([] : List Int).map (Value.int .i64)) := World.ownsRow_lit (base := B) (e := 3) (size := 1) w #[] 0 hB (by decide) rfl

/-- One more into a row that falls. -/
theorem ins_perm {ys zs : List Int} {x : Int} {k : Nat} (h : ys.Perm zs) : (ys.take k ++ [x] ++ ys.drop k).Perm (zs ++ [x]) := by
  have h1 : (ys.take k ++ [x] ++ ys.drop k).Perm (ys.take k ++ (ys.drop k ++ [x])) := by
    rw [List.append_assoc]
    exact List.perm_append_comm.append_left _
  rw [← List.append_assoc, List.take_append_drop] at h1
  exact h1.trans (h.append_right _)
theorem ins_desc {ys : List Int} {x : Int} {k : Nat} (hp : ys.Pairwise (· ≥ ·)) (h1 : ∀ j (h : j < ys.length), j < k → x ≤ ys[j]) (h2 : ∀ h : k < ys.length, ys[k] < x) : (ys.take k ++ [x] ++ ys.drop k).Pairwise (· ≥ ·) := by
  have hall : ∀ b ∈ ys.drop k, b ≤ x := fun b hb => by
    obtain ⟨j, hj, rfl⟩ := List.getElem_of_mem hb
    rw [List.length_drop] at hj
    rw [List.getElem_drop]
    have hk : k < ys.length := by omega
    have h3 := h2 hk
    rcases Nat.eq_zero_or_pos j with e | e
    · subst e; simp only [Nat.add_zero]; omega
    · have := List.pairwise_iff_getElem.1 hp k (k + j) hk (by omega) (by omega)
      omega
  have hfst : ∀ a ∈ ys.take k, x ≤ a := fun a ha => by
    obtain ⟨j, hj, rfl⟩ := List.getElem_of_mem ha
    rw [List.length_take] at hj
    rw [List.getElem_take]
    exact h1 j (by omega) (by omega)
  rw [List.append_assoc, List.pairwise_append]
  refine ⟨hp.sublist (List.take_sublist _ _), ?_, fun a ha b hb => ?_⟩
  · rw [List.singleton_append, List.pairwise_cons]
    exact ⟨fun b hb => hall b hb, hp.sublist (List.drop_sublist _ _)⟩
  · rcases List.mem_append.1 hb with hb | hb
    · rw [List.mem_singleton.1 hb]; exact hfst a ha
    · have := hfst a ha; have := hall b hb; omega
theorem RI.drop {w : World} {p : Option Addr} {n c : Nat} {xs : List Int} (h : RI w p n c xs) (k : Nat) (hk : k ≤ n) : RI w (if c = k then p else p.map (·.add k)) (n - k) (c - k) (xs.drop k) := by
  have := h.part k (n - k) (by omega)
  rw [Nat.add_sub_cancel_left, List.take_of_length_le (by rw [List.length_drop]; have := h.len; omega)] at this
  exact this

end Go.Proofs.Ytmmeiclclapmfaa
