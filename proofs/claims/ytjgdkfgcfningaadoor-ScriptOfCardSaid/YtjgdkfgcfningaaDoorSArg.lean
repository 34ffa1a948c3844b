/-
  Opening arguments: a script, and a row of words.
  Conditions: none.
-/
import Derived.Test.YtjgdkfgcfningaaDoorSOpen
import Derived.Test.YtjgdkfgcfningaaDoorSBack0
import Derived.Lib.SmallJoins
import Derived.Laws.IdiomArrays
import Derived.ChangeSame
namespace Go.Proofs.YtjgdkfgcfningaaDoor
open Go.ChangeShapes Go.WideShapes Go.ChangeAt Go.RowKit Go.Joins

theorem list_of {α : Type} (P : Nat → α → Prop) : ∀ n : Nat, (∀ j, j < n → ∃ x, P j x) → ∃ xs : List α, xs.length = n ∧ ∀ j (h : j < xs.length), P j xs[j]
  | 0, _ => ⟨[], rfl, fun j h => by cases h⟩
  | n + 1, h => by
    obtain ⟨xs, hl, hx⟩ := list_of P n (fun j hj => h j (by omega))
    obtain ⟨x, hP⟩ := h n (by omega)
    refine ⟨xs ++ [x], by simp [hl], fun j hj => ?_⟩
    by_cases hjn : j < xs.length
    · rw [List.getElem_append_left hjn]; exact hx j hjn
    · have : j = n := by simp at hj; omega
      subst this
      rw [List.getElem_append_right (by omega)]
      simpa [hl] using hP
theorem spot_none {W : World} {a : Addr} {v : Value} (h : W.cell? a = some v) : ∃ b off, a = ⟨b, off, none⟩ := by
  obtain ⟨b, off, sp⟩ := a
  cases sp with
  | none => exact ⟨b, off, rfl⟩
  | some x =>
    simp only [World.cell?] at h
    split at h <;> simp at h
theorem nat_of {x : Int} (h : (Lit.int .u64 x).wf = true) : ∃ n : Nat, x = (n : Int) ∧ n < 18446744073709551616 := by
  have h' : 0 ≤ x ∧ x ≤ 18446744073709551615 := by simpa [Lit.wf, IntKind.min, IntKind.max, IntKind.signed, IntKind.bits] using h
  exact ⟨x.toNat, by omega, by omega⟩
set_option maxRecDepth 100000 in
theorem words_open {H : Type} {enc : TypeId × Value → H} {W : World} {base : Nat} {v : Value} {d : DataW H} {ps : List MemPlace}
    (hval : Value.okWide Tryd.prog W .any base 32 v) (h : DataW.Trod enc Tryd.prog W 0 (fun _ => true) true 32 v d ps) :
    ∃ p n c ws, v = .slice p n c ∧ WAt W p n c ws ∧ n ≤ 9223372036854775807 := by
  obtain ⟨ns, hn, hw, hl⟩ := nums_open Tryd.underlying32 Tryd.underlying37 (by kernel_rfl) hval h
  obtain ⟨p, n, c, rfl⟩ := okWide_slice Tryd.underlying32 hval
  obtain ⟨fuel, hf⟩ := h
  have hlen := nums_len hn
  have hmap : (ns.map Int.toNat).map Int.ofNat = ns := by
    rw [List.map_map]
    refine (List.map_congr_left fun x hx => ?_).trans (List.map_id _)
    obtain ⟨m, rfl, _⟩ := nat_of (hw x hx)
    rfl
  refine ⟨p, n, c, ns.map Int.toNat, rfl, ⟨by rw [hmap]; exact hn, by rw [List.length_map]; exact hlen, ?_, fun x hx => ?_⟩, by omega⟩
  · rcases open_ints Tryd.underlying32 Tryd.underlying37 (by kernel_rfl) hf with ⟨hcs, _⟩ | ⟨a, len', cap', zs, hcs, _, hl, hm, hz, _⟩
    · simp [Value.cells] at hcs
      obtain ⟨rfl, rfl, rfl⟩ := hcs
      exact Nat.le_refl _
    · simp [Value.cells] at hcs
      obtain ⟨rfl, rfl, rfl⟩ := hcs
      exact hl
  · obtain ⟨y, hy, rfl⟩ := List.mem_map.1 hx
    obtain ⟨m, rfl, hm⟩ := nat_of (hw y hy)
    simpa using hm

section
variable {H : Type} {enc : TypeId × Value → H} {W : World}
set_option maxRecDepth 100000 in
theorem u64_of {n : Nat} {v : Value} {y : DataW H × List MemPlace} (h : DataW.trod enc Tryd.prog W 0 (fun _ => true) true n 37 [v] = some y) : ∃ m : Nat, v = nv m ∧ m < 18446744073709551616 := by
  obtain ⟨x, hx, _, wx⟩ := DataW.trod_int Tryd.underlying37 h
  simp only [List.cons.injEq, and_true] at hx
  obtain ⟨m, rfl, hm⟩ := nat_of wx
  exact ⟨m, hx, hm⟩
set_option maxRecDepth 100000 in
theorem call_of {n : Nat} {cs : List Value} {y : DataW H × List MemPlace} (h : DataW.trod enc Tryd.prog W 0 (fun _ => true) true n 53 cs = some y) : ∃ x : CallM, cs = cells5 x ∧ CallOk x := by
  have hu := Tryd.underlying53
  obtain ⟨y0, y1, m, e, hl, h0, h1⟩ := trod_struct2 hu h
  have hc : Tryd.prog.cellsOf 53 = 5 := by kernel_rfl
  have c1 : Tryd.prog.cellsOf 37 = 1 := by kernel_rfl
  have c4 : Tryd.prog.cellsOf 51 = 4 := by kernel_rfl
  rw [hc] at hl
  obtain ⟨v0, v1, v2, v3, v4, rfl⟩ : ∃ a b c d e, cs = [a, b, c, d, e] := by
    match cs, hl with
    | [a, b, c, d, e], _ => exact ⟨a, b, c, d, e, rfl⟩
  simp only [c1, c4] at h0 h1
  simp at h0 h1
  obtain ⟨k, rfl, hk⟩ := u64_of h0
  obtain ⟨z0, z1, z2, z3, m', _, g0, g1, g2, g3⟩ := trod_array4 Tryd.underlying51 c1 h1
  obtain ⟨a0, rfl, k0⟩ := u64_of g0
  obtain ⟨a1, rfl, k1⟩ := u64_of g1
  obtain ⟨a2, rfl, k2⟩ := u64_of g2
  obtain ⟨a3, rfl, k3⟩ := u64_of g3
  exact ⟨⟨k, a0, a1, a2, a3⟩, rfl, hk, k0, k1, k2, k3⟩
set_option maxRecDepth 100000 in
theorem calls_of {n : Nat} {v : Value} {y : DataW H × List MemPlace} (h : DataW.trod enc Tryd.prog W 0 (fun _ => true) true n 47 [v] = some y) :
    ∃ (p : Option Addr) (m c : Nat) (xs : List CallM), v = .slice p xs.length c ∧ VRow W p xs.length c 5 (cellsC xs) ∧ (∀ x ∈ xs, CallOk x) ∧ xs.length = m ∧ m ≤ 9223372036854775807 := by
  rcases DataW.trod_slice Tryd.underlying47 h with ⟨hcs, _⟩ | ⟨a, len, cap, elems, rest, m, _, hcs, _, _, hlc, hm, hel, hall, _⟩
  · simp only [List.cons.injEq, and_true] at hcs
    exact ⟨none, 0, 0, [], hcs, ⟨rfl, Nat.le_refl _, fun _ => rfl, fun h => absurd rfl h⟩, (fun x hx => by cases hx), rfl, by decide⟩
  · simp only [List.cons.injEq, and_true] at hcs
    have hc : Tryd.prog.cellsOf 53 = 5 := by kernel_rfl
    obtain ⟨xs, hx, hP⟩ := list_of (fun j (x : CallM) => CallOk x ∧ ∀ i u, i < 5 → (cells5 x)[i]? = some u → W.cell? (a.add (j * 5 + i)) = some u) len (fun j hj => by
      have h1 := hall j hj
      rw [hc, List.getElem?_eq_getElem (by omega)] at h1
      obtain ⟨cs, hcs, ht⟩ := Option.bind_eq_some_iff.1 h1
      obtain ⟨x, rfl, hok⟩ := call_of ht
      obtain ⟨_, _, hcell⟩ := World.cells?_some hcs
      refine ⟨x, hok, fun i u hi hu => ?_⟩
      have h2 := hcell i (by omega)
      rw [hu, Addr.add_add] at h2
      exact h2)
    unfold maxLen at hm
    refine ⟨some a, len, cap, xs, by rw [hcs, hx], ⟨by rw [cellsC_length], by omega, (fun h => by cases h), fun hne => ?_⟩, fun x hx' => ?_, hx, by omega⟩
    · have hpos : 0 < xs.length := by
        cases xs with
        | nil => exact absurd rfl hne
        | cons _ _ => simp
      obtain ⟨b, off, rfl⟩ := spot_none (a := a) (by have := (hP 0 hpos).2 0 _ (by decide) rfl; simpa [Addr.add] using this)
      refine ⟨b, off, rfl, fun j hj => ?_⟩
      have hj' := hj
      rw [cellsC_length] at hj'
      have hk : j / 5 < xs.length := by omega
      have hm5 : j % 5 < 5 := Nat.mod_lt _ (by decide)
      have h1 := cellsC_get xs (j / 5) hk (j % 5) hm5
      have e : j / 5 * 5 + j % 5 = j := by omega
      have h2 := (hP (j / 5) hk).2 (j % 5) (cellsC xs)[j] hm5 (by rw [← h1, e]; exact List.getElem?_eq_getElem hj)
      rw [e, addr_add_at] at h2
      exact h2
    · obtain ⟨j, hj, rfl⟩ := List.getElem_of_mem hx'
      exact (hP j hj).1
set_option maxRecDepth 100000 in
theorem rows_of {n : Nat} {v : Value} {y : DataW H × List MemPlace} (h : DataW.trod enc Tryd.prog W 0 (fun _ => true) true n 22 [v] = some y) :
    ∃ (p : Option Addr) (c : Nat) (ls : List (List CallM)), v = .slice p ls.length c ∧ LRow W p ls.length c ls ∧ RowsOk ls ∧ (∀ l ∈ ls, l.length ≤ 9223372036854775807) ∧ ls.length ≤ 9223372036854775807 := by
  rcases DataW.trod_slice Tryd.underlying22 h with ⟨hcs, _⟩ | ⟨a, len, cap, elems, rest, m, _, hcs, _, _, hlc, hm, hel, hall, _⟩
  · simp only [List.cons.injEq, and_true] at hcs
    exact ⟨none, 0, [], hcs, ⟨rfl, Nat.le_refl _, fun _ => rfl, fun h => absurd rfl h⟩, (fun x hx => by cases hx), (fun x hx => by cases hx), by decide⟩
  · simp only [List.cons.injEq, and_true] at hcs
    have hc : Tryd.prog.cellsOf 47 = 1 := by kernel_rfl
    obtain ⟨ls, hx, hP⟩ := list_of (fun i (l : List CallM) => (∀ x ∈ l, CallOk x) ∧ l.length ≤ 9223372036854775807 ∧ ∃ q d, W.cell? (a.add i) = some (.slice q l.length d) ∧ VRow W q l.length d 5 (cellsC l)) len (fun i hi => by
      have h1 := hall i hi
      rw [hc, List.getElem?_eq_getElem (by omega), Nat.mul_one] at h1
      obtain ⟨cs, hcs, ht⟩ := Option.bind_eq_some_iff.1 h1
      obtain ⟨_, hlen, hcell⟩ := World.cells?_some hcs
      obtain ⟨u, rfl⟩ : ∃ u, cs = [u] := by
        match cs, hlen with
        | [u], _ => exact ⟨u, rfl⟩
      obtain ⟨q, m', d, l, rfl, hv, hok, hl1, hl2⟩ := calls_of ht
      have h2 := hcell 0 (by decide)
      rw [Addr.add_add] at h2
      exact ⟨l, hok, by omega, q, d, h2, hv⟩)
    unfold maxLen at hm
    refine ⟨some a, cap, ls, by rw [hcs, hx], ⟨rfl, by omega, (fun h => by cases h), fun hne => ?_⟩, fun l hl => ?_, fun l hl => ?_, by omega⟩
    · have hpos : 0 < ls.length := by
        cases ls with
        | nil => exact absurd rfl hne
        | cons _ _ => simp
      obtain ⟨q0, d0, h0, _⟩ := (hP 0 hpos).2.2
      obtain ⟨b, off, rfl⟩ := spot_none (a := a) (by simpa [Addr.add] using h0)
      refine ⟨b, off, rfl, fun i hi => ?_⟩
      obtain ⟨q, d, h1, h2⟩ := (hP i hi).2.2
      rw [addr_add_at] at h1
      exact ⟨q, d, h1, h2⟩
    · obtain ⟨j, hj, rfl⟩ := List.getElem_of_mem hl
      exact (hP j hj).1
    · obtain ⟨j, hj, rfl⟩ := List.getElem_of_mem hl
      exact (hP j hj).2.1
set_option maxRecDepth 100000 in
theorem ints_of {n : Nat} {v : Value} {y : DataW H × List MemPlace} (h : DataW.trod enc Tryd.prog W 0 (fun _ => true) true n 23 [v] = some y) :
    ∃ (p : Option Addr) (c : Nat) (xs : List Int), v = .slice p xs.length c ∧ RI W p xs.length c xs ∧ xs.length ≤ 9223372036854775807 := by
  rcases open_ints Tryd.underlying23 Tryd.underlying3 (by kernel_rfl) h with ⟨hcs, _⟩ | ⟨a, len, cap, zs, hcs, _, hl, hm, hz, _, hcell, hwz⟩
  · simp only [List.cons.injEq, and_true] at hcs
    exact ⟨none, 0, [], hcs, ⟨⟨_, _, rfl, fun h => absurd rfl h⟩, rfl, Nat.le_refl _, fun _ => rfl⟩, by decide⟩
  · simp only [List.cons.injEq, and_true] at hcs
    simp only [if_true] at hz
    have hlen : (zs.take len).length = len := List.length_take_of_le (by omega)
    unfold maxLen at hm
    refine ⟨some a, cap, zs.take len, by rw [hlen]; exact hcs, ⟨⟨_, _, rfl, fun hne => ?_⟩, rfl, by omega, fun h => by cases h⟩, by omega⟩
    have hpos : 0 < len := by
      rcases Nat.eq_zero_or_pos len with e | e
      · subst e; exact absurd (List.take_zero) hne
      · exact e
    obtain ⟨b, off, rfl⟩ := spot_none (a := a) (by have := hcell 0 (by omega); simpa [Addr.add] using this)
    refine ⟨b, off, rfl, fun i hi => ?_⟩
    rw [hlen] at hi
    have h1 := hcell i (by omega)
    rw [addr_add_at, List.getD_eq_getElem?_getD, List.getElem?_eq_getElem (by omega)] at h1
    simpa using h1
set_option maxRecDepth 100000 in
/-- A script that comes in. -/
theorem script_open {base : Nat} {v : Value} {d : DataW H} {ps : List MemPlace}
    (hval : Value.okWide Tryd.prog W .any base 25 v) (h : DataW.Trod enc Tryd.prog W 0 (fun _ => true) true 25 v d ps) :
    ∃ s, SAt W v s ∧ RowsOk s.ls ∧ (∀ l ∈ s.ls, l.length ≤ 9223372036854775807) ∧ s.ls.length ≤ 9223372036854775807 ∧ s.ps.length ≤ 9223372036854775807 := by
  obtain ⟨v0, v1, v2, v3, y0, y1, y2, y3, n, rfl, _, _, h0, h1, h2, h3⟩ := open_agg4 Tryd.underlying25 (by kernel_rfl) (by kernel_rfl) hval h
  obtain ⟨c, hc, _, _⟩ := DataW.trod_int (t := 3) Tryd.underlying3 h0
  obtain ⟨g, hg, _, _⟩ := DataW.trod_int (t := 3) Tryd.underlying3 h1
  obtain ⟨p, cp, ls, rfl, hl, hro, hll, hln⟩ := rows_of h2
  obtain ⟨q, d, xs, rfl, hr, hpn⟩ := ints_of h3
  simp only [List.cons.injEq, and_true] at hc hg
  subst hc hg
  exact ⟨⟨c, g, ls, xs⟩, ⟨_, _, _, _, _, _, rfl, hl, hr⟩, hro, hll, hln, hpn⟩
end

end Go.Proofs.YtjgdkfgcfningaaDoor
