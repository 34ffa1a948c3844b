/-
  One pick of a lock's play, appends of rows of one's own, and slices.Contains of what is not there: in the form in which the statement's walk calls them.
  Conditions: as each has them.
-/
import Derived.Test.YtcnpmkigiklnnaaKS1
import Derived.Test.YtcnpmkigiklnnaaKS17
import Derived.Deep.RegionLaw
import Derived.Laws.AppendOwnNone
/-
  Opening arguments: a slice of numbers of one kind reads as a list of them.
  Conditions: none.
-/
namespace Go.Proofs.Ytcnpmkigiklnnaa
open Go.ChangeShapes Go.WideShapes Go.ChangeAt Go.RowKit

theorem addr_add_at (b off i : Nat) : (⟨b, off, none⟩ : Addr).add i = ⟨b, off + i, none⟩ := by unfold Addr.add; split <;> simp_all
theorem nums_open {H : Type} {enc : TypeId × Value → H} {P : Program} {W : World} {base : Nat} {t e : TypeId} {k : IntKind} {v : Value} {d : DataW H} {ps : List MemPlace} (ht : P.underlying t = some (.slice e)) (he : P.underlying e = some (.int k)) (hc : P.cellsOf e = 1)
    (hval : Value.okWide P W .any base t v) (h : DataW.Trod enc P W 0 (fun _ => true) true t v d ps) :
    ∃ ns : List Int, NumsAt W k v ns ∧ (∀ x ∈ ns, (Lit.int k x).wf = true) ∧ ns.length ≤ 9223372036854775807 := by
  obtain ⟨a0, len, cap, rfl⟩ := okWide_slice ht hval
  obtain ⟨fuel, hf⟩ := h
  rcases open_ints ht he hc hf with ⟨hcs, _⟩ | ⟨a, len', cap', zs, hcs, _, hl, hm, hz, _, hcell, hwz⟩
  · simp [Value.cells] at hcs
    obtain ⟨rfl, rfl, rfl⟩ := hcs
    exact ⟨[], ⟨_, _, rfl, fun h => absurd rfl h⟩, (fun x hx => by cases hx), by decide⟩
  · simp [Value.cells] at hcs
    obtain ⟨rfl, rfl, rfl⟩ := hcs
    simp only [if_true] at hz
    have hlen : (zs.take len).length = len := List.length_take_of_le (by omega)
    refine ⟨zs.take len, ⟨_, _, by rw [hlen], fun hne => ?_⟩, fun x hx => hwz x (List.mem_of_mem_take hx), by rw [hlen]; unfold maxLen at hm; omega⟩
    have hpos : 0 < len := by
      rcases Nat.eq_zero_or_pos len with e | e
      · subst e; exact absurd (List.take_zero) hne
      · exact e
    obtain ⟨b, off, sp⟩ := a
    have hspot : sp = none := by
      have h0 := hcell 0 (by omega)
      simp only [Addr.add, if_true, World.cell?] at h0
      split at h0
      · cases sp with
        | none => rfl
        | some x => simp at h0
      · cases h0
    subst hspot
    refine ⟨b, off, rfl, fun i hi => ?_⟩
    rw [hlen] at hi
    have h1 := hcell i (by omega)
    rw [addr_add_at, List.getD_eq_getElem?_getD, List.getElem?_eq_getElem (by omega)] at h1
    simpa using h1

end Go.Proofs.Ytcnpmkigiklnnaa
/-
  Rows of those who want locks: copied, cut, and held against each other.
  Conditions: the ranges of Go's types.
-/
namespace Go.Proofs.Ytcnpmkigiklnnaa
open Go.RowKit Go.Shelf
attribute [local go_sem] Oper.semAt_some

/-- A row of those who want locks, as it came in. -/
def ArgS (W : World) (v : Value) (ss : List SpM) : Prop := ∃ p n c, v = .slice p n c ∧ n = ss.length ∧ n ≤ c ∧ ((p = none ∧ n = 0 ∧ c = 0) ∨ ∃ a : Addr, p = some a ∧ ∀ j u, (flatS ss)[j]? = some u → W.cell? (a.add j) = some u)
theorem ArgS.below {w w' : World} {v : Value} {ss : List SpM} (h : ArgS w v ss) (hb : Below w.heap.size w w') : ArgS w' v ss := by
  obtain ⟨p, n, c, rfl, hn, hc, h⟩ := h
  refine ⟨p, n, c, rfl, hn, hc, ?_⟩
  rcases h with h | ⟨a, rfl, hcs⟩
  · exact .inl h
  · exact .inr ⟨a, rfl, fun j u hj => below_cell hb (hcs j u hj)⟩
theorem flatS_take : ∀ (l : List SpM) (n j : Nat) (u : Value), (flatS (l.take n))[j]? = some u → (flatS l)[j]? = some u
  | [], n, j, u, h => by simpa using h
  | s :: r, 0, j, u, h => by simp [flatS] at h
  | s :: r, n + 1, j, u, h => by
    simp only [List.take_succ_cons, flatS] at h ⊢
    rcases j with _ | _ | _ | j
    · simpa using h
    · simpa using h
    · simpa using h
    · simp only [List.getElem?_cons_succ] at h ⊢
      exact flatS_take r n j u h
theorem spins_of_owns {W : World} {B n : Nat} {v : Value} {ss : List SpM} (hn : ss.length = n) (h : W.ownsRow B 24 3 v n (flatS ss)) : SpinsAt W v ss := by
  obtain ⟨q, c, rfl⟩ := owns_slice h
  subst hn
  refine ⟨q, c, rfl, fun hne => ?_⟩
  have hpos : 0 < ss.length := List.length_pos_iff.2 hne
  obtain ⟨g, cg, hf, _, _⟩ := own_form h hpos
  injection hf with hf hf2 hf3
  subst hf
  refine ⟨g, 0, rfl, fun j u hj => ?_⟩
  obtain ⟨hj1, rfl⟩ := List.getElem?_eq_some_iff.1 hj
  rw [flatS_length] at hj1
  rw [Nat.zero_add]
  have := h.cellAt j (by omega)
  rw [this]
  exact hj
theorem cloneS_info : (Try.prog.info? 24).map (fun i => (i.zero, i.size, i.bytes)) = some (some (.agg #[.int .i64 0, .int .i64 0, .int .u64 0]), 3, 24) := by kernel_rfl

set_option maxHeartbeats 2000000 in
theorem cloneS (v : Value) (n : Nat) (xs : List Value) (W : World) (hv : ValsAt W v 3 n xs) (h1 : ∀ u ∈ xs, u.oneCell' = true) (hn : n ≤ 1099511627776) :
    Calls Try.prog 42 #[v] W fun e w' => OwnsNew W.heap.size 24 3 n xs e w' ∧ Below W.heap.size W w' := by
  obtain ⟨hlen, p, cap, rfl, ⟨rfl, rfl, rfl⟩ | ⟨ad, rfl, hcells⟩⟩ := hv
  · obtain rfl : xs = [] := List.eq_nil_of_length_eq_zero (by omega)
    have hcmp := fun w => Lib.run_eql_slice_nil (P := Try.prog) w 57 24 none 0 0 0 0 Try.underlying57
    go_enter Try.func42, Try.ntmps42
    go_wp2
    go_ret
    exact ⟨⟨_, rfl, World.ownsRow_nil _ _ _ _⟩, Below.refl _ _⟩
  · have hcmp := fun w => Lib.run_eql_slice_nil (P := Try.prog) w 57 24 (some ad) n cap 0 0 Try.underlying57
    obtain ⟨i0, hi, hz0, hz1, hz2⟩ := info_parts cloneS_info
    have hown := World.ownsRow_lit (base := W.heap.size) (e := 24) (size := 3) W #[] 0 (Nat.le_refl _) (by decide) rfl
    have hnews : ∀ j u, xs[j]? = some u → (W.alloc (Obj.cells #[] 24)).cell? (ad.add j) = some u := fun j u hj => by
      have h0 := hcells j u hj
      rw [World.cell?_alloc_lt _ _ _ (World.block_lt_of_cell? W _ h0)]
      exact h0
    have HN := Lib.hid hnews
    have H1 := Lib.hid h1
    have HO := Lib.hid hown
    clear hnews h1 hown hcells
    go_enter Try.func42, Try.ntmps42
    go_wp2_with (at_builtin; refine wpList_append_own _ rfl _ _ 57 rfl W.heap.size 24 i0 (.agg #[.int .i64 0, .int .i64 0, .int .u64 0]) 3 24 Try.underlying57 hi hz0 hz1 hz2 rfl (by decide) _ _ _ rfl HO.out ad n cap xs rfl hlen HN.out H1.out (by unfold maxLen; omega) (by omega) (by simp) ?_; intro v' w1 hown' hgrow _)
    go_ret
    rw [Nat.zero_add, List.nil_append] at hown'
    exact ⟨⟨v', rfl, hown'⟩, below_grown ((Below.refl _ _).alloc (Nat.le_refl _) _) hgrow (fun k e => by cases e; exact Nat.le_refl _)⟩

/-- few: the first six of them, in memory of their own. -/
def FewRes (B : Nat) (ss : List SpM) (e : Ending) (w' : World) : Prop := ∃ q d, e = .returned (.slice q ss.length d) ∧ w'.ownsRow B 24 3 (.slice q ss.length d) ss.length (flatS ss)
set_option maxRecDepth 100000 in
set_option maxHeartbeats 2000000 in
theorem few_c (v : Value) (ss : List SpM) (W : World) (hv : ArgS W v ss) (hl : ss.length ≤ 9223372036854775807) :
    Calls Try.prog 24 #[v] W fun e w' => FewRes W.heap.size (ss.take 6) e w' ∧ Below W.heap.size W w' := by
  obtain ⟨p, n, c, rfl, hn, hc, hp⟩ := hv
  have HC := Lib.hid (show ∀ W' : World, Below W.heap.size W W' → Calls Try.prog 42 #[.slice p (min n 6) c] W' fun e w' => FewRes W'.heap.size (ss.take 6) e w' ∧ Below W'.heap.size W' w' from fun W' hb => by
    have hlen : (ss.take 6).length = min n 6 := by rw [List.length_take, hn]; omega
    refine (cloneS _ (min n 6) (flatS (ss.take 6)) W' ⟨by rw [flatS_length, hlen], p, c, rfl, ?_⟩ (flatS_one _) (by omega)).mono fun e w' hh => ⟨?_, hh.2⟩
    · rcases hp with ⟨rfl, rfl, rfl⟩ | ⟨a, rfl, hcs⟩
      · exact .inl ⟨rfl, rfl, rfl⟩
      · exact .inr ⟨a, rfl, fun j u hj => below_cell hb (hcs j u (flatS_take ss 6 j u hj))⟩
    · obtain ⟨v', rfl, ho⟩ := hh.1
      obtain ⟨q, d, rfl⟩ := owns_slice ho
      rw [← hlen] at ho ⊢
      exact ⟨q, d, rfl, ho⟩)
  obtain ⟨k0, hk0⟩ : ∃ k, k = min n 6 := ⟨_, rfl⟩
  have hs0 : ∀ wx, (Instr.slice 57 (.slice p n c) none (some (.int .i64 (k0 : Int))) none).run Try.prog wx = .ok (.slice p k0 c) wx := fun wx => by
    rw [run_slice_h wx 57 p n c Try.underlying57 .i64 (k0 : Int) (by omega) (by omega)]
    have h3 : (sizeOf (Try.prog.elem 57)).run Try.prog wx = .ok 3 wx := by go_simp
    rw [h3]
    have : Option.map (fun x : Addr => x.add 0) p = p := by cases p <;> simp [Addr.add_zero']
    simp [sliced, Result.andThen, this]
  have hm0 : ∀ wx, (Builtin.min_ #[3, 3] 3 #[.int .i64 (n : Int), .int .i64 6]).run Try.prog wx = .ok (.int .i64 (k0 : Int)) wx := fun wx => by
    have : (if (6 : Int) < (n : Int) then (6 : Int) else n) = (k0 : Int) := by rw [hk0]; split <;> omega
    simp [Builtin.min_, Builtin.min2, this]
  have hn2 : n ≤ 9223372036854775807 := by omega
  rw [← hk0] at HC
  clear hp hk0 hn hl hc
  go_enter Try.func24, Try.ntmps24
  go_wp2_with fail
  refine (HC.out _ (Below.refl _ _)).mono ?_
  rintro e w1 ⟨⟨q, d, rfl, ho⟩, hb⟩
  have HO := Lib.hid (show FewRes W.heap.size (ss.take 6) (.returned (.slice q (ss.take 6).length d)) w1 from ⟨q, d, rfl, ho⟩)
  have HB := Lib.hid hb
  clear ho hb hs0 hm0
  generalize (ss.take 6).length = m at HO
  go_wp2
  go_ret
  exact ⟨HO.out, HB.out⟩

set_option maxRecDepth 100000 in
set_option maxHeartbeats 4000000 in
theorem refSameS (v0 v1 : Value) (fs : List SpM) (W : World) (hv0 : SpinsAt W v0 fs) (hv1 : SpinsAt W v1 fs) (hl : fs.length ≤ 9223372036854775807) :
    Calls Try.prog 28 #[v0, v1] W fun e w' => e = .returned (.bool true) ∧ Below W.heap.size W w' := by
  obtain ⟨p0, cap0, rfl, hc0⟩ := hv0
  obtain ⟨p1, cap1, rfl, hc1⟩ := hv1
  have H0 := Lib.hid hc0
  have H1 := Lib.hid hc1
  clear hc0 hc1
  go_enter Try.func28, Try.ntmps28
  have hne : ((fs.length : Int) != (fs.length : Int)) = false := by rw [bne_eq_false_iff_eq]
  go_wp2
  go_loopw [13] (fun iv wr => ∃ i : Nat, i ≤ fs.length ∧ iv = .int .i64 i ∧ Below W.heap.size W wr) (fun iv _ => fs.length - (intOf iv).toNat)
  case atStart => exact ⟨0, Nat.zero_le _, rfl, Below.refl _ _⟩
  case round =>
    obtain ⟨i, hi, rfl, hB⟩ := hrel
    by_cases hlt : i < fs.length
    · obtain ⟨b0, off0, rfl, hcs0⟩ := H0.out (by intro e; rw [e] at hlt; cases hlt)
      obtain ⟨b1, off1, rfl, hcs1⟩ := H1.out (by intro e; rw [e] at hlt; cases hlt)
      obtain ⟨f0, f1, f2⟩ := flatS_get fs i hlt
      obtain ⟨⟨a, p, t⟩, hak⟩ : ∃ f, f = fs[i] := ⟨_, rfl⟩
      rw [← hak] at f0 f1 f2
      have x0 := below_cell hB (hcs0 _ _ f0)
      have x1 := below_cell hB (hcs0 _ _ f1)
      have x2 := below_cell hB (hcs0 _ _ f2)
      have y0 := below_cell hB (hcs1 _ _ f0)
      have y1 := below_cell hB (hcs1 _ _ f1)
      have y2 := below_cell hB (hcs1 _ _ f2)
      simp only [← Nat.add_assoc] at x0 x1 x2 y0 y1 y2
      have hcmp := fun w => run_neq_same a p t w
      clear f0 f1 f2 hcs0 hcs1 hak hne
      go_wp2
      go_quiet (fail)
      go_wp2
      all_goals
        go_roundw
        case rel => exact ⟨i + 1, by omega, by go_num, below_drewN hB _⟩
        case measure => simp [intOf]; omega
    · go_wp2
      go_ret
      exact ⟨rfl, hB⟩

set_option maxRecDepth 100000 in
set_option maxHeartbeats 4000000 in
theorem equalS_same (v0 v1 : Value) (fs : List SpM) (W : World) (hv0 : SpinsAt W v0 fs) (hv1 : SpinsAt W v1 fs) (hl : fs.length ≤ 9223372036854775807) :
    Calls Try.prog 30 #[v0, v1] W fun e w' => e = .returned (.bool true) ∧ Below W.heap.size W w' := by
  obtain ⟨p0, cap0, rfl, hc0⟩ := hv0
  obtain ⟨p1, cap1, rfl, hc1⟩ := hv1
  have H0 := Lib.hid hc0
  have H1 := Lib.hid hc1
  clear hc0 hc1
  go_enter Try.func30, Try.ntmps30
  have hne : ((fs.length : Int) != (fs.length : Int)) = false := by rw [bne_eq_false_iff_eq]
  go_wp2
  go_loopw [13] (fun iv wr => ∃ i : Nat, i ≤ fs.length ∧ iv = .int .i64 i ∧ Below W.heap.size W wr) (fun iv _ => fs.length - (intOf iv).toNat)
  case atStart => exact ⟨0, Nat.zero_le _, rfl, Below.refl _ _⟩
  case round =>
    obtain ⟨i, hi, rfl, hB⟩ := hrel
    by_cases hlt : i < fs.length
    · obtain ⟨b0, off0, rfl, hcs0⟩ := H0.out (by intro e; rw [e] at hlt; cases hlt)
      obtain ⟨b1, off1, rfl, hcs1⟩ := H1.out (by intro e; rw [e] at hlt; cases hlt)
      obtain ⟨f0, f1, f2⟩ := flatS_get fs i hlt
      obtain ⟨⟨a, p, t⟩, hak⟩ : ∃ f, f = fs[i] := ⟨_, rfl⟩
      rw [← hak] at f0 f1 f2
      have x0 := below_cell hB (hcs0 _ _ f0)
      have x1 := below_cell hB (hcs0 _ _ f1)
      have x2 := below_cell hB (hcs0 _ _ f2)
      have y0 := below_cell hB (hcs1 _ _ f0)
      have y1 := below_cell hB (hcs1 _ _ f1)
      have y2 := below_cell hB (hcs1 _ _ f2)
      simp only [← Nat.add_assoc] at x0 x1 x2 y0 y1 y2
      have hcmp := fun w => run_neq_same a p t w
      clear f0 f1 f2 hcs0 hcs1 hak hne
      go_wp2
      go_quiet (fail)
      go_wp2
      all_goals
        go_roundw
        case rel => exact ⟨i + 1, by omega, by go_num, below_drewN hB _⟩
        case measure => simp [intOf]; omega
    · go_wp2
      go_ret
      exact ⟨rfl, hB⟩

end Go.Proofs.Ytcnpmkigiklnnaa
/-
  Play, of package spin, where the memory may not be, or one of those who want locks.
  Conditions: the ranges of Go's types.
-/
namespace Go.Proofs.Ytcnpmkigiklnnaa
open Go.RowKit Go.Shelf
attribute [local go_sem] Oper.semAt_some

set_option maxRecDepth 100000 in
set_option maxHeartbeats 8000000 in
theorem qplay_bad (k : Int) (v v1 v2 : Value) (ws : List Int) (ls : List Bool) (f : Bool) (ps : List Int) (W : World) (hv : MemAt W v ws ls f) (h1 : ∃ p n c, v1 = .slice p n c) (hN : NumsAt W .i64 v2 ps)
    (hk : k ≠ 0) (hbg : ∀ Z, Below W.heap.size W Z → Calls Try.prog 39 #[v, v1] Z fun e w' => e = .returned (.tuple #[.pointer none, .int .i64 k]) ∧ Below Z.heap.size Z w') :
    Calls Try.prog 26 #[v, v1, v2] W fun e w' => e = .returned (.tuple #[.agg #[.slice none 0 0, .slice none 0 0, .bool false], .slice none 0 0, .slice none 0 0, .int .i64 k]) ∧ Below W.heap.size W w' := by
  obtain ⟨vw, vl, rfl, ⟨pw, cw, rfl, hcw⟩, pl, cl, rfl, hcl⟩ := hv
  obtain ⟨q, m, cap, rfl⟩ := h1
  obtain ⟨pp, dp, rfl, hcp⟩ := hN
  obtain ⟨nw, hnw⟩ : ∃ nw, nw = ws.length := ⟨_, rfl⟩
  obtain ⟨nl, hnl⟩ : ∃ nl, nl = ls.length := ⟨_, rfl⟩
  obtain ⟨np, hnp⟩ : ∃ np, np = ps.length := ⟨_, rfl⟩
  rw [← hnw, ← hnl] at hbg
  rw [← hnw, ← hnl, ← hnp]
  have HBEG := Lib.hid hbg
  clear hcw hcl hcp hnw hnl hnp hbg
  obtain ⟨Z0, hZ0⟩ : ∃ Z : World, Z = (W.alloc (.cells #[.slice pw nw cw, .slice pl nl cl, .bool f] 46)).alloc (.cells #[.slice none 0 0, .slice none 0 0, .bool false] 46) := ⟨_, rfl⟩
  have hb0 : Below W.heap.size W Z0 := by rw [hZ0]; exact below2 W _ _
  have hm0 : MBox Z0 (W.heap.size + 1) (.slice none 0 0) (.slice none 0 0) false := by
    rw [hZ0]
    have h0 := MBox.new (W.alloc (.cells #[.slice pw nw cw, .slice pl nl cl, .bool f] 46)) (.slice none 0 0) (.slice none 0 0) false
    rwa [World.size_alloc] at h0
  have HZ := Lib.hid (And.intro hb0 hm0)
  clear hb0 hm0
  go_enter Try.func26, Try.ntmps26
  go_wp2_with fail
  rw [← hZ0]
  clear hZ0
  refine (HBEG.out _ HZ.out.1).mono ?_
  rintro e w1 ⟨rfl, hb1⟩
  obtain ⟨z, hz⟩ : ∃ z, z = W.heap.size + 1 := ⟨_, rfl⟩
  have hm1 := HZ.out.2.below hb1
  rw [← hz] at hm1 ⊢
  have HZW := Lib.hid hz
  have HM1 := Lib.hid hm1
  have HB1 := Lib.hid (below_then HZ.out.1 HZ.out.1.size hb1)
  obtain ⟨⟨d0, d1, d2⟩, e0, e1, e2⟩ := mbox_cells hm1
  have hk0 : (k != 0) = true := by simpa using hk
  clear hb1 HBEG HZ hz hm1 hk
  go_wp2
  obtain ⟨X1, hX1⟩ : ∃ Y : World, Y = ((w1.setCell ⟨z, 0, none⟩ (.slice none 0 0)).setCell ⟨z, 1, none⟩ (.slice none 0 0)).setCell ⟨z, 2, none⟩ (.bool false) := ⟨_, rfl⟩
  rw [← hX1]
  have hk1 : Keeps (fun q => q = z) w1 X1 := by
    rw [hX1]
    exact ((Keeps.setCell w1 (S := fun q => q = z) (p := ⟨z, 0, none⟩) rfl _).trans (Keeps.setCell _ (S := fun q => q = z) (p := ⟨z, 1, none⟩) rfl _)).trans (Keeps.setCell _ (S := fun q => q = z) (p := ⟨z, 2, none⟩) rfl _)
  have hM1 : MBox X1 z (.slice none 0 0) (.slice none 0 0) false := by rw [hX1]; exact HM1.out.set _ _ _
  have HBF := Lib.hid (HB1.out.trans (hk1.below HB1.out.size (fun q hq => by have e : q = z := hq; have := HZW.out; omega)))
  clear d0 d1 d2 e0 e1 e2 hX1 hk1
  obtain ⟨⟨d0, d1, d2⟩, _⟩ := mbox_cells hM1
  refine bodyPost_ret (v := .tuple #[.agg #[.slice none 0 0, .slice none 0 0, .bool false], .slice none 0 0, .slice none 0 0, .int .i64 k]) (by simp [results, Try.results26, go_sem, d0, d1, d2]) rfl ⟨rfl, HBF.out⟩

theorem qplay_mem (v v1 v2 : Value) (ws : List Int) (ls : List Bool) (f : Bool) (ps : List Int) (W : World) (hv : MemAt W v ws ls f) (hr : rightB ws ls = false) (hw : ws.length ≤ 9223372036854775807) (h1 : ∃ p n c, v1 = .slice p n c) (hN : NumsAt W .i64 v2 ps) :
    Calls Try.prog 26 #[v, v1, v2] W fun e w' => e = .returned (.tuple #[.agg #[.slice none 0 0, .slice none 0 0, .bool false], .slice none 0 0, .slice none 0 0, .int .i64 120]) ∧ Below W.heap.size W w' :=
  qplay_bad 120 v v1 v2 ws ls f ps W hv h1 hN (by decide) fun Z hb => qbegin_bad v v1 ws ls f Z (hv.below hb) hw hr h1
theorem qplay_spin (v v1 v2 : Value) (ws : List Int) (ls : List Bool) (f : Bool) (ss : List SpM) (ps : List Int) (W : World) (hv : MemAt W v ws ls f) (hr : rightB ws ls = true) (hS : SpinsAt W v1 ss) (hmax : ss.length ≤ 1099511627776) (hbad : ∃ s ∈ ss, rightS s = false) (hN : NumsAt W .i64 v2 ps) :
    Calls Try.prog 26 #[v, v1, v2] W fun e w' => e = .returned (.tuple #[.agg #[.slice none 0 0, .slice none 0 0, .bool false], .slice none 0 0, .slice none 0 0, .int .i64 150]) ∧ Below W.heap.size W w' := by
  obtain ⟨q, cap, hv1, _⟩ := id hS
  refine qplay_bad 150 v v1 v2 ws ls f ps W hv ⟨_, _, _, hv1⟩ hN (by decide) fun Z hb => (qbegin v v1 ws ls f ss Z (hv.below hb) hr (hS.below hb) hmax).mono fun e w' h => ?_
  rcases h with ⟨⟨h1, _⟩ | ⟨_, h2⟩, h3⟩
  · obtain ⟨s, hs, h0⟩ := hbad
    rw [h1 s hs] at h0
    cases h0
  · exact ⟨h2, h3⟩

end Go.Proofs.Ytcnpmkigiklnnaa
/-
  Play, of the document's answers of layer 5: all picks, one behind the other, and who came to hold a lock.
  Conditions: the memory may be, and lies in rows of its own; so may all who want locks.
-/
namespace Go.Proofs.Ytcnpmkigiklnnaa
open Go.RowKit Go.Shelf
attribute [local go_sem] Oper.semAt_some

/-- Pick by pick. -/
def refR (ls : List Bool) (n : Nat) : List Int → PlM → List Int → PlM × List Int
  | [], P, h => (P, h)
  | p :: r, P, h => if 0 ≤ p ∧ p < (n : Int) then refR ls n r (turnP ls P p.toNat) (if ((turnP ls P p.toNat).ss.getD p.toNat dS).p = 3 then h ++ [p] else h) else refR ls n r P h
theorem turnP_done {ls : List Bool} {P : PlM} {i : Nat} (hi : i < P.ss.length) (h : (P.ss.getD i dS).p = 5) : turnP ls P i = P := by
  have hl : leaveS (P.ss.getD i dS) = P.ss.getD i dS := by unfold leaveS; rw [if_neg (by omega)]
  have hss : P.ss.set i (P.ss.getD i dS) = P.ss := by
    rw [List.getD_eq_getElem?_getD, List.getElem?_eq_getElem hi]
    exact List.set_getElem_self hi
  unfold turnP
  rw [hl, hss]
  have hh : hasS (P.ss.getD i dS) = false := by unfold hasS; rw [h]; rfl
  have hst : stepM ls P.ws P.f (P.ss.getD i dS) = (P.ws, P.f, P.ss.getD i dS) := by unfold stepM; rw [hh]; rfl
  show stepP ls P i = P
  unfold stepP
  rw [hst]
  simp only [hss]
theorem refR_play (ls : List Bool) (n : Nat) : ∀ (ps : List Int) (P : PlM) (h : List Int), P.ss.length = n → playR ls n ps P h = refR ls n ps P h
  | [], _, _, _ => rfl
  | p :: r, P, h, hn => by
    simp only [playR, refR]
    by_cases hp : 0 ≤ p ∧ p < (n : Int)
    · rw [if_pos hp]
      by_cases h5 : (P.ss.getD p.toNat dS).p = 5
      · have ho : okPick n P.ss p = false := by unfold okPick; simp only [h5]; simp
        rw [ho, if_neg (by decide), turnP_done (by omega) h5, if_neg (by omega)]
        exact refR_play ls n r P h hn
      · have ho : okPick n P.ss p = true := by unfold okPick; simp only [h5, decide_eq_true hp.1, decide_eq_true hp.2]; simp
        rw [ho, if_pos rfl]
        exact refR_play ls n r _ _ (by rw [turnP_len]; exact hn)
    · have ho : okPick n P.ss p = false := by
        unfold okPick
        by_cases h0 : 0 ≤ p
        · have : ¬ p < (n : Int) := fun h => hp ⟨h0, h⟩
          simp [this]
        · simp [h0]
      rw [ho, if_neg (by decide), if_neg hp]
      exact refR_play ls n r P h hn
theorem refR_snoc (ls : List Bool) (n : Nat) (p : Int) : ∀ (ps : List Int) (P : PlM) (h : List Int), refR ls n (ps ++ [p]) P h = (if 0 ≤ p ∧ p < (n : Int) then (turnP ls (refR ls n ps P h).1 p.toNat, (if ((turnP ls (refR ls n ps P h).1 p.toNat).ss.getD p.toNat dS).p = 3 then (refR ls n ps P h).2 ++ [p] else (refR ls n ps P h).2)) else refR ls n ps P h)
  | [], P, h => by
    simp only [List.nil_append, refR]
    by_cases hp : 0 ≤ p ∧ p < (n : Int)
    · rw [if_pos hp, if_pos hp]; rfl
    · rw [if_neg hp, if_neg hp]
  | q :: r, P, h => by
    simp only [List.cons_append, refR]
    split
    · exact refR_snoc ls n p r _ _
    · exact refR_snoc ls n p r _ _
theorem refR_held (ls : List Bool) (n : Nat) : ∀ (ps : List Int) (P : PlM) (h : List Int), (refR ls n ps P h).2.length ≤ h.length + ps.length
  | [], _, h => by simp [refR]
  | p :: r, P, h => by
    simp only [refR]
    split
    · refine Nat.le_trans (refR_held ls n r _ _) ?_
      split <;> simp <;> omega
    · refine Nat.le_trans (refR_held ls n r _ _) ?_
      simp
theorem turnP_of (ls : List Bool) (P : PlM) (i : Nat) (hi : i < P.ss.length) {us2 : List Int} {f2 : Bool} {s2 : SpM} (h : stepP ls ⟨P.ws, P.f, [leaveS (P.ss.getD i dS)]⟩ 0 = ⟨us2, f2, [s2]⟩) : turnP ls P i = ⟨us2, f2, P.ss.set i s2⟩ := by
  have hg : (P.ss.set i (leaveS (P.ss.getD i dS))).getD i dS = leaveS (P.ss.getD i dS) := by
    rw [List.getD_eq_getElem?_getD, List.getElem?_set_self hi]; rfl
  unfold turnP
  unfold stepP at h ⊢
  simp only [List.getD_cons_zero] at h
  rw [hg]
  injection h with h1 h2 h3
  simp only [List.set_cons_zero] at h3
  injection h3 with h3 _
  rw [h1, h2, h3, List.set_set]
/-- How a play of the document's lies in memory. -/
structure RefP (w : World) (B B2 z n : Nat) (ls : List Bool) (P : PlM) (x y va vh : Value) (h : List Int) : Prop where
  box : MBox w z x y P.f
  out' : MBox w (z + 1) (.slice none 0 0) (.slice none 0 0) false
  words : w.ownsRow B 22 1 x P.ws.length (P.ws.map (Value.int .u64))
  lives : w.ownsRow B 4 1 y ls.length (ls.map Value.bool)
  all : w.ownsRow B2 24 3 va n (flatS P.ss)
  held : w.ownsRow B2 3 1 vh h.length (h.map (Value.int .i64))
  len : P.ss.length = n
theorem RefP.below {w w' : World} {B B2 z n : Nat} {ls : List Bool} {P : PlM} {x y va vh : Value} {h : List Int} (p : RefP w B B2 z n ls P x y va vh h) (hb : Below w.heap.size w w') : RefP w' B B2 z n ls P x y va vh h :=
  ⟨p.box.below hb, p.out'.below hb, owns_below p.words hb, owns_below p.lives hb, owns_below p.all hb, owns_below p.held hb, p.len⟩
/-- What Play answers. -/
def RPlay (B B2 : Nat) (ls : List Bool) (P : PlM) (hs : List Int) (e : Ending) (w' : World) : Prop :=
  ∃ x y va vh, e = .returned (.tuple #[.agg #[x, y, .bool P.f], va, vh]) ∧ w'.ownsRow B 22 1 x P.ws.length (P.ws.map (Value.int .u64)) ∧ w'.ownsRow B 4 1 y ls.length (ls.map Value.bool) ∧
    w'.ownsRow B2 24 3 va P.ss.length (flatS P.ss) ∧ w'.ownsRow B2 3 1 vh hs.length (hs.map (Value.int .i64))
theorem cell_set3' {w : World} {b z o : Nat} {x0 x1 x2 v : Value} (h : w.cell? ⟨z, o, none⟩ = some v) (hz : z ≠ b) : (((w.setCell ⟨b, 0, none⟩ x0).setCell ⟨b, 1, none⟩ x1).setCell ⟨b, 2, none⟩ x2).cell? ⟨z, o, none⟩ = some v :=
  (((Keeps.setCell w (S := fun q => q = b) (p := ⟨b, 0, none⟩) rfl _).trans (Keeps.setCell _ (S := fun q => q = b) (p := ⟨b, 1, none⟩) rfl _)).trans (Keeps.setCell _ (S := fun q => q = b) (p := ⟨b, 2, none⟩) rfl _)).cell h hz
theorem all_cells {w : World} {B n g c : Nat} {ss : List SpM} {i : Nat} (h : w.ownsRow B 24 3 (.slice (some ⟨g, 0, none⟩) n c) n (flatS ss)) (hl : ss.length = n) (hi : i < n) :
    (w.cell? ⟨g, i * 3, none⟩ = some (.int .i64 (ss.getD i dS).a) ∧ w.cell? ⟨g, i * 3 + 1, none⟩ = some (.int .i64 (ss.getD i dS).p) ∧ w.cell? ⟨g, i * 3 + 2, none⟩ = some (.int .u64 (ss.getD i dS).t)) ∧ (∀ j, w.frozen? ⟨g, j, none⟩ = false) ∧ g < w.heap.size := by
  have hi' : i < ss.length := by omega
  have e : ss.getD i dS = ss[i] := by rw [List.getD_eq_getElem?_getD, List.getElem?_eq_getElem hi']; rfl
  rw [e]
  obtain ⟨f0, f1, f2⟩ := flatS_get ss i hi'
  exact ⟨⟨(h.cellAt _ (by omega)).trans f0, (h.cellAt _ (by omega)).trans f1, (h.cellAt _ (by omega)).trans f2⟩, fun j => h.frozenAt j, (h.lt g rfl).2⟩
/-- The two stores behind a step. -/
theorem RefP.put {w w1 w2 : World} {B B2 z n g c i : Nat} {ls : List Bool} {P : PlM} {x y x2 y2 vh : Value} {h : List Int} {us2 : List Int} {f2 : Bool} {s2 : SpM} (p : RefP w B B2 z n ls P x y (.slice (some ⟨g, 0, none⟩) n c) vh h)
    (hx : w.ownsRow B 22 1 x2 us2.length (us2.map (Value.int .u64))) (hy : w.ownsRow B 4 1 y2 ls.length (ls.map Value.bool))
    (h1 : w1 = ((w.setCell ⟨z, 0, none⟩ x2).setCell ⟨z, 1, none⟩ y2).setCell ⟨z, 2, none⟩ (.bool f2))
    (h2 : w2 = ((w1.setCell ⟨g, i * 3, none⟩ (.int .i64 s2.a)).setCell ⟨g, i * 3 + 1, none⟩ (.int .i64 s2.p)).setCell ⟨g, i * 3 + 2, none⟩ (.int .u64 s2.t)) :
    RefP w2 B B2 z n ls ⟨us2, f2, P.ss.set i s2⟩ x2 y2 (.slice (some ⟨g, 0, none⟩) n c) vh h ∧ Keeps (fun q => q = z ∨ q = g) w w2 := by
  have hk1 : Keeps (fun q => q = z) w w1 := by
    rw [h1]
    exact ((Keeps.setCell w (S := fun q => q = z) (p := ⟨z, 0, none⟩) rfl _).trans (Keeps.setCell _ (S := fun q => q = z) (p := ⟨z, 1, none⟩) rfl _)).trans (Keeps.setCell _ (S := fun q => q = z) (p := ⟨z, 2, none⟩) rfl _)
  have k0 : ∀ (X : World) (i : Nat) (v : Value), Keeps (fun q => q = g) X (X.setCell ⟨g, i, none⟩ v) := fun X i v => Keeps.setCell X (S := fun q => q = g) (p := ⟨g, i, none⟩) rfl v
  have hk2 : Keeps (fun q => q = g) w1 w2 := by rw [h2]; exact ((k0 _ _ _).trans (k0 _ _ _)).trans (k0 _ _ _)
  have hzg : ∀ {a b : Value} {f : Bool} {z' : Nat}, MBox w z' a b f → z' ≠ g := fun hm => hm.row p.all (by decide) rfl
  have hb1 : MBox w1 z x2 y2 f2 := by rw [h1]; exact p.box.set _ _ _
  have hr1 : ∀ {E : TypeId} {s m B' : Nat} {v : Value} {xs : List Value}, w.ownsRow B' E s v m xs → E ≠ 46 → w1.ownsRow B' E s v m xs := fun hr hE => hk1.row hr fun q hq e => p.box.row hr hE hq (by have e : q = z := e; exact e.symm)
  have ha1 := hr1 p.all (by decide)
  have hs : w2.ownsRow B2 24 3 (.slice (some ⟨g, 0, none⟩) n c) n (flatS (P.ss.set i s2)) := by
    rw [h2, ← flatS_set]
    exact (((ha1.stored _ _).1.stored _ _).1.stored _ _).1
  have hr2 : ∀ {E : TypeId} {s m B' : Nat} {v : Value} {xs : List Value}, w1.ownsRow B' E s v m xs → E ≠ 24 → w2.ownsRow B' E s v m xs := fun hr hE => hk2.row hr fun q hq e => by
    have e : q = g := e
    subst e
    exact owns_ne hr ha1 hE hq rfl rfl
  refine ⟨⟨hb1.keeps hk2 (hzg p.box), (p.out'.keeps hk1 (fun e => by have e : z + 1 = z := e; omega)).keeps hk2 (hzg p.out'), hr2 (hr1 hx (by decide)) (by decide), hr2 (hr1 hy (by decide)) (by decide), hs, hr2 (hr1 p.held (by decide)) (by decide), by rw [List.length_set]; exact p.len⟩, ?_⟩
  exact (hk1.sub (T := fun q => q = z ∨ q = g) fun q _ e => .inl e).trans (hk2.sub (T := fun q => q = z ∨ q = g) fun q _ e => .inr e)
/-- Somebody more has come to hold a lock. -/
theorem RefP.more {w w2 : World} {B B2 z n : Nat} {ls : List Bool} {P : PlM} {x y va vh vh' : Value} {h h' : List Int} (p : RefP w B B2 z n ls P x y va vh h) (hg : w.grownBy w2 vh.ownBlock)
    (hh : w2.ownsRow B2 3 1 vh' h'.length (h'.map (Value.int .i64))) : RefP w2 B B2 z n ls P x y va vh' h' := by
  have hk := Keeps.of_grown hg
  have hr : ∀ {E : TypeId} {s m B' : Nat} {v : Value} {xs : List Value}, w.ownsRow B' E s v m xs → E ≠ 3 → w2.ownsRow B' E s v m xs := fun hr hE => hk.row hr fun q hq e => owns_ne hr p.held hE hq e.symm rfl
  have hm : ∀ {a b : Value} {f : Bool} {z' : Nat}, MBox w z' a b f → MBox w2 z' a b f := fun hm => hm.keeps hk (fun e => hm.row p.held (by decide) e.symm rfl)
  exact ⟨hm p.box, hm p.out', hr p.words (by decide), hr p.lives (by decide), hr p.all (by decide), hh, p.len⟩
theorem num_info' : (Try.prog.info? 3).map (fun i => (i.zero, i.size, i.bytes)) = some (some (.int .i64 0), 1, 8) := by kernel_rfl

end Go.Proofs.Ytcnpmkigiklnnaa
/-
  Play, of the document's answers of layer 5, walked.
  Conditions: as the text ahead has them.
-/
namespace Go.Proofs.Ytcnpmkigiklnnaa
open Go.RowKit Go.Shelf
attribute [local go_sem] Oper.semAt_some

set_option maxRecDepth 100000 in
set_option maxHeartbeats 16000000 in
theorem refPlay_c (B : Nat) (vx vy v1 v2 : Value) (us : List Int) (ms : List Bool) (f : Bool) (ss : List SpM) (ps : List Int) (W : World) (h0 : W.ownsRow B 22 1 vx us.length (us.map (Value.int .u64))) (h1 : W.ownsRow B 4 1 vy ms.length (ms.map Value.bool)) (hB : B ≤ W.heap.size)
    (hok : PlOk ms ⟨us, f, ss⟩) (hS : SpinsAt W v1 ss) (hq : ∀ c, v1 = .slice none 0 c → c = 0) (hmax : ss.length ≤ 100) (hN : NumsAt W .i64 v2 ps) (hnp : ps.length ≤ 100) :
    Calls Try.prog 27 #[.agg #[vx, vy, .bool f], v1, v2] W fun e w' => RPlay B W.heap.size ms (refR ms ss.length ps ⟨us, f, ss⟩ []).1 (refR ms ss.length ps ⟨us, f, ss⟩ []).2 e w' ∧ Below W.heap.size W w' := by
  obtain ⟨i0, hi0, hz0, hz1, hz2⟩ := info_parts cloneS_info
  obtain ⟨i1, hi1, hy0, hy1, hy2⟩ := info_parts num_info'
  have HI0 := Lib.hid (And.intro hi0 (And.intro hz0 (And.intro hz1 hz2)))
  have HI1 := Lib.hid (And.intro hi1 (And.intro hy0 (And.intro hy1 hy2)))
  clear hi0 hz0 hz1 hz2 hi1 hy0 hy1 hy2
  obtain ⟨px, cx, rfl⟩ := owns_slice h0
  obtain ⟨py, cy, rfl⟩ := owns_slice h1
  obtain ⟨q, cap, rfl, hc⟩ := hS
  obtain ⟨pp, dp, rfl, hcp⟩ := hN
  have HQ := Lib.hid hq
  have HC := Lib.hid hc
  have HCP := Lib.hid hcp
  clear hq hc hcp
  obtain ⟨n, hn⟩ : ∃ n, n = ss.length := ⟨_, rfl⟩
  obtain ⟨np, hpn⟩ : ∃ np, np = ps.length := ⟨_, rfl⟩
  rw [← hn] at HQ hmax
  rw [← hpn] at hnp
  rw [← hn, ← hpn]
  obtain ⟨Z0, hZ0⟩ : ∃ Z : World, Z = (W.alloc (.cells #[.slice px us.length cx, .slice py ms.length cy, .bool f] 46)).alloc (.cells #[.slice none 0 0, .slice none 0 0, .bool false] 46) := ⟨_, rfl⟩
  obtain ⟨z, hz⟩ : ∃ z, z = W.heap.size := ⟨_, rfl⟩
  have hb0 : Below W.heap.size W Z0 := by rw [hZ0]; exact below2 W _ _
  have hm0 : MBox Z0 z (.slice px us.length cx) (.slice py ms.length cy) f := by rw [hZ0, hz]; exact (MBox.new _ _ _ _).alloc _
  have hm1 : MBox Z0 (z + 1) (.slice none 0 0) (.slice none 0 0) false := by
    rw [hZ0, hz]
    have h0 := MBox.new (W.alloc (.cells #[.slice px us.length cx, .slice py ms.length cy, .bool f] 46)) (.slice none 0 0) (.slice none 0 0) false
    rwa [World.size_alloc] at h0
  have hzs : Z0.heap.size = z + 2 := by rw [hZ0, hz]; simp
  have HZ := Lib.hid (And.intro hb0 (And.intro hm0 (And.intro hm1 hzs)))
  have HR := Lib.hid (And.intro (owns_below h0 hb0) (owns_below h1 hb0))
  have HZW := Lib.hid hz
  have HNN := Lib.hid hn
  have HNP := Lib.hid hpn
  have HOK := Lib.hid hok
  have HBW := Lib.hid hB
  clear hb0 hm0 hm1 hzs hn hpn hok h0 h1 hB
  go_enter Try.func27, Try.ntmps27
  go_upto_region 1 with fail
  rw [← hZ0, ← hz]
  clear hZ0 hz
  have HLIT := Lib.hid (World.ownsRow_lit (base := z) (e := 24) (size := 3) Z0 #[] 0 (by have := HZ.out.2.2.2; omega) (by decide) rfl)
  go_cut [9] (fun v9 wc => Hid (RefP wc B z z n ms ⟨us, f, ss⟩ (.slice px us.length cx) (.slice py ms.length cy) v9 (.slice none 0 0) [] ∧ Below W.heap.size W wc))
  case first =>
    have hb1 := below1 Z0 (.cells #[] 24)
    have HB1 := Lib.hid (below_then HZ.out.1 HZ.out.1.size hb1)
    have HM1 := Lib.hid (And.intro (HZ.out.2.1.below hb1) (And.intro (HZ.out.2.2.1.below hb1) (And.intro (owns_below HR.out.1 hb1) (owns_below HR.out.2 hb1))))
    clear hb1
    cases q with
    | none =>
      have hss : ss = [] := by
        by_cases hne : ss = []
        · exact hne
        · obtain ⟨b, off, h, _⟩ := HC.out hne
          cases h
      have hn0 : n = 0 := by rw [HNN.out, hss]; rfl
      subst hn0
      have hc0 := HQ.out cap rfl
      subst hc0
      have HSS := Lib.hid hss
      clear hss
      go_wp2_with (at_builtin; refine wpList_append_own_none rfl _ _ 57 rfl z 24 i0 3 Try.underlying57 HI0.out.1 _ _ _ rfl HLIT.out rfl ?_)
      go_meet
      exact Lib.hid ⟨⟨HM1.out.1, HM1.out.2.1, HM1.out.2.2.1, HM1.out.2.2.2, by rw [HSS.out]; exact HLIT.out, World.ownsRow_nil _ _ _ _, by rw [HSS.out]; rfl⟩, HB1.out⟩
    | some ad =>
      have hnews : ∀ j u, (flatS ss)[j]? = some u → (Z0.alloc (Obj.cells #[] 24)).cell? (ad.add j) = some u := fun j u hj => by
        have hne : ss ≠ [] := by rintro rfl; simp [flatS] at hj
        obtain ⟨b, off, h, hcs⟩ := HC.out hne
        injection h with h
        subst h
        rw [addr_add_off]
        exact below_cell HB1.out (hcs j u hj)
      have HNEW := Lib.hid hnews
      clear hnews
      go_wp2_with (at_builtin; refine wpList_append_own _ rfl _ _ 57 rfl z 24 i0 (.agg #[.int .i64 0, .int .i64 0, .int .u64 0]) 3 24 Try.underlying57 HI0.out.1 HI0.out.2.1 HI0.out.2.2.1 HI0.out.2.2.2 rfl (by decide) _ _ _ rfl HLIT.out ad n cap (flatS ss) rfl (by rw [flatS_length, HNN.out]) HNEW.out (flatS_one _) (by unfold maxLen; omega) (by omega) (by have := HZ.out.2.2.2; simp; omega) ?_; intro v' w1 hown' hgrow _)
      go_meet
      rw [Nat.zero_add, List.nil_append] at hown'
      have hk := Keeps.of_grown hgrow
      have hz2 := HZ.out.2.2.2
      have hne : ∀ k, some k = (Value.slice (some ⟨Z0.heap.size, 0, none⟩) 0 0).ownBlock → k = Z0.heap.size := fun k e => by cases e; rfl
      exact Lib.hid ⟨⟨HM1.out.1.keeps hk (fun e => by have := hne _ e; omega), HM1.out.2.1.keeps hk (fun e => by have := hne _ e; omega), hk.row HM1.out.2.2.1 (fun g hg e => owns_ne HM1.out.2.2.1 HLIT.out (by decide) hg e.symm rfl), hk.row HM1.out.2.2.2 (fun g hg e => owns_ne HM1.out.2.2.2 HLIT.out (by decide) hg e.symm rfl), hown', World.ownsRow_nil _ _ _ _, HNN.out.symm⟩, below_grown HB1.out hgrow (fun k e => by have := hne k e.symm; have := HZW.out; omega)⟩
  case rest =>
    obtain ⟨hrp, hbb⟩ := hcut.out
    obtain ⟨pA, cA, rfl⟩ := owns_slice hrp.all
    have HRP := Lib.hid hrp
    have HBB := Lib.hid hbb
    clear hcut hrp hbb HLIT HZ HR HQ HC
    go_wp2
    go_loopw [10, 19] (fun hv iv wr => ∃ (k : Nat) (x y : Value) (P : PlM) (h : List Int) (ph : Option Addr) (nh ch : Nat), k ≤ np ∧ iv = .int .i64 k ∧ hv = .slice ph nh ch ∧ nh = h.length ∧ RefP wr B z z n ms P x y (.slice pA n cA) (.slice ph nh ch) h ∧ refR ms n (ps.take k) ⟨us, f, ss⟩ [] = (P, h) ∧ PlOk ms P ∧ h.length ≤ k ∧ Below W.heap.size W wr) (fun _ iv _ => np - (intOf iv).toNat)
    case atStart => exact ⟨0, _, _, _, [], _, _, _, Nat.zero_le _, rfl, rfl, rfl, HRP.out, rfl, HOK.out, Nat.le_refl _, HBB.out⟩
    case round =>
      obtain ⟨k, x, y, P, h, ph, nh, ch, hk, rfl, rfl, hnh, hp, hrf, hok, hhl, hB⟩ := hrel
      clear HRP HBB
      obtain ⟨pxx, cxx, rfl⟩ := owns_slice hp.words
      obtain ⟨pyy, cyy, rfl⟩ := owns_slice hp.lives
      have HP := Lib.hid hp
      have HRF := Lib.hid hrf
      have HOKP := Lib.hid hok
      have HHL := Lib.hid hhl
      have HB := Lib.hid hB
      have HNH := Lib.hid hnh
      clear hp hrf hok hhl hB hnh
      by_cases hlt : k < np
      · have hlt' : k < ps.length := by have := HNP.out; omega
        obtain ⟨bp, op, rfl, hcs⟩ := HCP.out (by intro e; rw [e] at hlt'; cases hlt')
        have hx := below_cell HB.out (hcs k hlt')
        have HTK := Lib.hid (show refR ms n (ps.take (k + 1)) ⟨us, f, ss⟩ [] = (if 0 ≤ ps[k] ∧ ps[k] < (n : Int) then (turnP ms P ps[k].toNat, (if ((turnP ms P ps[k].toNat).ss.getD ps[k].toNat dS).p = 3 then h ++ [ps[k]] else h)) else (P, h)) by
          rw [List.take_succ_eq_append_getElem hlt', refR_snoc, HRF.out])
        obtain ⟨pk, hpk⟩ : ∃ pk, pk = ps[k] := ⟨_, rfl⟩
        rw [← hpk] at hx HTK
        clear hcs hpk
        by_cases hneg : pk < 0
        · have HT2 := Lib.hid (show refR ms n (ps.take (k + 1)) ⟨us, f, ss⟩ [] = (P, h) by rw [HTK.out, if_neg (by omega)])
          go_wp2
          go_roundw
          case rel => exact ⟨k + 1, _, _, P, h, ph, nh, ch, by omega, by go_num, rfl, HNH.out, HP.out, HT2.out, HOKP.out, by have := HHL.out; omega, HB.out⟩
          case measure => simp [intOf]; omega
        · by_cases hbig : (n : Int) ≤ pk
          · have HT2 := Lib.hid (show refR ms n (ps.take (k + 1)) ⟨us, f, ss⟩ [] = (P, h) by rw [HTK.out, if_neg (by omega)])
            go_wp2
            go_roundw
            case rel => exact ⟨k + 1, _, _, P, h, ph, nh, ch, by omega, by go_num, rfl, HNH.out, HP.out, HT2.out, HOKP.out, by have := HHL.out; omega, HB.out⟩
            case measure => simp [intOf]; omega
          · obtain ⟨i, rfl⟩ := Int.eq_ofNat_of_zero_le (show 0 ≤ pk by omega)
            have hin : i < n := by omega
            obtain ⟨g, cg, hf, _, _⟩ := own_form HP.out.all (by omega)
            injection hf with hf hf2 hf3
            subst hf
            clear hf2 hf3 cg
            obtain ⟨⟨x0, x1, x2⟩, hfz, hgs⟩ := all_cells HP.out.all HP.out.len hin
            obtain ⟨⟨a, qq, t⟩, hs⟩ : ∃ s, s = P.ss.getD i dS := ⟨_, rfl⟩
            rw [← hs] at x0 x1 x2
            simp only at x0 x1 x2
            have HSD := Lib.hid hs
            clear hs hfz hneg hbig
            obtain ⟨w1, hw1⟩ : ∃ w : World, w = wr.alloc (.cells #[.int .i64 a, .int .i64 qq, .int .u64 t] 24) := ⟨_, rfl⟩
            obtain ⟨zt, hzt⟩ : ∃ z, z = wr.heap.size := ⟨_, rfl⟩
            have hb1 : Below wr.heap.size wr w1 := by rw [hw1]; exact below1 wr _
            have HS1 := Lib.hid (show SpBox w1 zt a qq t by rw [hw1, hzt]; exact World.alloc_heap_new _ _)
            obtain ⟨s0, s1, s2⟩ := HS1.out.cells
            have sf := HS1.out.free 1
            rw [hw1] at s0 s1 s2 sf
            have HBW1 := Lib.hid (And.intro hb1 hzt)
            clear hb1
            by_cases hq3 : qq = 3
            · subst hq3
              go_upto_region 10 with fail
              obtain ⟨w2, hw2⟩ : ∃ w : World, w = wr.alloc (.cells #[.int .i64 a, .int .i64 4, .int .u64 t] 24) := ⟨_, rfl⟩
              have hb2 : Below wr.heap.size wr w2 := by rw [hw2]; exact below1 wr _
              have HS2 := Lib.hid (show SpBox w2 zt a 4 t by rw [hw2, hzt]; exact World.alloc_heap_new _ _)
              have HLV := Lib.hid (show leaveS (P.ss.getD i dS) = ⟨a, 4, t⟩ by rw [← HSD.out]; rfl)
              rw [← hw2, ← hzt]
              clear hw2 HS1 HBW1 s0 s1 s2 sf hw1 hzt x0 x1 x2
              obtain ⟨us2, f2, a2, p2, t2, hP, hu2⟩ := stepP_form ms P.ws P.f ⟨a, 4, t⟩
              have HPP := Lib.hid hP
              have HU2 := Lib.hid hu2
              clear hP hu2
              have HP2 := Lib.hid (HP.out.below hb2)
              have HB2 := Lib.hid (below_then HB.out HB.out.size hb2)
              obtain ⟨⟨m0, m1, m2⟩, _⟩ := mbox_cells HP2.out.box
              obtain ⟨s0, s1, s2⟩ := HS2.out.cells
              clear hb2 HP HB
              go_wp2_with fail
              refine (rstep_c _ _ P.ws ms P.f a 4 t B _ HP2.out.words HP2.out.lives (Nat.le_trans HBW.out HB2.out.size) HOKP.out.mem HPP.out).mono ?_
              rintro e w3 ⟨⟨xv, yv, rfl, h0, h1⟩, hb⟩
              obtain ⟨px2, cx2, rfl⟩ := owns_slice h0
              obtain ⟨py2, cy2, rfl⟩ := owns_slice h1
              have HP3 := Lib.hid (HP2.out.below hb)
              have HB3 := Lib.hid (below_then HB2.out HB2.out.size hb)
              have HR3 := Lib.hid (And.intro h0 h1)
              clear h0 h1 hb m0 m1 m2 s0 s1 s2 HP2 HB2 HS2
              obtain ⟨⟨m0, m1, m2⟩, e0, e1, e2⟩ := mbox_cells HP3.out.box
              obtain ⟨X1, hX1⟩ : ∃ X : World, X = ((w3.setCell ⟨z, 0, none⟩ (.slice px2 us2.length cx2)).setCell ⟨z, 1, none⟩ (.slice py2 ms.length cy2)).setCell ⟨z, 2, none⟩ (.bool f2) := ⟨_, rfl⟩
              have hzg : z ≠ g := HP3.out.box.row HP3.out.all (by decide) rfl
              have hk1 : Keeps (fun q => q = z) w3 X1 := by
                rw [hX1]
                exact ((Keeps.setCell w3 (S := fun q => q = z) (p := ⟨z, 0, none⟩) rfl _).trans (Keeps.setCell _ (S := fun q => q = z) (p := ⟨z, 1, none⟩) rfl _)).trans (Keeps.setCell _ (S := fun q => q = z) (p := ⟨z, 2, none⟩) rfl _)
              obtain ⟨⟨x0, x1, x2⟩, hfz, hgs⟩ := all_cells (hk1.row HP3.out.all (fun q hq e => by have e : q = z := e; have hq : g = q := by simpa [Value.ownBlock] using hq
                                                                                                  omega)) HP3.out.len hin
              have hf0 := hfz (i * 3)
              have hf1 := hfz (i * 3 + 1)
              have hf2 := hfz (i * 3 + 2)
              rw [hX1] at x0 x1 x2 hf0 hf1 hf2
              obtain ⟨X2, hX2⟩ : ∃ X : World, X = ((X1.setCell ⟨g, i * 3, none⟩ (.int .i64 a2)).setCell ⟨g, i * 3 + 1, none⟩ (.int .i64 p2)).setCell ⟨g, i * 3 + 2, none⟩ (.int .u64 t2) := ⟨_, rfl⟩
              have hput := HP3.out.put (s2 := ⟨a2, p2, t2⟩) HR3.out.1 HR3.out.2 hX1 hX2
              have HPX := Lib.hid hput.1
              have hkX := hput.2
              have HBX := Lib.hid (HB3.out.trans (hkX.below HB3.out.size (fun q hq => by
                have hq : q = z ∨ q = g := hq
                rcases hq with e | e
                · rw [e, HZW.out]; exact Nat.le_refl _
                · rw [e, ← HZW.out]; exact (HP3.out.all.lt g rfl).1)))
              have HTR := Lib.hid (show turnP ms P i = ⟨us2, f2, P.ss.set i ⟨a2, p2, t2⟩⟩ from turnP_of ms P i (by rw [HP3.out.len]; exact hin) (by rw [HLV.out]; exact HPP.out))
              have HOK2 := Lib.hid (show PlOk ms ⟨us2, f2, P.ss.set i ⟨a2, p2, t2⟩⟩ by rw [← HTR.out]; exact HOKP.out.turn (by rw [HP3.out.len]; exact hin))
              have HGD := Lib.hid (show (P.ss.set i ⟨a2, p2, t2⟩).getD i dS = ⟨a2, p2, t2⟩ by
                rw [List.getD_eq_getElem?_getD, List.getElem?_set_self (by rw [HP3.out.len]; exact hin)]; rfl)
              have HT2 := Lib.hid (show refR ms n (ps.take (k + 1)) ⟨us, f, ss⟩ [] = (⟨us2, f2, P.ss.set i ⟨a2, p2, t2⟩⟩, if p2 = 3 then h ++ [(i : Int)] else h) by
                rw [HTK.out, if_pos ⟨by omega, by omega⟩, Int.toNat_natCast, HTR.out]
                simp only [HGD.out])
              clear hput hkX hk1 hzg hfz hgs HP3 HB3 HR3 HTR HTK HPP
              go_upto_region 11 with fail
              rw [← hX1, ← hX2]
              clear m0 m1 m2 e0 e1 e2 x0 x1 x2 hf0 hf1 hf2 hX1 hX2
              obtain ⟨⟨x0, x1, x2⟩, -, -⟩ := all_cells HPX.out.all HPX.out.len hin
              rw [HGD.out] at x0 x1 x2
              simp only at x0 x1 x2
              by_cases hp3 : p2 = 3
              · subst hp3
                have HT3 := Lib.hid (show refR ms n (ps.take (k + 1)) ⟨us, f, ss⟩ [] = (⟨us2, f2, P.ss.set i ⟨a2, 3, t2⟩⟩, h ++ [(i : Int)]) by rw [HT2.out, if_pos rfl])
                have hnh : nh ≤ 100 := by have h1 := HNH.out; have h2 := HHL.out; omega
                have HOH := Lib.hid (show X2.ownsRow z 3 1 (.slice ph nh ch) nh (h.map (Value.int .i64)) by
                  have h1 := HPX.out.held
                  rw [← HNH.out] at h1
                  exact h1)
                clear HT2
                go_wp2_with (at_builtin; refine wpList_append_own _ rfl _ _ 58 rfl z 3 i1 (.int .i64 0) 1 8 Try.underlying58 HI1.out.1 HI1.out.2.1 HI1.out.2.2.1 HI1.out.2.2.2 rfl (by decide) (.slice ph nh ch) nh _ rfl (HOH.out.alloc _) ⟨X2.heap.size, 0, none⟩ 1 1 [.int .i64 (i : Int)] rfl rfl (cell_one_new _ _ _) (fun y hy => by rw [List.mem_singleton.1 hy]; rfl) (by unfold maxLen; omega) (by omega) (by have h1 := HBX.out.size; have h2 := HZW.out; simp; omega) ?_; intro v' w5 hown' hgrow _; obtain ⟨q6, d6, rfl⟩ := owns_slice hown')
                have hal := HPX.out.below (below1 X2 (.cells #[.int .i64 (i : Int)] 3))
                have hle : (h ++ [(i : Int)]).length = nh + 1 := by rw [List.length_append, HNH.out]; rfl
                have HP5 := Lib.hid (hal.more (h' := h ++ [(i : Int)]) hgrow (by rw [hle, List.map_append]; exact hown'))
                have HB5 := Lib.hid (below_grown (below_then HBX.out HBX.out.size (below1 X2 (.cells #[.int .i64 (i : Int)] 3))) hgrow (fun r hr => by rw [← HZW.out]; exact (HOH.out.lt r hr).1))
                have HLE := Lib.hid hle
                clear hown' hgrow hal hle HPX HBX
                go_roundw
                case rel => exact ⟨k + 1, _, _, _, h ++ [(i : Int)], q6, nh + 1, d6, by omega, by go_num, rfl, HLE.out.symm, HP5.out, HT3.out, HOK2.out, by have h1 := HHL.out; rw [List.length_append]; simp; omega, HB5.out⟩
                case measure => simp [intOf]; omega
              · have hne : (p2 == 3) = false := by rw [beq_eq_false_iff_ne]; exact hp3
                have HT3 := Lib.hid (show refR ms n (ps.take (k + 1)) ⟨us, f, ss⟩ [] = (⟨us2, f2, P.ss.set i ⟨a2, p2, t2⟩⟩, h) by rw [HT2.out, if_neg hp3])
                clear hp3 HT2
                go_wp2
                go_roundw
                case rel => exact ⟨k + 1, _, _, _, h, ph, nh, ch, by omega, by go_num, rfl, HNH.out, HPX.out, HT3.out, HOK2.out, by have h1 := HHL.out; omega, HBX.out⟩
                case measure => simp [intOf]; omega
            · have hne3 : (qq == 3) = false := by rw [beq_eq_false_iff_ne]; exact hq3
              have HLV := Lib.hid (show leaveS (P.ss.getD i dS) = ⟨a, qq, t⟩ by rw [← HSD.out]; unfold leaveS; rw [if_neg hq3])
              clear hq3
              go_upto_region 10 with fail
              rw [← hw1, ← hzt]
              clear s0 s1 s2 sf hw1 hzt x0 x1 x2 hne3
              have hb2 := HBW1.out.1
              have HS2 := HS1
              clear HBW1 HS1
              obtain ⟨us2, f2, a2, p2, t2, hP, hu2⟩ := stepP_form ms P.ws P.f ⟨a, qq, t⟩
              have HPP := Lib.hid hP
              have HU2 := Lib.hid hu2
              clear hP hu2
              have HP2 := Lib.hid (HP.out.below hb2)
              have HB2 := Lib.hid (below_then HB.out HB.out.size hb2)
              obtain ⟨⟨m0, m1, m2⟩, _⟩ := mbox_cells HP2.out.box
              obtain ⟨s0, s1, s2⟩ := HS2.out.cells
              clear hb2 HP HB
              go_wp2_with fail
              refine (rstep_c _ _ P.ws ms P.f a qq t B _ HP2.out.words HP2.out.lives (Nat.le_trans HBW.out HB2.out.size) HOKP.out.mem HPP.out).mono ?_
              rintro e w3 ⟨⟨xv, yv, rfl, h0, h1⟩, hb⟩
              obtain ⟨px2, cx2, rfl⟩ := owns_slice h0
              obtain ⟨py2, cy2, rfl⟩ := owns_slice h1
              have HP3 := Lib.hid (HP2.out.below hb)
              have HB3 := Lib.hid (below_then HB2.out HB2.out.size hb)
              have HR3 := Lib.hid (And.intro h0 h1)
              clear h0 h1 hb m0 m1 m2 s0 s1 s2 HP2 HB2 HS2
              obtain ⟨⟨m0, m1, m2⟩, e0, e1, e2⟩ := mbox_cells HP3.out.box
              obtain ⟨X1, hX1⟩ : ∃ X : World, X = ((w3.setCell ⟨z, 0, none⟩ (.slice px2 us2.length cx2)).setCell ⟨z, 1, none⟩ (.slice py2 ms.length cy2)).setCell ⟨z, 2, none⟩ (.bool f2) := ⟨_, rfl⟩
              have hzg : z ≠ g := HP3.out.box.row HP3.out.all (by decide) rfl
              have hk1 : Keeps (fun q => q = z) w3 X1 := by
                rw [hX1]
                exact ((Keeps.setCell w3 (S := fun q => q = z) (p := ⟨z, 0, none⟩) rfl _).trans (Keeps.setCell _ (S := fun q => q = z) (p := ⟨z, 1, none⟩) rfl _)).trans (Keeps.setCell _ (S := fun q => q = z) (p := ⟨z, 2, none⟩) rfl _)
              obtain ⟨⟨x0, x1, x2⟩, hfz, hgs⟩ := all_cells (hk1.row HP3.out.all (fun q hq e => by have e : q = z := e; have hq : g = q := by simpa [Value.ownBlock] using hq
                                                                                                  omega)) HP3.out.len hin
              have hf0 := hfz (i * 3)
              have hf1 := hfz (i * 3 + 1)
              have hf2 := hfz (i * 3 + 2)
              rw [hX1] at x0 x1 x2 hf0 hf1 hf2
              obtain ⟨X2, hX2⟩ : ∃ X : World, X = ((X1.setCell ⟨g, i * 3, none⟩ (.int .i64 a2)).setCell ⟨g, i * 3 + 1, none⟩ (.int .i64 p2)).setCell ⟨g, i * 3 + 2, none⟩ (.int .u64 t2) := ⟨_, rfl⟩
              have hput := HP3.out.put (s2 := ⟨a2, p2, t2⟩) HR3.out.1 HR3.out.2 hX1 hX2
              have HPX := Lib.hid hput.1
              have hkX := hput.2
              have HBX := Lib.hid (HB3.out.trans (hkX.below HB3.out.size (fun q hq => by
                have hq : q = z ∨ q = g := hq
                rcases hq with e | e
                · rw [e, HZW.out]; exact Nat.le_refl _
                · rw [e, ← HZW.out]; exact (HP3.out.all.lt g rfl).1)))
              have HTR := Lib.hid (show turnP ms P i = ⟨us2, f2, P.ss.set i ⟨a2, p2, t2⟩⟩ from turnP_of ms P i (by rw [HP3.out.len]; exact hin) (by rw [HLV.out]; exact HPP.out))
              have HOK2 := Lib.hid (show PlOk ms ⟨us2, f2, P.ss.set i ⟨a2, p2, t2⟩⟩ by rw [← HTR.out]; exact HOKP.out.turn (by rw [HP3.out.len]; exact hin))
              have HGD := Lib.hid (show (P.ss.set i ⟨a2, p2, t2⟩).getD i dS = ⟨a2, p2, t2⟩ by
                rw [List.getD_eq_getElem?_getD, List.getElem?_set_self (by rw [HP3.out.len]; exact hin)]; rfl)
              have HT2 := Lib.hid (show refR ms n (ps.take (k + 1)) ⟨us, f, ss⟩ [] = (⟨us2, f2, P.ss.set i ⟨a2, p2, t2⟩⟩, if p2 = 3 then h ++ [(i : Int)] else h) by
                rw [HTK.out, if_pos ⟨by omega, by omega⟩, Int.toNat_natCast, HTR.out]
                simp only [HGD.out])
              clear hput hkX hk1 hzg hfz hgs HP3 HB3 HR3 HTR HTK HPP
              go_upto_region 11 with fail
              rw [← hX1, ← hX2]
              clear m0 m1 m2 e0 e1 e2 x0 x1 x2 hf0 hf1 hf2 hX1 hX2
              obtain ⟨⟨x0, x1, x2⟩, -, -⟩ := all_cells HPX.out.all HPX.out.len hin
              rw [HGD.out] at x0 x1 x2
              simp only at x0 x1 x2
              by_cases hp3 : p2 = 3
              · subst hp3
                have HT3 := Lib.hid (show refR ms n (ps.take (k + 1)) ⟨us, f, ss⟩ [] = (⟨us2, f2, P.ss.set i ⟨a2, 3, t2⟩⟩, h ++ [(i : Int)]) by rw [HT2.out, if_pos rfl])
                have hnh : nh ≤ 100 := by have h1 := HNH.out; have h2 := HHL.out; omega
                have HOH := Lib.hid (show X2.ownsRow z 3 1 (.slice ph nh ch) nh (h.map (Value.int .i64)) by
                  have h1 := HPX.out.held
                  rw [← HNH.out] at h1
                  exact h1)
                clear HT2
                go_wp2_with (at_builtin; refine wpList_append_own _ rfl _ _ 58 rfl z 3 i1 (.int .i64 0) 1 8 Try.underlying58 HI1.out.1 HI1.out.2.1 HI1.out.2.2.1 HI1.out.2.2.2 rfl (by decide) (.slice ph nh ch) nh _ rfl (HOH.out.alloc _) ⟨X2.heap.size, 0, none⟩ 1 1 [.int .i64 (i : Int)] rfl rfl (cell_one_new _ _ _) (fun y hy => by rw [List.mem_singleton.1 hy]; rfl) (by unfold maxLen; omega) (by omega) (by have h1 := HBX.out.size; have h2 := HZW.out; simp; omega) ?_; intro v' w5 hown' hgrow _; obtain ⟨q6, d6, rfl⟩ := owns_slice hown')
                have hal := HPX.out.below (below1 X2 (.cells #[.int .i64 (i : Int)] 3))
                have hle : (h ++ [(i : Int)]).length = nh + 1 := by rw [List.length_append, HNH.out]; rfl
                have HP5 := Lib.hid (hal.more (h' := h ++ [(i : Int)]) hgrow (by rw [hle, List.map_append]; exact hown'))
                have HB5 := Lib.hid (below_grown (below_then HBX.out HBX.out.size (below1 X2 (.cells #[.int .i64 (i : Int)] 3))) hgrow (fun r hr => by rw [← HZW.out]; exact (HOH.out.lt r hr).1))
                have HLE := Lib.hid hle
                clear hown' hgrow hal hle HPX HBX
                go_roundw
                case rel => exact ⟨k + 1, _, _, _, h ++ [(i : Int)], q6, nh + 1, d6, by omega, by go_num, rfl, HLE.out.symm, HP5.out, HT3.out, HOK2.out, by have h1 := HHL.out; rw [List.length_append]; simp; omega, HB5.out⟩
                case measure => simp [intOf]; omega
              · have hne : (p2 == 3) = false := by rw [beq_eq_false_iff_ne]; exact hp3
                have HT3 := Lib.hid (show refR ms n (ps.take (k + 1)) ⟨us, f, ss⟩ [] = (⟨us2, f2, P.ss.set i ⟨a2, p2, t2⟩⟩, h) by rw [HT2.out, if_neg hp3])
                clear hp3 HT2
                go_wp2
                go_roundw
                case rel => exact ⟨k + 1, _, _, _, h, ph, nh, ch, by omega, by go_num, rfl, HNH.out, HPX.out, HT3.out, HOK2.out, by have h1 := HHL.out; omega, HBX.out⟩
                case measure => simp [intOf]; omega
      · obtain rfl : k = np := by omega
        have hfin : refR ms n ps ⟨us, f, ss⟩ [] = (P, h) := by
          have := HRF.out
          rwa [List.take_of_length_le (by have := HNP.out; omega)] at this
        obtain ⟨⟨m0, m1, m2⟩, _⟩ := mbox_cells HP.out.box
        obtain ⟨⟨d0, d1, d2⟩, e0, e1, e2⟩ := mbox_cells HP.out.out'
        obtain ⟨X1, hX1⟩ : ∃ X : World, X = ((wr.setCell ⟨z + 1, 0, none⟩ (.slice pxx P.ws.length cxx)).setCell ⟨z + 1, 1, none⟩ (.slice pyy ms.length cyy)).setCell ⟨z + 1, 2, none⟩ (.bool P.f) := ⟨_, rfl⟩
        have hk1 : Keeps (fun q => q = z + 1) wr X1 := by
          rw [hX1]
          exact ((Keeps.setCell wr (S := fun q => q = z + 1) (p := ⟨z + 1, 0, none⟩) rfl _).trans (Keeps.setCell _ (S := fun q => q = z + 1) (p := ⟨z + 1, 1, none⟩) rfl _)).trans (Keeps.setCell _ (S := fun q => q = z + 1) (p := ⟨z + 1, 2, none⟩) rfl _)
        have hm1 : MBox X1 (z + 1) (.slice pxx P.ws.length cxx) (.slice pyy ms.length cyy) P.f := by rw [hX1]; exact HP.out.out'.set _ _ _
        have hrw : ∀ {E : TypeId} {s m B' : Nat} {v : Value} {xs : List Value}, wr.ownsRow B' E s v m xs → E ≠ 46 → X1.ownsRow B' E s v m xs := fun hr hE => hk1.row hr fun q hq e => HP.out.out'.row hr hE hq (by have e : q = z + 1 := e; exact e.symm)
        have HF := Lib.hid (show RPlay B W.heap.size ms (refR ms n ps ⟨us, f, ss⟩ []).1 (refR ms n ps ⟨us, f, ss⟩ []).2 (.returned (.tuple #[.agg #[.slice pxx P.ws.length cxx, .slice pyy ms.length cyy, .bool P.f], .slice pA n cA, .slice ph nh ch])) X1 by
          rw [hfin]
          exact ⟨_, _, _, _, rfl, hrw HP.out.words (by decide), hrw HP.out.lives (by decide), by
          have := hrw HP.out.all (by decide)
          rw [HP.out.len, ← HZW.out]; exact this, by
          have := hrw HP.out.held (by decide)
          rw [← HZW.out]; exact this⟩)
        have HBF := Lib.hid (HB.out.trans (hk1.below HB.out.size (fun q hq => by have e : q = z + 1 := hq; have := HZW.out; omega)))
        clear hk1 hrw hfin HP HRF HOKP
        go_wp2
        rw [← hX1]
        clear hX1 d0 d1 d2 e0 e1 e2 m0 m1 m2
        obtain ⟨⟨d0, d1, d2⟩, _⟩ := mbox_cells hm1
        refine bodyPost_ret (v := .tuple #[.agg #[.slice pxx P.ws.length cxx, .slice pyy ms.length cyy, .bool P.f], .slice pA n cA, .slice ph nh ch]) (by simp [results, Try.results27, go_sem, d0, d1, d2]) rfl ⟨HF.out, HBF.out⟩

end Go.Proofs.Ytcnpmkigiklnnaa
/-
  Rows that are cut, and what the statement on plays asks of those who want locks.
  Conditions: as each has them.
-/
namespace Go.Proofs.Ytcnpmkigiklnnaa
open Go.RowKit Go.Shelf

theorem vals_cut {W W' : World} {p : Option Addr} {n c k : Nat} {xs : List Value} (hn : n = xs.length) (h : (p = none ∧ n = 0 ∧ c = 0) ∨ ∃ a : Addr, p = some a ∧ n ≤ c ∧ ∀ j u, xs[j]? = some u → W.cell? (a.add j) = some u) (hb : Below W.heap.size W W') :
    ValsAt W' (.slice p (min n k) c) 1 (min n k) (xs.take k) := by
  refine ⟨by rw [List.length_take, hn]; omega, p, c, rfl, ?_⟩
  rcases h with ⟨rfl, rfl, rfl⟩ | ⟨a, rfl, _, hcs⟩
  · exact .inl ⟨rfl, by simp, rfl⟩
  · refine .inr ⟨a, rfl, fun j u hj => below_cell hb (hcs j u ?_)⟩
    rw [List.getElem?_take] at hj
    split at hj
    · exact hj
    · cases hj
/-- Where one of those who want locks may not be: 150, from there on. -/
def rightE (l : List SpM) : Int := if l.all rightS = true then 0 else 150
theorem rightE_snoc (l : List SpM) (s : SpM) : rightE (l ++ [s]) = if rightS s = false then 150 else rightE l := by
  unfold rightE
  rw [List.all_append]
  cases h : rightS s <;> simp [h]
theorem playR_len (ls : List Bool) (n : Nat) : ∀ (ps : List Int) (P : PlM) (h : List Int), (refR ls n ps P h).1.ss.length = P.ss.length
  | [], _, _ => rfl
  | p :: r, P, h => by
    simp only [refR]
    split
    · rw [playR_len ls n r, turnP_len]
    · exact playR_len ls n r P h
theorem stepM_wlen (ls : List Bool) (ws : List Int) (f : Bool) (s : SpM) : (stepM ls ws f s).1.length = ws.length := by
  unfold stepM
  split
  · exact accM_length _ _ _ _ _ _ _
  · rfl
theorem playR_wlen (ls : List Bool) (n : Nat) : ∀ (ps : List Int) (P : PlM) (h : List Int), (refR ls n ps P h).1.ws.length = P.ws.length
  | [], _, _ => rfl
  | p :: r, P, h => by
    simp only [refR]
    split
    · rw [playR_wlen ls n r]
      unfold turnP stepP
      exact stepM_wlen _ _ _ _
    · exact playR_wlen ls n r P h
theorem SpinsAt.is {W : World} {v : Value} {ss : List SpM} (h : SpinsAt W v ss) : ∃ p n c, v = .slice p n c := by
  obtain ⟨q, c, rfl, _⟩ := h
  exact ⟨_, _, _, rfl⟩
theorem rightE_bad {l : List SpM} (h : ∃ s ∈ l, rightS s = false) : rightE l = 150 := by
  unfold rightE
  rw [if_neg]
  intro e
  obtain ⟨s, hs, h0⟩ := h
  rw [List.all_eq_true.1 e s hs] at h0
  cases h0
theorem rightE_all {l : List SpM} (h : ∀ s ∈ l, rightS s = true) : rightE l = 0 := by
  unfold rightE
  rw [if_pos (List.all_eq_true.2 h)]
theorem own_nil {w : World} {B n : Nat} {E : TypeId} {s d : Nat} {q : Option Addr} {xs : List Value} (h : w.ownsRow B E s (.slice q n d) n xs) : ∀ c, Value.slice q n d = .slice none 0 c → c = 0 := by
  intro c e
  injection e with e1 e2 e3
  subst e1 e3
  rcases h.2 with ⟨hh, _⟩ | ⟨g, cap, cur, hh, _⟩
  · injection hh
  · injection hh with hh _ _; cases hh
/-- A row of numbers reads so. -/
structure PkAt (W : World) (v : Value) (ns : List Int) : Prop where
  nums : NumsAt W .i64 v ns
theorem PkAt.below {w w' : World} {v : Value} {ns : List Int} (h : PkAt w v ns) (hb : Below w.heap.size w w') : PkAt w' v ns := ⟨nums_below h.nums hb⟩
theorem putM_pvar {B : Nat} {w : World} {x y : Value} {us : List Int} {ms : List Bool} (f : Bool) (h0 : w.ownsRow B 22 1 x us.length (us.map (Value.int .u64))) (h1 : w.ownsRow B 4 1 y ms.length (ms.map Value.bool)) (hB : B ≤ w.heap.size) :
    PVar (putM w x y f) B (putM w x y f).heap.size w.heap.size x y us ms f :=
  ⟨putM_box _ _ _ _, owns_below h0 (putM_below _ _ _ _), owns_below h1 (putM_below _ _ _ _), hB, by rw [putM_size]; omega, fun g hg => by have := owns_lt h0 g hg; rw [putM_size]; omega, fun g hg => by have := owns_lt h1 g hg; rw [putM_size]; omega⟩

end Go.Proofs.Ytcnpmkigiklnnaa
/-
  asking: a row of so many who want the lock at 0, none of whom has done a step; slices.Repeat at such a row.
  Conditions: at least one, at most five.
-/
namespace Go.Proofs.Ytcnpmkigiklnnaa
open Go.RowKit Go.Shelf
attribute [local go_sem] Oper.semAt_some

def zS (k : Nat) : List SpM := List.replicate k ⟨0, 0, 0⟩
theorem zS_len (k : Nat) : (zS k).length = k := List.length_replicate ..
theorem zS_flat (k : Nat) : (flatS (zS k)).length = k * 3 := by rw [flatS_length, zS_len]
theorem zS_add (a b : Nat) : flatS (zS (a + b)) = flatS (zS a) ++ flatS (zS b) := by
  rw [← flatS_append]
  unfold zS
  rw [List.replicate_append_replicate]
theorem zS_take {k m : Nat} (h : m ≤ k) : (flatS (zS k)).take (m * 3) = flatS (zS m) := by
  obtain ⟨d, rfl⟩ := Nat.exists_eq_add_of_le h
  rw [zS_add, List.take_left' (zS_flat m)]
theorem zS_drop {k m : Nat} (h : m ≤ k) : (flatS (zS k)).drop (m * 3) = flatS (zS (k - m)) := by
  obtain ⟨d, rfl⟩ := Nat.exists_eq_add_of_le h
  rw [zS_add, List.drop_left' (zS_flat m), show m + d - m = d by omega]
theorem zS_self {k c m : Nat} (h : c + m ≤ k) : (flatS (zS k)).take (c * 3) ++ flatS (zS m) ++ (flatS (zS k)).drop (c * 3 + m * 3) = flatS (zS k) := by
  rw [zS_take (by omega), ← zS_add, show c * 3 + m * 3 = (c + m) * 3 by omega, zS_drop h, ← zS_add, show c + m + (k - (c + m)) = k by omega]
/-- To copy what is there already changes nothing. -/
theorem run_copy_same {P : Program} (w : World) (dT sT ty elem : TypeId) (g o dLen dCap sLen sCap m k : Nat) (sp : Option Addr) (cur : Array Value) (t : TypeId) (cs : List Value)
    (hu : P.underlying dT = some (.slice elem)) (hs : (P.info? elem).map (·.size) = some k) (hg : w.heap[g]? = some (.cells cur t (0, 0))) (hm : m = Nat.min dLen sLen) (hn : cs.length = m * k) (hcur : o + m * k ≤ cur.size)
    (hsrc : ∃ a, sp = some a ∧ ∀ j v, cs[j]? = some v → w.cell? (a.add j) = some v) (h1 : ∀ v ∈ cs, v.oneCell' = true) (hself : cur.toList.take o ++ cs ++ cur.toList.drop (o + m * k) = cur.toList) :
    (Builtin.copy_ #[dT, sT] ty #[.slice (some ⟨g, o, none⟩) dLen dCap, .slice sp sLen sCap]).run P w = .ok (goInt m) w := by
  cases hq : P.info? elem with
  | none => simp [hq] at hs
  | some i =>
    have hi : i.size = k := by simpa [hq] using hs
    obtain ⟨a, rfl, hsr⟩ := hsrc
    have hl := run_loadCells_list (P := P) w a cs hsr
    have hst := run_storeCells_at P g o t cs 0 cur w hg (by rw [hn]; omega) h1
    rw [Nat.add_zero, hn, hself, Array.toArray_toList, setRow_self w g cur t (0, 0) hg] at hst
    rw [hn] at hl
    have hmin : Nat.min sLen dLen = m := (Nat.min_comm sLen dLen).trans hm.symm
    simp [Builtin.copy_, run_underlying hu, Builtin.lenOf, Builtin.firstCells, sizeOf, typeInfo, hq, hi, hmin, hl, hst]
theorem wpList_copy_same {P : Program} {w : World} {ops : Array Oper} {rest : List Oper} {op : Oper} {a : Act} {Q : Exit → Act → World → Prop} (hgd : op.guard = none) (d s : Operand) (dT sT : TypeId)
    (ho : op.op = .call { callee := .builtin .copy, args := #[d, s], argTypes := #[dT, sT] }) (elem : TypeId) (hu : P.underlying dT = some (.slice elem)) (k : Nat) (hsz : (P.info? elem).map (·.size) = some k)
    (g o dLen dCap sLen sCap m : Nat) (sp : Option Addr) (hd : a.eval d = .slice (some ⟨g, o, none⟩) dLen dCap) (hs : a.eval s = .slice sp sLen sCap) (cur : Array Value) (t : TypeId) (hg : w.heap[g]? = some (.cells cur t (0, 0))) (cs : List Value)
    (hm : m = Nat.min dLen sLen) (hn : cs.length = m * k) (hcur : o + m * k ≤ cur.size)
    (hsrc : ∃ a, sp = some a ∧ ∀ j v, cs[j]? = some v → w.cell? (a.add j) = some v) (h1 : ∀ v ∈ cs, v.oneCell' = true) (hself : cur.toList.take o ++ cs ++ cur.toList.drop (o + m * k) = cur.toList)
    (h : wpList P ops Q rest (a.put op.dst (goInt m)) w) : wpList P ops Q (op :: rest) a w := by
  refine wpList_plain hgd fun K hK => ?_
  have hrun := run_copy_same (P := P) w dT sT op.type elem g o dLen dCap sLen sCap m k sp cur t cs hu hsz hg hm hn hcur hsrc h1 hself
  unfold Oper.wp
  simp [execOp, ho, resolve, invoke, builtin, hd, hs, hrun, Result.andThen]
  exact hK _ _ h
theorem step_copy_same {P : Program} {ops : Array Oper} {op : Oper} {a : Act} {w : World} {K : Act → World → Prop} {Q : Exit → Act → World → Prop} {E : Prop} (hgd : op.guard = none) (d s : Operand) (dT sT : TypeId)
    (ho : op.op = .call { callee := .builtin .copy, args := #[d, s], argTypes := #[dT, sT] }) (elem : TypeId) (hu : P.underlying dT = some (.slice elem)) (k : Nat) (hsz : (P.info? elem).map (·.size) = some k)
    (g o dLen dCap sLen sCap m : Nat) (sp : Option Addr) (hd : a.eval d = .slice (some ⟨g, o, none⟩) dLen dCap) (hs : a.eval s = .slice sp sLen sCap) (cur : Array Value) (t : TypeId) (hg : w.heap[g]? = some (.cells cur t (0, 0))) (cs : List Value)
    (hm : m = Nat.min dLen sLen) (hn : cs.length = m * k) (hcur : o + m * k ≤ cur.size)
    (hsrc : ∃ a, sp = some a ∧ ∀ j v, cs[j]? = some v → w.cell? (a.add j) = some v) (h1 : ∀ v ∈ cs, v.oneCell' = true) (hself : cur.toList.take o ++ cs ++ cur.toList.drop (o + m * k) = cur.toList)
    (h : K (a.put op.dst (goInt m)) w) : if Region.wanted op (yielded ops a.tmps) = true then Oper.wp P op a w K Q else E := by
  have hw : Region.wanted op (yielded ops a.tmps) = true := by simp [Region.wanted, hgd]
  rw [if_pos hw]
  have hrun := run_copy_same (P := P) w dT sT op.type elem g o dLen dCap sLen sCap m k sp cur t cs hu hsz hg hm hn hcur hsrc h1 hself
  unfold Oper.wp
  simp [execOp, ho, resolve, invoke, builtin, hd, hs, hrun, Result.andThen]
  exact h

set_option maxRecDepth 100000 in
set_option maxHeartbeats 2000000 in
theorem mul64_c (k : Nat) (hk : 1 ≤ k ∧ k ≤ 5) (W : World) : Calls Try.prog 91 #[.int .u64 1, .int .u64 (k : Int)] W fun e w' => e = .returned (.tuple #[.int .u64 0, .int .u64 (k : Int)]) ∧ w' = W := by
  have hk' : k = 1 ∨ k = 2 ∨ k = 3 ∨ k = 4 ∨ k = 5 := by omega
  have hb1 : bits .and .u64 1 4294967295 = 1 := by decide
  have hb0 : bits .and .u64 0 4294967295 = 0 := by decide
  have hb2 : bits .and .u64 2 4294967295 = 2 := by decide
  have hb3 : bits .and .u64 3 4294967295 = 3 := by decide
  have hb4 : bits .and .u64 4 4294967295 = 4 := by decide
  have hb5 : bits .and .u64 5 4294967295 = 5 := by decide
  rcases hk' with rfl | rfl | rfl | rfl | rfl
  all_goals
    clear hk
    go_enter Try.func91, Try.ntmps91
    go_wp2
    first
    | exact bodyPost_ret (v := .tuple #[.int .u64 0, .int .u64 1]) (by simp [results, Try.results91, go_sem]) rfl ⟨rfl, rfl⟩
    | exact bodyPost_ret (v := .tuple #[.int .u64 0, .int .u64 2]) (by simp [results, Try.results91, go_sem]) rfl ⟨rfl, rfl⟩
    | exact bodyPost_ret (v := .tuple #[.int .u64 0, .int .u64 3]) (by simp [results, Try.results91, go_sem]) rfl ⟨rfl, rfl⟩
    | exact bodyPost_ret (v := .tuple #[.int .u64 0, .int .u64 4]) (by simp [results, Try.results91, go_sem]) rfl ⟨rfl, rfl⟩
    | exact bodyPost_ret (v := .tuple #[.int .u64 0, .int .u64 5]) (by simp [results, Try.results91, go_sem]) rfl ⟨rfl, rfl⟩
set_option maxRecDepth 100000 in
theorem mul_c (k : Nat) (hk : 1 ≤ k ∧ k ≤ 5) (W : World) : Calls Try.prog 72 #[.int .u64 1, .int .u64 (k : Int)] W fun e w' => e = .returned (.tuple #[.int .u64 0, .int .u64 (k : Int)]) ∧ w' = W := by
  have HM := Lib.hid (mul64_c k hk W)
  go_enter Try.func72, Try.ntmps72
  go_wp2_with fail
  refine HM.out.mono ?_
  rintro e w1 ⟨rfl, rfl⟩
  go_wp2
  exact bodyPost_ret (v := .tuple #[.int .u64 0, .int .u64 (k : Int)]) (by simp [results, Try.results72, go_sem]) rfl ⟨rfl, rfl⟩

set_option maxRecDepth 100000 in
theorem run_makeS (k : Nat) (hk : 1 ≤ k ∧ k ≤ 5) (w : World) : (Instr.makeSlice 57 (.int .i64 (k : Int)) (.int .i64 (k : Int))).run Try.prog w = .ok (.slice (some ⟨w.heap.size, 0, none⟩) k k) (w.alloc (.cells (flatS (zS k)).toArray 24)) := by
  obtain ⟨i0, hi, hz0, hz1, hz2⟩ := info_parts cloneS_info
  have := run_make (P := Try.prog) w 57 24 i0 (.agg #[.int .i64 0, .int .i64 0, .int .u64 0]) Try.underlying57 hi hz0 .i64 .i64 (k : Int) (k : Int) (by omega) (Int.le_refl _) (by rw [hz2]; omega) (by omega)
  rw [this, hz1]
  have e : madeCells (Value.agg #[.int .i64 0, .int .i64 0, .int .u64 0]).cells ((k : Int).toNat * 3) = (flatS (zS k)).toArray := by
    have hc : (Value.agg #[.int .i64 0, .int .i64 0, .int .u64 0]).cells = #[.int .i64 0, .int .i64 0, .int .u64 0] := by simp [Value.cells]
    rw [hc, Int.toNat_natCast]
    have hk' : k = 1 ∨ k = 2 ∨ k = 3 ∨ k = 4 ∨ k = 5 := by omega
    rcases hk' with rfl | rfl | rfl | rfl | rfl
    all_goals
      apply Array.toList_inj.1
      simp [madeCells, zS, flatS, List.replicate, List.range, List.range.loop]
  rw [e]
  simp
set_option maxRecDepth 100000 in
theorem run_tailS (g c k : Nat) (h : c < k) (w : World) : (Instr.slice 57 (.slice (some ⟨g, 0, none⟩) k k) (some (.int .i64 (c : Int))) none none).run Try.prog w = .ok (.slice (some ⟨g, c * 3, none⟩) (k - c) (k - c)) w := by
  rw [run_slice_l w 57 (some ⟨g, 0, none⟩) k k Try.underlying57 .i64 (c : Int) (by omega) (by omega)]
  have h3 : (sizeOf (Try.prog.elem 57)).run Try.prog w = .ok 3 w := by go_simp
  rw [h3]
  have e : (if k = c then some (⟨g, 0, none⟩ : Addr) else some (if c * 3 = 0 then ⟨g, 0, none⟩ else ⟨g, c * 3, none⟩)) = some ⟨g, c * 3, none⟩ := by
    rw [if_neg (by omega)]
    by_cases h2 : c * 3 = 0 <;> simp [h2]
  simp [sliced, Result.andThen, Addr.add]
  omega
set_option maxRecDepth 100000 in
theorem run_cutS (p : Option Addr) (n c k : Nat) (h : k ≤ c) (wx : World) : (Instr.slice 57 (.slice p n c) none (some (.int .i64 (k : Int))) none).run Try.prog wx = .ok (.slice p k c) wx := by
  rw [run_slice_h wx 57 p n c Try.underlying57 .i64 (k : Int) (by omega) (by omega)]
  have h3 : (sizeOf (Try.prog.elem 57)).run Try.prog wx = .ok 3 wx := by go_simp
  rw [h3]
  have : Option.map (fun x : Addr => x.add 0) p = p := by cases p <;> simp [Addr.add_zero']
  simp [sliced, Result.andThen, this]

end Go.Proofs.Ytcnpmkigiklnnaa
/-
  Tickets: whoever steps when, at most one holds the lock, in the order of tickets; plain mathematics over the steps of a play.
  Conditions: none.
-/
namespace Go.Proofs.Ytcnpmkigiklnnaa
open Go.RowKit Go.Shelf

def lk : List Bool := [true, true]
/-- A play of a lock at 0: the next ticket, whose turn it is, and all who want it. -/
def lkP (nx ow : Nat) (ss : List SpM) : PlM := ⟨[(nx : Int), (ow : Int)], false, ss⟩
theorem incU_small {t : Int} (h0 : 0 ≤ t) (h1 : t ≤ 1000000) : incU t = t + 1 := by
  unfold incU
  simp only [IntKind.wrap, IntKind.signed, IntKind.bits]
  simp
  omega
theorem incI_zero : incI 0 = 1 := by unfold incI wrap64; omega
theorem live0 (x y : Int) : liveAt [x, y] lk 0 = true := by
  rw [show (0 : Int) = ((0 : Nat) : Int) from rfl, liveAt_nat]; rfl
theorem live1 (x y : Int) : liveAt [x, y] lk 1 = true := by
  rw [show (1 : Int) = ((1 : Nat) : Int) from rfl, liveAt_nat]; rfl
theorem turn_0 {nx ow : Nat} {ss : List SpM} {i : Nat} {t : Int} (hi : i < ss.length) (hs : ss.getD i dS = ⟨0, 0, t⟩) : turnP lk (lkP nx ow ss) i = lkP nx ow (ss.set i ⟨0, 1, nx⟩) := by
  refine turnP_of lk (lkP nx ow ss) i hi (us2 := [(nx : Int), (ow : Int)]) (f2 := false) (s2 := ⟨0, 1, nx⟩) ?_
  show stepP lk ⟨[(nx : Int), (ow : Int)], false, [leaveS (ss.getD i dS)]⟩ 0 = _
  rw [hs]
  simp [stepP, stepM, leaveS, hasS, needS, accM, live0, takeS]
theorem turn_1y {nx ow : Nat} {ss : List SpM} {i : Nat} (hi : i < ss.length) (hs : ss.getD i dS = ⟨0, 1, nx⟩) (hb : nx ≤ 1000000) : turnP lk (lkP nx ow ss) i = lkP (nx + 1) ow (ss.set i ⟨0, 2, nx⟩) := by
  refine turnP_of lk (lkP nx ow ss) i hi (us2 := [((nx + 1 : Nat) : Int), (ow : Int)]) (f2 := false) (s2 := ⟨0, 2, nx⟩) ?_
  show stepP lk ⟨[(nx : Int), (ow : Int)], false, [leaveS (ss.getD i dS)]⟩ 0 = _
  rw [hs]
  simp [stepP, stepM, leaveS, hasS, needS, accM, live0, takeS, incU_small (t := (nx : Int)) (by omega) (by omega)]
theorem turn_1n {nx ow : Nat} {ss : List SpM} {i : Nat} {t : Int} (hi : i < ss.length) (hs : ss.getD i dS = ⟨0, 1, t⟩) (ht : ¬ (nx : Int) = t) : turnP lk (lkP nx ow ss) i = lkP nx ow (ss.set i ⟨0, 0, 0⟩) := by
  refine turnP_of lk (lkP nx ow ss) i hi (us2 := [(nx : Int), (ow : Int)]) (f2 := false) (s2 := ⟨0, 0, 0⟩) ?_
  show stepP lk ⟨[(nx : Int), (ow : Int)], false, [leaveS (ss.getD i dS)]⟩ 0 = _
  rw [hs]
  simp [stepP, stepM, leaveS, hasS, needS, accM, live0, takeS, ht]
theorem turn_2y {nx ow : Nat} {ss : List SpM} {i : Nat} (hi : i < ss.length) (hs : ss.getD i dS = ⟨0, 2, ow⟩) : turnP lk (lkP nx ow ss) i = lkP nx ow (ss.set i ⟨0, 3, ow⟩) := by
  refine turnP_of lk (lkP nx ow ss) i hi (us2 := [(nx : Int), (ow : Int)]) (f2 := false) (s2 := ⟨0, 3, ow⟩) ?_
  show stepP lk ⟨[(nx : Int), (ow : Int)], false, [leaveS (ss.getD i dS)]⟩ 0 = _
  rw [hs]
  simp [stepP, stepM, leaveS, hasS, needS, accM, incI_zero, live1, takeS]
theorem turn_2n {nx ow : Nat} {ss : List SpM} {i : Nat} {t : Int} (hi : i < ss.length) (hs : ss.getD i dS = ⟨0, 2, t⟩) (ht : ¬ (ow : Int) = t) : turnP lk (lkP nx ow ss) i = lkP nx ow (ss.set i ⟨0, 2, t⟩) := by
  refine turnP_of lk (lkP nx ow ss) i hi (us2 := [(nx : Int), (ow : Int)]) (f2 := false) (s2 := ⟨0, 2, t⟩) ?_
  show stepP lk ⟨[(nx : Int), (ow : Int)], false, [leaveS (ss.getD i dS)]⟩ 0 = _
  rw [hs]
  simp [stepP, stepM, leaveS, hasS, needS, accM, incI_zero, live1, takeS, ht]
theorem turn_3 {nx ow : Nat} {ss : List SpM} {i : Nat} (hi : i < ss.length) (hs : ss.getD i dS = ⟨0, 3, ow⟩) (hb : ow ≤ 1000000) : turnP lk (lkP nx ow ss) i = lkP nx (ow + 1) (ss.set i ⟨0, 5, ow⟩) := by
  refine turnP_of lk (lkP nx ow ss) i hi (us2 := [(nx : Int), ((ow + 1 : Nat) : Int)]) (f2 := false) (s2 := ⟨0, 5, ow⟩) ?_
  show stepP lk ⟨[(nx : Int), (ow : Int)], false, [leaveS (ss.getD i dS)]⟩ 0 = _
  rw [hs]
  simp [stepP, stepM, leaveS, hasS, needS, accM, incI_zero, live1, takeS, incU_small (t := (ow : Int)) (by omega) (by omega)]
theorem turn_5 {nx ow : Nat} {ss : List SpM} {i : Nat} {t : Int} (hi : i < ss.length) (hs : ss.getD i dS = ⟨0, 5, t⟩) : turnP lk (lkP nx ow ss) i = lkP nx ow ss :=
  turnP_done (P := lkP nx ow ss) hi (by show (ss.getD i dS).p = 5; rw [hs])

/-- Where one of them may be: L have held the lock so far, or hold it. -/
def OneS (nx ow L : Nat) (s : SpM) : Prop :=
  s.a = 0 ∧ ((s.p = 0 ∧ s.t = 0) ∨ (s.p = 1 ∧ 0 ≤ s.t ∧ s.t ≤ nx) ∨ (s.p = 2 ∧ (L : Int) ≤ s.t ∧ s.t < nx) ∨ (s.p = 3 ∧ s.t = ow ∧ L = ow + 1 ∧ s.t < nx) ∨ (s.p = 5 ∧ 0 ≤ s.t ∧ s.t < ow ∧ s.t < nx))
/-- The tickets of a play, and who has held the lock. -/
structure TickI (n nx ow : Nat) (ss : List SpM) (ord : List Nat) : Prop where
  len : ss.length = n
  each : ∀ i, i < n → OneS nx ow ord.length (ss.getD i dS)
  inj : ∀ i j, i < n → j < n → i ≠ j → 2 ≤ (ss.getD i dS).p → 2 ≤ (ss.getD j dS).p → (ss.getD i dS).t ≠ (ss.getD j dS).t
  held : ∀ k (h : k < ord.length), ord[k] < n ∧ 3 ≤ (ss.getD ord[k] dS).p ∧ (ss.getD ord[k] dS).t = k
  low : ow ≤ ord.length
  high : ord.length ≤ ow + 1
theorem getD_set_self {ss : List SpM} {i : Nat} {s : SpM} (h : i < ss.length) : (ss.set i s).getD i dS = s := by
  rw [List.getD_eq_getElem?_getD, List.getElem?_set_self h]; rfl
theorem getD_set_ne {ss : List SpM} {i j : Nat} {s : SpM} (h : i ≠ j) : (ss.set i s).getD j dS = ss.getD j dS := by
  rw [List.getD_eq_getElem?_getD, List.getElem?_set_ne h, List.getD_eq_getElem?_getD]
/-- One more step, of i, that has no ticket yet. -/
theorem TickI.early {n nx nx' ow : Nat} {ss : List SpM} {ord : List Nat} {i : Nat} {s : SpM} (h : TickI n nx ow ss ord) (hi : i < n) (hp : (ss.getD i dS).p < 2) (hn : nx ≤ nx') (hs : OneS nx' ow ord.length s) (_hp2 : s.p ≤ 2) (hnew : 2 ≤ s.p → s.t = nx) : TickI n nx' ow (ss.set i s) ord := by
  have hl := h.len
  refine ⟨by rw [List.length_set]; exact hl, fun j hj => ?_, fun j k hj hk hjk h1 h2 => ?_, fun k hk => ?_, h.low, h.high⟩
  · by_cases e : i = j
    · subst e
      rw [getD_set_self (by omega)]
      exact hs
    · rw [getD_set_ne e]
      have := h.each j hj
      unfold OneS at this ⊢
      omega
  · by_cases e : i = j
    · subst e
      rw [getD_set_self (by omega)] at h1 ⊢
      rw [getD_set_ne hjk] at h2 ⊢
      have e1 := hnew h1
      have := h.each k hk
      unfold OneS at this
      omega
    · by_cases e2 : i = k
      · subst e2
        rw [getD_set_self (by omega)] at h2 ⊢
        rw [getD_set_ne e] at h1 ⊢
        have e1 := hnew h2
        have := h.each j hj
        unfold OneS at this
        omega
      · rw [getD_set_ne e] at h1 ⊢
        rw [getD_set_ne e2] at h2 ⊢
        exact h.inj j k hj hk hjk h1 h2
  · obtain ⟨a, b, c⟩ := h.held k hk
    have hne : i ≠ ord[k] := fun e => by rw [← e] at b; omega
    rw [getD_set_ne hne]
    exact ⟨a, b, c⟩
/-- One more step, of i, that has a ticket, and keeps it. -/
theorem TickI.late {n nx ow ow' : Nat} {ss : List SpM} {ord ord' : List Nat} {i : Nat} {s : SpM} (h : TickI n nx ow ss ord) (hi : i < n) (hp : 2 ≤ (ss.getD i dS).p) (ht : s.t = (ss.getD i dS).t) (hp2 : 2 ≤ s.p) (hge : (ss.getD i dS).p ≤ s.p) (hs : OneS nx ow' ord'.length s)
    (hoth : ∀ j, j < n → i ≠ j → OneS nx ow' ord'.length (ss.getD j dS)) (hord : ord' = ord ∨ (ord' = ord ++ [i] ∧ 3 ≤ s.p ∧ s.t = ord.length)) (hlow : ow' ≤ ord'.length) (hhigh : ord'.length ≤ ow' + 1) : TickI n nx ow' (ss.set i s) ord' := by
  have hl := h.len
  refine ⟨by rw [List.length_set]; exact hl, fun j hj => ?_, fun j k hj hk hjk h1 h2 => ?_, fun k hk => ?_, hlow, hhigh⟩
  · by_cases e : i = j
    · subst e
      rw [getD_set_self (by omega)]
      exact hs
    · rw [getD_set_ne e]
      exact hoth j hj e
  · by_cases e : i = j
    · subst e
      rw [getD_set_self (by omega), ht]
      rw [getD_set_ne hjk] at h2 ⊢
      exact h.inj i k hj hk hjk hp h2
    · by_cases e2 : i = k
      · subst e2
        rw [getD_set_self (by omega), ht]
        rw [getD_set_ne e] at h1 ⊢
        exact h.inj j i hj hk hjk h1 hp
      · rw [getD_set_ne e] at h1 ⊢
        rw [getD_set_ne e2] at h2 ⊢
        exact h.inj j k hj hk hjk h1 h2
  · have old : ∀ k (hk : k < ord.length), ord[k] < n ∧ 3 ≤ ((ss.set i s).getD ord[k] dS).p ∧ ((ss.set i s).getD ord[k] dS).t = k := fun k hk => by
      obtain ⟨a, b, c⟩ := h.held k hk
      by_cases e : i = ord[k]
      · rw [← e] at a b c ⊢
        rw [getD_set_self (by omega)]
        exact ⟨a, by omega, by rw [ht]; exact c⟩
      · rw [getD_set_ne e]
        exact ⟨a, b, c⟩
    rcases hord with rfl | ⟨rfl, h3, hT⟩
    · exact old k hk
    · by_cases hk2 : k < ord.length
      · rw [List.getElem_append_left hk2]
        exact old k hk2
      · have e : k = ord.length := by
          rw [List.length_append] at hk
          simp at hk
          omega
        subst e
        rw [List.getElem_append_right (Nat.le_refl _)]
        simp only [Nat.sub_self, List.getElem_cons_zero]
        rw [getD_set_self (by omega)]
        exact ⟨hi, h3, hT⟩
/-- A turn of one of them. -/
theorem TickI.turn {n nx ow : Nat} {ss : List SpM} {ord : List Nat} {i : Nat} (h : TickI n nx ow ss ord) (hi : i < n) (hb : nx ≤ 1000000) (hb2 : ow ≤ 1000000) :
    ∃ nx' ow' ss', turnP lk (lkP nx ow ss) i = lkP nx' ow' ss' ∧ nx' ≤ nx + 1 ∧ ow' ≤ ow + 1 ∧ TickI n nx' ow' ss' (if (ss'.getD i dS).p = 3 then ord ++ [i] else ord) := by
  have hl := h.len
  have hi' : i < ss.length := by omega
  have ho := h.each i hi
  obtain ⟨⟨a, p, t⟩, hs⟩ : ∃ s, ss.getD i dS = s := ⟨_, rfl⟩
  rw [hs] at ho
  obtain ⟨ha, hc⟩ := ho
  simp only at ha hc
  subst ha
  rcases hc with ⟨rfl, rfl⟩ | ⟨rfl, h1, h2⟩ | ⟨rfl, h1, h2⟩ | ⟨rfl, rfl, h1, h2⟩ | ⟨rfl, h1, h2, h3⟩
  · refine ⟨nx, ow, _, turn_0 hi' hs, by omega, by omega, ?_⟩
    rw [getD_set_self hi', if_neg (by simp)]
    exact h.early hi (by rw [hs]; simp) (Nat.le_refl _) ⟨rfl, .inr (.inl ⟨rfl, by simp, by simp⟩)⟩ (by simp) (by simp)
  · by_cases ht : (nx : Int) = t
    · subst ht
      refine ⟨nx + 1, ow, _, turn_1y hi' hs hb, by omega, by omega, ?_⟩
      rw [getD_set_self hi', if_neg (by simp)]
      refine h.early hi (by rw [hs]; simp) (by omega) ⟨rfl, .inr (.inr (.inl ⟨rfl, ?_, by simp; omega⟩))⟩ (by simp) (fun _ => rfl)
      -- no more have held it than have a ticket
      show (ord.length : Int) ≤ nx
      by_cases h0 : ord.length = 0
      · omega
      · obtain ⟨a, b, c⟩ := h.held (ord.length - 1) (by omega)
        have := h.each _ a
        unfold OneS at this
        omega
    · refine ⟨nx, ow, _, turn_1n hi' hs ht, by omega, by omega, ?_⟩
      rw [getD_set_self hi', if_neg (by simp)]
      exact h.early hi (by rw [hs]; simp) (Nat.le_refl _) ⟨rfl, .inl ⟨rfl, rfl⟩⟩ (by simp) (by simp)
  · by_cases ht : (ow : Int) = t
    · subst ht
      refine ⟨nx, ow, _, turn_2y hi' hs, by omega, by omega, ?_⟩
      rw [getD_set_self hi', if_pos rfl]
      have hlo := h.low
      have hL : ord.length = ow := by omega
      have hl2 : (ord ++ [i]).length = ow + 1 := by rw [List.length_append, hL]; rfl
      refine h.late hi (by rw [hs]; simp) (by rw [hs]) (by simp) (by rw [hs]; simp) ⟨rfl, .inr (.inr (.inr (.inl ⟨rfl, rfl, hl2, h2⟩)))⟩ (fun j hj hij => ?_) (.inr ⟨rfl, by simp, by rw [hL]⟩) (by omega) (by omega)
      have hj2 := h.each j hj
      have hne := h.inj i j hi hj hij (by rw [hs]; simp)
      rw [hs] at hne
      unfold OneS at hj2 ⊢
      rw [hl2]
      simp only at hne
      omega
    · refine ⟨nx, ow, _, turn_2n hi' hs ht, by omega, by omega, ?_⟩
      rw [getD_set_self hi', if_neg (by simp)]
      exact h.late hi (by rw [hs]; simp) (by rw [hs]) (by simp) (by rw [hs]; simp) ⟨rfl, .inr (.inr (.inl ⟨rfl, h1, h2⟩))⟩ (fun j hj _ => h.each j hj) (.inl rfl) h.low h.high
  · refine ⟨nx, ow + 1, _, turn_3 hi' hs hb2, by omega, by omega, ?_⟩
    rw [getD_set_self hi', if_neg (by simp)]
    refine h.late hi (by rw [hs]; simp) (by rw [hs]) (by simp) (by rw [hs]; simp) ⟨rfl, .inr (.inr (.inr (.inr ⟨rfl, by simp, by simp; omega, h2⟩)))⟩ (fun j hj hij => ?_) (.inl rfl) (by omega) (by omega)
    have hj2 := h.each j hj
    have hne := h.inj i j hi hj hij (by rw [hs]; simp)
    rw [hs] at hne
    unfold OneS at hj2 ⊢
    simp only at hne
    omega
  · refine ⟨nx, ow, _, turn_5 hi' hs, by omega, by omega, ?_⟩
    rw [hs, if_neg (by simp)]
    exact h
/-- At first. -/
theorem TickI.start (n : Nat) : TickI n 0 0 (zS n) [] := by
  have hz : ∀ i, i < n → (zS n).getD i dS = ⟨0, 0, 0⟩ := fun i hi => by
    rw [List.getD_eq_getElem?_getD, List.getElem?_eq_getElem (by rw [zS_len]; exact hi)]
    simp [zS]
  refine ⟨zS_len n, fun i hi => ?_, fun i j hi _ _ h _ => ?_, fun k hk => by simp at hk, Nat.le_refl _, by simp⟩
  · rw [hz i hi]; exact ⟨rfl, .inl ⟨rfl, rfl⟩⟩
  · rw [hz i hi] at h; simp at h
theorem TickI.ok {n nx ow : Nat} {ss : List SpM} {ord : List Nat} (h : TickI n nx ow ss ord) (hb : nx ≤ 1000000) (hb2 : ow ≤ 1000000) : PlOk lk (lkP nx ow ss) := by
  have hmem : ∀ s ∈ ss, OneS nx ow ord.length s := fun s hs => by
    obtain ⟨i, hi, rfl⟩ := List.mem_iff_getElem.1 hs
    have := h.each i (by rw [← h.len]; exact hi)
    rwa [List.getD_eq_getElem?_getD, List.getElem?_eq_getElem hi] at this
  refine ⟨rightB_iff.2 ⟨by simp [lkP], by simp [lkP], rfl, fun i h1 h2 => ?_⟩, fun x hx => ?_, fun s hs => ?_, fun s hs => ?_⟩
  · have : lk[i] = true := by
      rcases i with _ | _ | i
      · rfl
      · rfl
      · simp [lk] at h2
        omega
    rw [this]; rfl
  · simp only [lkP, List.mem_cons, List.not_mem_nil, or_false] at hx
    rcases hx with rfl | rfl <;> omega
  · have := hmem s hs
    unfold OneS at this
    rw [rightS_iff]
    omega
  · have := hmem s hs
    unfold OneS at this
    constructor <;> omega
/-- At most one is inside. -/
theorem filter_one {α : Type} (P : α → Bool) : ∀ (l : List α), (∀ i j (hi : i < l.length) (hj : j < l.length), i ≠ j → ¬ (P l[i] = true ∧ P l[j] = true)) → (l.filter P).length ≤ 1
  | [], _ => by simp
  | x :: r, h => by
    have hr := filter_one P r fun i j hi hj hij => by
      have := h (i + 1) (j + 1) (by simp; omega) (by simp; omega) (by omega)
      simpa using this
    cases hx : P x with
    | false => rw [List.filter_cons_of_neg (by rw [hx]; simp)]; exact hr
    | true =>
      rw [List.filter_cons_of_pos hx]
      have h0 : r.filter P = [] := by
        rw [List.filter_eq_nil_iff]
        intro y hy hyP
        obtain ⟨j, hj, rfl⟩ := List.mem_iff_getElem.1 hy
        exact h 0 (j + 1) (by simp) (by simp; omega) (by omega) ⟨by simpa using hx, by simpa using hyP⟩
      rw [h0]
      simp
def insB (s : SpM) : Bool := decide (s.p = 3) || decide (s.p = 4)
theorem TickI.one {n nx ow : Nat} {ss : List SpM} {ord : List Nat} (h : TickI n nx ow ss ord) (k : Nat) : ((ss.take k).filter insB).length ≤ 1 := by
  have hall : (ss.filter insB).length ≤ 1 := filter_one insB ss fun i j hi hj hij hh => by
    have hn := h.len
    have e1 := h.each i (by omega)
    have e2 := h.each j (by omega)
    have e3 := h.inj i j (by omega) (by omega) hij
    rw [List.getD_eq_getElem?_getD, List.getElem?_eq_getElem hi] at e1 e3
    rw [List.getD_eq_getElem?_getD, List.getElem?_eq_getElem hj] at e2 e3
    simp only [Option.getD_some] at e1 e2 e3
    unfold insB at hh
    simp only [Bool.or_eq_true, decide_eq_true_eq] at hh
    unfold OneS at e1 e2
    omega
  refine Nat.le_trans ?_ hall
  have : ss.filter insB = (ss.take k).filter insB ++ (ss.drop k).filter insB := by rw [← List.filter_append, List.take_append_drop]
  rw [this, List.length_append]
  omega
/-- Who has held the lock is there once. -/
theorem TickI.once {n nx ow : Nat} {ss : List SpM} {ord : List Nat} (h : TickI n nx ow ss ord) {j k : Nat} (hj : j < ord.length) (hk : k < ord.length) (hjk : j ≠ k) : ord[j] ≠ ord[k] := fun e => by
  have h1 := (h.held j hj).2.2
  have h2 := (h.held k hk).2.2
  rw [e, h2] at h1
  omega

end Go.Proofs.Ytcnpmkigiklnnaa
/-
  asking: a row of so many who want the lock at 0, none of whom has done a step.
  Conditions: at least one, at most five.
-/
namespace Go.Proofs.Ytcnpmkigiklnnaa
open Go.RowKit Go.Shelf
attribute [local go_sem] Oper.semAt_some

set_option maxRecDepth 100000 in
set_option maxHeartbeats 4000000 in
theorem repeat_s (b k : Nat) (W : World) (hc : ∀ j v, (flatS (zS 1))[j]? = some v → W.cell? ((⟨b, 0, none⟩ : Addr).add j) = some v) (hk : 1 ≤ k ∧ k ≤ 5) :
    Calls Try.prog 47 #[.slice (some ⟨b, 0, none⟩) 1 1, .int .i64 (k : Int)] W fun e w' => (∃ v', e = .returned v' ∧ w'.ownsRow W.heap.size 24 3 v' k (flatS (zS k))) ∧ Below W.heap.size W w' := by
  have HM := Lib.hid (mul_c k hk W)
  have hmk := run_makeS k hk
  obtain ⟨w1, hw1⟩ : ∃ w : World, w = W.alloc (.cells (flatS (zS k)).toArray 24) := ⟨_, rfl⟩
  obtain ⟨g, hg⟩ : ∃ g, g = W.heap.size := ⟨_, rfl⟩
  have hb1 : Below g W w1 := by rw [hw1, hg]; exact (Below.refl _ _).alloc (Nat.le_refl _) _
  have hg1 : w1.heap[g]? = some (.cells (flatS (zS k)).toArray 24 (0, 0)) := by rw [hw1, hg]; exact World.alloc_heap_new _ _
  have HC1 := Lib.hid (show ∀ j v, (flatS (zS 1))[j]? = some v → w1.cell? ((⟨b, 0, none⟩ : Addr).add j) = some v from fun j v hj => below_cell (by rw [← hg]; exact hb1) (hc j v hj))
  have HG1 := Lib.hid hg1
  have HB1 := Lib.hid hb1
  have HW1 := Lib.hid hw1
  have HG := Lib.hid hg
  have HK := Lib.hid hk
  have hk1 := hk.1
  have hk5 := hk.2
  have huk : IntKind.u64.wrap (k : Int) = (k : Int) := by simp [IntKind.wrap, IntKind.signed, IntKind.bits]; omega
  have hik : IntKind.i64.wrap (k : Int) = (k : Int) := by simp [IntKind.wrap, IntKind.signed, IntKind.bits]; omega
  have hwk : wrap64 (k : Int) = (k : Int) := by unfold wrap64; omega
  clear hb1 hg1 hw1 hg hc hk
  go_enter Try.func47, Try.ntmps47
  go_wp2_with fail
  refine HM.out.mono ?_
  rintro e w0 ⟨rfl, rfl⟩
  clear HM
  go_upto_region 7 with (fail)
  rw [← HW1.out, ← HG.out]
  have HSF := Lib.hid (show (flatS (zS k)).toArray.toList.take 0 ++ flatS (zS 1) ++ (flatS (zS k)).toArray.toList.drop (0 + 1 * 3) = (flatS (zS k)).toArray.toList by
    have := zS_self (k := k) (c := 0) (m := 1) (by omega)
    simpa using this)
  go_wp2_with (with_reducible refine wpList_copy_same (op := ⟨some 33, _, _, _, _, _⟩) rfl (.tmp 31) (.tmp 32) 57 57 rfl 24 Try.underlying57 3 (by kernel_rfl) g 0 k k 1 1 1 (some ⟨b, 0, none⟩) rfl rfl (flatS (zS k)).toArray 24 HG1.out (flatS (zS 1)) (Nat.min_eq_right HK.out.1).symm (zS_flat 1) (by rw [List.size_toArray, zS_flat]; have := HK.out.1; omega) ⟨_, rfl, HC1.out⟩ (flatS_one _) HSF.out ?_)
  clear hmk
  go_loopw [8] (fun iv wr => ∃ c : Nat, 1 ≤ c ∧ c ≤ k ∧ iv = .int .i64 c ∧ Hid (wr.heap[g]? = some (.cells (flatS (zS k)).toArray 24 (0, 0)) ∧ Below g w0 wr)) (fun iv _ => k - (intOf iv).toNat)
  case atStart => exact ⟨1, Nat.le_refl _, HK.out.1, rfl, Lib.hid ⟨HG1.out, HB1.out⟩⟩
  case round =>
    obtain ⟨c, hc1, hck, rfl, HI⟩ := hrel
    by_cases hlt : c < k
    · have hs1 := run_tailS g c k hlt
      have hs2 := run_cutS (some ⟨g, 0, none⟩) k k c hck
      obtain ⟨m, hm⟩ : ∃ m, m = Nat.min (k - c) c := ⟨_, rfl⟩
      have hm1 : 1 ≤ m := by rw [hm]; exact Nat.le_min.2 ⟨by omega, by omega⟩
      have hmk : c + m ≤ k := by have : m ≤ k - c := by rw [hm]; exact Nat.min_le_left _ _
                                 omega
      have HSR := Lib.hid (show ∀ j v, (flatS (zS m))[j]? = some v → wr.drew.cell? ((⟨g, 0, none⟩ : Addr).add j) = some v from fun j v hj => by
        have h6 := (List.getElem?_eq_some_iff.1 hj).1
        rw [zS_flat] at h6
        rw [addr_add_off, Nat.zero_add]
        have h9 := HI.out.1
        have h8 : wr.drew.cell? ⟨g, j, none⟩ = (flatS (zS k)).toArray[j]? := by
          have h10 : wr.drew.heap[g]? = _ := h9
          simp [World.cell?, h10]
        have h7 := hj
        rw [← zS_take (k := k) (m := m) (by omega), List.getElem?_take, if_pos h6] at h7
        rw [h8, List.getElem?_toArray]
        exact h7)
      have HS2 := Lib.hid (show (flatS (zS k)).toArray.toList.take (c * 3) ++ flatS (zS m) ++ (flatS (zS k)).toArray.toList.drop (c * 3 + m * 3) = (flatS (zS k)).toArray.toList from zS_self hmk)
      have HMM := Lib.hid hm
      clear hm
      go_upto_region 9 with (fail)
      go_region_law (refine step_copy_same rfl (.tmp 41) (.tmp 44) 57 57 rfl 24 Try.underlying57 3 (by kernel_rfl) g (c * 3) (k - c) (k - c) c k m (some ⟨g, 0, none⟩) (by simp [Act.eval, Act.put]) (by simp [Act.eval, Act.put]) (flatS (zS k)).toArray 24 HI.out.1 (flatS (zS m)) HMM.out (zS_flat m) (by rw [List.size_toArray, zS_flat]; omega) ⟨_, rfl, HSR.out⟩ (flatS_one _) HS2.out ?_; simp [Act.put, goInt])
      have hadd2 : IntKind.i64.wrap ((c : Int) + (m : Int)) = ((c + m : Nat) : Int) := by simp [IntKind.wrap, IntKind.signed, IntKind.bits]; omega
      have HI2 := Lib.hid (show (wr.drew.heap[g]? = some (.cells (flatS (zS k)).toArray 24 (0, 0)) ∧ Below g w0 wr.drew) from ⟨HI.out.1, HI.out.2.drew⟩)
      clear HI HSR HS2 HMM hs1 hs2
      simp [Act.put, hadd2]
      go_wp2
      go_roundw
      case rel => exact ⟨c + m, by omega, hmk, by go_num, HI2⟩
      case measure => simp [intOf]; omega
    · obtain rfl : c = k := by omega
      have HE := Lib.hid (show wr.ownsRow g 24 3 (.slice (some ⟨g, 0, none⟩) c c) c (flatS (zS c)) from ⟨zS_flat c, .inr ⟨g, c, _, rfl, Nat.le_refl _, HI.out.1, Nat.le_refl _, by unfold maxLen; omega, by rw [List.size_toArray, zS_flat], by simp [zS_take (Nat.le_refl c)]⟩⟩)
      have HB := Lib.hid HI.out.2
      clear HI
      go_wp2
      go_ret
      exact ⟨⟨_, rfl, by rw [← HG.out]; exact HE.out⟩, by rw [← HG.out]; exact HB.out⟩

set_option maxRecDepth 100000 in
set_option maxHeartbeats 2000000 in
theorem asking_c (k : Nat) (hk : 1 ≤ k ∧ k ≤ 5) (W : World) :
    Calls Try.prog 32 #[.int .i64 (k : Int)] W fun e w' => (∃ q d, e = .returned (.slice q k d) ∧ w'.ownsRow W.heap.size 24 3 (.slice q k d) k (flatS (zS k))) ∧ Below W.heap.size W w' := by
  have HK := Lib.hid hk
  clear hk
  go_enter Try.func32, Try.ntmps32
  go_wp2_with fail
  refine (show Calls Try.prog 17 #[.int .i64 0] W fun e w' => e = .returned (.agg #[.int .i64 0, .int .i64 0, .int .u64 0]) ∧ Below W.heap.size W w' from qask 0 W).mono ?_
  rintro e w1 ⟨rfl, hb⟩
  obtain ⟨w2, hw2⟩ : ∃ w : World, w = w1.alloc (.cells #[.int .i64 0, .int .i64 0, .int .u64 0] 24) := ⟨_, rfl⟩
  have hb2 : Below w1.heap.size w1 w2 := by rw [hw2]; exact below1 _ _
  have hs2 : SpBox w2 w1.heap.size 0 0 0 := by rw [hw2]; exact World.alloc_heap_new _ _
  have HB2 := Lib.hid (below_then hb hb.size hb2)
  have HS2 := Lib.hid hs2
  have HSZ := Lib.hid (show W.heap.size ≤ w2.heap.size from Nat.le_trans hb.size hb2.size)
  clear hb hb2 hs2
  go_wp2_with fail
  rw [← hw2]
  clear hw2
  refine (repeat_s w1.heap.size k w2 (fun j v hj => ?_) HK.out).mono ?_
  · obtain ⟨s0, s1, s2⟩ := HS2.out.cells
    rw [addr_add_off, Nat.zero_add]
    rcases j with _ | _ | _ | j
    · simpa [zS, flatS] using hj ▸ s0
    · simpa [zS, flatS] using hj ▸ s1
    · simpa [zS, flatS] using hj ▸ s2
    · simp [zS, flatS] at hj
  rintro e w3 ⟨⟨v', rfl, ho⟩, hb⟩
  obtain ⟨q, d, rfl⟩ := owns_slice ho
  have HO := Lib.hid (ho.mono HSZ.out)
  have HB3 := Lib.hid (below_then HB2.out HB2.out.size hb)
  clear ho hb
  go_wp2
  go_ret
  exact ⟨⟨_, _, rfl, HO.out⟩, HB3.out⟩

end Go.Proofs.Ytcnpmkigiklnnaa
namespace Go.Proofs.Ytcnpmkigiklnnaa
open Go.RowKit Go.Shelf
attribute [local go_sem] Oper.semAt_some

/-- What one pick comes to. -/
def OnePick (B n : Nat) (nx' ow' : Nat) (ss' : List SpM) (r : Nat) (e : Ending) (w' : World) : Prop :=
  ∃ x y g vh, e = .returned (.tuple #[.agg #[x, y, .bool false], .slice (some ⟨g, 0, none⟩) n n, vh, .int .i64 0]) ∧ w'.ownsRow B 22 1 x 2 (([(nx' : Int), (ow' : Int)] : List Int).map (Value.int .u64)) ∧ w'.ownsRow B 4 1 y 2 (lk.map Value.bool) ∧
    w'.ownsRow B 24 3 (.slice (some ⟨g, 0, none⟩) n n) n (flatS ss') ∧ w'.ownsRow B 3 1 vh (if (ss'.getD r dS).p = 3 then [(r : Int)] else []).length ((if (ss'.getD r dS).p = 3 then [(r : Int)] else []).map (Value.int .i64))
theorem play_one {n nx ow : Nat} {ss : List SpM} {ord : List Nat} (h : TickI n nx ow ss ord) {r : Nat} (hr : r < n) (hb : nx ≤ 1000) (hb2 : ow ≤ 1000) (hn : n ≤ 5) (v v1 v2 : Value) :
    ∃ nx' ow' ss', nx' ≤ nx + 1 ∧ ow' ≤ ow + 1 ∧ TickI n nx' ow' ss' (if (ss'.getD r dS).p = 3 then ord ++ [r] else ord) ∧
      ∀ W : World, MemAt W v [(nx : Int), (ow : Int)] lk false → SpinsAt W v1 ss → NumsAt W .i64 v2 [(r : Int)] →
        Calls Try.prog 26 #[v, v1, v2] W fun e w' => OnePick W.heap.size n nx' ow' ss' r e w' ∧ Below W.heap.size W w' := by
  obtain ⟨nx', ow', ss', ht, h1, h2, h3⟩ := h.turn hr (by omega) (by omega)
  refine ⟨nx', ow', ss', h1, h2, h3, fun W hv hS hN => ?_⟩
  have hok := h.ok (by omega) (by omega)
  have hl := h.len
  have := qplay v v1 v2 _ lk false ss [(r : Int)] W hv hok.mem hok.rng hS (by omega) hok.may hok.sr hN (by simp)
  rw [refR_play lk ss.length [(r : Int)] ⟨[(nx : Int), (ow : Int)], false, ss⟩ [] rfl] at this
  have e : refR lk ss.length [(r : Int)] ⟨[(nx : Int), (ow : Int)], false, ss⟩ [] = (lkP nx' ow' ss', if (ss'.getD r dS).p = 3 then [(r : Int)] else []) := by
    have ht' : turnP lk ⟨[(nx : Int), (ow : Int)], false, ss⟩ r = lkP nx' ow' ss' := ht
    simp only [refR]
    rw [if_pos ⟨by omega, by omega⟩, Int.toNat_natCast, ht']
    simp only [lkP, List.nil_append]
    rfl
  rw [e, hl] at this
  exact this.mono fun e w' hh => by
    obtain ⟨⟨x, y, g, vh, h4, h5, h6, h7, h8, h9⟩, hb⟩ := hh
    exact ⟨⟨x, y, g, vh, h4, h5, h6, h7, h9⟩, hb⟩
/-- append of a row of one's own to one of one's own. -/
theorem wpList_append_any {P : Program} {w : World} {ops : Array Oper} {rest : List Oper} {o : Oper} {a : Act} {Q : Exit → Act → World → Prop} (hgd : o.guard = none) (s x : Operand) (t : TypeId)
    (ho : o.op = .call { callee := .builtin .append, args := #[s, x], argTypes := #[t, t] })
    (base : Nat) (e : TypeId) (i : TypeInfo) (z : Value) (bytes : Nat) (ht : P.underlying t = some (.slice e)) (hi : P.info? e = some i) (hz : i.zero = some z)
    (hsize : i.size = 1) (hby : i.bytes = bytes) (hzs : z.cells.size = 1)
    (v : Value) (n : Nat) (xs : List Value) (hs : a.eval s = v) (hown : w.ownsRow base e 1 v n xs)
    (vx : Value) (B m : Nat) (news : List Value) (hx : a.eval x = vx) (hxo : w.ownsRow B e 1 vx m news) (h1 : ∀ u ∈ news, u.oneCell' = true)
    (h63 : n + m ≤ maxLen) (hbytes : (n + m) * bytes ≤ 140737488355328) (hbase : base ≤ w.heap.size)
    (h : ∀ v' w', w'.ownsRow base e 1 v' (n + m) (xs ++ news) → Keeps (fun q => some q = v.ownBlock) w w' → wpList P ops Q rest (a.put o.dst v') w') : wpList P ops Q (o :: rest) a w := by
  have hlen := hxo.1
  rcases id hxo.2 with ⟨rfl, rfl⟩ | ⟨g, cap, cur, rfl, _⟩
  · obtain rfl : news = [] := List.eq_nil_of_length_eq_zero (by omega)
    refine wpList_append_own_none hgd s x t ho base e i 1 ht hi v n xs hs hown hx (h _ _ ?_ (Keeps.refl _ _))
    rw [List.append_nil]
    exact hown
  · refine wpList_append_own w hgd s x t ho base e i z 1 bytes ht hi hz hsize hby hzs (by decide) v n xs hs hown ⟨g, 0, none⟩ m cap news hx (by omega) (fun j u hj => ?_) h1 h63 hbytes hbase fun v' w' h2 h3 _ => h v' w' h2 (Keeps.of_grown h3)
    obtain ⟨hj1, rfl⟩ := List.getElem?_eq_some_iff.1 hj
    rw [addr_add_off, Nat.zero_add]
    rw [hxo.cellAt j (by omega), List.getElem?_eq_getElem hj1]
set_option maxRecDepth 100000 in
theorem contains_no (v : Value) (l : List Int) (x : Int) (W : World) (hv : NumsAt W .i64 v l) (hl : l.length ≤ 9223372036854775807) (hn : x ∉ l) :
    Calls Try.prog 33 #[v, .int .i64 x] W fun e w' => e = .returned (.bool false) ∧ w' = W := by
  have HI := Lib.hid (index_no v l x W hv hl hn)
  obtain ⟨p, cap, rfl, hc⟩ := hv
  clear hc hn hl
  go_enter Try.func33, Try.ntmps33
  go_wp2_with fail
  refine HI.out.mono ?_
  rintro e w1 ⟨rfl, rfl⟩
  clear HI
  go_wp2
  go_ret
  exact ⟨rfl, rfl⟩

end Go.Proofs.Ytcnpmkigiklnnaa
