/-
  memory.lives: how many of a part of the words are live; what was in memory stays.
  Conditions: the part lies within the memory.
-/
import Derived.Test.YtcledklajcdfiaaMSpans
import Derived.Test.YtcledklajcdfiaaMCalm
import Derived.IntWalk
namespace Go.Proofs.Ytcledklajcdfiaa
open Go.RowKit Go.Shelf
attribute [local go_sem] Oper.semAt_some

set_option maxRecDepth 100000 in
theorem spans_c (v : Value) (hv : ∃ p n c, v = .slice p n c) (W : World) : Calls Try.prog 88 #[v] W fun e w' => e = .returned (.func (.func 101) #[] #[.pointer (some ⟨W.heap.size, 0, none⟩)]) ∧ w' = W.alloc (.cells #[v] 44) := by
  obtain ⟨p, n, c, rfl⟩ := hv
  go_enter Try.func88, Try.ntmps88
  go_wp2
  go_ret
  exact ⟨rfl, rfl⟩

theorem spansP_length (l : List Bool) (a n : Nat) : (spansP a n l).length ≤ l.length + 1 := by
  induction l generalizing a n with
  | nil =>
    by_cases h : n = 0
    · subst h; simp [spansP, oneRow_zero]
    · simp [spansP, oneRow_pos a h]
  | cons b t ih =>
    cases b with
    | true => have := ih a (n + 1); simp only [spansP, List.length_cons]; omega
    | false =>
      have := ih (a + n + 1) 0
      simp only [spansP, List.length_append, List.length_cons]
      by_cases h : n = 0
      · subst h; simp only [oneRow_zero, List.length_nil]; omega
      · simp only [oneRow_pos a h, List.length_singleton]; omega
theorem ovlAll_rows (x y : Nat) (pre : List RowS) : ovlAll x y (pre.map (·.1)) ≤ pre.length * 4096 := by
  induction pre with
  | nil => simp [ovlAll]
  | cons s t ih =>
    have hs := s.2
    simp only [ovlAll, List.map_cons, List.sum_cons, List.length_cons] at ih ⊢
    have : ovl x y s.1 ≤ 4096 := by simp only [ovl]; omega
    omega

set_option maxRecDepth 100000 in
set_option maxHeartbeats 4000000 in
theorem lives_c (pw : Option Addr) (nw cw b off cap : Nat) (ls : List Bool) (f : Bool) (x k : Nat) (w : World) (hmax : ls.length ≤ 4096) (hcap : ls.length ≤ cap) (hk1 : 1 ≤ k) (hxk : x + k ≤ ls.length)
    (hl : ∀ i (h : i < ls.length), w.cell? ⟨b, off + i, none⟩ = some (.bool ls[i])) :
    Calls Try.prog 70 #[.agg #[.slice pw nw cw, .slice (some ⟨b, off, none⟩) ls.length cap, .bool f], .int .i64 (x : Int), .int .i64 (k : Int)] w fun e w' => e = .returned (.int .i64 ((cnt x (x + k) 0 ls : Nat) : Int)) ∧ Below w.heap.size w w' := by
  refine (callsIn_wide (n := 9)).1 ?_
  refine callsIn_of_wp_marks Try.func70 rfl trivial ?_ rfl
  simp only [Try.ntmps70, List.size_toArray, List.length_cons, List.length_nil, Nat.reduceAdd, Nat.reduceSub, Array.replicate_succ, Array.replicate_zero, List.push_toArray, List.append_toArray, List.nil_append, List.cons_append]
  have HL := Lib.hid hl
  clear hl
  gi_wp2
  refine wpIn_scope ?_
  gi_wp2
  refine wpIn_label ?_
  gi_wp2_with fail
  refine ⟨trivial, ?_⟩
  refine (callsIn_wide.2 (spans_c _ ⟨_, _, _, rfl⟩ _)).mono ?_
  rintro e w1 ⟨rfl, hw1⟩
  have hz1 : w1.heap.size = w.heap.size + 1 + 1 + 1 + 1 + 1 := by rw [hw1]; simp
  have hB1 : Below w.heap.size w w1 := by rw [hw1]; exact (((((Below.refl _ _).alloc (Nat.le_refl _) _).alloc (by simp) _).alloc (by simp; omega) _).alloc (by simp; omega) _).alloc (by simp; omega) _
  have hn1 : Boxed w1 (w.heap.size + 1 + 1 + 1) 3 (.int .i64 0) := by
    rw [hw1]
    refine Boxed.alloc ?_ _
    have := Boxed.new (((w.alloc (.cells #[.slice pw nw cw, .slice (some ⟨b, off, none⟩) ls.length cap, .bool f] 46)).alloc (.cells #[.int .i64 x] 3)).alloc (.cells #[.int .i64 k] 3)) 3 (.int .i64 0)
    simpa using this
  have hx1 : Boxed w1 (w.heap.size + 1) 3 (.int .i64 x) := by
    rw [hw1]
    refine Boxed.alloc (Boxed.alloc (Boxed.alloc ?_ _) _) _
    have := Boxed.new (w.alloc (.cells #[.slice pw nw cw, .slice (some ⟨b, off, none⟩) ls.length cap, .bool f] 46)) 3 (.int .i64 x)
    simpa using this
  have hkb : Boxed w1 (w.heap.size + 1 + 1) 3 (.int .i64 k) := by
    rw [hw1]
    refine Boxed.alloc (Boxed.alloc ?_ _) _
    have := Boxed.new ((w.alloc (.cells #[.slice pw nw cw, .slice (some ⟨b, off, none⟩) ls.length cap, .bool f] 46)).alloc (.cells #[.int .i64 x] 3)) 3 (.int .i64 k)
    simpa using this
  have hs1 : w1.cell? ⟨w.heap.size + 1 + 1 + 1 + 1, 0, none⟩ = some (.slice (some ⟨b, off, none⟩) ls.length cap) := by
    have := (Boxed.new ((((w.alloc (.cells #[.slice pw nw cw, .slice (some ⟨b, off, none⟩) ls.length cap, .bool f] 46)).alloc (.cells #[.int .i64 x] 3)).alloc (.cells #[.int .i64 k] 3)).alloc (.cells #[.int .i64 0] 3)) 44 (.slice (some ⟨b, off, none⟩) ls.length cap)).cell
    rw [hw1]
    simpa using this
  have hl1 : ∀ i (h : i < ls.length), w1.cell? ⟨b, off + i, none⟩ = some (.bool ls[i]) := fun i h => below_cell hB1 (HL.out i h)
  have hbS : ¬ b = w.heap.size + 1 + 1 + 1 := by
    intro e
    have := World.block_lt_of_cell? w _ (HL.out 0 (by omega))
    simp only at this
    omega
  have HL1 := Lib.hid hl1
  have HHB := Lib.hid hB1
  clear hw1 hl1
  gi_wp2
  generalize hz : w.heap.size = z at *
  refine wpIn_rangeBound rfl (by omega) (gf := 101) (bd := #[]) (lb := #[.pointer (some ⟨z + 1 + 1 + 1 + 1, 0, none⟩)]) rfl trivial (enters_of Try.func101 (by kernel_rfl) rfl)
    (spans_stops 8 (by omega) (fun q => q = z + 1 + 1 + 1) (z + 1 + 1 + 1 + 1) b off cap ls w1 (by omega) hbS hmax hcap hs1 HL1.out) (fun h k => h.trans k) (fun W l o o' _ => KeepsCells.turn _ W l o o') (Below.refl _ _) (fun _ => rfl)
    (fun pre W => ((Boxed W (z + 1 + 1 + 1) 3 (.int .i64 ((ovlAll x (x + k) (pre.map (·.1)) : Nat) : Int)) ∧ Boxed W (z + 1) 3 (.int .i64 x)) ∧ Boxed W (z + 1 + 1) 3 (.int .i64 k)) ∧ Below z w W)
    (fun c p W => (Boxed W (z + 1 + 1 + 1) 3 (.int .i64 ((ovlAll x (x + k) (p.dropLast.map (·.1)) : Nat) : Int)) ∧ (c = .exit 0 ∧ ∃ s, p.getLast? = some s ∧ x + k ≤ s.1.1)) ∧ Below z w W)
    ?hI ?hIx ?h0
    (fun s a' W => ∃ blk, (a' = { tmps := #[.agg #[.slice pw nw cw, .slice (some ⟨b, off, none⟩) ls.length cap, .bool f], .int .i64 x, .int .i64 k, .pointer (some ⟨z, 0, none⟩), .pointer (some ⟨z + 1, 0, none⟩), .pointer (some ⟨z + 1 + 1, 0, none⟩), .int .i64 0, .pointer (some ⟨z + 1 + 1 + 1, 0, none⟩), .pointer (some ⟨blk, 0, none⟩), undef, undef, .pointer (some ⟨z, 1, none⟩), .slice (some ⟨b, off, none⟩) ls.length cap, .func (.func 101) #[] #[.pointer (some ⟨z + 1 + 1 + 1 + 1, 0, none⟩)], rowV s, undef, undef, undef, undef, undef, undef, undef, undef, undef, undef, undef, undef, undef, undef, undef, undef, undef, undef, undef, undef, undef, undef, undef, undef, undef, undef, undef, undef, undef, undef], defers := [] } ∧ blk ≠ z + 1 + 1 + 1) ∧ W.heap[blk]? = some (.cells #[.int .i64 s.1.1, .int .i64 s.1.2] 140 (0, 0)))
    ?hAx ?assign ?body ?done ?stop
  case hI => exact OwnFrom.and (OwnFrom.and (OwnFrom.and (Own.from (boxed_own _ _ (fun pre : List RowS => Value.int .i64 ((ovlAll x (x + k) (pre.map (·.1)) : Nat) : Int))) _) ((boxed_own _ _ _).from _)) ((boxed_own _ _ _).from _)) (ownFrom_below (Nat.le_of_eq hz.symm) (by omega))
  case hIx => exact fun c => OwnFrom.and (OwnFrom.and (Own.from (boxed_own _ _ (fun p : List RowS => Value.int .i64 ((ovlAll x (x + k) (p.dropLast.map (·.1)) : Nat) : Int))) _) (ownFrom_pure _ _)) (ownFrom_below (Nat.le_of_eq hz.symm) (by omega))
  case h0 => exact ⟨⟨⟨hn1, hx1⟩, hkb⟩, HHB.out⟩
  case hAx =>
    rintro s a' _ X Y row ⟨blk, hpure, hs⟩ hg hr
    refine ⟨blk, hpure, (hg.block blk (Array.getElem?_eq_some_iff.1 hs).1 fun e => ?_).trans hs⟩
    obtain ⟨_, o, ho, hc⟩ := hr blk e.symm
    rw [hs] at ho
    cases ho
    cases hc
  case assign =>
    intro l pre s W K hi hK
    have hlt := hi.1.1.1.lt
    gi_wp2
    exact hK _ _ ((KeepsOthers.alloc _ _).from _) (KeepsCells.keeps (Keeps.alloc _ _ _)) ⟨⟨⟨hi.1.1.1.alloc _, hi.1.1.2.alloc _⟩, hi.1.2.alloc _⟩, hi.2.alloc (by have := hi.2.size; omega) _⟩ ⟨W.heap.size, ⟨rfl, by omega⟩, World.alloc_heap_new W _⟩
  case body =>
    rintro l pre s a' W hl _ ⟨⟨⟨hbn, hbx⟩, hbk⟩, hB⟩ ⟨blk, ⟨rfl, hne⟩, hrow⟩ hlen
    have hc0 : W.cell? ⟨blk, 0, none⟩ = some (.int .i64 s.1.1) := by simp [World.cell?, hrow]
    have hc1 : W.cell? ⟨blk, 1, none⟩ = some (.int .i64 s.1.2) := by simp [World.cell?, hrow]
    have hcn := hbn.cell
    have hfn := hbn.frozen
    have hcx := hbx.cell
    have hck := hbk.cell
    have hmx : Try.prog.follows .mixedOrders = true := by kernel_rfl
    obtain ⟨⟨a, m⟩, ham⟩ := s
    simp only at ham hc0 hc1
    have hw1 : IntKind.i64.wrap ((a : Int) + m) = (a : Int) + m := IntWalk.i64_in _ (by omega)
    have hw2 : IntKind.i64.wrap ((x : Int) + k) = (x : Int) + k := IntWalk.i64_in _ (by omega)
    gi_wp2
    refine wpIn_region_held (S := fun w' => w'.cell? ⟨blk, 0, none⟩ = some (.int .i64 a) ∧ w'.cell? ⟨blk, 1, none⟩ = some (.int .i64 m) ∧ w'.cell? ⟨z + 1, 0, none⟩ = some (.int .i64 x) ∧ w'.cell? ⟨z + 1 + 1, 0, none⟩ = some (.int .i64 k)) hmx (by kernel_rfl) ⟨hc0, hc1, hcx, hck⟩ (fun hHeld => ?_)
    refine wpAnyH_take (i := 0) (v := (.pointer (some ⟨blk, 0, none⟩))) rfl (by kernel_rfl) (by kernel_rfl) (by kernel_rfl) (fun _ _ _ h => by cases h.1) (Or.inl ⟨by rfl, ?_⟩) (by assumption) ?_
    · intro w hSw
      go_simp
    simp only [Act.put, List.getElem_toArray, List.getElem_cons_zero, List.setIfInBounds_toArray, List.set_cons_succ, List.set_cons_zero]
    refine wpAnyH_take (i := 1) (v := (.int .i64 a)) rfl (by kernel_rfl) (by kernel_rfl) (by kernel_rfl) (fun _ _ _ h => by cases h.1) (Or.inl ⟨by rfl, ?_⟩) (by assumption) ?_
    · intro w hSw
      go_simp
    simp only [Act.put, List.getElem_toArray, List.getElem_cons_succ, List.getElem_cons_zero, List.setIfInBounds_toArray, List.set_cons_succ, List.set_cons_zero]
    refine wpAnyH_take (i := 2) (v := (.int .i64 x)) rfl (by kernel_rfl) (by kernel_rfl) (by kernel_rfl) (fun _ _ _ h => by cases h.1) (Or.inl ⟨by rfl, ?_⟩) (by assumption) ?_
    · intro w hSw
      go_simp
    simp only [Act.put, List.getElem_toArray, List.getElem_cons_succ, List.getElem_cons_zero, List.setIfInBounds_toArray, List.set_cons_succ, List.set_cons_zero]
    refine wpAnyH_take (i := 4) (v := (.pointer (some ⟨blk, 0, none⟩))) rfl (by kernel_rfl) (by kernel_rfl) (by kernel_rfl) (fun _ _ _ h => by cases h.1) (Or.inl ⟨by rfl, ?_⟩) (by assumption) ?_
    · intro w hSw
      go_simp
    simp only [Act.put, List.getElem_toArray, List.getElem_cons_succ, List.getElem_cons_zero, List.setIfInBounds_toArray, List.set_cons_succ, List.set_cons_zero]
    refine wpAnyH_take (i := 5) (v := (.int .i64 a)) rfl (by kernel_rfl) (by kernel_rfl) (by kernel_rfl) (fun _ _ _ h => by cases h.1) (Or.inl ⟨by rfl, ?_⟩) (by assumption) ?_
    · intro w hSw
      go_simp
    simp only [Act.put, List.getElem_toArray, List.getElem_cons_succ, List.getElem_cons_zero, List.setIfInBounds_toArray, List.set_cons_succ, List.set_cons_zero]
    refine wpAnyH_take (i := 6) (v := (.pointer (some ⟨blk, 1, none⟩))) rfl (by kernel_rfl) (by kernel_rfl) (by kernel_rfl) (fun _ _ _ h => by cases h.1) (Or.inl ⟨by rfl, ?_⟩) (by assumption) ?_
    · intro w hSw
      go_simp
    simp only [Act.put, List.getElem_toArray, List.getElem_cons_succ, List.getElem_cons_zero, List.setIfInBounds_toArray, List.set_cons_succ, List.set_cons_zero]
    refine wpAnyH_take (i := 7) (v := (.int .i64 m)) rfl (by kernel_rfl) (by kernel_rfl) (by kernel_rfl) (fun _ _ _ h => by cases h.1) (Or.inl ⟨by rfl, ?_⟩) (by assumption) ?_
    · intro w hSw
      go_simp
    simp only [Act.put, List.getElem_toArray, List.getElem_cons_succ, List.getElem_cons_zero, List.setIfInBounds_toArray, List.set_cons_succ, List.set_cons_zero]
    refine wpAnyH_take (i := 8) (v := (.int .i64 ((a : Int) + m))) rfl (by kernel_rfl) (by kernel_rfl) (by kernel_rfl) (fun _ _ _ h => by cases h.1) (Or.inl ⟨by rfl, ?_⟩) (by assumption) ?_
    · intro w hSw
      go_simp
    simp only [Act.put, List.getElem_toArray, List.getElem_cons_succ, List.getElem_cons_zero, List.setIfInBounds_toArray, List.set_cons_succ, List.set_cons_zero]
    refine wpAnyH_take (i := 9) (v := (.int .i64 x)) rfl (by kernel_rfl) (by kernel_rfl) (by kernel_rfl) (fun _ _ _ h => by cases h.1) (Or.inl ⟨by rfl, ?_⟩) (by assumption) ?_
    · intro w hSw
      go_simp
    simp only [Act.put, List.getElem_toArray, List.getElem_cons_succ, List.getElem_cons_zero, List.setIfInBounds_toArray, List.set_cons_succ, List.set_cons_zero]
    refine wpAnyH_take (i := 10) (v := (.int .i64 k)) rfl (by kernel_rfl) (by kernel_rfl) (by kernel_rfl) (fun _ _ _ h => by cases h.1) (Or.inl ⟨by rfl, ?_⟩) (by assumption) ?_
    · intro w hSw
      go_simp
    simp only [Act.put, List.getElem_toArray, List.getElem_cons_succ, List.getElem_cons_zero, List.setIfInBounds_toArray, List.set_cons_succ, List.set_cons_zero]
    refine wpAnyH_take (i := 11) (v := (.int .i64 ((x : Int) + k))) rfl (by kernel_rfl) (by kernel_rfl) (by kernel_rfl) (fun _ _ _ h => by cases h.1) (Or.inl ⟨by rfl, ?_⟩) (by assumption) ?_
    · intro w hSw
      go_simp
    simp only [Act.put, List.getElem_toArray, List.getElem_cons_succ, List.getElem_cons_zero, List.setIfInBounds_toArray, List.set_cons_succ, List.set_cons_zero]
    refine wpAnyH_take (i := 3) (v := (.int .i64 ((max a x : Nat) : Int))) rfl (by kernel_rfl) (by kernel_rfl) (by kernel_rfl) (fun _ _ _ h => by cases h.1) (Or.inl ⟨by rfl, ?_⟩) (by assumption) ?_
    · intro w hSw
      go_simp
      split <;> omega
    simp only [Act.put, List.getElem_toArray, List.getElem_cons_succ, List.getElem_cons_zero, List.setIfInBounds_toArray, List.set_cons_succ, List.set_cons_zero]
    refine wpAnyH_take (i := 12) (v := (.int .i64 ((min (a + m) (x + k) : Nat) : Int))) rfl (by kernel_rfl) (by kernel_rfl) (by kernel_rfl) (fun _ _ _ h => by cases h.1) (Or.inl ⟨by rfl, ?_⟩) (by assumption) ?_
    · intro w hSw
      go_simp
      split <;> omega
    simp only [Act.put, List.getElem_toArray, List.getElem_cons_succ, List.getElem_cons_zero, List.setIfInBounds_toArray, List.set_cons_succ, List.set_cons_zero]
    refine wpAnyH_take (i := 13) (v := (.int .i64 ((max a x : Nat) : Int))) rfl (by kernel_rfl) (by kernel_rfl) (by kernel_rfl) (fun _ _ _ h => by cases h.1) (Or.inl ⟨by rfl, ?_⟩) (by assumption) ?_
    · intro w hSw
      go_simp
    simp only [Act.put, List.getElem_toArray, List.getElem_cons_succ, List.getElem_cons_zero, List.setIfInBounds_toArray, List.set_cons_succ, List.set_cons_zero]
    refine wpAnyH_take (i := 14) (v := (.int .i64 ((min (a + m) (x + k) : Nat) : Int))) rfl (by kernel_rfl) (by kernel_rfl) (by kernel_rfl) (fun _ _ _ h => by cases h.1) (Or.inl ⟨by rfl, ?_⟩) (by assumption) ?_
    · intro w hSw
      go_simp
    simp only [Act.put, List.getElem_toArray, List.getElem_cons_succ, List.getElem_cons_zero, List.setIfInBounds_toArray, List.set_cons_succ, List.set_cons_zero]
    refine wpAnyH_done (by kernel_rfl) (And.intro rfl ?_) _
    have hov : ovlAll x (x + k) ((pre ++ [(⟨(a, m), ham⟩ : RowS)]).map (·.1)) = ovlAll x (x + k) (pre.map (·.1)) + (min (a + m) (x + k) - max a x) := by
      rw [List.map_append, List.map_singleton, ovlAll_snoc]; rfl
    obtain ⟨lo, hlo⟩ : ∃ lo, lo = max a x := ⟨_, rfl⟩
    obtain ⟨hi, hhi⟩ : ∃ hi, hi = min (a + m) (x + k) := ⟨_, rfl⟩
    rw [← hlo, ← hhi] at hov ⊢
    have hlo' : lo ≤ 8192 := by omega
    have hhi' : hi ≤ 8192 := by omega
    have HOV := Lib.hid hov
    clear hov hlo hhi hHeld
    by_cases hst : x + k ≤ a
    · gi_wp2
      refine ⟨(KeepsOthers.drew _).from _, ⟨⟨?_, rfl, ?_⟩, hB.drew⟩⟩
      · rw [List.map_append, List.map_singleton, List.dropLast_concat]; exact hbn
      · first | exact ⟨⟨(a, m), ham⟩, by simp, hst⟩ | exact ⟨a, m, ham, by simp, hst⟩ | exact ⟨a, ⟨m, ham, by simp⟩, hst⟩ | (simp; omega)
    · by_cases hlt : lo < hi
      · have hnl := hbn.lt
        obtain ⟨ov, hovp⟩ : ∃ ov, ov = ovlAll x (x + k) (pre.map (·.1)) := ⟨_, rfl⟩
        have hovb : ov ≤ 33554432 := by
          have h1 := ovlAll_rows x (x + k) pre
          have h2 := spansP_length ls 0 0
          have h3 : pre.length < (spansP 0 0 ls).length := hlen
          have h4 : pre.length * 4096 ≤ 8192 * 4096 := Nat.mul_le_mul_right _ (by omega)
          omega
        rw [← hovp] at hbn hcn
        have HOV4 := Lib.hid (show ovlAll x (x + k) ((pre ++ [(⟨(a, m), ham⟩ : RowS)]).map (·.1)) = ov + (hi - lo) by rw [HOV.out, hovp])
        clear hovp HOV
        gi_wp2
        refine ⟨((KeepsOthers.setCell _ _ _).trans (KeepsOthers.drew _)).from _, KeepsCells.keeps ((Keeps.setCell W (S := fun q => q = z + 1 + 1 + 1) (p := ⟨z + 1 + 1 + 1, 0, none⟩) rfl _).trans ⟨rfl, rfl, rfl, Nat.le_refl _, fun _ _ _ => rfl⟩), ⟨⟨⟨?_, hbx.other (by omega) _⟩, hbk.other (by omega) _⟩, (hB.setCell (p := ⟨z + 1 + 1 + 1, 0, none⟩) (by simp; omega) _).drew⟩⟩
        rw [HOV4.out, show ((ov + (hi - lo) : Nat) : Int) = (ov : Int) + ((hi : Int) - lo) by omega]
        exact hbn.set _
      · have HOV2 : ovlAll x (x + k) ((pre ++ [(⟨(a, m), ham⟩ : RowS)]).map (·.1)) = ovlAll x (x + k) (pre.map (·.1)) := by rw [HOV.out]; omega
        have HOV3 := Lib.hid HOV2
        clear HOV2
        gi_wp2
        exact ⟨(KeepsOthers.drew _).from _, KeepsCells.keeps ⟨rfl, rfl, rfl, Nat.le_refl _, fun _ _ _ => rfl⟩, ⟨⟨⟨by rw [HOV3.out]; exact hbn, hbx⟩, hbk⟩, hB.drew⟩⟩
  case done =>
    rintro D xs W hD hxs ⟨⟨⟨hbn, _⟩, _⟩, hB⟩ hK
    have hcn := hbn.cell
    have HRES := Lib.hid (ovl_spansL x (x + k) (by omega) ls)
    gi_wp2
    show bodyPostM Fence.wide 9 Try.prog Try.f70 _ Exit.ret _ _
    refine leaves_marks (B := z) [D] _ ((Marks.nil z W).cons (by omega) (fun h => by cases h) hK) fun W' hW' => ⟨_, results_tmp rfl _ _ _, ?_, by rw [hz]; exact hB.trans hW'⟩
    exact ret_int (by rw [HRES.out])
  case stop =>
    rintro D c p W hD ⟨suf, hsuf⟩ ⟨⟨hbn, rfl, ⟨⟨a, m⟩, ham⟩, hlast, hst⟩, hB⟩ hK
    have hcn := hbn.cell
    have hres : ovlAll x (x + k) (p.dropLast.map (·.1)) = cnt x (x + k) 0 ls := by
      refine ovl_stop x (x + k) (by omega) ls _ (a, m) suf ?_ hst
      have hp : p = p.dropLast ++ [⟨(a, m), ham⟩] := by
        have hne : p ≠ [] := by rintro rfl; cases hlast
        have := List.dropLast_concat_getLast hne
        rw [List.getLast?_eq_some_getLast hne] at hlast
        injection hlast with hlast
        rw [hlast] at this
        exact this.symm
      rw [← hsuf]
      conv => rhs; rw [hp]
      simp
    have HRES := Lib.hid hres
    clear hres
    gi_wp2
    show bodyPostM Fence.wide 9 Try.prog Try.f70 _ Exit.ret _ _
    refine leaves_marks (B := z) [D] _ ((Marks.nil z W).cons (by omega) (fun h => by cases h) hK) fun W' hW' => ⟨_, results_tmp rfl _ _ _, ?_, by rw [hz]; exact hB.trans hW'⟩
    exact ret_int (by rw [← HRES.out, List.map_dropLast])

end Go.Proofs.Ytcledklajcdfiaa
