/-
  small, the chapter's memory: eight words, of which three are live; and whether two memories are the same that read so, and whether one says nothing.
  Conditions: as each has them.
-/
import Derived.Test.YthkfjgfhaicfkaaSB4
import Derived.IntWalk
import Derived.Test.YthkfjgfhaicfkaaSB3
import Derived.Test.YthkfjgfhaicfkaaSB1
/-
  memory.lives: how many of a part of the words are live; what was in memory stays.
  Conditions: the part lies within the memory.
-/
namespace Go.Proofs.Ythkfjgfhaicfkaa
open Go.RowKit Go.Shelf
attribute [local go_sem] Oper.semAt_some

set_option maxRecDepth 100000 in
theorem spans_c (v : Value) (hv : ∃ p n c, v = .slice p n c) (W : World) : Calls Try.prog 88 #[v] W fun e w' => e = .returned (.func (.func 92) #[] #[.pointer (some ⟨W.heap.size, 0, none⟩)]) ∧ w' = W.alloc (.cells #[v] 42) := by
  obtain ⟨p, n, c, rfl⟩ := hv
  go_enter Try.func88, Try.ntmps88
  go_wp2
  go_ret
  exact ⟨rfl, rfl⟩

theorem spansP_length (l : List Bool) (a n : Nat) : (spansP a n l).length ≤ l.length + 1 := by
  induction l generalizing a n with
  | nil =>
    by_cases h : n = 0
    · subst h; simp [spansP, oneRow_zero]
    · simp [spansP, oneRow_pos a h]
  | cons b t ih =>
    cases b with
    | true => have := ih a (n + 1); simp only [spansP, List.length_cons]; omega
    | false =>
      have := ih (a + n + 1) 0
      simp only [spansP, List.length_append, List.length_cons]
      by_cases h : n = 0
      · subst h; simp only [oneRow_zero, List.length_nil]; omega
      · simp only [oneRow_pos a h, List.length_singleton]; omega
theorem ovlAll_rows (x y : Nat) (pre : List RowS) : ovlAll x y (pre.map (·.1)) ≤ pre.length * 4096 := by
  induction pre with
  | nil => simp [ovlAll]
  | cons s t ih =>
    have hs := s.2
    simp only [ovlAll, List.map_cons, List.sum_cons, List.length_cons] at ih ⊢
    have : ovl x y s.1 ≤ 4096 := by simp only [ovl]; omega
    omega

set_option maxRecDepth 100000 in
set_option maxHeartbeats 4000000 in
theorem lives_c (pw : Option Addr) (nw cw b off cap : Nat) (ls : List Bool) (f : Bool) (x k : Nat) (w : World) (hmax : ls.length ≤ 4096) (hcap : ls.length ≤ cap) (hk1 : 1 ≤ k) (hxk : x + k ≤ ls.length)
    (hl : ∀ i (h : i < ls.length), w.cell? ⟨b, off + i, none⟩ = some (.bool ls[i])) :
    Calls Try.prog 75 #[.agg #[.slice pw nw cw, .slice (some ⟨b, off, none⟩) ls.length cap, .bool f], .int .i64 (x : Int), .int .i64 (k : Int)] w fun e w' => e = .returned (.int .i64 ((cnt x (x + k) 0 ls : Nat) : Int)) ∧ Below w.heap.size w w' := by
  refine (callsIn_wide (n := 9)).1 ?_
  refine callsIn_of_wp_marks Try.func75 rfl trivial ?_ rfl
  simp only [Try.ntmps75, List.size_toArray, List.length_cons, List.length_nil, Nat.reduceAdd, Nat.reduceSub, Array.replicate_succ, Array.replicate_zero, List.push_toArray, List.append_toArray, List.nil_append, List.cons_append]
  have HL := Lib.hid hl
  clear hl
  gi_wp2
  refine wpIn_scope ?_
  gi_wp2
  refine wpIn_label ?_
  gi_wp2_with fail
  refine ⟨trivial, ?_⟩
  refine (callsIn_wide.2 (spans_c _ ⟨_, _, _, rfl⟩ _)).mono ?_
  rintro e w1 ⟨rfl, hw1⟩
  have hz1 : w1.heap.size = w.heap.size + 1 + 1 + 1 + 1 + 1 := by rw [hw1]; simp
  have hB1 : Below w.heap.size w w1 := by rw [hw1]; exact (((((Below.refl _ _).alloc (Nat.le_refl _) _).alloc (by simp) _).alloc (by simp; omega) _).alloc (by simp; omega) _).alloc (by simp; omega) _
  have hn1 : Boxed w1 (w.heap.size + 1 + 1 + 1) 3 (.int .i64 0) := by
    rw [hw1]
    refine Boxed.alloc ?_ _
    have := Boxed.new (((w.alloc (.cells #[.slice pw nw cw, .slice (some ⟨b, off, none⟩) ls.length cap, .bool f] 44)).alloc (.cells #[.int .i64 x] 3)).alloc (.cells #[.int .i64 k] 3)) 3 (.int .i64 0)
    simpa using this
  have hx1 : Boxed w1 (w.heap.size + 1) 3 (.int .i64 x) := by
    rw [hw1]
    refine Boxed.alloc (Boxed.alloc (Boxed.alloc ?_ _) _) _
    have := Boxed.new (w.alloc (.cells #[.slice pw nw cw, .slice (some ⟨b, off, none⟩) ls.length cap, .bool f] 44)) 3 (.int .i64 x)
    simpa using this
  have hkb : Boxed w1 (w.heap.size + 1 + 1) 3 (.int .i64 k) := by
    rw [hw1]
    refine Boxed.alloc (Boxed.alloc ?_ _) _
    have := Boxed.new ((w.alloc (.cells #[.slice pw nw cw, .slice (some ⟨b, off, none⟩) ls.length cap, .bool f] 44)).alloc (.cells #[.int .i64 x] 3)) 3 (.int .i64 k)
    simpa using this
  have hs1 : w1.cell? ⟨w.heap.size + 1 + 1 + 1 + 1, 0, none⟩ = some (.slice (some ⟨b, off, none⟩) ls.length cap) := by
    have := (Boxed.new ((((w.alloc (.cells #[.slice pw nw cw, .slice (some ⟨b, off, none⟩) ls.length cap, .bool f] 44)).alloc (.cells #[.int .i64 x] 3)).alloc (.cells #[.int .i64 k] 3)).alloc (.cells #[.int .i64 0] 3)) 42 (.slice (some ⟨b, off, none⟩) ls.length cap)).cell
    rw [hw1]
    simpa using this
  have hl1 : ∀ i (h : i < ls.length), w1.cell? ⟨b, off + i, none⟩ = some (.bool ls[i]) := fun i h => below_cell hB1 (HL.out i h)
  have hbS : ¬ b = w.heap.size + 1 + 1 + 1 := by
    intro e
    have := World.block_lt_of_cell? w _ (HL.out 0 (by omega))
    simp only at this
    omega
  have HL1 := Lib.hid hl1
  have HHB := Lib.hid hB1
  clear hw1 hl1
  gi_wp2
  generalize hz : w.heap.size = z at *
  refine wpIn_rangeBound rfl (by omega) (gf := 92) (bd := #[]) (lb := #[.pointer (some ⟨z + 1 + 1 + 1 + 1, 0, none⟩)]) rfl trivial (enters_of Try.func92 (by kernel_rfl) rfl)
    (spans_stops 8 (by omega) (fun q => q = z + 1 + 1 + 1) (z + 1 + 1 + 1 + 1) b off cap ls w1 (by omega) hbS hmax hcap hs1 HL1.out) (fun h k => h.trans k) (fun W l o o' _ => KeepsCells.turn _ W l o o') (Below.refl _ _) (fun _ => rfl)
    (fun pre W => ((Boxed W (z + 1 + 1 + 1) 3 (.int .i64 ((ovlAll x (x + k) (pre.map (·.1)) : Nat) : Int)) ∧ Boxed W (z + 1) 3 (.int .i64 x)) ∧ Boxed W (z + 1 + 1) 3 (.int .i64 k)) ∧ Below z w W)
    (fun c p W => (Boxed W (z + 1 + 1 + 1) 3 (.int .i64 ((ovlAll x (x + k) (p.dropLast.map (·.1)) : Nat) : Int)) ∧ (c = .exit 0 ∧ ∃ s, p.getLast? = some s ∧ x + k ≤ s.1.1)) ∧ Below z w W)
    ?hI ?hIx ?h0
    (fun s a' W => ∃ blk, (a' = { tmps := #[.agg #[.slice pw nw cw, .slice (some ⟨b, off, none⟩) ls.length cap, .bool f], .int .i64 x, .int .i64 k, .pointer (some ⟨z, 0, none⟩), .pointer (some ⟨z + 1, 0, none⟩), .pointer (some ⟨z + 1 + 1, 0, none⟩), .int .i64 0, .pointer (some ⟨z + 1 + 1 + 1, 0, none⟩), .pointer (some ⟨blk, 0, none⟩), undef, undef, .pointer (some ⟨z, 1, none⟩), .slice (some ⟨b, off, none⟩) ls.length cap, .func (.func 92) #[] #[.pointer (some ⟨z + 1 + 1 + 1 + 1, 0, none⟩)], rowV s, undef, undef, undef, undef, undef, undef, undef, undef, undef, undef, undef, undef, undef, undef, undef, undef, undef, undef, undef, undef, undef, undef, undef, undef, undef, undef, undef, undef, undef, undef], defers := [] } ∧ blk ≠ z + 1 + 1 + 1) ∧ W.heap[blk]? = some (.cells #[.int .i64 s.1.1, .int .i64 s.1.2] 23 (0, 0)))
    ?hAx ?assign ?body ?done ?stop
  case hI => exact OwnFrom.and (OwnFrom.and (OwnFrom.and (Own.from (boxed_own _ _ (fun pre : List RowS => Value.int .i64 ((ovlAll x (x + k) (pre.map (·.1)) : Nat) : Int))) _) ((boxed_own _ _ _).from _)) ((boxed_own _ _ _).from _)) (ownFrom_below (Nat.le_of_eq hz.symm) (by omega))
  case hIx => exact fun c => OwnFrom.and (OwnFrom.and (Own.from (boxed_own _ _ (fun p : List RowS => Value.int .i64 ((ovlAll x (x + k) (p.dropLast.map (·.1)) : Nat) : Int))) _) (ownFrom_pure _ _)) (ownFrom_below (Nat.le_of_eq hz.symm) (by omega))
  case h0 => exact ⟨⟨⟨hn1, hx1⟩, hkb⟩, HHB.out⟩
  case hAx =>
    rintro s a' _ X Y row ⟨blk, hpure, hs⟩ hg hr
    refine ⟨blk, hpure, (hg.block blk (Array.getElem?_eq_some_iff.1 hs).1 fun e => ?_).trans hs⟩
    obtain ⟨_, o, ho, hc⟩ := hr blk e.symm
    rw [hs] at ho
    cases ho
    cases hc
  case assign =>
    intro l pre s W K hi hK
    have hlt := hi.1.1.1.lt
    gi_wp2
    exact hK _ _ ((KeepsOthers.alloc _ _).from _) (KeepsCells.keeps (Keeps.alloc _ _ _)) ⟨⟨⟨hi.1.1.1.alloc _, hi.1.1.2.alloc _⟩, hi.1.2.alloc _⟩, hi.2.alloc (by have := hi.2.size; omega) _⟩ ⟨W.heap.size, ⟨rfl, by omega⟩, World.alloc_heap_new W _⟩
  case body =>
    rintro l pre s a' W hl _ ⟨⟨⟨hbn, hbx⟩, hbk⟩, hB⟩ ⟨blk, ⟨rfl, hne⟩, hrow⟩ hlen
    have hc0 : W.cell? ⟨blk, 0, none⟩ = some (.int .i64 s.1.1) := by simp [World.cell?, hrow]
    have hc1 : W.cell? ⟨blk, 1, none⟩ = some (.int .i64 s.1.2) := by simp [World.cell?, hrow]
    have hcn := hbn.cell
    have hfn := hbn.frozen
    have hcx := hbx.cell
    have hck := hbk.cell
    have hmx : Try.prog.follows .mixedOrders = true := by kernel_rfl
    obtain ⟨⟨a, m⟩, ham⟩ := s
    simp only at ham hc0 hc1
    have hw1 : IntKind.i64.wrap ((a : Int) + m) = (a : Int) + m := IntWalk.i64_in _ (by omega)
    have hw2 : IntKind.i64.wrap ((x : Int) + k) = (x : Int) + k := IntWalk.i64_in _ (by omega)
    gi_wp2
    refine wpIn_region_held (S := fun w' => w'.cell? ⟨blk, 0, none⟩ = some (.int .i64 a) ∧ w'.cell? ⟨blk, 1, none⟩ = some (.int .i64 m) ∧ w'.cell? ⟨z + 1, 0, none⟩ = some (.int .i64 x) ∧ w'.cell? ⟨z + 1 + 1, 0, none⟩ = some (.int .i64 k)) hmx (by kernel_rfl) ⟨hc0, hc1, hcx, hck⟩ (fun hHeld => ?_)
    refine wpAnyH_take (i := 0) (v := (.pointer (some ⟨blk, 0, none⟩))) rfl (by kernel_rfl) (by kernel_rfl) (by kernel_rfl) (fun _ _ _ h => by cases h.1) (Or.inl ⟨by rfl, ?_⟩) (by assumption) ?_
    · intro w hSw
      go_simp
    simp only [Act.put, List.getElem_toArray, List.getElem_cons_zero, List.setIfInBounds_toArray, List.set_cons_succ, List.set_cons_zero]
    refine wpAnyH_take (i := 1) (v := (.int .i64 a)) rfl (by kernel_rfl) (by kernel_rfl) (by kernel_rfl) (fun _ _ _ h => by cases h.1) (Or.inl ⟨by rfl, ?_⟩) (by assumption) ?_
    · intro w hSw
      go_simp
    simp only [Act.put, List.getElem_toArray, List.getElem_cons_succ, List.getElem_cons_zero, List.setIfInBounds_toArray, List.set_cons_succ, List.set_cons_zero]
    refine wpAnyH_take (i := 2) (v := (.int .i64 x)) rfl (by kernel_rfl) (by kernel_rfl) (by kernel_rfl) (fun _ _ _ h => by cases h.1) (Or.inl ⟨by rfl, ?_⟩) (by assumption) ?_
    · intro w hSw
      go_simp
    simp only [Act.put, List.getElem_toArray, List.getElem_cons_succ, List.getElem_cons_zero, List.setIfInBounds_toArray, List.set_cons_succ, List.set_cons_zero]
    refine wpAnyH_take (i := 4) (v := (.pointer (some ⟨blk, 0, none⟩))) rfl (by kernel_rfl) (by kernel_rfl) (by kernel_rfl) (fun _ _ _ h => by cases h.1) (Or.inl ⟨by rfl, ?_⟩) (by assumption) ?_
    · intro w hSw
      go_simp
    simp only [Act.put, List.getElem_toArray, List.getElem_cons_succ, List.getElem_cons_zero, List.setIfInBounds_toArray, List.set_cons_succ, List.set_cons_zero]
    refine wpAnyH_take (i := 5) (v := (.int .i64 a)) rfl (by kernel_rfl) (by kernel_rfl) (by kernel_rfl) (fun _ _ _ h => by cases h.1) (Or.inl ⟨by rfl, ?_⟩) (by assumption) ?_
    · intro w hSw
      go_simp
    simp only [Act.put, List.getElem_toArray, List.getElem_cons_succ, List.getElem_cons_zero, List.setIfInBounds_toArray, List.set_cons_succ, List.set_cons_zero]
    refine wpAnyH_take (i := 6) (v := (.pointer (some ⟨blk, 1, none⟩))) rfl (by kernel_rfl) (by kernel_rfl) (by kernel_rfl) (fun _ _ _ h => by cases h.1) (Or.inl ⟨by rfl, ?_⟩) (by assumption) ?_
    · intro w hSw
      go_simp
    simp only [Act.put, List.getElem_toArray, List.getElem_cons_succ, List.getElem_cons_zero, List.setIfInBounds_toArray, List.set_cons_succ, List.set_cons_zero]
    refine wpAnyH_take (i := 7) (v := (.int .i64 m)) rfl (by kernel_rfl) (by kernel_rfl) (by kernel_rfl) (fun _ _ _ h => by cases h.1) (Or.inl ⟨by rfl, ?_⟩) (by assumption) ?_
    · intro w hSw
      go_simp
    simp only [Act.put, List.getElem_toArray, List.getElem_cons_succ, List.getElem_cons_zero, List.setIfInBounds_toArray, List.set_cons_succ, List.set_cons_zero]
    refine wpAnyH_take (i := 8) (v := (.int .i64 ((a : Int) + m))) rfl (by kernel_rfl) (by kernel_rfl) (by kernel_rfl) (fun _ _ _ h => by cases h.1) (Or.inl ⟨by rfl, ?_⟩) (by assumption) ?_
    · intro w hSw
      go_simp
    simp only [Act.put, List.getElem_toArray, List.getElem_cons_succ, List.getElem_cons_zero, List.setIfInBounds_toArray, List.set_cons_succ, List.set_cons_zero]
    refine wpAnyH_take (i := 9) (v := (.int .i64 x)) rfl (by kernel_rfl) (by kernel_rfl) (by kernel_rfl) (fun _ _ _ h => by cases h.1) (Or.inl ⟨by rfl, ?_⟩) (by assumption) ?_
    · intro w hSw
      go_simp
    simp only [Act.put, List.getElem_toArray, List.getElem_cons_succ, List.getElem_cons_zero, List.setIfInBounds_toArray, List.set_cons_succ, List.set_cons_zero]
    refine wpAnyH_take (i := 10) (v := (.int .i64 k)) rfl (by kernel_rfl) (by kernel_rfl) (by kernel_rfl) (fun _ _ _ h => by cases h.1) (Or.inl ⟨by rfl, ?_⟩) (by assumption) ?_
    · intro w hSw
      go_simp
    simp only [Act.put, List.getElem_toArray, List.getElem_cons_succ, List.getElem_cons_zero, List.setIfInBounds_toArray, List.set_cons_succ, List.set_cons_zero]
    refine wpAnyH_take (i := 11) (v := (.int .i64 ((x : Int) + k))) rfl (by kernel_rfl) (by kernel_rfl) (by kernel_rfl) (fun _ _ _ h => by cases h.1) (Or.inl ⟨by rfl, ?_⟩) (by assumption) ?_
    · intro w hSw
      go_simp
    simp only [Act.put, List.getElem_toArray, List.getElem_cons_succ, List.getElem_cons_zero, List.setIfInBounds_toArray, List.set_cons_succ, List.set_cons_zero]
    refine wpAnyH_take (i := 3) (v := (.int .i64 ((max a x : Nat) : Int))) rfl (by kernel_rfl) (by kernel_rfl) (by kernel_rfl) (fun _ _ _ h => by cases h.1) (Or.inl ⟨by rfl, ?_⟩) (by assumption) ?_
    · intro w hSw
      go_simp
      split <;> omega
    simp only [Act.put, List.getElem_toArray, List.getElem_cons_succ, List.getElem_cons_zero, List.setIfInBounds_toArray, List.set_cons_succ, List.set_cons_zero]
    refine wpAnyH_take (i := 12) (v := (.int .i64 ((min (a + m) (x + k) : Nat) : Int))) rfl (by kernel_rfl) (by kernel_rfl) (by kernel_rfl) (fun _ _ _ h => by cases h.1) (Or.inl ⟨by rfl, ?_⟩) (by assumption) ?_
    · intro w hSw
      go_simp
      split <;> omega
    simp only [Act.put, List.getElem_toArray, List.getElem_cons_succ, List.getElem_cons_zero, List.setIfInBounds_toArray, List.set_cons_succ, List.set_cons_zero]
    refine wpAnyH_take (i := 13) (v := (.int .i64 ((max a x : Nat) : Int))) rfl (by kernel_rfl) (by kernel_rfl) (by kernel_rfl) (fun _ _ _ h => by cases h.1) (Or.inl ⟨by rfl, ?_⟩) (by assumption) ?_
    · intro w hSw
      go_simp
    simp only [Act.put, List.getElem_toArray, List.getElem_cons_succ, List.getElem_cons_zero, List.setIfInBounds_toArray, List.set_cons_succ, List.set_cons_zero]
    refine wpAnyH_take (i := 14) (v := (.int .i64 ((min (a + m) (x + k) : Nat) : Int))) rfl (by kernel_rfl) (by kernel_rfl) (by kernel_rfl) (fun _ _ _ h => by cases h.1) (Or.inl ⟨by rfl, ?_⟩) (by assumption) ?_
    · intro w hSw
      go_simp
    simp only [Act.put, List.getElem_toArray, List.getElem_cons_succ, List.getElem_cons_zero, List.setIfInBounds_toArray, List.set_cons_succ, List.set_cons_zero]
    refine wpAnyH_done (by kernel_rfl) (And.intro rfl ?_) _
    have hov : ovlAll x (x + k) ((pre ++ [(⟨(a, m), ham⟩ : RowS)]).map (·.1)) = ovlAll x (x + k) (pre.map (·.1)) + (min (a + m) (x + k) - max a x) := by
      rw [List.map_append, List.map_singleton, ovlAll_snoc]; rfl
    obtain ⟨lo, hlo⟩ : ∃ lo, lo = max a x := ⟨_, rfl⟩
    obtain ⟨hi, hhi⟩ : ∃ hi, hi = min (a + m) (x + k) := ⟨_, rfl⟩
    rw [← hlo, ← hhi] at hov ⊢
    have hlo' : lo ≤ 8192 := by omega
    have hhi' : hi ≤ 8192 := by omega
    have HOV := Lib.hid hov
    clear hov hlo hhi hHeld
    by_cases hst : x + k ≤ a
    · gi_wp2
      refine ⟨(KeepsOthers.drew _).from _, ⟨⟨?_, rfl, ?_⟩, hB.drew⟩⟩
      · rw [List.map_append, List.map_singleton, List.dropLast_concat]; exact hbn
      · first | exact ⟨⟨(a, m), ham⟩, by simp, hst⟩ | exact ⟨a, m, ham, by simp, hst⟩ | exact ⟨a, ⟨m, ham, by simp⟩, hst⟩ | (simp; omega)
    · by_cases hlt : lo < hi
      · have hnl := hbn.lt
        obtain ⟨ov, hovp⟩ : ∃ ov, ov = ovlAll x (x + k) (pre.map (·.1)) := ⟨_, rfl⟩
        have hovb : ov ≤ 33554432 := by
          have h1 := ovlAll_rows x (x + k) pre
          have h2 := spansP_length ls 0 0
          have h3 : pre.length < (spansP 0 0 ls).length := hlen
          have h4 : pre.length * 4096 ≤ 8192 * 4096 := Nat.mul_le_mul_right _ (by omega)
          omega
        rw [← hovp] at hbn hcn
        have HOV4 := Lib.hid (show ovlAll x (x + k) ((pre ++ [(⟨(a, m), ham⟩ : RowS)]).map (·.1)) = ov + (hi - lo) by rw [HOV.out, hovp])
        clear hovp HOV
        gi_wp2
        refine ⟨((KeepsOthers.setCell _ _ _).trans (KeepsOthers.drew _)).from _, KeepsCells.keeps ((Keeps.setCell W (S := fun q => q = z + 1 + 1 + 1) (p := ⟨z + 1 + 1 + 1, 0, none⟩) rfl _).trans ⟨rfl, rfl, rfl, Nat.le_refl _, fun _ _ _ => rfl⟩), ⟨⟨⟨?_, hbx.other (by omega) _⟩, hbk.other (by omega) _⟩, (hB.setCell (p := ⟨z + 1 + 1 + 1, 0, none⟩) (by simp; omega) _).drew⟩⟩
        rw [HOV4.out, show ((ov + (hi - lo) : Nat) : Int) = (ov : Int) + ((hi : Int) - lo) by omega]
        exact hbn.set _
      · have HOV2 : ovlAll x (x + k) ((pre ++ [(⟨(a, m), ham⟩ : RowS)]).map (·.1)) = ovlAll x (x + k) (pre.map (·.1)) := by rw [HOV.out]; omega
        have HOV3 := Lib.hid HOV2
        clear HOV2
        gi_wp2
        exact ⟨(KeepsOthers.drew _).from _, KeepsCells.keeps ⟨rfl, rfl, rfl, Nat.le_refl _, fun _ _ _ => rfl⟩, ⟨⟨⟨by rw [HOV3.out]; exact hbn, hbx⟩, hbk⟩, hB.drew⟩⟩
  case done =>
    rintro D xs W hD hxs ⟨⟨⟨hbn, _⟩, _⟩, hB⟩ hK
    have hcn := hbn.cell
    have HRES := Lib.hid (ovl_spansL x (x + k) (by omega) ls)
    gi_wp2
    show bodyPostM Fence.wide 9 Try.prog Try.f75 _ Exit.ret _ _
    refine leaves_marks (B := z) [D] _ ((Marks.nil z W).cons (by omega) (fun h => by cases h) hK) fun W' hW' => ⟨_, results_tmp rfl _ _ _, ?_, by rw [hz]; exact hB.trans hW'⟩
    exact ret_int (by rw [HRES.out])
  case stop =>
    rintro D c p W hD ⟨suf, hsuf⟩ ⟨⟨hbn, rfl, ⟨⟨a, m⟩, ham⟩, hlast, hst⟩, hB⟩ hK
    have hcn := hbn.cell
    have hres : ovlAll x (x + k) (p.dropLast.map (·.1)) = cnt x (x + k) 0 ls := by
      refine ovl_stop x (x + k) (by omega) ls _ (a, m) suf ?_ hst
      have hp : p = p.dropLast ++ [⟨(a, m), ham⟩] := by
        have hne : p ≠ [] := by rintro rfl; cases hlast
        have := List.dropLast_concat_getLast hne
        rw [List.getLast?_eq_some_getLast hne] at hlast
        injection hlast with hlast
        rw [hlast] at this
        exact this.symm
      rw [← hsuf]
      conv => rhs; rw [hp]
      simp
    have HRES := Lib.hid hres
    clear hres
    gi_wp2
    show bodyPostM Fence.wide 9 Try.prog Try.f75 _ Exit.ret _ _
    refine leaves_marks (B := z) [D] _ ((Marks.nil z W).cons (by omega) (fun h => by cases h) hK) fun W' hW' => ⟨_, results_tmp rfl _ _ _, ?_, by rw [hz]; exact hB.trans hW'⟩
    exact ret_int (by rw [← HRES.out, List.map_dropLast])

end Go.Proofs.Ythkfjgfhaicfkaa
/-
  memory.Live: an error, or the memory in memory of its own with some words live; what was in memory stays.
  Conditions: the memory reads as these lists.
-/
namespace Go.Proofs.Ythkfjgfhaicfkaa
open Go.RowKit Go.Shelf

set_option maxRecDepth 100000 in
set_option maxHeartbeats 4000000 in
theorem live_no (v : Value) (ws : List Int) (ls : List Bool) (f : Bool) (a k : Int) (W : World) (hv : MemAt W v ws ls f) (hcap0 : ∀ x y p n c, v = .agg #[x, .slice p n c, y] → n ≤ c) (hw : ws.length ≤ 9223372036854775807) (hk2 : k ≤ 9223372036854775807) (c : Int)
    (hc : (rightB ws ls = false ∧ c = 120) ∨ (rightB ws ls = true ∧ thereB ws.length a k = false ∧ c = 2) ∨ (rightB ws ls = true ∧ thereB ws.length a k = true ∧ cnt a.toNat (a.toNat + k.toNat) 0 ls ≠ 0 ∧ c = 5)) :
    Calls Try.prog 60 #[v, .int .i64 a, .int .i64 k] W fun e w' => e = .returned (.tuple #[memZ, .int .i64 c]) ∧ Below W.heap.size W w' := by
  have hm := hv
  obtain ⟨vw, vl, rfl, ⟨pw, cw, rfl, hcw⟩, pl, cl, rfl, hcl⟩ := hv
  have hcap := hcap0 _ _ _ _ _ rfl
  clear hcap0
  have HM := Lib.hid hm
  have HCL := Lib.hid hcl
  clear hm hcw hcl
  obtain ⟨z, hz⟩ : ∃ z, z = W.heap.size := ⟨_, rfl⟩
  obtain ⟨wo, hwo⟩ : ∃ wo : World, wo = (W.alloc (.cells #[.slice pw ws.length cw, .slice pl ls.length cl, .bool f] 44)).alloc (.cells #[.slice none 0 0, .slice none 0 0, .bool false] 44) := ⟨_, rfl⟩
  have hZ : MBox wo z (.slice pw ws.length cw) (.slice pl ls.length cl) f := by rw [hwo, hz]; exact (MBox.new _ _ _ _).alloc _
  have hR : MBox wo (z + 1) (.slice none 0 0) (.slice none 0 0) false := by
    have := MBox.new (W.alloc (.cells #[.slice pw ws.length cw, .slice pl ls.length cl, .bool f] 44)) (.slice none 0 0) (.slice none 0 0) false
    rw [World.size_alloc] at this
    rw [hwo, hz]; exact this
  have hB : Below W.heap.size W wo := by rw [hwo]; exact ((Below.refl _ _).alloc (Nat.le_refl _) _).alloc (by simp) _
  have hsz : z + 2 ≤ wo.heap.size := by rw [hwo, hz]; simp
  have HZ := Lib.hid hZ
  have HR := Lib.hid hR
  clear hZ hR
  go_enter Try.func60, Try.ntmps60
  go_wp2_with fail
  rw [← hwo, ← hz]
  have hzW : W.heap.size ≤ z := Nat.le_of_eq hz.symm
  clear hwo hz
  refine (check_c _ ws ls f _ (HM.out.below hB) hw).mono ?_
  rintro e w1 ⟨rfl, hb1⟩
  have HZ1 := Lib.hid (HZ.out.below hb1)
  have HR1 := Lib.hid (HR.out.below hb1)
  have hB1 := below_then hB hB.size hb1
  have hsz1 := Nat.le_trans hsz hb1.size
  clear hb1 HZ HR hB hsz
  rcases hc with ⟨hr, rfl⟩ | ⟨hr, ht, rfl⟩ | ⟨hr, ht, hc, rfl⟩
  · rw [chkM_no hr]
    obtain ⟨⟨hr0, hr1, hr2⟩, hs0, hs1, hs2⟩ := mbox_cells HR1.out
    have hBe := ((hB1.setCell (p := ⟨z + 1, 0, none⟩) (by simp; omega) (.slice none 0 0)).setCell (p := ⟨z + 1, 1, none⟩) (by simp; omega) (.slice none 0 0)).setCell (p := ⟨z + 1, 2, none⟩) (by simp; omega) (.bool false)
    go_wp2
    exact bodyPost_ret (v := .tuple #[memZ, .int .i64 120]) (by simp [results, Try.results60, go_sem, hr0, hr1, hr2, memZ]) rfl ⟨rfl, hBe⟩
  · rw [chkM_yes hr]
    obtain ⟨⟨hd0, hd1, hd2⟩, _⟩ := mbox_cells HZ1.out
    go_wp2_with fail
    refine (there_c _ ws.length cw _ f a k hk2 hw _).mono ?_
    rintro e w2 ⟨rfl, hb2⟩
    have HZ2 := Lib.hid (HZ1.out.below hb2)
    have HR2 := Lib.hid (HR1.out.below hb2)
    have hB2 := below_then hB1 hB1.size hb2
    have hsz2 := Nat.le_trans hsz1 hb2.size
    clear hb2 hB1 hsz1 HR1 HZ1 hd0 hd1 hd2
    rw [ht]
    obtain ⟨⟨hr0, hr1, hr2⟩, hs0, hs1, hs2⟩ := mbox_cells HR2.out
    have hBe := ((hB2.setCell (p := ⟨z + 1, 0, none⟩) (by simp; omega) (.slice none 0 0)).setCell (p := ⟨z + 1, 1, none⟩) (by simp; omega) (.slice none 0 0)).setCell (p := ⟨z + 1, 2, none⟩) (by simp; omega) (.bool false)
    go_wp2
    exact bodyPost_ret (v := .tuple #[memZ, .int .i64 2]) (by simp [results, Try.results60, go_sem, hr0, hr1, hr2, memZ]) rfl ⟨rfl, hBe⟩
  · rw [chkM_yes hr]
    obtain ⟨⟨hd0, hd1, hd2⟩, _⟩ := mbox_cells HZ1.out
    go_wp2_with fail
    refine (there_c _ ws.length cw _ f a k hk2 hw _).mono ?_
    rintro e w2 ⟨rfl, hb2⟩
    have HZ2 := Lib.hid (HZ1.out.below hb2)
    have HR2 := Lib.hid (HR1.out.below hb2)
    have hB2 := below_then hB1 hB1.size hb2
    have hsz2 := Nat.le_trans hsz1 hb2.size
    clear hb2 hB1 hsz1 HR1 HZ1 hd0 hd1 hd2
    rw [ht]
    obtain ⟨t1, t2, t3⟩ := thereB_iff.1 ht
    obtain ⟨a, rfl⟩ := Int.eq_ofNat_of_zero_le t2
    obtain ⟨k, rfl⟩ := Int.eq_ofNat_of_zero_le (show 0 ≤ k by omega)
    obtain ⟨hn1, hn2, hlen, hmay⟩ := rightB_iff.1 hr
    clear hmay
    simp only [Int.toNat_natCast] at hc ⊢
    obtain ⟨bl, ol, rfl, hcs⟩ := HCL.out (by intro e; rw [e] at hlen; simp at hlen; omega)
    have HCS := Lib.hid hcs
    have HLEN := Lib.hid hlen
    clear hcs hlen HCL
    obtain ⟨⟨hd0, hd1, hd2⟩, _⟩ := mbox_cells HZ2.out
    go_wp2_with fail
    refine (lives_c pw ws.length cw bl ol cl ls f a k _ (by rw [HLEN.out]; omega) hcap (by omega) (by rw [HLEN.out]; omega) (fun i h => below_cell hB2 (HCS.out i h))).mono ?_
    rintro e w3 ⟨rfl, hb3⟩
    have HZ3 := Lib.hid (HZ2.out.below hb3)
    have HR3 := Lib.hid (HR2.out.below hb3)
    have hB3 := below_then hB2 hB2.size hb3
    have hsz3 := Nat.le_trans hsz2 hb3.size
    clear hb3 hB2 hsz2 HR2 HZ2 hd0 hd1 hd2
    obtain ⟨q, hq⟩ : ∃ q, q = cnt a (a + k) 0 ls := ⟨_, rfl⟩
    rw [← hq] at hc ⊢
    clear hq
    have hq1 : (0 : Int) < q := by omega
    obtain ⟨⟨hr0, hr1, hr2⟩, hs0, hs1, hs2⟩ := mbox_cells HR3.out
    have hBe := ((hB3.setCell (p := ⟨z + 1, 0, none⟩) (by simp; omega) (.slice none 0 0)).setCell (p := ⟨z + 1, 1, none⟩) (by simp; omega) (.slice none 0 0)).setCell (p := ⟨z + 1, 2, none⟩) (by simp; omega) (.bool false)
    go_wp2
    exact bodyPost_ret (v := .tuple #[memZ, .int .i64 5]) (by simp [results, Try.results60, go_sem, hr0, hr1, hr2, memZ]) rfl ⟨rfl, hBe⟩

/-- What such a call hands over. -/
def LiveOk (B : Nat) (ws : List Int) (ls : List Bool) (f : Bool) (e : Ending) (w' : World) : Prop :=
  ∃ v', e = .returned (.tuple #[v', .int .i64 0]) ∧ OwnsMem w' B v' ws ls f

set_option maxRecDepth 100000 in
set_option maxHeartbeats 4000000 in
theorem live_yes (v : Value) (ws : List Int) (ls : List Bool) (f : Bool) (a k : Int) (W : World) (hv : MemAt W v ws ls f) (hcap0 : ∀ x y p n c, v = .agg #[x, .slice p n c, y] → n ≤ c) (hw : ws.length ≤ 9223372036854775807) (hk2 : k ≤ 9223372036854775807)
    (hr : rightB ws ls = true) (ht : thereB ws.length a k = true) (hc : cnt a.toNat (a.toNat + k.toNat) 0 ls = 0) :
    Calls Try.prog 60 #[v, .int .i64 a, .int .i64 k] W fun e w' => LiveOk W.heap.size (fill ws a.toNat 0 k.toNat) (fill ls a.toNat true k.toNat) f e w' ∧ Below W.heap.size W w' := by
  have hm := hv
  obtain ⟨vw, vl, rfl, ⟨pw, cw, rfl, hcw⟩, pl, cl, rfl, hcl⟩ := hv
  have hcap := hcap0 _ _ _ _ _ rfl
  clear hcap0
  have HM := Lib.hid hm
  have HCL := Lib.hid hcl
  clear hm hcw hcl
  obtain ⟨z, hz⟩ : ∃ z, z = W.heap.size := ⟨_, rfl⟩
  obtain ⟨wo, hwo⟩ : ∃ wo : World, wo = (W.alloc (.cells #[.slice pw ws.length cw, .slice pl ls.length cl, .bool f] 44)).alloc (.cells #[.slice none 0 0, .slice none 0 0, .bool false] 44) := ⟨_, rfl⟩
  have hZ : MBox wo z (.slice pw ws.length cw) (.slice pl ls.length cl) f := by rw [hwo, hz]; exact (MBox.new _ _ _ _).alloc _
  have hR : MBox wo (z + 1) (.slice none 0 0) (.slice none 0 0) false := by
    have := MBox.new (W.alloc (.cells #[.slice pw ws.length cw, .slice pl ls.length cl, .bool f] 44)) (.slice none 0 0) (.slice none 0 0) false
    rw [World.size_alloc] at this
    rw [hwo, hz]; exact this
  have hB : Below W.heap.size W wo := by rw [hwo]; exact ((Below.refl _ _).alloc (Nat.le_refl _) _).alloc (by simp) _
  have hsz : z + 2 ≤ wo.heap.size := by rw [hwo, hz]; simp
  have HZ := Lib.hid hZ
  have HR := Lib.hid hR
  clear hZ hR
  go_enter Try.func60, Try.ntmps60
  go_wp2_with fail
  rw [← hwo, ← hz]
  have hzW : W.heap.size ≤ z := Nat.le_of_eq hz.symm
  clear hwo hz
  refine (check_c _ ws ls f _ (HM.out.below hB) hw).mono ?_
  rintro e w1 ⟨rfl, hb1⟩
  have HZ1 := Lib.hid (HZ.out.below hb1)
  have HR1 := Lib.hid (HR.out.below hb1)
  have hB1 := below_then hB hB.size hb1
  have hsz1 := Nat.le_trans hsz hb1.size
  clear hb1 HZ HR hB hsz
  rw [chkM_yes hr]
  obtain ⟨⟨hd0, hd1, hd2⟩, _⟩ := mbox_cells HZ1.out
  go_wp2_with fail
  refine (there_c _ ws.length cw _ f a k hk2 hw _).mono ?_
  rintro e w2 ⟨rfl, hb2⟩
  have HZ2 := Lib.hid (HZ1.out.below hb2)
  have HR2 := Lib.hid (HR1.out.below hb2)
  have hB2 := below_then hB1 hB1.size hb2
  have hsz2 := Nat.le_trans hsz1 hb2.size
  clear hb2 hB1 hsz1 HR1 HZ1 hd0 hd1 hd2
  rw [ht]
  obtain ⟨t1, t2, t3⟩ := thereB_iff.1 ht
  obtain ⟨a, rfl⟩ := Int.eq_ofNat_of_zero_le t2
  obtain ⟨k, rfl⟩ := Int.eq_ofNat_of_zero_le (show 0 ≤ k by omega)
  obtain ⟨hn1, hn2, hlen, hmay⟩ := rightB_iff.1 hr
  clear hmay
  simp only [Int.toNat_natCast] at hc ⊢
  obtain ⟨bl, ol, rfl, hcs⟩ := HCL.out (by intro e; rw [e] at hlen; simp at hlen; omega)
  have HCS := Lib.hid hcs
  have HLEN := Lib.hid hlen
  clear hcs hlen HCL
  obtain ⟨⟨hd0, hd1, hd2⟩, _⟩ := mbox_cells HZ2.out
  go_wp2_with fail
  refine (lives_c pw ws.length cw bl ol cl ls f a k _ (by rw [HLEN.out]; omega) hcap (by omega) (by rw [HLEN.out]; omega) (fun i h => below_cell hB2 (HCS.out i h))).mono ?_
  rintro e w3 ⟨rfl, hb3⟩
  have HZ3 := Lib.hid (HZ2.out.below hb3)
  have HR3 := Lib.hid (HR2.out.below hb3)
  have hB3 := below_then hB2 hB2.size hb3
  have hsz3 := Nat.le_trans hsz2 hb3.size
  clear hb3 hB2 hsz2 HR2 HZ2 hd0 hd1 hd2
  obtain ⟨q, hq⟩ : ∃ q, q = cnt a (a + k) 0 ls := ⟨_, rfl⟩
  rw [← hq] at hc ⊢
  clear hq
  subst hc
  obtain ⟨⟨hd0, hd1, hd2⟩, _⟩ := mbox_cells HZ3.out
  go_wp2_with fail
  refine (turn_c _ ws ls f a k true 0 _ (HM.out.below hB3) hn1 hn2 HLEN.out (by omega) (by omega)).mono ?_
  rintro e w4 ⟨⟨_, rfl, vw2, vl2, rfl, how, hol⟩, hb4⟩
  obtain ⟨gw, cw2, rfl, hgw, _⟩ := own_form how (by rw [fill_length]; omega)
  obtain ⟨gl, cl2, rfl, hgl, _⟩ := own_form hol (by rw [fill_length, HLEN.out]; omega)
  obtain ⟨⟨hr0, hr1, hr2⟩, hs0, hs1, hs2⟩ := mbox_cells (HR3.out.below hb4)
  have hB4 := below_then hB3 hB3.size hb4
  have hkr : Keeps (· = z + 1) w4 (((w4.setCell ⟨z + 1, 0, none⟩ (.slice (some ⟨gw, 0, none⟩) (fill ws a 0 k).length cw2)).setCell ⟨z + 1, 1, none⟩ (.slice (some ⟨gl, 0, none⟩) (fill ls a true k).length cl2)).setCell ⟨z + 1, 2, none⟩ (.bool f)) :=
    ((Keeps.setCell w4 (S := (· = z + 1)) (p := ⟨z + 1, 0, none⟩) rfl _).trans (Keeps.setCell _ (S := (· = z + 1)) (p := ⟨z + 1, 1, none⟩) rfl _)).trans (Keeps.setCell _ (S := (· = z + 1)) (p := ⟨z + 1, 2, none⟩) rfl _)
  have ho1 := (hkr.row how (by intro g hg; simp [Value.ownBlock] at hg; omega)).mono (base' := W.heap.size) hB3.size
  have ho2 := (hkr.row hol (by intro g hg; simp [Value.ownBlock] at hg; omega)).mono (base' := W.heap.size) hB3.size
  have hBe := hB4.trans (hkr.below hB4.size (by intro q hq; omega))
  clear hkr how hol hb4 hd0 hd1 hd2
  go_wp2
  exact bodyPost_ret (v := .tuple #[.agg #[.slice (some ⟨gw, 0, none⟩) (fill ws a 0 k).length cw2, .slice (some ⟨gl, 0, none⟩) (fill ls a true k).length cl2, .bool f], .int .i64 0]) (by simp [results, Try.results60, go_sem, hr0, hr1, hr2]) rfl ⟨⟨_, rfl, _, _, rfl, ho1, ho2⟩, hBe⟩

end Go.Proofs.Ythkfjgfhaicfkaa
/-
  Which reads and writes may be: CheckRead, CheckWrite, and the document's answers.
  Conditions: the ranges of Go's types.
-/
namespace Go.Proofs.Ythkfjgfhaicfkaa
open Go.RowKit Go.Shelf
attribute [local go_sem] Oper.semAt_some

theorem below1 (W : World) (o1 : Obj) : Below W.heap.size W (W.alloc o1) := (Below.refl _ _).alloc (Nat.le_refl _) _
theorem below2 (W : World) (o1 o2 : Obj) : Below W.heap.size W ((W.alloc o1).alloc o2) := (below1 W o1).alloc (by simp) _
theorem below3 (W : World) (o1 o2 o3 : Obj) : Below W.heap.size W (((W.alloc o1).alloc o2).alloc o3) := (below2 W o1 o2).alloc (by simp; omega) _
theorem below4 (W : World) (o1 o2 o3 o4 : Obj) : Below W.heap.size W ((((W.alloc o1).alloc o2).alloc o3).alloc o4) := (below3 W o1 o2 o3).alloc (by simp; omega) _

/-- A read: the counter's place, the words', how many, the phase, what the counter was, how often it began anew; and how many values it has. -/
structure RdM where
  a : Int
  f : Int
  m : Int
  p : Int
  b : Int
  t : Int
/-- A write: the counter's place, the words', the phase, what the counter was, how many are written. -/
structure WrM where
  a : Int
  f : Int
  p : Int
  b : Int
  w : Int
def rdV (s : RdM) (v : Value) : Value := .agg #[.int .i64 s.a, .int .i64 s.f, .int .i64 s.m, .int .i64 s.p, .int .u64 s.b, v, .int .i64 s.t]
def wrV (s : WrM) (v : Value) : Value := .agg #[.int .i64 s.a, .int .i64 s.f, v, .int .i64 s.p, .int .u64 s.b, .int .i64 s.w]
/-- The counter is none of the words. -/
def apartB (a f m : Int) : Bool := decide (0 ≤ a) && decide (a ≤ 4096) && decide (0 ≤ f) && decide (f ≤ 4096) && (decide (a < f) || decide (f + m ≤ a))
def fitsRB (p t m : Int) (n : Nat) : Bool :=
  if p = 0 then (if t = 0 then decide (n = 0) else decide ((n : Int) = m)) else if p = 2 then decide ((n : Int) < m) else if p = 3 ∨ p = 4 then decide ((n : Int) = m) else if p = 5 then decide ((n : Int) ≤ m) else false
def fitsWB (p w : Int) (n : Nat) : Bool :=
  if p = 0 ∨ p = 1 then decide (w = 0) else if p = 2 then decide (0 ≤ w) && decide (w < (n : Int)) else if p = 3 ∨ p = 4 then decide (w = (n : Int)) else if p = 5 then decide (0 ≤ w) && decide (w ≤ (n : Int)) else false
def rightRB (s : RdM) (n : Nat) : Bool := decide (0 ≤ s.m) && decide (s.m ≤ 16) && apartB s.a s.f s.m && decide (s.b % 2 = 0) && decide (0 ≤ s.t) && decide (s.t ≤ 1073741824) && fitsRB s.p s.t s.m n
def rightWB (s : WrM) (n : Nat) : Bool := decide (1 ≤ n) && decide (n ≤ 16) && apartB s.a s.f (n : Int) && decide (s.b % 2 = 0) && fitsWB s.p s.w n
theorem ret_b {b c : Bool} (h : b = c) : Ending.returned (.bool b) = Ending.returned (.bool c) := by rw [h]

set_option maxRecDepth 100000 in
set_option maxHeartbeats 4000000 in
theorem odd_c (c : Int) (hc : 0 ≤ c ∧ c ≤ 18446744073709551615) (W : World) : Calls Try.prog 43 #[.int .u64 c] W fun e w' => e = .returned (.bool (!decide (c % 2 = 0))) ∧ Below W.heap.size W w' := by
  obtain ⟨h0, h1⟩ := hc
  by_cases h : c % 2 = 0
  · have hz : (c % 2 != 0) = false := by rw [h]; rfl
    have hr : (!decide (c % 2 = 0)) = false := by simp [h]
    rw [hr]
    clear h hr
    go_enter Try.func43, Try.ntmps43
    go_wp2
    go_ret
    exact ⟨rfl, by first | exact Below.refl _ _ | exact below1 _ _ | exact below2 _ _ _ | exact below3 _ _ _ _ | exact below4 _ _ _ _ _⟩
  · have hz : (c % 2 != 0) = true := by rw [bne_iff_ne]; exact h
    have hr : (!decide (c % 2 = 0)) = true := by simp [h]
    rw [hr]
    clear h hr
    go_enter Try.func43, Try.ntmps43
    go_wp2
    go_ret
    exact ⟨rfl, by first | exact Below.refl _ _ | exact below1 _ _ | exact below2 _ _ _ | exact below3 _ _ _ _ | exact below4 _ _ _ _ _⟩

set_option maxRecDepth 100000 in
set_option maxHeartbeats 4000000 in
theorem apart_c (a f m : Int) (hm : 0 ≤ m ∧ m ≤ 1000) (W : World) : Calls Try.prog 42 #[.int .i64 a, .int .i64 f, .int .i64 m] W fun e w' => e = .returned (.bool (apartB a f m)) ∧ Below W.heap.size W w' := by
  have hc : (a < 0 ∧ (apartB a f m) = false) ∨ (0 ≤ a ∧ 4096 < a ∧ (apartB a f m) = false) ∨ (0 ≤ a ∧ a ≤ 4096 ∧ f < 0 ∧ (apartB a f m) = false) ∨ (0 ≤ a ∧ a ≤ 4096 ∧ 0 ≤ f ∧ 4096 < f ∧ (apartB a f m) = false) ∨ (0 ≤ a ∧ a ≤ 4096 ∧ 0 ≤ f ∧ f ≤ 4096 ∧ a < f ∧ (apartB a f m) = true) ∨ (0 ≤ a ∧ a ≤ 4096 ∧ 0 ≤ f ∧ f ≤ 4096 ∧ f ≤ a ∧ f + m ≤ a ∧ (apartB a f m) = true) ∨ (0 ≤ a ∧ a ≤ 4096 ∧ 0 ≤ f ∧ f ≤ 4096 ∧ f ≤ a ∧ a < f + m ∧ (apartB a f m) = false) := by
    unfold apartB
    simp only [Bool.and_eq_true, Bool.or_eq_true, decide_eq_true_eq, Bool.and_eq_false_iff, Bool.or_eq_false_iff, decide_eq_false_iff_not]
    omega
  obtain ⟨hm0, hm1⟩ := hm
  rcases hc with ⟨h0, hr⟩ | ⟨h0, h1, hr⟩ | ⟨h0, h1, h2, hr⟩ | ⟨h0, h1, h2, h3, hr⟩ | ⟨h0, h1, h2, h3, h4, hr⟩ | ⟨h0, h1, h2, h3, h4, h5, hr⟩ | ⟨h0, h1, h2, h3, h4, h5, hr⟩
  all_goals
    rw [hr]
    clear hr
    go_enter Try.func42, Try.ntmps42
    go_wp2
    go_ret
    exact ⟨by first | rfl | exact ret_b (by simp; omega), by first | exact Below.refl _ _ | exact below1 _ _ | exact below2 _ _ _ | exact below3 _ _ _ _ | exact below4 _ _ _ _ _⟩

set_option maxRecDepth 100000 in
set_option maxHeartbeats 4000000 in
theorem words_c (a f m : Int) (hm : 0 ≤ m) (W : World) : Calls Try.prog 40 #[.int .i64 a, .int .i64 f, .int .i64 m] W fun e w' => e = .returned (.bool (decide (m ≤ 16) && apartB a f m)) ∧ Below W.heap.size W w' := by
  have hc : (a < 0 ∧ (decide (m ≤ 16) && apartB a f m) = false) ∨ (0 ≤ a ∧ 4096 < a ∧ (decide (m ≤ 16) && apartB a f m) = false) ∨ (0 ≤ a ∧ a ≤ 4096 ∧ f < 0 ∧ (decide (m ≤ 16) && apartB a f m) = false) ∨ (0 ≤ a ∧ a ≤ 4096 ∧ 0 ≤ f ∧ 4096 < f ∧ (decide (m ≤ 16) && apartB a f m) = false) ∨ (0 ≤ a ∧ a ≤ 4096 ∧ 0 ≤ f ∧ f ≤ 4096 ∧ 16 < m ∧ (decide (m ≤ 16) && apartB a f m) = false) ∨ (0 ≤ a ∧ a ≤ 4096 ∧ 0 ≤ f ∧ f ≤ 4096 ∧ m ≤ 16 ∧ a < f ∧ (decide (m ≤ 16) && apartB a f m) = true) ∨ (0 ≤ a ∧ a ≤ 4096 ∧ 0 ≤ f ∧ f ≤ 4096 ∧ m ≤ 16 ∧ f ≤ a ∧ f + m ≤ a ∧ (decide (m ≤ 16) && apartB a f m) = true) ∨ (0 ≤ a ∧ a ≤ 4096 ∧ 0 ≤ f ∧ f ≤ 4096 ∧ m ≤ 16 ∧ f ≤ a ∧ a < f + m ∧ (decide (m ≤ 16) && apartB a f m) = false) := by
    unfold apartB
    simp only [Bool.and_eq_true, Bool.or_eq_true, decide_eq_true_eq, Bool.and_eq_false_iff, Bool.or_eq_false_iff, decide_eq_false_iff_not]
    omega
  rcases hc with ⟨h0, hr⟩ | ⟨h0, h1, hr⟩ | ⟨h0, h1, h2, hr⟩ | ⟨h0, h1, h2, h3, hr⟩ | ⟨h0, h1, h2, h3, h4, hr⟩ | ⟨h0, h1, h2, h3, h4, h5, hr⟩ | ⟨h0, h1, h2, h3, h4, h5, h6, hr⟩ | ⟨h0, h1, h2, h3, h4, h5, h6, hr⟩
  all_goals
    rw [hr]
    clear hr
    go_enter Try.func40, Try.ntmps40
    go_wp2
    go_ret
    exact ⟨by first | rfl | exact ret_b (by simp; omega), by first | exact Below.refl _ _ | exact below1 _ _ | exact below2 _ _ _ | exact below3 _ _ _ _ | exact below4 _ _ _ _ _⟩

end Go.Proofs.Ythkfjgfhaicfkaa
/-
  memory.Step: what one access comes to; what was in memory stays.
  Conditions: the memory reads as these lists.
-/
namespace Go.Proofs.Ythkfjgfhaicfkaa
open Go.RowKit Go.Shelf

/-- What Step hands over. -/
def StepOk (B : Nat) (ls : List Bool) (r : List Int × Bool × (Int × Bool)) (e : Ending) (w' : World) : Prop :=
  ∃ gw cw gl cl, e = .returned (.tuple #[.agg #[.slice (some ⟨gw, 0, none⟩) r.1.length cw, .slice (some ⟨gl, 0, none⟩) ls.length cl, .bool r.2.1], .agg #[.int .u64 r.2.2.1, .bool r.2.2.2], .int .i64 0]) ∧
  w'.ownsRow B 27 1 (.slice (some ⟨gw, 0, none⟩) r.1.length cw) r.1.length (r.1.map (Value.int .u64)) ∧ w'.ownsRow B 4 1 (.slice (some ⟨gl, 0, none⟩) ls.length cl) ls.length (ls.map Value.bool)

theorem accs_one (W : World) (b : Nat) (k a o n : Int) (h0 : W.cell? ⟨b, 0, none⟩ = some (.int .i64 k)) (h1 : W.cell? ⟨b, 1, none⟩ = some (.int .i64 a)) (h2 : W.cell? ⟨b, 2, none⟩ = some (.int .u64 o)) (h3 : W.cell? ⟨b, 3, none⟩ = some (.int .u64 n)) :
    AccsAt W (.slice (some ⟨b, 0, none⟩) 1 1) [⟨k, a, o, n⟩] := by
  refine ⟨_, _, rfl, fun _ => ⟨b, 0, rfl, fun i hi => ?_⟩⟩
  have : i = 0 := by simp at hi; omega
  subst this
  exact ⟨h0, h1, h2, h3⟩

/-- Block z is a variable that holds an answer. -/
def GBox (W : World) (z : Nat) (x : Int) (d : Bool) : Prop := W.heap[z]? = some (.cells #[.int .u64 x, .bool d] 120 (0, 0))
theorem gbox_cells {W : World} {z : Nat} {x : Int} {d : Bool} (h : GBox W z x d) : (W.cell? ⟨z, 0, none⟩ = some (.int .u64 x) ∧ W.cell? ⟨z, 1, none⟩ = some (.bool d)) ∧ W.frozen? ⟨z, 0, none⟩ = false ∧ W.frozen? ⟨z, 1, none⟩ = false := by
  have h' : W.heap[z]? = _ := h
  simp [World.cell?, World.frozen?, h']
theorem GBox.lt {W : World} {z : Nat} {x : Int} {d : Bool} (h : GBox W z x d) : z < W.heap.size := (Array.getElem?_eq_some_iff.1 h).1
theorem GBox.below {W W' : World} {z : Nat} {x : Int} {d : Bool} (h : GBox W z x d) (hk : Below W.heap.size W W') : GBox W' z x d := (hk.block z h.lt).trans h
theorem GBox.keeps {S : Nat → Prop} {W W' : World} {z : Nat} {x : Int} {d : Bool} (h : GBox W z x d) (hk : Keeps S W W') (hz : ¬ S z) : GBox W' z x d := (hk.block z h.lt hz).trans h
theorem GBox.alloc {W : World} {z : Nat} {x : Int} {d : Bool} (h : GBox W z x d) (o : Obj) : GBox (W.alloc o) z x d := h.keeps (Keeps.alloc (fun _ => False) W o) (fun h => h)

set_option maxRecDepth 100000 in
set_option maxHeartbeats 4000000 in
theorem step_no (v : Value) (k a o n : Int) (ws : List Int) (ls : List Bool) (f : Bool) (W : World) (hv : MemAt W v ws ls f) (hw : ws.length ≤ 9223372036854775807) (c : Int) (hc : (rightB ws ls = false ∧ c = 120) ∨ (rightB ws ls = true ∧ kindB k = false ∧ c = 121)) :
    Calls Try.prog 64 #[v, .agg #[.int .i64 k, .int .i64 a, .int .u64 o, .int .u64 n]] W fun e w' => e = .returned (.tuple #[memZ, .agg #[.int .u64 0, .bool false], .int .i64 c]) ∧ Below W.heap.size W w' := by
  have hm := hv
  obtain ⟨vw, vl, rfl, ⟨pw, cw, rfl, hcw⟩, pl, cl, rfl, hcl⟩ := hv
  have HRUN : ∀ (W' : World) (b : Nat), Below W.heap.size W W' → AccsAt W' (.slice (some ⟨b, 0, none⟩) 1 1) [⟨k, a, o, n⟩] → Calls Try.prog 62 #[.agg #[.slice pw ws.length cw, .slice pl ls.length cl, .bool f], .slice (some ⟨b, 0, none⟩) 1 1] W' fun e w' => e = .returned (.tuple #[.agg #[.slice none 0 0, .slice none 0 0, .bool false], .slice none 0 0, .int .i64 c]) ∧ Below W'.heap.size W' w' := by
    intro W' b hb ha
    rcases hc with ⟨hr, rfl⟩ | ⟨hr, hk, rfl⟩
    · exact run_bad _ _ ws ls f W' (hm.below hb) hw hr ⟨_, _, _, rfl⟩
    · exact run_kind _ _ ws ls f [⟨k, a, o, n⟩] W' (hm.below hb) hw hr ha (by simp) (by simp [kindAll, hk])
  have hcne : (c != 0) = true := by rcases hc with ⟨_, rfl⟩ | ⟨_, _, rfl⟩ <;> decide
  clear hm hcw hcl hc
  obtain ⟨z, hz⟩ : ∃ z, z = W.heap.size := ⟨_, rfl⟩
  obtain ⟨wo, hwo⟩ : ∃ wo : World, wo = ((((W.alloc (.cells #[.slice pw ws.length cw, .slice pl ls.length cl, .bool f] 44)).alloc (.cells #[.int .i64 k, .int .i64 a, .int .u64 o, .int .u64 n] 118)).alloc (.cells #[.slice none 0 0, .slice none 0 0, .bool false] 44)).alloc (.cells #[.int .u64 0, .bool false] 120)).alloc (.cells #[.int .i64 k, .int .i64 a, .int .u64 o, .int .u64 n] 118) := ⟨_, rfl⟩
  have hB : Below W.heap.size W wo := by rw [hwo]; exact (((((Below.refl _ _).alloc (Nat.le_refl _) _).alloc (by simp) _).alloc (by simp; omega) _).alloc (by simp; omega) _).alloc (by simp; omega) _
  have HZ := Lib.hid (show MBox wo z (.slice pw ws.length cw) (.slice pl ls.length cl) f by rw [hwo, hz]; exact ((((MBox.new _ _ _ _).alloc _).alloc _).alloc _).alloc _)
  have HR := Lib.hid (show MBox wo (z + 1 + 1) (.slice none 0 0) (.slice none 0 0) false by
    have := MBox.new ((W.alloc (.cells #[.slice pw ws.length cw, .slice pl ls.length cl, .bool f] 44)).alloc (.cells #[.int .i64 k, .int .i64 a, .int .u64 o, .int .u64 n] 118)) (.slice none 0 0) (.slice none 0 0) false
    rw [World.size_alloc, World.size_alloc] at this
    rw [hwo, hz]; exact (this.alloc _).alloc _)
  have HG := Lib.hid (show GBox wo (z + 1 + 1 + 1) 0 false by
    have : GBox ((((W.alloc (.cells #[.slice pw ws.length cw, .slice pl ls.length cl, .bool f] 44)).alloc (.cells #[.int .i64 k, .int .i64 a, .int .u64 o, .int .u64 n] 118)).alloc (.cells #[.slice none 0 0, .slice none 0 0, .bool false] 44)).alloc (.cells #[.int .u64 0, .bool false] 120)) _ 0 false := World.alloc_heap_new _ _
    rw [World.size_alloc, World.size_alloc, World.size_alloc] at this
    rw [hwo, hz]; exact this.alloc _)
  have hA : AccsAt wo (.slice (some ⟨z + 1 + 1 + 1 + 1, 0, none⟩) 1 1) [⟨k, a, o, n⟩] := by
    have h : wo.heap[z + 1 + 1 + 1 + 1]? = some (.cells #[.int .i64 k, .int .i64 a, .int .u64 o, .int .u64 n] 118 (0, 0)) := by
      have := World.alloc_heap_new ((((W.alloc (.cells #[.slice pw ws.length cw, .slice pl ls.length cl, .bool f] 44)).alloc (.cells #[.int .i64 k, .int .i64 a, .int .u64 o, .int .u64 n] 118)).alloc (.cells #[.slice none 0 0, .slice none 0 0, .bool false] 44)).alloc (.cells #[.int .u64 0, .bool false] 120)) (.cells #[.int .i64 k, .int .i64 a, .int .u64 o, .int .u64 n] 118)
      rw [World.size_alloc, World.size_alloc, World.size_alloc, World.size_alloc] at this
      rw [hwo, hz]; exact this
    refine accs_one wo _ k a o n ?_ ?_ ?_ ?_ <;> simp [World.cell?, h]
  have hsz : z + 1 + 1 + 1 + 1 < wo.heap.size := by rw [hwo, hz]; simp
  go_enter Try.func64, Try.ntmps64
  go_wp2_with fail
  rw [← hwo, ← hz]
  have hzW : W.heap.size ≤ z := Nat.le_of_eq hz.symm
  clear hwo hz
  refine (HRUN _ _ hB hA).mono ?_
  rintro e w1 ⟨rfl, hb1⟩
  obtain ⟨⟨hd0, hd1, hd2⟩, he0, he1, he2⟩ := mbox_cells (HZ.out.below hb1)
  obtain ⟨⟨hr0, hr1, hr2⟩, hs0, hs1, hs2⟩ := mbox_cells (HR.out.below hb1)
  obtain ⟨⟨hg0, hg1⟩, hf0, hf1⟩ := gbox_cells (HG.out.below hb1)
  have hB1 := below_then hB hB.size hb1
  have hBZ := ((hB1.setCell (p := ⟨z, 0, none⟩) hzW (.slice none 0 0)).setCell (p := ⟨z, 1, none⟩) hzW (.slice none 0 0)).setCell (p := ⟨z, 2, none⟩) hzW (.bool false)
  have hBR := ((hBZ.setCell (p := ⟨z + 1 + 1, 0, none⟩) (by simp; omega) (.slice none 0 0)).setCell (p := ⟨z + 1 + 1, 1, none⟩) (by simp; omega) (.slice none 0 0)).setCell (p := ⟨z + 1 + 1, 2, none⟩) (by simp; omega) (.bool false)
  have hBG := (hBR.setCell (p := ⟨z + 1 + 1 + 1, 0, none⟩) (by simp; omega) (.int .u64 0)).setCell (p := ⟨z + 1 + 1 + 1, 1, none⟩) (by simp; omega) (.bool false)
  clear hb1 hB1 hBZ hBR hB hA HRUN
  go_wp2
  exact bodyPost_ret (v := .tuple #[memZ, .agg #[.int .u64 0, .bool false], .int .i64 c]) (by simp [results, Try.results64, go_sem, hr0, hr1, hr2, hg0, hg1, memZ]) rfl ⟨rfl, hBG⟩

set_option maxRecDepth 100000 in
set_option maxHeartbeats 4000000 in
theorem step_yes (v : Value) (k a o n : Int) (ws : List Int) (ls : List Bool) (f : Bool) (W : World) (hv : MemAt W v ws ls f) (hr : rightB ws ls = true) (hkd : kindB k = true) :
    Calls Try.prog 64 #[v, .agg #[.int .i64 k, .int .i64 a, .int .u64 o, .int .u64 n]] W fun e w' => StepOk W.heap.size ls (accM ws ls f k a o n) e w' ∧ Below W.heap.size W w' := by
  have hm := hv
  obtain ⟨hn1, _, hlen, _⟩ := rightB_iff.1 hr
  obtain ⟨vw, vl, rfl, ⟨pw, cw, rfl, hcw⟩, pl, cl, rfl, hcl⟩ := hv
  obtain ⟨r, hrr⟩ : ∃ r, r = accM ws ls f k a o n := ⟨_, rfl⟩
  have hrl : r.1.length = ws.length := by rw [hrr, accM_length]
  have hrs : runS ls ws f [⟨k, a, o, n⟩] = (r.1, r.2.1, [r.2.2]) := by rw [hrr]; rfl
  have HRUN : ∀ (W' : World) (b : Nat), Below W.heap.size W W' → AccsAt W' (.slice (some ⟨b, 0, none⟩) 1 1) [⟨k, a, o, n⟩] → Calls Try.prog 62 #[.agg #[.slice pw ws.length cw, .slice pl ls.length cl, .bool f], .slice (some ⟨b, 0, none⟩) 1 1] W' fun e w' => RunOk W'.heap.size ls (r.1, r.2.1, [r.2.2]) e w' ∧ Below W'.heap.size W' w' := by
    intro W' b hb ha
    rw [← hrs]
    exact run_yes _ _ ws ls f [⟨k, a, o, n⟩] W' (hm.below hb) hr ha (by simp) (by simp [kindAll, hkd])
  rw [← hrr]
  have HRL := Lib.hid hrl
  have HLEN := Lib.hid hlen
  clear hm hcw hcl hrr hrs hrl hlen
  obtain ⟨z, hz⟩ : ∃ z, z = W.heap.size := ⟨_, rfl⟩
  obtain ⟨wo, hwo⟩ : ∃ wo : World, wo = ((((W.alloc (.cells #[.slice pw ws.length cw, .slice pl ls.length cl, .bool f] 44)).alloc (.cells #[.int .i64 k, .int .i64 a, .int .u64 o, .int .u64 n] 118)).alloc (.cells #[.slice none 0 0, .slice none 0 0, .bool false] 44)).alloc (.cells #[.int .u64 0, .bool false] 120)).alloc (.cells #[.int .i64 k, .int .i64 a, .int .u64 o, .int .u64 n] 118) := ⟨_, rfl⟩
  have hB : Below W.heap.size W wo := by rw [hwo]; exact (((((Below.refl _ _).alloc (Nat.le_refl _) _).alloc (by simp) _).alloc (by simp; omega) _).alloc (by simp; omega) _).alloc (by simp; omega) _
  have HZ := Lib.hid (show MBox wo z (.slice pw ws.length cw) (.slice pl ls.length cl) f by rw [hwo, hz]; exact ((((MBox.new _ _ _ _).alloc _).alloc _).alloc _).alloc _)
  have HR := Lib.hid (show MBox wo (z + 1 + 1) (.slice none 0 0) (.slice none 0 0) false by
    have := MBox.new ((W.alloc (.cells #[.slice pw ws.length cw, .slice pl ls.length cl, .bool f] 44)).alloc (.cells #[.int .i64 k, .int .i64 a, .int .u64 o, .int .u64 n] 118)) (.slice none 0 0) (.slice none 0 0) false
    rw [World.size_alloc, World.size_alloc] at this
    rw [hwo, hz]; exact (this.alloc _).alloc _)
  have HG := Lib.hid (show GBox wo (z + 1 + 1 + 1) 0 false by
    have : GBox ((((W.alloc (.cells #[.slice pw ws.length cw, .slice pl ls.length cl, .bool f] 44)).alloc (.cells #[.int .i64 k, .int .i64 a, .int .u64 o, .int .u64 n] 118)).alloc (.cells #[.slice none 0 0, .slice none 0 0, .bool false] 44)).alloc (.cells #[.int .u64 0, .bool false] 120)) _ 0 false := World.alloc_heap_new _ _
    rw [World.size_alloc, World.size_alloc, World.size_alloc] at this
    rw [hwo, hz]; exact this.alloc _)
  have hA : AccsAt wo (.slice (some ⟨z + 1 + 1 + 1 + 1, 0, none⟩) 1 1) [⟨k, a, o, n⟩] := by
    have h : wo.heap[z + 1 + 1 + 1 + 1]? = some (.cells #[.int .i64 k, .int .i64 a, .int .u64 o, .int .u64 n] 118 (0, 0)) := by
      have := World.alloc_heap_new ((((W.alloc (.cells #[.slice pw ws.length cw, .slice pl ls.length cl, .bool f] 44)).alloc (.cells #[.int .i64 k, .int .i64 a, .int .u64 o, .int .u64 n] 118)).alloc (.cells #[.slice none 0 0, .slice none 0 0, .bool false] 44)).alloc (.cells #[.int .u64 0, .bool false] 120)) (.cells #[.int .i64 k, .int .i64 a, .int .u64 o, .int .u64 n] 118)
      rw [World.size_alloc, World.size_alloc, World.size_alloc, World.size_alloc] at this
      rw [hwo, hz]; exact this
    refine accs_one wo _ k a o n ?_ ?_ ?_ ?_ <;> simp [World.cell?, h]
  have hsz : z + 1 + 1 + 1 + 1 < wo.heap.size := by rw [hwo, hz]; simp
  go_enter Try.func64, Try.ntmps64
  go_wp2_with fail
  rw [← hwo, ← hz]
  have hzW : W.heap.size ≤ z := Nat.le_of_eq hz.symm
  clear hwo hz
  refine (HRUN _ _ hB hA).mono ?_
  rintro e w1 ⟨⟨gw, cw2, gl, cl2, vg, rfl, how, hol, hog⟩, hb1⟩
  obtain ⟨y, d, hyd⟩ : ∃ y d, r.2.2 = (y, d) := ⟨_, _, rfl⟩
  obtain ⟨gg, cg, rfl, hgg, _⟩ := own_form hog (by simp)
  simp only [hyd] at hog how ⊢
  have HYD := Lib.hid hyd
  have hgn : wo.heap.size ≤ gg := hgg
  have hwn : wo.heap.size ≤ gw := by
    rcases how.2 with ⟨h', _⟩ | ⟨g, c, cur, h', hb, _⟩
    · cases h'
    · injection h' with e1 _ _; injection e1 with e1; injection e1 with e1 _ _; omega
  have hln : wo.heap.size ≤ gl := by
    rcases hol.2 with ⟨h', _⟩ | ⟨g, c, cur, h', hb, _⟩
    · cases h'
    · injection h' with e1 _ _; injection e1 with e1; injection e1 with e1 _ _; omega
  have hy0 := hog.cellAt 0 (by simp)
  have hy1 := hog.cellAt 1 (by simp)
  simp only [flatG, List.getElem?_cons_zero, List.getElem?_cons_succ] at hy0 hy1
  obtain ⟨⟨hd0, hd1, hd2⟩, he0, he1, he2⟩ := mbox_cells (HZ.out.below hb1)
  obtain ⟨⟨hr0, hr1, hr2⟩, hs0, hs1, hs2⟩ := mbox_cells (HR.out.below hb1)
  obtain ⟨⟨hg0, hg1⟩, hf0, hf1⟩ := gbox_cells (HG.out.below hb1)
  have hB1 := below_then hB hB.size hb1
  have hsz1 : z + 1 + 1 + 1 + 1 < w1.heap.size := by have := hsz; have := hb1.size; omega
  have HOW := Lib.hid how
  have HOL := Lib.hid hol
  have HZ1 := Lib.hid (HZ.out.below hb1)
  have HR1 := Lib.hid (HR.out.below hb1)
  have HG1 := Lib.hid (HG.out.below hb1)
  clear hb1 hB hA HRUN how hol hog hyd HZ HR HG hr0 hr1 hr2 hs0 hs1 hs2 hg0 hg1 hf0 hf1
  go_upto_region 4 with fail
  obtain ⟨w2, hw2⟩ : ∃ w2 : World, w2 = ((w1.setCell ⟨z, 0, none⟩ (.slice (some ⟨gw, 0, none⟩) r.1.length cw2)).setCell ⟨z, 1, none⟩ (.slice (some ⟨gl, 0, none⟩) ls.length cl2)).setCell ⟨z, 2, none⟩ (.bool r.2.1) := ⟨_, rfl⟩
  rw [← hw2]
  have hkz : Keeps (· = z) w1 w2 := by
    rw [hw2]
    exact ((Keeps.setCell w1 (S := (· = z)) (p := ⟨z, 0, none⟩) rfl _).trans (Keeps.setCell _ (S := (· = z)) (p := ⟨z, 1, none⟩) rfl _)).trans (Keeps.setCell _ (S := (· = z)) (p := ⟨z, 2, none⟩) rfl _)
  obtain ⟨⟨hm0, hm1, hm2⟩, _⟩ := mbox_cells (show MBox w2 z (.slice (some ⟨gw, 0, none⟩) r.1.length cw2) (.slice (some ⟨gl, 0, none⟩) ls.length cl2) r.2.1 by rw [hw2]; exact HZ1.out.set _ _ _)
  obtain ⟨⟨hr0, hr1, hr2⟩, hs0, hs1, hs2⟩ := mbox_cells (HR1.out.keeps hkz (by omega))
  obtain ⟨⟨hg0, hg1⟩, hf0, hf1⟩ := gbox_cells (HG1.out.keeps hkz (by omega))
  have hzg : gg ≠ z := by omega
  replace hy0 := hkz.cell hy0 hzg
  replace hy1 := hkz.cell hy1 hzg
  have HOW2 := Lib.hid (hkz.row HOW.out (by intro g hg; simp [Value.ownBlock] at hg; omega))
  have HOL2 := Lib.hid (hkz.row HOL.out (by intro g hg; simp [Value.ownBlock] at hg; omega))
  have hB2 : Below W.heap.size W w2 := hB1.trans (hkz.below hB1.size (fun q hq => by omega))
  have hkr : ∀ x, x = w2 ∨ x = w2.drew → Keeps (fun q => q = z + 1 + 1 ∨ q = z + 1 + 1 + 1) w2 (((((x.setCell ⟨z + 1 + 1, 0, none⟩ (.slice (some ⟨gw, 0, none⟩) r.1.length cw2)).setCell ⟨z + 1 + 1, 1, none⟩ (.slice (some ⟨gl, 0, none⟩) ls.length cl2)).setCell ⟨z + 1 + 1, 2, none⟩ (.bool r.2.1)).setCell ⟨z + 1 + 1 + 1, 0, none⟩ (.int .u64 y)).setCell ⟨z + 1 + 1 + 1, 1, none⟩ (.bool d)) := by
    intro x hx
    have hx0 : Keeps (fun q => q = z + 1 + 1 ∨ q = z + 1 + 1 + 1) w2 x := by rcases hx with rfl | rfl <;> exact ⟨rfl, rfl, rfl, Nat.le_refl _, fun _ _ _ => rfl⟩
    exact ((((hx0.trans (Keeps.setCell _ (p := ⟨z + 1 + 1, 0, none⟩) (.inl rfl) _)).trans (Keeps.setCell _ (p := ⟨z + 1 + 1, 1, none⟩) (.inl rfl) _)).trans (Keeps.setCell _ (p := ⟨z + 1 + 1, 2, none⟩) (.inl rfl) _)).trans (Keeps.setCell _ (p := ⟨z + 1 + 1 + 1, 0, none⟩) (.inr rfl) _)).trans (Keeps.setCell _ (p := ⟨z + 1 + 1 + 1, 1, none⟩) (.inr rfl) _)
  have HKR := Lib.hid hkr
  clear hw2 hkz HZ1 HR1 HG1 HOW HOL hB1 hd0 hd1 hd2 he0 he1 he2 hkr
  go_region
  all_goals go_wp2
  have hk := HKR.out w2 (.inl rfl)
  have ho1 := hk.row HOW2.out (by intro g hg; simp [Value.ownBlock] at hg; omega)
  have ho2 := hk.row HOL2.out (by intro g hg; simp [Value.ownBlock] at hg; omega)
  have hBe := hB2.trans (hk.below hB2.size (fun q hq => by omega))
  refine bodyPost_ret (v := .tuple #[.agg #[.slice (some ⟨gw, 0, none⟩) r.1.length cw2, .slice (some ⟨gl, 0, none⟩) ls.length cl2, .bool r.2.1], .agg #[.int .u64 y, .bool d], .int .i64 0]) (by simp [results, Try.results64, go_sem, hr0, hr1, hr2, hg0, hg1]) rfl ⟨⟨gw, cw2, gl, cl2, by rw [HYD.out], (ho1.mono (by omega)).drew, (ho2.mono (by omega)).drew⟩, hBe.drew⟩

end Go.Proofs.Ythkfjgfhaicfkaa
namespace Go.Proofs.Ythkfjgfhaicfkaa
open Go.RowKit Go.Shelf

/-- The chapter's memory. -/
def smallW : List Int := [0, 0, 0, 0, 0, 0, 0, 0]
def smallL : List Bool := [false, false, true, true, true, false, false, false]
def SmallOk (B : Nat) (e : Ending) (w' : World) : Prop :=
  ∃ gw cw gl cl, e = .returned (.tuple #[.agg #[.slice (some ⟨gw, 0, none⟩) 8 cw, .slice (some ⟨gl, 0, none⟩) 8 cl, .bool false], .bool true]) ∧
  w'.ownsRow B 27 1 (.slice (some ⟨gw, 0, none⟩) 8 cw) 8 (smallW.map (Value.int .u64)) ∧ w'.ownsRow B 4 1 (.slice (some ⟨gl, 0, none⟩) 8 cl) 8 (smallL.map Value.bool)

end Go.Proofs.Ythkfjgfhaicfkaa
